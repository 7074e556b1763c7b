/-
  distinct and Check, of any value in memory.
  Print, of any value in memory.
  Whether a value is small enough: bounded.
-/
import Derived.Test.YtgcpgieojckheaaGreatDoorMgLP
namespace Go.Proofs.YtgcpgieojckheaaGreatDoor.Json
open Go.RowKit Go.Shelf

theorem distinct_deep : ∀ (n : Nat) (j : J), deepJ j ≤ n → bigJ j → longJ j → ∀ (W : World) (cs : List Value), JAt AnyB W j cs → Calls Tryz.prog 67 #[.agg cs.toArray] W fun e w' => e = .returned (.bool (distG j)) ∧ Below W.heap.size W w'
  | 0, .mk k t ns ls, hd, _, _, _, _, _ => by unfold deepJ at hd; omega
  | n + 1, .mk k t ns ls, hd, hbig, hlong, W, cs, hj => by
    obtain ⟨pc, cc, pd, cd, vs, rfl, h1, h2, h3⟩ := hj.form
    unfold bigJ at hbig
    unfold longJ at hlong
    refine distinct_one k t ns ls W pc cc pd cd vs hlong.2.1 hlong.2.2.1 (by omega) h1 h2 h3 (Lib.hid fun i x hi w cs hjx => distinct_deep n x ?_ (bigsJ_at ls i x hbig.2.2 hi) (longsJ_at ls i x hlong.2.2.2 hi) w cs hjx)
    have := deepJ_at ls i x hi
    unfold deepJ at hd; omega
/-- What Check says. -/
def checkG (j : J) : Int := if sizeG j ≠ 0 then (sizeG j : Int) else if formG j = false then 4 else if distG j = false then 6 else 0
set_option maxHeartbeats 4000000 in
set_option maxRecDepth 100000 in
theorem check_any (j : J) (hbig : bigJ j) (hlong : longJ j) (W : World) (cs : List Value) (hT : TabsJ W) (h8 : 8 ≤ W.heap.size) (hj : JAt AnyB W j cs) :
    Calls Tryz.prog 36 #[.agg cs.toArray] W fun e w' => e = .returned (.int .i64 (checkG j)) ∧ Below W.heap.size W w' := by
  obtain ⟨R, hR⟩ : ∃ R, checkG j = R := ⟨_, rfl⟩
  rw [hR]
  have hF : R = if sizeG j ≠ 0 then (sizeG j : Int) else if formG j = false then 4 else if distG j = false then 6 else 0 := by rw [← hR, checkG]
  have HSZ := Lib.hid (fun (w : World) (cs : List Value) (h : JAt AnyB w j cs) => size_any j hbig w cs h)
  have HFO := Lib.hid (fun (w : World) (cs : List Value) (hT : TabsJ w) (h8 : 8 ≤ w.heap.size) (h : JAt AnyB w j cs) => formed_deep (deepJ j) j (Nat.le_refl _) hbig hlong w cs hT h8 h)
  have HDI := Lib.hid (fun (w : World) (cs : List Value) (h : JAt AnyB w j cs) => distinct_deep (deepJ j) j (Nat.le_refl _) hbig hlong w cs h)
  obtain ⟨va, vb, vc, vd, rfl⟩ := hj.four
  obtain ⟨kd, tx, pc, nc, cc, pe, ne, ce, rfl, rfl, rfl, rfl⟩ := jat_four hj
  obtain ⟨K, hK⟩ : ∃ K : Int, (kd : Int) = K := ⟨_, rfl⟩
  rw [hK] at hj ⊢
  obtain ⟨C, hC⟩ : ∃ C : Array Value, ([.int .u8 K, .string tx, .slice pc nc cc, .slice pe ne ce] : List Value).toArray = C := ⟨_, rfl⟩
  have hC2 : C = #[.int .u8 K, .string tx, .slice pc nc cc, .slice pe ne ce] := hC.symm
  rw [hC, hC2]
  obtain ⟨w1, hw1⟩ : ∃ w1, W.alloc (.cells #[.int .u8 K, .string tx, .slice pc nc cc, .slice pe ne ce] 47) = w1 := ⟨_, rfl⟩
  have hp1 : w1.heap[W.heap.size]? = some (.cells #[.int .u8 K, .string tx, .slice pc nc cc, .slice pe ne ce] 47 (0, 0)) := by rw [← hw1]; exact World.alloc_heap_new W _
  have hb1 : Below W.heap.size W w1 := by rw [← hw1]; exact galloc (Below.refl _ _) _
  have hsz := HSZ.out w1 _ (hj.below hb1)
  rw [hC, hC2] at hsz
  have HBX := Lib.hid hp1
  have HB1 := Lib.hid hb1
  have HT := Lib.hid hT
  have H8 := Lib.hid h8
  have HJ := Lib.hid hj
  have HC := Lib.hid hC
  obtain ⟨d0, d1, d2, d3⟩ : w1.cell? ⟨W.heap.size, 0, none⟩ = some (.int .u8 K) ∧ w1.cell? ⟨W.heap.size, 1, none⟩ = some (.string tx) ∧ w1.cell? ⟨W.heap.size, 2, none⟩ = some (.slice pc nc cc) ∧ w1.cell? ⟨W.heap.size, 3, none⟩ = some (.slice pe ne ce) :=
    ⟨by rw [cellH hp1]; rfl, by rw [cellH hp1]; rfl, by rw [cellH hp1]; rfl, by rw [cellH hp1]; rfl⟩
  generalize sizeG j = sz at *
  generalize formG j = fo at *
  generalize distG j = di at *
  have HF := Lib.hid hF
  have HC2 := Lib.hid hC2
  clear hF hR hbig hlong hT h8 hj hp1 hb1 hK hC hC2
  by_cases h0 : sz = 0
  · subst h0
    have HF2 : Hid (R = if fo = false then 4 else if di = false then 6 else 0) := Lib.hid (by rw [HF.out]; simp)
    rw [show ((0 : Nat) : Int) = 0 from rfl] at hsz
    clear HF
    go_enter Tryz.func36, Tryz.ntmps36
    go_wp2_with fail
    refine hsz.mono ?_
    rintro e w2 ⟨rfl, hb2⟩
    have HB2 : Hid (Below W.heap.size W w2) := Lib.hid (gcall HB1.out hb2)
    have HX2 : Hid (w2.heap[W.heap.size]? = some (.cells #[.int .u8 K, .string tx, .slice pc nc cc, .slice pe ne ce] 47 (0, 0))) := Lib.hid ((hb2.block _ (Array.getElem?_eq_some_iff.1 HBX.out).1).trans HBX.out)
    have hfo := HFO.out w2 _ (HT.out.below HB2.out H8.out) (Nat.le_trans H8.out HB2.out.size) (HJ.out.below HB2.out)
    rw [HC.out, HC2.out] at hfo
    obtain ⟨q0, q1, q2, q3⟩ : w2.cell? ⟨W.heap.size, 0, none⟩ = some (.int .u8 K) ∧ w2.cell? ⟨W.heap.size, 1, none⟩ = some (.string tx) ∧ w2.cell? ⟨W.heap.size, 2, none⟩ = some (.slice pc nc cc) ∧ w2.cell? ⟨W.heap.size, 3, none⟩ = some (.slice pe ne ce) :=
      ⟨by rw [cellH HX2.out]; rfl, by rw [cellH HX2.out]; rfl, by rw [cellH HX2.out]; rfl, by rw [cellH HX2.out]; rfl⟩
    clear hb2 hsz d0 d1 d2 d3
    cases fo with
    | false =>
      go_wp2_with fail
      refine hfo.mono ?_
      rintro e w3 ⟨rfl, hb3⟩
      have HB3 := Lib.hid (gcall HB2.out hb3)
      clear hb3 hfo
      go_wp2
      go_ret
      rw [HF2.out]
      exact ⟨rfl, HB3.out⟩
    | true =>
      go_wp2_with fail
      refine hfo.mono ?_
      rintro e w3 ⟨rfl, hb3⟩
      have HB3 := Lib.hid (gcall HB2.out hb3)
      have HX3 : Hid (w3.heap[W.heap.size]? = some (.cells #[.int .u8 K, .string tx, .slice pc nc cc, .slice pe ne ce] 47 (0, 0))) := Lib.hid ((hb3.block _ (Array.getElem?_eq_some_iff.1 HX2.out).1).trans HX2.out)
      have hdi := HDI.out w3 _ (HJ.out.below HB3.out)
      rw [HC.out, HC2.out] at hdi
      clear hb3 hfo q0 q1 q2 q3
      obtain ⟨q0, q1, q2, q3⟩ : w3.cell? ⟨W.heap.size, 0, none⟩ = some (.int .u8 K) ∧ w3.cell? ⟨W.heap.size, 1, none⟩ = some (.string tx) ∧ w3.cell? ⟨W.heap.size, 2, none⟩ = some (.slice pc nc cc) ∧ w3.cell? ⟨W.heap.size, 3, none⟩ = some (.slice pe ne ce) :=
        ⟨by rw [cellH HX3.out]; rfl, by rw [cellH HX3.out]; rfl, by rw [cellH HX3.out]; rfl, by rw [cellH HX3.out]; rfl⟩
      cases di with
      | false =>
        go_wp2_with fail
        refine hdi.mono ?_
        rintro e w4 ⟨rfl, hb4⟩
        have HB4 := Lib.hid (gcall HB3.out hb4)
        clear hb4 hdi
        go_wp2
        go_ret
        rw [HF2.out]
        exact ⟨rfl, HB4.out⟩
      | true =>
        go_wp2_with fail
        refine hdi.mono ?_
        rintro e w4 ⟨rfl, hb4⟩
        have HB4 := Lib.hid (gcall HB3.out hb4)
        clear hb4 hdi
        go_wp2
        go_ret
        rw [HF2.out]
        exact ⟨rfl, HB4.out⟩
  · have h0' : ((sz : Int) != 0) = true := by simp [h0]
    have HF2 : Hid (R = (sz : Int)) := Lib.hid (by rw [HF.out, if_pos h0])
    clear HF h0
    go_enter Tryz.func36, Tryz.ntmps36
    go_wp2_with fail
    refine hsz.mono ?_
    rintro e w2 ⟨rfl, hb2⟩
    have HB2 : Hid (Below W.heap.size W w2) := Lib.hid (gcall HB1.out hb2)
    clear hb2 hsz
    go_wp2
    go_ret
    rw [HF2.out]
    exact ⟨rfl, HB2.out⟩
end Go.Proofs.YtgcpgieojckheaaGreatDoor.Json
namespace Go.Proofs.YtgcpgieojckheaaGreatDoor.Json
open Go.RowKit Go.Shelf

/-- What Print says. -/
def printO (j : J) : List UInt8 × Int := if checkG j = 0 then printG (outJ j) else ([], checkG j)
set_option maxHeartbeats 4000000 in
set_option maxRecDepth 100000 in
theorem print_any (j : J) (hbig : bigJ j) (hlong : longJ j) (hok : checkG j = 0 → okJ j ∧ outJ j ≠ []) (W : World) (cs : List Value) (hT : TabsJ W) (h8 : 8 ≤ W.heap.size) (hj : JAt AnyB W j cs) :
    Calls Tryz.prog 32 #[.agg cs.toArray] W fun e w' => e = .returned (.tuple #[.string ⟨(printO j).1.toArray⟩, .int .i64 (printO j).2]) ∧ Below W.heap.size W w' := by
  obtain ⟨R, hR⟩ : ∃ R, printO j = R := ⟨_, rfl⟩
  rw [hR]
  have hF : R = if checkG j = 0 then printG (outJ j) else ([], checkG j) := by rw [← hR, printO]
  have hmf : ∀ (fn : Fn) (first cap : Array Value) (w : World), (Instr.makeFunc fn first cap).run Tryz.prog w = .ok (.func fn first cap) w := fun _ _ _ _ => rfl
  obtain ⟨va, vb, vc, vd, rfl⟩ := hj.four
  obtain ⟨kd, tx, pc, nc, cc, pe, ne, ce, rfl, rfl, rfl, rfl⟩ := jat_four hj
  obtain ⟨K, hK⟩ : ∃ K : Int, (kd : Int) = K := ⟨_, rfl⟩
  rw [hK] at hj ⊢
  obtain ⟨C, hC⟩ : ∃ C : Array Value, ([.int .u8 K, .string tx, .slice pc nc cc, .slice pe ne ce] : List Value).toArray = C := ⟨_, rfl⟩
  have hC2 : C = #[.int .u8 K, .string tx, .slice pc nc cc, .slice pe ne ce] := hC.symm
  rw [hC, hC2]
  obtain ⟨w1, hw1⟩ : ∃ w1, W.alloc (.cells #[.int .u8 K, .string tx, .slice pc nc cc, .slice pe ne ce] 47) = w1 := ⟨_, rfl⟩
  have hp1 : w1.heap[W.heap.size]? = some (.cells #[.int .u8 K, .string tx, .slice pc nc cc, .slice pe ne ce] 47 (0, 0)) := by rw [← hw1]; exact World.alloc_heap_new W _
  have hb1 : Below W.heap.size W w1 := by rw [← hw1]; exact galloc (Below.refl _ _) _
  have hck := check_any j hbig hlong w1 _ (hT.below hb1 h8) (Nat.le_trans h8 hb1.size) (hj.below hb1)
  rw [hC, hC2] at hck
  obtain ⟨d0, d1, d2, d3⟩ : w1.cell? ⟨W.heap.size, 0, none⟩ = some (.int .u8 K) ∧ w1.cell? ⟨W.heap.size, 1, none⟩ = some (.string tx) ∧ w1.cell? ⟨W.heap.size, 2, none⟩ = some (.slice pc nc cc) ∧ w1.cell? ⟨W.heap.size, 3, none⟩ = some (.slice pe ne ce) :=
    ⟨by rw [cellH hp1]; rfl, by rw [cellH hp1]; rfl, by rw [cellH hp1]; rfl, by rw [cellH hp1]; rfl⟩
  have HBX := Lib.hid hp1
  have HB1 := Lib.hid hb1
  have HJ := Lib.hid hj
  have HC := Lib.hid hC
  have HC2 := Lib.hid hC2
  have HAT := Lib.hid (fun (B b PP JB : Nat) (w : World) (cs : List Value) (h0 : checkG j = 0) hP hPb hJ hj h hB => attempt_print B b PP JB j cs w (hok h0).1 (hok h0).2 hP hPb hJ hj h hB)
  generalize checkG j = c at *
  have HF := Lib.hid hF
  clear hF hR hbig hlong hok hT h8 hj hp1 hb1 hK hC hC2
  by_cases h0 : c = 0
  · have hc0 : (c != 0) = false := by rw [h0]; rfl
    have HF2 : Hid (R = printG (outJ j)) := Lib.hid (by rw [HF.out, if_pos h0])
    have H0 := Lib.hid h0
    clear HF h0
    go_enter Tryz.func32, Tryz.ntmps32
    go_wp2_with fail
    refine hck.mono ?_
    rintro e w2 ⟨rfl, hb2⟩
    have HB2 : Hid (Below W.heap.size W w2) := Lib.hid (gcall HB1.out hb2)
    have hx2 : w2.heap[W.heap.size]? = some (.cells #[.int .u8 K, .string tx, .slice pc nc cc, .slice pe ne ce] 47 (0, 0)) := (hb2.block _ (Array.getElem?_eq_some_iff.1 HBX.out).1).trans HBX.out
    obtain ⟨w3, hw3⟩ : ∃ w3, w2.alloc (.cells #[.pointer none, .slice none 0 0] 96) = w3 := ⟨_, rfl⟩
    have hp3 : w3.heap[w2.heap.size]? = some (.cells #[.pointer none, .slice none 0 0] 96 (0, 0)) := by rw [← hw3]; exact World.alloc_heap_new w2 _
    have hb3 : Below w2.heap.size w2 w3 := by rw [← hw3]; exact galloc (Below.refl _ _) _
    have hs3 : w3.heap.size = w2.heap.size + 1 := by rw [← hw3]; simp
    obtain ⟨w4, hw4⟩ : ∃ w4, w3.alloc (.cells #[.pointer none] 91) = w4 := ⟨_, rfl⟩
    have hp4 : w4.heap[w3.heap.size]? = some (.cells #[.pointer none] 91 (0, 0)) := by rw [← hw4]; exact World.alloc_heap_new w3 _
    have hb4 : Below w3.heap.size w3 w4 := by rw [← hw4]; exact galloc (Below.refl _ _) _
    obtain ⟨w5, hw5⟩ : ∃ w5, w4.setCell ⟨w3.heap.size, 0, none⟩ (.pointer (some ⟨w2.heap.size, 0, none⟩)) = w5 := ⟨_, rfl⟩
    have hp5 : w5.heap[w3.heap.size]? = some (.cells #[.pointer (some ⟨w2.heap.size, 0, none⟩)] 91 (0, 0)) := by rw [← hw5]; exact heap_setCell_same _ _ 0 _ _ _ hp4
    have hb5 : Below w3.heap.size w3 w5 := by rw [← hw5]; exact hb4.setCell (p := ⟨w3.heap.size, 0, none⟩) (Nat.le_refl _) _
    have q0 : w4.cell? ⟨w3.heap.size, 0, none⟩ = some (.pointer none) := by rw [Lib.cell_of_heap hp4]; rfl
    have qf : w4.frozen? ⟨w3.heap.size, 0, none⟩ = false := Lib.frozen_of_heap hp4 0
    have hb25 : Below w2.heap.size w2 w5 := hb3.trans (hb5.mono (by omega))
    have hBW5 : Below W.heap.size W w5 := gcall HB2.out hb25
    have hpr : PrAt w2.heap.size w2.heap.size [] w5 := .inl ⟨Nat.le_refl _, .slice none 0 0, (hb5.block _ (by omega)).trans hp3, World.ownsRow_nil _ _ _ _, by simp [Value.ownBlock]⟩
    have hcall := HAT.out w2.heap.size w2.heap.size w3.heap.size W.heap.size w5 _ H0.out hp5 (by omega) (by rw [HC.out, HC2.out]; exact (hb25.block _ (Array.getElem?_eq_some_iff.1 hx2).1).trans hx2)
      (JAt.world ⟨hBW5.size, fun i _ h => hBW5.block i h⟩ j _ (JAt.mono (S' := (· < W.heap.size)) (fun i h _ => h) j _ HJ.out) |> fun h => JAt.mono (fun i _ (h : i < W.heap.size) => by have := HB2.out.size; show i < w2.heap.size; omega) j _ h) hpr hb25.size
    have HB5 : Hid (Below W.heap.size W w5 ∧ W.heap.size ≤ w2.heap.size) := Lib.hid ⟨hBW5, HB2.out.size⟩
    generalize printG (outJ j) = G at *
    clear hb2 hck hx2 hp3 hb3 hs3 hp4 hb4 hp5 hb5 hb25 hBW5 hpr d0 d1 d2 d3
    go_wp2_with fail
    refine hcall.mono ?_
    rintro e w6 ⟨rfl, hf6⟩
    have HB6 := Lib.hid (HB5.out.1.trans (hf6.1.mono HB5.out.2))
    clear hf6 hcall
    go_wp2
    refine bodyPost_ret (v := .tuple #[.string ⟨G.1.toArray⟩, .int .i64 G.2]) (by simp [results, Tryz.results32, go_sem]) rfl ?_
    rw [HF2.out]
    exact ⟨rfl, HB6.out⟩
  · have hc0 : (c != 0) = true := by simp [h0]
    have HF2 : Hid (R = ([], c)) := Lib.hid (by rw [HF.out, if_neg h0])
    clear HF h0
    go_enter Tryz.func32, Tryz.ntmps32
    go_wp2_with fail
    refine hck.mono ?_
    rintro e w2 ⟨rfl, hb2⟩
    have HB2 : Hid (Below W.heap.size W w2) := Lib.hid (gcall HB1.out hb2)
    clear hb2 hck
    go_wp2
    refine bodyPost_ret (v := .tuple #[.string ⟨#[]⟩, .int .i64 c]) (by simp [results, Tryz.results32, go_sem]) rfl ?_
    rw [HF2.out]
    exact ⟨rfl, HB2.out⟩
end Go.Proofs.YtgcpgieojckheaaGreatDoor.Json
namespace Go.Proofs.YtgcpgieojckheaaGreatDoor.Json
open Go.RowKit Go.Shelf

/-- What bounded says. -/
def boundG (j : J) : Bool := (visJ 65536 (.mk 0 [] [] [j]) 1 (0, false)).1
set_option maxHeartbeats 4000000 in
set_option maxRecDepth 100000 in
theorem bounded_any (j : J) (hbig : bigJ j) (W : World) (cs : List Value) (hj : JAt AnyB W j cs) :
    Calls Tryz.prog 63 #[.agg cs.toArray] W fun e w' => e = .returned (.bool (boundG j)) ∧ Below W.heap.size W w' := by
  obtain ⟨va, vb, vc, vd, rfl⟩ := hj.four
  obtain ⟨kd, tx, pc, nc, cc, pe, ne, ce, rfl, rfl, rfl, rfl⟩ := jat_four hj
  rw [show ([.int .u8 (kd : Int), .string tx, .slice pc nc cc, .slice pe ne ce] : List Value).toArray = #[.int .u8 (kd : Int), .string tx, .slice pc nc cc, .slice pe ne ce] from rfl]
  obtain ⟨K, hK⟩ : ∃ K : Int, (kd : Int) = K := ⟨_, rfl⟩
  rw [hK] at hj ⊢
  obtain ⟨w1, hw1⟩ : ∃ w1, W.alloc (.cells #[.int .u8 K, .string tx, .slice pc nc cc, .slice pe ne ce] 47) = w1 := ⟨_, rfl⟩
  have hp1 : w1.heap[W.heap.size]? = some (.cells #[.int .u8 K, .string tx, .slice pc nc cc, .slice pe ne ce] 47 (0, 0)) := by rw [← hw1]; exact World.alloc_heap_new W _
  have hb1 : Below W.heap.size W w1 := by rw [← hw1]; exact galloc (Below.refl _ _) _
  have hs1 : w1.heap.size = W.heap.size + 1 := by rw [← hw1]; simp
  obtain ⟨wz, hwz⟩ : ∃ wz, w1.alloc (.cells #[.int .i64 0, .int .i64 0, .bool false] 124) = wz := ⟨_, rfl⟩
  have kR : wz.heap[w1.heap.size]? = some (.cells #[.int .i64 0, .int .i64 0, .bool false] 124 (0, 0)) := by rw [← hwz]; exact World.alloc_heap_new w1 _
  have hbz : Below w1.heap.size w1 wz := by rw [← hwz]; exact galloc (Below.refl _ _) _
  have hsz : wz.heap.size = w1.heap.size + 1 := by rw [← hwz]; simp
  obtain ⟨S, hSe⟩ : ∃ S, w1.heap.size = S := ⟨_, rfl⟩
  rw [hSe] at kR hbz hsz
  obtain ⟨w2, hw2⟩ : ∃ w2, ((wz.setCell ⟨S, 0, none⟩ (.int .i64 65536)).setCell ⟨S, 1, none⟩ (.int .i64 0)).setCell ⟨S, 2, none⟩ (.bool false) = w2 := ⟨_, rfl⟩
  have k2 : w2.heap[S]? = some (.cells #[.int .i64 65536, .int .i64 0, .bool false] 124 (0, 0)) := by
    rw [← hw2]; exact heap_setCell_same _ _ 2 _ _ (.bool false) (heap_setCell_same _ _ 1 _ _ (.int .i64 0) (heap_setCell_same _ _ 0 _ _ (.int .i64 65536) kR))
  have hb2 : Below S w1 w2 := by
    rw [← hw2]
    exact ((hbz.setCell (p := ⟨S, 0, none⟩) (Nat.le_refl _) _).setCell (p := ⟨S, 1, none⟩) (Nat.le_refl _) _).setCell (p := ⟨S, 2, none⟩) (Nat.le_refl _) _
  obtain ⟨q0, q1, q2, qf⟩ : wz.cell? ⟨S, 0, none⟩ = some (.int .i64 0) ∧ wz.cell? ⟨S, 1, none⟩ = some (.int .i64 0) ∧ wz.cell? ⟨S, 2, none⟩ = some (.bool false) ∧ ∀ o, wz.frozen? ⟨S, o, none⟩ = false :=
    ⟨by rw [Lib.cell_of_heap kR]; rfl, by rw [Lib.cell_of_heap kR]; rfl, by rw [Lib.cell_of_heap kR]; rfl, fun o => Lib.frozen_of_heap kR o⟩
  obtain ⟨N, hN⟩ : ∃ N, W.heap.size = N := ⟨_, rfl⟩
  rw [hN] at hp1 hs1
  have hNS : N < S := by omega
  have hp2 : w2.heap[N]? = some (.cells #[.int .u8 K, .string tx, .slice pc nc cc, .slice pe ne ce] 47 (0, 0)) := (hb2.block N hNS).trans hp1
  obtain ⟨d0, d1, d2, d3⟩ : w2.cell? ⟨N, 0, none⟩ = some (.int .u8 K) ∧ w2.cell? ⟨N, 1, none⟩ = some (.string tx) ∧ w2.cell? ⟨N, 2, none⟩ = some (.slice pc nc cc) ∧ w2.cell? ⟨N, 3, none⟩ = some (.slice pe ne ce) :=
    ⟨by rw [cellH hp2]; rfl, by rw [cellH hp2]; rfl, by rw [cellH hp2]; rfl, by rw [cellH hp2]; rfl⟩
  obtain ⟨w3, hw3⟩ : ∃ w3, w2.alloc (.cells #[.int .u8 K, .string tx, .slice pc nc cc, .slice pe ne ce] 47) = w3 := ⟨_, rfl⟩
  have hp3 : w3.heap[w2.heap.size]? = some (.cells #[.int .u8 K, .string tx, .slice pc nc cc, .slice pe ne ce] 47 (0, 0)) := by rw [← hw3]; exact World.alloc_heap_new w2 _
  have hb3 : Below w2.heap.size w2 w3 := by rw [← hw3]; exact galloc (Below.refl _ _) _
  have hs3 : w3.heap.size = w2.heap.size + 1 := by rw [← hw3]; simp
  have hs2 : S < w2.heap.size := (Array.getElem?_eq_some_iff.1 k2).1
  obtain ⟨L, hL⟩ : ∃ L, w2.heap.size = L := ⟨_, rfl⟩
  have hbW : Below N W w3 := by rw [← hN]; exact (hb1.trans (hb2.mono (by omega))).trans (hb3.mono (by omega))
  rw [hL] at hp3 hs3 hs2
  have hjS : JAt (· ≠ S) w3 j [.int .u8 K, .string tx, .slice pc nc cc, .slice pe ne ce] := by
    have h0 : JAt (· < N) W j [.int .u8 K, .string tx, .slice pc nc cc, .slice pe ne ce] := JAt.mono (fun i h _ => by show i < N; omega) j _ hj
    have h1 : JAt (· < N) w3 j [.int .u8 K, .string tx, .slice pc nc cc, .slice pe ne ce] := JAt.world ⟨hbW.size, fun i _ h => hbW.block i h⟩ j _ h0
    exact JAt.mono (fun i _ h => by have h : i < N := h; show i ≠ S; omega) j _ h1
  have hsl : SlIn (· ≠ S) w3 (.slice (some ⟨L, 0, none⟩) 1 1) 4 1 [.int .u8 K, .string tx, .slice pc nc cc, .slice pe ne ce] :=
    ⟨rfl, _, 1, rfl, Nat.le_refl _, .inr ⟨L, 0, rfl, by show L ≠ S; omega, by omega, fun i u hi => by
      rw [cellH hp3]
      rw [Nat.zero_add]
      simpa using hi⟩⟩
  have hv := visit_deep S 65536 (by omega) (deepJ (.mk 0 [] [] [j])) (.mk 0 [] [] [j]) (Nat.le_refl _) (by unfold bigJ; refine ⟨by simp, by simp, ?_⟩; unfold bigsJ; exact ⟨hbig, by unfold bigsJ; trivial⟩) 1 (0, false) w3 (.int .u8 (0 : Nat)) (bl []) (.slice none 0 0) (.slice (some ⟨L, 0, none⟩) 1 1) (by omega) (Nat.zero_le _)
    (by unfold JAt; exact ⟨_, _, _, rfl, SlIn.nil _ _ _, hsl, by unfold JsAt; exact ⟨_, [], by simp, hjS, by unfold JsAt; rfl⟩⟩) ((hb3.block S (by omega)).trans k2)
  have HSG : Hid (boundG j = (visJ 65536 (.mk 0 [] [] [j]) 1 (0, false)).1) := Lib.hid rfl
  obtain ⟨V, hV⟩ : ∃ V, visJ 65536 (.mk 0 [] [] [j]) 1 (0, false) = V := ⟨_, rfl⟩
  rw [hV] at hv HSG
  obtain ⟨v1, v2, v3⟩ := V
  have HBW := Lib.hid hbW
  have HSN : Hid (N ≤ S) := Lib.hid (by omega)
  have HNN := Lib.hid hN
  clear hj hp1 hb1 hs1 kR hbz hsz k2 hb2 hp2 hp3 hb3 hs3 hs2 hjS hsl hV hbW hbig hNS hK
  go_enter Tryz.func63, Tryz.ntmps63
  go_wp2_with fail
  refine hv.mono ?_
  rintro e w4 ⟨rfl, hs4, hb4⟩
  have HB4 : Hid (Below W.heap.size W w4) := Lib.hid (by
    rw [HNN.out]
    exact HBW.out.trans ⟨hb4.os, hb4.tape, hb4.output, hb4.size, fun k hk => hb4.block k (by have := HBW.out.size; rw [HNN.out] at this; omega) (by have := HSN.out; omega)⟩)
  clear hv hs4 hb4
  go_wp2
  go_ret
  rw [HSG.out]
  exact ⟨rfl, HB4.out⟩
end Go.Proofs.YtgcpgieojckheaaGreatDoor.Json
