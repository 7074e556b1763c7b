/-
  Whether a value and all in it has the fields of its Kind.
  Whether no Object in a value has a name twice; Check.
-/
import Derived.Test.YtgcpgieojckheaaGreatDoorMgLN
namespace Go.Proofs.YtgcpgieojckheaaGreatDoor.Json
open Go.RowKit Go.Shelf

mutual
def formG : J → Bool
  | .mk k t ns ls => fitsG (.mk k t ns ls) && formsG ls
def formsG : List J → Bool
  | [] => true
  | j :: js => formG j && formsG js
end
mutual
/-- No text of it is too long for a walk. -/
def longJ : J → Prop
  | .mk _ t ns ls => t.length ≤ 1000000 ∧ (∀ n ∈ ns, n.length ≤ 1000000) ∧ ns.length < 10000000 ∧ longsJ ls
def longsJ : List J → Prop
  | [] => True
  | j :: js => longJ j ∧ longsJ js
end
theorem longsJ_at : ∀ (l : List J) (i : Nat) (x : J), longsJ l → l[i]? = some x → longJ x
  | [], i, x, _, h => by simp at h
  | j :: js, 0, x, h, hx => by
    simp at hx; subst hx
    unfold longsJ at h; exact h.1
  | j :: js, i + 1, x, h, hx => by
    simp at hx
    unfold longsJ at h
    exact longsJ_at js i x h.2 hx
set_option maxHeartbeats 8000000 in
set_option maxRecDepth 100000 in
theorem formed_one (k : Nat) (t : List UInt8) (ns : List (List UInt8)) (ls : List J) (W : World) (pc : Option Addr) (cc : Nat) (pd : Option Addr) (cd : Nat) (vs : List Value) (hT : TabsJ W) (h8 : 8 ≤ W.heap.size)
    (ht : t.length ≤ 1000000) (hn : ∀ n ∈ ns, n.length ≤ 1000000) (hlen : ns.length ≤ 1000000000) (hlen2 : ls.length ≤ 1000000000) (hc : SlIn AnyB W (.slice pc ns.length cc) 1 ns.length (ns.map bl))
    (hd : SlIn AnyB W (.slice pd ls.length cd) 4 ls.length vs) (hj : JsAt AnyB W ls vs)
    (HREC : Hid (∀ (i : Nat) x, ls[i]? = some x → ∀ (w : World) (cs : List Value), TabsJ w → 8 ≤ w.heap.size → JAt AnyB w x cs → Calls Tryz.prog 66 #[.agg cs.toArray] w fun e w' => e = .returned (.bool (formG x)) ∧ Below w.heap.size w w')) :
    Calls Tryz.prog 66 #[.agg #[.int .u8 k, bl t, .slice pc ns.length cc, .slice pd ls.length cd]] W fun e w' => e = .returned (.bool (formG (.mk k t ns ls))) ∧ Below W.heap.size W w' := by
  obtain ⟨R, hR⟩ : ∃ R, formG (.mk k t ns ls) = R := ⟨_, rfl⟩
  rw [hR]
  have hF : R = (fitsG (.mk k t ns ls) && formsG ls) := by rw [← hR, formG]
  obtain ⟨w1, hw1⟩ : ∃ w1, W.alloc (.cells #[.int .u8 k, bl t, .slice pc ns.length cc, .slice pd ls.length cd] 47) = w1 := ⟨_, rfl⟩
  have hp1 : w1.heap[W.heap.size]? = some (.cells #[.int .u8 k, bl t, .slice pc ns.length cc, .slice pd ls.length cd] 47 (0, 0)) := by rw [← hw1]; exact World.alloc_heap_new W _
  have hb1 : Below W.heap.size W w1 := by rw [← hw1]; exact galloc (Below.refl _ _) _
  have hfit := fits_one k t ns ls w1 pc cc pd cd (hT.below hb1 h8) (Nat.le_trans h8 hb1.size) ht hn hlen (hc.world ⟨hb1.size, fun i hi _ => hb1.block i hi⟩)
  obtain ⟨K, hK⟩ : ∃ K : Int, (k : Int) = K := ⟨_, rfl⟩
  obtain ⟨tx, hbl⟩ : ∃ tx : ByteArray, bl t = .string tx := ⟨_, rfl⟩
  rw [hK, hbl] at hfit hp1 hw1 ⊢
  obtain ⟨N, hN⟩ : ∃ N, W.heap.size = N := ⟨_, rfl⟩
  rw [hN] at hp1
  obtain ⟨d0, d1, d2, d3⟩ : w1.cell? ⟨N, 0, none⟩ = some (.int .u8 K) ∧ w1.cell? ⟨N, 1, none⟩ = some (.string tx) ∧ w1.cell? ⟨N, 2, none⟩ = some (.slice pc ns.length cc) ∧ w1.cell? ⟨N, 3, none⟩ = some (.slice pd ls.length cd) :=
    ⟨by rw [cellH hp1]; rfl, by rw [cellH hp1]; rfl, by rw [cellH hp1]; rfl, by rw [cellH hp1]; rfl⟩
  generalize fitsG (.mk k t ns ls) = F at *
  have HP1 := Lib.hid hp1
  have HB1 := Lib.hid hb1
  have HF := Lib.hid hF
  have HT := Lib.hid hT
  have H8 := Lib.hid h8
  have HD := Lib.hid hd
  have HJ := Lib.hid hj
  have HN := Lib.hid hN
  clear hF hR hp1 hb1 hT h8 hc hd hj ht hn hlen hK hbl
  cases F with
  | false =>
    go_enter Tryz.func66, Tryz.ntmps66
    go_wp2_with fail
    refine hfit.mono ?_
    rintro e w2 ⟨rfl, hb2⟩
    have HB2 := Lib.hid (gcall HB1.out hb2)
    clear hb2 hfit
    go_wp2
    go_ret
    rw [HF.out]
    exact ⟨rfl, HB2.out⟩
  | true =>
    go_enter Tryz.func66, Tryz.ntmps66
    go_wp2_with fail
    refine hfit.mono ?_
    rintro e w2 ⟨rfl, hb2⟩
    have e3 : w2.cell? ⟨N, 3, none⟩ = some (.slice pd ls.length cd) := cell_in hb2 d3
    have HI0 : Hid (Below W.heap.size W w2 ∧ R = formsG (ls.drop 0)) := Lib.hid ⟨gcall HB1.out hb2, by rw [HF.out]; rfl⟩
    clear hb2 hfit d0 d1 d2 d3
    go_wp2_with fail
    go_loopw [11] (fun iv wr => ∃ i : Nat, i ≤ ls.length ∧ iv = .int .i64 i ∧ Hid (Below W.heap.size W wr ∧ R = formsG (ls.drop i))) (fun iv _ => ls.length - (intOf iv).toNat)
    case atStart => exact ⟨0, by omega, rfl, HI0⟩
    case round =>
      clear e3
      obtain ⟨i, hi, rfl, HI⟩ := hrel
      rcases Nat.lt_or_ge i ls.length with hlt | hge
      · have hlt' : (i : Int) < (ls.length : Int) := by omega
        have hwi : IntKind.i64.wrap ((i : Int) + 1) = ((i + 1 : Nat) : Int) := by rw [IntWalk.i64_in _ (by omega)]; omega
        obtain ⟨g1, o1, rfl, hx1⟩ := HD.out.cellAt (by omega)
        have hu1 := List.getElem?_eq_getElem hlt
        obtain ⟨xa, xb, xc, xd, hjx, m1, m2, m3, m4⟩ := HJ.out.nth ls vs i _ hu1
        obtain ⟨kd, ty, pe, ne, ce, pf, nf, cf, rfl, rfl, rfl, rfl⟩ := jat_four hjx
        have k1 : wr.cell? ⟨g1, o1 + i * 4, none⟩ = some (.int .u8 (kd : Nat)) := cell_in HI.out.1 (hx1 _ _ m1)
        have k2 : wr.cell? ⟨g1, o1 + i * 4 + 1, none⟩ = some (.string ty) := cell_in HI.out.1 (hx1 _ _ m2)
        have k3 : wr.cell? ⟨g1, o1 + i * 4 + 2, none⟩ = some (.slice pe ne ce) := cell_in HI.out.1 (hx1 _ _ m3)
        have k4 : wr.cell? ⟨g1, o1 + i * 4 + 3, none⟩ = some (.slice pf nf cf) := cell_in HI.out.1 (hx1 _ _ m4)
        obtain ⟨wb, hwb⟩ : ∃ wb, wr.alloc (.cells #[.int .u8 0, .string ⟨#[]⟩, .slice none 0 0, .slice none 0 0] 47) = wb := ⟨_, rfl⟩
        have kR : wb.heap[wr.heap.size]? = some (.cells #[.int .u8 0, .string ⟨#[]⟩, .slice none 0 0, .slice none 0 0] 47 (0, 0)) := by rw [← hwb]; exact World.alloc_heap_new wr _
        have hbb : Below wr.heap.size wr wb := by rw [← hwb]; exact galloc (Below.refl _ _) _
        obtain ⟨w4, hw4⟩ : ∃ w4, (((wb.setCell ⟨wr.heap.size, 0, none⟩ (.int .u8 (kd : Nat))).setCell ⟨wr.heap.size, 1, none⟩ (.string ty)).setCell ⟨wr.heap.size, 2, none⟩ (.slice pe ne ce)).setCell ⟨wr.heap.size, 3, none⟩ (.slice pf nf cf) = w4 := ⟨_, rfl⟩
        have kF : w4.heap[wr.heap.size]? = some (.cells #[.int .u8 (kd : Nat), .string ty, .slice pe ne ce, .slice pf nf cf] 47 (0, 0)) := by
          rw [← hw4]; exact heap_setCell_same _ _ 3 _ _ _ (heap_setCell_same _ _ 2 _ _ _ (heap_setCell_same _ _ 1 _ _ _ (heap_setCell_same _ _ 0 _ _ _ kR)))
        have hb4 : Below wr.heap.size wr w4 := by
          rw [← hw4]
          exact (((hbb.setCell (p := ⟨wr.heap.size, 0, none⟩) (Nat.le_refl _) _).setCell (p := ⟨wr.heap.size, 1, none⟩) (Nat.le_refl _) _).setCell (p := ⟨wr.heap.size, 2, none⟩) (Nat.le_refl _) _).setCell (p := ⟨wr.heap.size, 3, none⟩) (Nat.le_refl _) _
        obtain ⟨q0, q1, q2, q3, qf⟩ : wb.cell? ⟨wr.heap.size, 0, none⟩ = some (.int .u8 0) ∧ wb.cell? ⟨wr.heap.size, 1, none⟩ = some (.string ⟨#[]⟩) ∧ wb.cell? ⟨wr.heap.size, 2, none⟩ = some (.slice none 0 0) ∧ wb.cell? ⟨wr.heap.size, 3, none⟩ = some (.slice none 0 0) ∧ ∀ o, wb.frozen? ⟨wr.heap.size, o, none⟩ = false :=
          ⟨by rw [cellH kR]; rfl, by rw [cellH kR]; rfl, by rw [cellH kR]; rfl, by rw [cellH kR]; rfl, fun o => Lib.frozen_of_heap kR o⟩
        obtain ⟨n0, n1, n2, n3⟩ : w4.cell? ⟨wr.heap.size, 0, none⟩ = some (.int .u8 (kd : Nat)) ∧ w4.cell? ⟨wr.heap.size, 1, none⟩ = some (.string ty) ∧ w4.cell? ⟨wr.heap.size, 2, none⟩ = some (.slice pe ne ce) ∧ w4.cell? ⟨wr.heap.size, 3, none⟩ = some (.slice pf nf cf) :=
          ⟨by rw [cellH kF]; rfl, by rw [cellH kF]; rfl, by rw [cellH kF]; rfl, by rw [cellH kF]; rfl⟩
        have hBW4 : Below W.heap.size W w4 := gcall HI.out.1 hb4
        have hcall := HREC.out i _ hu1 w4 [.int .u8 (kd : Nat), .string ty, .slice pe ne ce, .slice pf nf cf] (HT.out.below hBW4 H8.out) (Nat.le_trans H8.out hBW4.size) (hjx.below hBW4)
        rw [show ([.int .u8 (kd : Nat), .string ty, .slice pe ne ce, .slice pf nf cf] : List Value).toArray = #[.int .u8 (kd : Nat), .string ty, .slice pe ne ce, .slice pf nf cf] from rfl] at hcall
        have HR2 : Hid (R = (formG (ls[i]'hlt) && formsG (ls.drop (i + 1)))) := Lib.hid (by rw [HI.out.2, List.drop_eq_getElem_cons hlt, formsG])
        have HB4 := Lib.hid hBW4
        generalize formG (ls[i]'hlt) = G at *
        clear hx1 hu1 hjx m1 m2 m3 m4 kR hbb kF hb4 hBW4 HI
        cases G with
        | true =>
          go_wp2_with fail
          refine hcall.mono ?_
          rintro e w5 ⟨rfl, hb5⟩
          have HI5 : Hid (Below W.heap.size W w5 ∧ R = formsG (ls.drop (i + 1))) := Lib.hid ⟨gcall HB4.out hb5, by rw [HR2.out]; rfl⟩
          clear hb5 hcall
          go_wp2
          exact ⟨⟨i + 1, by omega, rfl, HI5⟩, by simp [intOf]; omega⟩
        | false =>
          go_wp2_with fail
          refine hcall.mono ?_
          rintro e w5 ⟨rfl, hb5⟩
          have HI5 : Hid (Below W.heap.size W w5 ∧ R = false) := Lib.hid ⟨gcall HB4.out hb5, by rw [HR2.out]; rfl⟩
          clear hb5 hcall
          go_wp2
          go_ret
          rw [HI5.out.2]
          exact ⟨rfl, HI5.out.1⟩
      · obtain rfl : i = ls.length := by omega
        have hlt' : ¬ (ls.length : Int) < (ls.length : Int) := by omega
        have HE : Hid (R = true ∧ Below W.heap.size W wr) := Lib.hid ⟨by rw [HI.out.2, List.drop_length, formsG], HI.out.1⟩
        go_wp2
        go_ret
        rw [HE.out.1]
        exact ⟨rfl, by first | exact HE.out.2 | (rw [← HN.out]; exact HE.out.2)⟩
/-- What formed says, of any value in memory. -/
theorem formed_deep : ∀ (n : Nat) (j : J), deepJ j ≤ n → bigJ j → longJ j → ∀ (W : World) (cs : List Value), TabsJ W → 8 ≤ W.heap.size → JAt AnyB W j cs → Calls Tryz.prog 66 #[.agg cs.toArray] W fun e w' => e = .returned (.bool (formG j)) ∧ Below W.heap.size W w'
  | 0, .mk k t ns ls, hd, _, _, _, _, _, _, _ => by unfold deepJ at hd; omega
  | n + 1, .mk k t ns ls, hd, hbig, hlong, W, cs, hT, h8, hj => by
    obtain ⟨pc, cc, pd, cd, vs, rfl, h1, h2, h3⟩ := hj.form
    unfold bigJ at hbig
    unfold longJ at hlong
    refine formed_one k t ns ls W pc cc pd cd vs hT h8 hlong.1 hlong.2.1 (by omega) (by omega) h1 h2 h3 (Lib.hid fun i x hi w cs hT h8 hjx => formed_deep n x ?_ (bigsJ_at ls i x hbig.2.2 hi) (longsJ_at ls i x hlong.2.2.2 hi) w cs hT h8 hjx)
    have := deepJ_at ls i x hi
    unfold deepJ at hd; omega
end Go.Proofs.YtgcpgieojckheaaGreatDoor.Json
namespace Go.Proofs.YtgcpgieojckheaaGreatDoor.Json
open Go.RowKit Go.Shelf

/-- Whether names are new, one after another. -/
def distN : List (List UInt8) → List (List UInt8) → Bool
  | _, [] => true
  | known, n :: r => !known.contains n && distN (known ++ [n]) r
mutual
def distG : J → Bool
  | .mk _ _ ns ls => distN [] ns && distsG ls
def distsG : List J → Bool
  | [] => true
  | j :: js => distG j && distsG js
end
set_option maxHeartbeats 8000000 in
set_option maxRecDepth 100000 in
theorem distinct_one (k : Nat) (t : List UInt8) (ns : List (List UInt8)) (ls : List J) (W : World) (pc : Option Addr) (cc : Nat) (pd : Option Addr) (cd : Nat) (vs : List Value)
    (hn : ∀ n ∈ ns, n.length ≤ 1000000) (hlen : ns.length < 10000000) (hlen2 : ls.length ≤ 1000000000) (hc : SlIn AnyB W (.slice pc ns.length cc) 1 ns.length (ns.map bl))
    (hd : SlIn AnyB W (.slice pd ls.length cd) 4 ls.length vs) (hj : JsAt AnyB W ls vs)
    (HREC : Hid (∀ (i : Nat) x, ls[i]? = some x → ∀ (w : World) (cs : List Value), JAt AnyB w x cs → Calls Tryz.prog 67 #[.agg cs.toArray] w fun e w' => e = .returned (.bool (distG x)) ∧ Below w.heap.size w w')) :
    Calls Tryz.prog 67 #[.agg #[.int .u8 k, bl t, .slice pc ns.length cc, .slice pd ls.length cd]] W fun e w' => e = .returned (.bool (distG (.mk k t ns ls))) ∧ Below W.heap.size W w' := by
  obtain ⟨R, hR⟩ : ∃ R, distG (.mk k t ns ls) = R := ⟨_, rfl⟩
  rw [hR]
  have hF : R = (distN [] ns && distsG ls) := by rw [← hR, distG]
  obtain ⟨K, hK⟩ : ∃ K : Int, (k : Int) = K := ⟨_, rfl⟩
  obtain ⟨tx, hbl⟩ : ∃ tx : ByteArray, bl t = .string tx := ⟨_, rfl⟩
  rw [hK, hbl]
  obtain ⟨w1, hw1⟩ : ∃ w1, W.alloc (.cells #[.int .u8 K, .string tx, .slice pc ns.length cc, .slice pd ls.length cd] 47) = w1 := ⟨_, rfl⟩
  have hp1 : w1.heap[W.heap.size]? = some (.cells #[.int .u8 K, .string tx, .slice pc ns.length cc, .slice pd ls.length cd] 47 (0, 0)) := by rw [← hw1]; exact World.alloc_heap_new W _
  have hb1 : Below W.heap.size W w1 := by rw [← hw1]; exact galloc (Below.refl _ _) _
  have hs1 : w1.heap.size = W.heap.size + 1 := by rw [← hw1]; simp
  obtain ⟨w2, hw2⟩ : ∃ w2, w1.alloc (.map #[] 0) = w2 := ⟨_, rfl⟩
  have hm2 : MapAt w1.heap.size [] w2 := by rw [← hw2]; exact map_made w1
  have hb2 : Below w1.heap.size w1 w2 := by rw [← hw2]; exact galloc (Below.refl _ _) _
  obtain ⟨M, hM⟩ : ∃ M, w1.heap.size = M := ⟨_, rfl⟩
  rw [hM] at hm2
  obtain ⟨N, hN⟩ : ∃ N, W.heap.size = N := ⟨_, rfl⟩
  rw [hN] at hp1
  have hp2 : w2.heap[N]? = some (.cells #[.int .u8 K, .string tx, .slice pc ns.length cc, .slice pd ls.length cd] 47 (0, 0)) := (hb2.block N (by omega)).trans hp1
  have hbW : Below W.heap.size W w2 := gcall hb1 hb2
  have d2 : w2.cell? ⟨W.heap.size, 2, none⟩ = some (.slice pc ns.length cc) := by rw [hN, cellH hp2]; rfl
  have HP2 := Lib.hid hp2
  have HBW := Lib.hid hbW
  have HF := Lib.hid hF
  have HC := Lib.hid hc
  have HD := Lib.hid hd
  have HJ := Lib.hid hj
  have HN := Lib.hid hN
  have HNM : Hid (N < M) := Lib.hid (by omega)
  have HNL := Lib.hid hn
  have HMM := Lib.hid hM
  have hmm := @run_makeMap Tryz.prog
  have HI0 : Hid (But M w2 w2 ∧ MapAt M (ns.take 0) w2 ∧ distN [] ns = distN (ns.take 0) (ns.drop 0)) := Lib.hid ⟨But.refl _ _, hm2, rfl⟩
  clear hF hR hp1 hb1 hc hd hj hn hK hbl hs1 hm2 hb2 hM hN hp2 hbW
  go_enter Tryz.func67, Tryz.ntmps67
  go_wp2_with fail
  rw [HMM.out]
  go_loopw [12] (fun iv wr => ∃ i : Nat, i ≤ ns.length ∧ iv = .int .i64 i ∧ Hid (But M w2 wr ∧ MapAt M (ns.take i) wr ∧ distN [] ns = distN (ns.take i) (ns.drop i))) (fun iv _ => ns.length - (intOf iv).toNat)
  case atStart => exact ⟨0, by omega, rfl, HI0⟩
  case round =>
    clear d2
    obtain ⟨i, hi, rfl, HI⟩ := hrel
    rcases Nat.lt_or_ge i ns.length with hlt | hge
    · have hlt' : (i : Int) < (ns.length : Int) := by omega
      have hwi : IntKind.i64.wrap ((i : Int) + 1) = ((i + 1 : Nat) : Int) := by rw [IntWalk.i64_in _ (by omega)]; omega
      obtain ⟨g1, o1, rfl, hx1⟩ := HC.out.cellAt (by omega)
      have hu1 := List.getElem?_eq_getElem hlt
      have hm : (ns.map bl)[i]? = some (bl (ns[i]'hlt)) := by rw [List.getElem?_map, hu1]; rfl
      have h0 := hx1 i _ hm
      have hgW : g1 < W.heap.size := World.block_lt_of_cell? W _ h0
      have k1 : wr.cell? ⟨g1, o1 + i, none⟩ = some (bl (ns[i]'hlt)) := (World.cell?_of_block (a := ⟨g1, o1 + i, none⟩) (HI.out.1.block g1 (by have := HBW.out.size; omega) (by have := HNM.out; have := HN.out; omega))).trans (cell_in HBW.out h0)
      have hcall := add_any M (ns.take i) (ns[i]'hlt) wr HI.out.2.1 (by rw [List.length_take]; omega) (by have := HNL.out _ (List.getElem_mem hlt); omega)
      have HT : Hid (ns.take (i + 1) = ns.take i ++ [ns[i]'hlt]) := Lib.hid (by rw [List.take_add_one, hu1]; rfl)
      have HS : Hid (distN [] ns = (!(ns.take i).contains (ns[i]'hlt) && distN (ns.take (i + 1)) (ns.drop (i + 1)))) := Lib.hid (by rw [HI.out.2.2, List.drop_eq_getElem_cons hlt, distN, HT.out])
      have HB := Lib.hid HI.out.1
      rw [← HT.out] at hcall
      generalize (ns.take i).contains (ns[i]'hlt) = c at *
      obtain ⟨X, hX⟩ : ∃ X : ByteArray, bl (ns[i]'hlt) = .string X := ⟨_, rfl⟩
      rw [hX] at k1 hcall
      clear hx1 hu1 hm h0 HI hX
      cases c with
      | true =>
        go_wp2_with fail
        refine hcall.mono ?_
        rintro e w3 ⟨rfl, _, hb3⟩
        have HE : Hid (R = false ∧ Below W.heap.size W w3) := Lib.hid ⟨by rw [HF.out, HS.out]; rfl, by
          have hb := HB.out.trans hb3
          exact HBW.out.trans ⟨hb.os, hb.tape, hb.output, hb.size, fun j hj => hb.block j (by have := HBW.out.size; omega) (by have := HNM.out; have := HN.out; omega)⟩⟩
        clear hb3 hcall
        go_wp2
        go_ret
        rw [HE.out.1]
        exact ⟨rfl, by first | exact HE.out.2 | (rw [← HN.out]; exact HE.out.2)⟩
      | false =>
        go_wp2_with fail
        refine hcall.mono ?_
        rintro e w3 ⟨rfl, hm3, hb3⟩
        have HI3 : Hid (But M w2 w3 ∧ MapAt M (ns.take (i + 1)) w3 ∧ distN [] ns = distN (ns.take (i + 1)) (ns.drop (i + 1))) := Lib.hid ⟨HB.out.trans hb3, hm3, by rw [HS.out]; rfl⟩
        clear hm3 hb3 hcall
        go_wp2
        exact ⟨⟨i + 1, by omega, rfl, HI3⟩, by simp [intOf]; omega⟩
    · obtain rfl : i = ns.length := by omega
      have hlt' : ¬ (ns.length : Int) < (ns.length : Int) := by omega
      have e3 : wr.cell? ⟨W.heap.size, 3, none⟩ = some (.slice pd ls.length cd) := by
        rw [HN.out]
        have := (HI.out.1.block N (Array.getElem?_eq_some_iff.1 HP2.out).1 (by have := HNM.out; omega)).trans HP2.out
        rw [cellH this]; rfl
      have HI1 : Hid (Below W.heap.size W wr ∧ R = distsG (ls.drop 0)) := Lib.hid ⟨by
          have hb := HI.out.1
          exact HBW.out.trans ⟨hb.os, hb.tape, hb.output, hb.size, fun j hj => hb.block j (by have := HBW.out.size; omega) (by have := HNM.out; have := HN.out; omega)⟩, by
          rw [HF.out, HI.out.2.2, List.drop_length, distN]; rfl⟩
      clear HI hlt'
      have hlt' : ¬ (ns.length : Int) < (ns.length : Int) := by omega
      go_wp2_with fail
      go_loopw [24] (fun iv wr => ∃ i : Nat, i ≤ ls.length ∧ iv = .int .i64 i ∧ Hid (Below W.heap.size W wr ∧ R = distsG (ls.drop i))) (fun iv _ => ls.length - (intOf iv).toNat)
      case atStart => exact ⟨0, by omega, rfl, HI1⟩
      case round =>
        clear e3 hlt' hi
        obtain ⟨i, hi, rfl, HI⟩ := hrel
        rcases Nat.lt_or_ge i ls.length with hlt | hge
        · have hlt' : (i : Int) < (ls.length : Int) := by omega
          have hwi : IntKind.i64.wrap ((i : Int) + 1) = ((i + 1 : Nat) : Int) := by rw [IntWalk.i64_in _ (by omega)]; omega
          obtain ⟨g1, o1, rfl, hx1⟩ := HD.out.cellAt (by omega)
          have hu1 := List.getElem?_eq_getElem hlt
          obtain ⟨xa, xb, xc, xd, hjx, m1, m2, m3, m4⟩ := HJ.out.nth ls vs i _ hu1
          obtain ⟨kd, ty, pe, ne, ce, pf, nf, cf, rfl, rfl, rfl, rfl⟩ := jat_four hjx
          have k1 : wr.cell? ⟨g1, o1 + i * 4, none⟩ = some (.int .u8 (kd : Nat)) := cell_in HI.out.1 (hx1 _ _ m1)
          have k2 : wr.cell? ⟨g1, o1 + i * 4 + 1, none⟩ = some (.string ty) := cell_in HI.out.1 (hx1 _ _ m2)
          have k3 : wr.cell? ⟨g1, o1 + i * 4 + 2, none⟩ = some (.slice pe ne ce) := cell_in HI.out.1 (hx1 _ _ m3)
          have k4 : wr.cell? ⟨g1, o1 + i * 4 + 3, none⟩ = some (.slice pf nf cf) := cell_in HI.out.1 (hx1 _ _ m4)
          obtain ⟨wb, hwb⟩ : ∃ wb, wr.alloc (.cells #[.int .u8 0, .string ⟨#[]⟩, .slice none 0 0, .slice none 0 0] 47) = wb := ⟨_, rfl⟩
          have kR : wb.heap[wr.heap.size]? = some (.cells #[.int .u8 0, .string ⟨#[]⟩, .slice none 0 0, .slice none 0 0] 47 (0, 0)) := by rw [← hwb]; exact World.alloc_heap_new wr _
          have hbb : Below wr.heap.size wr wb := by rw [← hwb]; exact galloc (Below.refl _ _) _
          obtain ⟨w4, hw4⟩ : ∃ w4, (((wb.setCell ⟨wr.heap.size, 0, none⟩ (.int .u8 (kd : Nat))).setCell ⟨wr.heap.size, 1, none⟩ (.string ty)).setCell ⟨wr.heap.size, 2, none⟩ (.slice pe ne ce)).setCell ⟨wr.heap.size, 3, none⟩ (.slice pf nf cf) = w4 := ⟨_, rfl⟩
          have kF : w4.heap[wr.heap.size]? = some (.cells #[.int .u8 (kd : Nat), .string ty, .slice pe ne ce, .slice pf nf cf] 47 (0, 0)) := by
            rw [← hw4]; exact heap_setCell_same _ _ 3 _ _ _ (heap_setCell_same _ _ 2 _ _ _ (heap_setCell_same _ _ 1 _ _ _ (heap_setCell_same _ _ 0 _ _ _ kR)))
          have hb4 : Below wr.heap.size wr w4 := by
            rw [← hw4]
            exact (((hbb.setCell (p := ⟨wr.heap.size, 0, none⟩) (Nat.le_refl _) _).setCell (p := ⟨wr.heap.size, 1, none⟩) (Nat.le_refl _) _).setCell (p := ⟨wr.heap.size, 2, none⟩) (Nat.le_refl _) _).setCell (p := ⟨wr.heap.size, 3, none⟩) (Nat.le_refl _) _
          obtain ⟨q0, q1, q2, q3, qf⟩ : wb.cell? ⟨wr.heap.size, 0, none⟩ = some (.int .u8 0) ∧ wb.cell? ⟨wr.heap.size, 1, none⟩ = some (.string ⟨#[]⟩) ∧ wb.cell? ⟨wr.heap.size, 2, none⟩ = some (.slice none 0 0) ∧ wb.cell? ⟨wr.heap.size, 3, none⟩ = some (.slice none 0 0) ∧ ∀ o, wb.frozen? ⟨wr.heap.size, o, none⟩ = false :=
            ⟨by rw [cellH kR]; rfl, by rw [cellH kR]; rfl, by rw [cellH kR]; rfl, by rw [cellH kR]; rfl, fun o => Lib.frozen_of_heap kR o⟩
          obtain ⟨n0, n1, n2, n3⟩ : w4.cell? ⟨wr.heap.size, 0, none⟩ = some (.int .u8 (kd : Nat)) ∧ w4.cell? ⟨wr.heap.size, 1, none⟩ = some (.string ty) ∧ w4.cell? ⟨wr.heap.size, 2, none⟩ = some (.slice pe ne ce) ∧ w4.cell? ⟨wr.heap.size, 3, none⟩ = some (.slice pf nf cf) :=
            ⟨by rw [cellH kF]; rfl, by rw [cellH kF]; rfl, by rw [cellH kF]; rfl, by rw [cellH kF]; rfl⟩
          have hBW4 : Below W.heap.size W w4 := gcall HI.out.1 hb4
          have hcall := HREC.out i _ hu1 w4 [.int .u8 (kd : Nat), .string ty, .slice pe ne ce, .slice pf nf cf] (hjx.below hBW4)
          rw [show ([.int .u8 (kd : Nat), .string ty, .slice pe ne ce, .slice pf nf cf] : List Value).toArray = #[.int .u8 (kd : Nat), .string ty, .slice pe ne ce, .slice pf nf cf] from rfl] at hcall
          have HR2 : Hid (R = (distG (ls[i]'hlt) && distsG (ls.drop (i + 1)))) := Lib.hid (by rw [HI.out.2, List.drop_eq_getElem_cons hlt, distsG])
          have HB4 := Lib.hid hBW4
          generalize distG (ls[i]'hlt) = G at *
          clear hx1 hu1 hjx m1 m2 m3 m4 kR hbb kF hb4 hBW4 HI
          cases G with
          | true =>
            go_wp2_with fail
            refine hcall.mono ?_
            rintro e w5 ⟨rfl, hb5⟩
            have HI5 : Hid (Below W.heap.size W w5 ∧ R = distsG (ls.drop (i + 1))) := Lib.hid ⟨gcall HB4.out hb5, by rw [HR2.out]; rfl⟩
            clear hb5 hcall
            go_wp2
            exact ⟨⟨i + 1, by omega, rfl, HI5⟩, by simp [intOf]; omega⟩
          | false =>
            go_wp2_with fail
            refine hcall.mono ?_
            rintro e w5 ⟨rfl, hb5⟩
            have HI5 : Hid (Below W.heap.size W w5 ∧ R = false) := Lib.hid ⟨gcall HB4.out hb5, by rw [HR2.out]; rfl⟩
            clear hb5 hcall
            go_wp2
            go_ret
            rw [HI5.out.2]
            exact ⟨rfl, HI5.out.1⟩
        · obtain rfl : i = ls.length := by omega
          have hlt' : ¬ (ls.length : Int) < (ls.length : Int) := by omega
          have HE : Hid (R = true ∧ Below W.heap.size W wr) := Lib.hid ⟨by rw [HI.out.2, List.drop_length, distsG], HI.out.1⟩
          go_wp2
          go_ret
          rw [HE.out.1]
          exact ⟨rfl, by first | exact HE.out.2 | (rw [← HN.out]; exact HE.out.2)⟩
end Go.Proofs.YtgcpgieojckheaaGreatDoor.Json
