/-
  What the bound on weight gives, plainly; the law JsonBack.
  The law JsonBack.
-/
import Derived.Test.YtgcpgieojckheaaGreatDoorMgMA
import Derived.Test.YtgcpgieojckheaaGreatDoorMgMB
import Derived.Test.YtgcpgieojckheaaGreatDoorMgMC
namespace Go.Proofs.YtgcpgieojckheaaGreatDoor.Json
open Go.RowKit Go.Shelf

theorem names_light : ∀ (ns : List (List UInt8)) (n : List UInt8), n ∈ ns → n.length / 64 ≤ (ns.map fun n => n.length / 64).sum
  | [], n, h => by simp at h
  | m :: r, n, h => by
    simp only [List.map_cons, List.sum_cons]
    rcases List.mem_cons.1 h with rfl | h
    · omega
    · have := names_light r n h; omega
mutual
theorem weight_fine : ∀ j : J, weightJ j < 2000 → countJ j ≤ weightJ j ∧ longJ j ∧ bigJ j ∧ bigM j
  | .mk k t ns ls, h => by
    unfold weightJ at h ⊢
    have h1 := addN_ge (weightsJ ls) (addN (1 + t.length / 64 + ns.length) (ns.map fun n => n.length / 64))
    have h2 := addN_sum (ns.map fun n => n.length / 64) (1 + t.length / 64 + ns.length) (by omega)
    have h3 := addN_sum (weightsJ ls) _ h
    have hl := fun n hn => names_light ns n hn
    obtain ⟨a1, a2, a3, a4, a5⟩ := weights_fine ls (by omega)
    unfold countJ longJ bigJ bigM
    exact ⟨by omega, ⟨by omega, fun n hn => by have := hl n hn; omega, by omega, a2⟩, ⟨by omega, by omega, a3⟩, by omega, by omega, a4⟩
theorem weights_fine : ∀ l : List J, (weightsJ l).sum < 2000 → countsJ l ≤ (weightsJ l).sum ∧ longsJ l ∧ bigsJ l ∧ bigsM l ∧ l.length ≤ (weightsJ l).sum
  | [], _ => by unfold weightsJ countsJ longsJ bigsJ bigsM; simp
  | j :: js, h => by
    unfold weightsJ at h ⊢
    rw [List.sum_cons] at h ⊢
    obtain ⟨a1, a2, a3, a4⟩ := weight_fine j (by omega)
    obtain ⟨b1, b2, b3, b4, b5⟩ := weights_fine js (by omega)
    have h1 : 1 ≤ countJ j := by cases j; unfold countJ; omega
    unfold countsJ longsJ bigsJ bigsM
    rw [List.length_cons]
    exact ⟨by omega, ⟨a2, b2⟩, ⟨a3, b3⟩, ⟨a4, b4⟩, by omega⟩
end
theorem print_j (j : J) (hbig : bigJ j) (hlong : longJ j) (hc : countJ j ≤ 2147483647) (W : World) (a b c d : Value) (hT : TabsJ W) (h8 : 8 ≤ W.heap.size) (hj : JAt AnyB W j [a, b, c, d]) :
    Calls Tryz.prog 32 #[.agg #[a, b, c, d]] W fun e w' => e = .returned (.tuple #[.string ⟨(printO j).1.toArray⟩, .int .i64 (printO j).2]) ∧ Below W.heap.size W w' :=
  print_any j hbig hlong (check_ok j hc hlong) W [a, b, c, d] hT h8 hj
theorem parse_l (W : World) (l : List UInt8) (hT : TabsJ W) (h8 : 8 ≤ W.heap.size) (hz : l.length ≤ 262144) :
    Calls Tryz.prog 27 #[.string ⟨l.toArray⟩] W fun e w' => ∃ v, e = .returned (.tuple #[v, .int .i64 (parse l).2]) ∧ JVal (fun g => W.heap.size ≤ g) w' (parse l).1 v ∧ Below W.heap.size W w' :=
  parse_any W ⟨l.toArray⟩ hT h8 (by rw [Lib.size_eq]; simpa using hz)
theorem same_j (a b : J) (hbig : bigJ a) (W : World) (p q u v p2 q2 u2 v2 : Value) (ha : JAt AnyB W a [p, q, u, v]) (hb : JAt AnyB W b [p2, q2, u2, v2]) :
    Calls Tryz.prog 28 #[.agg #[p, q, u, v], .agg #[p2, q2, u2, v2]] W fun e w' => e = .returned (.bool (sameJ a b)) ∧ Below W.heap.size W w' := same_any a b hbig W [p, q, u, v] [p2, q2, u2, v2] ha hb
theorem check_j (j : J) (hbig : bigJ j) (hlong : longJ j) (W : World) (a b c d : Value) (hT : TabsJ W) (h8 : 8 ≤ W.heap.size) (hj : JAt AnyB W j [a, b, c, d]) :
    Calls Tryz.prog 36 #[.agg #[a, b, c, d]] W fun e w' => e = .returned (.int .i64 (checkG j)) ∧ Below W.heap.size W w' := check_any j hbig hlong W [a, b, c, d] hT h8 hj
theorem weight_j (j : J) (hm : massJ j ≤ 1048576) (W : World) (a b c d : Value) (hj : JAt AnyB W j [a, b, c, d]) : Calls Tryz.prog 38 #[.agg #[a, b, c, d]] W fun e w' => e = .returned (.int .i64 (weightJ j)) ∧ Below W.heap.size W w' :=
  weight_any j hm W [a, b, c, d] hj
theorem given_j (j : J) (hm : bigM j) (W : World) (a b c d : Value) (hj : JAt AnyB W j [a, b, c, d]) : Calls Tryz.prog 39 #[.agg #[a, b, c, d]] W fun e w' => ∃ v, e = .returned v ∧ JVal (fun g => W.heap.size ≤ g) w' j v ∧ Below W.heap.size W w' :=
  given_any j hm W [a, b, c, d] hj
/-- A box with a value in it. -/
def BoxJ (N : Nat) (j : J) (a b c d : Value) (w : World) : Prop := w.heap[N]? = some (.cells #[a, b, c, d] 47 (0, 0)) ∧ JAt AnyB w j [a, b, c, d]
theorem BoxJ.below {N : Nat} {j : J} {a b c d : Value} {w w' : World} (h : BoxJ N j a b c d w) (hb : Below w.heap.size w w') : BoxJ N j a b c d w' :=
  ⟨(hb.block N (Array.getElem?_eq_some_iff.1 h.1).1).trans h.1, h.2.below hb⟩
theorem BoxJ.new {w : World} {j : J} {a b c d : Value} (h : JAt AnyB w j [a, b, c, d]) : BoxJ w.heap.size j a b c d (w.alloc (.cells #[a, b, c, d] 47)) := ⟨World.alloc_heap_new w _, h.below (galloc (Below.refl _ _) _)⟩
theorem BoxJ.cells {N : Nat} {j : J} {a b c d : Value} {w : World} (h : BoxJ N j a b c d w) : w.cell? ⟨N, 0, none⟩ = some a ∧ w.cell? ⟨N, 1, none⟩ = some b ∧ w.cell? ⟨N, 2, none⟩ = some c ∧ w.cell? ⟨N, 3, none⟩ = some d := box_cells h.1
end Go.Proofs.YtgcpgieojckheaaGreatDoor.Json
namespace Go.Proofs.YtgcpgieojckheaaGreatDoor.Json
open Go.RowKit Go.Shelf

set_option maxHeartbeats 16000000 in
set_option maxRecDepth 100000 in
theorem back_walk (j : J) (s : ByteArray) (W : World) (va vb vc vd : Value) (hT : TabsJ W) (h8 : 8 ≤ W.heap.size) (hj : JAt AnyB W j [va, vb, vc, vd]) (hm : massJ j ≤ 1048576) :
    Calls Tryz.prog 12 #[.agg #[va, vb, vc, vd], .string s] W fun e w' => e = .returned (.bool true) ∧ Below W.heap.size W w' := by
  obtain ⟨kd, tx, pc, nc, cc, pe, ne, ce, rfl, rfl, rfl, rfl⟩ := jat_four hj
  obtain ⟨K, hK⟩ : ∃ K : Int, (kd : Int) = K := ⟨_, rfl⟩
  rw [hK] at hj ⊢
  have hB1 := BoxJ.new hj
  obtain ⟨w1, hw1⟩ : ∃ w1, W.alloc (.cells #[.int .u8 K, .string tx, .slice pc nc cc, .slice pe ne ce] 47) = w1 := ⟨_, rfl⟩
  have hb1 : Below W.heap.size W w1 := by rw [← hw1]; exact galloc (Below.refl _ _) _
  rw [hw1] at hB1
  obtain ⟨N, hN⟩ : ∃ N, W.heap.size = N := ⟨_, rfl⟩
  rw [hN] at hB1
  have HW := Lib.hid hw1
  have HN := Lib.hid hN
  have HT : Hid (∀ w, Below W.heap.size W w → TabsJ w ∧ 8 ≤ w.heap.size) := Lib.hid fun w hb => ⟨hT.below hb h8, Nat.le_trans h8 hb.size⟩
  have HM := Lib.hid hm
  have HB1 := Lib.hid hb1
  have HBX1 := Lib.hid hB1
  have hworks := works_any w1 (HT.out w1 hb1).1 (HT.out w1 hb1).2
  clear hT h8 hj hm hb1 hB1 hK
  go_enter Tryz.func12, Tryz.ntmps12
  go_wp2_with fail
  refine hworks.mono ?_
  rintro e w2 ⟨rfl, hb2⟩
  have HB2 := Lib.hid (gcall HB1.out hb2)
  have hBX2 := HBX1.out.below hb2
  have HBX2 := Lib.hid hBX2
  obtain ⟨c0, c1, c2, c3⟩ := hBX2.cells
  have hweight := weight_j j HM.out w2 _ _ _ _ hBX2.2
  have HWF := Lib.hid (weight_fine j)
  clear hb2 hworks hBX2
  generalize hwt : weightJ j = wt at *
  have HWT := Lib.hid hwt
  clear hwt
  go_wp2_with fail
  refine hweight.mono ?_
  rintro e w3 ⟨rfl, hb3⟩
  have HB3 := Lib.hid (gcall HB2.out hb3)
  have HBX3 := Lib.hid (HBX2.out.below hb3)
  clear hb3 hweight c0 c1 c2 c3
  have hworks3 := works_any w3 (HT.out w3 HB3.out).1 (HT.out w3 HB3.out).2
  by_cases hwl : 1500 ≤ wt
  · have hwl1 : decide ((1500 : Int) ≤ (wt : Int)) = true := decide_eq_true (by omega)
    have hwl2 : decide (1500 ≤ wt) = true := decide_eq_true hwl
    go_wp2_with fail
    refine hworks3.mono ?_
    rintro e w4 ⟨rfl, hb4⟩
    have HB4 := Lib.hid (gcall HB3.out hb4)
    clear hb4 hworks3
    go_wp2
    go_ret
    exact ⟨rfl, by first | exact HB4.out | (rw [← HN.out]; exact HB4.out)⟩
  · have hwl1 : decide ((1500 : Int) ≤ (wt : Int)) = false := decide_eq_false (by omega)
    have hwl2 : decide (1500 ≤ wt) = false := decide_eq_false hwl
    by_cases hs : 4000 < s.size
    · have hs1 : decide ((4000 : Int) < (s.size : Int)) = true := decide_eq_true (by omega)
      have hs2 : decide (4000 < s.size) = true := decide_eq_true hs
      go_wp2_with fail
      refine hworks3.mono ?_
      rintro e w4 ⟨rfl, hb4⟩
      have HB4 := Lib.hid (gcall HB3.out hb4)
      clear hb4 hworks3
      go_wp2
      go_ret
      exact ⟨rfl, by first | exact HB4.out | (rw [← HN.out]; exact HB4.out)⟩
    · have hs1 : decide ((4000 : Int) < (s.size : Int)) = false := decide_eq_false (by omega)
      have hs2 : decide (4000 < s.size) = false := decide_eq_false hs
      obtain ⟨f1, f2, f3, f4⟩ := HWF.out (by omega)
      have HF1 : Hid (countJ j ≤ 2147483647) := Lib.hid (by omega)
      have HF2 := Lib.hid f2
      have HF3 := Lib.hid f3
      have HSZ : Hid (s.data.toList.length ≤ 4000) := Lib.hid (by rw [← Lib.size_eq]; omega)
      obtain ⟨c0, c1, c2, c3⟩ := HBX3.out.cells
      have hgiven := given_j j f4 w3 _ _ _ _ HBX3.out.2
      clear hworks3 f1 f2 f3 f4 HWF HM
      go_wp2_with fail
      refine hgiven.mono ?_
      rintro e w4 ⟨v, rfl, hv, hb4⟩
      obtain ⟨kd4, tx4, pc4, nc4, cc4, pe4, ne4, ce4, rfl, hj4⟩ := jval_four hv
      have HB4 := Lib.hid (gcall HB3.out hb4)
      have HBX4 := Lib.hid (HBX3.out.below hb4)
      have hprint := print_j j HF3.out HF2.out HF1.out w4 _ _ _ _ (HT.out w4 HB4.out).1 (HT.out w4 HB4.out).2 hj4.any
      clear hgiven hv hj4 hb4 c0 c1 c2 c3
      have HPB := Lib.hid (print_back j HF1.out)
      have HPL := Lib.hid (print_len j)
      generalize printO j = O at *
      obtain ⟨o1, o2⟩ := O
      go_wp2_with fail
      refine hprint.mono ?_
      rintro e w5 ⟨rfl, hb5⟩
      have HB5 := Lib.hid (gcall HB4.out hb5)
      have HBX5 := Lib.hid (HBX4.out.below hb5)
      clear hprint hb5
      go_upto_if 32 with fail
      go_cut [8] (fun _ wx => Hid (Below W.heap.size W wx))
      case first =>
        by_cases h0 : o2 = 0
        · have h01 : (o2 == 0) = true := by rw [h0]; rfl
          have hpb : parse o1 = (j, 0) := HPB.out h0
          have hparse := parse_l w5 o1 (HT.out w5 HB5.out).1 (HT.out w5 HB5.out).2 HPL.out
          rw [hpb] at hparse
          clear h0 hpb HPB HPL
          go_wp2_with fail
          refine hparse.mono ?_
          rintro e w6 ⟨v, rfl, hv, hb6⟩
          obtain ⟨kd6, tx6, pc6, nc6, cc6, pe6, ne6, ce6, rfl, hj6⟩ := jval_four hv
          have hBX6 := BoxJ.new hj6.any
          obtain ⟨w7, hw7⟩ : ∃ w7, w6.alloc (.cells #[.int .u8 kd6, .string tx6, .slice pc6 nc6 cc6, .slice pe6 ne6 ce6] 47) = w7 := ⟨_, rfl⟩
          have hb7 : Below w6.heap.size w6 w7 := by rw [← hw7]; exact galloc (Below.refl _ _) _
          rw [hw7] at hBX6
          obtain ⟨V, hV⟩ : ∃ V, w6.heap.size = V := ⟨_, rfl⟩
          rw [hV] at hBX6
          have HB7 := Lib.hid (gcall HB5.out (gcall hb6 hb7))
          have hBX7 := HBX5.out.below (gcall hb6 hb7)
          obtain ⟨c0, c1, c2, c3⟩ := hBX7.cells
          obtain ⟨e0, e1, e2, e3⟩ := hBX6.cells
          have hsame := same_j j j HF3.out w7 _ _ _ _ _ _ _ _ hBX6.2 hBX7.2
          rw [sameJ_self] at hsame
          clear hparse hv hj6 hb6 hb7 hBX6 hBX7
          go_wp2_with fail
          refine hsame.mono ?_
          rintro e w8 ⟨rfl, hb8⟩
          have HB8 := Lib.hid (gcall HB7.out hb8)
          clear hsame hb8
          go_wp2_with fail
          go_meet
          exact HB8
        · have h01 : (o2 == 0) = false := beq_eq_false_iff_ne.2 h0
          clear h0
          go_wp2_with fail
          go_meet
          exact HB5
      have HBc := hcut
      have hparse := parse_any wc s (HT.out wc HBc.out).1 (HT.out wc HBc.out).2 (by rw [Lib.size_eq]; have := HSZ.out; omega)
      have HKB := Lib.hid (parse_big s.data.toList)
      have HKC := Lib.hid (fun (h : parse s.data.toList = ((parse s.data.toList).1, 0)) => And.intro (parse_check h) (parse_long (by have := HSZ.out; omega) h))
      clear HPB HPL hcut
      obtain ⟨Q, hQ⟩ : ∃ Q, parse s.data.toList = Q := ⟨_, rfl⟩
      rw [hQ] at hparse HKB HKC
      clear hQ
      obtain ⟨k, f⟩ := Q
      have HKC2 : Hid (f = 0 → (checkG k = 0 ∧ countJ k ≤ 65536) ∧ longJ k) := Lib.hid (fun h => HKC.out (by rw [h]))
      have HKB2 : Hid (bigJ k) := HKB
      clear HKC HKB
      go_wp2_with fail
      refine hparse.mono ?_
      rintro e w6 ⟨v, rfl, hv, hb6⟩
      obtain ⟨kd6, tx6, pc6, nc6, cc6, pe6, ne6, ce6, rfl, hj6⟩ := jval_four hv
      have hBX6 := BoxJ.new hj6.any
      obtain ⟨w7, hw7⟩ : ∃ w7, w6.alloc (.cells #[.int .u8 kd6, .string tx6, .slice pc6 nc6 cc6, .slice pe6 ne6 ce6] 47) = w7 := ⟨_, rfl⟩
      have hb7 : Below w6.heap.size w6 w7 := by rw [← hw7]; exact galloc (Below.refl _ _) _
      rw [hw7] at hBX6
      obtain ⟨V, hV⟩ : ∃ V, w6.heap.size = V := ⟨_, rfl⟩
      rw [hV] at hBX6
      have HB7 := Lib.hid (gcall HBc.out (gcall hb6 hb7))
      have HBX7 := Lib.hid hBX6
      clear hparse hv hj6 hb6 hb7 hBX6
      by_cases h0 : f = 0
      · have h01 : (f != 0) = false := by rw [h0]; rfl
        obtain ⟨⟨g1, g2⟩, g3⟩ := HKC2.out h0
        have hprint := print_j k HKB2.out g3 (by omega) w7 _ _ _ _ (HT.out w7 HB7.out).1 (HT.out w7 HB7.out).2 HBX7.out.2
        have HPB := Lib.hid (print_back k (by omega))
        have HPL := Lib.hid (print_len k)
        have HPC := Lib.hid (print_code k g1)
        have HG1 := Lib.hid g1
        have HG3 := Lib.hid g3
        obtain ⟨e0, e1, e2, e3⟩ := HBX7.out.cells
        generalize printO k = O2 at *
        obtain ⟨p1, p2⟩ := O2
        clear h0 g1 g2 g3 HKC2
        go_wp2_with fail
        refine hprint.mono ?_
        rintro e w8 ⟨rfl, hb8⟩
        have HB8 := Lib.hid (gcall HB7.out hb8)
        have HBX8 := Lib.hid (HBX7.out.below hb8)
        clear hprint hb8 e0 e1 e2 e3
        by_cases h2 : p2 = 0
        · have h21 : (p2 != 0) = false := by rw [h2]; rfl
          have hpb : parse p1 = (k, 0) := HPB.out h2
          have hparse := parse_l w8 p1 (HT.out w8 HB8.out).1 (HT.out w8 HB8.out).2 HPL.out
          rw [hpb] at hparse
          clear h2 hpb HPB HPL HPC
          go_wp2_with fail
          refine hparse.mono ?_
          rintro e w9 ⟨v, rfl, hv, hb9⟩
          obtain ⟨kd9, tx9, pc9, nc9, cc9, pe9, ne9, ce9, rfl, hj9⟩ := jval_four hv
          have hBX9 := BoxJ.new hj9.any
          obtain ⟨w10, hw10⟩ : ∃ w10, w9.alloc (.cells #[.int .u8 kd9, .string tx9, .slice pc9 nc9 cc9, .slice pe9 ne9 ce9] 47) = w10 := ⟨_, rfl⟩
          have hb10 : Below w9.heap.size w9 w10 := by rw [← hw10]; exact galloc (Below.refl _ _) _
          rw [hw10] at hBX9
          obtain ⟨V2, hV2⟩ : ∃ V2, w9.heap.size = V2 := ⟨_, rfl⟩
          rw [hV2] at hBX9
          have HB10 := Lib.hid (gcall HB8.out (gcall hb9 hb10))
          have hBX10 := HBX8.out.below (gcall hb9 hb10)
          obtain ⟨c0, c1, c2, c3⟩ := hBX10.cells
          obtain ⟨e0, e1, e2, e3⟩ := hBX9.cells
          have hsame := same_j k k HKB2.out w10 _ _ _ _ _ _ _ _ hBX10.2 hBX9.2
          rw [sameJ_self] at hsame
          clear hparse hv hj9 hb9 hb10 hBX9 hBX10
          go_wp2_with fail
          refine hsame.mono ?_
          rintro e w11 ⟨rfl, hb11⟩
          have HB11 := Lib.hid (gcall HB10.out hb11)
          clear hsame hb11
          go_wp2
          go_ret
          exact ⟨rfl, by first | exact HB11.out | (rw [← HN.out]; exact HB11.out)⟩
        · have h21 : (p2 != 0) = true := by simpa using h2
          have h40 : p2 = 40 := HPC.out h2
          have h41 : (p2 == 40) = true := by rw [h40]; rfl
          obtain ⟨e0, e1, e2, e3⟩ := HBX8.out.cells
          have hcheck := check_j k HKB2.out HG3.out w8 _ _ _ _ (HT.out w8 HB8.out).1 (HT.out w8 HB8.out).2 HBX8.out.2
          rw [HG1.out] at hcheck
          clear h2 h40 HPB HPL HPC
          go_wp2_with fail
          refine hcheck.mono ?_
          rintro e w9 ⟨rfl, hb9⟩
          have HB9 := Lib.hid (gcall HB8.out hb9)
          clear hcheck hb9
          go_wp2
          go_ret
          exact ⟨rfl, by first | exact HB9.out | (rw [← HN.out]; exact HB9.out)⟩
      · have h01 : (f != 0) = true := by simpa using h0
        clear h0
        go_wp2_with fail
        go_ret
        exact ⟨rfl, by first | exact HB7.out | (rw [← HN.out]; exact HB7.out)⟩
end Go.Proofs.YtgcpgieojckheaaGreatDoor.Json
