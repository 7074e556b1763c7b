/-
  The reference: Cmp.
-/
import Derived.Test.YtgcpgieojckheaaGreatDoorZ
namespace Go.Proofs.YtgcpgieojckheaaGreatDoor
open Go.RowKit Go.Shelf

structure TwoB (N M : Nat) (na : Bool) (TA : ByteArray) (ea : Int) (nb : Bool) (TB : ByteArray) (eb : Int) (W : World) : Prop where
  a : W.heap[N]? = some (.cells #[.bool na, .string TA, .int .i64 ea] 73 (0, 0))
  b : W.heap[M]? = some (.cells #[.bool nb, .string TB, .int .i64 eb] 73 (0, 0))
theorem TwoB.cells {N M : Nat} {na nb : Bool} {TA TB : ByteArray} {ea eb : Int} {W : World} (h : TwoB N M na TA ea nb TB eb W) :
    W.cell? ⟨N, 0, none⟩ = some (.bool na) ∧ W.cell? ⟨N, 1, none⟩ = some (.string TA) ∧ W.cell? ⟨N, 2, none⟩ = some (.int .i64 ea) ∧ W.cell? ⟨M, 0, none⟩ = some (.bool nb) ∧ W.cell? ⟨M, 1, none⟩ = some (.string TB) ∧ W.cell? ⟨M, 2, none⟩ = some (.int .i64 eb) := by
  obtain ⟨a, b, c, _⟩ := cells3 h.a
  obtain ⟨d, e, f, _⟩ := cells3 h.b
  exact ⟨a, b, c, d, e, f⟩
theorem TwoB.below {N M : Nat} {na nb : Bool} {TA TB : ByteArray} {ea eb : Int} {W W' : World} (h : TwoB N M na TA ea nb TB eb W) (hb : Below W.heap.size W W') : TwoB N M na TA ea nb TB eb W' :=
  ⟨(hb.block _ (Array.getElem?_eq_some_iff.1 h.a).1).trans h.a, (hb.block _ (Array.getElem?_eq_some_iff.1 h.b).1).trans h.b⟩
set_option maxHeartbeats 4000000 in
theorem rcmp_any (s t : ByteArray) (w : World) (hs : s.size ≤ 30000) (ht : t.size ≤ 30000) : Calls Tryz.prog 23 #[.string s, .string t] w (CmpEnd s.data.toList t.data.toList w) := by
  have ga := rget_any s w hs
  have gb := fun W => rget_any t W ht
  generalize s.data.toList = l at *
  generalize t.data.toList = m at *
  unfold GetEnd at ga gb
  by_cases h0 : (readR l).2 = 0
  · obtain ⟨TA, eA, hA⟩ := refV_eq (readR l).1
    by_cases h1 : (readR m).2 = 0
    · have ho : cmpR l m = (cmpN (readR l).1 (readR m).1, 0) := by unfold cmpR; rw [if_neg (by simpa using h0), if_neg (by simpa using h1)]
      have HO := Lib.hid ho
      obtain ⟨ca, la⟩ := canon_read l
      obtain ⟨cb, lb⟩ := canon_read m
      obtain ⟨TB, eB, hB⟩ := refV_eq (readR m).1
      rw [h0, hA] at ga
      rw [h1, hB] at gb
      have cA := fun W => rsign_any (readR l).1 W
      have cB := fun W => rsign_any (readR m).1 W
      have cS := fun W => rabove_any (readR l).1 (readR m).1 W la lb
      simp only [hA] at cA cS
      simp only [hB] at cB cS
      have hr := aboveR_range (readR l).1 (readR m).1
      have hm := mul_range (signN_range (readR l).1) hr.1 hr.2
      have hsg := signN_range (readR l).1
      have HS : Hid (cmpN (readR l).1 (readR m).1 = if signN (readR l).1 ≠ signN (readR m).1 then cmpI (signN (readR l).1) (signN (readR m).1) else signN (readR l).1 * aboveR (readR l).1 (readR m).1) := Lib.hid (by
        rw [aboveR_eq ca cb]; rfl)
      generalize cmpN (readR l).1 (readR m).1 = R at *
      generalize signN (readR l).1 = X at *
      generalize signN (readR m).1 = Y at *
      generalize aboveR (readR l).1 (readR m).1 = Z at *
      generalize (readR l).1 = a at *
      generalize (readR m).1 = b at *
      generalize a.neg = na at *
      generalize a.exp = ea at *
      generalize b.neg = nb at *
      generalize b.exp = eb at *
      clear hA hB eA eB ca la cb lb ho h0 h1 hr
      have HM := Lib.hid hm
      have HSG := Lib.hid hsg
      go_enter Tryz.func23, Tryz.ntmps23
      go_wp2_with fail
      refine ga.mono ?_
      rintro e w1 ⟨rfl, hb1⟩
      have B1 := galloc hb1 (.cells #[.bool na, .string TA, .int .i64 ea] 73)
      have kA := World.alloc_heap_new w1 (.cells #[.bool na, .string TA, .int .i64 ea] 73)
      have hz1 : w1.heap.size < (w1.alloc (.cells #[.bool na, .string TA, .int .i64 ea] 73)).heap.size := by simp
      clear hb1 ga
      go_wp2_with fail
      generalize w1.alloc (.cells #[.bool na, .string TA, .int .i64 ea] 73) = W1 at *
      refine (gb _).mono ?_
      rintro e w2 ⟨rfl, hb2⟩
      have B2 := galloc (gcall B1 hb2) (.cells #[.bool nb, .string TB, .int .i64 eb] 73)
      have T0 : TwoB w1.heap.size w2.heap.size na TA ea nb TB eb (w2.alloc (.cells #[.bool nb, .string TB, .int .i64 eb] 73)) :=
        ⟨(Below.heap_alloc _ _ _ (Nat.lt_of_lt_of_le hz1 hb2.size)).trans ((hb2.block _ hz1).trans kA), World.alloc_heap_new w2 _⟩
      clear hb2 gb B1 kA hz1
      have HB0 := Lib.hid B2
      have HT0 := Lib.hid T0
      clear B2 T0
      go_wp2
      generalize w2.alloc (.cells #[.bool nb, .string TB, .int .i64 eb] 73) = W0 at *
      have c0 := HT0.out.cells
      by_cases hXY : X = Y
      · subst hXY
        have hq1 : (X == X) = true := by simp
        have hq2 : (X != X) = false := by simp
        go_region_held3 (fun u => u.cell? ⟨w1.heap.size, 0, none⟩ = some (.bool na) ∧ u.cell? ⟨w1.heap.size, 1, none⟩ = some (.string TA) ∧ u.cell? ⟨w1.heap.size, 2, none⟩ = some (.int .i64 ea) ∧ u.cell? ⟨w2.heap.size, 0, none⟩ = some (.bool nb) ∧ u.cell? ⟨w2.heap.size, 1, none⟩ = some (.string TB) ∧ u.cell? ⟨w2.heap.size, 2, none⟩ = some (.int .i64 eb)) (first | exact c0 | (with_reducible exact cv1) | (with_reducible exact cv2) | go_keep) (first | (go_at_call 54; (with_reducible refine Calls.mono (cA _) ?_); rintro e v1 ⟨rfl, hbv1⟩; have ggv1 : Below w.heap.size w v1 := gcall HB0.out.drew hbv1; have Tv1 := HT0.out.below ((Below.refl _ _).drew.trans hbv1); have cv1 := Tv1.cells) | (go_at_call 54; (with_reducible refine Calls.mono (cB _) ?_); rintro e v2 ⟨rfl, hbv2⟩; have ggv2 : Below w.heap.size w v2 := gcall ggv1 hbv2; have Tv2 := Tv1.below hbv2; have cv2 := Tv2.cells))
        have HBn1 := Lib.hid ggv2
        have HTn1 := Lib.hid Tv2
        clear cv1 cv2 Tv1 Tv2 ggv1 ggv2 hbv1 hbv2
        clear c0
        obtain ⟨q0, q1, q2, q3, q4, q5⟩ := HTn1.out.cells
        go_wp2_with fail
        refine (cA _).mono ?_
        rintro e w3 ⟨rfl, hb3⟩
        have HB3 := Lib.hid (gcall HBn1.out hb3)
        have HT3 := Lib.hid (HTn1.out.below hb3)
        clear hb3 q0 q1 q2 q3 q4 q5 HBn1 HTn1
        by_cases hX0 : X = 0
        · have HF : Hid (R = 0) := Lib.hid (by rw [HS.out, if_neg (by simp), hX0]; simp)
          subst hX0
          go_wp2
          go_ret2
          exact ⟨by rw [HO.out, HF.out]; rfl, HB3.out⟩
        · have HF : Hid (R = X * Z) := Lib.hid (by rw [HS.out, if_neg (by simp)])
          have hX1 : (X == 0) = false := by simpa using hX0
          have hw : IntKind.i64.wrap (X * Z) = X * Z := IntWalk.i64_in _ (by have := HM.out; omega)
          have d0 := HT3.out.cells
          go_wp2
          go_region_held3 (fun u => u.cell? ⟨w1.heap.size, 0, none⟩ = some (.bool na) ∧ u.cell? ⟨w1.heap.size, 1, none⟩ = some (.string TA) ∧ u.cell? ⟨w1.heap.size, 2, none⟩ = some (.int .i64 ea) ∧ u.cell? ⟨w2.heap.size, 0, none⟩ = some (.bool nb) ∧ u.cell? ⟨w2.heap.size, 1, none⟩ = some (.string TB) ∧ u.cell? ⟨w2.heap.size, 2, none⟩ = some (.int .i64 eb)) (first | exact d0 | (with_reducible exact cv3) | (with_reducible exact cv4) | go_keep) (first | (go_at_call 54; (with_reducible refine Calls.mono (cA _) ?_); rintro e v3 ⟨rfl, hbv3⟩; have ggv3 : Below w.heap.size w v3 := gcall HB3.out.drew hbv3; have Tv3 := HT3.out.below ((Below.refl _ _).drew.trans hbv3); have cv3 := Tv3.cells) | (go_at_call 55; (with_reducible refine Calls.mono (cS _) ?_); rintro e v4 ⟨rfl, hbv4⟩; have ggv4 : Below w.heap.size w v4 := gcall ggv3 hbv4; have Tv4 := Tv3.below hbv4; have cv4 := Tv4.cells))
          have HBn3 := Lib.hid ggv4
          have HTn3 := Lib.hid Tv4
          clear cv3 cv4 Tv3 Tv4 ggv3 ggv4 hbv3 hbv4
          clear d0
          go_wp2
          go_ret2
          exact ⟨by rw [HO.out, HF.out]; rfl, HBn3.out⟩
      · have hq1 : (X == Y) = false := by simpa using hXY
        have hq2 : (X != Y) = true := by simpa using hXY
        have HF : Hid (R = cmpI X Y) := Lib.hid (by rw [HS.out, if_pos hXY])
        go_region_held3 (fun u => u.cell? ⟨w1.heap.size, 0, none⟩ = some (.bool na) ∧ u.cell? ⟨w1.heap.size, 1, none⟩ = some (.string TA) ∧ u.cell? ⟨w1.heap.size, 2, none⟩ = some (.int .i64 ea) ∧ u.cell? ⟨w2.heap.size, 0, none⟩ = some (.bool nb) ∧ u.cell? ⟨w2.heap.size, 1, none⟩ = some (.string TB) ∧ u.cell? ⟨w2.heap.size, 2, none⟩ = some (.int .i64 eb)) (first | exact c0 | (with_reducible exact cv1) | (with_reducible exact cv2) | go_keep) (first | (go_at_call 54; (with_reducible refine Calls.mono (cA _) ?_); rintro e v1 ⟨rfl, hbv1⟩; have ggv1 : Below w.heap.size w v1 := gcall HB0.out.drew hbv1; have Tv1 := HT0.out.below ((Below.refl _ _).drew.trans hbv1); have cv1 := Tv1.cells) | (go_at_call 54; (with_reducible refine Calls.mono (cB _) ?_); rintro e v2 ⟨rfl, hbv2⟩; have ggv2 : Below w.heap.size w v2 := gcall ggv1 hbv2; have Tv2 := Tv1.below hbv2; have cv2 := Tv2.cells))
        have HBn1 := Lib.hid ggv2
        have HTn1 := Lib.hid Tv2
        clear cv1 cv2 Tv1 Tv2 ggv1 ggv2 hbv1 hbv2
        have d0 := HTn1.out.cells
        clear c0
        go_wp2
        go_region_held3 (fun u => u.cell? ⟨w1.heap.size, 0, none⟩ = some (.bool na) ∧ u.cell? ⟨w1.heap.size, 1, none⟩ = some (.string TA) ∧ u.cell? ⟨w1.heap.size, 2, none⟩ = some (.int .i64 ea) ∧ u.cell? ⟨w2.heap.size, 0, none⟩ = some (.bool nb) ∧ u.cell? ⟨w2.heap.size, 1, none⟩ = some (.string TB) ∧ u.cell? ⟨w2.heap.size, 2, none⟩ = some (.int .i64 eb)) (first | exact d0 | (with_reducible exact cv3) | (with_reducible exact cv4) | go_keep) (first | (go_at_call 54; (with_reducible refine Calls.mono (cA _) ?_); rintro e v3 ⟨rfl, hbv3⟩; have ggv3 : Below w.heap.size w v3 := gcall HBn1.out.drew hbv3; have Tv3 := HTn1.out.below ((Below.refl _ _).drew.trans hbv3); have cv3 := Tv3.cells) | (go_at_call 54; (with_reducible refine Calls.mono (cB _) ?_); rintro e v4 ⟨rfl, hbv4⟩; have ggv4 : Below w.heap.size w v4 := gcall ggv3 hbv4; have Tv4 := Tv3.below hbv4; have cv4 := Tv4.cells))
        have HBn3 := Lib.hid ggv4
        have HTn3 := Lib.hid Tv4
        clear cv3 cv4 Tv3 Tv4 ggv3 ggv4 hbv3 hbv4
        clear d0
        by_cases hlt : X < Y
        · have HF2 : Hid (R = -1) := Lib.hid (by rw [HF.out]; unfold cmpI; rw [if_pos hlt])
          go_wp2
          go_ret2
          exact ⟨by rw [HO.out, HF2.out]; rfl, HBn3.out⟩
        · have HF2 : Hid (R = 1) := Lib.hid (by rw [HF.out]; unfold cmpI; rw [if_neg hlt, if_pos (by omega)])
          go_wp2
          go_ret2
          exact ⟨by rw [HO.out, HF2.out]; rfl, HBn3.out⟩
    · have ho : cmpR l m = (0, (readR m).2) := by unfold cmpR; rw [if_neg (by simpa using h0), if_pos h1]
      have HO := Lib.hid ho
      obtain ⟨TB, eB, hB⟩ := refV_eq (readR m).1
      rw [h0, hA] at ga
      rw [hB] at gb
      generalize (readR m).2 = E at *
      have e1 : (E == 0) = false := by simpa using h1
      have e2 : (E != 0) = true := by simpa using h1
      generalize (readR l).1 = a at *
      generalize (readR m).1 = b at *
      clear hA hB eA eB ho h0 h1
      go_enter Tryz.func23, Tryz.ntmps23
      go_wp2_with fail
      refine ga.mono ?_
      rintro e w1 ⟨rfl, hb1⟩
      have HB1 := Lib.hid (galloc hb1 (.cells #[.bool a.neg, .string TA, .int .i64 a.exp] 73))
      clear hb1 ga
      go_wp2_with fail
      generalize w1.alloc (.cells #[.bool a.neg, .string TA, .int .i64 a.exp] 73) = W1 at *
      refine (gb _).mono ?_
      rintro e w2 ⟨rfl, hb2⟩
      have HB2 := Lib.hid (gcall HB1.out hb2)
      clear hb2 gb
      go_wp2
      go_ret2
      exact ⟨by rw [HO.out]; rfl, galloc HB2.out _⟩
  · have ho : cmpR l m = (0, (readR l).2) := by unfold cmpR; rw [if_pos h0]
    have HO := Lib.hid ho
    obtain ⟨TA, eA, hA⟩ := refV_eq (readR l).1
    rw [hA] at ga
    generalize (readR l).2 = E at *
    have e1 : (E == 0) = false := by simpa using h0
    have e2 : (E != 0) = true := by simpa using h0
    generalize (readR l).1 = a at *
    clear hA eA ho h0 gb
    go_enter Tryz.func23, Tryz.ntmps23
    go_wp2_with fail
    refine ga.mono ?_
    rintro e w1 ⟨rfl, hb1⟩
    have HB1 := Lib.hid hb1
    clear hb1 ga
    go_wp2
    go_ret2
    exact ⟨by rw [HO.out]; rfl, galloc HB1.out _⟩
end Go.Proofs.YtgcpgieojckheaaGreatDoor
