/-
  DecOrder.
-/
import Derived.Test.YtgcpgieojckheaaGreatDoorQ
namespace Go.Proofs.YtgcpgieojckheaaGreatDoor
open Go.RowKit Go.Shelf

theorem cmpN_range (a b : Num) : -1 ≤ cmpN a b ∧ cmpN a b ≤ 1 := by
  unfold cmpN
  split
  · exact cmpI_range _ _
  · rename_i h
    have hs : signN a = signN b := by simpa using h
    rw [← sizesT_eq hs]
    have hr := sizesT_range a b
    exact mul_range (signN_range a) hr.1 hr.2
theorem cmpR_ok {l m : List UInt8} (h : (ownR l).2 = 0) (k : (ownR m).2 = 0) : cmpR l m = (cmpN (readR l).1 (readR m).1, 0) := by
  rw [own_code] at h k
  unfold cmpR; rw [if_neg (by simpa using h), if_neg (by simpa using k)]
set_option maxHeartbeats 1000000 in
theorem decOrder_big (s t u : ByteArray) (w : World) (ht : Tab w) (h : 20000 < s.size ∨ 20000 < t.size ∨ 20000 < u.size) :
    Calls Tryz.prog 7 #[.string s, .string t, .string u] w fun e w' => e = .returned (.bool true) ∧ Below w.heap.size w w' := by
  have hA := fun W (hW : Below w.heap.size w W) => awake_any W (ht.below hW)
  by_cases h1 : (20000 : Int) < (s.size : Int)
  · have d1 : decide ((20000 : Int) < (s.size : Int)) = true := decide_eq_true h1
    clear h
    go_enter Tryz.func7, Tryz.ntmps7
    go_wp2_with fail
    refine (hA _ (Below.refl _ _)).mono ?_
    rintro e w1 ⟨rfl, hb⟩
    have B1 := Lib.hid hb
    clear hb hA
    go_wp2
    go_ret
    exact ⟨rfl, B1.out⟩
  · have d1 : decide ((20000 : Int) < (s.size : Int)) = false := decide_eq_false h1
    by_cases h2 : (20000 : Int) < (t.size : Int)
    · have d2 : decide ((20000 : Int) < (t.size : Int)) = true := decide_eq_true h2
      clear h
      go_enter Tryz.func7, Tryz.ntmps7
      go_wp2_with fail
      refine (hA _ (Below.refl _ _)).mono ?_
      rintro e w1 ⟨rfl, hb⟩
      have B1 := Lib.hid hb
      clear hb hA
      go_wp2
      go_ret
      exact ⟨rfl, B1.out⟩
    · have d2 : decide ((20000 : Int) < (t.size : Int)) = false := decide_eq_false h2
      have h3 : (20000 : Int) < (u.size : Int) := by omega
      have d3 : decide ((20000 : Int) < (u.size : Int)) = true := decide_eq_true h3
      clear h
      go_enter Tryz.func7, Tryz.ntmps7
      go_wp2_with fail
      refine (hA _ (Below.refl _ _)).mono ?_
      rintro e w1 ⟨rfl, hb⟩
      have B1 := Lib.hid hb
      clear hb hA
      go_wp2
      go_ret
      exact ⟨rfl, B1.out⟩
set_option maxHeartbeats 1000000 in
theorem decOrder_bad (w : World) (ht : Tab w) (s t u : ByteArray) (hs : s.size ≤ 20000) (htz : t.size ≤ 20000) (hu : u.size ≤ 20000) (h : ¬ ((ownR s.data.toList).2 = 0 ∧ (ownR t.data.toList).2 = 0 ∧ (ownR u.data.toList).2 = 0)) :
    Calls Tryz.prog 7 #[.string s, .string t, .string u] w fun e w' => e = .returned (.bool true) ∧ Below w.heap.size w w' := by
  have d1 : decide ((20000 : Int) < (s.size : Int)) = false := decide_eq_false (by omega)
  have d2 : decide ((20000 : Int) < (t.size : Int)) = false := decide_eq_false (by omega)
  have d3 : decide ((20000 : Int) < (u.size : Int)) = false := decide_eq_false (by omega)
  have n1 : ¬ (20000 : Int) < (s.size : Int) := by omega
  have n2 : ¬ (20000 : Int) < (t.size : Int) := by omega
  have n3 : ¬ (20000 : Int) < (u.size : Int) := by omega
  have hA := fun W (hW : Below w.heap.size w W) => awake_any W (ht.below hW)
  have c1 := fun W (hW : Below w.heap.size w W) => own_any s W (ht.below hW) (by omega)
  have c2 := fun W (hW : Below w.heap.size w W) => own_any t W (ht.below hW) (by omega)
  have c3 := fun W (hW : Below w.heap.size w W) => own_any u W (ht.below hW) (by omega)
  unfold OwnEnd at c1 c2 c3
  generalize (ownR s.data.toList).2 = E1 at *
  generalize (ownR t.data.toList).2 = E2 at *
  generalize (ownR u.data.toList).2 = E3 at *
  generalize (ownR s.data.toList).1 = l1 at *
  generalize (ownR t.data.toList).1 = l2 at *
  generalize (ownR u.data.toList).1 = l3 at *
  unfold bl at c1 c2 c3
  clear hs htz hu
  by_cases h1 : E1 = 0
  · have q1 : (E1 != 0) = false := by simpa using h1
    have r1 : (E1 == 0) = true := by simpa using h1
    by_cases h2 : E2 = 0
    · have q2 : (E2 != 0) = false := by simpa using h2
      have r2 : (E2 == 0) = true := by simpa using h2
      have h3 : E3 ≠ 0 := fun h3 => h ⟨h1, h2, h3⟩
      have q3 : (E3 != 0) = true := by simpa using h3
      have r3 : (E3 == 0) = false := by simpa using h3
      clear h h1 h2 h3
      go_enter Tryz.func7, Tryz.ntmps7
      go_wp2_with fail
      refine ((hA _ (Below.refl _ _)).mono ?_)
      rintro e w1 ⟨rfl, hb⟩
      have B1 := Lib.hid (gcall (Below.refl _ _) hb)
      clear hb
      go_wp2_with fail
      refine ((c1 _ B1.out).mono ?_)
      rintro e w2 ⟨rfl, hb⟩
      have B2 := Lib.hid (gcall B1.out hb)
      clear hb
      go_wp2_with fail
      refine ((c2 _ B2.out).mono ?_)
      rintro e w3 ⟨rfl, hb⟩
      have B3 := Lib.hid (gcall B2.out hb)
      clear hb
      go_wp2_with fail
      refine ((c3 _ B3.out).mono ?_)
      rintro e w4 ⟨rfl, hb⟩
      have B4 := Lib.hid (gcall B3.out hb)
      clear hb
      go_wp2
      go_ret
      exact ⟨rfl, B4.out⟩
    · have q2 : (E2 != 0) = true := by simpa using h2
      have r2 : (E2 == 0) = false := by simpa using h2
      clear h h1 h2
      go_enter Tryz.func7, Tryz.ntmps7
      go_wp2_with fail
      refine ((hA _ (Below.refl _ _)).mono ?_)
      rintro e w1 ⟨rfl, hb⟩
      have B1 := Lib.hid (gcall (Below.refl _ _) hb)
      clear hb
      go_wp2_with fail
      refine ((c1 _ B1.out).mono ?_)
      rintro e w2 ⟨rfl, hb⟩
      have B2 := Lib.hid (gcall B1.out hb)
      clear hb
      go_wp2_with fail
      refine ((c2 _ B2.out).mono ?_)
      rintro e w3 ⟨rfl, hb⟩
      have B3 := Lib.hid (gcall B2.out hb)
      clear hb
      go_wp2_with fail
      refine ((c3 _ B3.out).mono ?_)
      rintro e w4 ⟨rfl, hb⟩
      have B4 := Lib.hid (gcall B3.out hb)
      clear hb
      go_wp2
      go_ret
      exact ⟨rfl, B4.out⟩
  · have q1 : (E1 != 0) = true := by simpa using h1
    have r1 : (E1 == 0) = false := by simpa using h1
    clear h h1
    go_enter Tryz.func7, Tryz.ntmps7
    go_wp2_with fail
    refine ((hA _ (Below.refl _ _)).mono ?_)
    rintro e w1 ⟨rfl, hb⟩
    have B1 := Lib.hid (gcall (Below.refl _ _) hb)
    clear hb
    go_wp2_with fail
    refine ((c1 _ B1.out).mono ?_)
    rintro e w2 ⟨rfl, hb⟩
    have B2 := Lib.hid (gcall B1.out hb)
    clear hb
    go_wp2_with fail
    refine ((c2 _ B2.out).mono ?_)
    rintro e w3 ⟨rfl, hb⟩
    have B3 := Lib.hid (gcall B2.out hb)
    clear hb
    go_wp2_with fail
    refine ((c3 _ B3.out).mono ?_)
    rintro e w4 ⟨rfl, hb⟩
    have B4 := Lib.hid (gcall B3.out hb)
    clear hb
    go_wp2
    go_ret
    exact ⟨rfl, B4.out⟩
set_option maxHeartbeats 4000000 in
theorem decOrder_ok (w : World) (ht : Tab w) (s t u : ByteArray) (hs : s.size ≤ 20000) (htz : t.size ≤ 20000) (hu : u.size ≤ 20000) (h1 : (ownR s.data.toList).2 = 0) (h2 : (ownR t.data.toList).2 = 0) (h3 : (ownR u.data.toList).2 = 0) :
    Calls Tryz.prog 7 #[.string s, .string t, .string u] w fun e w' => e = .returned (.bool true) ∧ Below w.heap.size w w' := by
  have d1 : decide ((20000 : Int) < (s.size : Int)) = false := decide_eq_false (by omega)
  have d2 : decide ((20000 : Int) < (t.size : Int)) = false := decide_eq_false (by omega)
  have d3 : decide ((20000 : Int) < (u.size : Int)) = false := decide_eq_false (by omega)
  have n1 : ¬ (20000 : Int) < (s.size : Int) := by omega
  have n2 : ¬ (20000 : Int) < (t.size : Int) := by omega
  have n3 : ¬ (20000 : Int) < (u.size : Int) := by omega
  have hA := fun W (hW : Below w.heap.size w W) => awake_any W (ht.below hW)
  have c1 := fun W (hW : Below w.heap.size w W) => own_any s W (ht.below hW) (by omega)
  have c2 := fun W (hW : Below w.heap.size w W) => own_any t W (ht.below hW) (by omega)
  have c3 := fun W (hW : Below w.heap.size w W) => own_any u W (ht.below hW) (by omega)
  unfold OwnEnd at c1 c2 c3
  have c4 := fun W => cmp_any s t W (by omega) (by omega)
  have c5 := fun W => cmp_any t s W (by omega) (by omega)
  have c6 := fun W => cmp_any t u W (by omega) (by omega)
  have c7 := fun W => cmp_any s u W (by omega) (by omega)
  unfold CmpEnd at c4 c5 c6 c7
  have hal := alike_iff s.data.toList t.data.toList (by rw [← own_code]; exact h1) (by rw [← own_code]; exact h2)
  rw [cmpR_ok h1 h2] at c4 hal
  rw [cmpR_ok h2 h1] at c5
  rw [cmpR_ok h2 h3] at c6
  rw [cmpR_ok h1 h3] at c7
  rw [h1] at c1
  rw [h2] at c2
  rw [h3] at c3
  have han := cmp_ord.anti (readR t.data.toList).1 (readR s.data.toList).1
  have htr := cmp_ord.tr (readR s.data.toList).1 (readR t.data.toList).1 (readR u.data.toList).1
  have hr := cmpN_range (readR s.data.toList).1 (readR t.data.toList).1
  simp only [han] at c5
  simp only at hal
  obtain ⟨SA, hSA⟩ : ∃ x : ByteArray, (⟨(ownR s.data.toList).1.toArray⟩ : ByteArray) = x := ⟨_, rfl⟩
  obtain ⟨SB, hSB⟩ : ∃ x : ByteArray, (⟨(ownR t.data.toList).1.toArray⟩ : ByteArray) = x := ⟨_, rfl⟩
  have eA : SA.toList = (ownR s.data.toList).1 := by rw [Lib.toList_data, ← hSA]
  have eB : SB.toList = (ownR t.data.toList).1 := by rw [Lib.toList_data, ← hSB]
  unfold bl at c1 c2 c3
  rw [hSA] at c1
  rw [hSB] at c2
  rw [← eA, ← eB] at hal
  generalize (ownR u.data.toList).1 = l3 at *
  generalize cmpN (readR s.data.toList).1 (readR t.data.toList).1 = X at *
  generalize cmpN (readR t.data.toList).1 (readR u.data.toList).1 = Z at *
  generalize cmpN (readR s.data.toList).1 (readR u.data.toList).1 = V at *
  have hw1 : IntKind.i64.wrap X = X := IntWalk.i64_in _ (by omega)
  have hw2 : IntKind.i64.wrap (- -X) = X := by rw [Int.neg_neg]; exact hw1
  clear hs htz hu han hr hSA hSB eA eB h1 h2 h3
  by_cases hX : X = 0
  · have g1 : (X == 0) = true := by simpa using hX
    have g2 : (SA.toList == SB.toList) = true := by simpa using hal.1 hX
    have g3 : decide (X ≤ 0) = true := decide_eq_true (by omega)
    have g4 : X ≤ 0 := by omega
    by_cases hZ : Z ≤ 0
    · have hv := htr g4 hZ
      have g5 : decide (Z ≤ 0) = true := decide_eq_true hZ
      have g6 : decide (V ≤ 0) = true := decide_eq_true hv.1
      have g7 : V ≤ 0 := hv.1
      by_cases hV : V < 0
      · have g8 : decide (V < 0) = true := decide_eq_true hV
        clear hX hal htr hv
        go_enter Tryz.func7, Tryz.ntmps7
        go_wp2_with fail
        refine ((hA _ (Below.refl _ _)).mono ?_)
        rintro e w1 ⟨rfl, hb⟩
        have B1 := Lib.hid (gcall (Below.refl _ _) hb)
        clear hb
        go_wp2_with fail
        refine ((c1 _ B1.out).mono ?_)
        rintro e w2 ⟨rfl, hb⟩
        have B2 := Lib.hid (gcall B1.out hb)
        clear hb
        go_wp2_with fail
        refine ((c2 _ B2.out).mono ?_)
        rintro e w3 ⟨rfl, hb⟩
        have B3 := Lib.hid (gcall B2.out hb)
        clear hb
        go_wp2_with fail
        refine ((c3 _ B3.out).mono ?_)
        rintro e w4 ⟨rfl, hb⟩
        have B4 := Lib.hid (gcall B3.out hb)
        clear hb
        go_wp2_with fail
        refine ((c4 _).mono ?_)
        rintro e w5 ⟨rfl, hb⟩
        have B5 := Lib.hid (gcall B4.out hb)
        clear hb
        go_wp2_with fail
        refine ((c5 _).mono ?_)
        rintro e w6 ⟨rfl, hb⟩
        have B6 := Lib.hid (gcall B5.out hb)
        clear hb
        go_wp2_with fail
        refine ((c6 _).mono ?_)
        rintro e w7 ⟨rfl, hb⟩
        have B7 := Lib.hid (gcall B6.out hb)
        clear hb
        go_wp2_with fail
        refine ((c7 _).mono ?_)
        rintro e w8 ⟨rfl, hb⟩
        have B8 := Lib.hid (gcall B7.out hb)
        clear hb
        go_wp2
        go_ret
        exact ⟨by simp, B8.out⟩
      · have g8 : decide (V < 0) = false := decide_eq_false hV
        have hz0 : Z = 0 := (hv.2 (by omega)).2
        have g9 : (Z == 0) = true := by simpa using hz0
        clear hX hal htr hv hz0
        go_enter Tryz.func7, Tryz.ntmps7
        go_wp2_with fail
        refine ((hA _ (Below.refl _ _)).mono ?_)
        rintro e w1 ⟨rfl, hb⟩
        have B1 := Lib.hid (gcall (Below.refl _ _) hb)
        clear hb
        go_wp2_with fail
        refine ((c1 _ B1.out).mono ?_)
        rintro e w2 ⟨rfl, hb⟩
        have B2 := Lib.hid (gcall B1.out hb)
        clear hb
        go_wp2_with fail
        refine ((c2 _ B2.out).mono ?_)
        rintro e w3 ⟨rfl, hb⟩
        have B3 := Lib.hid (gcall B2.out hb)
        clear hb
        go_wp2_with fail
        refine ((c3 _ B3.out).mono ?_)
        rintro e w4 ⟨rfl, hb⟩
        have B4 := Lib.hid (gcall B3.out hb)
        clear hb
        go_wp2_with fail
        refine ((c4 _).mono ?_)
        rintro e w5 ⟨rfl, hb⟩
        have B5 := Lib.hid (gcall B4.out hb)
        clear hb
        go_wp2_with fail
        refine ((c5 _).mono ?_)
        rintro e w6 ⟨rfl, hb⟩
        have B6 := Lib.hid (gcall B5.out hb)
        clear hb
        go_wp2_with fail
        refine ((c6 _).mono ?_)
        rintro e w7 ⟨rfl, hb⟩
        have B7 := Lib.hid (gcall B6.out hb)
        clear hb
        go_wp2_with fail
        refine ((c7 _).mono ?_)
        rintro e w8 ⟨rfl, hb⟩
        have B8 := Lib.hid (gcall B7.out hb)
        clear hb
        go_wp2
        go_ret
        exact ⟨by simp, B8.out⟩
    · have g5 : decide (Z ≤ 0) = false := decide_eq_false hZ
      clear hX hal htr
      go_enter Tryz.func7, Tryz.ntmps7
      go_wp2_with fail
      refine ((hA _ (Below.refl _ _)).mono ?_)
      rintro e w1 ⟨rfl, hb⟩
      have B1 := Lib.hid (gcall (Below.refl _ _) hb)
      clear hb
      go_wp2_with fail
      refine ((c1 _ B1.out).mono ?_)
      rintro e w2 ⟨rfl, hb⟩
      have B2 := Lib.hid (gcall B1.out hb)
      clear hb
      go_wp2_with fail
      refine ((c2 _ B2.out).mono ?_)
      rintro e w3 ⟨rfl, hb⟩
      have B3 := Lib.hid (gcall B2.out hb)
      clear hb
      go_wp2_with fail
      refine ((c3 _ B3.out).mono ?_)
      rintro e w4 ⟨rfl, hb⟩
      have B4 := Lib.hid (gcall B3.out hb)
      clear hb
      go_wp2_with fail
      refine ((c4 _).mono ?_)
      rintro e w5 ⟨rfl, hb⟩
      have B5 := Lib.hid (gcall B4.out hb)
      clear hb
      go_wp2_with fail
      refine ((c5 _).mono ?_)
      rintro e w6 ⟨rfl, hb⟩
      have B6 := Lib.hid (gcall B5.out hb)
      clear hb
      go_wp2_with fail
      refine ((c6 _).mono ?_)
      rintro e w7 ⟨rfl, hb⟩
      have B7 := Lib.hid (gcall B6.out hb)
      clear hb
      go_wp2_with fail
      refine ((c7 _).mono ?_)
      rintro e w8 ⟨rfl, hb⟩
      have B8 := Lib.hid (gcall B7.out hb)
      clear hb
      go_wp2
      go_ret
      exact ⟨by simp, B8.out⟩
  · have g1 : (X == 0) = false := by simpa using hX
    have g2 : (SA.toList == SB.toList) = false := by rw [beq_eq_false_iff_ne]; exact fun e => hX (hal.2 e)
    by_cases hX0 : X ≤ 0
    · have g3 : decide (X ≤ 0) = true := decide_eq_true hX0
      by_cases hZ : Z ≤ 0
      · have hv := htr hX0 hZ
        have g5 : decide (Z ≤ 0) = true := decide_eq_true hZ
        have g6 : decide (V ≤ 0) = true := decide_eq_true hv.1
        have g7 : V ≤ 0 := hv.1
        have hV : V < 0 := by
          rcases Int.lt_or_le V 0 with h | h
          · exact h
          · exact absurd (hv.2 (by omega)).1 hX
        have g8 : decide (V < 0) = true := decide_eq_true hV
        clear hX hal htr hv
        go_enter Tryz.func7, Tryz.ntmps7
        go_wp2_with fail
        refine ((hA _ (Below.refl _ _)).mono ?_)
        rintro e w1 ⟨rfl, hb⟩
        have B1 := Lib.hid (gcall (Below.refl _ _) hb)
        clear hb
        go_wp2_with fail
        refine ((c1 _ B1.out).mono ?_)
        rintro e w2 ⟨rfl, hb⟩
        have B2 := Lib.hid (gcall B1.out hb)
        clear hb
        go_wp2_with fail
        refine ((c2 _ B2.out).mono ?_)
        rintro e w3 ⟨rfl, hb⟩
        have B3 := Lib.hid (gcall B2.out hb)
        clear hb
        go_wp2_with fail
        refine ((c3 _ B3.out).mono ?_)
        rintro e w4 ⟨rfl, hb⟩
        have B4 := Lib.hid (gcall B3.out hb)
        clear hb
        go_wp2_with fail
        refine ((c4 _).mono ?_)
        rintro e w5 ⟨rfl, hb⟩
        have B5 := Lib.hid (gcall B4.out hb)
        clear hb
        go_wp2_with fail
        refine ((c5 _).mono ?_)
        rintro e w6 ⟨rfl, hb⟩
        have B6 := Lib.hid (gcall B5.out hb)
        clear hb
        go_wp2_with fail
        refine ((c6 _).mono ?_)
        rintro e w7 ⟨rfl, hb⟩
        have B7 := Lib.hid (gcall B6.out hb)
        clear hb
        go_wp2_with fail
        refine ((c7 _).mono ?_)
        rintro e w8 ⟨rfl, hb⟩
        have B8 := Lib.hid (gcall B7.out hb)
        clear hb
        go_wp2
        go_ret
        exact ⟨by simp, B8.out⟩
      · have g5 : decide (Z ≤ 0) = false := decide_eq_false hZ
        clear hX hal htr
        go_enter Tryz.func7, Tryz.ntmps7
        go_wp2_with fail
        refine ((hA _ (Below.refl _ _)).mono ?_)
        rintro e w1 ⟨rfl, hb⟩
        have B1 := Lib.hid (gcall (Below.refl _ _) hb)
        clear hb
        go_wp2_with fail
        refine ((c1 _ B1.out).mono ?_)
        rintro e w2 ⟨rfl, hb⟩
        have B2 := Lib.hid (gcall B1.out hb)
        clear hb
        go_wp2_with fail
        refine ((c2 _ B2.out).mono ?_)
        rintro e w3 ⟨rfl, hb⟩
        have B3 := Lib.hid (gcall B2.out hb)
        clear hb
        go_wp2_with fail
        refine ((c3 _ B3.out).mono ?_)
        rintro e w4 ⟨rfl, hb⟩
        have B4 := Lib.hid (gcall B3.out hb)
        clear hb
        go_wp2_with fail
        refine ((c4 _).mono ?_)
        rintro e w5 ⟨rfl, hb⟩
        have B5 := Lib.hid (gcall B4.out hb)
        clear hb
        go_wp2_with fail
        refine ((c5 _).mono ?_)
        rintro e w6 ⟨rfl, hb⟩
        have B6 := Lib.hid (gcall B5.out hb)
        clear hb
        go_wp2_with fail
        refine ((c6 _).mono ?_)
        rintro e w7 ⟨rfl, hb⟩
        have B7 := Lib.hid (gcall B6.out hb)
        clear hb
        go_wp2_with fail
        refine ((c7 _).mono ?_)
        rintro e w8 ⟨rfl, hb⟩
        have B8 := Lib.hid (gcall B7.out hb)
        clear hb
        go_wp2
        go_ret
        exact ⟨by simp, B8.out⟩
    · have g3 : decide (X ≤ 0) = false := decide_eq_false hX0
      clear hX hal htr
      go_enter Tryz.func7, Tryz.ntmps7
      go_wp2_with fail
      refine ((hA _ (Below.refl _ _)).mono ?_)
      rintro e w1 ⟨rfl, hb⟩
      have B1 := Lib.hid (gcall (Below.refl _ _) hb)
      clear hb
      go_wp2_with fail
      refine ((c1 _ B1.out).mono ?_)
      rintro e w2 ⟨rfl, hb⟩
      have B2 := Lib.hid (gcall B1.out hb)
      clear hb
      go_wp2_with fail
      refine ((c2 _ B2.out).mono ?_)
      rintro e w3 ⟨rfl, hb⟩
      have B3 := Lib.hid (gcall B2.out hb)
      clear hb
      go_wp2_with fail
      refine ((c3 _ B3.out).mono ?_)
      rintro e w4 ⟨rfl, hb⟩
      have B4 := Lib.hid (gcall B3.out hb)
      clear hb
      go_wp2_with fail
      refine ((c4 _).mono ?_)
      rintro e w5 ⟨rfl, hb⟩
      have B5 := Lib.hid (gcall B4.out hb)
      clear hb
      go_wp2_with fail
      refine ((c5 _).mono ?_)
      rintro e w6 ⟨rfl, hb⟩
      have B6 := Lib.hid (gcall B5.out hb)
      clear hb
      go_wp2_with fail
      refine ((c6 _).mono ?_)
      rintro e w7 ⟨rfl, hb⟩
      have B7 := Lib.hid (gcall B6.out hb)
      clear hb
      go_wp2_with fail
      refine ((c7 _).mono ?_)
      rintro e w8 ⟨rfl, hb⟩
      have B8 := Lib.hid (gcall B7.out hb)
      clear hb
      go_wp2
      go_ret
      exact ⟨by simp, B8.out⟩
theorem decOrder_walk (s t u : ByteArray) (w : World) (ht : Tab w) :
    Calls Tryz.prog 7 #[.string s, .string t, .string u] w fun e w' => e = .returned (.bool true) ∧ Below w.heap.size w w' := by
  by_cases hb : 20000 < s.size ∨ 20000 < t.size ∨ 20000 < u.size
  · exact decOrder_big s t u w ht hb
  · by_cases he : (ownR s.data.toList).2 = 0 ∧ (ownR t.data.toList).2 = 0 ∧ (ownR u.data.toList).2 = 0
    · exact decOrder_ok w ht s t u (by omega) (by omega) (by omega) he.1 he.2.1 he.2.2
    · exact decOrder_bad w ht s t u (by omega) (by omega) (by omega) he
end Go.Proofs.YtgcpgieojckheaaGreatDoor
