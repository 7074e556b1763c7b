/-
  DecForms, DecCompares.
-/
import Derived.Test.YtgcpgieojckheaaGreatDoorAB
import Derived.Test.YtgcpgieojckheaaGreatDoorQ
namespace Go.Proofs.YtgcpgieojckheaaGreatDoor
open Go.RowKit Go.Shelf

set_option maxHeartbeats 2000000 in
theorem decForms_walk (s : ByteArray) (n : Int) (w : World) (ht : Tab w) (h0 : -9223372036854775808 ≤ n) (h1 : n ≤ 9223372036854775807) :
    Calls Tryz.prog 3 #[.string s, .int .i64 n] w fun e w' => e = .returned (.bool true) ∧ Below w.heap.size w w' := by
  have hA := fun W (hW : Below w.heap.size w W) => awake_any W (ht.below hW)
  by_cases hbig : (30000 : Int) < (s.size : Int)
  · have hd : decide ((30000 : Int) < (s.size : Int)) = true := decide_eq_true hbig
    go_enter Tryz.func3, Tryz.ntmps3
    go_wp2_with fail
    refine (hA _ (Below.refl _ _)).mono ?_
    rintro e w1 ⟨rfl, hb⟩
    have B1 := Lib.hid hb
    clear hb hA
    go_wp2
    go_ret
    exact ⟨rfl, B1.out⟩
  · have hd : decide ((30000 : Int) < (s.size : Int)) = false := decide_eq_false hbig
    have hs : s.size ≤ 30000 := by omega
    have c1 := fun W (hW : Below w.heap.size w W) => own_any s W (ht.below hW) (by omega)
    have c2 := fun W => rown_any s W hs
    have c3 := fun W (hW : Below w.heap.size w W) => int_any s W (ht.below hW) (by omega)
    have c4 := fun W => rint_any s W hs
    have c5 := fun W (hW : Below w.heap.size w W) => of_any n W (ht.below hW) h0 h1
    have c6 := fun W => rof_any n W h0 h1
    unfold OwnEnd at c1 c2
    unfold IntEnd at c3 c4
    unfold bl at c1 c2 c5 c6
    obtain ⟨A, hAA⟩ : ∃ x : ByteArray, (⟨(ownR s.data.toList).1.toArray⟩ : ByteArray) = x := ⟨_, rfl⟩
    obtain ⟨G, hG⟩ : ∃ x : ByteArray, (⟨(ofR n).toArray⟩ : ByteArray) = x := ⟨_, rfl⟩
    simp only [hAA] at c1 c2
    simp only [hG] at c5 c6
    generalize (ownR s.data.toList).2 = E at *
    generalize (intR s.data.toList).1 = V at *
    generalize (intR s.data.toList).2 = E2 at *
    have g1 : (A.toList == A.toList) = true := by simp
    have g2 : (E == E) = true := by simp
    have g3 : (V == V) = true := by simp
    have g4 : (E2 == E2) = true := by simp
    have g5 : (G.toList == G.toList) = true := by simp
    clear hAA hG hs h0 h1
    go_enter Tryz.func3, Tryz.ntmps3
    go_wp2_with fail
    refine (c1 _ (Below.refl _ _)).mono ?_
    rintro e w1 ⟨rfl, hb⟩
    have B1 := Lib.hid (gcall (Below.refl _ _) hb)
    clear hb
    go_wp2_with fail
    refine (c2 _).mono ?_
    rintro e w2 ⟨rfl, hb⟩
    have B2 := Lib.hid (gcall B1.out hb)
    clear hb
    go_wp2_with fail
    refine (c3 _ B2.out).mono ?_
    rintro e w3 ⟨rfl, hb⟩
    have B3 := Lib.hid (gcall B2.out hb)
    clear hb
    go_wp2_with fail
    refine (c4 _).mono ?_
    rintro e w4 ⟨rfl, hb⟩
    have B4 := Lib.hid (gcall B3.out hb)
    clear hb
    go_wp2_with fail
    refine (c5 _ B4.out).mono ?_
    rintro e w5 ⟨rfl, hb⟩
    have B5 := Lib.hid (gcall B4.out hb)
    clear hb
    go_wp2_with fail
    refine (c6 _).mono ?_
    rintro e w6 ⟨rfl, hb⟩
    have B6 := Lib.hid (gcall B5.out hb)
    clear hb
    go_wp2_with fail
    refine (hA _ B6.out).mono ?_
    rintro e w7 ⟨rfl, hb⟩
    have B7 := Lib.hid (gcall B6.out hb)
    clear hb
    go_wp2
    go_ret
    exact ⟨by simp, B7.out⟩
set_option maxHeartbeats 2000000 in
theorem decCompares_walk (s t : ByteArray) (w : World) (ht : Tab w) :
    Calls Tryz.prog 4 #[.string s, .string t] w fun e w' => e = .returned (.bool true) ∧ Below w.heap.size w w' := by
  have hA := fun W (hW : Below w.heap.size w W) => awake_any W (ht.below hW)
  by_cases h1 : (20000 : Int) < (s.size : Int)
  · have d1 : decide ((20000 : Int) < (s.size : Int)) = true := decide_eq_true h1
    go_enter Tryz.func4, Tryz.ntmps4
    go_wp2_with fail
    refine (hA _ (Below.refl _ _)).mono ?_
    rintro e w1 ⟨rfl, hb⟩
    have B1 := Lib.hid hb
    clear hb hA
    go_wp2
    go_ret
    exact ⟨rfl, B1.out⟩
  · have d1 : decide ((20000 : Int) < (s.size : Int)) = false := decide_eq_false h1
    by_cases h2 : (20000 : Int) < (t.size : Int)
    · have d2 : decide ((20000 : Int) < (t.size : Int)) = true := decide_eq_true h2
      go_enter Tryz.func4, Tryz.ntmps4
      go_wp2_with fail
      refine (hA _ (Below.refl _ _)).mono ?_
      rintro e w1 ⟨rfl, hb⟩
      have B1 := Lib.hid hb
      clear hb hA
      go_wp2
      go_ret
      exact ⟨rfl, B1.out⟩
    · have d2 : decide ((20000 : Int) < (t.size : Int)) = false := decide_eq_false h2
      have c1 := fun W => cmp_any s t W (by omega) (by omega)
      have c2 := fun W => rcmp_any s t W (by omega) (by omega)
      unfold CmpEnd at c1 c2
      generalize (cmpR s.data.toList t.data.toList).1 = V at *
      generalize (cmpR s.data.toList t.data.toList).2 = E at *
      have g1 : (V == V) = true := by simp
      have g2 : (E == E) = true := by simp
      go_enter Tryz.func4, Tryz.ntmps4
      go_wp2_with fail
      refine (c1 _).mono ?_
      rintro e w1 ⟨rfl, hb⟩
      have B1 := Lib.hid (gcall (Below.refl _ _) hb)
      clear hb
      go_wp2_with fail
      refine (c2 _).mono ?_
      rintro e w2 ⟨rfl, hb⟩
      have B2 := Lib.hid (gcall B1.out hb)
      clear hb
      go_wp2_with fail
      refine (hA _ B2.out).mono ?_
      rintro e w3 ⟨rfl, hb⟩
      have B3 := Lib.hid (gcall B2.out hb)
      clear hb
      go_wp2
      go_ret
      exact ⟨by simp, B3.out⟩
end Go.Proofs.YtgcpgieojckheaaGreatDoor
