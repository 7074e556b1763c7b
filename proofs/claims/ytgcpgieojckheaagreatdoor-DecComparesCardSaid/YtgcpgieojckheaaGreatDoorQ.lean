/-
  awake; DecBack.
-/
import Derived.Test.YtgcpgieojckheaaGreatDoorO
namespace Go.Proofs.YtgcpgieojckheaaGreatDoor
open Go.RowKit Go.Shelf

theorem ex1 : ownR [45, 49, 50, 48, 46, 53, 48, 101, 49] = ([45, 49, 50, 48, 53], 0) := by decide +kernel
theorem ex2 : cmpR [49, 101, 50] [57, 57, 46, 57] = (1, 0) := by decide +kernel
theorem ex3 : intR [49, 101, 50] = (100, 0) := by decide +kernel
theorem ex4 : ofR 7 = [55] := by decide +kernel
set_option maxHeartbeats 1000000 in
theorem awake_any (w : World) (ht : Tab w) : Calls Tryz.prog 15 #[] w fun e w' => e = .returned (.bool true) ∧ Below w.heap.size w w' := by
  have c1 := own_any ⟨#[45, 49, 50, 48, 46, 53, 48, 101, 49]⟩ w ht (by decide)
  have c2 := fun W => cmp_any ⟨#[49, 101, 50]⟩ ⟨#[57, 57, 46, 57]⟩ W (by decide) (by decide)
  have c3 := fun W (hW : Below w.heap.size w W) => int_any ⟨#[49, 101, 50]⟩ W (ht.below hW) (by decide)
  have c4 := fun W (hW : Below w.heap.size w W) => of_any 7 W (ht.below hW) (by decide) (by decide)
  unfold OwnEnd at c1
  unfold CmpEnd at c2
  unfold IntEnd at c3
  simp only [ex1, ex2, ex3, ex4] at c1 c2 c3 c4
  unfold bl at c1 c4
  go_enter Tryz.func15, Tryz.ntmps15
  go_wp2_with fail
  refine c1.mono ?_
  rintro e w1 ⟨rfl, hb⟩
  have B1 := Lib.hid hb
  clear hb c1
  go_wp2_with fail
  refine (c2 _).mono ?_
  rintro e w2 ⟨rfl, hb⟩
  have B2 := Lib.hid (gcall B1.out hb)
  clear hb c2
  go_wp2_with fail
  refine (c3 _ B2.out).mono ?_
  rintro e w3 ⟨rfl, hb⟩
  have B3 := Lib.hid (gcall B2.out hb)
  clear hb c3
  go_wp2_with fail
  refine (c4 _ B3.out).mono ?_
  rintro e w4 ⟨rfl, hb⟩
  have B4 := Lib.hid (gcall B3.out hb)
  clear hb c4
  go_wp2
  go_ret
  exact ⟨rfl, B4.out⟩
theorem own_code (l : List UInt8) : (ownR l).2 = (readR l).2 := by
  unfold ownR; split
  · rename_i h; exact h.symm
  · rfl
theorem own_bad {l : List UInt8} (h : (ownR l).2 ≠ 0) : (ownR l).1 = [] := by
  rw [own_code] at h
  unfold ownR; rw [if_neg h]
theorem own_len (l : List UInt8) : (ownR l).1.length ≤ 1000000 := by
  unfold ownR
  split
  · obtain ⟨hc, hl⟩ := canon_read l
    have h1 := digits_len hl
    have h2 := textD_len hl
    have h3 := itoa_len (readR l).1.exp
    simp only
    unfold form expForm
    rw [wholeForm_eq hc, List.length_append, List.length_append]
    unfold sgn
    split <;> split <;> simp <;> omega
  · simp
theorem ofR_len (n : Int) : (ofR n).length ≤ 1000000 := own_len _
set_option maxHeartbeats 2000000 in
theorem decBack_walk (n : Int) (s : ByteArray) (w : World) (ht : Tab w) (h0 : -9223372036854775808 ≤ n) (h1 : n ≤ 9223372036854775807) :
    Calls Tryz.prog 6 #[.int .i64 n, .string s] w fun e w' => e = .returned (.bool true) ∧ Below w.heap.size w w' := by
  have hA := fun W (hW : Below w.heap.size w W) => awake_any W (ht.below hW)
  by_cases hbig : (30000 : Int) < (s.size : Int)
  · have hd : decide ((30000 : Int) < (s.size : Int)) = true := decide_eq_true hbig
    go_enter Tryz.func6, Tryz.ntmps6
    go_wp2_with fail
    refine (hA _ (Below.refl _ _)).mono ?_
    rintro e w1 ⟨rfl, hb⟩
    have B1 := Lib.hid hb
    clear hb hA
    go_wp2
    go_ret
    exact ⟨rfl, B1.out⟩
  · have hd : decide ((30000 : Int) < (s.size : Int)) = false := decide_eq_false hbig
    have hs : s.size ≤ 1000000000 := by omega
    have c1 := fun W (hW : Below w.heap.size w W) => of_any n W (ht.below hW) h0 h1
    obtain ⟨F, hF⟩ : ∃ s : ByteArray, (⟨(ofR n).toArray⟩ : ByteArray) = s := ⟨_, rfl⟩
    have eF : F.data.toList = ofR n := by rw [← hF]
    have zF : F.size ≤ 1000000000 := by rw [Lib.size_eq, eF]; have := ofR_len n; omega
    have c2 := fun W (hW : Below w.heap.size w W) => int_any F W (ht.below hW) zF
    have hio := int_of n (by omega) (by omega)
    unfold bl at c1
    rw [hF] at c1
    unfold IntEnd at c2
    simp only [eF, hio] at c2
    have c3 := fun W (hW : Below w.heap.size w W) => own_any s W (ht.below hW) hs
    unfold OwnEnd at c3
    by_cases hE : (ownR s.data.toList).2 = 0
    · have hoo := own_own s.data.toList (by rw [← own_code]; exact hE)
      have hol := own_len s.data.toList
      rw [hE] at c3
      obtain ⟨G, hG⟩ : ∃ x : ByteArray, (⟨(ownR s.data.toList).1.toArray⟩ : ByteArray) = x := ⟨_, rfl⟩
      have eG : G.data.toList = (ownR s.data.toList).1 := by rw [← hG]
      have zG : G.size ≤ 1000000000 := by rw [Lib.size_eq, eG]; omega
      have c4 := fun W (hW : Below w.heap.size w W) => own_any G W (ht.below hW) zG
      unfold OwnEnd at c4
      simp only [eG, hoo] at c4
      unfold bl at c3 c4
      rw [hG] at c3 c4
      clear hE hoo hol hG eG zG hF eF zF hio hs hbig h0 h1
      go_enter Tryz.func6, Tryz.ntmps6
      go_wp2_with fail
      refine (hA _ (Below.refl _ _)).mono ?_
      rintro e w1 ⟨rfl, hb⟩
      have B1 := Lib.hid hb
      clear hb hA
      go_wp2_with fail
      refine (c1 _ B1.out).mono ?_
      rintro e w2 ⟨rfl, hb⟩
      have B2 := Lib.hid (gcall B1.out hb)
      clear hb c1
      go_wp2_with fail
      refine (c2 _ B2.out).mono ?_
      rintro e w3 ⟨rfl, hb⟩
      have B3 := Lib.hid (gcall B2.out hb)
      clear hb c2
      go_wp2_with fail
      refine (c3 _ B3.out).mono ?_
      rintro e w4 ⟨rfl, hb⟩
      have B4 := Lib.hid (gcall B3.out hb)
      clear hb c3
      go_wp2_with fail
      refine (c4 _ B4.out).mono ?_
      rintro e w5 ⟨rfl, hb⟩
      have B5 := Lib.hid (gcall B4.out hb)
      clear hb c4
      go_wp2
      go_ret
      exact ⟨by simp, B5.out⟩
    · have hob := own_bad hE
      rw [hob] at c3
      generalize (ownR s.data.toList).2 = E at *
      have hq1 : (E == 0) = false := by simpa using hE
      have hq2 : (E != 0) = true := by simpa using hE
      unfold bl at c3
      clear hE hob hF eF zF hio hs hbig h0 h1
      go_enter Tryz.func6, Tryz.ntmps6
      go_wp2_with fail
      refine (hA _ (Below.refl _ _)).mono ?_
      rintro e w1 ⟨rfl, hb⟩
      have B1 := Lib.hid hb
      clear hb hA
      go_wp2_with fail
      refine (c1 _ B1.out).mono ?_
      rintro e w2 ⟨rfl, hb⟩
      have B2 := Lib.hid (gcall B1.out hb)
      clear hb c1
      go_wp2_with fail
      refine (c2 _ B2.out).mono ?_
      rintro e w3 ⟨rfl, hb⟩
      have B3 := Lib.hid (gcall B2.out hb)
      clear hb c2
      go_wp2_with fail
      refine (c3 _ B3.out).mono ?_
      rintro e w4 ⟨rfl, hb⟩
      have B4 := Lib.hid (gcall B3.out hb)
      clear hb c3
      go_wp2
      go_ret
      exact ⟨rfl, B4.out⟩
end Go.Proofs.YtgcpgieojckheaaGreatDoor
