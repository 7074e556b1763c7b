/-
  The reference: Form, Own, Of, sign.
-/
import Derived.Test.YtgcpgieojckheaaGreatDoorW
namespace Go.Proofs.YtgcpgieojckheaaGreatDoor
open Go.RowKit Go.Shelf

theorem refV_eq (n : Num) : ∃ T : ByteArray, T.data.toList = n.digits ∧ refV n = .agg #[.bool n.neg, .string T, .int .i64 n.exp] := ⟨⟨n.digits.toArray⟩, rfl, rfl⟩
theorem empty_yes {T : ByteArray} {l : List UInt8} (h : T.data.toList = l) (h0 : l = []) : T.toList.isEmpty = true := mk_empty_yes (by rw [h, h0])
theorem empty_no {T : ByteArray} {l : List UInt8} (h : T.data.toList = l) (h0 : l ≠ []) : T.toList.isEmpty = false := by
  cases l with
  | nil => exact absurd rfl h0
  | cons a r => exact mk_empty_no h
set_option maxHeartbeats 1000000 in
theorem rform_any (n : Num) (w : World) (hc : Canon n) (hl : tooLarge n = false) :
    Calls Tryz.prog 47 #[refV n] w fun e w' => e = .returned (bl (form n)) ∧ Below w.heap.size w w' := by
  obtain ⟨T, eT, hV⟩ := refV_eq n
  rw [hV]
  have hx := digits_len hl
  have hz : T.size ≤ 200 := by rw [Lib.size_eq, eT]; omega
  by_cases h0 : n.digits = []
  · have hn := Num.canon_zero hc h0
    have HE : Hid (bl (form n) = .string ⟨#[48]⟩) := Lib.hid (by rw [hn]; rfl)
    have he := empty_yes eT h0
    clear hc hl hV hn h0 eT hx
    go_enter Tryz.func47, Tryz.ntmps47
    go_wp2
    go_ret
    exact ⟨by rw [HE.out]; rfl, galloc (Below.refl _ _) _⟩
  · have he := empty_no eT h0
    have hf := fun W => rwhole_any n.exp W (by omega) (by omega)
    obtain ⟨D, hD⟩ : ∃ s : ByteArray, (⟨(Lib.itoa n.exp).toArray⟩ : ByteArray) = s := ⟨_, rfl⟩
    have eD : D.data.toList = Lib.itoa n.exp := by rw [← hD]
    have zD : D.size ≤ 20000 := by rw [Lib.size_eq, eD]; have := itoa_len n.exp; omega
    unfold bl at hf
    rw [hD] at hf
    have HF : Hid (form n = (sgn n.neg ++ n.digits) ++ (if n.exp = 0 then [] else 101 :: Lib.itoa n.exp)) := Lib.hid (by
      unfold form wholeForm expForm sgn
      rw [if_neg h0])
    cases hn : n.neg with
    | true =>
      by_cases hx0 : n.exp = 0
      · have HE : Hid (Value.string ((⟨#[45]⟩ : ByteArray) ++ T) = bl (form n)) := Lib.hid (by
          unfold bl
          have e1 : ((⟨#[45]⟩ : ByteArray) ++ T).data.toList = form n := by rw [HF.out, app_list, eT, hn, hx0]; simp [sgn]
          rw [of_list e1])
        rw [hx0]
        clear hc hl hV h0 eT hx hf hD eD HF
        go_enter Tryz.func47, Tryz.ntmps47
        go_wp2
        go_ret
        exact ⟨by rw [← HE.out]; rfl, galloc (Below.refl _ _) _⟩
      · have HE : Hid (Value.string (((⟨#[45]⟩ : ByteArray) ++ T) ++ (⟨#[101]⟩ : ByteArray) ++ D) = bl (form n)) := Lib.hid (by
          unfold bl
          have e1 : (((⟨#[45]⟩ : ByteArray) ++ T) ++ (⟨#[101]⟩ : ByteArray) ++ D).data.toList = form n := by rw [HF.out, app_list, app_list, app_list, eT, eD, hn, if_neg hx0]; simp [sgn]
          rw [of_list e1])
        have hx1 : (n.exp == 0) = false := by simpa using hx0
        have hx2 : (n.exp != 0) = true := by simpa using hx0

        generalize n.exp = x at *
        clear hc hl hV h0 eT hx hD eD HF hx0
        go_enter Tryz.func47, Tryz.ntmps47
        go_wp2_with fail
        refine (hf _).mono ?_
        rintro e w1 ⟨rfl, hb⟩
        have HB := Lib.hid (gcall (galloc (Below.refl _ _) _) hb)
        clear hb hf
        go_wp2
        go_ret
        exact ⟨by rw [← HE.out]; rfl, HB.out⟩
    | false =>
      by_cases hx0 : n.exp = 0
      · have HE : Hid (Value.string T = bl (form n)) := Lib.hid (by
          unfold bl
          have e1 : T.data.toList = form n := by rw [HF.out, eT, hn, hx0]; simp [sgn]
          rw [of_list e1])
        rw [hx0]
        clear hc hl hV h0 eT hx hf hD eD HF
        go_enter Tryz.func47, Tryz.ntmps47
        go_wp2
        go_ret
        exact ⟨by rw [← HE.out]; rfl, galloc (Below.refl _ _) _⟩
      · have HE : Hid (Value.string (T ++ (⟨#[101]⟩ : ByteArray) ++ D) = bl (form n)) := Lib.hid (by
          unfold bl
          have e1 : (T ++ (⟨#[101]⟩ : ByteArray) ++ D).data.toList = form n := by rw [HF.out, app_list, app_list, eT, eD, hn, if_neg hx0]; simp [sgn]
          rw [of_list e1])
        have hx1 : (n.exp == 0) = false := by simpa using hx0
        have hx2 : (n.exp != 0) = true := by simpa using hx0

        generalize n.exp = x at *
        clear hc hl hV h0 eT hx hD eD HF hx0
        go_enter Tryz.func47, Tryz.ntmps47
        go_wp2_with fail
        refine (hf _).mono ?_
        rintro e w1 ⟨rfl, hb⟩
        have HB := Lib.hid (gcall (galloc (Below.refl _ _) _) hb)
        clear hb hf
        go_wp2
        go_ret
        exact ⟨by rw [← HE.out]; rfl, HB.out⟩

set_option maxHeartbeats 1000000 in
theorem rown_any (s : ByteArray) (w : World) (hs : s.size ≤ 30000) : Calls Tryz.prog 17 #[.string s] w (OwnEnd s.data.toList w) := by
  have hr := rget_any s w hs
  generalize s.data.toList = l at *
  by_cases h0 : (readR l).2 = 0
  · have ho : ownR l = (form (readR l).1, 0) := by unfold ownR; rw [if_pos h0]
    obtain ⟨hc, hl⟩ := canon_read l
    unfold GetEnd at hr
    rw [h0] at hr
    generalize (readR l).1 = n at *
    obtain ⟨T, eT, hV⟩ := refV_eq n
    have ct := fun W => rform_any n W hc hl
    rw [hV] at hr ct
    have HO := Lib.hid ho
    clear hc hl ho h0 eT hV
    go_enter Tryz.func17, Tryz.ntmps17
    go_wp2_with fail
    refine hr.mono ?_
    rintro e w1 ⟨rfl, hb⟩
    have HB := Lib.hid hb
    clear hb hr
    go_wp2_with fail
    refine (ct _).mono ?_
    rintro e w2 ⟨rfl, hb2⟩
    have HB2 := Lib.hid (gcall (galloc HB.out _) hb2)
    clear hb2 ct
    go_wp2
    go_ret2
    exact ⟨by rw [HO.out]; rfl, HB2.out⟩
  · have ho : ownR l = ([], (readR l).2) := by unfold ownR; rw [if_neg h0]
    unfold GetEnd at hr
    obtain ⟨T, eT, hV⟩ := refV_eq (readR l).1
    rw [hV] at hr
    generalize (readR l).2 = E at *
    have h1 : (E == 0) = false := by simpa using h0
    have h2 : (E != 0) = true := by simpa using h0
    have HO := Lib.hid ho
    generalize (readR l).1 = n at *
    clear ho h0 eT hV
    go_enter Tryz.func17, Tryz.ntmps17
    go_wp2_with fail
    refine hr.mono ?_
    rintro e w1 ⟨rfl, hb⟩
    have HB := Lib.hid hb
    clear hb hr
    go_wp2
    go_ret2
    exact ⟨by rw [HO.out]; rfl, galloc HB.out _⟩
set_option maxHeartbeats 1000000 in
theorem rof_any (n : Int) (w : World) (h0 : -9223372036854775808 ≤ n) (h1 : n ≤ 9223372036854775807) : Calls Tryz.prog 21 #[.int .i64 n] w fun e w' => e = .returned (bl (ofR n)) ∧ Below w.heap.size w w' := by
  have hf := rwhole_any n w h0 h1
  obtain ⟨D, hD⟩ : ∃ s : ByteArray, (⟨(Lib.itoa n).toArray⟩ : ByteArray) = s := ⟨_, rfl⟩
  have eD : D.data.toList = Lib.itoa n := by rw [← hD]
  have hz : D.size ≤ 30000 := by
    rw [Lib.size_eq, eD]
    have := decDigits_len n.natAbs 19 (by omega) (by omega)
    have := decDigits_len n.toNat 19 (by omega) (by omega)
    unfold Lib.itoa
    split <;> simp <;> omega
  have ho := fun W => rown_any D W hz
  unfold bl at hf
  rw [hD] at hf
  unfold OwnEnd at ho
  rw [eD] at ho
  have HE : Hid (bl (ownR (Lib.itoa n)).1 = bl (ofR n)) := Lib.hid rfl
  unfold bl at ho
  generalize (ownR (Lib.itoa n)).1 = A at *
  generalize (ownR (Lib.itoa n)).2 = E at *
  clear hD eD h0 h1 hz
  go_enter Tryz.func21, Tryz.ntmps21
  go_wp2_with fail
  refine hf.mono ?_
  rintro e w1 ⟨rfl, hb⟩
  have HB := Lib.hid hb
  clear hb hf
  go_wp2_with fail
  refine (ho _).mono ?_
  rintro e w2 ⟨rfl, hb2⟩
  have HB2 := Lib.hid (gcall HB.out hb2)
  clear hb2 ho
  go_wp2
  go_ret
  exact ⟨by rw [← HE.out]; rfl, HB2.out⟩
theorem rsign_any (n : Num) (w : World) :
    Calls Tryz.prog 54 #[refV n] w fun e w' => e = .returned (.int .i64 (signN n)) ∧ Below w.heap.size w w' := by
  obtain ⟨T, eT, hV⟩ := refV_eq n
  rw [hV]
  by_cases h0 : n.digits = []
  · have HS : Hid (signN n = 0) := Lib.hid (by unfold signN; rw [if_pos h0])
    have he := empty_yes eT h0
    clear eT hV h0
    go_enter Tryz.func54, Tryz.ntmps54
    go_wp2
    go_ret
    exact ⟨by rw [HS.out]; rfl, galloc (Below.refl _ _) _⟩
  · have HS : Hid (signN n = if n.neg then -1 else 1) := Lib.hid (by unfold signN; rw [if_neg h0])
    have he := empty_no eT h0
    clear eT hV h0
    cases hn : n.neg with
    | true =>
      rw [hn] at HS
      clear hn
      go_enter Tryz.func54, Tryz.ntmps54
      go_wp2
      go_ret
      exact ⟨by rw [HS.out]; rfl, galloc (Below.refl _ _) _⟩
    | false =>
      rw [hn] at HS
      clear hn
      go_enter Tryz.func54, Tryz.ntmps54
      go_wp2
      go_ret
      exact ⟨by rw [HS.out]; rfl, galloc (Below.refl _ _) _⟩
end Go.Proofs.YtgcpgieojckheaaGreatDoor
