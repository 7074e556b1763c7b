/-
  oneOf, spoilt, exponentOf, blank, sign.
-/
import Derived.Test.YtfedmhccbfhcbaaGreatDoorC
import Derived.Test.YtfedmhccbfhcbaaGreatDoorPM
namespace Go.Proofs.YtfedmhccbfhcbaaGreatDoor
open Go.RowKit

def oneB (b : List UInt8) : List UInt8 → Nat
  | [] => 0
  | c :: _ => if b.contains c then 1 else 0
theorem oneB_le (b l : List UInt8) : oneB b l ≤ l.length ∧ oneB b l ≤ 1 := by
  cases l with
  | nil => exact ⟨Nat.le_refl _, Nat.zero_le _⟩
  | cons c r => show (if b.contains c then 1 else 0) ≤ r.length + 1 ∧ (if b.contains c then 1 else 0) ≤ 1; split <;> omega
theorem index_has : ∀ (b : List UInt8) (c : UInt8), decide (Lib.indexByte b c < 0) = !b.contains c
  | [], c => rfl
  | d :: b, c => by
    have ih := index_has b c
    have hg := Lib.indexByte_ge b c
    unfold Lib.indexByte
    by_cases h : (d == c) = true
    · rw [if_pos h]; rw [beq_iff_eq] at h; subst h; simp
    · rw [if_neg h]
      have h' : (c == d) = false := by rw [beq_eq_false_iff_ne]; intro e; subst e; simp at h
      rw [List.contains_cons, h', Bool.false_or, ← ih]
      split
      · rename_i h2; rw [beq_iff_eq] at h2; rw [h2]
      · rename_i h2; simp at h2; apply decide_eq_decide.2; omega
theorem ext_list (s : ByteArray) (i : Nat) : (s.extract i s.size).data.toList = s.data.toList.drop i := by
  rw [Utf.extract_list, List.take_of_length_le (by rw [Lib.size_eq]; exact Nat.le_refl _)]
theorem ext_size (s : ByteArray) (i : Nat) : (s.extract i s.size).size = s.size - i := by simp
set_option maxHeartbeats 1000000 in
theorem one_any (s b : ByteArray) (w : World) : Calls Tryz.prog 73 #[.string s, .string b] w fun e w' => e = .returned (.int .i64 (oneB b.data.toList s.data.toList : Nat)) ∧ w = w' := by
  by_cases hs : 0 < s.size
  · have he := Utf.isEmpty_no hs
    have hi := fun W => Tryz.strings_IndexByte b ((s[0]'hs).toNat : Int) W
    have hx : (((s[0]'hs).toNat : Int)).toNat.toUInt8 = s[0]'hs := by simp
    have hd := index_has b.data.toList (s[0]'hs)
    have HV : Hid (oneB b.data.toList s.data.toList = if b.data.toList.contains (s[0]'hs) then 1 else 0) := Lib.hid (by
      have hg := str_get s 0 hs
      cases hl : s.data.toList with
      | nil => rw [hl] at hg; cases hg
      | cons c r => rw [hl] at hg; rw [← Option.some.inj hg]; rfl)
    rw [hx] at hi
    have hs' : (0 : Int) < (s.size : Int) := by omega
    generalize oneB b.data.toList s.data.toList = V at *
    generalize Lib.indexByte b.data.toList (s[0]'hs) = I at *
    generalize b.data.toList.contains (s[0]'hs) = B at *
    clear hx
    cases B
    all_goals
      simp only [Bool.not_false, Bool.not_true, decide_eq_true_eq, decide_eq_false_iff_not] at hd
      go_enter Tryz.func73, Tryz.ntmps73
      go_wp2_with (go_at_call 79; refine (hi _).mono ?_; rintro e w' ⟨rfl, rfl⟩)
      go_ret
      exact ⟨by rw [HV.out]; rfl, rfl⟩
  · have he := Utf.isEmpty_yes (s := s) (by omega)
    have HV : Hid (oneB b.data.toList s.data.toList = 0) := Lib.hid (by
      have hl : s.data.toList = [] := List.length_eq_zero_iff.1 (by rw [← Lib.size_eq]; omega)
      rw [hl]; rfl)
    go_enter Tryz.func73, Tryz.ntmps73
    go_wp2_with fail
    go_ret
    exact ⟨by rw [HV.out]; rfl, rfl⟩
theorem lead_cons (p : UInt8 → Bool) (c : UInt8) (r : List UInt8) : lead p (c :: r) = if p c then lead p r + 1 else 0 := rfl
def spB (c : UInt8) : Bool := !(c == 34) && !(c == 10)
theorem quo_two : ∀ (l : List UInt8), quo 2 l = (9, lead spB l + oneB [34] (l.drop (lead spB l)))
  | [] => rfl
  | c :: r => by
    have e : quo 2 (c :: r) = if c == 34 then (9, 1) else if c == 10 then (9, 0) else addN (quo 2 r) := rfl
    rw [e, quo_two r, lead_cons]
    by_cases h1 : (c == 34) = true
    · rw [if_pos h1, if_neg (by simp [spB, h1])]
      show _ = (9, 0 + if [34].contains c then 1 else 0)
      rw [if_pos (by simp only [beq_iff_eq] at h1; subst h1; rfl)]
    · rw [if_neg h1]
      by_cases h2 : (c == 10) = true
      · rw [if_pos h2, if_neg (by simp [spB, h2])]
        show _ = (9, 0 + if [34].contains c then 1 else 0)
        rw [if_neg (by simp only [beq_iff_eq] at h2; subst h2; decide)]
      · rw [if_neg h2, if_pos (by simp only [Bool.not_eq_true] at h1 h2; simp [spB, h1, h2]), List.drop_succ_cons]
        show (9, _ + 1) = _
        simp; omega
set_option maxHeartbeats 1000000 in
theorem spoilt_any (s : ByteArray) (w : World) (hz : s.size ≤ 1000000000) : Calls Tryz.prog 74 #[.string s] w fun e w' => e = .returned (.int .i64 ((quo 2 s.data.toList).2 : Nat)) ∧ w = w' := by
  have hq := congrArg Prod.snd (quo_two s.data.toList)
  have hl : lead spB s.data.toList ≤ s.size := by rw [Lib.size_eq]; exact lead_le _ _
  have h1 := fun W => leading74 spB isSpoilt_any s W hz
  generalize lead spB s.data.toList = k at *
  have h2 := fun W => one_any (s.extract k s.size) ⟨#[34]⟩ W
  rw [ext_list] at h2
  have ho := (oneB_le [34] (s.data.toList.drop k)).2
  simp only at hq h2
  generalize oneB [34] (s.data.toList.drop k) = m at *
  have HQ := Lib.hid hq
  clear hq
  have hk : (k : Int) ≤ (s.size : Int) := by omega
  have hw : IntKind.i64.wrap ((k : Int) + (m : Int)) = ((k + m : Nat) : Int) := by rw [IntWalk.i64_in _ (by omega)]; omega
  go_enter Tryz.func74, Tryz.ntmps74
  go_wp2_with (first | (go_at_call 63; refine (h1 _).mono ?_; rintro e w' ⟨rfl, rfl⟩) | (go_at_call 73; refine (h2 _).mono ?_; rintro e w' ⟨rfl, rfl⟩))
  go_ret
  exact ⟨by rw [HQ.out]; rfl, rfl⟩
theorem expo_form (l : List UInt8) : expo l = if oneB [101, 69] l = 0 ∨ lead digB (l.drop (oneB [101, 69] l + oneB [43, 45] (l.drop (oneB [101, 69] l)))) = 0 then 0 else oneB [101, 69] l + oneB [43, 45] (l.drop (oneB [101, 69] l)) + lead digB (l.drop (oneB [101, 69] l + oneB [43, 45] (l.drop (oneB [101, 69] l)))) := by
  cases l with
  | nil => rfl
  | cons c r =>
    rw [expo_cons]
    have e1 : oneB [101, 69] (c :: r) = if (c == 101 || c == 69) then 1 else 0 := by
      show (if [101, 69].contains c then 1 else 0) = _
      congr 1; simp
    have e2 : ∀ x, oneB [43, 45] x = sgn x := fun x => by
      cases x with
      | nil => rfl
      | cons d x =>
        show (if [43, 45].contains d then 1 else 0) = if (d == 43 || d == 45) then 1 else 0
        congr 1; simp
    by_cases h : (c == 101 || c == 69) = true
    · rw [if_pos h] at e1
      have hd : ∀ k, List.drop (1 + k) (c :: r) = r.drop k := fun k => by rw [Nat.add_comm]; rfl
      rw [if_pos h, e1, e2, hd, show List.drop 1 (c :: r) = r from rfl]
      by_cases h2 : lead digB (r.drop (sgn r)) = 0
      · rw [if_pos h2, if_pos (.inr h2)]
      · rw [if_neg h2, if_neg (by omega)]
    · rw [if_neg h] at e1
      rw [if_neg h, if_pos (.inl e1)]
set_option maxHeartbeats 2000000 in
theorem exponentOf_any (s : ByteArray) (w : World) (hz : s.size ≤ 1000000000) : Calls Tryz.prog 71 #[.string s] w fun e w' => e = .returned (.string (s.extract 0 (expo s.data.toList))) ∧ w = w' := by
  have hq := expo_form s.data.toList
  have hle := expo_le s.data.toList
  have hls : s.data.toList.length = s.size := (Lib.size_eq s).symm
  have b1 := oneB_le [101, 69] s.data.toList
  have c1 := fun W => one_any s ⟨#[101, 69]⟩ W
  simp only at c1
  generalize oneB [101, 69] s.data.toList = m at *
  have b2 := oneB_le [43, 45] (s.data.toList.drop m)
  have c2 := fun W => one_any (s.extract m s.size) ⟨#[43, 45]⟩ W
  rw [ext_list] at c2
  simp only at c2
  rw [List.length_drop] at b2
  generalize oneB [43, 45] (s.data.toList.drop m) = g at *
  have b3 := lead_le digB (s.data.toList.drop (m + g))
  have c3 := fun W => leading63 digB isDigit_any (s.extract (m + g) s.size) W (by rw [ext_size]; omega)
  rw [ext_list] at c3
  rw [List.length_drop] at b3
  generalize lead digB (s.data.toList.drop (m + g)) = d at *
  have HQ := Lib.hid hq
  clear hq hle
  rw [hls] at b1 b2 b3
  clear hls
  have k1 : (m : Int) ≤ (s.size : Int) := by omega
  have k2 : ((m + g : Nat) : Int) ≤ (s.size : Int) := by omega
  have k3 : ((m + g + d : Nat) : Int) ≤ (s.size : Int) := by omega
  have w1 : IntKind.i64.wrap ((m : Int) + (g : Int)) = ((m + g : Nat) : Int) := by rw [IntWalk.i64_in _ (by omega)]; omega
  have w2 : IntKind.i64.wrap (((m + g : Nat) : Int) + (d : Int)) = ((m + g + d : Nat) : Int) := by rw [IntWalk.i64_in _ (by omega)]; omega
  have he : (s.extract 0 0) = ⟨#[]⟩ := Utf.ba_ext (by rw [Utf.extract_list]; rfl)
  have HE := Lib.hid he
  clear he b1 b2 b3
  generalize hmg : m + g = mg at *
  generalize hmd : mg + d = md at *
  by_cases hm : m = 0
  · have q1 : ((m : Int) == 0) = true := by rw [hm]; rfl
    have HR : Hid (s.extract 0 (expo s.data.toList) = ⟨#[]⟩) := Lib.hid (by rw [HQ.out, if_pos (.inl hm), HE.out])
    clear hm hmg hmd
    go_enter Tryz.func71, Tryz.ntmps71
    go_wp2_with (first | (go_at_call 63; ((with_reducible refine (c3 _).mono ?_); rintro e w' ⟨rfl, rfl⟩)) | (go_at_call 73; ((with_reducible refine (c1 _).mono ?_); rintro e w' ⟨rfl, rfl⟩)) | (go_at_call 73; ((with_reducible refine (c2 _).mono ?_); rintro e w' ⟨rfl, rfl⟩)))
    go_ret
    exact ⟨by rw [HR.out]; rfl, rfl⟩
  · have q1 : ((m : Int) == 0) = false := beq_eq_false_iff_ne.2 (by omega)
    by_cases hd : d = 0
    · have q2 : ((d : Int) == 0) = true := by rw [hd]; rfl
      have HR : Hid (s.extract 0 (expo s.data.toList) = ⟨#[]⟩) := Lib.hid (by rw [HQ.out, if_pos (.inr hd), HE.out])
      clear hm hmg hmd hd
      go_enter Tryz.func71, Tryz.ntmps71
      go_wp2_with (first | (go_at_call 63; ((with_reducible refine (c3 _).mono ?_); rintro e w' ⟨rfl, rfl⟩)) | (go_at_call 73; ((with_reducible refine (c1 _).mono ?_); rintro e w' ⟨rfl, rfl⟩)) | (go_at_call 73; ((with_reducible refine (c2 _).mono ?_); rintro e w' ⟨rfl, rfl⟩)))
      go_ret
      exact ⟨by rw [HR.out]; rfl, rfl⟩
    · have q2 : ((d : Int) == 0) = false := beq_eq_false_iff_ne.2 (by omega)
      have HR : Hid (s.extract 0 (expo s.data.toList) = s.extract 0 md) := Lib.hid (by rw [HQ.out, if_neg (by omega), ← hmd])
      clear hm hmg hmd hd
      go_enter Tryz.func71, Tryz.ntmps71
      go_wp2_with (first | (go_at_call 63; ((with_reducible refine (c3 _).mono ?_); rintro e w' ⟨rfl, rfl⟩)) | (go_at_call 73; ((with_reducible refine (c1 _).mono ?_); rintro e w' ⟨rfl, rfl⟩)) | (go_at_call 73; ((with_reducible refine (c2 _).mono ?_); rintro e w' ⟨rfl, rfl⟩)))
      go_ret
      exact ⟨by rw [HR.out]; rfl, rfl⟩
theorem blank_any (s : ByteArray) (w : World) (hz : s.size ≤ 1000000000) : Calls Tryz.prog 53 #[.string s] w fun e w' => e = .returned (.tuple #[.int .u8 1, .int .i64 (lead blankB s.data.toList : Nat)]) ∧ w = w' := by
  have h1 := fun W => leading58 blankB isBlank_any s W hz
  go_enter Tryz.func53, Tryz.ntmps53
  go_wp2_with (go_at_call 63; refine (h1 _).mono ?_; rintro e w' ⟨rfl, rfl⟩)
  go_ret2
  exact ⟨rfl, rfl⟩
theorem sign_any (s : ByteArray) (w : World) : Calls Tryz.prog 60 #[.string s] w fun e w' => e = .returned (.tuple #[.int .u8 8, .int .i64 (oneB onesL s.data.toList : Nat)]) ∧ w = w' := by
  have h1 := fun W => one_any s ⟨#[40, 41, 91, 93, 44, 59, 124, 61, 60, 62, 43, 45, 42, 47, 94, 64]⟩ W
  go_enter Tryz.func60, Tryz.ntmps60
  go_wp2_with (go_at_call 73; refine (h1 _).mono ?_; rintro e w' ⟨rfl, rfl⟩)
  go_ret2
  exact ⟨rfl, rfl⟩
end Go.Proofs.YtfedmhccbfhcbaaGreatDoor
