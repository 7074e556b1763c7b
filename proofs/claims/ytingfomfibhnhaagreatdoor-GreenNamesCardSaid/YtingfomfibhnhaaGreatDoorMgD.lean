/-
  oneOf, spoilt, exponentOf, blank, sign.
  remark, twoByteSign.
  inReach, number.
  quoted.
-/
import Derived.Test.YtingfomfibhnhaaGreatDoorMgA
import Derived.Test.YtingfomfibhnhaaGreatDoorMgPF
import Derived.Laws.Rows
import Derived.Lib.AtoiAll
import Derived.Lib.ConvBytes
namespace Go.Proofs.YtingfomfibhnhaaGreatDoor
open Go.RowKit

def oneB (b : List UInt8) : List UInt8 → Nat
  | [] => 0
  | c :: _ => if b.contains c then 1 else 0
theorem oneB_le (b l : List UInt8) : oneB b l ≤ l.length ∧ oneB b l ≤ 1 := by
  cases l with
  | nil => exact ⟨Nat.le_refl _, Nat.zero_le _⟩
  | cons c r => show (if b.contains c then 1 else 0) ≤ r.length + 1 ∧ (if b.contains c then 1 else 0) ≤ 1; split <;> omega
theorem index_has : ∀ (b : List UInt8) (c : UInt8), decide (Lib.indexByte b c < 0) = !b.contains c
  | [], c => rfl
  | d :: b, c => by
    have ih := index_has b c
    have hg := Lib.indexByte_ge b c
    unfold Lib.indexByte
    by_cases h : (d == c) = true
    · rw [if_pos h]; rw [beq_iff_eq] at h; subst h; simp
    · rw [if_neg h]
      have h' : (c == d) = false := by rw [beq_eq_false_iff_ne]; intro e; subst e; simp at h
      rw [List.contains_cons, h', Bool.false_or, ← ih]
      split
      · rename_i h2; rw [beq_iff_eq] at h2; rw [h2]
      · rename_i h2; simp at h2; apply decide_eq_decide.2; omega
theorem ext_list (s : ByteArray) (i : Nat) : (s.extract i s.size).data.toList = s.data.toList.drop i := by
  rw [Utf.extract_list, List.take_of_length_le (by rw [Lib.size_eq]; exact Nat.le_refl _)]
theorem ext_size (s : ByteArray) (i : Nat) : (s.extract i s.size).size = s.size - i := by simp
set_option maxHeartbeats 1000000 in
theorem one_any (s b : ByteArray) (w : World) : Calls Tryz.prog 104 #[.string s, .string b] w fun e w' => e = .returned (.int .i64 (oneB b.data.toList s.data.toList : Nat)) ∧ w = w' := by
  by_cases hs : 0 < s.size
  · have he := Utf.isEmpty_no hs
    have hi := fun W => Tryz.strings_IndexByte b ((s[0]'hs).toNat : Int) W
    have hx : (((s[0]'hs).toNat : Int)).toNat.toUInt8 = s[0]'hs := by simp
    have hd := index_has b.data.toList (s[0]'hs)
    have HV : Hid (oneB b.data.toList s.data.toList = if b.data.toList.contains (s[0]'hs) then 1 else 0) := Lib.hid (by
      have hg := str_get s 0 hs
      cases hl : s.data.toList with
      | nil => rw [hl] at hg; cases hg
      | cons c r => rw [hl] at hg; rw [← Option.some.inj hg]; rfl)
    rw [hx] at hi
    have hs' : (0 : Int) < (s.size : Int) := by omega
    generalize oneB b.data.toList s.data.toList = V at *
    generalize Lib.indexByte b.data.toList (s[0]'hs) = I at *
    generalize b.data.toList.contains (s[0]'hs) = B at *
    clear hx
    cases B
    all_goals
      simp only [Bool.not_false, Bool.not_true, decide_eq_true_eq, decide_eq_false_iff_not] at hd
      go_enter Tryz.func104, Tryz.ntmps104
      go_wp2_with (go_at_call 110; refine (hi _).mono ?_; rintro e w' ⟨rfl, rfl⟩)
      go_ret
      exact ⟨by rw [HV.out]; rfl, rfl⟩
  · have he := Utf.isEmpty_yes (s := s) (by omega)
    have HV : Hid (oneB b.data.toList s.data.toList = 0) := Lib.hid (by
      have hl : s.data.toList = [] := List.length_eq_zero_iff.1 (by rw [← Lib.size_eq]; omega)
      rw [hl]; rfl)
    go_enter Tryz.func104, Tryz.ntmps104
    go_wp2_with fail
    go_ret
    exact ⟨by rw [HV.out]; rfl, rfl⟩
theorem lead_cons (p : UInt8 → Bool) (c : UInt8) (r : List UInt8) : lead p (c :: r) = if p c then lead p r + 1 else 0 := rfl
def spB (c : UInt8) : Bool := !(c == 34) && !(c == 10)
theorem quo_two : ∀ (l : List UInt8), quo 2 l = (9, lead spB l + oneB [34] (l.drop (lead spB l)))
  | [] => rfl
  | c :: r => by
    have e : quo 2 (c :: r) = if c == 34 then (9, 1) else if c == 10 then (9, 0) else addN (quo 2 r) := rfl
    rw [e, quo_two r, lead_cons]
    by_cases h1 : (c == 34) = true
    · rw [if_pos h1, if_neg (by simp [spB, h1])]
      show _ = (9, 0 + if [34].contains c then 1 else 0)
      rw [if_pos (by simp only [beq_iff_eq] at h1; subst h1; rfl)]
    · rw [if_neg h1]
      by_cases h2 : (c == 10) = true
      · rw [if_pos h2, if_neg (by simp [spB, h2])]
        show _ = (9, 0 + if [34].contains c then 1 else 0)
        rw [if_neg (by simp only [beq_iff_eq] at h2; subst h2; decide)]
      · rw [if_neg h2, if_pos (by simp only [Bool.not_eq_true] at h1 h2; simp [spB, h1, h2]), List.drop_succ_cons]
        show (9, _ + 1) = _
        simp; omega
set_option maxHeartbeats 1000000 in
theorem spoilt_any (s : ByteArray) (w : World) (hz : s.size ≤ 1000000000) : Calls Tryz.prog 105 #[.string s] w fun e w' => e = .returned (.int .i64 ((quo 2 s.data.toList).2 : Nat)) ∧ w = w' := by
  have hq := congrArg Prod.snd (quo_two s.data.toList)
  have hl : lead spB s.data.toList ≤ s.size := by rw [Lib.size_eq]; exact lead_le _ _
  have h1 := fun W => leading74 spB isSpoilt_any s W hz
  generalize lead spB s.data.toList = k at *
  have h2 := fun W => one_any (s.extract k s.size) ⟨#[34]⟩ W
  rw [ext_list] at h2
  have ho := (oneB_le [34] (s.data.toList.drop k)).2
  simp only at hq h2
  generalize oneB [34] (s.data.toList.drop k) = m at *
  have HQ := Lib.hid hq
  clear hq
  have hk : (k : Int) ≤ (s.size : Int) := by omega
  have hw : IntKind.i64.wrap ((k : Int) + (m : Int)) = ((k + m : Nat) : Int) := by rw [IntWalk.i64_in _ (by omega)]; omega
  go_enter Tryz.func105, Tryz.ntmps105
  go_wp2_with (first | (go_at_call 94; refine (h1 _).mono ?_; rintro e w' ⟨rfl, rfl⟩) | (go_at_call 104; refine (h2 _).mono ?_; rintro e w' ⟨rfl, rfl⟩))
  go_ret
  exact ⟨by rw [HQ.out]; rfl, rfl⟩
theorem expo_form (l : List UInt8) : expo l = if oneB [101, 69] l = 0 ∨ lead digB (l.drop (oneB [101, 69] l + oneB [43, 45] (l.drop (oneB [101, 69] l)))) = 0 then 0 else oneB [101, 69] l + oneB [43, 45] (l.drop (oneB [101, 69] l)) + lead digB (l.drop (oneB [101, 69] l + oneB [43, 45] (l.drop (oneB [101, 69] l)))) := by
  cases l with
  | nil => rfl
  | cons c r =>
    rw [expo_cons]
    have e1 : oneB [101, 69] (c :: r) = if (c == 101 || c == 69) then 1 else 0 := by
      show (if [101, 69].contains c then 1 else 0) = _
      congr 1; simp
    have e2 : ∀ x, oneB [43, 45] x = sgn x := fun x => by
      cases x with
      | nil => rfl
      | cons d x =>
        show (if [43, 45].contains d then 1 else 0) = if (d == 43 || d == 45) then 1 else 0
        congr 1; simp
    by_cases h : (c == 101 || c == 69) = true
    · rw [if_pos h] at e1
      have hd : ∀ k, List.drop (1 + k) (c :: r) = r.drop k := fun k => by rw [Nat.add_comm]; rfl
      rw [if_pos h, e1, e2, hd, show List.drop 1 (c :: r) = r from rfl]
      by_cases h2 : lead digB (r.drop (sgn r)) = 0
      · rw [if_pos h2, if_pos (.inr h2)]
      · rw [if_neg h2, if_neg (by omega)]
    · rw [if_neg h] at e1
      rw [if_neg h, if_pos (.inl e1)]
set_option maxHeartbeats 2000000 in
theorem exponentOf_any (s : ByteArray) (w : World) (hz : s.size ≤ 1000000000) : Calls Tryz.prog 102 #[.string s] w fun e w' => e = .returned (.string (s.extract 0 (expo s.data.toList))) ∧ w = w' := by
  have hq := expo_form s.data.toList
  have hle := expo_le s.data.toList
  have hls : s.data.toList.length = s.size := (Lib.size_eq s).symm
  have b1 := oneB_le [101, 69] s.data.toList
  have c1 := fun W => one_any s ⟨#[101, 69]⟩ W
  simp only at c1
  generalize oneB [101, 69] s.data.toList = m at *
  have b2 := oneB_le [43, 45] (s.data.toList.drop m)
  have c2 := fun W => one_any (s.extract m s.size) ⟨#[43, 45]⟩ W
  rw [ext_list] at c2
  simp only at c2
  rw [List.length_drop] at b2
  generalize oneB [43, 45] (s.data.toList.drop m) = g at *
  have b3 := lead_le digB (s.data.toList.drop (m + g))
  have c3 := fun W => leading63 digB isDigit_any (s.extract (m + g) s.size) W (by rw [ext_size]; omega)
  rw [ext_list] at c3
  rw [List.length_drop] at b3
  generalize lead digB (s.data.toList.drop (m + g)) = d at *
  have HQ := Lib.hid hq
  clear hq hle
  rw [hls] at b1 b2 b3
  clear hls
  have k1 : (m : Int) ≤ (s.size : Int) := by omega
  have k2 : ((m + g : Nat) : Int) ≤ (s.size : Int) := by omega
  have k3 : ((m + g + d : Nat) : Int) ≤ (s.size : Int) := by omega
  have w1 : IntKind.i64.wrap ((m : Int) + (g : Int)) = ((m + g : Nat) : Int) := by rw [IntWalk.i64_in _ (by omega)]; omega
  have w2 : IntKind.i64.wrap (((m + g : Nat) : Int) + (d : Int)) = ((m + g + d : Nat) : Int) := by rw [IntWalk.i64_in _ (by omega)]; omega
  have he : (s.extract 0 0) = ⟨#[]⟩ := Utf.ba_ext (by rw [Utf.extract_list]; rfl)
  have HE := Lib.hid he
  clear he b1 b2 b3
  generalize hmg : m + g = mg at *
  generalize hmd : mg + d = md at *
  by_cases hm : m = 0
  · have q1 : ((m : Int) == 0) = true := by rw [hm]; rfl
    have HR : Hid (s.extract 0 (expo s.data.toList) = ⟨#[]⟩) := Lib.hid (by rw [HQ.out, if_pos (.inl hm), HE.out])
    clear hm hmg hmd
    go_enter Tryz.func102, Tryz.ntmps102
    go_wp2_with (first | (go_at_call 94; ((with_reducible refine (c3 _).mono ?_); rintro e w' ⟨rfl, rfl⟩)) | (go_at_call 104; ((with_reducible refine (c1 _).mono ?_); rintro e w' ⟨rfl, rfl⟩)) | (go_at_call 104; ((with_reducible refine (c2 _).mono ?_); rintro e w' ⟨rfl, rfl⟩)))
    go_ret
    exact ⟨by rw [HR.out]; rfl, rfl⟩
  · have q1 : ((m : Int) == 0) = false := beq_eq_false_iff_ne.2 (by omega)
    by_cases hd : d = 0
    · have q2 : ((d : Int) == 0) = true := by rw [hd]; rfl
      have HR : Hid (s.extract 0 (expo s.data.toList) = ⟨#[]⟩) := Lib.hid (by rw [HQ.out, if_pos (.inr hd), HE.out])
      clear hm hmg hmd hd
      go_enter Tryz.func102, Tryz.ntmps102
      go_wp2_with (first | (go_at_call 94; ((with_reducible refine (c3 _).mono ?_); rintro e w' ⟨rfl, rfl⟩)) | (go_at_call 104; ((with_reducible refine (c1 _).mono ?_); rintro e w' ⟨rfl, rfl⟩)) | (go_at_call 104; ((with_reducible refine (c2 _).mono ?_); rintro e w' ⟨rfl, rfl⟩)))
      go_ret
      exact ⟨by rw [HR.out]; rfl, rfl⟩
    · have q2 : ((d : Int) == 0) = false := beq_eq_false_iff_ne.2 (by omega)
      have HR : Hid (s.extract 0 (expo s.data.toList) = s.extract 0 md) := Lib.hid (by rw [HQ.out, if_neg (by omega), ← hmd])
      clear hm hmg hmd hd
      go_enter Tryz.func102, Tryz.ntmps102
      go_wp2_with (first | (go_at_call 94; ((with_reducible refine (c3 _).mono ?_); rintro e w' ⟨rfl, rfl⟩)) | (go_at_call 104; ((with_reducible refine (c1 _).mono ?_); rintro e w' ⟨rfl, rfl⟩)) | (go_at_call 104; ((with_reducible refine (c2 _).mono ?_); rintro e w' ⟨rfl, rfl⟩)))
      go_ret
      exact ⟨by rw [HR.out]; rfl, rfl⟩
theorem blank_any (s : ByteArray) (w : World) (hz : s.size ≤ 1000000000) : Calls Tryz.prog 83 #[.string s] w fun e w' => e = .returned (.tuple #[.int .u8 1, .int .i64 (lead blankB s.data.toList : Nat)]) ∧ w = w' := by
  have h1 := fun W => leading58 blankB isBlank_any s W hz
  go_enter Tryz.func83, Tryz.ntmps83
  go_wp2_with (go_at_call 94; refine (h1 _).mono ?_; rintro e w' ⟨rfl, rfl⟩)
  go_ret2
  exact ⟨rfl, rfl⟩
theorem sign_any (s : ByteArray) (w : World) : Calls Tryz.prog 90 #[.string s] w fun e w' => e = .returned (.tuple #[.int .u8 8, .int .i64 (oneB onesL s.data.toList : Nat)]) ∧ w = w' := by
  have h1 := fun W => one_any s ⟨#[40, 41, 91, 93, 44, 59, 124, 61, 60, 62, 43, 45, 42, 47, 94, 64]⟩ W
  go_enter Tryz.func90, Tryz.ntmps90
  go_wp2_with (go_at_call 104; refine (h1 _).mono ?_; rintro e w' ⟨rfl, rfl⟩)
  go_ret2
  exact ⟨rfl, rfl⟩
end Go.Proofs.YtingfomfibhnhaaGreatDoor
namespace Go.Proofs.YtingfomfibhnhaaGreatDoor
open Go.RowKit

theorem has_any (s p : ByteArray) (w : World) : Calls Tryz.prog 96 #[.string s, .string p] w fun e w' => e = .returned (.bool (Lib.hasPrefix s.data.toList p.data.toList)) ∧ w = w' :=
  (Tryz.strings_HasPrefix s p w).mono fun _ _ h => ⟨h.1, h.2.symm⟩
def remR (l : List UInt8) : Nat × Nat := if opens l then (if (rem 0 false l).2 then 2 else 9, (rem 0 false l).1) else (0, 0)
def addK (k : Nat) (x : Nat × Bool) : Nat × Bool := (x.1 + k, x.2)
theorem closes_len {l : List UInt8} (h : closes l = true) : 2 ≤ l.length := by
  unfold closes at h
  have := (List.isPrefixOf_iff_prefix.1 h).length_le
  simpa using this
theorem rem_opens {l : List UInt8} {o : Nat} (h : opens l = true) : rem o false l = addK 2 (rem (o + 1) false (l.drop 2)) := by
  match l, opens_len h with
  | c :: d :: r, _ =>
    rw [rem_false, if_pos h, rem_true, if_neg (by omega)]
    rfl
theorem rem_closes {l : List UInt8} {o : Nat} (h : closes l = true) (ho : opens l = false) : rem o false l = if o - 1 = 0 then (2, true) else addK 2 (rem (o - 1) false (l.drop 2)) := by
  match l, closes_len h with
  | c :: d :: r, _ =>
    rw [rem_false, if_neg (by simp [ho]), if_pos h, rem_true]
    split <;> rfl
theorem rem_else {l : List UInt8} {o : Nat} (hl : 0 < l.length) (h : closes l = false) (ho : opens l = false) : rem o false l = addK 1 (rem o false (l.drop 1)) := by
  match l, hl with
  | c :: r, _ =>
    rw [rem_false, if_neg (by simp [ho]), if_neg (by simp [h])]
    rfl
theorem addK_add (a b : Nat) (x : Nat × Bool) : addK a (addK b x) = addK (a + b) x := by unfold addK; simp; omega
def RemInv (l : List UInt8) (o k : Nat) : Prop := (o = 0 → k = 0) ∧ o ≤ k ∧ rem 0 false l = addK k (rem o false (l.drop k))
theorem remInv_start (l : List UInt8) : RemInv l 0 0 := ⟨fun _ => rfl, Nat.le_refl _, rfl⟩
theorem remInv_open {l : List UInt8} {o k : Nat} (h : RemInv l o k) (ho : opens (l.drop k) = true) : RemInv l (o + 1) (k + 2) :=
  ⟨fun x => by omega, by have := h.2.1; omega, by rw [h.2.2, rem_opens ho, addK_add, List.drop_drop]⟩
theorem remInv_close {l : List UInt8} {o k : Nat} (h : RemInv l o k) (h1 : 2 ≤ o) (hc : closes (l.drop k) = true) (ho : opens (l.drop k) = false) : RemInv l (o - 1) (k + 2) :=
  ⟨fun x => by omega, by have := h.2.1; omega, by rw [h.2.2, rem_closes hc ho, if_neg (by omega), addK_add, List.drop_drop]⟩
theorem remInv_else {l : List UInt8} {o k : Nat} (h : RemInv l o k) (h1 : 1 ≤ o) (hk : k < l.length) (hc : closes (l.drop k) = false) (ho : opens (l.drop k) = false) : RemInv l o (k + 1) :=
  ⟨fun x => by omega, by have := h.2.1; omega, by rw [h.2.2, rem_else (by rw [List.length_drop]; omega) hc ho, addK_add, List.drop_drop]⟩
theorem remInv_some {l : List UInt8} {o k : Nat} (h : RemInv l o k) (hl : opens l = true) (ho : opens (l.drop k) = false) : 1 ≤ o := by
  rcases Nat.eq_zero_or_pos o with g | g
  · have := h.1 g
    subst this
    rw [List.drop_zero, hl] at ho; cases ho
  · exact g
theorem remInv_done {l : List UInt8} {k : Nat} (h : RemInv l 1 k) (hl : opens l = true) (hc : closes (l.drop k) = true) (ho : opens (l.drop k) = false) : remR l = (2, k + 2) := by
  have e := h.2.2
  rw [rem_closes hc ho, if_pos (by omega)] at e
  unfold remR
  rw [if_pos hl, e]; simp [addK]; omega
theorem remInv_end {l : List UInt8} {o k : Nat} (h : RemInv l o k) (hl : opens l = true) (hk : l.length ≤ k) : remR l = (9, l.length) := by
  have e := h.2.2
  rw [List.drop_eq_nil_of_le hk, rem_nil] at e
  have e2 : (rem 0 false l).2 = false := by rw [e]; rfl
  have e3 := rem_open l 0 false e2
  unfold remR
  rw [if_pos hl, e2, e3]; rfl
set_option maxHeartbeats 4000000 in
theorem remark_any (s : ByteArray) (w : World) (hz : s.size ≤ 1000000000) : Calls Tryz.prog 84 #[.string s] w fun e w' => e = .returned (.tuple #[.int .u8 (remR s.data.toList).1, .int .i64 (remR s.data.toList).2]) ∧ w = w' := by
  have c1 := fun W => has_any s ⟨#[40, 42]⟩ W
  have e1 : Lib.hasPrefix s.data.toList (⟨#[40, 42]⟩ : ByteArray).data.toList = opens s.data.toList := rfl
  rw [e1] at c1
  have hls : s.data.toList.length = s.size := (Lib.size_eq s).symm
  have HL := Lib.hid hls
  clear hls e1
  obtain ⟨R, hR⟩ : ∃ R, remR s.data.toList = R := ⟨_, rfl⟩
  obtain ⟨R1, R2⟩ := R
  rw [hR]
  have HR := Lib.hid hR
  clear hR
  cases ho : opens s.data.toList with
  | false =>
    rw [ho] at c1
    have HN : Hid (R1 = 0 ∧ R2 = 0) := Lib.hid (by have := HR.out; unfold remR at this; rw [if_neg (by simp [ho])] at this; injection this with a b; exact ⟨a.symm, b.symm⟩)
    clear ho
    go_enter Tryz.func84, Tryz.ntmps84
    go_wp2_with (go_at_call 96; refine (c1 _).mono ?_; rintro e w' ⟨rfl, rfl⟩)
    go_ret2
    exact ⟨by rw [HN.out.1, HN.out.2]; rfl, rfl⟩
  | true =>
    rw [ho] at c1
    have HO := Lib.hid ho
    clear ho
    go_enter Tryz.func84, Tryz.ntmps84
    go_wp2_with (go_at_call 96; refine (c1 _).mono ?_; rintro e w' ⟨rfl, rfl⟩)
    clear c1
    go_loop [4, 5] (fun a i => ∃ o k : Nat, a = .int .i64 o ∧ i = .int .i64 k ∧ k ≤ s.size ∧ Hid (RemInv s.data.toList o k)) (fun _ i => s.size - (intOf i).toNat)
    case atStart => exact ⟨0, 0, rfl, rfl, Nat.zero_le _, Lib.hid (remInv_start _)⟩
    case round =>
      obtain ⟨o, k, rfl, rfl, hk, HI⟩ := hrel
      by_cases hlt : k < s.size
      · have hlt' : (k : Int) < (s.size : Int) := by omega
        have c2 := fun W => has_any (s.extract k s.size) ⟨#[40, 42]⟩ W
        have e2 : Lib.hasPrefix (s.extract k s.size).data.toList (⟨#[40, 42]⟩ : ByteArray).data.toList = opens (s.data.toList.drop k) := by rw [ext_list]; rfl
        have c3 := fun W => has_any (s.extract k s.size) ⟨#[42, 41]⟩ W
        have e3 : Lib.hasPrefix (s.extract k s.size).data.toList (⟨#[42, 41]⟩ : ByteArray).data.toList = closes (s.data.toList.drop k) := by rw [ext_list]; rfl
        rw [e2] at c2
        rw [e3] at c3
        clear e2 e3
        have hov := HI.out.2.1
        have w1 : IntKind.i64.wrap ((o : Int) + 1) = ((o + 1 : Nat) : Int) := by rw [IntWalk.i64_in _ (by omega)]; omega
        have w2 : IntKind.i64.wrap ((k : Int) + 2) = ((k + 2 : Nat) : Int) := by rw [IntWalk.i64_in _ (by omega)]; omega
        have w3 : IntKind.i64.wrap ((k : Int) + 1) = ((k + 1 : Nat) : Int) := by rw [IntWalk.i64_in _ (by omega)]; omega
        cases ho : opens (s.data.toList.drop k) with
        | true =>
          rw [ho] at c2
          have h2 := opens_len ho
          rw [List.length_drop, HL.out] at h2
          have HN := Lib.hid (remInv_open HI.out ho)
          have q : (((o + 1 : Nat) : Int) == 0) = false := beq_eq_false_iff_ne.2 (by omega)
          clear ho c3
          go_wp2_with (go_at_call 96; refine (c2 _).mono ?_; rintro e w' ⟨rfl, rfl⟩)
          go_round
          case rel => exact ⟨o + 1, k + 2, rfl, rfl, by omega, HN⟩
          case measure => simp [intOf]; omega
        | false =>
          rw [ho] at c2
          have ho1 := remInv_some HI.out HO.out ho
          have w4 : IntKind.i64.wrap ((o : Int) - 1) = ((o - 1 : Nat) : Int) := by rw [IntWalk.i64_in _ (by omega)]; omega
          cases hc : closes (s.data.toList.drop k) with
          | true =>
            rw [hc] at c3
            have h2 := closes_len hc
            rw [List.length_drop, HL.out] at h2
            by_cases g : o = 1
            · have q : (((o - 1 : Nat) : Int) == 0) = true := by rw [g]; rfl
              have HN : Hid (R1 = 2 ∧ R2 = k + 2) := Lib.hid (by
                have hi := HI.out
                rw [g] at hi
                have := remInv_done hi HO.out hc ho
                rw [HR.out] at this; injection this with a b; exact ⟨a, b⟩)
              clear ho hc g
              go_wp2_with (first | (go_at_call 96; ((with_reducible refine (c2 _).mono ?_); rintro e w' ⟨rfl, rfl⟩)) | (go_at_call 96; ((with_reducible refine (c3 _).mono ?_); rintro e w' ⟨rfl, rfl⟩)))
              go_ret2
              exact ⟨by rw [HN.out.1, HN.out.2]; rfl, rfl⟩
            · have q : (((o - 1 : Nat) : Int) == 0) = false := beq_eq_false_iff_ne.2 (by omega)
              have HN := Lib.hid (remInv_close HI.out (by omega) hc ho)
              clear ho hc
              go_wp2_with (first | (go_at_call 96; ((with_reducible refine (c2 _).mono ?_); rintro e w' ⟨rfl, rfl⟩)) | (go_at_call 96; ((with_reducible refine (c3 _).mono ?_); rintro e w' ⟨rfl, rfl⟩)))
              go_round
              case rel => exact ⟨o - 1, k + 2, rfl, rfl, by omega, HN⟩
              case measure => simp [intOf]; omega
          | false =>
            rw [hc] at c3
            have q : ((o : Int) == 0) = false := beq_eq_false_iff_ne.2 (by omega)
            have HN := Lib.hid (remInv_else HI.out ho1 (by rw [HL.out]; exact hlt) hc ho)
            clear ho hc
            go_wp2_with (first | (go_at_call 96; ((with_reducible refine (c2 _).mono ?_); rintro e w' ⟨rfl, rfl⟩)) | (go_at_call 96; ((with_reducible refine (c3 _).mono ?_); rintro e w' ⟨rfl, rfl⟩)))
            go_round
            case rel => exact ⟨o, k + 1, rfl, rfl, by omega, HN⟩
            case measure => simp [intOf]; omega
      · have hlt' : ¬ (k : Int) < (s.size : Int) := by omega
        have HN : Hid (R1 = 9 ∧ R2 = s.size) := Lib.hid (by
          have := remInv_end HI.out HO.out (by rw [HL.out]; omega)
          rw [HR.out, HL.out] at this; injection this with a b; exact ⟨a, b⟩)
        go_wp2_with fail
        go_ret2
        exact ⟨by rw [HN.out.1, HN.out.2]; rfl, rfl⟩

/-! ### the signs of two bytes -/
def twoS (k : Nat) : ByteArray := ⟨(twosL.getD k []).toArray⟩
def TwosAt (w : World) : Prop := ∀ i, i < 11 → w.cell? ⟨0, i, none⟩ = some (.string (twoS i))
def twosC : Array Value := #[.string (twoS 0), .string (twoS 1), .string (twoS 2), .string (twoS 3), .string (twoS 4), .string (twoS 5), .string (twoS 6), .string (twoS 7), .string (twoS 8), .string (twoS 9), .string (twoS 10)]
theorem TwosAt.below {n : Nat} {W W' : World} (h : TwosAt W) (hb : Below n W W') (hn : 1 ≤ n) : TwosAt W' := fun i hi => (hb.cell (p := ⟨0, i, none⟩) (by show 0 < n; omega)).trans (h i hi)
theorem run_twos (w : World) (h : TwosAt w) : (loadVar 128 ⟨0, 0, none⟩).run Tryz.prog w = .ok (.agg twosC) w := by
  have hl : (loadCells ⟨0, 0, none⟩ twosC.toList.length).run Tryz.prog w = .ok twosC.toList.toArray w :=
    run_loadCells_list (P := Tryz.prog) w ⟨0, 0, none⟩ twosC.toList (fun j v hv => by
      have hadd : (⟨0, 0, none⟩ : Addr).add j = ⟨0, j, none⟩ := by unfold Addr.add; split <;> simp_all
      rw [hadd]
      have hj : j < 11 := by
        rcases Nat.lt_or_ge j 11 with g | g
        · exact g
        · rw [List.getElem?_eq_none (by exact g)] at hv; cases hv
      rw [h j hj]
      have hc : ∀ j, j < 11 → twosC.toList[j]? = some (Value.string (twoS j)) := by
        intro j hj
        match j, hj with
        | 0, _ => rfl
        | 1, _ => rfl
        | 2, _ => rfl
        | 3, _ => rfl
        | 4, _ => rfl
        | 5, _ => rfl
        | 6, _ => rfl
        | 7, _ => rfl
        | 8, _ => rfl
        | 9, _ => rfl
        | 10, _ => rfl
      rw [hc j hj] at hv
      exact hv)
  have hagg : (isAgg 128).run Tryz.prog w = .ok true w := by
    unfold isAgg
    rw [Sem.run_bind, run_underlying Tryz.underlying128 w]
    rfl
  cases hq : Tryz.prog.info? 128 with
  | none =>
    have : (Tryz.prog.info? 128).map (·.size) = some 11 := by kernel_rfl
    rw [hq] at this; cases this
  | some i =>
    have hs : i.size = twosC.size := by
      have : (Tryz.prog.info? 128).map (·.size) = some 11 := by kernel_rfl
      rw [hq] at this; exact Option.some.inj this
    simp only [Array.length_toList, Array.toArray_toList] at hl
    simp [loadVar, Sem.run_bind, hagg, sizeOf, typeInfo, hq, hs, hl]
theorem wpList_load_it {P : Program} {ops : Array Oper} {rest : List Oper} {o : Oper} {a : Act} {w : World} {Q : Exit → Act → World → Prop} (hgd : o.guard = none) (ty : TypeId) (x : Operand) (ho : o.op = .load ty x)
    (p : Addr) (hx : a.eval x = .pointer (some p)) (v : Value) (hr : (loadVar ty p).run P w = .ok v w)
    (h : wpList P ops Q rest (a.put o.dst v) w) : wpList P ops Q (o :: rest) a w :=
  wpList_plain hgd fun _ hK => by
    unfold Oper.wp execOp
    simp only [ho, hx, Instr.loadAt, Instr.sureAddr, Sem.run_bind, Sem.run_pure, Result.andThen_ok, hr]
    exact hK _ _ h
theorem idx_two0 (W : World) : (Instr.index 128 (.agg twosC) (.int .i64 0)).run Tryz.prog W = .ok (.string (twoS 0)) W := by kernel_rfl
theorem idx_two1 (W : World) : (Instr.index 128 (.agg twosC) (.int .i64 1)).run Tryz.prog W = .ok (.string (twoS 1)) W := by kernel_rfl
theorem idx_two2 (W : World) : (Instr.index 128 (.agg twosC) (.int .i64 2)).run Tryz.prog W = .ok (.string (twoS 2)) W := by kernel_rfl
theorem idx_two3 (W : World) : (Instr.index 128 (.agg twosC) (.int .i64 3)).run Tryz.prog W = .ok (.string (twoS 3)) W := by kernel_rfl
theorem idx_two4 (W : World) : (Instr.index 128 (.agg twosC) (.int .i64 4)).run Tryz.prog W = .ok (.string (twoS 4)) W := by kernel_rfl
theorem idx_two5 (W : World) : (Instr.index 128 (.agg twosC) (.int .i64 5)).run Tryz.prog W = .ok (.string (twoS 5)) W := by kernel_rfl
theorem idx_two6 (W : World) : (Instr.index 128 (.agg twosC) (.int .i64 6)).run Tryz.prog W = .ok (.string (twoS 6)) W := by kernel_rfl
theorem idx_two7 (W : World) : (Instr.index 128 (.agg twosC) (.int .i64 7)).run Tryz.prog W = .ok (.string (twoS 7)) W := by kernel_rfl
theorem idx_two8 (W : World) : (Instr.index 128 (.agg twosC) (.int .i64 8)).run Tryz.prog W = .ok (.string (twoS 8)) W := by kernel_rfl
theorem idx_two9 (W : World) : (Instr.index 128 (.agg twosC) (.int .i64 9)).run Tryz.prog W = .ok (.string (twoS 9)) W := by kernel_rfl
theorem idx_two10 (W : World) : (Instr.index 128 (.agg twosC) (.int .i64 10)).run Tryz.prog W = .ok (.string (twoS 10)) W := by kernel_rfl
theorem idx_twos (k : Nat) (hk : k < 11) (W : World) : (Instr.index 128 (.agg twosC) (.int .i64 k)).run Tryz.prog W = .ok (.string (twoS k)) W := by
  rcases (by omega : k = 0 ∨ k = 1 ∨ k = 2 ∨ k = 3 ∨ k = 4 ∨ k = 5 ∨ k = 6 ∨ k = 7 ∨ k = 8 ∨ k = 9 ∨ k = 10) with rfl | rfl | rfl | rfl | rfl | rfl | rfl | rfl | rfl | rfl | rfl
  · exact idx_two0 W
  · exact idx_two1 W
  · exact idx_two2 W
  · exact idx_two3 W
  · exact idx_two4 W
  · exact idx_two5 W
  · exact idx_two6 W
  · exact idx_two7 W
  · exact idx_two8 W
  · exact idx_two9 W
  · exact idx_two10 W
def twoR (l : List UInt8) : Nat × Nat := if twosL.contains (l.take 2) then (8, 2) else (0, 0)
theorem two_pre (x l : List UInt8) (hx : x.length = 2) : x.isPrefixOf l = (l.take 2 == x) := by
  rw [Bool.eq_iff_iff, List.isPrefixOf_iff_prefix, beq_iff_eq, List.prefix_iff_eq_take, hx]
  exact ⟨fun h => h.symm, fun h => h.symm⟩
theorem two_getD (k : Nat) (h : k < 11) : (twosL.getD k []).length = 2 ∧ twosL.getD k [] ∈ twosL := by
  match k, h with
  | 0, _ => decide
  | 1, _ => decide
  | 2, _ => decide
  | 3, _ => decide
  | 4, _ => decide
  | 5, _ => decide
  | 6, _ => decide
  | 7, _ => decide
  | 8, _ => decide
  | 9, _ => decide
  | 10, _ => decide
theorem two_yes {l : List UInt8} {k : Nat} (hk : k < 11) (h : Lib.hasPrefix l (twosL.getD k []) = true) : twoR l = (8, 2) := by
  have h1 : (twosL.getD k []).isPrefixOf l = true := h
  rw [two_pre _ _ (two_getD k hk).1, beq_iff_eq] at h1
  unfold twoR
  rw [if_pos (List.contains_iff_mem.2 (by rw [h1]; exact (two_getD k hk).2))]
theorem two_no {l : List UInt8} (h : ∀ k, k < 11 → Lib.hasPrefix l (twosL.getD k []) = false) : twoR l = (0, 0) := by
  unfold twoR
  rw [if_neg]
  intro hc
  obtain ⟨k, hk, e⟩ := List.getElem_of_mem (List.contains_iff_mem.1 hc)
  have hk' : k < 11 := hk
  have h1 : (twosL.getD k []).isPrefixOf l = false := h k hk'
  rw [two_pre _ _ (two_getD k hk').1] at h1
  have e2 : twosL.getD k [] = l.take 2 := by rw [List.getD_eq_getElem?_getD, List.getElem?_eq_getElem hk]; exact e
  rw [e2, beq_self_eq_true] at h1; cases h1
set_option maxHeartbeats 4000000 in
theorem twoByteSign_any (s : ByteArray) (w : World) (hT : TwosAt w) : Calls Tryz.prog 89 #[.string s] w fun e w' => e = .returned (.tuple #[.int .u8 (twoR s.data.toList).1, .int .i64 (twoR s.data.toList).2]) ∧ w = w' := by
  have HR := Lib.hid (run_twos w hT)
  obtain ⟨T, hTT⟩ : ∃ T : Value, .agg twosC = T := ⟨_, rfl⟩
  have HX : Hid (∀ (k : Nat), k < 11 → ∀ W, (Instr.index 128 T (.int .i64 k)).run Tryz.prog W = .ok (.string (twoS k)) W) := Lib.hid (by rw [← hTT]; exact idx_twos)
  rw [hTT] at HR
  clear hTT hT
  go_enter Tryz.func89, Tryz.ntmps89
  go_wp2_with (refine wpList_load_it rfl 128 _ rfl ⟨0, 0, none⟩ rfl T HR.out ?_)
  go_loop [7] (fun i => ∃ k : Nat, i = .int .i64 k ∧ k ≤ 11 ∧ Hid (∀ j, j < k → Lib.hasPrefix s.data.toList (twosL.getD j []) = false)) (fun i => 11 - (intOf i).toNat)
  case atStart => exact ⟨0, rfl, by omega, Lib.hid (fun j hj => by omega)⟩
  case round =>
    obtain ⟨k, rfl, hk, HJ⟩ := hrel
    by_cases hlt : k < 11
    · have hlt' : (k : Int) < 11 := by omega
      have hx := HX.out k hlt
      have c1 := fun W => has_any s (twoS k) W
      have e1 : (twoS k).data.toList = twosL.getD k [] := rfl
      rw [e1] at c1
      have hz2 : (twoS k).size = 2 := (two_getD k hlt).1
      generalize twoS k = TS at *
      clear e1
      have w1 : IntKind.i64.wrap ((k : Int) + 1) = ((k + 1 : Nat) : Int) := by rw [IntWalk.i64_in _ (by omega)]; omega
      cases hb : Lib.hasPrefix s.data.toList (twosL.getD k []) with
      | true =>
        rw [hb] at c1
        have HN := Lib.hid (two_yes hlt hb)
        clear hb
        go_wp2_with (go_at_call 96; refine (c1 _).mono ?_; rintro e w' ⟨rfl, rfl⟩)
        go_ret2
        exact ⟨by rw [HN.out]; rfl, rfl⟩
      | false =>
        rw [hb] at c1
        have HN : Hid (∀ j, j < k + 1 → Lib.hasPrefix s.data.toList (twosL.getD j []) = false) := Lib.hid (fun j hj => by
          rcases Nat.lt_or_ge j k with g | g
          · exact HJ.out j g
          · obtain rfl : j = k := by omega
            exact hb)
        clear hb
        go_wp2_with (go_at_call 96; refine (c1 _).mono ?_; rintro e w' ⟨rfl, rfl⟩)
        go_round
        case rel => exact ⟨k + 1, rfl, by omega, HN⟩
        case measure => simp [intOf]; omega
    · obtain rfl : k = 11 := by omega
      have HN := Lib.hid (two_no HJ.out)
      have hlt' : ¬ (((11 : Nat) : Int) < 11) := by omega
      go_wp2_with fail
      go_ret2
      exact ⟨by rw [HN.out]; rfl, rfl⟩
end Go.Proofs.YtingfomfibhnhaaGreatDoor
namespace Go.Proofs.YtingfomfibhnhaaGreatDoor
open Go.RowKit

def valF (acc : Nat) (l : List UInt8) : Nat := l.foldl (fun n c => n * 10 + (c.toNat - 48)) acc
theorem valF_ge : ∀ (l : List UInt8) (acc : Nat), acc ≤ valF acc l
  | [], acc => Nat.le_refl _
  | c :: r, acc => by
    have := valF_ge r (acc * 10 + (c.toNat - 48))
    show acc ≤ valF (acc * 10 + (c.toNat - 48)) r
    omega
theorem parse_val : ∀ (l : List UInt8) (acc : Nat), (∀ c ∈ l, digB c = true) → Lib.parseUint10 acc l = .ok (valF acc l) ∨ (Lib.parseUint10 acc l = .range ∧ 18446744073709551616 ≤ valF acc l)
  | [], acc, _ => .inl rfl
  | c :: r, acc, h => by
    have hc := h c (by simp)
    have hc2 : 48 ≤ c.toNat ∧ c.toNat ≤ 57 := by unfold digB at hc; simpa using hc
    have hv : valF acc (c :: r) = valF (acc * 10 + (c.toNat - 48)) r := rfl
    have hg := valF_ge r (acc * 10 + (c.toNat - 48))
    rw [hv]
    unfold Lib.parseUint10
    rw [if_pos hc2]
    by_cases h1 : 1844674407370955162 ≤ acc
    · rw [if_pos h1]; exact .inr ⟨rfl, by omega⟩
    · rw [if_neg h1]
      by_cases h2 : 18446744073709551616 ≤ acc * 10 + (c.toNat - 48)
      · rw [if_pos h2]; exact .inr ⟨rfl, by omega⟩
      · rw [if_neg h2]; exact parse_val r _ (fun d hd => h d (by simp [hd]))
/-- The text of an exponent. -/
def ExpText (l : List UInt8) : Prop := l = [] ∨ ∃ c r, l = c :: r ∧ (∀ d ∈ r.drop (sgn r), digB d = true) ∧ r.drop (sgn r) ≠ []
theorem lead_mem {p : UInt8 → Bool} {l : List UInt8} {n : Nat} (h : n ≤ lead p l) : ∀ d ∈ l.take n, p d = true := by
  intro d hd
  obtain ⟨k, hk, e⟩ := List.getElem_of_mem hd
  rw [List.length_take] at hk
  rw [List.getElem_take] at e
  exact lead_all p l k d (by omega) (by rw [← e]; exact List.getElem?_eq_getElem _)
theorem expT_text (r : List UInt8) : ExpText (expT r) := by
  unfold expT
  generalize r.drop (frac r) = l
  cases l with
  | nil => exact .inl rfl
  | cons c r =>
    rw [expo_cons]
    by_cases h1 : (c == 101 || c == 69) = true
    · rw [if_pos h1]
      by_cases h2 : lead digB (r.drop (sgn r)) = 0
      · rw [if_pos h2]; exact .inl rfl
      · rw [if_neg h2, Nat.add_assoc, Nat.add_comm 1, List.take_succ_cons]
        refine .inr ⟨c, _, rfl, ?_, ?_⟩
        · rw [sgn_take _ _ (by omega), List.drop_take, Nat.add_sub_cancel_left]
          exact lead_mem (Nat.le_refl _)
        · rw [sgn_take _ _ (by omega), List.drop_take, Nat.add_sub_cancel_left]
          intro e
          have := congrArg List.length e
          have hl := lead_le digB (r.drop (sgn r))
          rw [List.length_take, List.length_nil] at this
          omega
    · rw [if_neg h1]; exact .inl rfl
theorem atoi_of {c : UInt8} {r : List UInt8} (hd : ∀ d ∈ r.drop (sgn r), digB d = true) (hn : r.drop (sgn r) ≠ []) :
    Lib.atoiAll r = .ok (power (c :: r)) ∨ (Lib.atoiAll r = .range ∧ (power (c :: r) ≤ -1000000 ∨ 1000000 ≤ power (c :: r))) := by
  cases r with
  | nil => exact absurd rfl hn
  | cons d t =>
    have h43 : (d == 43) = true ↔ d.toNat = 43 := by
      rw [beq_iff_eq]; exact ⟨fun h => by rw [h]; rfl, fun h => UInt8.toNat_inj.1 h⟩
    have h45 : (d == 45) = true ↔ d.toNat = 45 := by
      rw [beq_iff_eq]; exact ⟨fun h => by rw [h]; rfl, fun h => UInt8.toNat_inj.1 h⟩
    have hs : sgn (d :: t) = if (d == 43 || d == 45) = true then 1 else 0 := rfl
    have hm : (if d.toNat = 43 ∨ d.toNat = 45 then t else d :: t) = (d :: t).drop (sgn (d :: t)) := by
      rw [hs]
      by_cases g : (d == 43 || d == 45) = true
      · have g2 : d.toNat = 43 ∨ d.toNat = 45 := by rw [Bool.or_eq_true, h43, h45] at g; exact g
        rw [if_pos g, if_pos g2]; rfl
      · have g2 : ¬ (d.toNat = 43 ∨ d.toNat = 45) := by rw [Bool.or_eq_true, h43, h45] at g; exact g
        rw [if_neg g, if_neg g2]; rfl
    have hp : power (c :: d :: t) = if d.toNat = 45 then -(valD ((d :: t).drop (sgn (d :: t))) : Int) else valD ((d :: t).drop (sgn (d :: t))) := by
      have e : power (c :: d :: t) = if (d :: t).head? = some 45 then -(valD ((d :: t).drop (sgn (d :: t))) : Int) else valD ((d :: t).drop (sgn (d :: t))) := rfl
      rw [e]
      by_cases g : d.toNat = 45
      · have : d = 45 := UInt8.toNat_inj.1 g
        rw [if_pos g, if_pos (by rw [this]; rfl)]
      · rw [if_neg g, if_neg (fun h => g (by rw [Option.some.inj h]; rfl))]
    generalize (d :: t).drop (sgn (d :: t)) = L at *
    rw [hp]
    unfold Lib.atoiAll
    simp only []
    rw [hm]
    unfold Lib.parseMag
    rw [if_neg hn]
    have hvv : valD L = valF 0 L := rfl
    rcases parse_val L 0 hd with h | ⟨h, h2⟩
    · rw [h, hvv]
      simp only []
      by_cases hneg : d.toNat = 45
      · simp only [hneg, not_true_eq_false, false_and, if_false, true_and, if_true]
        by_cases g : 9223372036854775808 < valF 0 L
        · rw [if_pos g]; exact .inr ⟨rfl, .inl (by omega)⟩
        · rw [if_neg g]; exact .inl rfl
      · simp only [hneg, not_false_eq_true, true_and, if_false, false_and]
        by_cases g : 9223372036854775808 ≤ valF 0 L
        · rw [if_pos g]; exact .inr ⟨rfl, .inr (by omega)⟩
        · rw [if_neg g]; exact .inl rfl
    · rw [h, hvv]
      refine .inr ⟨rfl, ?_⟩
      split
      · exact .inl (by omega)
      · exact .inr (by omega)
def reachB (e : List UInt8) (f : Nat) : Bool := decide ((f : Int) - 22 ≤ power e) && decide (power e ≤ (f : Int) + 22)
theorem fits_eq (w f : Nat) (e : List UInt8) : fits w f e = (decide (w + f ≤ 15) && reachB e f) := by unfold fits reachB; rw [Bool.and_assoc]

theorem bytesWorld_below (w : World) (e : TypeId) (s : ByteArray) : Below w.heap.size w (Lib.bytesWorld w e s) :=
  ⟨rfl, rfl, rfl, by rw [Lib.bytesWorld_size]; omega, fun k hk => Lib.bytesWorld_at_old w e s k hk⟩
theorem atoi_ok (s : ByteArray) (hz : s.size ≤ 1000000000) (v : Int) (h : Lib.atoiAll s.data.toList = .ok v) (w : World) :
    Calls Tryz.prog 109 #[.string s] w fun e w' => e = .returned (.tuple #[.int .i64 v, .nilIface]) ∧ Below w.heap.size w w' := by
  refine (Tryz.strconv_Atoi_ok s (by omega) v h w).mono ?_
  rintro e w' ⟨h1, h2⟩
  refine ⟨h1, ?_⟩
  rcases h2 with rfl | ⟨t, rfl⟩
  · exact Below.refl _ _
  · exact bytesWorld_below _ _ _
/-- The error that strconv hands back. -/
def ErrAt (w : World) : Prop := ∃ ev, w.cell? ⟨4, 0, none⟩ = some ev ∧ (ev = .nilIface ∨ ∃ te pe, ev = .iface te pe)
theorem ErrAt.below {n : Nat} {W W' : World} (h : ErrAt W) (hb : Below n W W') (hn : 5 ≤ n) : ErrAt W' := by
  obtain ⟨ev, h, h2⟩ := h
  exact ⟨ev, (hb.cell (p := ⟨4, 0, none⟩) (by show 4 < n; omega)).trans h, h2⟩
theorem ba_of (s : ByteArray) {l : List UInt8} (h : s.data.toList = l) : s = ⟨l.toArray⟩ := Utf.ba_ext (by rw [h])
set_option maxHeartbeats 4000000 in
theorem inReach_any (x : ByteArray) (f : Nat) (w : World) (hf : f ≤ 15) (hz : x.size ≤ 1000000000) (hx : ExpText x.data.toList) (he : ErrAt w) :
    Calls Tryz.prog 103 #[.string x, .int .i64 f] w fun e w' => e = .returned (.bool (reachB x.data.toList f)) ∧ Below w.heap.size w w' := by
  rcases hx with hx | ⟨c, r, hx, hd, hn⟩
  · have h0 : x.size = 0 := by rw [Lib.size_eq, hx]; rfl
    have e1 := Utf.isEmpty_yes h0
    have HV : Hid (reachB x.data.toList f = true) := Lib.hid (by rw [hx]; unfold reachB power; simp; omega)
    clear h0 hx
    have k1 : (f : Int) - 22 ≤ 0 := by omega
    have k2 : (0 : Int) ≤ (f : Int) + 22 := by omega
    go_enter Tryz.func103, Tryz.ntmps103
    go_wp2_with fail
    go_ret
    exact ⟨by rw [HV.out]; rfl, Below.refl _ _⟩
  · have h0 : 0 < x.size := by rw [Lib.size_eq, hx]; simp
    have e1 := Utf.isEmpty_no h0
    have hr : (x.extract 1 x.size).data.toList = r := by rw [ext_list, hx]; rfl
    have hrs : (x.extract 1 x.size).size ≤ 1000000000 := by rw [ext_size]; omega
    have h1 : (1 : Int) ≤ (x.size : Int) := by omega
    obtain ⟨ev, he, he2⟩ := he
    rcases atoi_of (c := c) hd hn with ha | ⟨ha, hp⟩
    · have hat := fun W => atoi_ok (x.extract 1 x.size) hrs (power (c :: r)) (by rw [hr]; exact ha) W
      rw [← hx] at hat
      generalize hP : power x.data.toList = P at *
      have HV : Hid (reachB x.data.toList f = (decide ((f : Int) - 22 ≤ P) && decide (P ≤ (f : Int) + 22))) := Lib.hid (by unfold reachB; rw [hP])
      clear hP h0 hx ha hd hn hr
      by_cases h2 : (f : Int) - 22 ≤ P
      · by_cases h3 : P ≤ (f : Int) + 22
        · have HB : Hid (reachB x.data.toList f = true) := Lib.hid (by rw [HV.out, decide_eq_true h2, decide_eq_true h3]; rfl)
          go_enter Tryz.func103, Tryz.ntmps103
          go_wp2_with (go_at_call 109; refine (hat _).mono ?_; rintro e w' ⟨rfl, hb⟩)
          go_ret
          exact ⟨by rw [HB.out]; rfl, hb⟩
        · have HB : Hid (reachB x.data.toList f = decide (P ≤ (f : Int) + 22)) := Lib.hid (by rw [HV.out, decide_eq_true h2, Bool.true_and])
          go_enter Tryz.func103, Tryz.ntmps103
          go_wp2_with (go_at_call 109; refine (hat _).mono ?_; rintro e w' ⟨rfl, hb⟩)
          go_ret
          exact ⟨by rw [HB.out]; rfl, hb⟩
      · have HB : Hid (reachB x.data.toList f = false) := Lib.hid (by rw [HV.out, decide_eq_false h2, Bool.false_and])
        go_enter Tryz.func103, Tryz.ntmps103
        go_wp2_with (go_at_call 109; refine (hat _).mono ?_; rintro e w' ⟨rfl, hb⟩)
        go_ret
        exact ⟨by rw [HB.out]; rfl, hb⟩
    · have hat := Tryz.strconv_Atoi_range (x.extract 1 x.size) (by omega) (by rw [hr]; exact ha) ev w he he2
      rw [← hx] at hp
      have HV : Hid (reachB x.data.toList f = false) := Lib.hid (by
        unfold reachB
        rcases hp with hp | hp
        · rw [decide_eq_false (by omega)]; rfl
        · rw [decide_eq_false (p := power x.data.toList ≤ (f : Int) + 22) (by omega), Bool.and_false])
      clear h0 hx ha hd hn hr hp he he2
      generalize Lib.atoiSat (x.extract 1 x.size).data.toList = S at *
      go_enter Tryz.func103, Tryz.ntmps103
      go_wp2_with (go_at_call 109; refine hat.mono ?_; rintro e w' ⟨NN, rfl, _, _, hb⟩)
      go_ret
      exact ⟨by rw [HV.out]; rfl, hb⟩
def numR (l : List UInt8) : Nat × Nat := if lead digB l = 0 then (0, 0) else num l
def NumEnd2 (V : Nat × Nat) (w : World) (e : Ending) (w' : World) : Prop := e = .returned (.tuple #[.int .u8 V.1, .int .i64 V.2]) ∧ Below w.heap.size w w'
theorem cut_dot (s : ByteArray) (w : World) : Calls Tryz.prog 101 #[.string s, .string ⟨#[46]⟩] w fun e w' => e = .returned (.tuple #[.string (if s.data.toList[0]? = some 46 then s.extract 1 s.size else s), .bool (decide (s.data.toList[0]? = some 46))]) ∧ w = w' := by
  refine (Tryz.strings_CutPrefix s ⟨#[46]⟩ w).mono ?_
  rintro e w' ⟨h1, h2⟩
  refine ⟨?_, h2.symm⟩
  rw [h1]
  have hp : Lib.hasPrefix s.data.toList (⟨#[46]⟩ : ByteArray).data.toList = decide (s.data.toList[0]? = some 46) := by
    show [46].isPrefixOf s.data.toList = _
    rw [Bool.eq_iff_iff, decide_eq_true_eq]
    cases s.data.toList with
    | nil => simp
    | cons c r => simp [List.isPrefixOf]; exact eq_comm
  have ht : (⟨(Lib.trimPrefix s.data.toList (⟨#[46]⟩ : ByteArray).data.toList).toArray⟩ : ByteArray) = if s.data.toList[0]? = some 46 then s.extract 1 s.size else s := by
    unfold Lib.trimPrefix
    rw [hp]
    by_cases h : s.data.toList[0]? = some 46
    · rw [if_pos h, if_pos (decide_eq_true h)]
      exact Utf.ba_ext (by rw [ext_list]; rfl)
    · rw [if_neg h, if_neg (by rw [decide_eq_true_eq]; exact h)]
  rw [hp, ht]
set_option maxHeartbeats 4000000 in
theorem number_any (s : ByteArray) (w : World) (hz : s.size ≤ 1000000000) (he : ErrAt w) : Calls Tryz.prog 87 #[.string s] w (NumEnd2 (numR s.data.toList) w) := by
  have c1 := fun W => leading63 digB isDigit_any s W hz
  have hl := lead_le digB s.data.toList
  rw [← Lib.size_eq] at hl
  obtain ⟨R, hR⟩ : ∃ R, numR s.data.toList = R := ⟨_, rfl⟩
  rw [hR]
  have hn := num_eq s.data.toList
  unfold numR at hR
  obtain ⟨W, hW⟩ : ∃ W, lead digB s.data.toList = W := ⟨_, rfl⟩
  rw [hW] at c1 hl hn hR
  clear hW
  by_cases h0 : W = 0
  · have q : ((W : Int) == 0) = true := by rw [h0]; rfl
    have HR : Hid (R = (0, 0)) := Lib.hid (by rw [← hR, if_pos h0])
    clear hR h0 hn
    go_enter Tryz.func87, Tryz.ntmps87
    go_wp2_with (go_at_call 94; ((with_reducible refine (c1 _).mono ?_); rintro e w' ⟨rfl, rfl⟩))
    go_ret2
    exact ⟨by rw [HR.out]; rfl, Below.refl _ _⟩
  · have q : ((W : Int) == 0) = false := beq_eq_false_iff_ne.2 (by omega)
    rw [if_neg h0] at hR
    have hWs : (W : Int) ≤ (s.size : Int) := by omega
    have c2 := fun Wd => cut_dot (s.extract W s.size) Wd
    rw [ext_list, List.getElem?_drop, Nat.add_zero] at c2
    by_cases hp : s.data.toList[W]? = some 46
    · rw [if_pos hp] at hn
      rw [if_pos hp, decide_eq_true hp] at c2
      obtain ⟨X, hX⟩ : ∃ X, (s.extract W s.size).extract 1 (s.extract W s.size).size = X := ⟨_, rfl⟩
      have hXl : X.data.toList = s.data.toList.drop (W + 1) := by rw [← hX, ext_list, ext_list, List.drop_drop]
      have hWl : W < s.size := by
        rw [Lib.size_eq]
        exact (List.getElem?_eq_some_iff.1 hp).1
      have hXs : X.size + W + 1 = s.size := by rw [Lib.size_eq, hXl, List.length_drop, Lib.size_eq]; rw [Lib.size_eq] at hWl; omega
      rw [hX] at c2
      clear hX
      rw [← hXl] at hn
      have c3 := fun Wd => leading63 digB isDigit_any X Wd (by omega)
      have hfl := lead_le digB X.data.toList
      rw [← Lib.size_eq] at hfl
      have hF1 : frac X.data.toList = lead digB X.data.toList := rfl
      obtain ⟨F, hF⟩ : ∃ F, lead digB X.data.toList = F := ⟨_, rfl⟩
      rw [hF] at c3 hfl hF1
      have hxp := expT_text X.data.toList
      obtain ⟨Y, hY⟩ : ∃ Y, (X.extract F X.size).extract 0 (expo (X.extract F X.size).data.toList) = Y := ⟨_, rfl⟩
      have hYl : Y.data.toList = expT X.data.toList := by rw [← hY, Utf.extract_list, List.drop_zero, ext_list]; unfold expT; rw [hF1]
      have c4 := fun Wd => exponentOf_any (X.extract F X.size) Wd (by rw [ext_size]; omega)
      rw [hY] at c4
      have hYs : Y.size ≤ X.size - F := by
        rw [Lib.size_eq Y, hYl]
        unfold expT
        rw [List.length_take, List.length_drop, hF1, ← Lib.size_eq]; omega
      clear hY
      rw [hF1, ← hYl] at hn
      rw [← hYl] at hxp
      have hYL : Y.data.toList.length = Y.size := (Lib.size_eq Y).symm
      have HR : Hid (R = (if fits W F Y.data.toList then 6 else 9, W + 1 + F + Y.size)) := Lib.hid (by rw [← hR, hn, hYL])
      have hfe := fits_eq W F Y.data.toList
      clear hF hF1 hXl hYl hn hR hp h0 hYL
      have hFs : (F : Int) ≤ (X.size : Int) := by omega
      have w1 : IntKind.i64.wrap ((W : Int) + 1) = ((W + 1 : Nat) : Int) := by rw [IntWalk.i64_in _ (by omega)]; omega
      have w2 : IntKind.i64.wrap (((W + 1 : Nat) : Int) + (F : Int)) = ((W + 1 + F : Nat) : Int) := by rw [IntWalk.i64_in _ (by omega)]; omega
      have w3 : IntKind.i64.wrap (((W + 1 + F : Nat) : Int) + (Y.size : Int)) = ((W + 1 + F + Y.size : Nat) : Int) := by rw [IntWalk.i64_in _ (by omega)]; omega
      have w4 : IntKind.i64.wrap ((W : Int) + (F : Int)) = ((W + F : Nat) : Int) := by rw [IntWalk.i64_in _ (by omega)]; omega
      by_cases h15 : W + F ≤ 15
      · have g : ¬ (15 : Int) < ((W + F : Nat) : Int) := by omega
        have g2 : decide ((15 : Int) < ((W + F : Nat) : Int)) = false := decide_eq_false g
        have c5 := fun Wd h => inReach_any Y F Wd (by omega) (by omega) hxp h
        rw [decide_eq_true h15, Bool.true_and] at hfe
        rw [hfe] at HR
        cases hb : reachB Y.data.toList F with
        | true =>
          rw [hb] at c5 HR
          clear hb hfe h15 hxp
          go_enter Tryz.func87, Tryz.ntmps87
          go_wp2_with (first | (go_at_call 94; ((with_reducible refine (c1 _).mono ?_); rintro e w' ⟨rfl, rfl⟩)) | (go_at_call 94; ((with_reducible refine (c3 _).mono ?_); rintro e w' ⟨rfl, rfl⟩)) | (go_at_call 101; ((with_reducible refine (c2 _).mono ?_); rintro e w' ⟨rfl, rfl⟩)) | (go_at_call 102; ((with_reducible refine (c4 _).mono ?_); rintro e w' ⟨rfl, rfl⟩)) | (go_at_call 103; ((with_reducible refine (c5 _ he).mono ?_); rintro e w' ⟨rfl, hb⟩)))
          go_ret2
          exact ⟨by rw [HR.out]; rfl, hb⟩
        | false =>
          rw [hb] at c5 HR
          clear hb hfe h15 hxp
          go_enter Tryz.func87, Tryz.ntmps87
          go_wp2_with (first | (go_at_call 94; ((with_reducible refine (c1 _).mono ?_); rintro e w' ⟨rfl, rfl⟩)) | (go_at_call 94; ((with_reducible refine (c3 _).mono ?_); rintro e w' ⟨rfl, rfl⟩)) | (go_at_call 101; ((with_reducible refine (c2 _).mono ?_); rintro e w' ⟨rfl, rfl⟩)) | (go_at_call 102; ((with_reducible refine (c4 _).mono ?_); rintro e w' ⟨rfl, rfl⟩)) | (go_at_call 103; ((with_reducible refine (c5 _ he).mono ?_); rintro e w' ⟨rfl, hb⟩)))
          go_ret2
          exact ⟨by rw [HR.out]; rfl, hb⟩
      · have g : (15 : Int) < ((W + F : Nat) : Int) := by omega
        rw [decide_eq_false h15, Bool.false_and] at hfe
        rw [hfe] at HR
        clear hfe h15 hxp
        go_enter Tryz.func87, Tryz.ntmps87
        go_wp2_with (first | (go_at_call 94; ((with_reducible refine (c1 _).mono ?_); rintro e w' ⟨rfl, rfl⟩)) | (go_at_call 94; ((with_reducible refine (c3 _).mono ?_); rintro e w' ⟨rfl, rfl⟩)) | (go_at_call 101; ((with_reducible refine (c2 _).mono ?_); rintro e w' ⟨rfl, rfl⟩)) | (go_at_call 102; ((with_reducible refine (c4 _).mono ?_); rintro e w' ⟨rfl, rfl⟩)))
        go_ret2
        exact ⟨by rw [HR.out]; rfl, Below.refl _ _⟩
    · rw [if_neg hp] at hn
      rw [if_neg hp, decide_eq_false hp] at c2
      have HR : Hid (R = (5, W)) := Lib.hid (by rw [← hR, hn])
      clear hR h0 hn hp
      go_enter Tryz.func87, Tryz.ntmps87
      go_wp2_with (first | (go_at_call 94; ((with_reducible refine (c1 _).mono ?_); rintro e w' ⟨rfl, rfl⟩)) | (go_at_call 101; ((with_reducible refine (c2 _).mono ?_); rintro e w' ⟨rfl, rfl⟩)))
      go_ret2
      exact ⟨by rw [HR.out]; rfl, Below.refl _ _⟩
end Go.Proofs.YtingfomfibhnhaaGreatDoor
namespace Go.Proofs.YtingfomfibhnhaaGreatDoor
open Go.RowKit

def shN (k : Nat) (x : Nat × Nat) : Nat × Nat := (x.1, k + x.2)
def quoR (l : List UInt8) : Nat × Nat := if l[0]? = some 34 then shN 1 (quo 0 (l.drop 1)) else (0, 0)
theorem quo_nil (st : Nat) : quo st [] = (9, 0) := by cases st <;> rfl
theorem quo_zero (c : UInt8) (r : List UInt8) : quo 0 (c :: r) = if c == 34 then (7, 1) else if c == 10 then (9, 0) else if c == 92 then addN (quo 1 r) else addN (quo 0 r) := rfl
theorem quo_one (c : UInt8) (r : List UInt8) : quo 1 (c :: r) = if escB c then addN (quo 0 r) else if c == 10 then (9, 0) else addN (quo 2 r) := rfl
theorem quo_2 (c : UInt8) (r : List UInt8) : quo 2 (c :: r) = if c == 34 then (9, 1) else if c == 10 then (9, 0) else addN (quo 2 r) := rfl
theorem escB_one (c : UInt8) (r : List UInt8) : oneB [110, 116, 92, 34] (c :: r) = if escB c then 1 else 0 := by
  show (if [110, 116, 92, 34].contains c then 1 else 0) = _
  congr 1; unfold escB; simp [Bool.or_assoc]
theorem quo_bad {l : List UInt8} (h : oneB [110, 116, 92, 34] l = 0) : quo 1 l = quo 2 l := by
  cases l with
  | nil => rfl
  | cons c r =>
    rw [escB_one] at h
    have he : ¬ escB c = true := fun x => by rw [if_pos x] at h; cases h
    have h34 : ¬ (c == 34) = true := fun x => he (by unfold escB; simp [x])
    rw [quo_one, quo_2, if_neg he, if_neg h34]
theorem shN_add (a b : Nat) (x : Nat × Nat) : shN a (shN b x) = shN (a + b) x := by unfold shN; simp; omega
theorem addN_sh (x : Nat × Nat) : addN x = shN 1 x := by unfold addN shN; simp; omega
theorem drop_at {l : List UInt8} {k : Nat} {c : UInt8} (h : l[k]? = some c) : l.drop k = c :: l.drop (k + 1) := by
  have hk : k < l.length := (List.getElem?_eq_some_iff.1 h).1
  rw [List.drop_eq_getElem_cons hk, (List.getElem?_eq_some_iff.1 h).2]
def QuoInv (l : List UInt8) (k : Nat) : Prop := quoR l = shN k (quo 0 (l.drop k))
theorem quo_end {l : List UInt8} {k : Nat} (h : QuoInv l k) (hk : l.length ≤ k) : quoR l = (9, k) := by
  unfold QuoInv at h
  rw [h, List.drop_eq_nil_of_le hk, quo_nil]; rfl
theorem quo_close {l : List UInt8} {k : Nat} {c : UInt8} (h : QuoInv l k) (hc : l[k]? = some c) (h1 : (c == 34) = true) : quoR l = (7, k + 1) := by
  unfold QuoInv at h
  rw [h, drop_at hc, quo_zero, if_pos h1]; rfl
theorem quo_line {l : List UInt8} {k : Nat} {c : UInt8} (h : QuoInv l k) (hc : l[k]? = some c) (h1 : (c == 34) = false) (h2 : (c == 10) = true) : quoR l = (9, k) := by
  unfold QuoInv at h
  rw [h, drop_at hc, quo_zero, if_neg (by simp [h1]), if_pos h2]; rfl
theorem quo_else {l : List UInt8} {k : Nat} {c : UInt8} (h : QuoInv l k) (hc : l[k]? = some c) (h1 : (c == 34) = false) (h2 : (c == 10) = false) (h3 : (c == 92) = false) : QuoInv l (k + 1) := by
  unfold QuoInv at *
  rw [h, drop_at hc, quo_zero, if_neg (by simp [h1]), if_neg (by simp [h2]), if_neg (by simp [h3]), addN_sh, shN_add]
theorem quo_esc {l : List UInt8} {k : Nat} {c : UInt8} (h : QuoInv l k) (hc : l[k]? = some c) (h1 : (c == 34) = false) (h2 : (c == 10) = false) (h3 : (c == 92) = true) (h4 : oneB [110, 116, 92, 34] (l.drop (k + 1)) ≠ 0) : QuoInv l (k + 2) ∧ k + 2 ≤ l.length := by
  unfold QuoInv at *
  rw [h, drop_at hc, quo_zero, if_neg (by simp [h1]), if_neg (by simp [h2]), if_pos h3, addN_sh, shN_add]
  cases hd : l.drop (k + 1) with
  | nil => rw [hd] at h4; exact absurd rfl h4
  | cons d r =>
    rw [hd, escB_one] at h4
    have he : escB d = true := by
      apply Classical.byContradiction; intro x; rw [if_neg x] at h4; exact h4 rfl
    have hr : l.drop (k + 2) = r := by
      have := List.drop_drop (i := 1) (j := k + 1) (l := l)
      rw [hd] at this; exact this.symm
    have hlen := congrArg List.length hd
    rw [List.length_drop, List.length_cons] at hlen
    rw [quo_one, if_pos he, addN_sh, shN_add, hr]
    exact ⟨rfl, by omega⟩
theorem quo_spoil {l : List UInt8} {k : Nat} {c : UInt8} (h : QuoInv l k) (hc : l[k]? = some c) (h1 : (c == 34) = false) (h2 : (c == 10) = false) (h3 : (c == 92) = true) (h4 : oneB [110, 116, 92, 34] (l.drop (k + 1)) = 0) : quoR l = (9, k + 1 + (quo 2 (l.drop (k + 1))).2) := by
  unfold QuoInv at h
  have hq := quo_two (l.drop (k + 1))
  rw [h, drop_at hc, quo_zero, if_neg (by simp [h1]), if_neg (by simp [h2]), if_pos h3, addN_sh, shN_add, quo_bad h4, hq]; rfl
set_option maxHeartbeats 4000000 in
theorem quoted_any (s : ByteArray) (w : World) (hz : s.size ≤ 1000000000) : Calls Tryz.prog 88 #[.string s] w fun e w' => e = .returned (.tuple #[.int .u8 (quoR s.data.toList).1, .int .i64 (quoR s.data.toList).2]) ∧ w = w' := by
  have c1 := fun W => one_any s ⟨#[34]⟩ W
  simp only at c1
  have hls : s.data.toList.length = s.size := (Lib.size_eq s).symm
  have HL := Lib.hid hls
  clear hls
  have h1 : oneB [34] s.data.toList = if s.data.toList[0]? = some 34 then 1 else 0 := by
    cases s.data.toList with
    | nil => rfl
    | cons c r =>
      show (if [34].contains c then 1 else 0) = if some c = some 34 then 1 else 0
      by_cases g : c = 34
      · subst g; rfl
      · rw [if_neg (by simp [g]), if_neg (by simp [g])]
  rw [h1] at c1
  clear h1
  by_cases h0 : s.data.toList[0]? = some 34
  · have HI : Hid (QuoInv s.data.toList 1) := Lib.hid (by unfold QuoInv quoR; rw [if_pos h0])
    have HZ : 1 ≤ s.size := by rw [← HL.out]; exact (List.getElem?_eq_some_iff.1 h0).1
    rw [if_pos h0] at c1
    clear h0
    go_enter Tryz.func88, Tryz.ntmps88
    go_wp2_with (go_at_call 104; ((with_reducible refine (c1 _).mono ?_); rintro e w' ⟨rfl, rfl⟩))
    clear c1
    go_loop [4] (fun i => ∃ k : Nat, i = .int .i64 k ∧ k ≤ s.size ∧ Hid (QuoInv s.data.toList k)) (fun i => s.size - (intOf i).toNat)
    case atStart => exact ⟨1, rfl, HZ, HI⟩
    case round =>
      clear HI
      obtain ⟨k, rfl, hk, HI⟩ := hrel
      by_cases hlt : k < s.size
      · have hlt' : (k : Int) < (s.size : Int) := by omega
        have hgc := Lib.hid (str_get s k hlt)
        have e1 : (((s[k]'hlt).toNat : Int) == 34) = ((s[k]'hlt) == 34) := u8_eq rfl
        have e2 : (((s[k]'hlt).toNat : Int) == 10) = ((s[k]'hlt) == 10) := u8_eq rfl
        have e3 : (((s[k]'hlt).toNat : Int) == 92) = ((s[k]'hlt) == 92) := u8_eq rfl
        have w1 : IntKind.i64.wrap ((k : Int) + 1) = ((k + 1 : Nat) : Int) := by rw [IntWalk.i64_in _ (by omega)]; omega
        have w2 : IntKind.i64.wrap (((k + 1 : Nat) : Int) + 1) = ((k + 2 : Nat) : Int) := by rw [IntWalk.i64_in _ (by omega)]; omega
        cases b1 : ((s[k]'hlt) == 34) with
        | true =>
          rw [b1] at e1
          have HN := Lib.hid (quo_close HI.out hgc.out b1)
          clear b1 e2 e3
          go_wp2_with fail
          go_ret2
          exact ⟨by rw [HN.out]; rfl, rfl⟩
        | false =>
          rw [b1] at e1
          cases b2 : ((s[k]'hlt) == 10) with
          | true =>
            rw [b2] at e2
            have HN := Lib.hid (quo_line HI.out hgc.out b1 b2)
            clear b1 b2 e3
            go_wp2_with fail
            go_ret2
            exact ⟨by rw [HN.out]; rfl, rfl⟩
          | false =>
            rw [b2] at e2
            cases b3 : ((s[k]'hlt) == 92) with
            | false =>
              rw [b3] at e3
              have HN := Lib.hid (quo_else HI.out hgc.out b1 b2 b3)
              clear b1 b2 b3
              go_wp2_with fail
              go_round
              case rel => exact ⟨k + 1, rfl, by omega, HN⟩
              case measure => simp [intOf]; omega
            | true =>
              rw [b3] at e3
              have c2 := fun W => one_any (s.extract (k + 1) s.size) ⟨#[110, 116, 92, 34]⟩ W
              rw [ext_list] at c2
              simp only at c2
              have hk1 : ((k + 1 : Nat) : Int) ≤ (s.size : Int) := by omega
              by_cases h4 : oneB [110, 116, 92, 34] (s.data.toList.drop (k + 1)) = 0
              · have HN := Lib.hid (quo_spoil HI.out hgc.out b1 b2 b3 h4)
                have c3 := fun W => spoilt_any (s.extract (k + 1) s.size) W (by rw [ext_size]; omega)
                rw [ext_list] at c3
                have hle := quo_le (s.data.toList.drop (k + 1)) 2
                rw [List.length_drop, HL.out] at hle
                rw [h4] at c2
                generalize (quo 2 (s.data.toList.drop (k + 1))).2 = m at *
                have w3 : IntKind.i64.wrap (((k + 1 : Nat) : Int) + (m : Int)) = ((k + 1 + m : Nat) : Int) := by rw [IntWalk.i64_in _ (by omega)]; omega
                have hm9 : m ≤ 1000000000 := by omega
                have w4 : IntKind.i64.wrap ((k : Int) + 1 + (m : Int)) = (k : Int) + 1 + (m : Int) := by rw [IntWalk.i64_in _ (by omega)]
                clear b1 b2 b3 h4 hle w3
                go_wp2_with (first | (go_at_call 104; ((with_reducible refine (c2 _).mono ?_); rintro e w' ⟨rfl, rfl⟩)) | (go_at_call 105; ((with_reducible refine (c3 _).mono ?_); rintro e w' ⟨rfl, rfl⟩)))
                go_ret2
                exact ⟨by rw [HN.out]; rfl, rfl⟩
              · have HN := Lib.hid (quo_esc HI.out hgc.out b1 b2 b3 h4)
                have h5 : oneB [110, 116, 92, 34] (s.data.toList.drop (k + 1)) = 1 := by
                  have := (oneB_le [110, 116, 92, 34] (s.data.toList.drop (k + 1))).2
                  omega
                have hk2 : k + 2 ≤ s.size := by rw [← HL.out]; exact HN.out.2
                rw [h5] at c2
                clear b1 b2 b3 h4 h5
                go_wp2_with (go_at_call 104; ((with_reducible refine (c2 _).mono ?_); rintro e w' ⟨rfl, rfl⟩))
                go_round
                case rel => exact ⟨k + 2, rfl, hk2, Lib.hid HN.out.1⟩
                case measure => simp [intOf]; omega
      · have hlt' : ¬ (k : Int) < (s.size : Int) := by omega
        have hke : k = s.size := by omega
        have HN := Lib.hid (quo_end HI.out (by rw [HL.out]; omega))
        rw [hke] at HN
        clear hke
        go_wp2_with fail
        go_ret2
        exact ⟨by rw [HN.out]; rfl, rfl⟩
  · have HN : Hid (quoR s.data.toList = (0, 0)) := Lib.hid (by unfold quoR; rw [if_neg h0])
    rw [if_neg h0] at c1
    clear h0
    go_enter Tryz.func88, Tryz.ntmps88
    go_wp2_with (go_at_call 104; ((with_reducible refine (c1 _).mono ?_); rintro e w' ⟨rfl, rfl⟩))
    go_ret2
    exact ⟨by rw [HN.out]; rfl, rfl⟩
end Go.Proofs.YtingfomfibhnhaaGreatDoor
