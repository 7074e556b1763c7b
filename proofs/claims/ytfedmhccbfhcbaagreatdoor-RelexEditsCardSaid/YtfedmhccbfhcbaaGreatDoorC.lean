/-
  Bytes of a kind: isBlank, startsName, isInName, isDigit, the bytes of a spoilt text; leading, oneOf.
-/
import Derived.Test.YtfedmhccbfhcbaaGreatDoorB
import Derived.Test.YtfedmhccbfhcbaaGreatDoorShelf
import Derived.WalkKit
import Derived.WalkLawsBesides
import Derived.IntWalk
import Derived.Deep.RegionHeld3
import Derived.Deep.QuietTactic
import Derived.BigQuiet
import Derived.WalkSpells
import Derived.Below
import Derived.Lib.Hide
import Derived.OwnWalkIn
import Derived.LoopIn
import Derived.Outline
namespace Go.Proofs.YtfedmhccbfhcbaaGreatDoor
open Go.RowKit

theorem u8_eq {c k : UInt8} {n : Int} (h : (k.toNat : Int) = n) : ((c.toNat : Int) == n) = (c == k) := by
  rw [Bool.eq_iff_iff, beq_iff_eq, beq_iff_eq, ← h]
  exact ⟨fun e => UInt8.toNat_inj.1 (by omega), fun e => by rw [e]⟩
theorem u8_ne {c k : UInt8} {n : Int} (h : (k.toNat : Int) = n) : ((c.toNat : Int) != n) = !(c == k) := by
  rw [bne, u8_eq h]
theorem isDigit_any (c : UInt8) (w : World) : Calls Tryz.prog 69 #[.int .u8 c.toNat] w fun e w' => e = .returned (.bool (digB c)) ∧ w = w' := by
  have HB : Hid (digB c = (decide ((48 : Int) ≤ c.toNat) && decide ((c.toNat : Int) ≤ 57))) := Lib.hid (by unfold digB; congr 1 <;> (apply decide_eq_decide.2; omega))
  by_cases h1 : (48 : Int) ≤ c.toNat
  all_goals
    by_cases h2 : (c.toNat : Int) ≤ 57
  all_goals
    go_enter Tryz.func69, Tryz.ntmps69
    go_wp2
    go_ret
    exact ⟨by rw [HB.out]; simp [h1, h2], rfl⟩
theorem startsName_any (c : UInt8) (w : World) : Calls Tryz.prog 67 #[.int .u8 c.toNat] w fun e w' => e = .returned (.bool (lowB c)) ∧ w = w' := by
  have HB : Hid (lowB c = ((decide ((97 : Int) ≤ c.toNat) && decide ((c.toNat : Int) ≤ 122)) || c == 95)) := Lib.hid (by unfold lowB; congr 2 <;> (apply decide_eq_decide.2; omega))
  have e1 : ((c.toNat : Int) == 95) = (c == 95) := u8_eq rfl
  generalize (c == 95) = B at *
  by_cases h1 : (97 : Int) ≤ c.toNat
  all_goals
    by_cases h2 : (c.toNat : Int) ≤ 122
  all_goals
    cases B
  all_goals
    go_enter Tryz.func67, Tryz.ntmps67
    go_wp2
    go_ret
    exact ⟨by rw [HB.out]; simp [h1, h2], rfl⟩
theorem isBlank_any (c : UInt8) (w : World) : Calls Tryz.prog 64 #[.int .u8 c.toNat] w fun e w' => e = .returned (.bool (blankB c)) ∧ w = w' := by
  have HB : Hid (blankB c = (c == 32 || c == 9 || c == 10 || c == 13)) := rfl
  have e1 : ((c.toNat : Int) == 32) = (c == 32) := u8_eq rfl
  have e2 : ((c.toNat : Int) == 9) = (c == 9) := u8_eq rfl
  have e3 : ((c.toNat : Int) == 10) = (c == 10) := u8_eq rfl
  have e4 : ((c.toNat : Int) == 13) = (c == 13) := u8_eq rfl
  generalize (c == 32) = B1 at *
  generalize (c == 9) = B2 at *
  generalize (c == 10) = B3 at *
  generalize (c == 13) = B4 at *
  cases B1
  all_goals
    cases B2
  all_goals
    cases B3
  all_goals
    go_enter Tryz.func64, Tryz.ntmps64
    go_wp2
    go_ret
    exact ⟨by rw [HB.out]; simp, rfl⟩
theorem isSpoilt_any (c : UInt8) (w : World) : Calls Tryz.prog 80 #[.int .u8 c.toNat] w fun e w' => e = .returned (.bool (!(c == 34) && !(c == 10))) ∧ w = w' := by
  have e1 : ((c.toNat : Int) != 34) = !(c == 34) := u8_ne rfl
  have e2 : ((c.toNat : Int) != 10) = !(c == 10) := u8_ne rfl
  generalize (c == 34) = B1 at *
  generalize (c == 10) = B2 at *
  cases B1
  all_goals
    cases B2
  all_goals
    go_enter Tryz.func80, Tryz.ntmps80
    go_wp2
    go_ret
    exact ⟨rfl, rfl⟩
theorem isInName_any (c : UInt8) (w : World) : Calls Tryz.prog 68 #[.int .u8 c.toNat] w fun e w' => e = .returned (.bool (inB c)) ∧ w = w' := by
  have HB : Hid (inB c = (lowB c || (decide ((65 : Int) ≤ c.toNat) && decide ((c.toNat : Int) ≤ 90)) || digB c || c == 39)) := Lib.hid (by unfold inB upB; congr 3; congr 1 <;> (apply decide_eq_decide.2; omega))
  have e1 : ((c.toNat : Int) == 39) = (c == 39) := u8_eq rfl
  have hs := fun w => startsName_any c w
  have hd := fun w => isDigit_any c w
  generalize (c == 39) = B at *
  generalize lowB c = L at *
  generalize digB c = D at *
  cases L
  all_goals
    rcases (by omega : ¬ (65 : Int) ≤ c.toNat ∨ ((65 : Int) ≤ c.toNat ∧ (c.toNat : Int) ≤ 90) ∨ ((65 : Int) ≤ c.toNat ∧ ¬ (c.toNat : Int) ≤ 90)) with h1 | ⟨h1, h2⟩ | ⟨h1, h2⟩
  all_goals
    cases D
  all_goals
    cases B
  all_goals
    go_enter Tryz.func68, Tryz.ntmps68
    go_wp2_with (first | (go_at_call 67; refine (hs _).mono ?_; rintro e w' ⟨rfl, rfl⟩) | (go_at_call 69; refine (hd _).mono ?_; rintro e w' ⟨rfl, rfl⟩))
    go_ret
    exact ⟨by rw [HB.out]; first | (simp [*]; done) | (simp [*]; omega), rfl⟩
theorem str_get (s : ByteArray) (k : Nat) (h : k < s.size) : s.data.toList[k]? = some (s[k]'h) := by
  rw [List.getElem?_eq_getElem (by rw [← Lib.size_eq]; exact h)]; rfl
theorem lead_drop_pos {p : UInt8 → Bool} {l : List UInt8} {k : Nat} {c : UInt8} (hc : l[k]? = some c) (hp : p c = true) (h : lead p l = k + lead p (l.drop k)) : lead p l = (k + 1) + lead p (l.drop (k + 1)) := by
  have hk : k < l.length := (List.getElem?_eq_some_iff.1 hc).1
  have hg : l[k] = c := (List.getElem?_eq_some_iff.1 hc).2
  rw [List.drop_eq_getElem_cons hk, hg] at h
  rw [h]; unfold lead; rw [if_pos hp]
  cases hd : l.drop (k + 1) with
  | nil => rfl
  | cons a r => simp only [lead]; omega
theorem lead_drop_neg {p : UInt8 → Bool} {l : List UInt8} {k : Nat} {c : UInt8} (hc : l[k]? = some c) (hp : p c = false) (h : lead p l = k + lead p (l.drop k)) : lead p l = k := by
  have hk : k < l.length := (List.getElem?_eq_some_iff.1 hc).1
  have hg : l[k] = c := (List.getElem?_eq_some_iff.1 hc).2
  rw [List.drop_eq_getElem_cons hk, hg] at h
  rw [h]; unfold lead; rw [if_neg (by simp [hp])]; rfl
theorem lead_drop_end {p : UInt8 → Bool} {l : List UInt8} {k : Nat} (hk : l.length ≤ k) (h : lead p l = k + lead p (l.drop k)) : lead p l = k := by
  rw [h, List.drop_eq_nil_of_le hk]; rfl
set_option maxHeartbeats 1000000 in
theorem leading58 (p : UInt8 → Bool) (hf : ∀ (c : UInt8) (W : World), Calls Tryz.prog 64 #[.int .u8 c.toNat] W fun e w' => e = .returned (.bool (p c)) ∧ W = w') (s : ByteArray) (w : World) (hz : s.size ≤ 1000000000) :
    Calls Tryz.prog 63 #[.string s, .func (.func 64) #[] #[]] w fun e w' => e = .returned (.int .i64 (lead p s.data.toList : Nat)) ∧ w = w' := by
  obtain ⟨V, hV⟩ : ∃ V, lead p s.data.toList = V := ⟨_, rfl⟩
  have H0 : Hid (lead p s.data.toList = 0 + lead p (s.data.toList.drop 0)) := Lib.hid (by simp)
  rw [hV]
  have HV := Lib.hid hV
  clear hV
  go_enter Tryz.func63, Tryz.ntmps63
  go_wp2_with fail
  go_loop [5] (fun i => ∃ k : Nat, i = .int .i64 k ∧ k ≤ s.size ∧ Hid (lead p s.data.toList = k + lead p (s.data.toList.drop k))) (fun i => s.size - (intOf i).toNat)
  case atStart => exact ⟨0, rfl, Nat.zero_le _, H0⟩
  case round =>
    obtain ⟨k, rfl, hk, HJ⟩ := hrel
    by_cases hlt : k < s.size
    · have hlt' : (k : Int) < (s.size : Int) := by omega
      have hc := fun W => hf (s[k]'hlt) W
      have hgc := str_get s k hlt
      cases hp : p (s[k]'hlt) with
      | true =>
        rw [hp] at hc
        have HN : Hid (lead p s.data.toList = (k + 1 : Nat) + lead p (s.data.toList.drop (k + 1))) := Lib.hid (lead_drop_pos hgc hp HJ.out)
        clear hp hgc
        have hw : IntKind.i64.wrap ((k : Int) + 1) = ((k + 1 : Nat) : Int) := by rw [IntWalk.i64_in _ (by omega)]; omega
        go_wp2_with (go_at_call 64; refine (hc _).mono ?_; rintro e w' ⟨rfl, rfl⟩)
        go_round
        case rel => exact ⟨k + 1, rfl, by omega, HN⟩
        case measure => simp [intOf]; omega
      | false =>
        rw [hp] at hc
        have HN : Hid (V = k) := Lib.hid (HV.out.symm.trans (lead_drop_neg hgc hp HJ.out))
        clear hp hgc
        go_wp2_with (go_at_call 64; refine (hc _).mono ?_; rintro e w' ⟨rfl, rfl⟩)
        go_ret
        exact ⟨by rw [HN.out]; rfl, rfl⟩
    · have hlt' : ¬ (k : Int) < (s.size : Int) := by omega
      have HN : Hid (V = k) := Lib.hid (HV.out.symm.trans (lead_drop_end (by rw [← Lib.size_eq]; omega) HJ.out))
      go_wp2_with fail
      go_ret
      exact ⟨by rw [HN.out]; rfl, rfl⟩
set_option maxHeartbeats 1000000 in
theorem leading61 (p : UInt8 → Bool) (hf : ∀ (c : UInt8) (W : World), Calls Tryz.prog 67 #[.int .u8 c.toNat] W fun e w' => e = .returned (.bool (p c)) ∧ W = w') (s : ByteArray) (w : World) (hz : s.size ≤ 1000000000) :
    Calls Tryz.prog 63 #[.string s, .func (.func 67) #[] #[]] w fun e w' => e = .returned (.int .i64 (lead p s.data.toList : Nat)) ∧ w = w' := by
  obtain ⟨V, hV⟩ : ∃ V, lead p s.data.toList = V := ⟨_, rfl⟩
  have H0 : Hid (lead p s.data.toList = 0 + lead p (s.data.toList.drop 0)) := Lib.hid (by simp)
  rw [hV]
  have HV := Lib.hid hV
  clear hV
  go_enter Tryz.func63, Tryz.ntmps63
  go_wp2_with fail
  go_loop [5] (fun i => ∃ k : Nat, i = .int .i64 k ∧ k ≤ s.size ∧ Hid (lead p s.data.toList = k + lead p (s.data.toList.drop k))) (fun i => s.size - (intOf i).toNat)
  case atStart => exact ⟨0, rfl, Nat.zero_le _, H0⟩
  case round =>
    obtain ⟨k, rfl, hk, HJ⟩ := hrel
    by_cases hlt : k < s.size
    · have hlt' : (k : Int) < (s.size : Int) := by omega
      have hc := fun W => hf (s[k]'hlt) W
      have hgc := str_get s k hlt
      cases hp : p (s[k]'hlt) with
      | true =>
        rw [hp] at hc
        have HN : Hid (lead p s.data.toList = (k + 1 : Nat) + lead p (s.data.toList.drop (k + 1))) := Lib.hid (lead_drop_pos hgc hp HJ.out)
        clear hp hgc
        have hw : IntKind.i64.wrap ((k : Int) + 1) = ((k + 1 : Nat) : Int) := by rw [IntWalk.i64_in _ (by omega)]; omega
        go_wp2_with (go_at_call 67; refine (hc _).mono ?_; rintro e w' ⟨rfl, rfl⟩)
        go_round
        case rel => exact ⟨k + 1, rfl, by omega, HN⟩
        case measure => simp [intOf]; omega
      | false =>
        rw [hp] at hc
        have HN : Hid (V = k) := Lib.hid (HV.out.symm.trans (lead_drop_neg hgc hp HJ.out))
        clear hp hgc
        go_wp2_with (go_at_call 67; refine (hc _).mono ?_; rintro e w' ⟨rfl, rfl⟩)
        go_ret
        exact ⟨by rw [HN.out]; rfl, rfl⟩
    · have hlt' : ¬ (k : Int) < (s.size : Int) := by omega
      have HN : Hid (V = k) := Lib.hid (HV.out.symm.trans (lead_drop_end (by rw [← Lib.size_eq]; omega) HJ.out))
      go_wp2_with fail
      go_ret
      exact ⟨by rw [HN.out]; rfl, rfl⟩
set_option maxHeartbeats 1000000 in
theorem leading62 (p : UInt8 → Bool) (hf : ∀ (c : UInt8) (W : World), Calls Tryz.prog 68 #[.int .u8 c.toNat] W fun e w' => e = .returned (.bool (p c)) ∧ W = w') (s : ByteArray) (w : World) (hz : s.size ≤ 1000000000) :
    Calls Tryz.prog 63 #[.string s, .func (.func 68) #[] #[]] w fun e w' => e = .returned (.int .i64 (lead p s.data.toList : Nat)) ∧ w = w' := by
  obtain ⟨V, hV⟩ : ∃ V, lead p s.data.toList = V := ⟨_, rfl⟩
  have H0 : Hid (lead p s.data.toList = 0 + lead p (s.data.toList.drop 0)) := Lib.hid (by simp)
  rw [hV]
  have HV := Lib.hid hV
  clear hV
  go_enter Tryz.func63, Tryz.ntmps63
  go_wp2_with fail
  go_loop [5] (fun i => ∃ k : Nat, i = .int .i64 k ∧ k ≤ s.size ∧ Hid (lead p s.data.toList = k + lead p (s.data.toList.drop k))) (fun i => s.size - (intOf i).toNat)
  case atStart => exact ⟨0, rfl, Nat.zero_le _, H0⟩
  case round =>
    obtain ⟨k, rfl, hk, HJ⟩ := hrel
    by_cases hlt : k < s.size
    · have hlt' : (k : Int) < (s.size : Int) := by omega
      have hc := fun W => hf (s[k]'hlt) W
      have hgc := str_get s k hlt
      cases hp : p (s[k]'hlt) with
      | true =>
        rw [hp] at hc
        have HN : Hid (lead p s.data.toList = (k + 1 : Nat) + lead p (s.data.toList.drop (k + 1))) := Lib.hid (lead_drop_pos hgc hp HJ.out)
        clear hp hgc
        have hw : IntKind.i64.wrap ((k : Int) + 1) = ((k + 1 : Nat) : Int) := by rw [IntWalk.i64_in _ (by omega)]; omega
        go_wp2_with (go_at_call 68; refine (hc _).mono ?_; rintro e w' ⟨rfl, rfl⟩)
        go_round
        case rel => exact ⟨k + 1, rfl, by omega, HN⟩
        case measure => simp [intOf]; omega
      | false =>
        rw [hp] at hc
        have HN : Hid (V = k) := Lib.hid (HV.out.symm.trans (lead_drop_neg hgc hp HJ.out))
        clear hp hgc
        go_wp2_with (go_at_call 68; refine (hc _).mono ?_; rintro e w' ⟨rfl, rfl⟩)
        go_ret
        exact ⟨by rw [HN.out]; rfl, rfl⟩
    · have hlt' : ¬ (k : Int) < (s.size : Int) := by omega
      have HN : Hid (V = k) := Lib.hid (HV.out.symm.trans (lead_drop_end (by rw [← Lib.size_eq]; omega) HJ.out))
      go_wp2_with fail
      go_ret
      exact ⟨by rw [HN.out]; rfl, rfl⟩
set_option maxHeartbeats 1000000 in
theorem leading63 (p : UInt8 → Bool) (hf : ∀ (c : UInt8) (W : World), Calls Tryz.prog 69 #[.int .u8 c.toNat] W fun e w' => e = .returned (.bool (p c)) ∧ W = w') (s : ByteArray) (w : World) (hz : s.size ≤ 1000000000) :
    Calls Tryz.prog 63 #[.string s, .func (.func 69) #[] #[]] w fun e w' => e = .returned (.int .i64 (lead p s.data.toList : Nat)) ∧ w = w' := by
  obtain ⟨V, hV⟩ : ∃ V, lead p s.data.toList = V := ⟨_, rfl⟩
  have H0 : Hid (lead p s.data.toList = 0 + lead p (s.data.toList.drop 0)) := Lib.hid (by simp)
  rw [hV]
  have HV := Lib.hid hV
  clear hV
  go_enter Tryz.func63, Tryz.ntmps63
  go_wp2_with fail
  go_loop [5] (fun i => ∃ k : Nat, i = .int .i64 k ∧ k ≤ s.size ∧ Hid (lead p s.data.toList = k + lead p (s.data.toList.drop k))) (fun i => s.size - (intOf i).toNat)
  case atStart => exact ⟨0, rfl, Nat.zero_le _, H0⟩
  case round =>
    obtain ⟨k, rfl, hk, HJ⟩ := hrel
    by_cases hlt : k < s.size
    · have hlt' : (k : Int) < (s.size : Int) := by omega
      have hc := fun W => hf (s[k]'hlt) W
      have hgc := str_get s k hlt
      cases hp : p (s[k]'hlt) with
      | true =>
        rw [hp] at hc
        have HN : Hid (lead p s.data.toList = (k + 1 : Nat) + lead p (s.data.toList.drop (k + 1))) := Lib.hid (lead_drop_pos hgc hp HJ.out)
        clear hp hgc
        have hw : IntKind.i64.wrap ((k : Int) + 1) = ((k + 1 : Nat) : Int) := by rw [IntWalk.i64_in _ (by omega)]; omega
        go_wp2_with (go_at_call 69; refine (hc _).mono ?_; rintro e w' ⟨rfl, rfl⟩)
        go_round
        case rel => exact ⟨k + 1, rfl, by omega, HN⟩
        case measure => simp [intOf]; omega
      | false =>
        rw [hp] at hc
        have HN : Hid (V = k) := Lib.hid (HV.out.symm.trans (lead_drop_neg hgc hp HJ.out))
        clear hp hgc
        go_wp2_with (go_at_call 69; refine (hc _).mono ?_; rintro e w' ⟨rfl, rfl⟩)
        go_ret
        exact ⟨by rw [HN.out]; rfl, rfl⟩
    · have hlt' : ¬ (k : Int) < (s.size : Int) := by omega
      have HN : Hid (V = k) := Lib.hid (HV.out.symm.trans (lead_drop_end (by rw [← Lib.size_eq]; omega) HJ.out))
      go_wp2_with fail
      go_ret
      exact ⟨by rw [HN.out]; rfl, rfl⟩
set_option maxHeartbeats 1000000 in
theorem leading74 (p : UInt8 → Bool) (hf : ∀ (c : UInt8) (W : World), Calls Tryz.prog 80 #[.int .u8 c.toNat] W fun e w' => e = .returned (.bool (p c)) ∧ W = w') (s : ByteArray) (w : World) (hz : s.size ≤ 1000000000) :
    Calls Tryz.prog 63 #[.string s, .func (.func 80) #[] #[]] w fun e w' => e = .returned (.int .i64 (lead p s.data.toList : Nat)) ∧ w = w' := by
  obtain ⟨V, hV⟩ : ∃ V, lead p s.data.toList = V := ⟨_, rfl⟩
  have H0 : Hid (lead p s.data.toList = 0 + lead p (s.data.toList.drop 0)) := Lib.hid (by simp)
  rw [hV]
  have HV := Lib.hid hV
  clear hV
  go_enter Tryz.func63, Tryz.ntmps63
  go_wp2_with fail
  go_loop [5] (fun i => ∃ k : Nat, i = .int .i64 k ∧ k ≤ s.size ∧ Hid (lead p s.data.toList = k + lead p (s.data.toList.drop k))) (fun i => s.size - (intOf i).toNat)
  case atStart => exact ⟨0, rfl, Nat.zero_le _, H0⟩
  case round =>
    obtain ⟨k, rfl, hk, HJ⟩ := hrel
    by_cases hlt : k < s.size
    · have hlt' : (k : Int) < (s.size : Int) := by omega
      have hc := fun W => hf (s[k]'hlt) W
      have hgc := str_get s k hlt
      cases hp : p (s[k]'hlt) with
      | true =>
        rw [hp] at hc
        have HN : Hid (lead p s.data.toList = (k + 1 : Nat) + lead p (s.data.toList.drop (k + 1))) := Lib.hid (lead_drop_pos hgc hp HJ.out)
        clear hp hgc
        have hw : IntKind.i64.wrap ((k : Int) + 1) = ((k + 1 : Nat) : Int) := by rw [IntWalk.i64_in _ (by omega)]; omega
        go_wp2_with (go_at_call 80; refine (hc _).mono ?_; rintro e w' ⟨rfl, rfl⟩)
        go_round
        case rel => exact ⟨k + 1, rfl, by omega, HN⟩
        case measure => simp [intOf]; omega
      | false =>
        rw [hp] at hc
        have HN : Hid (V = k) := Lib.hid (HV.out.symm.trans (lead_drop_neg hgc hp HJ.out))
        clear hp hgc
        go_wp2_with (go_at_call 80; refine (hc _).mono ?_; rintro e w' ⟨rfl, rfl⟩)
        go_ret
        exact ⟨by rw [HN.out]; rfl, rfl⟩
    · have hlt' : ¬ (k : Int) < (s.size : Int) := by omega
      have HN : Hid (V = k) := Lib.hid (HV.out.symm.trans (lead_drop_end (by rw [← Lib.size_eq]; omega) HJ.out))
      go_wp2_with fail
      go_ret
      exact ⟨by rw [HN.out]; rfl, rfl⟩
end Go.Proofs.YtfedmhccbfhcbaaGreatDoor
