/-
  The document's bytes: blank, low, digit, behind; At, has.
-/
import Derived.Test.YtfedmhccbfhcbaaGreatDoorG
namespace Go.Proofs.YtfedmhccbfhcbaaGreatDoor
open Go.RowKit

theorem rdigit_any (c : UInt8) (w : World) : Calls Tryz.prog 35 #[.int .u8 c.toNat] w fun e w' => e = .returned (.bool (digB c)) ∧ w = w' := by
  have HB : Hid (digB c = (decide ((48 : Int) ≤ c.toNat) && decide ((c.toNat : Int) ≤ 57))) := Lib.hid (by unfold digB; congr 1 <;> (apply decide_eq_decide.2; omega))
  by_cases h1 : (48 : Int) ≤ c.toNat
  all_goals
    by_cases h2 : (c.toNat : Int) ≤ 57
  all_goals
    go_enter Tryz.func35, Tryz.ntmps35
    go_wp2
    go_ret
    exact ⟨by rw [HB.out]; simp [h1, h2], rfl⟩
theorem rlow_any (c : UInt8) (w : World) : Calls Tryz.prog 32 #[.int .u8 c.toNat] w fun e w' => e = .returned (.bool (lowB c)) ∧ w = w' := by
  have HB : Hid (lowB c = ((decide ((97 : Int) ≤ c.toNat) && decide ((c.toNat : Int) ≤ 122)) || c == 95)) := Lib.hid (by unfold lowB; congr 2 <;> (apply decide_eq_decide.2; omega))
  have e1 : ((c.toNat : Int) == 95) = (c == 95) := u8_eq rfl
  generalize (c == 95) = B at *
  by_cases h1 : (97 : Int) ≤ c.toNat
  all_goals
    by_cases h2 : (c.toNat : Int) ≤ 122
  all_goals
    cases B
  all_goals
    go_enter Tryz.func32, Tryz.ntmps32
    go_wp2
    go_ret
    exact ⟨by rw [HB.out]; simp [h1, h2], rfl⟩
theorem rblank_any (c : UInt8) (w : World) : Calls Tryz.prog 28 #[.int .u8 c.toNat] w fun e w' => e = .returned (.bool (blankB c)) ∧ w = w' := by
  have HB : Hid (blankB c = (c == 32 || c == 9 || c == 10 || c == 13)) := rfl
  have e1 : ((c.toNat : Int) == 32) = (c == 32) := u8_eq rfl
  have e2 : ((c.toNat : Int) == 9) = (c == 9) := u8_eq rfl
  have e3 : ((c.toNat : Int) == 10) = (c == 10) := u8_eq rfl
  have e4 : ((c.toNat : Int) == 13) = (c == 13) := u8_eq rfl
  generalize (c == 32) = B1 at *
  generalize (c == 9) = B2 at *
  generalize (c == 10) = B3 at *
  generalize (c == 13) = B4 at *
  cases B1
  all_goals
    cases B2
  all_goals
    cases B3
  all_goals
    go_enter Tryz.func28, Tryz.ntmps28
    go_wp2
    go_ret
    exact ⟨by rw [HB.out]; simp, rfl⟩
theorem rbehind_any (c : UInt8) (w : World) : Calls Tryz.prog 33 #[.int .u8 c.toNat] w fun e w' => e = .returned (.bool (inB c)) ∧ w = w' := by
  have HB : Hid (inB c = (lowB c || (decide ((65 : Int) ≤ c.toNat) && decide ((c.toNat : Int) ≤ 90)) || digB c || c == 39)) := Lib.hid (by unfold inB upB; congr 3; congr 1 <;> (apply decide_eq_decide.2; omega))
  have e1 : ((c.toNat : Int) == 39) = (c == 39) := u8_eq rfl
  have hs := fun w => rlow_any c w
  have hd := fun w => rdigit_any c w
  generalize (c == 39) = B at *
  generalize lowB c = L at *
  generalize digB c = D at *
  cases L
  all_goals
    cases D
  all_goals
    rcases (by omega : ¬ (65 : Int) ≤ c.toNat ∨ ((65 : Int) ≤ c.toNat ∧ (c.toNat : Int) ≤ 90) ∨ ((65 : Int) ≤ c.toNat ∧ ¬ (c.toNat : Int) ≤ 90)) with h1 | ⟨h1, h2⟩ | ⟨h1, h2⟩
  all_goals
    cases B
  all_goals
    go_enter Tryz.func33, Tryz.ntmps33
    go_wp2_with (first | (go_at_call 32; refine (hs _).mono ?_; rintro e w' ⟨rfl, rfl⟩) | (go_at_call 35; refine (hd _).mono ?_; rintro e w' ⟨rfl, rfl⟩))
    go_ret
    exact ⟨by rw [HB.out]; first | (simp [*]; done) | (simp [*]; omega), rfl⟩
def atB (l : List UInt8) (i : Nat) : UInt8 := (l[i]?).getD 0
theorem at_any (s : ByteArray) (i : Nat) (w : World) (hi : i ≤ 1000000000) : Calls Tryz.prog 29 #[.string s, .int .i64 i] w fun e w' => e = .returned (.int .u8 (atB s.data.toList i).toNat) ∧ w = w' := by
  have h0 : ¬ (i : Int) < 0 := by omega
  by_cases h : i < s.size
  · have h1 : ¬ (s.size : Int) ≤ (i : Int) := by omega
    have h2 : (i : Int) < (s.size : Int) := by omega
    have HV : Hid (atB s.data.toList i = s[i]'h) := Lib.hid (by unfold atB; rw [str_get s i h]; rfl)
    go_enter Tryz.func29, Tryz.ntmps29
    go_wp2_with fail
    go_ret
    exact ⟨by rw [HV.out]; rfl, rfl⟩
  · have h1 : (s.size : Int) ≤ (i : Int) := by omega
    have HV : Hid (atB s.data.toList i = 0) := Lib.hid (by unfold atB; rw [List.getElem?_eq_none (by rw [← Lib.size_eq]; omega)]; rfl)
    go_enter Tryz.func29, Tryz.ntmps29
    go_wp2_with fail
    go_ret
    exact ⟨by rw [HV.out]; rfl, rfl⟩
def hasB (l : List UInt8) (i : Nat) (t : List UInt8) : Bool := decide (i + 2 ≤ l.length) && ((l.drop i).take 2 == t)
theorem has_pre {l t : List UInt8} {i : Nat} (ht : t.length = 2) : hasB l i t = t.isPrefixOf (l.drop i) := by
  unfold hasB
  rw [two_pre t _ ht]
  by_cases h : i + 2 ≤ l.length
  · rw [decide_eq_true h, Bool.true_and]
  · rw [decide_eq_false h, Bool.false_and]
    symm
    rw [beq_eq_false_iff_ne]
    intro e
    have := congrArg List.length e
    rw [List.length_take, List.length_drop, ht] at this; omega
set_option maxHeartbeats 1000000 in
theorem rhas_any (s : ByteArray) (i : Nat) (t : ByteArray) (w : World) (hi : i ≤ 1000000000) : Calls Tryz.prog 30 #[.string s, .int .i64 i, .string t] w fun e w' => e = .returned (.bool (hasB s.data.toList i t.data.toList)) ∧ w = w' := by
  have w1 : IntKind.i64.wrap ((i : Int) + 2) = ((i + 2 : Nat) : Int) := by rw [IntWalk.i64_in _ (by omega)]; omega
  have hB : hasB s.data.toList i t.data.toList = (decide (i + 2 ≤ s.size) && ((s.extract i (i + 2)).toList == t.toList)) := by
    unfold hasB
    rw [← Lib.size_eq, Lib.toList_data, Lib.toList_data, Utf.extract_list, List.drop_take, Nat.add_sub_cancel_left]
  by_cases h : i + 2 ≤ s.size
  · have h1 : ((i + 2 : Nat) : Int) ≤ (s.size : Int) := by omega
    rw [decide_eq_true h, Bool.true_and] at hB
    have HB := Lib.hid hB
    clear hB
    go_enter Tryz.func30, Tryz.ntmps30
    go_wp2_with fail
    go_ret
    exact ⟨by rw [HB.out]; rfl, rfl⟩
  · have h1 : ¬ ((i + 2 : Nat) : Int) ≤ (s.size : Int) := by omega
    rw [decide_eq_false h, Bool.false_and] at hB
    have HB := Lib.hid hB
    clear hB
    go_enter Tryz.func30, Tryz.ntmps30
    go_wp2_with fail
    go_ret
    exact ⟨by rw [HB.out]; rfl, rfl⟩
end Go.Proofs.YtfedmhccbfhcbaaGreatDoor
