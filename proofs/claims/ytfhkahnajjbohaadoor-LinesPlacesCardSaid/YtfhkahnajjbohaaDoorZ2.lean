/-
  The reference: Valid, Less.
-/
import Derived.Test.YtfhkahnajjbohaaDoorZ
namespace Go.Proofs.YtfhkahnajjbohaaDoor
open Go.RowKit Go.Shelf

set_option maxHeartbeats 1000000 in
theorem rvalid_any (s : ByteArray) (w : World) (hs : s.size ≤ 1000000000) :
    Calls Tryd.prog 11 #[.string s] w fun e w' => e = .returned (.bool (validS s)) ∧ w = w' := by
  have HV := Lib.hid (valid_wy s)
  generalize validS s = vs at *
  go_enter Tryd.func11, Tryd.ntmps11
  go_wp2
  go_loop [3] (fun t => ∃ k : Nat, k ≤ s.size ∧ t = .int .i64 k ∧ Hid (∃ c, Wy s 0 k c)) (fun t => s.size - (intOf t).toNat)
  case atStart => exact ⟨0, Nat.zero_le _, rfl, Lib.hid ⟨0, .stay _⟩⟩
  case round =>
    obtain ⟨k, hk, rfl, HW⟩ := hrel
    by_cases hlt : k < s.size
    · by_cases hc : ∃ n v, Ch s k n v
      · obtain ⟨n, v, hc⟩ := hc
        have hf := hc.fits
        have cs := size_ch s k n v w hlt hs hc
        have hn0 : ((n : Int) == 0) = false := by rw [beq_eq_false_iff_ne]; omega
        have HC := Lib.hid hc
        clear hc
        go_wp2_with fail
        refine cs.mono ?_
        rintro e w1 ⟨rfl, rfl⟩
        clear cs
        go_wp2
        go_round
        case rel => exact ⟨k + n, by omega, by go_num, Lib.hid (by obtain ⟨c, hw⟩ := HW.out; exact ⟨_, hw.trans (.go k n v _ 0 HC.out (.stay _))⟩)⟩
        case measure => simp [intOf]; omega
      · have hno : ∀ n v, ¬ Ch s k n v := fun n v h => hc ⟨n, v, h⟩
        have cs := size_no s k w hlt hs hno
        have hvs : vs = false := by
          rw [Bool.eq_false_iff]
          intro ht
          obtain ⟨c, hw⟩ := HV.out.1 ht
          obtain ⟨d, hd⟩ := HW.out
          obtain ⟨e, he, _⟩ := hd.part hw hk
          cases he with
          | stay => omega
          | go _ n v _ c hc' hw' => exact hno n v hc'
        have HF := Lib.hid hvs
        clear hvs hno hc
        go_wp2_with fail
        refine cs.mono ?_
        rintro e w1 ⟨rfl, rfl⟩
        clear cs
        go_wp2
        go_ret
        exact ⟨congrArg (fun b => Ending.returned (.bool b)) HF.out.symm, rfl⟩
    · obtain rfl : k = s.size := by omega
      have HF := Lib.hid (HV.out.2 HW.out)
      go_wp2
      go_ret
      exact ⟨congrArg (fun b => Ending.returned (.bool b)) HF.out.symm, rfl⟩

def lessB (a b c d : Int) : Bool := decide (a < c) || (a == c && decide (b < d))
theorem lessB_iff (a b c d : Int) : lessB a b c d = true ↔ (a < c ∨ (a = c ∧ b < d)) := by
  unfold lessB; simp
set_option maxHeartbeats 1000000 in
theorem less_any (a b c d : Int) (w : World) :
    Calls Tryd.prog 23 #[.agg #[.int .i64 a, .int .i64 b], .agg #[.int .i64 c, .int .i64 d]] w fun e w' => e = .returned (.bool (lessB a b c d)) ∧ Below w.heap.size w w' := by
  have HL := Lib.hid (lessB_iff a b c d)
  generalize lessB a b c d = r at *
  go_enter Tryd.func23, Tryd.ntmps23
  go_wp2
  all_goals
    go_ret
    refine ⟨congrArg (fun b => Ending.returned (.bool b)) ?_, ((Below.refl _ _).alloc (Nat.le_refl _) _).alloc (by simp) _⟩
    rw [Bool.eq_iff_iff, HL.out]
    first
    | (show decide (a < c) = true ↔ _; rw [decide_eq_true_eq]; omega)
    | (show decide (b < d) = true ↔ _; rw [decide_eq_true_eq]; omega)
    | (show true = true ↔ _; simp; omega)
end Go.Proofs.YtfhkahnajjbohaaDoor
