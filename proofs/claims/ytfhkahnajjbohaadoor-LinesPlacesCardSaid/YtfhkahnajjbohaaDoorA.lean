/-
  The walks of the small functions of package utf and of the reference: stray.
-/
import Derived.Test.YtfhkahnajjbohaaDoorProg
import Derived.WalkKit
import Derived.WalkSpells
import Derived.WalkLawsBesides
import Derived.Deep.QuietTactic
import Derived.BigQuiet
import Derived.Lib.Hide
namespace Go.Proofs.YtfhkahnajjbohaaDoor
open Go.RowKit
theorem get!_lt (s : ByteArray) (k : Nat) (h : k < s.size) : s.get! k = s[k]'h := by
  cases s with
  | mk d => exact getElem!_pos d k h
def strayB (s : ByteArray) : Bool := s.size == 1 && decide (128 ≤ (s.get! 0).toNat)
theorem stray_any (s : ByteArray) (w : World) :
    Calls Tryd.prog 35 #[.string s] w fun e w' => e = .returned (.bool (strayB s)) ∧ w = w' := by
  by_cases h : s.size = 1
  · have hb : ((s.size : Int) == 1) = true := by rw [h]; rfl
    have hn : 0 < s.size := by omega
    have hz : (0 : Int) < (s.size : Int) := by omega
    obtain ⟨x0, hx0⟩ : ∃ x0, s.get! 0 = x0 := ⟨_, rfl⟩
    have hs0 : s[0]'hn = x0 := by rw [← hx0]; exact (get!_lt s 0 hn).symm
    by_cases hx : 128 ≤ x0.toNat
    · rw [show strayB s = true by simp [strayB, h, hx0, hx]]
      have hx2 : decide ((128 : Int) ≤ x0.toNat) = true := decide_eq_true (by omega)
      clear h hx0
      go_enter Tryd.func35, Tryd.ntmps35
      go_wp2
      go_ret
      exact ⟨rfl, rfl⟩
    · rw [show strayB s = false by simp [strayB, h, hx0]; omega]
      have hx2 : decide ((128 : Int) ≤ x0.toNat) = false := decide_eq_false (by omega)
      clear h hx0
      go_enter Tryd.func35, Tryd.ntmps35
      go_wp2
      go_ret
      exact ⟨rfl, rfl⟩
  · have hb : ((s.size : Int) == 1) = false := beq_eq_false_iff_ne.2 (by omega)
    rw [show strayB s = false by simp [strayB, h]]
    clear h
    go_enter Tryd.func35, Tryd.ntmps35
    go_wp2
    go_ret
    exact ⟨rfl, rfl⟩
end Go.Proofs.YtfhkahnajjbohaaDoor
