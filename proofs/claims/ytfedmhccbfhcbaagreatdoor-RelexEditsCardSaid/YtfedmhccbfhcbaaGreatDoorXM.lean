/-
  RelexAnew: the walk.
-/
import Derived.Test.YtfedmhccbfhcbaaGreatDoorXL
namespace Go.Proofs.YtfedmhccbfhcbaaGreatDoor
open Go.RowKit Go.Shelf

theorem do_good {s x : List UInt8} {f t : Int} (h : doE s x f t = 0) : tokE s = 0 ∧ isSp f t s.length = true ∧ doX s x f t = edL s x f.toNat t.toNat ∧ tokE (doX s x f t) = 0 ∧ doL s x f t = tokL (doX s x f t) := by
  have h0 := h
  unfold doE at h
  split at h
  · rename_i hs
    have h1 := h
    unfold edE at h
    split at h
    · rename_i hsp
      have hx : doX s x f t = edL s x f.toNat t.toNat := by unfold doX edX; rw [if_pos hs, if_pos h1]
      refine ⟨hs, hsp, hx, by rw [hx]; exact h, ?_⟩
      unfold doL tokL
      rw [if_pos h0, hx, if_pos h]
    · cases h
  · rename_i hs; exact absurd h hs
theorem do_bad {s x : List UInt8} {f t : Int} (h : doE s x f t ≠ 0) : doX s x f t = [] ∧ doL s x f t = [] := by
  refine ⟨?_, by unfold doL; rw [if_neg h]⟩
  unfold doE at h
  unfold doX edX
  split
  · rename_i hs; rw [if_pos hs] at h; rw [if_neg h]
  · rfl
def LawEnd (w : World) (e : Ending) (w' : World) : Prop := e = .returned (.bool true) ∧ Below w.heap.size w w'
end Go.Proofs.YtfedmhccbfhcbaaGreatDoor
