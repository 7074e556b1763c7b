/-
  FrameBack.
-/
import Derived.Test.YtlafcnmopclgiaaGreatDoorM
namespace Go.Proofs.YtlafcnmopclgiaaGreatDoor
open Go.RowKit Go.Shelf

theorem flat2 : ∀ (l : List Ev) (i : Nat) (e : Ev), l[i]? = some e → (l.flatMap evC)[i * 2]? = some (bl e.1) ∧ (l.flatMap evC)[i * 2 + 1]? = some (.int .i64 e.2)
  | [], i, e, h => by simp at h
  | x :: l, 0, e, h => by
    simp at h; subst h
    rw [List.flatMap_cons]; exact ⟨rfl, rfl⟩
  | x :: l, i + 1, e, h => by
    simp at h
    obtain ⟨h1, h2⟩ := flat2 l i e h
    rw [List.flatMap_cons]
    have hx : (evC x).length = 2 := rfl
    constructor
    · rw [List.getElem?_append_right (by omega), hx, show (i + 1) * 2 - 2 = i * 2 by omega]; exact h1
    · rw [List.getElem?_append_right (by omega), hx, show (i + 1) * 2 + 1 - 2 = i * 2 + 1 by omega]; exact h2
theorem evs_at {B : Nat} {w : World} {v : Value} {l : List Ev} (h : EvsAt B w v l) {g n cap : Nat} (hv : v = .slice (some ⟨g, 0, none⟩) n cap) {i : Nat} {e : Ev} (hi : l[i]? = some e) : w.cell? ⟨g, i * 2, none⟩ = some (bl e.1) ∧ w.cell? ⟨g, i * 2 + 1, none⟩ = some (.int .i64 e.2) := by
  have hc := World.ownsRow.cells h (g := g) (by rw [hv]; rfl)
  obtain ⟨h1, h2⟩ := flat2 l i e hi
  have k1 := hc _ _ h1
  have k2 := hc _ _ h2
  rw [addr_add, Nat.zero_add] at k1 k2
  exact ⟨k1, k2⟩
theorem evs_block {B : Nat} {w : World} {v : Value} {l : List Ev} (h : EvsAt B w v l) : (∃ cap, v = .slice none l.length cap ∧ l = []) ∨ ∃ g cap, v = .slice (some ⟨g, 0, none⟩) l.length cap := by
  rcases h.2 with ⟨rfl, h2⟩ | ⟨g, cap, cur, rfl, _⟩
  · obtain rfl := List.eq_nil_of_length_eq_zero h2
    exact .inl ⟨0, rfl, rfl⟩
  · exact .inr ⟨g, cap, rfl⟩
end Go.Proofs.YtlafcnmopclgiaaGreatDoor
