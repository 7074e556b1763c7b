/-
  FrameNames, its cases in memory.
-/
import Derived.Test.YtlafcnmopclgiaaDoorXA
namespace Go.Proofs.YtlafcnmopclgiaaDoor
open Go.RowKit Go.Shelf

def nmRow0 : Array Value := #[.string ⟨#[]⟩, .int .i64 72, .string ⟨#[122]⟩, .int .i64 0]
def nmRow1 : Array Value := #[.string ⟨#[]⟩, .int .i64 40, .string ⟨#[]⟩, .int .i64 0]
def nmRow2 : Array Value := #[.string ⟨#[]⟩, .int .i64 72]
def nmRow3 : Array Value := #[.string ⟨#[]⟩, .int .i64 72]
def nmRow4 : Array Value := #[.string ⟨#[113]⟩, .int .i64 0]
def nmRow5 : Array Value := #[.string ⟨#[]⟩, .int .i64 72, .string ⟨#[113]⟩, .int .i64 0]
def nmRow6 : Array Value := #[.string ⟨#[]⟩, .int .i64 72]
def nmRow7 : Array Value := #[.string ⟨#[]⟩, .int .i64 40]
def nmLast (w : World) : Array Value := #[.string ⟨#[120, 58, 32, 121, 13, 10, 13, 10, 102, 111, 111, 32, 67, 111, 110, 116, 101, 110, 116, 45, 76, 101, 110, 103, 116, 104, 58, 32, 49, 13, 10, 13, 10, 122]⟩, .slice (some ⟨w.heap.size, 0, none⟩) 2 2, .string ⟨#[67, 111, 110, 116, 101, 110, 116, 45, 76, 101, 110, 103, 116, 104, 58, 32, 57, 57, 57, 57, 57, 57, 57, 57, 57, 57, 57, 57, 13, 10, 13, 10, 67, 111, 110, 116, 101, 110, 116, 45, 76, 101, 110, 103, 116, 104, 58, 32, 48, 13, 10, 13, 10]⟩, .slice (some ⟨w.heap.size + 1, 0, none⟩) 2 2, .string ⟨#[67, 111, 110, 116, 101, 110, 116, 45, 76, 101, 110, 103, 116, 104, 58, 32, 48, 48, 55, 13, 10, 13, 10]⟩, .slice (some ⟨w.heap.size + 1 + 1, 0, none⟩) 1 1, .string ⟨#[13, 10, 13, 10]⟩, .slice (some ⟨w.heap.size + 1 + 1 + 1, 0, none⟩) 1 1, .string ⟨#[67, 79, 78, 84, 69, 78, 84, 45, 108, 101, 110, 103, 116, 104, 58, 9, 32, 49, 32, 13, 10, 13, 10, 113]⟩, .slice (some ⟨w.heap.size + 1 + 1 + 1 + 1, 0, none⟩) 1 1, .string ⟨#[67, 111, 110, 116, 101, 110, 116, 45, 76, 101, 110, 103, 116, 104, 58, 32, 49, 13, 10, 67, 111, 110, 116, 101, 110, 116, 45, 76, 101, 110, 103, 116, 104, 58, 32, 49, 13, 10, 13, 10, 113]⟩, .slice (some ⟨w.heap.size + 1 + 1 + 1 + 1 + 1, 0, none⟩) 2 2, .string ⟨#[67, 111, 110, 116, 101, 110, 116, 45, 76, 101, 110, 103, 116, 104, 32, 58, 32, 49, 13, 10, 13, 10, 113]⟩, .slice (some ⟨w.heap.size + 1 + 1 + 1 + 1 + 1 + 1, 0, none⟩) 1 1, .string ⟨#[67, 111, 110, 116, 101, 110, 116, 45, 76, 101, 110, 103, 116, 104, 58, 32, 50, 54, 50, 49, 52, 53, 13, 10, 13, 10]⟩, .slice (some ⟨w.heap.size + 1 + 1 + 1 + 1 + 1 + 1 + 1, 0, none⟩) 1 1]
def nmW1 (w : World) : World := w.alloc (.cells nmRow0 33)
def nmW2 (w : World) : World := (nmW1 w).alloc (.cells nmRow1 33)
def nmW3 (w : World) : World := (nmW2 w).alloc (.cells nmRow2 33)
def nmW4 (w : World) : World := (nmW3 w).alloc (.cells nmRow3 33)
def nmW5 (w : World) : World := (nmW4 w).alloc (.cells nmRow4 33)
def nmW6 (w : World) : World := (nmW5 w).alloc (.cells nmRow5 33)
def nmW7 (w : World) : World := (nmW6 w).alloc (.cells nmRow6 33)
def nmW8 (w : World) : World := (nmW7 w).alloc (.cells nmRow7 33)
def nmWorld (w : World) : World := (nmW8 w).alloc (.cells (nmLast w) 35)
/-- The cases lie in memory. -/
def Nm (M : Nat) (W : World) : Prop := ∀ k, k < 8 → ∃ (T : ByteArray) (E : List Ev) (g : Nat), W.cell? ⟨M, k * 2, none⟩ = some (.string T) ∧ W.cell? ⟨M, k * 2 + 1, none⟩ = some (.slice (some ⟨g, 0, none⟩) E.length E.length) ∧
  RefAt 0 W (.slice (some ⟨g, 0, none⟩) E.length E.length) E ∧ (runA .head T.data.toList).2.1 = E ∧ T.size ≤ 100 ∧ E.length ≤ 3
theorem Nm.below {M : Nat} {W W' : World} (h : Nm M W) (hb : Below W.heap.size W W') : Nm M W' := fun k hk => by
  obtain ⟨T, E, g, h1, h2, h3, h4⟩ := h k hk
  exact ⟨T, E, g, (hb.cell (World.block_lt_of_cell? W _ h1)).trans h1, (hb.cell (World.block_lt_of_cell? W _ h2)).trans h2, owns_below h3 hb, h4⟩
theorem nmSize0 (w : World) : (w).heap.size = w.heap.size := rfl
theorem nmSize1 (w : World) : (nmW1 w).heap.size = w.heap.size + 1 := by unfold nmW1; simp
theorem nmSize2 (w : World) : (nmW2 w).heap.size = w.heap.size + 1 + 1 := by unfold nmW2; simp [nmSize1]
theorem nmSize3 (w : World) : (nmW3 w).heap.size = w.heap.size + 1 + 1 + 1 := by unfold nmW3; simp [nmSize2]
theorem nmSize4 (w : World) : (nmW4 w).heap.size = w.heap.size + 1 + 1 + 1 + 1 := by unfold nmW4; simp [nmSize3]
theorem nmSize5 (w : World) : (nmW5 w).heap.size = w.heap.size + 1 + 1 + 1 + 1 + 1 := by unfold nmW5; simp [nmSize4]
theorem nmSize6 (w : World) : (nmW6 w).heap.size = w.heap.size + 1 + 1 + 1 + 1 + 1 + 1 := by unfold nmW6; simp [nmSize5]
theorem nmSize7 (w : World) : (nmW7 w).heap.size = w.heap.size + 1 + 1 + 1 + 1 + 1 + 1 + 1 := by unfold nmW7; simp [nmSize6]
theorem nmSize8 (w : World) : (nmW8 w).heap.size = w.heap.size + 1 + 1 + 1 + 1 + 1 + 1 + 1 + 1 := by unfold nmW8; simp [nmSize7]
theorem nmAt0 (w : World) : (nmWorld w).heap[w.heap.size]? = some (.cells nmRow0 33 (0, 0)) := by
  have h := heap_alloc_new w (.cells nmRow0 33)
  have h1 : (nmW1 w).heap[w.heap.size]? = some (.cells nmRow0 33 (0, 0)) := h
  exact heap_old (heap_old (heap_old (heap_old (heap_old (heap_old (heap_old (heap_old (h1))))))))
theorem nmAt1 (w : World) : (nmWorld w).heap[w.heap.size + 1]? = some (.cells nmRow1 33 (0, 0)) := by
  have h := heap_alloc_new (nmW1 w) (.cells nmRow1 33)
  rw [nmSize1] at h
  have h1 : (nmW2 w).heap[w.heap.size + 1]? = some (.cells nmRow1 33 (0, 0)) := h
  exact heap_old (heap_old (heap_old (heap_old (heap_old (heap_old (heap_old (h1)))))))
theorem nmAt2 (w : World) : (nmWorld w).heap[w.heap.size + 1 + 1]? = some (.cells nmRow2 33 (0, 0)) := by
  have h := heap_alloc_new (nmW2 w) (.cells nmRow2 33)
  rw [nmSize2] at h
  have h1 : (nmW3 w).heap[w.heap.size + 1 + 1]? = some (.cells nmRow2 33 (0, 0)) := h
  exact heap_old (heap_old (heap_old (heap_old (heap_old (heap_old (h1))))))
theorem nmAt3 (w : World) : (nmWorld w).heap[w.heap.size + 1 + 1 + 1]? = some (.cells nmRow3 33 (0, 0)) := by
  have h := heap_alloc_new (nmW3 w) (.cells nmRow3 33)
  rw [nmSize3] at h
  have h1 : (nmW4 w).heap[w.heap.size + 1 + 1 + 1]? = some (.cells nmRow3 33 (0, 0)) := h
  exact heap_old (heap_old (heap_old (heap_old (heap_old (h1)))))
theorem nmAt4 (w : World) : (nmWorld w).heap[w.heap.size + 1 + 1 + 1 + 1]? = some (.cells nmRow4 33 (0, 0)) := by
  have h := heap_alloc_new (nmW4 w) (.cells nmRow4 33)
  rw [nmSize4] at h
  have h1 : (nmW5 w).heap[w.heap.size + 1 + 1 + 1 + 1]? = some (.cells nmRow4 33 (0, 0)) := h
  exact heap_old (heap_old (heap_old (heap_old (h1))))
theorem nmAt5 (w : World) : (nmWorld w).heap[w.heap.size + 1 + 1 + 1 + 1 + 1]? = some (.cells nmRow5 33 (0, 0)) := by
  have h := heap_alloc_new (nmW5 w) (.cells nmRow5 33)
  rw [nmSize5] at h
  have h1 : (nmW6 w).heap[w.heap.size + 1 + 1 + 1 + 1 + 1]? = some (.cells nmRow5 33 (0, 0)) := h
  exact heap_old (heap_old (heap_old (h1)))
theorem nmAt6 (w : World) : (nmWorld w).heap[w.heap.size + 1 + 1 + 1 + 1 + 1 + 1]? = some (.cells nmRow6 33 (0, 0)) := by
  have h := heap_alloc_new (nmW6 w) (.cells nmRow6 33)
  rw [nmSize6] at h
  have h1 : (nmW7 w).heap[w.heap.size + 1 + 1 + 1 + 1 + 1 + 1]? = some (.cells nmRow6 33 (0, 0)) := h
  exact heap_old (heap_old (h1))
theorem nmAt7 (w : World) : (nmWorld w).heap[w.heap.size + 1 + 1 + 1 + 1 + 1 + 1 + 1]? = some (.cells nmRow7 33 (0, 0)) := by
  have h := heap_alloc_new (nmW7 w) (.cells nmRow7 33)
  rw [nmSize7] at h
  have h1 : (nmW8 w).heap[w.heap.size + 1 + 1 + 1 + 1 + 1 + 1 + 1]? = some (.cells nmRow7 33 (0, 0)) := h
  exact heap_old (h1)
theorem nmAt8 (w : World) : (nmWorld w).heap[w.heap.size + 1 + 1 + 1 + 1 + 1 + 1 + 1 + 1]? = some (.cells (nmLast w) 35 (0, 0)) := by
  have h := heap_alloc_new (nmW8 w) (.cells (nmLast w) 35)
  rw [nmSize8] at h
  exact h
theorem nmRef0 (w : World) : RefAt 0 (nmWorld w) (.slice (some ⟨w.heap.size, 0, none⟩) 2 2) (nmCases.getD 0 ([], [])).2 :=
  ⟨rfl, .inr ⟨_, 2, _, rfl, Nat.zero_le _, nmAt0 w, Nat.le_refl _, by unfold maxLen; decide, rfl, rfl⟩⟩
theorem nmRef1 (w : World) : RefAt 0 (nmWorld w) (.slice (some ⟨w.heap.size + 1, 0, none⟩) 2 2) (nmCases.getD 1 ([], [])).2 :=
  ⟨rfl, .inr ⟨_, 2, _, rfl, Nat.zero_le _, nmAt1 w, Nat.le_refl _, by unfold maxLen; decide, rfl, rfl⟩⟩
theorem nmRef2 (w : World) : RefAt 0 (nmWorld w) (.slice (some ⟨w.heap.size + 1 + 1, 0, none⟩) 1 1) (nmCases.getD 2 ([], [])).2 :=
  ⟨rfl, .inr ⟨_, 1, _, rfl, Nat.zero_le _, nmAt2 w, Nat.le_refl _, by unfold maxLen; decide, rfl, rfl⟩⟩
theorem nmRef3 (w : World) : RefAt 0 (nmWorld w) (.slice (some ⟨w.heap.size + 1 + 1 + 1, 0, none⟩) 1 1) (nmCases.getD 3 ([], [])).2 :=
  ⟨rfl, .inr ⟨_, 1, _, rfl, Nat.zero_le _, nmAt3 w, Nat.le_refl _, by unfold maxLen; decide, rfl, rfl⟩⟩
theorem nmRef4 (w : World) : RefAt 0 (nmWorld w) (.slice (some ⟨w.heap.size + 1 + 1 + 1 + 1, 0, none⟩) 1 1) (nmCases.getD 4 ([], [])).2 :=
  ⟨rfl, .inr ⟨_, 1, _, rfl, Nat.zero_le _, nmAt4 w, Nat.le_refl _, by unfold maxLen; decide, rfl, rfl⟩⟩
theorem nmRef5 (w : World) : RefAt 0 (nmWorld w) (.slice (some ⟨w.heap.size + 1 + 1 + 1 + 1 + 1, 0, none⟩) 2 2) (nmCases.getD 5 ([], [])).2 :=
  ⟨rfl, .inr ⟨_, 2, _, rfl, Nat.zero_le _, nmAt5 w, Nat.le_refl _, by unfold maxLen; decide, rfl, rfl⟩⟩
theorem nmRef6 (w : World) : RefAt 0 (nmWorld w) (.slice (some ⟨w.heap.size + 1 + 1 + 1 + 1 + 1 + 1, 0, none⟩) 1 1) (nmCases.getD 6 ([], [])).2 :=
  ⟨rfl, .inr ⟨_, 1, _, rfl, Nat.zero_le _, nmAt6 w, Nat.le_refl _, by unfold maxLen; decide, rfl, rfl⟩⟩
theorem nmRef7 (w : World) : RefAt 0 (nmWorld w) (.slice (some ⟨w.heap.size + 1 + 1 + 1 + 1 + 1 + 1 + 1, 0, none⟩) 1 1) (nmCases.getD 7 ([], [])).2 :=
  ⟨rfl, .inr ⟨_, 1, _, rfl, Nat.zero_le _, nmAt7 w, Nat.le_refl _, by unfold maxLen; decide, rfl, rfl⟩⟩
set_option maxRecDepth 100000 in
theorem nm_laid (w : World) : Nm (w.heap.size + 1 + 1 + 1 + 1 + 1 + 1 + 1 + 1) (nmWorld w) := by
  have hc : ∀ o, (nmWorld w).cell? ⟨w.heap.size + 1 + 1 + 1 + 1 + 1 + 1 + 1 + 1, o, none⟩ = (nmLast w)[o]? := fun o => cellH (nmAt8 w) o
  intro k hk
  have hk8 : k = 0 ∨ k = 1 ∨ k = 2 ∨ k = 3 ∨ k = 4 ∨ k = 5 ∨ k = 6 ∨ k = 7 := by omega
  rcases hk8 with rfl | rfl | rfl | rfl | rfl | rfl | rfl | rfl
  · exact ⟨⟨(nmCases.getD 0 ([], [])).1.toArray⟩, (nmCases.getD 0 ([], [])).2, _, by rw [hc]; rfl, by rw [hc]; rfl, nmRef0 w, nm_told _ (by decide), by decide, by decide⟩
  · exact ⟨⟨(nmCases.getD 1 ([], [])).1.toArray⟩, (nmCases.getD 1 ([], [])).2, _, by rw [hc]; rfl, by rw [hc]; rfl, nmRef1 w, nm_told _ (by decide), by decide, by decide⟩
  · exact ⟨⟨(nmCases.getD 2 ([], [])).1.toArray⟩, (nmCases.getD 2 ([], [])).2, _, by rw [hc]; rfl, by rw [hc]; rfl, nmRef2 w, nm_told _ (by decide), by decide, by decide⟩
  · exact ⟨⟨(nmCases.getD 3 ([], [])).1.toArray⟩, (nmCases.getD 3 ([], [])).2, _, by rw [hc]; rfl, by rw [hc]; rfl, nmRef3 w, nm_told _ (by decide), by decide, by decide⟩
  · exact ⟨⟨(nmCases.getD 4 ([], [])).1.toArray⟩, (nmCases.getD 4 ([], [])).2, _, by rw [hc]; rfl, by rw [hc]; rfl, nmRef4 w, nm_told _ (by decide), by decide, by decide⟩
  · exact ⟨⟨(nmCases.getD 5 ([], [])).1.toArray⟩, (nmCases.getD 5 ([], [])).2, _, by rw [hc]; rfl, by rw [hc]; rfl, nmRef5 w, nm_told _ (by decide), by decide, by decide⟩
  · exact ⟨⟨(nmCases.getD 6 ([], [])).1.toArray⟩, (nmCases.getD 6 ([], [])).2, _, by rw [hc]; rfl, by rw [hc]; rfl, nmRef6 w, nm_told _ (by decide), by decide, by decide⟩
  · exact ⟨⟨(nmCases.getD 7 ([], [])).1.toArray⟩, (nmCases.getD 7 ([], [])).2, _, by rw [hc]; rfl, by rw [hc]; rfl, nmRef7 w, nm_told _ (by decide), by decide, by decide⟩
theorem nm_below (w : World) : Below w.heap.size w (nmWorld w) := by
  have h0 := Below.refl w.heap.size w
  have h1 : Below w.heap.size w (nmW1 w) := h0.alloc (Nat.le_refl _) _
  have h2 : Below w.heap.size w (nmW2 w) := h1.alloc (by rw [nmSize1]; omega) _
  have h3 : Below w.heap.size w (nmW3 w) := h2.alloc (by rw [nmSize2]; omega) _
  have h4 : Below w.heap.size w (nmW4 w) := h3.alloc (by rw [nmSize3]; omega) _
  have h5 : Below w.heap.size w (nmW5 w) := h4.alloc (by rw [nmSize4]; omega) _
  have h6 : Below w.heap.size w (nmW6 w) := h5.alloc (by rw [nmSize5]; omega) _
  have h7 : Below w.heap.size w (nmW7 w) := h6.alloc (by rw [nmSize6]; omega) _
  have h8 : Below w.heap.size w (nmW8 w) := h7.alloc (by rw [nmSize7]; omega) _
  exact h8.alloc (by rw [nmSize8]; omega) _
end Go.Proofs.YtlafcnmopclgiaaDoor
