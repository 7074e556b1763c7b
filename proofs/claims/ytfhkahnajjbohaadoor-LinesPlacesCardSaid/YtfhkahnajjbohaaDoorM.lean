/-
  An index as its readers see it; Lines, Line.
-/
import Derived.Test.YtfhkahnajjbohaaDoorK
namespace Go.Proofs.YtfhkahnajjbohaaDoor
open Go.RowKit Go.Shelf

/-- At block b lies an index of the text s with the lines ls, in blocks that lie in w. -/
def Ix (w : World) (b : Nat) (s : ByteArray) (ls : List (Nat × Nat)) : Prop :=
  ∃ g cap, w.cell? ⟨b, 0, none⟩ = some (.string s) ∧ w.cell? ⟨b, 1, none⟩ = some (.slice (some ⟨g, 0, none⟩) ls.length cap) ∧ b < w.heap.size ∧ g < w.heap.size ∧ ls.length ≤ cap ∧
    ∀ j x, ls[j]? = some x → w.cell? ⟨g, j * 2, none⟩ = some (.int .i64 x.1) ∧ w.cell? ⟨g, j * 2 + 1, none⟩ = some (.int .i64 x.2)

theorem Ix.below {w w' : World} {n b : Nat} {s : ByteArray} {ls : List (Nat × Nat)} (h : Ix w b s ls) (hn : w.heap.size ≤ n) (hb : Below n w w') : Ix w' b s ls := by
  obtain ⟨g, cap, h1, h2, h3, h4, h5, h6⟩ := h
  have hz := hb.size
  refine ⟨g, cap, (hb.cell (p := ⟨b, 0, none⟩) (by show b < n; omega)).trans h1, (hb.cell (p := ⟨b, 1, none⟩) (by show b < n; omega)).trans h2, by omega, by omega, h5, fun j x hj => ?_⟩
  obtain ⟨c1, c2⟩ := h6 j x hj
  exact ⟨(hb.cell (p := ⟨g, j * 2, none⟩) (by show g < n; omega)).trans c1, (hb.cell (p := ⟨g, j * 2 + 1, none⟩) (by show g < n; omega)).trans c2⟩

theorem flatL_get : ∀ (ls : List (Nat × Nat)) (j : Nat) (x : Nat × Nat), ls[j]? = some x → (flatL ls)[j * 2]? = some (.int .i64 x.1) ∧ (flatL ls)[j * 2 + 1]? = some (.int .i64 x.2)
  | [], _, _, h => by cases h
  | y :: ls, 0, x, h => by simp at h; subst h; simp [flatL]
  | y :: ls, j + 1, x, h => by
    have ih := flatL_get ls j x (by simpa using h)
    rw [show (j + 1) * 2 = j * 2 + 2 by omega]
    show (Value.int .i64 y.1 :: Value.int .i64 y.2 :: flatL ls)[j * 2 + 2]? = _ ∧ (Value.int .i64 y.1 :: Value.int .i64 y.2 :: flatL ls)[j * 2 + 2 + 1]? = _
    simpa using ih

theorem linesB_pos (s : ByteArray) : 0 < (linesB s).length := by
  rw [linesB, linesF]
  split <;> simp

theorem IdxAt.ix {W : World} {base b : Nat} {s : ByteArray} {ls : List (Nat × Nat)} (h : IdxAt W base b s ls) (hp : 0 < ls.length) : Ix W b s ls := by
  obtain ⟨v, hv, hr⟩ := h
  have hl := hr.1
  rcases hr.2 with ⟨_, h0⟩ | ⟨g, cap, cur, rfl, hb, hg, hc1, hc2, hc3, hc4⟩
  · omega
  · refine ⟨g, cap, by rw [cell_of_row W b 0 _ _ _ hv]; rfl, by rw [cell_of_row W b 1 _ _ _ hv]; rfl, (Array.getElem?_eq_some_iff.1 hv).1, (Array.getElem?_eq_some_iff.1 hg).1, hc1, fun j x hj => ?_⟩
    obtain ⟨f1, f2⟩ := flatL_get ls j x hj
    have hadd : ∀ k u, (flatL ls)[k]? = some u → W.cell? ⟨g, k, none⟩ = some u := fun k u hu => by
      rw [cell_of_row W g k cur 32 (0, 0) hg]
      rw [← hc4, List.getElem?_take] at hu
      split at hu
      · simpa using hu
      · cases hu
    exact ⟨hadd _ _ f1, hadd _ _ f2⟩

theorem lines_any (b : Nat) (s : ByteArray) (ls : List (Nat × Nat)) (w : World) (h : Ix w b s ls) :
    Calls Tryd.prog 13 #[.pointer (some ⟨b, 0, none⟩)] w fun e w' => e = .returned (.int .i64 ls.length) ∧ w = w' := by
  obtain ⟨g, cap, h1, h2, h3, h4, h5, h6⟩ := h
  have h7 : ((0 : Nat) < 1) := by decide
  clear h6 h5
  go_enter Tryd.func13, Tryd.ntmps13
  go_wp2
  go_ret
  exact ⟨rfl, rfl⟩

theorem lines_nil (w : World) :
    Calls Tryd.prog 13 #[.pointer none] w fun e w' => e = .returned (.int .i64 0) ∧ w = w' := by
  go_enter Tryd.func13, Tryd.ntmps13
  go_wp2
  go_ret
  exact ⟨rfl, rfl⟩

theorem line_nil (n : Int) (w : World) :
    Calls Tryd.prog 14 #[.pointer none, .int .i64 n] w fun e w' => e = .returned (.tuple #[.agg #[.int .i64 0, .int .i64 0], .int .i64 2]) ∧ Below w.heap.size w w' := by
  go_enter Tryd.func14, Tryd.ntmps14
  go_wp2
  refine bodyPost_ret (v := .tuple #[.agg #[.int .i64 0, .int .i64 0], .int .i64 2]) (by simp [results, Tryd.f14, go_sem]) rfl ⟨rfl, ?_⟩
  exact (Below.refl _ _).alloc (Nat.le_refl _) _

theorem line_ok (b : Nat) (s : ByteArray) (ls : List (Nat × Nat)) (w : World) (h : Ix w b s ls) (n : Nat) (x : Nat × Nat) (hx : ls[n]? = some x) :
    Calls Tryd.prog 14 #[.pointer (some ⟨b, 0, none⟩), .int .i64 n] w fun e w' => e = .returned (.tuple #[.agg #[.int .i64 x.1, .int .i64 x.2], .int .i64 0]) ∧ Below w.heap.size w w' := by
  obtain ⟨g, cap, h1, h2, h3, h4, h5, h6⟩ := h
  obtain ⟨c1, c2⟩ := h6 n x hx
  have hn : n < ls.length := (List.getElem?_eq_some_iff.1 hx).1
  clear h6 h5 hx
  generalize ls.length = m at *
  go_enter Tryd.func14, Tryd.ntmps14
  go_wp2
  refine bodyPost_ret (v := .tuple #[.agg #[.int .i64 x.1, .int .i64 x.2], .int .i64 0]) (by simp [results, Tryd.f14, go_sem]) rfl ⟨rfl, ?_⟩
  exact (Below.refl _ _).alloc (Nat.le_refl _) _

theorem line_no (b : Nat) (s : ByteArray) (ls : List (Nat × Nat)) (w : World) (h : Ix w b s ls) (n : Int) (hn : n < 0 ∨ (ls.length : Int) ≤ n) :
    Calls Tryd.prog 14 #[.pointer (some ⟨b, 0, none⟩), .int .i64 n] w fun e w' => e = .returned (.tuple #[.agg #[.int .i64 0, .int .i64 0], .int .i64 1]) ∧ Below w.heap.size w w' := by
  obtain ⟨g, cap, h1, h2, h3, h4, h5, h6⟩ := h
  clear h6 h5
  generalize ls.length = m at *
  by_cases h0 : n < 0
  all_goals
    go_enter Tryd.func14, Tryd.ntmps14
    go_wp2
    refine bodyPost_ret (v := .tuple #[.agg #[.int .i64 0, .int .i64 0], .int .i64 1]) (by simp [results, Tryd.f14, go_sem]) rfl ⟨rfl, ?_⟩
    exact (Below.refl _ _).alloc (Nat.le_refl _) _
end Go.Proofs.YtfhkahnajjbohaaDoor
