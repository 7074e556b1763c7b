/-
  Offset.
-/
import Derived.Test.YtfhkahnajjbohaaDoorN
import Derived.Deep.RegionHeld3
namespace Go.Proofs.YtfhkahnajjbohaaDoor
open Go.RowKit Go.Shelf

/-- What Offset answers: the byte and the error. -/
def offS (s : ByteArray) (ls : List (Nat × Nat)) (l c : Int) : Int × Int :=
  if l < 0 then (0, 60) else
  match ls[l.toNat]? with
  | none => (0, 60)
  | some x => if (bu (s.extract x.1 x.2) c).2 then ((x.1 : Int) + (bu (s.extract x.1 x.2) c).1, 0) else (0, 60)

theorem size_ex (s : ByteArray) (i j : Nat) (h : j ≤ s.size) : (s.extract i j).size = j - i := by simp; omega
theorem buF_le : ∀ (f : Nat) (t : ByteArray) (i c : Nat) (k : Int), (buF f t i c k).1 ≤ t.size
  | 0, t, _, _, _ => Nat.le_refl _
  | f + 1, t, i, c, k => by
    rw [buF]
    split
    · split
      · simp only; omega
      · exact buF_le f t _ _ k
    · exact Nat.le_refl _
theorem bu_le (t : ByteArray) (k : Int) : (bu t k).1 ≤ t.size := buF_le _ _ _ _ _
theorem bcell {W w1 : World} (hb : Below W.heap.size W w1) : (∀ b o, b < W.heap.size → w1.cell? ⟨b, o, none⟩ = W.cell? ⟨b, o, none⟩) ∧ (∀ b o, b < W.heap.size → w1.frozen? ⟨b, o, none⟩ = W.frozen? ⟨b, o, none⟩) :=
  ⟨fun b o h => hb.cell (p := ⟨b, o, none⟩) h, fun b o h => hb.frozen (p := ⟨b, o, none⟩) h⟩

theorem offset_nil (l c : Int) (w : World) :
    Calls Tryd.prog 15 #[.pointer none, .agg #[.int .i64 l, .int .i64 c]] w fun e w' => e = .returned (.tuple #[.int .i64 0, .int .i64 2]) ∧ Below w.heap.size w w' := by
  go_enter Tryd.func15, Tryd.ntmps15
  go_wp2
  go_ret2
  exact ⟨rfl, (Below.refl _ _).alloc (Nat.le_refl _) _⟩

theorem offset_no (b : Nat) (s : ByteArray) (ls : List (Nat × Nat)) (w : World) (h : Ix w b s ls) (l c : Int) (hn : l < 0 ∨ (ls.length : Int) ≤ l) :
    Calls Tryd.prog 15 #[.pointer (some ⟨b, 0, none⟩), .agg #[.int .i64 l, .int .i64 c]] w fun e w' => e = .returned (.tuple #[.int .i64 0, .int .i64 60]) ∧ Below w.heap.size w w' := by
  have hL := line_no b s ls (w.alloc (.cells #[.int .i64 l, .int .i64 c] 37)) (h.below (Nat.le_refl _) ((Below.refl _ _).alloc (Nat.le_refl _) _)) l hn
  go_enter Tryd.func15, Tryd.ntmps15
  go_wp2_with fail
  refine hL.mono ?_
  rintro e w1 ⟨rfl, hb1⟩
  clear hL
  go_wp2
  go_ret2
  exact ⟨rfl, (((Below.refl _ _).alloc (Nat.le_refl _) _).trans (hb1.mono (by simp))).alloc (by have := hb1.size; simp at this; omega) _⟩

set_option maxHeartbeats 1000000 in
theorem offset_ok (b : Nat) (s : ByteArray) (ls : List (Nat × Nat)) (w : World) (h : Ix w b s ls) (n : Nat) (c : Int) (x : Nat × Nat) (hx : ls[n]? = some x) (hs : s.size ≤ 65536) (h1 : x.1 ≤ x.2) (h2 : x.2 ≤ s.size) :
    Calls Tryd.prog 15 #[.pointer (some ⟨b, 0, none⟩), .agg #[.int .i64 n, .int .i64 c]] w fun e w' =>
      e = .returned (.tuple #[.int .i64 (if (bu (s.extract x.1 x.2) c).2 then (x.1 : Int) + (bu (s.extract x.1 x.2) c).1 else 0), .int .i64 (if (bu (s.extract x.1 x.2) c).2 then 0 else 60)]) ∧ Below w.heap.size w w' := by
  have hL := line_ok b s ls (w.alloc (.cells #[.int .i64 n, .int .i64 c] 37)) (h.below (Nat.le_refl _) ((Below.refl _ _).alloc (Nat.le_refl _) _)) n x hx
  obtain ⟨g, cap, c1, _, c3, _⟩ := h
  have hU := fun W => behind_any (s.extract x.1 x.2) c W (by simp; omega)
  have hbd := bu_le (s.extract x.1 x.2) c
  rw [size_ex s x.1 x.2 h2] at hbd
  generalize bu (s.extract x.1 x.2) c = r at hU hbd ⊢
  obtain ⟨a, t⟩ := r
  simp only at hU hbd ⊢
  have hwrap : 0 ≤ (x.1 : Int) + a ∧ (x.1 : Int) + a ≤ 65536 := by omega
  obtain ⟨hw1, hw2⟩ := hwrap
  cases t
  all_goals
    simp only [Bool.false_eq_true, if_true, if_false]
    go_enter Tryd.func15, Tryd.ntmps15
    go_wp2_with fail
    refine hL.mono ?_
    rintro e w1 ⟨rfl, hb1⟩
    clear hL
    have hz1 : w.heap.size + 1 ≤ w1.heap.size := by have := hb1.size; simpa using this
    obtain ⟨hc, hf⟩ := bcell hb1
    have hbc : w1.cell? ⟨b, 0, none⟩ = some (.string s) := (hc b 0 (by simp; omega)).trans ((World.cell?_alloc_some w ⟨b, 0, none⟩ _ (by rw [c1]; rfl)).trans c1)
    have hpc : w1.cell? ⟨w.heap.size, 1, none⟩ = some (.int .i64 c) := (hc _ 1 (by simp)).trans (by simp)
    have hB1 : Below w.heap.size w w1 := ((Below.refl _ _).alloc (Nat.le_refl _) _).trans (hb1.mono (by simp))
    clear hc hf hb1
    go_wp2
    obtain ⟨W2, hW2⟩ : ∃ W2, w1.alloc (.cells #[.int .i64 x.1, .int .i64 x.2] 32) = W2 := ⟨_, rfl⟩
    rw [hW2]
    have hz2 : W2.heap.size = w1.heap.size + 1 := by rw [← hW2]; simp
    have d0 : W2.cell? ⟨b, 0, none⟩ = some (.string s) := by rw [← hW2]; exact (World.cell?_alloc_some w1 ⟨b, 0, none⟩ _ (by rw [hbc]; rfl)).trans hbc
    have d1 : W2.cell? ⟨w.heap.size, 1, none⟩ = some (.int .i64 c) := by rw [← hW2]; exact (World.cell?_alloc_some w1 ⟨w.heap.size, 1, none⟩ _ (by rw [hpc]; rfl)).trans hpc
    have d2 : W2.cell? ⟨w1.heap.size, 0, none⟩ = some (.int .i64 x.1) := by rw [← hW2]; simp
    have d3 : W2.cell? ⟨w1.heap.size, 1, none⟩ = some (.int .i64 x.2) := by rw [← hW2]; simp
    have hB2 : Below w.heap.size w W2 := by rw [← hW2]; exact hB1.alloc (by omega) _
    clear hW2 hbc hpc c1 hB1
    have hz3 : w1.heap.size < W2.heap.size := by omega
    clear hz2
    go_region_held3 (fun u => (u.cell? ⟨b, 0, none⟩ = some (.string s) ∧ u.cell? ⟨w.heap.size, 1, none⟩ = some (.int .i64 c)) ∧ u.cell? ⟨w1.heap.size, 0, none⟩ = some (.int .i64 x.1) ∧ u.cell? ⟨w1.heap.size, 1, none⟩ = some (.int .i64 x.2)) (first | exact ⟨⟨d0, d1⟩, d2, d3⟩ | exact ⟨⟨e0, e1⟩, e2, e3⟩) (first | (go_at_call 28; refine (hU _).mono ?_; rintro e w3 ⟨rfl, hb3⟩; have e0 : w3.cell? ⟨b, 0, none⟩ = some (.string s) := (hb3.cell (p := ⟨b, 0, none⟩) (by show b < W2.heap.size; omega)).trans d0; have e1 : w3.cell? ⟨w.heap.size, 1, none⟩ = some (.int .i64 c) := (hb3.cell (p := ⟨w.heap.size, 1, none⟩) (by show w.heap.size < W2.heap.size; omega)).trans d1; have e2 : w3.cell? ⟨w1.heap.size, 0, none⟩ = some (.int .i64 x.1) := (hb3.cell (p := ⟨w1.heap.size, 0, none⟩) (by show w1.heap.size < W2.heap.size; omega)).trans d2; have e3 : w3.cell? ⟨w1.heap.size, 1, none⟩ = some (.int .i64 x.2) := (hb3.cell (p := ⟨w1.heap.size, 1, none⟩) (by show w1.heap.size < W2.heap.size; omega)).trans d3))
    clear hU
    go_wp2
    go_ret2
    exact ⟨rfl, hB2.drew.trans (hb3.mono (Nat.le_of_lt (by show w.heap.size < W2.heap.size; omega)))⟩
end Go.Proofs.YtfhkahnajjbohaaDoor
