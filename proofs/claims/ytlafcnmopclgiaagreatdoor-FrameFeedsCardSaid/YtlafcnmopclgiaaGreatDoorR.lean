/-
  Same: two rows of the document's events that hold the same.
-/
import Derived.Test.YtlafcnmopclgiaaGreatDoorQ
namespace Go.Proofs.YtlafcnmopclgiaaGreatDoor
open Go.RowKit Go.Shelf

theorem ref_at {B : Nat} {w : World} {v : Value} {l : List Ev} (h : RefAt B w v l) {g n cap : Nat} (hv : v = .slice (some ⟨g, 0, none⟩) n cap) {i : Nat} {e : Ev} (hi : l[i]? = some e) : w.cell? ⟨g, i * 2, none⟩ = some (bl e.1) ∧ w.cell? ⟨g, i * 2 + 1, none⟩ = some (.int .i64 e.2) := by
  have hc := World.ownsRow.cells h (g := g) (by rw [hv]; rfl)
  obtain ⟨h1, h2⟩ := flat2 l i e hi
  have k1 := hc _ _ h1
  have k2 := hc _ _ h2
  rw [addr_add, Nat.zero_add] at k1 k2
  exact ⟨k1, k2⟩
theorem ref_block {B : Nat} {w : World} {v : Value} {l : List Ev} (h : RefAt B w v l) : (∃ cap, v = .slice none l.length cap ∧ l = []) ∨ ∃ g cap, v = .slice (some ⟨g, 0, none⟩) l.length cap := by
  rcases h.2 with ⟨rfl, h2⟩ | ⟨g, cap, cur, rfl, _⟩
  · obtain rfl := List.eq_nil_of_length_eq_zero h2
    exact .inl ⟨0, rfl, rfl⟩
  · exact .inr ⟨g, cap, rfl⟩
set_option maxRecDepth 100000 in
set_option maxHeartbeats 2000000 in
theorem same_any (B1 B2 : Nat) (w : World) (v1 v2 : Value) (l : List Ev) (h1 : RefAt B1 w v1 l) (h2 : RefAt B2 w v2 l) (hz : l.length ≤ 3000000) :
    Calls Tryz.prog 10 #[v1, v2] w fun e w' => e = .returned (.bool true) ∧ Below w.heap.size w w' := by
  obtain ⟨p1, q1, rfl⟩ := owns_shape h1
  obtain ⟨p2, q2, rfl⟩ := owns_shape h2
  have H1 := Lib.hid h1
  have H2 := Lib.hid h2
  clear h1 h2
  have hlen : ((l.length : Int) != (l.length : Int)) = false := by simp
  go_enter Tryz.func10, Tryz.ntmps10
  go_wp2_with fail
  go_loopw [5] (fun i wr => ∃ k : Nat, i = .int .i64 k ∧ k ≤ l.length ∧ Hid (Below w.heap.size w wr)) (fun i _ => l.length - (intOf i).toNat)
  case atStart => exact ⟨0, rfl, Nat.zero_le _, Lib.hid (Below.refl _ _)⟩
  case round =>
    obtain ⟨k, rfl, hk, HB⟩ := hrel
    by_cases hlt : k < l.length
    · have hlt' : (k : Int) < (l.length : Int) := by omega
      obtain ⟨⟨b, x⟩, hE⟩ : ∃ E, l[k]? = some E := ⟨_, List.getElem?_eq_getElem hlt⟩
      rcases ref_block H1.out with ⟨_, _, e2⟩ | ⟨g1, cap1, e1⟩
      · subst e2; exact absurd hlt (Nat.not_lt_zero _)
      rcases ref_block H2.out with ⟨_, _, e2⟩ | ⟨g2, cap2, e2⟩
      · subst e2; exact absurd hlt (Nat.not_lt_zero _)
      cases e1
      cases e2
      obtain ⟨c0, c1⟩ := ref_at H1.out rfl hE
      obtain ⟨d0, d1⟩ := ref_at H2.out rfl hE
      replace c0 := (HB.out.cell (World.block_lt_of_cell? w _ c0)).trans c0
      replace c1 := (HB.out.cell (World.block_lt_of_cell? w _ c1)).trans c1
      replace d0 := (HB.out.cell (World.block_lt_of_cell? w _ d0)).trans d0
      replace d1 := (HB.out.cell (World.block_lt_of_cell? w _ d1)).trans d1
      have hbx : bl b = .string ⟨b.toArray⟩ := rfl
      simp only [hbx] at c0 d0
      simp only at c1 d1
      clear hE
      generalize (⟨b.toArray⟩ : ByteArray) = X at *
      go_wp2_with fail
      go_quiet (fail)
      go_wp2
      go_roundw
      case rel => exact ⟨k + 1, by go_num, by omega, Lib.hid (belowN HB.out _)⟩
      case measure => simp [intOf]; omega
    · obtain rfl : k = l.length := by omega
      have hlt' : ¬ (l.length : Int) < (l.length : Int) := by omega
      go_wp2_with fail
      go_ret
      exact ⟨rfl, HB.out⟩
end Go.Proofs.YtlafcnmopclgiaaGreatDoor
