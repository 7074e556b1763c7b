/-
  Slices of rows of tokens.
-/
import Derived.Test.YtfedmhccbfhcbaaGreatDoorXM
namespace Go.Proofs.YtfedmhccbfhcbaaGreatDoor
open Go.RowKit Go.Shelf

theorem TokRow.take {w : World} {p : Option Addr} {n c : Nat} {E : List Tok} (h : TokRow w (.slice p n c) E) (k : Nat) (hk : k ≤ E.length) : TokRow w (.slice p k c) (E.take k) := by
  obtain ⟨p', c', h1, h2, h3⟩ := h
  cases h1
  refine ⟨p, c, by rw [List.length_take, Nat.min_eq_left hk], by rw [List.length_take]; omega, ?_⟩
  rcases h3 with h3 | ⟨g, o, h4, h5⟩
  · left; rw [h3]; simp
  · right
    refine ⟨g, o, h4, fun i t hi => h5 i t ?_⟩
    by_cases hik : i < k
    · rw [List.getElem?_take_of_lt hik] at hi; exact hi
    · rw [List.getElem?_eq_none (by rw [List.length_take]; omega)] at hi; cases hi
theorem ht27 : Tryz.prog.underlying 30 = some (.slice (Tryz.prog.elem 30)) := by kernel_rfl
theorem run_take (p : Option Addr) (n c k : Nat) (hk : k ≤ c) (W : World) : (Instr.slice 30 (.slice p n c) none (some (.int .i64 k)) none).run Tryz.prog W = .ok (.slice p k c) W := by
  obtain ⟨i32, hi9, hz0, hz1, hz2⟩ := info_parts info32
  rw [run_slice_h W 30 p n c ht27 .i64 k (by omega) (by omega)]
  have he : Tryz.prog.elem 30 = 39 := by kernel_rfl
  rw [he]
  simp [sizeOf, typeInfo, hi9, sliced]
  intro _
  cases p <;> rfl
theorem run_drop (p : Option Addr) (n c k : Nat) (hk : k ≤ n) (W : World) : (Instr.slice 30 (.slice p n c) (some (.int .i64 k)) none none).run Tryz.prog W = .ok (.slice (if c = k then p else p.map (·.add (k * 2))) (n - k) (c - k)) W := by
  obtain ⟨i32, hi9, hz0, hz1, hz2⟩ := info_parts info32
  rw [run_slice_l W 30 p n c ht27 .i64 k (by omega) (by omega)]
  have he : Tryz.prog.elem 30 = 39 := by kernel_rfl
  rw [he]
  simp [sizeOf, typeInfo, hi9, sliced, hz1]
theorem TokRow.drop {w : World} {p : Option Addr} {n c : Nat} {E : List Tok} (h : TokRow w (.slice p n c) E) (k : Nat) (hk : k ≤ E.length) : TokRow w (.slice (if c = k then p else p.map (·.add (k * 2))) (n - k) (c - k)) (E.drop k) := by
  obtain ⟨p', c', h1, h2, h3⟩ := h
  cases h1
  refine ⟨_, c - k, by rw [List.length_drop], by rw [List.length_drop]; omega, ?_⟩
  by_cases hd : E.drop k = []
  · exact .inl hd
  · right
    have hlt : k < E.length := by
      apply Nat.lt_of_not_le; intro h; exact hd (List.drop_eq_nil_of_le h)
    rcases h3 with h3 | ⟨g, o, rfl, h5⟩
    · rw [h3] at hlt; simp at hlt
    · rw [if_neg (by omega)]
      refine ⟨g, o + k * 2, by rw [Option.map_some, Addr.add_lit], fun i t hi => ?_⟩
      rw [List.getElem?_drop] at hi
      have := h5 _ t hi
      rw [show o + (k + i) * 2 = o + k * 2 + i * 2 by omega] at this
      exact this
end Go.Proofs.YtfedmhccbfhcbaaGreatDoor
