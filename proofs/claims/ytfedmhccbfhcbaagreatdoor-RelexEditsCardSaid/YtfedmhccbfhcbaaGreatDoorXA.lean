/-
  Rows of tokens that are only read: how many are the same from the beginning, and from the end (plainly), and in memory.
-/
import Derived.Test.YtfedmhccbfhcbaaGreatDoorX2
namespace Go.Proofs.YtfedmhccbfhcbaaGreatDoor
open Go.RowKit

theorem tokE_zero {l : List UInt8} (h : tokE l = 0) : l.length ≤ 65536 ∧ valB l = true := by
  unfold tokE at h
  split at h
  · cases h
  · split at h
    · exact ⟨by omega, by assumption⟩
    · cases h
theorem tokE_good {l : List UInt8} (h1 : l.length ≤ 65536) (h2 : valB l = true) : tokE l = 0 := by
  unfold tokE; rw [if_neg (by omega), if_pos h2]
/-! ### plainly -/
def aheadN : List Tok → List Tok → Nat
  | x :: a, y :: b => if x = y then aheadN a b + 1 else 0
  | _, _ => 0
theorem aheadN_le : ∀ a b : List Tok, aheadN a b ≤ a.length ∧ aheadN a b ≤ b.length
  | [], _ => ⟨Nat.zero_le _, Nat.zero_le _⟩
  | _ :: _, [] => ⟨Nat.zero_le _, Nat.zero_le _⟩
  | x :: a, y :: b => by
    have := aheadN_le a b
    unfold aheadN; split <;> simp <;> omega
theorem aheadN_at : ∀ (a b : List Tok) (i : Nat), i < aheadN a b → a[i]? = b[i]?
  | [], b, i, h => by unfold aheadN at h; omega
  | _ :: _, [], i, h => by unfold aheadN at h; omega
  | x :: a, y :: b, i, h => by
    unfold aheadN at h
    split at h
    · rename_i e; subst e
      cases i with
      | zero => rfl
      | succ i => simpa using aheadN_at a b i (by omega)
    · omega
theorem aheadN_stop : ∀ (a b : List Tok), aheadN a b < a.length → aheadN a b < b.length → a[aheadN a b]? ≠ b[aheadN a b]?
  | [], b, h, _ => by simp at h
  | _ :: _, [], _, h => by simp at h
  | x :: a, y :: b, h1, h2 => by
    unfold aheadN at h1 h2 ⊢
    split
    · rename_i e
      rw [if_pos e] at h1 h2
      simpa using aheadN_stop a b (by simpa using h1) (by simpa using h2)
    · rename_i e
      simp; exact e
theorem aheadN_ge (a b : List Tok) (n : Nat) (h1 : n ≤ a.length) (h2 : n ≤ b.length) (h : ∀ i, i < n → a[i]? = b[i]?) : n ≤ aheadN a b := by
  apply Nat.le_of_not_lt
  intro hlt
  exact aheadN_stop a b (by omega) (by omega) (h _ hlt)
theorem aheadN_eq (a b : List Tok) (n : Nat) (h1 : n ≤ a.length) (h2 : n ≤ b.length) (h : ∀ i, i < n → a[i]? = b[i]?) (hs : n < a.length → n < b.length → a[n]? ≠ b[n]?) : aheadN a b = n := by
  have h3 := aheadN_ge a b n h1 h2 h
  have h4 := aheadN_le a b
  apply Nat.le_antisymm _ h3
  apply Nat.le_of_not_lt
  intro hlt
  exact hs (by omega) (by omega) (aheadN_at a b n hlt)
theorem aheadN_self (a : List Tok) : aheadN a a = a.length := aheadN_eq a a a.length (Nat.le_refl _) (Nat.le_refl _) (fun _ _ => rfl) (fun h => absurd h (Nat.lt_irrefl _))
theorem aheadN_all {a b : List Tok} (h1 : a.length = b.length) (h2 : aheadN a b = a.length) : a = b := by
  apply List.ext_getElem? 
  intro i
  by_cases hi : i < a.length
  · exact aheadN_at a b i (by omega)
  · rw [List.getElem?_eq_none (by omega), List.getElem?_eq_none (by omega)]
/-- How many at the end, without those at the beginning. -/
def behN (a b : List Tok) : Nat := min (min a.length b.length - aheadN a b) (aheadN a.reverse b.reverse)
theorem rev_at (a : List Tok) (j : Nat) (h : j < a.length) : a.reverse[j]? = a[a.length - 1 - j]? := by
  rw [List.getElem?_reverse h]
theorem aheadN_take (x y : List Tok) (i j : Nat) : aheadN (x.take i) (y.take j) = min (min i j) (aheadN x y) := by
  have hl := aheadN_le x y
  apply aheadN_eq
  · rw [List.length_take]; omega
  · rw [List.length_take]; omega
  · intro k hk
    rw [List.getElem?_take_of_lt (by omega), List.getElem?_take_of_lt (by omega)]
    exact aheadN_at x y k (by omega)
  · intro h1 h2
    rw [List.length_take] at h1 h2
    rw [List.getElem?_take_of_lt (by omega), List.getElem?_take_of_lt (by omega)]
    rw [show min (min i j) (aheadN x y) = aheadN x y by omega] at h1 h2 ⊢
    exact aheadN_stop x y (by omega) (by omega)
theorem behN_ref (a b : List Tok) : aheadN (a.drop (aheadN a b)).reverse (b.drop (aheadN a b)).reverse = behN a b := by
  have hl := aheadN_le a b
  rw [List.reverse_drop, List.reverse_drop, aheadN_take]
  unfold behN
  omega
/-! ### in memory -/
/-- A row of tokens that is read: wherever it lies. -/
def TokRow (w : World) (v : Value) (E : List Tok) : Prop := ∃ p c, v = .slice p E.length c ∧ E.length ≤ c ∧ (E = [] ∨ ∃ g o, p = some ⟨g, o, none⟩ ∧ ∀ i t, E[i]? = some t → w.cell? ⟨g, o + i * 2, none⟩ = some (.int .u8 t.1) ∧ w.cell? ⟨g, o + i * 2 + 1, none⟩ = some (bl t.2))
theorem cell_below {w w' : World} (hb : Below w.heap.size w w') {a : Addr} {v : Value} (h : w.cell? a = some v) : w'.cell? a = some v := by
  unfold World.cell? at h ⊢
  cases hg : w.heap[a.block]? with
  | none => rw [hg] at h; cases h
  | some o => rw [(hb.block a.block (Array.getElem?_eq_some_iff.1 hg).1), hg]; rw [hg] at h; exact h
theorem TokRow.below {w w' : World} {v : Value} {E : List Tok} (h : TokRow w v E) (hb : Below w.heap.size w w') : TokRow w' v E := by
  obtain ⟨p, c, h1, h2, h3⟩ := h
  refine ⟨p, c, h1, h2, ?_⟩
  rcases h3 with h3 | ⟨g, o, h4, h5⟩
  · exact .inl h3
  · exact .inr ⟨g, o, h4, fun i t hi => ⟨cell_below hb (h5 i t hi).1, cell_below hb (h5 i t hi).2⟩⟩
theorem ToksAt.row {B : Nat} {w : World} {v : Value} {E : List Tok} (h : ToksAt B w v E) : TokRow w v E := by
  have h0 := h
  obtain ⟨h1, h2⟩ := h
  rcases h2 with ⟨rfl, h2⟩ | ⟨g, cap, cur, rfl, h4, h5, h6, h7, h8, h9⟩
  · exact ⟨none, 0, by rw [h2], by omega, .inl (List.length_eq_zero_iff.1 h2)⟩
  · refine ⟨_, cap, rfl, h6, .inr ⟨g, 0, rfl, fun i t hi => ?_⟩⟩
    obtain ⟨g', cap', e1, e2, e3⟩ := tok_at h0 hi
    injection e1 with e1
    injection e1 with e1
    injection e1 with e1
    subst e1
    rw [Nat.zero_add]
    exact ⟨e2, e3⟩
theorem TokRow.nil (w : World) : TokRow w (.slice none 0 0) [] := ⟨none, 0, rfl, Nat.le_refl _, .inl rfl⟩
set_option maxRecDepth 100000 in
theorem eql_any (x y : Tok) (W : World) : (binOp .eql 39 (tokA x) (tokA y)).run Tryz.prog W = .ok (.bool (decide (x = y))) W := by
  obtain ⟨k, s⟩ := x
  obtain ⟨j, t⟩ := y
  unfold tokA bl
  have hi : ((k : Int) = (j : Int)) = (k = j) := propext Int.ofNat_inj
  simp [go_sem]
  simp only [hi]
  by_cases h1 : k = j
  · rw [if_pos h1]
    by_cases h2 : s = t
    · rw [if_pos h2]; simp [h1, h2]
    · rw [if_neg h2]; simp [h2]
  · rw [if_neg h1]; simp [h1]
/-- Two rows, read at the same time. -/
theorem TokRow.at {w : World} {v : Value} {E : List Tok} (h : TokRow w v E) {i : Nat} {t : Tok} (hi : E[i]? = some t) : ∃ g o c, v = .slice (some ⟨g, o, none⟩) E.length c ∧ E.length ≤ c ∧ w.cell? ⟨g, o + i * 2, none⟩ = some (.int .u8 t.1) ∧ w.cell? ⟨g, o + i * 2 + 1, none⟩ = some (bl t.2) := by
  obtain ⟨p, c, h1, h2, h3⟩ := h
  rcases h3 with rfl | ⟨g, o, rfl, h5⟩
  · simp at hi
  · exact ⟨g, o, c, h1, h2, (h5 i t hi).1, (h5 i t hi).2⟩
theorem TokRow.shape {w : World} {v : Value} {E : List Tok} (h : TokRow w v E) : ∃ p c, v = .slice p E.length c := by
  obtain ⟨p, c, h1, _⟩ := h; exact ⟨p, c, h1⟩
end Go.Proofs.YtfedmhccbfhcbaaGreatDoor
