/-
  Plain: the byte behind so many ends.
-/
import Derived.Lib.Bytealg
import Derived.Lib.Strings
namespace Go.Proofs.Ytbmcgmnmmnileaa

/-- The byte behind so many ends. -/
def nth : List UInt8 → Nat → Nat
  | _, 0 => 0
  | [], _ + 1 => 0
  | c :: l, k + 1 => if c = 10 then 1 + nth l k else 1 + nth l (k + 1)
theorem nth_zero (l : List UInt8) : nth l 0 = 0 := by cases l <;> rfl
theorem nth_hit (l : List UInt8) (k : Nat) : nth (10 :: l) (k + 1) = 1 + nth l k := by rw [nth]; simp
theorem nth_miss {c : UInt8} (h : c ≠ 10) (l : List UInt8) (k : Nat) : nth (c :: l) (k + 1) = 1 + nth l (k + 1) := by rw [nth]; simp [h]
theorem nth_le : ∀ (l : List UInt8) (k : Nat), nth l k ≤ l.length
  | l, 0 => by rw [nth_zero]; exact Nat.zero_le _
  | [], k + 1 => Nat.le_refl _
  | c :: l, k + 1 => by
    have h1 := nth_le l k
    have h2 := nth_le l (k + 1)
    unfold nth
    rw [List.length_cons]
    split <;> omega
theorem nth_cat_left : ∀ (l r : List UInt8) (k : Nat), k ≤ l.count 10 → nth (l ++ r) k = nth l k
  | l, r, 0, _ => by rw [nth_zero, nth_zero]
  | [], r, k + 1, h => by simp at h
  | c :: l, r, k + 1, h => by
    rw [List.cons_append]
    unfold nth
    rw [List.count_cons] at h
    split
    · rename_i hc
      rw [nth_cat_left l r k (by simp [hc] at h; omega)]
    · rename_i hc
      rw [nth_cat_left l r (k + 1) (by simp [hc] at h; omega)]
theorem nth_cat_right : ∀ (l r : List UInt8) (k : Nat), l.count 10 < k → nth (l ++ r) k = l.length + nth r (k - l.count 10)
  | [], r, k, _ => by simp
  | c :: l, r, 0, h => by omega
  | c :: l, r, k + 1, h => by
    rw [List.cons_append, List.length_cons, List.count_cons]
    rw [List.count_cons] at h
    by_cases hc : c = 10
    · subst hc
      simp only [beq_self_eq_true, ite_true] at h ⊢
      have e := nth_cat_right l r k (by omega)
      rw [nth_hit, e, show k + 1 - (l.count 10 + 1) = k - l.count 10 by omega]
      omega
    · simp only [beq_iff_eq, hc, ite_false] at h ⊢
      have e := nth_cat_right l r (k + 1) (by omega)
      rw [nth_miss hc, e, show l.count 10 + 0 = l.count 10 by omega]
      omega
theorem count_take_nth : ∀ (l : List UInt8) (k : Nat), k ≤ l.count 10 → (l.take (nth l k)).count 10 = k
  | l, 0, _ => by rw [nth_zero, List.take_zero]; rfl
  | [], k + 1, h => by simp at h
  | c :: l, k + 1, h => by
    unfold nth
    rw [List.count_cons] at h
    split
    · rename_i hc
      rw [Nat.add_comm, List.take_succ_cons, List.count_cons, count_take_nth l k (by simp [hc] at h; omega)]
      simp [hc]
    · rename_i hc
      rw [Nat.add_comm 1, List.take_succ_cons, List.count_cons, count_take_nth l (k + 1) (by simp [hc] at h; omega)]
      simp [hc]
theorem nth_end : ∀ (l : List UInt8) (k : Nat), 0 < k → k ≤ l.count 10 → 0 < nth l k ∧ l[nth l k - 1]? = some 10
  | l, 0, h, _ => by omega
  | [], k + 1, _, h => by simp at h
  | c :: l, k + 1, _, h => by
    unfold nth
    rw [List.count_cons] at h
    split
    · rename_i hc
      refine ⟨by omega, ?_⟩
      by_cases hk : k = 0
      · subst hk; rw [nth_zero]; simp [hc]
      · obtain ⟨h1, h2⟩ := nth_end l k (by omega) (by simp [hc] at h; omega)
        rw [show 1 + nth l k - 1 = (nth l k - 1) + 1 by omega, List.getElem?_cons_succ]
        exact h2
    · rename_i hc
      obtain ⟨h1, h2⟩ := nth_end l (k + 1) (by omega) (by simp [hc] at h; omega)
      refine ⟨by omega, ?_⟩
      rw [show 1 + nth l (k + 1) - 1 = (nth l (k + 1) - 1) + 1 by omega, List.getElem?_cons_succ]
      exact h2
theorem nth_step : ∀ (l : List UInt8) (k : Nat), k + 1 ≤ l.count 10 → (nth l (k + 1) : Int) = (nth l k : Int) + (Lib.indexByte (l.drop (nth l k)) 10 + 1)
  | [], k, h => by simp at h
  | c :: l, 0, h => by
    rw [List.count_cons] at h
    rw [nth_zero, List.drop_zero]
    by_cases hc : c = 10
    · subst hc
      rw [nth_hit, nth_zero]
      simp [Lib.indexByte]
    · have hl : 1 ≤ l.count 10 := by simp only [beq_iff_eq, hc, ite_false] at h; omega
      have e := nth_step l 0 hl
      rw [nth_zero, List.drop_zero, Nat.zero_add] at e
      have h0 := (nth_end l 1 (by omega) hl).1
      have h1 : ¬ (Lib.indexByte l 10 = -1) := by intro e2; rw [e2] at e; simp at e; omega
      rw [nth_miss hc, Nat.zero_add]
      unfold Lib.indexByte
      simp only [beq_iff_eq, hc, h1, ite_false]
      push_cast
      push_cast at e
      omega
  | c :: l, k + 1, h => by
    rw [List.count_cons] at h
    by_cases hc : c = 10
    · have e := nth_step l k (by simp [hc] at h; omega)
      have e1 : nth (c :: l) (k + 1 + 1) = 1 + nth l (k + 1) := by rw [nth]; simp [hc]
      have e2 : nth (c :: l) (k + 1) = 1 + nth l k := by rw [nth]; simp [hc]
      rw [e1, e2, Nat.add_comm 1 (nth l k), List.drop_succ_cons]
      omega
    · have e := nth_step l (k + 1) (by simp [hc] at h; omega)
      have e1 : nth (c :: l) (k + 1 + 1) = 1 + nth l (k + 1 + 1) := by rw [nth]; simp [hc]
      have e2 : nth (c :: l) (k + 1) = 1 + nth l (k + 1) := by rw [nth]; simp [hc]
      rw [e1, e2, Nat.add_comm 1 (nth l (k + 1)), List.drop_succ_cons]
      omega
end Go.Proofs.Ytbmcgmnmmnileaa
