/-
  Frames, plainly: what the document's loops come to. No model in it.
-/
import Derived.Test.YtlafcnmopclgiaaGreatDoorFC
namespace Go.Proofs.YtlafcnmopclgiaaGreatDoor
open Go.Lib

theorem low_name (c : UInt8) : nameC c = (decide (97 ≤ (low c).toNat ∧ (low c).toNat ≤ 122) || decide (48 ≤ (low c).toNat ∧ (low c).toNat ≤ 57) || low c == 45) := by
  have H : ∀ n < 256, nameC (UInt8.ofNat n) = (decide (97 ≤ (low (UInt8.ofNat n)).toNat ∧ (low (UInt8.ofNat n)).toNat ≤ 122) || decide (48 ≤ (low (UInt8.ofNat n)).toNat ∧ (low (UInt8.ofNat n)).toNat ≤ 57) || low (UInt8.ofNat n) == 45) := by decide +kernel
  have := H c.toNat c.toNat_lt
  rw [UInt8.ofNat_toNat] at this; exact this
theorem fold_low (c d : UInt8) (h : d ∈ clen) : foldEq c d = (low c == d) := by
  have H : ∀ n < 256, ∀ d ∈ clen, foldEq (UInt8.ofNat n) d = (low (UInt8.ofNat n) == d) := by decide +kernel
  have := H c.toNat c.toNat_lt d h
  rw [UInt8.ofNat_toNat] at this; exact this
theorem fold_len : ∀ (l m : List UInt8), equalFold l m = true → l.length = m.length
  | [], [], _ => rfl
  | x :: s, y :: t, h => by
    rw [equalFold, Bool.and_eq_true] at h
    simp [fold_len s t h.2]
  | [], y :: t, h => by simp [equalFold] at h
  | x :: s, [], h => by simp [equalFold] at h
theorem fold_all : ∀ (l m : List UInt8), l.length = m.length → (∀ d ∈ m, d ∈ clen) → equalFold l m = (List.range l.length).all fun j => low (l.getD j 0) == m.getD j 0
  | [], [], _, _ => rfl
  | x :: s, y :: t, h, hm => by
    have ih := fold_all s t (by simpa using h) (fun d hd => hm d (.tail _ hd))
    rw [equalFold, ih, fold_low x y (hm y (.head _)), List.length_cons, List.range_succ_eq_map, List.all_cons, List.all_map]
    rfl
  | [], y :: t, h, _ => by simp at h
  | x :: s, [], h, _ => by simp at h
/-- The loop's flag behind k letters. -/
def isF (l : List UInt8) (k : Nat) : Bool := decide (l.length = 14) && (List.range k).all fun j => low (l.getD j 0) == clen.getD j 0
theorem isF_next (l : List UInt8) (k : Nat) : isF l (k + 1) = (isF l k && (low (l.getD k 0) == clen.getD k 0)) := by
  unfold isF
  rw [List.range_succ, List.all_append, ← Bool.and_assoc]
  simp
theorem isF_end (l : List UInt8) : isF l l.length = equalFold l clen := by
  unfold isF
  by_cases h : l.length = 14
  · rw [decide_eq_true h, Bool.true_and, fold_all l clen h (fun d hd => hd)]
  · rw [decide_eq_false h, Bool.false_and]
    cases he : equalFold l clen with
    | false => rfl
    | true => exact absurd (fold_len _ _ he) h
theorem isF_long (l : List UInt8) (k : Nat) (h : isF l k = true) : l.length = 14 := by
  unfold isF at h
  rw [Bool.and_eq_true] at h
  exact of_decide_eq_true h.1
theorem all_take {p : UInt8 → Bool} {l : List UInt8} {k : Nat} {c : UInt8} (h : (l.take k).all p = true) (hc : l[k]? = some c) (hp : p c = true) : (l.take (k + 1)).all p = true := by
  rw [List.take_add_one, hc, List.all_append, h]
  simp [hp]
theorem all_bad {p : UInt8 → Bool} {l : List UInt8} {k : Nat} {c : UInt8} (hc : l[k]? = some c) (hp : p c = false) : l.all p = false := by
  rw [Bool.eq_false_iff]
  intro h
  have := List.all_eq_true.1 h c (List.mem_of_getElem? hc)
  rw [hp] at this; cases this
def isBl (c : UInt8) : Bool := ([32, 9] : List UInt8).contains c
/-- What is left when the left end's blanks are gone, then the right end's. -/
theorem trim_of {l : List UInt8} {a m : Nat} (ha : a ≤ l.length) (h1 : ∀ (j : Nat) b, j < a → l[j]? = some b → isBl b = true) (h2 : ∀ b, l[a]? = some b → isBl b = false)
    (hm : m ≤ (l.drop a).length) (h3 : ∀ (j : Nat) b, m ≤ j → (l.drop a)[j]? = some b → isBl b = true) (h4 : ∀ b, 0 < m → (l.drop a)[m - 1]? = some b → isBl b = false) : trimS l [32, 9] = (l.drop a).take m := by
  rw [List.length_drop] at hm
  have hr : trimRightS l [32, 9] = l.take (if m = 0 then 0 else a + m) := by
    by_cases h0 : m = 0
    · rw [if_pos h0]
      refine trimRightS_take l [32, 9] 0 (Nat.zero_le _) (fun j b _ hb => ?_) (fun b h _ => by omega)
      rcases Nat.lt_or_ge j a with g | g
      · exact h1 j b g hb
      · exact h3 (j - a) b (by omega) (by rw [List.getElem?_drop, show a + (j - a) = j by omega]; exact hb)
    · rw [if_neg h0]
      refine trimRightS_take l [32, 9] (a + m) (by omega) (fun j b hj hb => ?_) (fun b _ hb => ?_)
      · exact h3 (j - a) b (by omega) (by rw [List.getElem?_drop, show a + (j - a) = j by omega]; exact hb)
      · exact h4 b (by omega) (by rw [List.getElem?_drop, show a + (m - 1) = a + m - 1 by omega]; exact hb)
  unfold trimS
  rw [hr]
  by_cases h0 : m = 0
  · subst h0; rw [if_pos rfl, List.take_zero, List.take_zero, trimLeftS_nil]
  · rw [if_neg h0]
    rw [trimLeftS_drop (l.take (a + m)) [32, 9] a (by rw [List.length_take]; omega) (fun j b hj hb => ?_) (fun b hb => ?_)]
    · rw [List.drop_take, show a + m - a = m by omega]
    · rw [List.getElem?_take_of_lt (by omega)] at hb; exact h1 j b hj hb
    · rw [List.getElem?_take_of_lt (by omega)] at hb; exact h2 b hb
/-- All that is told of bytes, by the document's loop: what is to come. -/
def told (skip : Bool) (s : List UInt8) : List Ev := (runA (if skip then .skip else .head) s).2.1
end Go.Proofs.YtlafcnmopclgiaaGreatDoor
