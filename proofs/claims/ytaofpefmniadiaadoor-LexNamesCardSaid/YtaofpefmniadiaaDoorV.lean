/-
  Tokens with a line's end between each two (plainly).
-/
import Derived.Test.YtaofpefmniadiaaDoorT
namespace Go.Proofs.YtaofpefmniadiaaDoor
open Go.RowKit

def nlT : Tok := (1, [10])
def interT : List Tok → List Tok
  | [] => []
  | t :: r => match r with
    | [] => [t]
    | _ :: _ => t :: nlT :: interT r
def interS : List Tok → List UInt8
  | [] => []
  | t :: r => match r with
    | [] => t.2
    | _ :: _ => t.2 ++ 10 :: interS r
theorem interT_snoc : ∀ (l : List Tok) (t : Tok), interT (l ++ [t]) = if l = [] then [t] else interT l ++ [nlT, t]
  | [], t => rfl
  | [a], t => rfl
  | a :: b :: r, t => by
    have ih := interT_snoc (b :: r) t
    rw [if_neg (by simp)] at ih
    rw [if_neg (by simp)]
    show a :: nlT :: interT ((b :: r) ++ [t]) = a :: nlT :: (interT (b :: r) ++ [nlT, t])
    rw [ih]
theorem interS_snoc : ∀ (l : List Tok) (t : Tok), interS (l ++ [t]) = if l = [] then t.2 else interS l ++ 10 :: t.2
  | [], t => rfl
  | [a], t => rfl
  | a :: b :: r, t => by
    have ih := interS_snoc (b :: r) t
    rw [if_neg (by simp)] at ih
    rw [if_neg (by simp)]
    show a.2 ++ 10 :: interS ((b :: r) ++ [t]) = (a.2 ++ 10 :: interS (b :: r)) ++ 10 :: t.2
    rw [ih]; simp
/-- A text that is one token, no Blank, and no remark without an end. -/
def GoodT (t : Tok) : Prop := t.2 ≠ [] ∧ valB t.2 = true ∧ cut t.2 = (t.1, t.2.length) ∧ t.1 ≠ 1 ∧ ¬ (t.1 = 9 ∧ opens t.2 = true)
theorem one_of {x : List UInt8} (h : oneE x = 0) : (oneT x).2 = x ∧ x ≠ [] ∧ valB x = true ∧ cut x = ((oneT x).1, x.length) := by
  have hT : oneT x = (toks x).headD (0, []) := by unfold oneT; rw [if_pos h]
  unfold oneE at h
  by_cases h0 : tokE x = 0
  · rw [if_pos h0] at h
    by_cases hl : (toks x).length = 1
    · obtain ⟨t, ht⟩ := List.length_eq_one_iff.1 hl
      rw [ht] at hT
      have hT' : oneT x = t := hT
      have hne : x ≠ [] := by intro e; rw [e, toks_nil] at ht; cases ht
      have hb := cut_bd x hne
      have hc := toks_cons x hne
      rw [ht] at hc
      injection hc with hc1 hc2
      have hn : (cut x).2 = x.length := by
        apply Nat.le_antisymm hb.2
        apply Nat.le_of_not_lt; intro hlt
        have : x.drop (cut x).2 ≠ [] := by intro e; have := congrArg List.length e; rw [List.length_drop, List.length_nil] at this; omega
        rw [toks_cons _ this] at hc2; cases hc2
      have ht2 : t.2 = x := by rw [hc1, hn]; exact List.take_length
      rw [hT']
      exact ⟨ht2, hne, (tokE_zero h0).2, by rw [hc1, ← hn]⟩
    · rw [if_neg hl] at h; cases h
  · rw [if_neg h0] at h; exact absurd h h0
theorem good_of {x : List UInt8} (h : oneE x = 0) (h1 : (oneT x).1 ≠ 1) (h2 : ¬ ((oneT x).1 = 9 ∧ opens x = true)) : GoodT ((oneT x).1, x) := by
  obtain ⟨a, b, c, d⟩ := one_of h
  exact ⟨b, c, d, h1, h2⟩
theorem one_kind {x : List UInt8} (h : oneE x = 0) : (oneT x).1 ≤ 9 := by
  have := cut_kind x
  rw [(one_of h).2.2.2] at this; exact this
theorem head_low {t : Tok} (h : GoodT t) : ∃ c r, t.2 = c :: r ∧ blankB c = false := by
  obtain ⟨h1, _, h3, h4, _⟩ := h
  cases ht : t.2 with
  | nil => exact absurd ht h1
  | cons c r =>
    refine ⟨c, r, rfl, ?_⟩
    apply Classical.byContradiction; intro hb
    rw [ht] at h3
    have : cut (c :: r) = (1, lead blankB (c :: r)) := by
      show cutC c r = _
      unfold cutC; rw [if_pos (by simpa using hb)]
    rw [this] at h3
    injection h3 with h5 _
    exact h4 h5.symm
theorem inter_head : ∀ (l : List Tok), l ≠ [] → (∀ t ∈ l, GoodT t) → ∃ c r, interS l = c :: r ∧ blankB c = false
  | [], h, _ => absurd rfl h
  | [a], _, h => head_low (h a (by simp))
  | a :: b :: r, _, h => by
    obtain ⟨c, q, e, hc⟩ := head_low (h a (by simp))
    refine ⟨c, q ++ 10 :: interS (b :: r), ?_, hc⟩
    show a.2 ++ 10 :: interS (b :: r) = _
    rw [e]; rfl
theorem rune_more {t : List UInt8} (r : List UInt8) (h : t ≠ []) (hv : valB t = true) : runeN (t ++ r) = runeN t := by
  have hz := ba_size t
  have h0 : 0 < (⟨t.toArray⟩ : ByteArray).size := by rw [hz]; exact List.length_pos_iff.2 h
  have := (Utf.rune_append ⟨t.toArray⟩ ⟨r.toArray⟩ h0 (valid_first h0 hv)).2
  rw [← ba_app] at this
  exact this
theorem toks_nl {R : List UInt8} {c : UInt8} {r : List UInt8} (h : R = c :: r) (hc : blankB c = false) : toks (10 :: R) = nlT :: toks R := by
  have e : cut (10 :: R) = (1, 1) := by
    show cutC 10 R = _
    unfold cutC
    rw [if_pos (by decide), lead_cons, if_pos (by decide), h, lead_zero _ _ _ hc]
  rw [toks_cons _ (by simp), e]; rfl
theorem inter_toks : ∀ (l : List Tok), (∀ t ∈ l, GoodT t) → toks (interS l) = interT l ∧ valB (interS l) = true
  | [], _ => ⟨rfl, rfl⟩
  | [a], h => by
    obtain ⟨h1, h2, h3, h4, h5⟩ := h a (by simp)
    refine ⟨?_, h2⟩
    show toks a.2 = [a]
    rw [toks_cons _ h1, h3, List.take_length, List.drop_length, toks_nil]
  | a :: b :: r, h => by
    obtain ⟨h1, h2, h3, h4, h5⟩ := h a (by simp)
    have ih := inter_toks (b :: r) (fun t ht => h t (by simp [ht]))
    obtain ⟨c, q, e, hc⟩ := inter_head (b :: r) (by simp) (fun t ht => h t (by simp [ht]))
    have hcut : cut (a.2 ++ 10 :: interS (b :: r)) = (a.1, a.2.length) := by
      rw [cut_more a.2 (interS (b :: r)) h1 (by rw [h3]; exact h4) (by rw [h3]; exact h5) (rune_more _ h1 h2), h3]
    refine ⟨?_, ?_⟩
    · show toks (a.2 ++ 10 :: interS (b :: r)) = a :: nlT :: interT (b :: r)
      rw [toks_cons _ (by simp [h1]), hcut, List.take_left, List.drop_left, toks_nl e hc, ih.1]
    · show valB (a.2 ++ 10 :: interS (b :: r)) = true
      rw [valB_app h2, show (10 : UInt8) :: interS (b :: r) = [10] ++ interS (b :: r) from rfl, valB_app (by rfl)]
      exact ih.2
theorem inter_len : ∀ (l : List Tok), (∀ t ∈ l, t.2.length ≤ 300) → (interS l).length ≤ 301 * l.length ∧ (interT l).length ≤ 2 * l.length
  | [], _ => ⟨Nat.le_refl _, Nat.le_refl _⟩
  | [a], h => by
    have := h a (by simp)
    exact ⟨by show a.2.length ≤ 301 * 1; omega, by show 1 ≤ 2 * 1; omega⟩
  | a :: b :: r, h => by
    have h1 := h a (by simp)
    have ih := inter_len (b :: r) (fun t ht => h t (by simp [ht]))
    refine ⟨?_, ?_⟩
    · show (a.2 ++ 10 :: interS (b :: r)).length ≤ 301 * ((b :: r).length + 1)
      rw [List.length_append, List.length_cons]; omega
    · show (interT (b :: r)).length + 1 + 1 ≤ 2 * ((b :: r).length + 1)
      omega
theorem opens_two {x : List UInt8} : opens x = (decide (1 < x.length) && (x.take 2 == [40, 42])) := by
  rw [Bool.eq_iff_iff, Bool.and_eq_true, decide_eq_true_eq, beq_iff_eq]
  have h2 : opens x = true ↔ x.take 2 = [40, 42] := by
    unfold opens
    rw [two_pre [40, 42] x rfl, beq_iff_eq]
  rw [h2]
  refine ⟨fun h => ⟨?_, h⟩, fun h => h.2⟩
  have := congrArg List.length h
  rw [List.length_take] at this
  simp at this; omega
end Go.Proofs.YtaofpefmniadiaaDoor
