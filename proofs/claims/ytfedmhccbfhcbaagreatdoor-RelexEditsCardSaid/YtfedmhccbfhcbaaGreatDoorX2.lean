/-
  The tokens that end three bytes or more ahead of an edit stay; the others are those of what stands behind them (plainly).
-/
import Derived.Test.YtfedmhccbfhcbaaGreatDoorR
import Derived.Test.YtfedmhccbfhcbaaGreatDoorX1
namespace Go.Proofs.YtfedmhccbfhcbaaGreatDoor
open Go.RowKit

theorem keepN_cons (m : Nat) (t : Tok) (r : List Tok) : keepN m (t :: r) = if t.2.length + 3 ≤ m then keepN (m - t.2.length) r + 1 else 0 := rfl
theorem rune_loc (p a b : List UInt8) (hp : p ≠ []) (hv : valB (p ++ a) = true) (h : runeN (p ++ a) ≤ p.length) : runeN (p ++ b) = runeN (p ++ a) := by
  have hl : p ++ a ≠ [] := by simp [hp]
  obtain ⟨v1, _, v3, _⟩ := valB_head hl hv
  have hb := (rune_bd _ hl).1
  unfold OneRune at v3
  generalize runeN (p ++ a) = k at *
  rw [List.take_append_of_le_length h] at v1 v3
  have h0 : 0 < (⟨(p.take k).toArray⟩ : ByteArray).size := by rw [ba_size, List.length_take]; omega
  have hr := (Utf.rune_append ⟨(p.take k).toArray⟩ ⟨(p.drop k ++ b).toArray⟩ h0 (valid_first h0 v1)).2
  rw [← ba_app, ← List.append_assoc, List.take_append_drop] at hr
  have e1 : Utf.rn ⟨(p ++ b).toArray⟩ = runeN (p ++ b) := rfl
  have e2 : Utf.rn ⟨(p.take k).toArray⟩ = runeN (p.take k) := rfl
  rw [e1, e2, v3] at hr
  exact hr
theorem val_rest (l : List UInt8) (hl : l ≠ []) (hv : valB l = true) : valB (l.drop (cut l).2) = true := by
  have := valB_app (b := l.drop (cut l).2) (val_tok l hl hv)
  rw [List.take_append_drop, hv] at this; exact this.symm
/-- What stays, and what is cut again. -/
theorem toks_loc (a b : List UInt8) : ∀ (m : Nat) (p : List UInt8), p.length ≤ m → valB (p ++ a) = true →
    toks (p ++ b) = (toks (p ++ a)).take (keepN p.length (toks (p ++ a))) ++ toks ((p ++ b).drop (flatN ((toks (p ++ a)).take (keepN p.length (toks (p ++ a)))))) ∧
    valB (p ++ b) = valB ((p ++ b).drop (flatN ((toks (p ++ a)).take (keepN p.length (toks (p ++ a))))))
  | 0, p, hm, _ => by
    have : p = [] := List.length_eq_zero_iff.1 (by omega)
    subst this
    have : keepN ([] : List UInt8).length (toks ([] ++ a)) = 0 := by
      cases toks ([] ++ a) with
      | nil => rfl
      | cons t r => unfold keepN; rw [if_neg (by simp)]
    rw [this]
    exact ⟨rfl, rfl⟩
  | m + 1, p, hm, hv => by
    by_cases hp : p = []
    · subst hp
      exact toks_loc a b m [] (Nat.zero_le _) hv
    have hl : p ++ a ≠ [] := by simp [hp]
    have hl2 : p ++ b ≠ [] := by simp [hp]
    have hbd := cut_bd _ hl
    have hc := toks_cons _ hl
    have hv1 := val_tok _ hl hv
    have hv2 := val_rest _ hl hv
    by_cases h : (cut (p ++ a)).2 + 3 ≤ p.length
    · have hcl := cut_loc p a b h (fun h' => rune_loc p a b hp hv (by omega))
      have hc2 := toks_cons _ hl2
      rw [hcl] at hc2
      generalize cut (p ++ a) = c at *
      obtain ⟨k, n⟩ := c
      change n + 3 ≤ p.length at h
      change toks (p ++ a) = (k, (p ++ a).take n) :: toks ((p ++ a).drop n) at hc
      change toks (p ++ b) = (k, (p ++ b).take n) :: toks ((p ++ b).drop n) at hc2
      change valB ((p ++ a).take n) = true at hv1
      change valB ((p ++ a).drop n) = true at hv2
      change 0 < n ∧ n ≤ (p ++ a).length at hbd
      have t1 : ∀ x, (p ++ x).take n = p.take n := fun x => List.take_append_of_le_length (by omega)
      have t2 : ∀ x, (p ++ x).drop n = p.drop n ++ x := fun x => List.drop_append_of_le_length (by omega)
      rw [t1, t2] at hc hc2
      rw [t1] at hv1
      rw [t2] at hv2
      have hlen : (p.drop n).length = p.length - n := List.length_drop
      have hln : (p.take n).length = n := by rw [List.length_take]; omega
      have ih := toks_loc a b m (p.drop n) (by omega) hv2
      rw [hlen] at ih
      have hk : keepN p.length (toks (p ++ a)) = keepN (p.length - n) (toks (p.drop n ++ a)) + 1 := by
        rw [hc, keepN_cons, show (k, p.take n).2 = p.take n from rfl, hln, if_pos h]
      rw [hk, hc, List.take_succ_cons, flatN_cons, show (k, p.take n).2 = p.take n from rfl, hln, ← List.drop_drop, t2, hc2, List.cons_append]
      refine ⟨by rw [← ih.1], ?_⟩
      rw [← ih.2, ← t2]
      have := valB_app (b := (p ++ b).drop n) hv1
      rw [← t1 b, List.take_append_drop] at this
      exact this
    · have hk : keepN p.length (toks (p ++ a)) = 0 := by
        rw [hc, keepN_cons, show ((cut (p ++ a)).1, (p ++ a).take (cut (p ++ a)).2).2 = (p ++ a).take (cut (p ++ a)).2 from rfl, List.length_take, Nat.min_eq_left hbd.2, if_neg h]
      rw [hk]
      exact ⟨rfl, rfl⟩
end Go.Proofs.YtfedmhccbfhcbaaGreatDoor
