/-
  JSON, plainly: progress, fuel; items, members and a String's body step by step. No model in it.
-/
import Derived.Test.YtgcpgieojckheaaGreatDoorMgJA
namespace Go.Proofs.YtgcpgieojckheaaGreatDoor.Json
open Go.Proofs.YtgcpgieojckheaaGreatDoor

/- progress -/
theorem skip_skip (l : List UInt8) : skip (skip l) = skip l := by
  unfold skip
  induction l with
  | nil => rfl
  | cons c r ih =>
    by_cases h : isBlank c = true
    · simpa [h] using ih
    · have h' : isBlank c = false := by simpa using h
      simp [h']
theorem skip_len (l : List UInt8) : (skip l).length ≤ l.length := by
  unfold skip; exact (List.dropWhile_suffix _).length_le
theorem unit4_len {l r : List UInt8} {a : Nat} (h : unit4 l = some (a, r)) : r.length + 4 = l.length := by
  unfold unit4 at h
  split at h
  · split at h
    · cases h; simp
    · cases h
  · cases h
theorem units_tail (a : Nat) (r1 : List UInt8) {t r : List UInt8} (h : (match (generalizing := false) r1 with
      | 92 :: 117 :: r2 =>
        match unit4 r2 with
        | none => none
        | some (b, r3) => if Utf.pairQ a b then some ((Utf.putB (Utf.pairP a b)).data.toList, r3) else none
      | _ => none) = some (t, r)) : r.length < r1.length := by
  by_cases hq : ∃ r2, r1 = 92 :: 117 :: r2
  · obtain ⟨r2, rfl⟩ := hq
    simp only at h
    cases h3 : unit4 r2 with
    | none => rw [h3] at h; cases h
    | some p =>
      obtain ⟨b, r3⟩ := p
      rw [h3] at h
      have l3 := unit4_len h3
      simp only at h
      by_cases hb : Utf.pairQ a b = true
      · rw [if_pos hb] at h
        injection h with h
        injection h with _ h
        subst h
        simp only [List.length_cons]; omega
      · rw [if_neg hb] at h; cases h
  · have hn : ∀ r2, r1 ≠ 92 :: 117 :: r2 := fun r2 e => hq ⟨r2, e⟩
    split at h
    · exact absurd rfl (hn _)
    · cases h
theorem units_len {l r : List UInt8} {t : List UInt8} (h : units l = some (t, r)) : r.length < l.length := by
  unfold units at h
  cases h1 : unit4 l with
  | none => rw [h1] at h; cases h
  | some p =>
    obtain ⟨a, r1⟩ := p
    rw [h1] at h
    have l1 := unit4_len h1
    simp only at h
    by_cases hp : (Utf.putB (a : Int)).size ≠ 0
    · rw [if_pos hp] at h
      injection h with h
      injection h with _ h
      subst h; omega
    · rw [if_neg hp] at h
      have := units_tail a r1 h
      omega
theorem escR_len {l r : List UInt8} {t : List UInt8} (h : escR l = some (t, r)) : r.length < l.length := by
  unfold escR at h
  split at h
  · cases h
  · split at h
    · cases h; simp
    · split at h
      · have := units_len h; simp only [List.length_cons]; omega
      · cases h
theorem body_len : ∀ (f : Nat) {l r t : List UInt8}, body f l = some (t, r) → r.length < l.length
  | 0, l, r, t, h => by unfold body at h; cases h
  | f + 1, [], r, t, h => by unfold body at h; cases h
  | f + 1, c :: l, r, t, h => by
    unfold body at h
    split at h
    · cases h; simp
    · split at h
      · split at h
        · cases h
        · rename_i t2 r2 h2
          have l2 := escR_len h2
          split at h
          · cases h
          · rename_i u r3 h3
            have l3 := body_len f h3
            cases h
            simp only [List.length_cons]; omega
      · split at h
        · cases h
        · split at h
          · cases h
          · rename_i u r3 h3
            have l3 := body_len f h3
            cases h
            simp only [List.length_cons]; omega
theorem quoted_len {l r t : List UInt8} (h : quoted l = some (t, r)) : r.length < l.length := by
  unfold quoted at h
  split at h
  · split at h
    · cases h
    · rename_i h2
      have := body_len _ h2
      split at h
      · cases h; simp only [List.length_cons]; omega
      · cases h
  · cases h
/-- The fuel of a String's reading does not matter. -/
theorem body_fuel : ∀ (f g : Nat) (l : List UInt8), l.length < f → l.length < g → body f l = body g l
  | 0, _, l, h, _ => absurd h (Nat.not_lt_zero _)
  | _ + 1, 0, l, _, h => absurd h (Nat.not_lt_zero _)
  | f + 1, g + 1, [], _, _ => by unfold body; rfl
  | f + 1, g + 1, c :: l, hf, hg => by
    simp only [List.length_cons] at hf hg
    unfold body
    by_cases h1 : c = 34
    · rw [if_pos h1, if_pos h1]
    · rw [if_neg h1, if_neg h1]
      by_cases h2 : c = 92
      · rw [if_pos h2, if_pos h2]
        cases h3 : escR l with
        | none => rfl
        | some p =>
          obtain ⟨t, r2⟩ := p
          have := escR_len h3
          simp only
          rw [body_fuel f g r2 (by omega) (by omega)]
      · rw [if_neg h2, if_neg h2, body_fuel f g l (by omega) (by omega)]
def isPlain (c : UInt8) : Bool := decide (32 ≤ c.toNat) && (c != 34 && c != 92)
def bodyA (l : List UInt8) : Option (List UInt8 × List UInt8) := body (l.length + 1) l
def pre2 (p : List UInt8) : Option (List UInt8 × List UInt8) → Option (List UInt8 × List UInt8)
  | none => none
  | some (u, r) => some (p ++ u, r)
theorem pre2_pre (p q : List UInt8) (g : Option (List UInt8 × List UInt8)) : pre2 p (pre2 q g) = pre2 (p ++ q) g := by
  cases g with
  | none => rfl
  | some x => obtain ⟨u, r⟩ := x; simp [pre2]
theorem pre2_nil (g : Option (List UInt8 × List UInt8)) : pre2 [] g = g := by
  cases g with
  | none => rfl
  | some x => rfl
theorem bodyA_nil : bodyA [] = none := rfl
theorem bodyA_quote (r : List UInt8) : bodyA (34 :: r) = some ([], r) := by unfold bodyA; unfold body; rw [if_pos rfl]
theorem bodyA_esc (r : List UInt8) : bodyA (92 :: r) = match escR r with | none => none | some (t, r2) => pre2 t (bodyA r2) := by
  unfold bodyA
  rw [body, if_neg (by decide), if_pos rfl]
  cases h : escR r with
  | none => rfl
  | some x =>
    obtain ⟨t, r2⟩ := x
    have := escR_len h
    simp only
    rw [List.length_cons, body_fuel (r.length + 1) (r2.length + 1) r2 (by omega) (by omega)]
    cases body (r2.length + 1) r2 with
    | none => rfl
    | some x => rfl
theorem bodyA_low (c : UInt8) (r : List UInt8) (h : c.toNat < 32) : bodyA (c :: r) = none := by
  have h1 : c ≠ 34 := fun e => by subst e; exact absurd h (by decide)
  have h2 : c ≠ 92 := fun e => by subst e; exact absurd h (by decide)
  unfold bodyA
  rw [body, if_neg h1, if_neg h2, if_pos h]
theorem bodyA_one (c : UInt8) (r : List UInt8) (h : isPlain c = true) : bodyA (c :: r) = pre2 [c] (bodyA r) := by
  unfold isPlain at h
  simp only [Bool.and_eq_true, decide_eq_true_eq, bne_iff_ne, ne_eq] at h
  unfold bodyA
  rw [body, if_neg h.2.1, if_neg h.2.2, if_neg (by omega), List.length_cons]
  cases body (r.length + 1) r with
  | none => rfl
  | some x => rfl
theorem bodyA_plain : ∀ l : List UInt8, bodyA l = pre2 (l.takeWhile isPlain) (bodyA (l.dropWhile isPlain))
  | [] => rfl
  | c :: r => by
    by_cases h : isPlain c = true
    · rw [bodyA_one c r h, bodyA_plain r, List.takeWhile_cons, if_pos h, List.dropWhile_cons, if_pos h, pre2_pre]; rfl
    · rw [List.takeWhile_cons, if_neg h, List.dropWhile_cons, if_neg h, pre2_nil]
/-- Behind a plain run: what is neither a quote nor a backslash is wrong. -/
theorem bodyA_else (l : List UInt8) (h1 : ∀ r, l.dropWhile isPlain ≠ 34 :: r) (h2 : ∀ r, l.dropWhile isPlain ≠ 92 :: r) : bodyA l = none := by
  rw [bodyA_plain]
  cases h : l.dropWhile isPlain with
  | nil => rfl
  | cons c r =>
    rw [h] at h1 h2
    have hc : isPlain c = false := by
      have := List.head_dropWhile_not isPlain (l := l) (by rw [h]; simp)
      simpa [h] using this
    have n1 : c ≠ 34 := fun e => h1 r (by rw [e])
    have n2 : c ≠ 92 := fun e => h2 r (by rw [e])
    unfold isPlain at hc
    have : c.toNat < 32 := by
      simp only [Bool.and_eq_false_iff, decide_eq_false_iff_not, bne_eq_false_iff_eq] at hc
      rcases hc with hc | hc | hc
      · omega
      · exact absurd hc n1
      · exact absurd hc n2
    rw [bodyA_low c r this]; rfl
theorem quoted_at (r : List UInt8) : quoted (34 :: r) = match bodyA r with | none => none | some (t, r2) => if Utf.validS ⟨t.toArray⟩ then some (t, r2) else none := rfl
theorem quoted_not (l : List UInt8) (h : ∀ r, l ≠ 34 :: r) : quoted l = none := by
  unfold quoted
  split
  · rename_i r; exact absurd rfl (h r)
  · rfl
end Go.Proofs.YtgcpgieojckheaaGreatDoor.Json
