/-
  Plain facts: a character ahead of other bytes stays itself; what is put is read; the characters of two texts, one behind the other.
-/
import Derived.Test.YtfedmhccbfhcbaaGreatDoorPL
namespace Go.Proofs.YtfedmhccbfhcbaaGreatDoor.Utf
open Go.RowKit

theorem data_append (a b : ByteArray) : (a ++ b).data.toList = a.data.toList ++ b.data.toList := by simp
theorem size_append (a b : ByteArray) : (a ++ b).size = a.size + b.size := by
  rw [Lib.size_eq, Lib.size_eq, Lib.size_eq, data_append, List.length_append]
theorem get!_append (a b : ByteArray) (i : Nat) (h : i < a.size) : (a ++ b).get! i = a.get! i := by
  have h1 := get!_list (a ++ b) i (by rw [size_append]; omega)
  rw [data_append, List.getElem?_append_left (by rw [← Lib.size_eq]; exact h), get!_list a i h] at h1
  exact (Option.some.inj h1).symm

/-- A first character that is no stray byte stays itself whatever follows. -/
theorem rune_append (t b : ByteArray) (h : 0 < t.size) (hp : 0 ≤ rp t) : rp (t ++ b) = rp t ∧ rn (t ++ b) = rn t := by
  have hz := size_append t b
  have g0 := get!_append t b 0 h
  have l0 := (t.get! 0).toNat_lt
  have k' := rune_kinds (t ++ b) (by omega)
  rw [g0, hz] at k'
  rcases rune_kinds t h with ⟨h1, h2, h3⟩ | ⟨h1, h2, h3, h4⟩ | ⟨h1, h2, h3, h4, h5⟩ | ⟨h1, h2, h3, h4, h5, h6⟩ | ⟨h1, h2, h3, h4, h5, h6⟩
  · rcases k' with ⟨i1, i2, i3⟩ | ⟨i1, _⟩ | ⟨i1, _⟩ | ⟨i1, _⟩ | ⟨i1, _⟩
    · exact ⟨by rw [i2, h2], by rw [i3, h3]⟩
    all_goals omega
  · rw [get!_append t b 1 (by unfold K2 at h2; omega)] at k'
    have hk : K2 (t.size + b.size) (t.get! 0).toNat (t.get! 1).toNat := by unfold K2 at *; omega
    rcases k' with ⟨i1, _⟩ | ⟨i1, i2, i3, i4⟩ | ⟨i1, i2, _⟩ | ⟨i1, i2, _⟩ | ⟨i1, i2, _⟩
    · omega
    · exact ⟨by rw [i3, h3], by rw [i4, h4]⟩
    all_goals exact absurd hk i2
  · rw [get!_append t b 1 (by unfold K3 at h3; omega), get!_append t b 2 (by unfold K3 at h3; omega)] at k'
    have hk : K3 (t.size + b.size) (t.get! 0).toNat (t.get! 1).toNat (t.get! 2).toNat := by unfold K3 at *; omega
    rcases k' with ⟨i1, _⟩ | ⟨i1, i2, _⟩ | ⟨i1, i2, i3, i4, i5⟩ | ⟨i1, i2, i3, _⟩ | ⟨i1, i2, i3, _⟩
    · omega
    · unfold K2 at i2; unfold K3 at hk; omega
    · exact ⟨by rw [i4, h4], by rw [i5, h5]⟩
    all_goals exact absurd hk i3
  · rw [get!_append t b 1 (by unfold K4 at h4; omega), get!_append t b 2 (by unfold K4 at h4; omega), get!_append t b 3 (by unfold K4 at h4; omega)] at k'
    have hk : K4 (t.size + b.size) (t.get! 0).toNat (t.get! 1).toNat (t.get! 2).toNat (t.get! 3).toNat := by unfold K4 at *; omega
    rcases k' with ⟨i1, _⟩ | ⟨i1, i2, _⟩ | ⟨i1, i2, i3, _⟩ | ⟨i1, i2, i3, i4, i5, i6⟩ | ⟨i1, i2, i3, i4, _⟩
    · omega
    · unfold K2 at i2; unfold K4 at hk; omega
    · unfold K3 at i3; unfold K4 at hk; omega
    · exact ⟨by rw [i5, h5], by rw [i6, h6]⟩
    · exact absurd hk i4
  · omega

theorem get!_append_right (a b : ByteArray) (i : Nat) (h : a.size ≤ i) (h2 : i < a.size + b.size) : (a ++ b).get! i = b.get! (i - a.size) := by
  have h1 := get!_list (a ++ b) i (by rw [size_append]; omega)
  rw [data_append, List.getElem?_append_right (by rw [← Lib.size_eq]; exact h), ← Lib.size_eq, get!_list b (i - a.size) (by omega)] at h1
  exact (Option.some.inj h1).symm
theorem get!_past (s : ByteArray) (i : Nat) (h : s.size ≤ i) : (s.get! i).toNat = 0 := by
  cases s with
  | mk d => rw [show (ByteArray.mk d).get! i = d[i]! from rfl, getElem!_neg d i (by have h' : d.size ≤ i := h; omega)]; rfl

/-- The letter x behind a text changes no first character. -/
theorem rune_x (t : ByteArray) (h : 0 < t.size) : rp (t ++ ⟨#[120]⟩) = rp t ∧ rn (t ++ ⟨#[120]⟩) = rn t := by
  by_cases hp : 0 ≤ rp t
  · exact rune_append t _ h hp
  · have hz : (t ++ ⟨#[120]⟩).size = t.size + 1 := size_append t _
    have g0 := get!_append t ⟨#[120]⟩ 0 h
    have gx : (t ++ ⟨#[120]⟩).get! t.size = 120 := by
      rw [get!_append_right t _ t.size (Nat.le_refl _) (Nat.lt_succ_self _), Nat.sub_self]; rfl
    have gi : ∀ i, i < 4 → i < t.size → (t ++ ⟨#[120]⟩).get! i = t.get! i := fun i _ hi => get!_append t _ i hi
    have gt : ∀ i, ((t ++ ⟨#[120]⟩).get! i).toNat = if i < t.size then (t.get! i).toNat else if i = t.size then 120 else 0 := fun i => by
      by_cases h1 : i < t.size
      · rw [if_pos h1, get!_append t _ i h1]
      · rw [if_neg h1]
        by_cases h2 : i = t.size
        · rw [if_pos h2, h2, gx]; rfl
        · rw [if_neg h2, get!_past _ i (by omega)]
    have k' := rune_kinds (t ++ ⟨#[120]⟩) (by omega)
    rw [g0, hz] at k'
    rcases rune_kinds t h with ⟨h1, h2, h3⟩ | ⟨h1, h2, h3, h4⟩ | ⟨h1, h2, h3, h4, h5⟩ | ⟨h1, h2, h3, h4, h5, h6⟩ | ⟨h1, h2, h3, h4, h5, h6⟩
    · omega
    · omega
    · omega
    · omega
    · have t1 := gt 1
      have t2 := gt 2
      have t3 := gt 3
      rcases k' with ⟨i1, _⟩ | ⟨i1, i2, _⟩ | ⟨i1, i2, i3, _⟩ | ⟨i1, i2, i3, i4, _⟩ | ⟨i1, i2, i3, i4, i5, i6⟩
      · omega
      · exfalso
        by_cases z : 1 < t.size
        · rw [if_pos z] at t1; unfold K2 at *; omega
        · rw [if_neg z, if_pos (by omega)] at t1; unfold K2 at *; omega
      · exfalso
        by_cases z : 2 < t.size
        · rw [if_pos (by omega)] at t1; rw [if_pos z] at t2; unfold K3 at *; rw [t1, t2] at i3; omega
        · by_cases z2 : 2 = t.size
          · rw [if_neg z, if_pos z2] at t2; unfold K3 at *; omega
          · rw [if_neg (by omega), if_pos (by omega)] at t1; unfold K3 at *; omega
      · exfalso
        by_cases z : 3 < t.size
        · rw [if_pos (by omega)] at t1; rw [if_pos (by omega)] at t2; rw [if_pos z] at t3; unfold K4 at *; rw [t1, t2, t3] at i4; omega
        · rcases (by omega : t.size = 3 ∨ t.size = 2 ∨ t.size = 1) with z2 | z2 | z2
          · rw [if_neg z, if_pos (by omega)] at t3; unfold K4 at *; omega
          · rw [if_neg (by omega), if_pos (by omega)] at t2; unfold K4 at *; omega
          · rw [if_neg (by omega), if_pos (by omega)] at t1; unfold K4 at *; omega
      · exact ⟨by rw [i5, h5], by rw [i6, h6]⟩

/-! ### the characters of two texts -/
def shift (m : Nat) (xs : List (Nat × ByteArray)) : List (Nat × ByteArray) := xs.map fun x => (m + x.1, x.2)

theorem extract_append_left (a b : ByteArray) (i j : Nat) (h : j ≤ a.size) : (a ++ b).extract i j = a.extract i j := by
  apply ba_ext
  rw [extract_list, extract_list, data_append, List.take_append_of_le_length (by rw [← Lib.size_eq]; exact h)]
theorem extract_append_over (a b : ByteArray) (i : Nat) (h : i ≤ a.size) : (a ++ b).extract i (a ++ b).size = a.extract i a.size ++ b := by
  apply ba_ext
  have h1 : (a ++ b).data.toList.length = (a ++ b).size := (Lib.size_eq _).symm
  have h2 : a.data.toList.length = a.size := (Lib.size_eq _).symm
  rw [extract_list, data_append, data_append, extract_list, List.take_of_length_le (by rw [← data_append]; omega), List.take_of_length_le (by omega), List.drop_append_of_le_length (by omega)]
theorem extract_append_right (a b : ByteArray) (i j : Nat) : (a ++ b).extract (a.size + i) (a.size + j) = b.extract i j := by
  apply ba_ext
  have h2 : a.data.toList.length = a.size := (Lib.size_eq _).symm
  rw [extract_list, data_append, extract_list, ← h2, List.take_length_add_append, List.drop_length_add_append]

theorem seqF_right (a b : ByteArray) : ∀ (f k : Nat), seqF f (a ++ b) (a.size + k) = shift a.size (seqF f b k)
  | 0, _ => rfl
  | f + 1, k => by
    have hz := size_append a b
    by_cases h : k < b.size
    · have he : (a ++ b).extract (a.size + k) (a ++ b).size = b.extract k b.size := by rw [hz]; exact extract_append_right a b k b.size
      rw [seqF, seqF, if_pos (by omega), if_pos h, he, Nat.add_assoc, extract_append_right, seqF_right a b f]
      rfl
    · rw [seqF, seqF, if_neg (by omega), if_neg h]; rfl
theorem seqF_fuel : ∀ (f g : Nat) (s : ByteArray) (k : Nat), s.size ≤ k + f → s.size ≤ k + g → seqF f s k = seqF g s k
  | 0, g, s, k, h, _ => by rw [seqF_end 0 s k (by omega), seqF_end g s k (by omega)]
  | f + 1, 0, s, k, _, h => by rw [seqF_end (f + 1) s k (by omega), seqF_end 0 s k (by omega)]
  | f + 1, g + 1, s, k, hf, hg => by
    by_cases h : k < s.size
    · have := (char_facts s k h).1
      rw [seqF, seqF, if_pos h, if_pos h, seqF_fuel f g s _ (by omega) (by omega)]
    · rw [seqF_end _ s k h, seqF_end _ s k h]

/-- If each character of a stays itself ahead of b, the characters are those of a, then those of b. -/
theorem seqF_two (a b : ByteArray) : ∀ (f k : Nat), k ≤ a.size → (a ++ b).size ≤ k + f →
    (∀ i, k ≤ i → i < a.size → (∃ g, (i, a.extract i (i + rn (a.extract i a.size))) ∈ seqF g a k) → rn (a.extract i a.size ++ b) = rn (a.extract i a.size)) →
    seqF f (a ++ b) k = seqF f a k ++ shift a.size (seqB b)
  | 0, k, hk, hf, _ => by
    have hz := size_append a b
    have hb : b.size = 0 := by omega
    rw [seqF_end 0 _ k (by omega), seqF_end 0 a k (by omega), seqB, hb]; rfl
  | f + 1, k, hk, hf, hr => by
    have hz := size_append a b
    by_cases h : k < a.size
    · obtain ⟨c1, c2, c3, c4, _, _⟩ := char_facts a k h
      have hn := hr k (Nat.le_refl _) h ⟨1, by rw [seqF, if_pos h]; exact .head _⟩
      rw [seqF, if_pos (by omega), extract_append_over a b k (by omega), hn, extract_append_left a b k _ c3]
      rw [seqF_two a b f _ c3 (by omega) (fun i h1 h2 ⟨g, hg⟩ => hr i (by omega) h2 ⟨g + 1, by rw [seqF, if_pos h]; exact .tail _ hg⟩)]
      rw [show seqF (f + 1) a k = (k, a.extract k (k + rn (a.extract k a.size))) :: seqF f a (k + rn (a.extract k a.size)) by rw [seqF, if_pos h], List.cons_append]
    · obtain rfl : k = a.size := by omega
      rw [seqF_end (f + 1) a a.size (by omega), List.nil_append]
      exact (seqF_right a b (f + 1) 0).trans (by rw [seqB, seqF_fuel (f + 1) b.size b 0 (by omega) (by omega)])

theorem mem_seqF : ∀ (g : Nat) (s : ByteArray) (k : Nat) (x : Nat × ByteArray), x ∈ seqF g s k → k ≤ x.1 ∧ x.1 < s.size ∧ x.2 = s.extract x.1 (x.1 + rn (s.extract x.1 s.size))
  | 0, _, _, _, h => by cases h
  | g + 1, s, k, x, h => by
    by_cases hk : k < s.size
    · rw [seqF, if_pos hk] at h
      rcases List.mem_cons.1 h with rfl | h
      · exact ⟨Nat.le_refl _, hk, rfl⟩
      · obtain ⟨h1, h2, h3⟩ := mem_seqF g s _ x h
        exact ⟨by omega, h2, h3⟩
    · rw [seqF, if_neg hk] at h; cases h
theorem seqF_mono : ∀ (f g : Nat) (s : ByteArray) (k : Nat), s.size ≤ k + f → ∀ x ∈ seqF g s k, x ∈ seqF f s k
  | f, 0, _, _, _, _, h => by cases h
  | 0, g + 1, s, k, hf, x, h => by rw [seqF_end (g + 1) s k (by omega)] at h; cases h
  | f + 1, g + 1, s, k, hf, x, h => by
    by_cases hk : k < s.size
    · have := (char_facts s k hk).1
      rw [seqF, if_pos hk] at h ⊢
      rcases List.mem_cons.1 h with rfl | h
      · exact .head _
      · exact .tail _ (seqF_mono f g s _ (by omega) x h)
    · rw [seqF, if_neg hk] at h; cases h
theorem stray_neg (s : ByteArray) (i : Nat) (h : i < s.size) : strayB (s.extract i (i + rn (s.extract i s.size))) = false → 0 ≤ rp (s.extract i s.size) := fun hs => by
  rw [(char_facts s i h).2.2.2.2.2] at hs
  have := of_decide_eq_false hs
  omega

theorem seqB_two (a b : ByteArray) (hv : validS a = true) : seqB (a ++ b) = seqB a ++ shift a.size (seqB b) := by
  have hz := size_append a b
  unfold seqB
  rw [seqF_two a b _ 0 (by omega) (by omega), seqF_fuel (a ++ b).size a.size a 0 (by omega) (by omega)]
  · rfl
  · intro i _ hi ⟨g, hg⟩
    have hm := seqF_mono a.size g a 0 (by omega) _ hg
    have hs : strayB (a.extract i (i + rn (a.extract i a.size))) = false := by
      have := List.all_eq_true.1 hv _ hm
      simpa using this
    exact (rune_append _ b (by rw [size_extract a i a.size (Nat.le_refl _)]; omega) (stray_neg a i hi hs)).2
theorem seqB_x (a : ByteArray) : seqB (a ++ ⟨#[120]⟩) = seqB a ++ shift a.size (seqB ⟨#[120]⟩) := by
  have hz := size_append a ⟨#[120]⟩
  unfold seqB
  rw [seqF_two a _ _ 0 (by omega) (by omega), seqF_fuel (a ++ ⟨#[120]⟩).size a.size a 0 (by omega) (by omega)]
  · rfl
  · intro i _ hi _
    exact (rune_x _ (by rw [size_extract a i a.size (Nat.le_refl _)]; omega)).2

theorem okAll_append (xs ys : List (Nat × ByteArray)) : okAll (xs ++ ys) = (okAll xs && okAll ys) := by simp [okAll]
theorem okAll_shift (m : Nat) (xs : List (Nat × ByteArray)) : okAll (shift m xs) = okAll xs := by simp [okAll, shift, Function.comp_def]
theorem uN_shift (m : Nat) (xs : List (Nat × ByteArray)) : uN (shift m xs) = uN xs := by simp [uN, shift, Function.comp_def]
theorem valid_two (a b : ByteArray) (hv : validS a = true) : validS (a ++ b) = validS b := by
  unfold validS at *
  rw [seqB_two a b hv, okAll_append, okAll_shift, hv, Bool.true_and]
theorem valid_x (a : ByteArray) (hv : validS a = false) : validS (a ++ ⟨#[120]⟩) = false := by
  unfold validS at *
  rw [seqB_x, okAll_append, hv, Bool.false_and]
theorem uN_two (a b : ByteArray) (hv : validS a = true) : uN (seqB (a ++ b)) = uN (seqB a) + uN (seqB b) := by
  rw [seqB_two a b hv, uN_append, uN_shift]
end Go.Proofs.YtfedmhccbfhcbaaGreatDoor.Utf
