/-
  Plain facts on the lines of a text.
-/
import Derived.Test.YtfhkahnajjbohaaDoorQ
namespace Go.Proofs.YtfhkahnajjbohaaDoor
open Go.RowKit Go.Shelf

def eol (c : UInt8) : Prop := c = 13 ∨ c = 10

theorem indexAny_neg : ∀ (l : List UInt8), Lib.indexAny l [13, 10] < 0 → ∀ c ∈ l, ¬ eol c
  | [], _, c, hc => by cases hc
  | b :: l, h, c, hc => by
    unfold Lib.indexAny at h
    split at h
    · omega
    · rename_i hb
      split at h
      · rename_i hn
        rcases List.mem_cons.1 hc with rfl | hc
        · rintro (rfl | rfl) <;> simp at hb
        · exact indexAny_neg l (by rw [beq_iff_eq] at hn; omega) c hc
      · rename_i hn
        have := Lib.indexAny_ge [13, 10] l
        simp only [beq_iff_eq] at hn
        omega
theorem indexAny_at : ∀ (l : List UInt8) (i : Nat), Lib.indexAny l [13, 10] = (i : Int) → (∃ c, l[i]? = some c ∧ eol c) ∧ ∀ j c, j < i → l[j]? = some c → ¬ eol c
  | [], i, h => by simp [Lib.indexAny] at h
  | b :: l, i, h => by
    unfold Lib.indexAny at h
    split at h
    · rename_i hb
      obtain rfl : i = 0 := by omega
      refine ⟨⟨b, rfl, ?_⟩, fun j c hj => by omega⟩
      simp at hb
      exact hb
    · rename_i hb
      split at h
      · omega
      · rename_i hn
        have hge := Lib.indexAny_ge [13, 10] l
        simp only [beq_iff_eq] at hn
        cases i with
        | zero => omega
        | succ i' =>
          obtain ⟨h1, h2⟩ := indexAny_at l i' (by omega)
          refine ⟨by simpa using h1, fun j c hj hc => ?_⟩
          cases j with
          | zero => simp at hc; subst hc; rintro (rfl | rfl) <;> simp at hb
          | succ j => exact h2 j c (by omega) (by simpa using hc)

theorem tl_size (s : ByteArray) (k : Nat) : (tl s k).size = s.size - k := by simp [tl]
theorem tl_data (s : ByteArray) (k : Nat) : (tl s k).data.toList = s.data.toList.drop k := by
  simp only [tl, ByteArray.data_extract, Array.toList_extract, List.extract_eq_take_drop]
  rw [Lib.size_eq]
  exact List.take_of_length_le (by simp)
theorem tl_get (s : ByteArray) (k j : Nat) (h : k + j < s.size) : (tl s k).get! j = s.get! (k + j) := by
  have h1 := get!_data (tl s k) j (by rw [tl_size]; omega)
  have h2 := get!_data s (k + j) h
  rw [tl_data, List.getElem?_drop, h2] at h1
  exact (Option.some.inj h1).symm

theorem ixe_neg (s : ByteArray) (h : ixe s < 0) (j : Nat) (hj : j < s.size) : ¬ eol (s.get! j) :=
  indexAny_neg _ h _ (List.mem_of_getElem? (get!_data s j hj))
theorem ixe_at (s : ByteArray) (i : Nat) (h : ixe s = (i : Int)) : i < s.size ∧ eol (s.get! i) ∧ ∀ j, j < i → ¬ eol (s.get! j) := by
  have hi : i < s.size := by have := (ixe_bd s).2; omega
  obtain ⟨⟨c, h1, h2⟩, h3⟩ := indexAny_at _ i h
  rw [get!_data s i hi] at h1
  cases h1
  exact ⟨hi, h2, fun j hj => h3 j _ hj (get!_data s j (by omega))⟩
theorem pfx (a b : UInt8) (l : List UInt8) : List.isPrefixOf [13, 10] (a :: b :: l) = true ↔ a = 13 ∧ b = 10 := by
  simp only [List.isPrefixOf, Bool.and_true, Bool.and_eq_true, beq_iff_eq]
  exact ⟨fun ⟨h1, h2⟩ => ⟨h1.symm, h2.symm⟩, fun ⟨h1, h2⟩ => ⟨h1.symm, h2.symm⟩⟩
theorem esz_two (s : ByteArray) : esz s = 2 ↔ (2 ≤ s.size ∧ s.get! 0 = 13 ∧ s.get! 1 = 10) := by
  unfold esz Lib.hasPrefix
  rw [Lib.size_eq]
  have g0 := get!_data s 0
  have g1 := get!_data s 1
  rw [Lib.size_eq] at g0 g1
  cases hl : s.data.toList with
  | nil => simp
  | cons a l => cases l with
    | nil => simp [List.isPrefixOf]
    | cons b l =>
      rw [hl] at g0 g1
      have e0 : a = s.get! 0 := by simpa using g0 (by simp)
      have e1 : b = s.get! 1 := by simpa using g1 (by simp)
      have hp := pfx a b l
      rw [← e0, ← e1, ← hp]
      by_cases hq : List.isPrefixOf [13, 10] (a :: b :: l) = true
      · rw [if_pos hq]; simp [hq]
      · rw [if_neg hq]; simp [hq]

/-- How many bytes the line ending has that stands at p. -/
def ez (s : ByteArray) (p : Nat) : Nat := esz (tl s p)
theorem ez_bd (s : ByteArray) (p : Nat) (h : p < s.size) : 1 ≤ ez s p ∧ ez s p ≤ 2 ∧ p + ez s p ≤ s.size := by
  have h1 := esz_bd (tl s p)
  have h2 := esz_le (tl s p) (by rw [tl_size]; omega)
  rw [tl_size] at h2
  unfold ez
  omega
theorem ez_two (s : ByteArray) (p : Nat) (h : p < s.size) : ez s p = 2 ↔ (p + 1 < s.size ∧ s.get! p = 13 ∧ s.get! (p + 1) = 10) := by
  unfold ez
  rw [esz_two, tl_size]
  constructor
  · rintro ⟨h1, h2, h3⟩
    rw [tl_get s p 0 (by omega)] at h2
    rw [tl_get s p 1 (by omega)] at h3
    exact ⟨by omega, h2, h3⟩
  · rintro ⟨h1, h2, h3⟩
    refine ⟨by omega, ?_, ?_⟩
    · rw [tl_get s p 0 (by omega)]; exact h2
    · rw [tl_get s p 1 (by omega)]; exact h3

/-- These are the lines from byte k on. -/
inductive Ls (s : ByteArray) : Nat → List (Nat × Nat) → Prop
  | last (k : Nat) (hk : k ≤ s.size) (hn : ∀ j, k ≤ j → j < s.size → ¬ eol (s.get! j)) : Ls s k [(k, s.size)]
  | more (k p : Nat) (l : List (Nat × Nat)) (hk : k ≤ p) (hp : p < s.size) (hn : ∀ j, k ≤ j → j < p → ¬ eol (s.get! j)) (he : eol (s.get! p)) (hl : Ls s (p + ez s p) l) : Ls s k ((k, p) :: l)

theorem linesF_ls : ∀ (f : Nat) (s : ByteArray) (k : Nat), k ≤ s.size → s.size < k + f → Ls s k (linesF f s k)
  | 0, s, k, h1, h2 => by omega
  | f + 1, s, k, h1, h2 => by
    rw [linesF]
    split
    · rename_i hn
      refine .last k h1 fun j hj hjs => ?_
      have := ixe_neg (tl s k) hn (j - k) (by rw [tl_size]; omega)
      rwa [tl_get s k (j - k) (by omega), show k + (j - k) = j by omega] at this
    · rename_i hn
      obtain ⟨i, hi⟩ : ∃ i : Nat, ixe (tl s k) = i := ⟨(ixe (tl s k)).toNat, by omega⟩
      rw [hi, Int.toNat_natCast]
      obtain ⟨a1, a2, a3⟩ := ixe_at (tl s k) i hi
      rw [tl_size] at a1
      rw [tl_get s k i (by omega)] at a2
      have hb := ez_bd s (k + i) (by omega)
      refine .more k (k + i) _ (by omega) (by omega) (fun j hj hjs => ?_) a2 (linesF_ls f s _ ?_ ?_)
      · have := a3 (j - k) (by omega)
        rwa [tl_get s k (j - k) (by omega), show k + (j - k) = j by omega] at this
      · omega
      · omega
theorem linesB_ls (s : ByteArray) : Ls s 0 (linesB s) := linesF_ls _ s 0 (Nat.zero_le _) (by omega)

theorem Ls.one {s : ByteArray} {k : Nat} {l m : List (Nat × Nat)} (hl : Ls s k l) (hm : Ls s k m) : l = m := by
  induction hl generalizing m with
  | last k hk hn => cases hm with
    | last => rfl
    | more _ p l' h1 h2 h3 h4 h5 => exact absurd h4 (hn p h1 h2)
  | more k p l hk hp hn he hl ih => cases hm with
    | last _ h1 h2 => exact absurd he (h2 p hk hp)
    | more _ p' l' h1 h2 h3 h4 h5 =>
      obtain rfl : p = p' := by
        rcases Nat.lt_trichotomy p p' with h | h | h
        · exact absurd he (h3 p hk h)
        · exact h
        · exact absurd h4 (hn p' h1 h)
      rw [ih h5]

theorem Ls.le {s : ByteArray} {k : Nat} {l : List (Nat × Nat)} (hl : Ls s k l) : k ≤ s.size := by
  induction hl with
  | last k hk hn => exact hk
  | more k p l hk hp hn he hl ih => omega
/-- Each line: where it lies, and what is in it. -/
theorem Ls.get {s : ByteArray} {k : Nat} {l : List (Nat × Nat)} (hl : Ls s k l) : ∀ (i : Nat) (x : Nat × Nat), l[i]? = some x → k ≤ x.1 ∧ x.1 ≤ x.2 ∧ x.2 ≤ s.size ∧ ∀ j, x.1 ≤ j → j < x.2 → ¬ eol (s.get! j) := by
  induction hl with
  | last k hk hn =>
    intro i x hx
    cases i with
    | zero => simp at hx; subst hx; exact ⟨Nat.le_refl _, hk, Nat.le_refl _, hn⟩
    | succ i => simp at hx
  | more k p l hk hp hn he hl ih =>
    intro i x hx
    cases i with
    | zero => simp at hx; subst hx; exact ⟨Nat.le_refl _, hk, Nat.le_of_lt hp, hn⟩
    | succ i =>
      obtain ⟨h1, h2, h3, h4⟩ := ih i x (by simpa using hx)
      exact ⟨by omega, h2, h3, h4⟩
theorem Ls.first {s : ByteArray} {k : Nat} {l : List (Nat × Nat)} (hl : Ls s k l) : ∃ x : Nat × Nat, l[0]? = some x ∧ x.1 = k := by
  cases hl with
  | last => exact ⟨_, rfl, rfl⟩
  | more => exact ⟨_, rfl, rfl⟩
/-- Two lines side by side. -/
theorem Ls.next {s : ByteArray} {k : Nat} {l : List (Nat × Nat)} (hl : Ls s k l) : ∀ (i : Nat) (x y : Nat × Nat), l[i]? = some x → l[i + 1]? = some y → x.2 < s.size ∧ eol (s.get! x.2) ∧ y.1 = x.2 + ez s x.2 := by
  induction hl with
  | last k hk hn => intro i x y hx hy; simp at hy
  | more k p l hk hp hn he hl ih =>
    intro i x y hx hy
    cases i with
    | zero =>
      simp at hx
      subst hx
      obtain ⟨z, hz, hz1⟩ := hl.first
      have hy' : l[0]? = some y := by simpa using hy
      rw [hz] at hy'
      cases hy'
      exact ⟨hp, he, hz1⟩
    | succ i => exact ih i x y (by simpa using hx) (by simpa using hy)
theorem Ls.end {s : ByteArray} {k : Nat} {l : List (Nat × Nat)} (hl : Ls s k l) : ∀ (i : Nat) (x : Nat × Nat), l[i]? = some x → l[i + 1]? = none → x.2 = s.size := by
  induction hl with
  | last k hk hn =>
    intro i x hx _
    cases i with
    | zero => simp at hx; subst hx; rfl
    | succ i => simp at hx
  | more k p l hk hp hn he hl ih =>
    intro i x hx hy
    cases i with
    | zero =>
      obtain ⟨z, hz, _⟩ := hl.first
      have hy' : l[0]? = none := by simpa using hy
      rw [hz] at hy'
      cases hy'
    | succ i => exact ih i x (by simpa using hx) (by simpa using hy)
/-- A later line begins behind the end of an earlier one. -/
theorem Ls.lt {s : ByteArray} {k : Nat} {l : List (Nat × Nat)} (hl : Ls s k l) : ∀ (d i : Nat) (x y : Nat × Nat), l[i]? = some x → l[i + d + 1]? = some y → x.2 < y.1 := by
  intro d
  induction d with
  | zero =>
    intro i x y hx hy
    obtain ⟨h1, _, h3⟩ := hl.next i x y hx hy
    have := ez_bd s x.2 h1
    omega
  | succ d ih =>
    intro i x y hx hy
    have hlt : i + d + 1 < l.length := by have := (List.getElem?_eq_some_iff.1 hy).1; omega
    have hz : l[i + d + 1]? = some l[i + d + 1] := List.getElem?_eq_getElem hlt
    have h1 := ih i x _ hx hz
    have h2 := (hl.get _ _ hz).2.1
    obtain ⟨h3, _, h4⟩ := hl.next (i + d + 1) _ y hz (by rw [show i + d + 1 + 1 = i + (d + 1) + 1 by omega]; exact hy)
    have := ez_bd s _ h3
    omega
theorem Ls.rising {s : ByteArray} {k : Nat} {l : List (Nat × Nat)} (hl : Ls s k l) : Rising l := by
  intro i j x y hij hx hy
  rcases Nat.eq_or_lt_of_le hij with rfl | h
  · rw [hx] at hy; cases hy; exact Nat.le_refl _
  · have := hl.lt (j - i - 1) i x y hx (by rw [show i + (j - i - 1) + 1 = j by omega]; exact hy)
    have := (hl.get i x hx).2.1
    omega
/-- Some number of lines begin no later than at a byte that is not below 0: one at least. -/
theorem Ls.cut {s : ByteArray} {l : List (Nat × Nat)} (hl : Ls s 0 l) (off : Int) (h : 0 ≤ off) : ∃ (i : Nat) (x : Nat × Nat), CutAt l off (i + 1) ∧ l[i]? = some x ∧ (x.1 : Int) ≤ off ∧ ∀ y : Nat × Nat, l[i + 1]? = some y → off < (y.1 : Int) := by
  have key : ∀ n, n ≤ l.length → ∃ m, m ≤ n ∧ (∀ (k : Nat) (x : Nat × Nat), l[k]? = some x → k < m → (x.1 : Int) ≤ off) ∧ ∀ x : Nat × Nat, l[m]? = some x → m < n → off < (x.1 : Int) := by
    intro n
    induction n with
    | zero => exact fun _ => ⟨0, Nat.le_refl _, fun k x _ hk => by omega, fun x _ h => by omega⟩
    | succ n ih =>
      intro hn
      obtain ⟨m, hm, h1, h2⟩ := ih (by omega)
      by_cases hmn : m < n
      · exact ⟨m, by omega, h1, fun x hx _ => h2 x hx hmn⟩
      · obtain rfl : m = n := by omega
        have hx : l[m]? = some l[m] := List.getElem?_eq_getElem (by omega)
        by_cases hle : (l[m].1 : Int) ≤ off
        · refine ⟨m + 1, Nat.le_refl _, fun k x hkx hk => ?_, fun x _ h => by omega⟩
          have := hl.rising k m x _ (by omega) hkx hx
          omega
        · exact ⟨m, by omega, h1, fun x hx' _ => by rw [hx] at hx'; cases hx'; omega⟩
  obtain ⟨m, hm, h1, h2⟩ := key l.length (Nat.le_refl _)
  obtain ⟨z, hz, hz1⟩ := hl.first
  have hl0 : 0 < l.length := (List.getElem?_eq_some_iff.1 hz).1
  have hm0 : 0 < m := by
    rcases Nat.eq_zero_or_pos m with rfl | h'
    · have := h2 z hz hl0; omega
    · exact h'
  obtain ⟨i, rfl⟩ : ∃ i, m = i + 1 := ⟨m - 1, by omega⟩
  have hx : l[i]? = some l[i] := List.getElem?_eq_getElem (by omega)
  refine ⟨i, l[i], ⟨hm, fun k x hk => ⟨h1 k x hk, fun hle => ?_⟩⟩, hx, h1 i _ hx (by omega), fun y hy => h2 y hy (List.getElem?_eq_some_iff.1 hy).1⟩
  by_cases hki : k < i + 1
  · exact hki
  · have hklt := (List.getElem?_eq_some_iff.1 hk).1
    have hy : l[i + 1]? = some l[i + 1] := List.getElem?_eq_getElem (by omega)
    have h3 := h2 _ hy (by omega)
    have := hl.rising (i + 1) k _ x (by omega) hy hk
    omega
end Go.Proofs.YtfhkahnajjbohaaDoor
