/-
  Plain facts: a text, an 0A, and another text.
-/
import Derived.Test.YtfhkahnajjbohaaDoorU
namespace Go.Proofs.YtfhkahnajjbohaaDoor
open Go.RowKit Go.Shelf

def two (s t : ByteArray) : ByteArray := s ++ ⟨#[10]⟩ ++ t
theorem data_two (s t : ByteArray) : (two s t).data.toList = s.data.toList ++ (10 :: t.data.toList) := by simp [two]
theorem size_two (s t : ByteArray) : (two s t).size = s.size + 1 + t.size := by
  rw [Lib.size_eq, Lib.size_eq, Lib.size_eq, data_two, List.length_append, List.length_cons]; omega
theorem get_two_l (s t : ByteArray) (i : Nat) (h : i < s.size) : (two s t).get! i = s.get! i := by
  have h1 := get!_data (two s t) i (by rw [size_two]; omega)
  rw [data_two, List.getElem?_append_left (by rw [← Lib.size_eq]; exact h), get!_data s i h] at h1
  exact (Option.some.inj h1).symm
theorem get_two_m (s t : ByteArray) : (two s t).get! s.size = 10 := by
  have h1 := get!_data (two s t) s.size (by rw [size_two]; omega)
  rw [data_two, List.getElem?_append_right (by rw [← Lib.size_eq]; exact Nat.le_refl _), ← Lib.size_eq, Nat.sub_self] at h1
  exact (Option.some.inj h1).symm
theorem get_two_r (s t : ByteArray) (i : Nat) (h : i < t.size) : (two s t).get! (s.size + 1 + i) = t.get! i := by
  have h1 := get!_data (two s t) (s.size + 1 + i) (by rw [size_two]; omega)
  rw [data_two, List.getElem?_append_right (by rw [← Lib.size_eq]; omega), ← Lib.size_eq, show s.size + 1 + i - s.size = i + 1 by omega, List.getElem?_cons_succ, get!_data t i h] at h1
  exact (Option.some.inj h1).symm

theorem valid_two (s t : ByteArray) : validS (two s t) = (validS s && validS t) := by
  rw [Bool.eq_iff_iff, Bool.and_eq_true, valid_wy, valid_wy, valid_wy]
  have hz := size_two s t
  have hm : bt (two s t) s.size < 128 := by unfold bt; rw [get_two_m]; decide
  constructor
  · rintro ⟨c, hw⟩
    obtain ⟨d, hd⟩ := hw.to rfl s.size (Nat.zero_le _) (by omega) (in_ascii hm)
    obtain ⟨e, he, _⟩ := hd.part hw (by omega)
    obtain ⟨f, hf⟩ := he.next (by omega) hm
    refine ⟨⟨d, hd.move 0 s.size (by omega) (Nat.le_refl _) fun m hm => ?_⟩, ⟨f, hf.move 0 t.size (by omega) (Nat.le_refl _) fun m hm => ?_⟩⟩
    · unfold bt; rw [Nat.zero_add, get_two_l s t m (by omega)]
    · unfold bt; rw [Nat.zero_add, get_two_r s t m (by omega)]
  · rintro ⟨⟨c, hc⟩, ⟨d, hd⟩⟩
    have h1 : Wy (two s t) 0 s.size c := hc.move 0 s.size (by omega) (by omega) fun m hm => by unfold bt; rw [Nat.zero_add, get_two_l s t m (by omega)]
    have h2 : Wy (two s t) (s.size + 1) (two s t).size d := hd.move (s.size + 1) _ (by omega) (Nat.le_refl _) fun m hm => by unfold bt; rw [Nat.zero_add, get_two_r s t m (by omega)]
    exact ⟨_, h1.trans (.go s.size 1 1 _ d (.inl ⟨rfl, rfl, by omega, hm⟩) h2)⟩

def sh (m : Nat) (l : List (Nat × Nat)) : List (Nat × Nat) := l.map fun x => (x.1 + m, x.2 + m)
theorem ez_eq {s t : ByteArray} {p q : Nat} (hp : p < s.size) (hq : q < t.size) (h : (p + 1 < s.size ∧ s.get! p = 13 ∧ s.get! (p + 1) = 10) ↔ (q + 1 < t.size ∧ t.get! q = 13 ∧ t.get! (q + 1) = 10)) : ez s p = ez t q := by
  have h1 := ez_two s p hp
  have h2 := ez_two t q hq
  have b1 := ez_bd s p hp
  have b2 := ez_bd t q hq
  rw [h, ← h2] at h1
  omega
theorem ls_right (s t : ByteArray) {k : Nat} {l : List (Nat × Nat)} (h : Ls t k l) : Ls (two s t) (s.size + 1 + k) (sh (s.size + 1) l) := by
  have hz := size_two s t
  induction h with
  | last k hk hn =>
    have := Ls.last (s := two s t) (s.size + 1 + k) (by omega) fun j h1 h2 => by
      have := hn (j - (s.size + 1)) (by omega) (by omega)
      rwa [← get_two_r s t _ (by omega), show s.size + 1 + (j - (s.size + 1)) = j by omega] at this
    rw [hz] at this
    simp only [sh, List.map_cons, List.map_nil]
    rw [show k + (s.size + 1) = s.size + 1 + k by omega, show t.size + (s.size + 1) = s.size + 1 + t.size by omega]
    exact this
  | more k p l hk hp hn he hl ih =>
    have hez : ez (two s t) (s.size + 1 + p) = ez t p := ez_eq (by omega) hp (by
      constructor
      · rintro ⟨a1, a2, a3⟩
        rw [get_two_r s t p hp] at a2
        rw [show s.size + 1 + p + 1 = s.size + 1 + (p + 1) by omega, get_two_r s t (p + 1) (by omega)] at a3
        exact ⟨by omega, a2, a3⟩
      · rintro ⟨a1, a2, a3⟩
        refine ⟨by omega, by rw [get_two_r s t p hp]; exact a2, ?_⟩
        rw [show s.size + 1 + p + 1 = s.size + 1 + (p + 1) by omega, get_two_r s t (p + 1) (by omega)]; exact a3)
    have := Ls.more (s := two s t) (s.size + 1 + k) (s.size + 1 + p) (sh (s.size + 1) l) (by omega) (by omega) (fun j h1 h2 => by
      have := hn (j - (s.size + 1)) (by omega) (by omega)
      rwa [← get_two_r s t _ (by omega), show s.size + 1 + (j - (s.size + 1)) = j by omega] at this) (by rw [get_two_r s t p hp]; exact he) (by rw [hez, Nat.add_assoc]; exact ih)
    simp only [sh, List.map_cons] at this ⊢
    rw [show k + (s.size + 1) = s.size + 1 + k by omega, show p + (s.size + 1) = s.size + 1 + p by omega]
    exact this
theorem ls_left (s t : ByteArray) (hr : s.size = 0 ∨ s.get! (s.size - 1) ≠ 13) {k : Nat} {l : List (Nat × Nat)} (h : Ls s k l) : Ls (two s t) k (l ++ sh (s.size + 1) (linesB t)) := by
  have hz := size_two s t
  induction h with
  | last k hk hn =>
    have hez : ez (two s t) s.size = 1 := by
      have b := ez_bd (two s t) s.size (by omega)
      have := ez_two (two s t) s.size (by omega)
      rcases (by omega : ez (two s t) s.size = 1 ∨ ez (two s t) s.size = 2) with h | h
      · exact h
      · have := (this.1 h).2.1
        rw [get_two_m] at this
        exact absurd this (by decide)
    refine .more k s.size _ hk (by omega) (fun j h1 h2 => by rw [get_two_l s t j h2]; exact hn j h1 h2) (by rw [get_two_m]; exact .inr rfl) ?_
    rw [hez]
    exact ls_right s t (linesB_ls t)
  | more k p l hk hp hn he hl ih =>
    have hez : ez (two s t) p = ez s p := ez_eq (by omega) hp (by
      rw [get_two_l s t p hp]
      by_cases hlt : p + 1 < s.size
      · rw [get_two_l s t (p + 1) hlt]
        exact ⟨fun ⟨_, a2, a3⟩ => ⟨hlt, a2, a3⟩, fun ⟨_, a2, a3⟩ => ⟨by omega, a2, a3⟩⟩
      · constructor
        · rintro ⟨_, a2, _⟩
          rcases hr with h0 | h0
          · omega
          · rw [show s.size - 1 = p by omega] at h0
            exact absurd a2 h0
        · rintro ⟨a1, _, _⟩; omega)
    exact .more k p _ hk (by omega) (fun j h1 h2 => by rw [get_two_l s t j (by omega)]; exact hn j h1 h2) (by rw [get_two_l s t p hp]; exact he) (by rw [hez]; exact ih)
theorem lines_two (s t : ByteArray) (hr : s.size = 0 ∨ s.get! (s.size - 1) ≠ 13) : linesB (two s t) = linesB s ++ sh (s.size + 1) (linesB t) :=
  (linesB_ls _).one (ls_left s t hr (linesB_ls s))
end Go.Proofs.YtfhkahnajjbohaaDoor
