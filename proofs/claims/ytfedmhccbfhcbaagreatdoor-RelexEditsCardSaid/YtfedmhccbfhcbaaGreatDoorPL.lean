/-
  Plain facts on the characters of a text: their widths, their places, the sums of their units.
-/
import Derived.Test.YtfedmhccbfhcbaaGreatDoorPC
import Derived.Test.YtfedmhccbfhcbaaGreatDoorPH
namespace Go.Proofs.YtfedmhccbfhcbaaGreatDoor.Utf
open Go.RowKit

theorem rune_unt (t : ByteArray) (h : 0 < t.size) : unt (rp t) = if rn t = 4 then 2 else 1 := by
  unfold unt
  have l0 := (t.get! 0).toNat_lt
  rcases rune_kinds t h with ⟨h1, h2, h3⟩ | ⟨h1, h2, h3, h4⟩ | ⟨h1, h2, h3, h4, h5⟩ | ⟨h1, h2, h3, h4, h5, h6⟩ | ⟨h1, h2, h3, h4, h5, h6⟩
  · rw [h2, h3, if_neg (by omega), if_neg (by omega)]
  · unfold K2 at h2; rw [h3, h4, if_neg (by omega), if_neg (by omega)]
  · unfold K3 at h3; rw [h4, h5, if_neg (by omega), if_neg (by omega)]
  · unfold K4 at h4; rw [h5, h6, if_pos (by omega), if_pos rfl]
  · rw [h5, h6, if_neg (by omega), if_neg (by omega)]
theorem rune_neg (t : ByteArray) (h : 0 < t.size) : rp t < 0 ↔ (rn t = 1 ∧ 128 ≤ (t.get! 0).toNat) := by
  rcases rune_kinds t h with ⟨h1, h2, h3⟩ | ⟨h1, h2, h3, h4⟩ | ⟨h1, h2, h3, h4, h5⟩ | ⟨h1, h2, h3, h4, h5, h6⟩ | ⟨h1, h2, h3, h4, h5, h6⟩ <;> omega

theorem size_extract (s : ByteArray) (i j : Nat) (h : j ≤ s.size) : (s.extract i j).size = j - i := by simp; omega
theorem get!_extract_at (s : ByteArray) (i j : Nat) (h : i < j) (hj : j ≤ s.size) : (s.extract i j).get! 0 = s.get! i := by
  have h1 := get!_list (s.extract i j) 0 (by rw [size_extract s i j hj]; omega)
  rw [extract_list, List.getElem?_drop, Nat.add_zero, List.getElem?_take_of_lt h, get!_list s i (by omega)] at h1
  exact (Option.some.inj h1).symm

/-- The character at byte k: what it is, in the reference's words. -/
theorem char_facts (s : ByteArray) (k : Nat) (h : k < s.size) :
    1 ≤ rn (s.extract k s.size) ∧ rn (s.extract k s.size) ≤ 4 ∧ k + rn (s.extract k s.size) ≤ s.size ∧ (s.extract k (k + rn (s.extract k s.size))).size = rn (s.extract k s.size) ∧
    widB (s.extract k (k + rn (s.extract k s.size))) = unt (rp (s.extract k s.size)) ∧ strayB (s.extract k (k + rn (s.extract k s.size))) = decide (rp (s.extract k s.size) < 0) := by
  have hz : (s.extract k s.size).size = s.size - k := size_extract s k s.size (Nat.le_refl _)
  have h0 : 0 < (s.extract k s.size).size := by omega
  have h1 := rn_pos _ h0
  have h2 := rn_le (s.extract k s.size)
  have h4 := rn_4 (s.extract k s.size)
  have hu := rune_unt _ h0
  have hn := rune_neg _ h0
  rw [get!_extract_at s k s.size h (Nat.le_refl _)] at hn
  generalize rn (s.extract k s.size) = n at *
  have hc := size_extract s k (k + n) (by omega)
  have hg := get!_extract_at s k (k + n) (by omega) (by omega)
  refine ⟨h1, h4, by omega, by omega, ?_, ?_⟩
  · rw [hu, widB, hc, Nat.add_sub_cancel_left]
  · unfold strayB
    rw [hc, hg, Nat.add_sub_cancel_left]
    apply Bool.eq_iff_iff.2
    simp only [Bool.and_eq_true, beq_iff_eq, decide_eq_true_eq]
    exact hn.symm

/-! ### units -/
def uN (xs : List (Nat × ByteArray)) : Int := (xs.map fun x => widB x.2).sum
theorem widB_bd (s : ByteArray) : 1 ≤ widB s ∧ widB s ≤ 2 := by unfold widB; split <;> omega
theorem uN_nil : uN [] = 0 := rfl
theorem uN_cons (x : Nat × ByteArray) (xs : List (Nat × ByteArray)) : uN (x :: xs) = widB x.2 + uN xs := by simp [uN]
theorem uN_append (xs ys : List (Nat × ByteArray)) : uN (xs ++ ys) = uN xs + uN ys := by simp [uN]
theorem uN_bd : ∀ xs : List (Nat × ByteArray), (xs.length : Int) ≤ uN xs ∧ uN xs ≤ 2 * xs.length
  | [] => by simp [uN]
  | x :: xs => by
    have := uN_bd xs
    have := widB_bd x.2
    rw [uN_cons, List.length_cons]
    omega
theorem foldl_uw : ∀ (xs : List (Nat × ByteArray)) (acc : Int), 0 ≤ acc → acc + 2 * xs.length ≤ 10000000000 → xs.foldl (fun u x => IntKind.i64.wrap (u + widB x.2)) acc = acc + uN xs
  | [], acc, _, _ => by simp [uN]
  | x :: xs, acc, h0, h => by
    have := widB_bd x.2
    rw [List.length_cons] at h
    rw [List.foldl_cons, IntWalk.i64_in (acc + widB x.2) (by omega), foldl_uw xs _ (by omega) (by omega), uN_cons]
    omega
theorem uw_eq (xs : List (Nat × ByteArray)) (h : xs.length ≤ 1000000000) : uw xs = uN xs := by
  rw [uw, foldl_uw xs 0 (by omega) (by omega)]; omega
theorem seqF_len : ∀ (f : Nat) (s : ByteArray) (k : Nat), k + (seqF f s k).length ≤ s.size ∨ seqF f s k = []
  | 0, _, _ => .inr rfl
  | f + 1, s, k => by
    by_cases h : k < s.size
    · refine .inl ?_
      obtain ⟨h1, _, h3, _⟩ := char_facts s k h
      rw [seqF, if_pos h, List.length_cons]
      rcases seqF_len f s (k + rn (s.extract k s.size)) with h4 | h4
      · omega
      · rw [h4]; simp; omega
    · exact .inr (by rw [seqF, if_neg h])
theorem seqB_len (s : ByteArray) : (seqB s).length ≤ s.size := by
  rcases seqF_len s.size s 0 with h | h
  · unfold seqB; omega
  · unfold seqB; rw [h]; simp
theorem pre_len {s : ByteArray} {pre rest : List (Nat × ByteArray)} (h : seqB s = pre ++ rest) : pre.length ≤ s.size := by
  have := seqB_len s
  rw [h, List.length_append] at this
  omega

/-! ### what the reference's loops keep -/
theorem seqF_step (f : Nat) (s : ByteArray) (k : Nat) (h : k < s.size) (hf : s.size ≤ k + f) :
    seqF f s k = (k, s.extract k (k + rn (s.extract k s.size))) :: seqF (f - 1) s (k + rn (s.extract k s.size)) := by
  obtain ⟨f, rfl⟩ : ∃ f', f = f' + 1 := ⟨f - 1, by omega⟩
  rw [seqF, if_pos h, Nat.add_sub_cancel]

theorem ba_ext {a b : ByteArray} (h : a.data.toList = b.data.toList) : a = b := by
  cases a; cases b
  simpa using h
theorem tail_tail (s : ByteArray) (k n : Nat) (h : k + n ≤ s.size) : (s.extract k s.size).extract n (s.extract k s.size).size = s.extract (k + n) s.size := by
  apply ba_ext
  have hl : s.data.toList.length = s.size := (Lib.size_eq s).symm
  rw [extract_list, extract_list, extract_list, size_extract s k s.size (Nat.le_refl _), List.take_of_length_le (l := s.data.toList) (by omega), List.take_of_length_le (by rw [List.length_drop]; omega), List.drop_drop]
end Go.Proofs.YtfedmhccbfhcbaaGreatDoor.Utf
