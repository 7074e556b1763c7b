/-
  The document's own functions that RopeKept asks: Is, Put.
-/
import Derived.Test.YtbmcgmnmmnileaaX
namespace Go.Proofs.Ytbmcgmnmmnileaa
open Go.RowKit Go.Shelf

theorem is_any (w : World) (s : ByteArray) (a c : Int) :
    Calls Try.prog 25 #[.string s, .agg #[.int .i64 a, .int .i64 c]] w fun e w' => e = .returned (.bool (isSpan s.size a c)) ∧ Below w.heap.size w w' := by
  have hB : Below w.heap.size w (w.alloc (.cells #[.int .i64 a, .int .i64 c] 30)) := (Below.refl _ _).alloc (Nat.le_refl _) _
  unfold isSpan
  by_cases h0 : 0 ≤ a
  · by_cases h1 : a ≤ c
    · by_cases h2 : c ≤ (s.size : Int)
      · simp only [h0, h1, h2, decide_true, Bool.and_self]
        go_enter Try.func25, Try.ntmps25
        go_wp2
        go_ret
        exact ⟨rfl, hB⟩
      · simp only [h0, h1, h2, decide_true, decide_false, Bool.and_false]
        have hd : decide (c ≤ (s.size : Int)) = false := decide_eq_false h2
        go_enter Try.func25, Try.ntmps25
        go_wp2
        go_ret
        exact ⟨rfl, hB⟩
    · simp only [h1, decide_false, Bool.false_and, Bool.and_false]
      have hd : decide (a ≤ c) = false := decide_eq_false h1
      go_enter Try.func25, Try.ntmps25
      go_wp2
      go_ret
      exact ⟨rfl, hB⟩
  · simp only [h0, decide_false, Bool.false_and]
    have hd : decide (0 ≤ a) = false := decide_eq_false h0
    go_enter Try.func25, Try.ntmps25
    go_wp2
    go_ret
    exact ⟨rfl, hB⟩

theorem put_str (s t : ByteArray) (a c : Nat) : s.extract 0 a ++ t ++ s.extract c s.size = ⟨(put s.data.toList a c t.data.toList).toArray⟩ := by
  have e : (s.extract 0 a ++ t ++ s.extract c s.size).data.toList = put s.data.toList a c t.data.toList := by
    unfold put
    simp only [ByteArray.data_append, Array.toList_append]
    rw [ex_tail, ex_list, List.drop_zero, Nat.sub_zero, List.append_assoc]
  have e2 : (s.extract 0 a ++ t ++ s.extract c s.size).data = (put s.data.toList a c t.data.toList).toArray := by
    rw [← e]
  exact congrArg ByteArray.mk e2
theorem put_ok (w : World) (s t : ByteArray) (a c : Nat) (h1 : a ≤ c) (h2 : c ≤ s.size) (hs : s.size ≤ 100000) (ht : t.size ≤ 100000) :
    Calls Try.prog 26 #[.string s, .agg #[.int .i64 a, .int .i64 c], .string t] w fun e w' => e = .returned (.string ⟨(put s.data.toList a c t.data.toList).toArray⟩) ∧ Below w.heap.size w w' := by
  have hB : Below w.heap.size w (w.alloc (.cells #[.int .i64 a, .int .i64 c] 30)) := (Below.refl _ _).alloc (Nat.le_refl _) _
  rw [← put_str]
  have hi0 : (0 : Int) ≤ (a : Int) := by omega
  have hi1 : (a : Int) ≤ (s.size : Int) := by omega
  have hi2 : (0 : Int) ≤ (c : Int) := by omega
  have hi3 : (c : Int) ≤ (s.size : Int) := by omega
  have z1 := ex_size s 0 a (by omega)
  have z2 := ex_size s c s.size (Nat.le_refl _)
  obtain ⟨s1, hs1⟩ : ∃ x, s.extract 0 a = x := ⟨_, rfl⟩
  obtain ⟨s2, hs2⟩ : ∃ x, s.extract c s.size = x := ⟨_, rfl⟩
  rw [hs1] at z1 ⊢
  rw [hs2] at z2 ⊢
  have z3 : s1.size ≤ 100000 := by omega
  have z4 : s2.size ≤ 100000 := by omega
  obtain ⟨s3, hs3⟩ : ∃ x, s1 ++ t = x := ⟨_, rfl⟩
  have z5 : s3.size = s1.size + t.size := by rw [← hs3]; exact ByteArray.size_append
  rw [hs3]
  obtain ⟨s4, hs4⟩ : ∃ x, s3 ++ s2 = x := ⟨_, rfl⟩
  rw [hs4]
  clear z1 z2
  go_enter Try.func26, Try.ntmps26
  go_wp2
  go_quiet (fail)
  go_wp2
  go_ret
  exact ⟨rfl, below_drewN hB _⟩
end Go.Proofs.Ytbmcgmnmmnileaa
