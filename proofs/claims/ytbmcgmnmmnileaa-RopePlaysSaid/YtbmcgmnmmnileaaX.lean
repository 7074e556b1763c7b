/-
  Plain: an edit and the one that puts back; two edits that lie apart.
-/
import Derived.Test.YtbmcgmnmmnileaaU
namespace Go.Proofs.Ytbmcgmnmmnileaa

/-- A text with another one in the place of a span. -/
def put (l : List UInt8) (a c : Nat) (t : List UInt8) : List UInt8 := l.take a ++ (t ++ l.drop c)
theorem put_len (l : List UInt8) (a c : Nat) (t : List UInt8) (h1 : a ≤ c) (h2 : c ≤ l.length) : (put l a c t).length = l.length - (c - a) + t.length := by
  unfold put
  rw [List.length_append, List.length_append, List.length_take, List.length_drop]
  omega
theorem parts (l : List UInt8) (a c k d : Nat) (h1 : a ≤ c) (h2 : c ≤ k) (h3 : k ≤ d) (h4 : d ≤ l.length) :
    ∃ l0 l1 l2 l3 l4 : List UInt8, l = l0 ++ (l1 ++ (l2 ++ (l3 ++ l4))) ∧ l0.length = a ∧ l1.length = c - a ∧ l2.length = k - c ∧ l3.length = d - k := by
  refine ⟨l.take a, (l.drop a).take (c - a), (l.drop c).take (k - c), (l.drop k).take (d - k), l.drop d, ?_, ?_, ?_, ?_, ?_⟩
  · have e1 : (l.drop k).take (d - k) ++ l.drop d = l.drop k := by
      have e := List.take_append_drop (d - k) (l.drop k)
      rw [List.drop_drop, show k + (d - k) = d by omega] at e
      exact e
    have e2 : (l.drop c).take (k - c) ++ l.drop k = l.drop c := by
      have e := List.take_append_drop (k - c) (l.drop c)
      rw [List.drop_drop, show c + (k - c) = k by omega] at e
      exact e
    have e3 : (l.drop a).take (c - a) ++ l.drop c = l.drop a := by
      have e := List.take_append_drop (c - a) (l.drop a)
      rw [List.drop_drop, show a + (c - a) = c by omega] at e
      exact e
    rw [e1, e2, e3, List.take_append_drop]
  · rw [List.length_take]; omega
  · rw [List.length_take, List.length_drop]; omega
  · rw [List.length_take, List.length_drop]; omega
  · rw [List.length_take, List.length_drop]; omega
theorem put_parts (l0 l1 l2 t : List UInt8) {a c : Nat} (h0 : l0.length = a) (h1 : (l0 ++ l1).length = c) : put (l0 ++ (l1 ++ l2)) a c t = l0 ++ (t ++ l2) := by
  unfold put
  rw [List.take_left' h0, show l0 ++ (l1 ++ l2) = (l0 ++ l1) ++ l2 from (List.append_assoc _ _ _).symm, List.drop_left' h1]
/-- What was put in and taken out again. -/
theorem kept_back (l t : List UInt8) (a c : Nat) (h1 : a ≤ c) (h2 : c ≤ l.length) : put (put l a c t) a (a + t.length) (sub l a c) = l := by
  obtain ⟨l0, l1, l2, l3, l4, e, z0, z1, z2, z3⟩ := parts l a c c c h1 (Nat.le_refl _) (Nat.le_refl _) h2
  have z2' : l2 = [] := List.eq_nil_of_length_eq_zero (by omega)
  have z3' : l3 = [] := List.eq_nil_of_length_eq_zero (by omega)
  subst z2' z3'
  rw [List.nil_append, List.nil_append] at e
  subst e
  rw [put_parts l0 l1 l4 t z0 (by rw [List.length_append]; omega)]
  rw [put_parts l0 t l4 _ z0 (by rw [List.length_append]; omega)]
  have e : sub (l0 ++ (l1 ++ l4)) a c = l1 := by
    unfold sub
    rw [Int.toNat_natCast, Int.toNat_natCast, ← List.append_assoc, List.take_left' (by rw [List.length_append]; omega), List.drop_left' z0]
  rw [e]
/-- Two edits that lie apart. -/
theorem kept_two (l s t : List UInt8) (a c k d : Nat) (h1 : a ≤ c) (h2 : c ≤ k) (h3 : k ≤ d) (h4 : d ≤ l.length) :
    put (put l a c s) (k + s.length - (c - a)) (d + s.length - (c - a)) t = put (put l k d t) a c s := by
  obtain ⟨l0, l1, l2, l3, l4, e, z0, z1, z2, z3⟩ := parts l a c k d h1 h2 h3 h4
  subst e
  rw [put_parts l0 l1 (l2 ++ (l3 ++ l4)) s z0 (by rw [List.length_append]; omega)]
  have e1 : l0 ++ (s ++ (l2 ++ (l3 ++ l4))) = (l0 ++ (s ++ l2)) ++ (l3 ++ l4) := by simp only [List.append_assoc]
  rw [e1, put_parts (l0 ++ (s ++ l2)) l3 l4 t (by simp only [List.length_append]; omega) (by simp only [List.length_append]; omega)]
  have e2 : l0 ++ (l1 ++ (l2 ++ (l3 ++ l4))) = (l0 ++ (l1 ++ l2)) ++ (l3 ++ l4) := by simp only [List.append_assoc]
  rw [e2, put_parts (l0 ++ (l1 ++ l2)) l3 l4 t (by simp only [List.length_append]; omega) (by simp only [List.length_append]; omega)]
  have e3 : l0 ++ (l1 ++ l2) ++ (t ++ l4) = l0 ++ (l1 ++ (l2 ++ (t ++ l4))) := by simp only [List.append_assoc]
  rw [e3, put_parts l0 l1 (l2 ++ (t ++ l4)) s z0 (by rw [List.length_append]; omega)]
  simp only [List.append_assoc]
end Go.Proofs.Ytbmcgmnmmnileaa
