/-
  Two values have the same text just if they are the same; blanks change nothing: plainly.
-/
import Derived.Test.YtgcpgieojckheaaGreatDoorMgLU2
namespace Go.Proofs.YtgcpgieojckheaaGreatDoor.Json
open Go.Proofs.YtgcpgieojckheaaGreatDoor

mutual
theorem sameJ_imp : ∀ a b : J, sameJ a b = true → a = b
  | .mk k t ns ls, .mk k2 t2 ns2 ls2, h => by
    unfold sameJ at h
    simp only [Bool.and_eq_true, beq_iff_eq] at h
    obtain ⟨rfl, rfl, rfl, h4⟩ := h
    rw [samesJ_imp ls ls2 h4]
theorem samesJ_imp : ∀ a b : List J, samesJ a b = true → a = b
  | [], [], _ => rfl
  | a :: r, b :: s, h => by
    unfold samesJ at h
    simp only [Bool.and_eq_true] at h
    rw [sameJ_imp a b h.1, samesJ_imp r s h.2]
  | [], _ :: _, h => by unfold samesJ at h; cases h
  | _ :: _, [], h => by unfold samesJ at h; cases h
end
theorem sameJ_iff (a b : J) : sameJ a b = true ↔ a = b := ⟨sameJ_imp a b, fun h => by rw [h]; exact sameJ_self b⟩
theorem sameJ_comm (a b : J) : sameJ a b = sameJ b a := by
  rw [Bool.eq_iff_iff, sameJ_iff, sameJ_iff]; exact eq_comm
/-- Two values that may be have the same text just if they are the same. -/
theorem texts_same (a b : J) (ha : countJ a ≤ 2147483647) (hb : countJ b ≤ 2147483647) (h1 : (printO a).2 = 0) (h2 : (printO b).2 = 0) : ((printO a).1 == (printO b).1) = sameJ a b := by
  rw [Bool.eq_iff_iff, beq_iff_eq, sameJ_iff]
  constructor
  · intro h
    have e1 := print_back a ha h1
    have e2 := print_back b hb h2
    rw [h, e2] at e1
    exact (Prod.mk.inj e1).1.symm
  · intro h; rw [h]
theorem blk_len (g : Nat → List UInt8) (hg : ∀ n, (g n).length ≤ 2) : ∀ (l : List UInt8) (b : Bool) (n : Nat), (blk g b n l).length ≤ 5 * l.length
  | [], b, n => by cases b <;> simp [blk]
  | c :: r, false, n => by
    unfold blk
    have h1 := hg n
    have h2 := hg (n + 1)
    split
    · have := blk_len g hg r false (n + 2)
      simp only [List.length_append, List.length_cons]; omega
    · have := blk_len g hg r (c == 34) n
      simp only [List.length_cons]; omega
  | [c], true, n => by unfold blk; simp
  | c :: d :: r, true, n => by
    unfold blk
    split
    · have := blk_len g hg r true n
      simp only [List.length_cons]; omega
    · have := blk_len g hg (d :: r) (c != 34) n
      simp only [List.length_cons] at this ⊢; omega
termination_by l => l.length
theorem blank_back (g : Nat → List UInt8) (hb : ∀ n, (g n).all isBlank = true) (hg : ∀ n, (g n).length ≤ 2) (j : J) (hc : countJ j ≤ 2147483647) (h : (printO j).2 = 0) (hl : (printO j).1.length ≤ 20000) :
    parse (10 :: 32 :: (blk g false 0 (printO j).1 ++ [9])) = (j, 0) := by
  have h0 : checkG j = 0 := by
    unfold printO at h
    by_cases h0 : checkG j = 0
    · exact h0
    · rw [if_neg h0] at h; exact absurd h h0
  obtain ⟨h1, h2, h3, h4⟩ := (check_zero j hc).1 h0
  have e0 : (printO j).1 = outJ j := by
    unfold printO at h ⊢
    rw [if_pos h0] at h ⊢
    unfold printG at h ⊢
    split
    · rfl
    · rename_i hn; rw [if_neg hn] at h; exact absurd h (by show ¬ (40 : Int) = 0; omega)
  rw [e0] at hl ⊢
  have hlen := blk_len g hg (outJ j) false 0
  have e1 := blk_text g j 0 0 [] h3
  rw [List.append_nil, ← out_text j 0 h3] at e1
  have e2 : blk g false (textG g j 0).2.2 [] = [] := by simp [blk]
  rw [e2, List.append_nil] at e1
  have ht := textG_trail g hb j 0
  obtain ⟨tr, htr⟩ : ∃ tr, (textG g j 0).2.1 = tr := ⟨_, rfl⟩
  rw [htr] at e1 ht
  have ht9 : (tr ++ [9]).all isBlank = true := by rw [List.all_append, ht]; rfl
  have e3 := value_text g hb j 64 0 0 (tr ++ [9]) h3 h4 h1 (by omega) (ends_app ht (ends_mark (blank_numc 9 (by decide)) []))
  have e4 : (10 :: 32 :: (blk g false 0 (outJ j) ++ [9])) = [10, 32] ++ ((textG g j 0).1 ++ (tr ++ [9])) := by rw [e1]; simp
  have e5 : skip (tr ++ [9]) = [] := by
    have := skip_app ht9 []
    rw [List.append_nil] at this
    rw [this]; rfl
  unfold parse
  rw [if_neg (by simp only [List.length_cons, List.length_append, List.length_nil]; omega), e4, value_app (by rfl) 64, e3]
  simp only
  rw [e5, if_pos rfl]
end Go.Proofs.YtgcpgieojckheaaGreatDoor.Json
