/-
  The law's scan that puts blanks in.
-/
import Derived.Test.YtgcpgieojckheaaGreatDoorMgJM2
namespace Go.Proofs.YtgcpgieojckheaaGreatDoor.Json
open Go.Proofs.YtgcpgieojckheaaGreatDoor

def isMark (c : UInt8) : Bool := c == 91 || c == 93 || c == 123 || c == 125 || c == 44 || c == 58
/-- A text with blanks around its marks; within: in a String. -/
def blk (g : Nat → List UInt8) : Bool → Nat → List UInt8 → List UInt8
  | _, _, [] => []
  | false, n, c :: r => if isMark c then g n ++ c :: (g (n + 1) ++ blk g false (n + 2) r) else c :: blk g (c == 34) n r
  | true, n, c :: d :: r => if c = 92 then c :: d :: blk g true n r else c :: blk g (c != 34) n (d :: r)
  | true, _, [c] => [c]
theorem numc_mark (c : UInt8) (h : isNumc c = true) : isMark c = false ∧ (c == 34) = false := by
  have := all_u8 (p := fun c => !isNumc c || (!isMark c && !(c == 34))) (by decide +kernel) c
  simpa [h] using this
def noGap : Nat → List UInt8 := fun _ => []
section
variable (g : Nat → List UInt8)
theorem blk_t (c d : UInt8) (n : Nat) (r : List UInt8) : blk g true n (c :: d :: r) = if c = 92 then c :: d :: blk g true n r else c :: blk g (c != 34) n (d :: r) := by rw [blk]
theorem blk_plain (c : UInt8) (n : Nat) (r : List UInt8) (h1 : c ≠ 34) (h2 : c ≠ 92) (hr : r ≠ []) : blk g true n (c :: r) = c :: blk g true n r := by
  cases r with
  | nil => exact absurd rfl hr
  | cons d r =>
    rw [blk_t, if_neg h2, show (c != 34) = true by simpa using h1]
theorem blk_esc (c : UInt8) (n : Nat) (r : List UInt8) (hr : r ≠ []) : blk g true n (escC c ++ r) = escC c ++ blk g true n r := by
  have two : ∀ d, blk g true n (92 :: d :: r) = 92 :: d :: blk g true n r := fun d => by rw [blk, if_pos rfl]
  unfold escC
  by_cases h1 : c = 34
  · rw [if_pos h1]; exact two _
  · by_cases h2 : c = 92
    · rw [if_neg h1, if_pos h2]; exact two _
    · rw [if_neg h1, if_neg h2]
      by_cases h3 : c = 8
      · rw [if_pos h3]; exact two _
      · rw [if_neg h3]
        by_cases h4 : c = 12
        · rw [if_pos h4]; exact two _
        · rw [if_neg h4]
          by_cases h5 : c = 10
          · rw [if_pos h5]; exact two _
          · rw [if_neg h5]
            by_cases h6 : c = 13
            · rw [if_pos h6]; exact two _
            · rw [if_neg h6]
              by_cases h7 : c = 9
              · rw [if_pos h7]; exact two _
              · rw [if_neg h7]
                by_cases h8 : c.toNat < 32
                · rw [if_pos h8]
                  have hx : ∀ k : Fin 16, hexd k.val ≠ 34 ∧ hexd k.val ≠ 92 := by decide
                  have x1 := hx ⟨c.toNat / 16, by omega⟩
                  have x2 := hx ⟨c.toNat % 16, by omega⟩
                  simp only at x1 x2
                  show blk g true n (92 :: 117 :: 48 :: 48 :: hexd (c.toNat / 16) :: hexd (c.toNat % 16) :: r) = _
                  rw [blk, if_pos rfl, blk_plain g 48 n _ (by decide) (by decide) (by simp), blk_plain g 48 n _ (by decide) (by decide) (by simp), blk_plain g _ n _ x1.1 x1.2 (by simp), blk_plain g _ n _ x2.1 x2.2 hr]
                  rfl
                · rw [if_neg h8]; exact blk_plain g c n r h1 h2 hr
theorem blk_escs (n : Nat) (r : List UInt8) : ∀ s : List UInt8, blk g true n (escs s ++ 34 :: r) = escs s ++ 34 :: blk g false n r
  | [] => by
    unfold escs
    rw [List.flatMap_nil, List.nil_append, List.nil_append]
    cases r with
    | nil => rfl
    | cons d r => rw [blk_t, if_neg (by decide)]; rfl
  | c :: s => by
    have e : ∀ x, escs (c :: s) ++ x = escC c ++ (escs s ++ x) := fun x => by unfold escs; rw [List.flatMap_cons, List.append_assoc]
    rw [e, e, blk_esc g c n _ (by simp), blk_escs n r s]
theorem blk_quote (n : Nat) (s r : List UInt8) : blk g false n (quoteJ s ++ r) = quoteJ s ++ blk g false n r := by
  have e : ∀ x, quoteJ s ++ x = 34 :: (escs s ++ 34 :: x) := fun x => by unfold quoteJ; simp
  rw [e, e, blk, if_neg (by decide)]
  exact congrArg _ (blk_escs g n r s)
theorem blk_num (n : Nat) (r : List UInt8) : ∀ t : List UInt8, t.all isNumc = true → blk g false n (t ++ r) = t ++ blk g false n r
  | [], _ => rfl
  | c :: t, h => by
    simp only [List.all_cons, Bool.and_eq_true] at h
    obtain ⟨h1, h2⟩ := numc_mark c h.1
    rw [List.cons_append, blk, if_neg (by rw [h1]; decide), h2, blk_num n r t h.2]; rfl
theorem blk_mark (c : UInt8) (h : isMark c = true) (n : Nat) (r : List UInt8) : blk g false n (c :: r) = g n ++ c :: (g (n + 1) ++ blk g false (n + 2) r) := by rw [blk, if_pos h]
theorem blk_letters (n : Nat) (r : List UInt8) : ∀ t : List UInt8, (t.all fun c => !isMark c && c != 34) = true → blk g false n (t ++ r) = t ++ blk g false n r
  | [], _ => rfl
  | c :: t, h => by
    simp only [List.all_cons, Bool.and_eq_true, Bool.not_eq_true', bne_iff_ne] at h
    obtain ⟨⟨h1, h2⟩, h3⟩ := h
    have h2' : (c == 34) = false := by simpa using h2
    rw [List.cons_append, blk, if_neg (by rw [h1]; decide), h2', blk_letters n r t (by simpa using h3)]; rfl
theorem noGap_trail (j : J) (n : Nat) : (textG noGap j n).2.1 = [] := by
  obtain ⟨k, t, ns, ls⟩ := j
  unfold textG
  repeat' split
  all_goals rfl
mutual
theorem blk_text : ∀ (j : J) (n m : Nat) (r : List UInt8), formJ j = true → blk g false n ((textG noGap j m).1 ++ r) = (textG g j n).1 ++ ((textG g j n).2.1 ++ blk g false (textG g j n).2.2 r)
  | .mk k t ns ls, n, m, r, hf => by
    unfold formJ at hf
    unfold textG
    by_cases k1 : k = 1
    · simp only [if_pos k1, List.nil_append]; exact blk_letters g n r [110, 117, 108, 108] (by decide)
    · by_cases k2 : k = 2
      · simp only [if_neg k1, if_pos k2, List.nil_append]; exact blk_letters g n r [116, 114, 117, 101] (by decide)
      · by_cases k3 : k = 3
        · simp only [if_neg k1, if_neg k2, if_pos k3, List.nil_append]; exact blk_letters g n r [102, 97, 108, 115, 101] (by decide)
        · by_cases k4 : k = 4
          · subst k4
            simp at hf
            obtain ⟨⟨⟨h0, h1⟩, rfl⟩, rfl⟩ := hf
            obtain ⟨ha, hne⟩ := own_numc t h0 h1
            simp only [if_neg k1, if_neg k2, if_neg k3, if_true, List.nil_append]
            exact blk_num g n r t ha
          · by_cases k5 : k = 5
            · simp only [if_neg k1, if_neg k2, if_neg k3, if_neg k4, if_pos k5, List.nil_append]; exact blk_quote g n t r
            · simp only [if_neg k1, if_neg k2, if_neg k3, if_neg k4, if_neg k5]
              by_cases k7 : k = 7
              · subst k7
                simp at hf
                obtain ⟨⟨⟨rfl, hlen⟩, hns⟩, hfs⟩ := hf
                simp only [if_true]
                have e := blk_mems ls ns true (n + 2) (m + 2) (125 :: r) hlen hfs
                generalize memsG noGap ns ls true (m + 2) = p at *
                generalize memsG g ns ls true (n + 2) = q at *
                obtain ⟨p1, p2⟩ := p
                obtain ⟨q1, q2⟩ := q
                simp only at e ⊢
                have e2 : noGap m ++ 123 :: (noGap (m + 1) ++ p1 ++ noGap p2 ++ [125]) ++ r = 123 :: (p1 ++ 125 :: r) := by simp [noGap]
                rw [e2, blk_mark g 123 (by decide), e, blk_mark g 125 (by decide)]
                simp
              · have k6 : k = 6 := by
                  rw [if_neg (by omega), if_neg k4, if_neg k5] at hf
                  by_cases k6 : k = 6
                  · exact k6
                  · rw [if_neg k6, if_neg k7] at hf; cases hf
                subst k6
                simp at hf
                obtain ⟨⟨rfl, rfl⟩, hfs⟩ := hf
                simp only [if_neg k7]
                have e := blk_elems ls true (n + 2) (m + 2) (93 :: r) hfs
                generalize elemsG noGap ls true (m + 2) = p at *
                generalize elemsG g ls true (n + 2) = q at *
                obtain ⟨p1, p2⟩ := p
                obtain ⟨q1, q2⟩ := q
                simp only at e ⊢
                have e2 : noGap m ++ 91 :: (noGap (m + 1) ++ p1 ++ noGap p2 ++ [93]) ++ r = 91 :: (p1 ++ 93 :: r) := by simp [noGap]
                rw [e2, blk_mark g 91 (by decide), e, blk_mark g 93 (by decide)]
                simp
theorem blk_elems : ∀ (ls : List J) (first : Bool) (n m : Nat) (r : List UInt8), formsJ ls = true → blk g false n ((elemsG noGap ls first m).1 ++ r) = (elemsG g ls first n).1 ++ blk g false (elemsG g ls first n).2 r
  | [], first, n, m, r, _ => by unfold elemsG; rfl
  | j :: js, first, n, m, r, hf => by
    unfold formsJ at hf
    simp only [Bool.and_eq_true] at hf
    have h0 := noGap_trail j
    have hj := blk_text j
    have hs := blk_elems js false
    unfold elemsG
    cases first with
    | true =>
      simp only [if_true]
      have hj' := fun r => hj n m r hf.1
      have h0' := h0 m
      generalize textG noGap j m = p at *
      generalize textG g j n = q at *
      obtain ⟨p1, p2, p3⟩ := p
      obtain ⟨q1, q2, q3⟩ := q
      simp only at hj' h0' ⊢
      have hs' := hs q3 p3 r hf.2
      generalize elemsG noGap js false p3 = u at *
      generalize elemsG g js false q3 = v at *
      obtain ⟨u1, u2⟩ := u
      obtain ⟨v1, v2⟩ := v
      simp only at hs' ⊢
      subst h0'
      simp only [List.nil_append, List.append_nil, List.append_assoc]
      rw [hj', hs']
    | false =>
      simp only [Bool.false_eq_true, if_false]
      have hj' := fun r => hj (n + 2) (m + 2) r hf.1
      have h0' := h0 (m + 2)
      generalize textG noGap j (m + 2) = p at *
      generalize textG g j (n + 2) = q at *
      obtain ⟨p1, p2, p3⟩ := p
      obtain ⟨q1, q2, q3⟩ := q
      simp only at hj' h0' ⊢
      have hs' := hs q3 p3 r hf.2
      generalize elemsG noGap js false p3 = u at *
      generalize elemsG g js false q3 = v at *
      obtain ⟨u1, u2⟩ := u
      obtain ⟨v1, v2⟩ := v
      simp only at hs' ⊢
      subst h0'
      have e : noGap m ++ 44 :: noGap (m + 1) ++ p1 ++ [] ++ u1 ++ r = 44 :: (p1 ++ (u1 ++ r)) := by simp [noGap]
      rw [e, blk_mark g 44 (by decide), hj', hs']
      simp
theorem blk_mems : ∀ (ls : List J) (ns : List (List UInt8)) (first : Bool) (n m : Nat) (r : List UInt8), ns.length = ls.length → formsJ ls = true → blk g false n ((memsG noGap ns ls first m).1 ++ r) = (memsG g ns ls first n).1 ++ blk g false (memsG g ns ls first n).2 r
  | [], ns, first, n, m, r, _, _ => by unfold memsG; rfl
  | j :: js, ns, first, n, m, r, hl, hf => by
    unfold formsJ at hf
    simp only [Bool.and_eq_true] at hf
    have h0 := noGap_trail j
    have hj := blk_text j
    have hs := fun n m r => blk_mems js ns.tail false n m r (by rw [List.length_tail, hl]; rfl) hf.2
    unfold memsG
    cases first with
    | true =>
      simp only [if_true]
      have hj' := fun r => hj (n + 2) (m + 2) r hf.1
      have h0' := h0 (m + 2)
      generalize textG noGap j (m + 2) = p at *
      generalize textG g j (n + 2) = q at *
      obtain ⟨p1, p2, p3⟩ := p
      obtain ⟨q1, q2, q3⟩ := q
      simp only at hj' h0' ⊢
      have hs' := hs q3 p3 r
      generalize memsG noGap ns.tail js false p3 = u at *
      generalize memsG g ns.tail js false q3 = v at *
      obtain ⟨u1, u2⟩ := u
      obtain ⟨v1, v2⟩ := v
      simp only at hs' ⊢
      subst h0'
      have e : [] ++ quoteJ (ns.headD []) ++ noGap m ++ 58 :: (noGap (m + 1) ++ p1 ++ [] ++ u1) ++ r = quoteJ (ns.headD []) ++ (58 :: (p1 ++ (u1 ++ r))) := by simp [noGap]
      rw [e, blk_quote, blk_mark g 58 (by decide), hj', hs']
      simp
    | false =>
      simp only [Bool.false_eq_true, if_false]
      have hj' := fun r => hj (n + 2 + 2) (m + 2 + 2) r hf.1
      have h0' := h0 (m + 2 + 2)
      generalize textG noGap j (m + 2 + 2) = p at *
      generalize textG g j (n + 2 + 2) = q at *
      obtain ⟨p1, p2, p3⟩ := p
      obtain ⟨q1, q2, q3⟩ := q
      simp only at hj' h0' ⊢
      have hs' := hs q3 p3 r
      generalize memsG noGap ns.tail js false p3 = u at *
      generalize memsG g ns.tail js false q3 = v at *
      obtain ⟨u1, u2⟩ := u
      obtain ⟨v1, v2⟩ := v
      simp only at hs' ⊢
      subst h0'
      have e : noGap m ++ 44 :: noGap (m + 1) ++ quoteJ (ns.headD []) ++ noGap (m + 2) ++ 58 :: (noGap (m + 2 + 1) ++ p1 ++ [] ++ u1) ++ r = 44 :: (quoteJ (ns.headD []) ++ (58 :: (p1 ++ (u1 ++ r)))) := by simp [noGap]
      rw [e, blk_mark g 44 (by decide), blk_quote, blk_mark g 58 (by decide), hj', hs']
      simp
end
end
end Go.Proofs.YtgcpgieojckheaaGreatDoor.Json
