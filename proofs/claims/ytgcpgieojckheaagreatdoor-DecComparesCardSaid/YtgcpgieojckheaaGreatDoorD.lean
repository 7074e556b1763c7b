/-
  The parser's states, plainly.
-/
import Derived.Test.YtgcpgieojckheaaGreatDoorC
namespace Go.Proofs.YtgcpgieojckheaaGreatDoor
open Go

structure PS where
  rest : List UInt8
  neg : Bool := false
  whole : List UInt8 := []
  frac : List UInt8 := []
  below : Bool := false
  exp : List UInt8 := []
  done : Bool := false
def cutC (c : UInt8) (l : List UInt8) : Bool × List UInt8 :=
  match l with
  | [] => (false, [])
  | a :: r => if a = c then (true, r) else (false, a :: r)
def finEnd (p : PS) : PS := { p with done := p.rest.isEmpty }
def finExp (p : PS) : PS := if digs p.rest = [] then { p with exp := [], rest := past p.rest } else finEnd { p with exp := digs p.rest, rest := past p.rest }
def finExpSign (p : PS) : PS := if (cutC 45 p.rest).1 then finExp { p with below := true, rest := (cutC 45 p.rest).2 } else finExp { p with below := false, rest := (cutC 43 p.rest).2 }
def finMark (p : PS) : PS := if (cutC 101 p.rest).1 then finExpSign { p with rest := (cutC 101 p.rest).2 } else if (cutC 69 p.rest).1 then finExpSign { p with rest := (cutC 69 p.rest).2 } else finEnd p
def finFrac (p : PS) : PS := if digs p.rest = [] then { p with frac := [], rest := past p.rest } else finMark { p with frac := digs p.rest, rest := past p.rest }
def finPoint (p : PS) : PS := if (cutC 46 p.rest).1 then finFrac { p with rest := (cutC 46 p.rest).2 } else finMark p
def finWhole (p : PS) : PS := if wholeOk (digs p.rest) then finPoint { p with whole := digs p.rest, rest := past p.rest } else { p with whole := digs p.rest, rest := past p.rest }
def finSign (p : PS) : PS := finWhole { p with neg := (cutC 45 p.rest).1, rest := (cutC 45 p.rest).2 }
/-- What comes of a state in the end. -/
def fin : Nat → PS → PS
  | 0 => finSign
  | 1 => finWhole
  | 2 => finPoint
  | 3 => finFrac
  | 4 => finMark
  | 5 => finExpSign
  | 6 => finExp
  | 7 => finEnd
  | _ => id

theorem cutC_no {c : UInt8} {l : List UInt8} (h : (cutC c l).1 = false) : (cutC c l).2 = l := by
  unfold cutC at h ⊢
  split
  · rfl
  · rename_i a r
    by_cases e : a = c
    · simp [e] at h
    · simp [e]
theorem cutC_minus (l : List UInt8) : cutC 45 l = minusOf l := by
  unfold cutC minusOf
  split
  · rfl
  · rename_i a r
    by_cases e : a = 45
    · subst e; rfl
    · rw [if_neg e]
      split
      · rename_i r' e'; simp at e'; exact absurd e'.1 e
      · rfl
def ptOf (p : PS) : Pt := ⟨p.neg, p.whole, p.frac, p.below, p.exp⟩
/-- What is answered of a text, and what must be so of the parser. -/
def Ends (q : PS) (o : Option Pt) : Prop := (q.done = true → o = some (ptOf q)) ∧ (q.done = false → o = none)
theorem ends_end (p : PS) : Ends (finEnd p) (if p.rest = [] then some (ptOf p) else none) := by
  unfold finEnd Ends ptOf
  cases h : p.rest with
  | nil => simp
  | cons a l => simp
theorem ends_none {q : PS} (hd : q.done = false) : Ends q none := ⟨fun h => (by rw [hd] at h; cases h), fun _ => rfl⟩
theorem ends_exp (p : PS) (hd : p.done = false) : Ends (finExp p) (if digs p.rest = [] then none else if past p.rest = [] then some { ptOf p with exp := digs p.rest } else none) := by
  unfold finExp
  by_cases h : digs p.rest = []
  · rw [if_pos h, if_pos h]; exact ends_none hd
  · rw [if_neg h, if_neg h]; exact ends_end { p with exp := digs p.rest, rest := past p.rest }
theorem ends_sign (p : PS) (hd : p.done = false) : Ends (finExpSign p) (if digs (signOf p.rest).2 = [] then none else if past (signOf p.rest).2 = [] then some { ptOf p with below := (signOf p.rest).1, exp := digs (signOf p.rest).2 } else none) := by
  unfold finExpSign
  cases hl : p.rest with
  | nil =>
    have := ends_exp { p with below := false, rest := [] } hd
    simpa [cutC, signOf, digs] using this
  | cons a r =>
    by_cases h1 : a = 45
    · subst h1
      exact ends_exp { p with below := true, rest := r } hd
    · by_cases h2 : a = 43
      · subst h2
        exact ends_exp { p with below := false, rest := r } hd
      · have hs : signOf (a :: r) = (false, a :: r) := by
          unfold signOf
          split
          · rename_i e; simp at e; exact absurd e.1 h1
          · rename_i e; simp at e; exact absurd e.1 h2
          · rfl
        rw [hs]
        have := ends_exp { p with below := false, rest := a :: r } hd
        simpa [cutC, h1, h2, ptOf] using this
theorem ends_mark (p : PS) (hd : p.done = false) (he : p.exp = []) (hb : p.below = false) : Ends (finMark p) (match expOf p.rest with | none => none | some (b, e, l4) => if l4 = [] then some { ptOf p with below := b, exp := e } else none) := by
  unfold finMark
  cases hl : p.rest with
  | nil =>
    have := ends_end p
    rw [hl] at this
    simpa [cutC, expOf, ptOf, he, hb] using this
  | cons a r =>
    by_cases h1 : a = 101
    · subst h1
      have := ends_sign { p with rest := r } hd
      simp only [cutC, if_true, expOf]
      by_cases h : digs (signOf r).2 = []
      · simpa [h, ptOf] using this
      · simpa [h, ptOf] using this
    · by_cases h2 : a = 69
      · subst h2
        have := ends_sign { p with rest := r } hd
        simp only [cutC, if_neg h1, if_true, expOf]
        by_cases h : digs (signOf r).2 = []
        · simpa [h, ptOf] using this
        · simpa [h, ptOf] using this
      · have := ends_end p
        rw [hl] at this
        simpa [cutC, h1, h2, expOf, ptOf, he, hb] using this
theorem ends_point (p : PS) (hd : p.done = false) (he : p.exp = []) (hb : p.below = false) (hf : p.frac = []) :
    Ends (finPoint p) (match fracOf p.rest with | none => none | some (f, l3) => match expOf l3 with | none => none | some (b, e, l4) => if l4 = [] then some ⟨p.neg, p.whole, f, b, e⟩ else none) := by
  unfold finPoint
  have other : ∀ l, l = p.rest → (cutC 46 l).1 = false → fracOf l = some ([], l) → Ends (if (cutC 46 l).1 then finFrac { p with rest := (cutC 46 l).2 } else finMark p) (match fracOf l with | none => none | some (f, l3) => match expOf l3 with | none => none | some (b, e, l4) => if l4 = [] then some ⟨p.neg, p.whole, f, b, e⟩ else none) := by
    intro l e h1 h2
    rw [h1, h2, e]
    have := ends_mark p hd he hb
    simpa [ptOf, hf] using this
  cases hl : p.rest with
  | nil => exact other [] hl.symm rfl rfl
  | cons a r =>
    by_cases h1 : a = 46
    · subst h1
      simp only [cutC, if_true, fracOf, finFrac]
      by_cases h : digs r = []
      · rw [if_pos h, if_pos h]; exact ends_none hd
      · rw [if_neg h, if_neg h]
        exact ends_mark { p with frac := digs r, rest := past r } hd he hb
    · refine other (a :: r) hl.symm (by simp [cutC, h1]) ?_
      unfold fracOf
      split
      · rename_i e; simp at e; exact absurd e.1 h1
      · rfl
theorem ends_all (l : List UInt8) : Ends (finSign { rest := l }) (parseR l) := by
  unfold finSign finWhole parseR
  simp only [cutC_minus]
  by_cases hw : wholeOk (digs (minusOf l).2) = true
  · rw [if_pos hw, if_pos hw]
    exact ends_point { rest := past (minusOf l).2, neg := (minusOf l).1, whole := digs (minusOf l).2 } rfl rfl rfl rfl
  · rw [if_neg hw, if_neg hw]
    exact ends_none rfl
end Go.Proofs.YtgcpgieojckheaaGreatDoor
