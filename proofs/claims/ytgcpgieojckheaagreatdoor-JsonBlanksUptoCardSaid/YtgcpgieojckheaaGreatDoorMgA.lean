/-
  Decimals, plainly: the text, the worth, the own form. No model in it.
  Decimals, plainly: what is written is read as it was.
  Decimals, plainly: the order; noughts and points that are moved.
  The parser's states, plainly.
-/
import Derived.Lib.ItoaNum
namespace Go.Proofs.YtgcpgieojckheaaGreatDoor
open Go

def isDig (c : UInt8) : Bool := decide (48 ≤ c.toNat) && decide (c.toNat ≤ 57)
def digs (l : List UInt8) : List UInt8 := l.takeWhile isDig
def past (l : List UInt8) : List UInt8 := l.dropWhile isDig
/-- Digits as a number. -/
def num (l : List UInt8) : Nat := l.foldl (fun n c => n * 10 + (c.toNat - 48)) 0

/-- What was read of a text. -/
structure Pt where
  neg : Bool
  whole : List UInt8
  frac : List UInt8
  below : Bool
  exp : List UInt8
deriving DecidableEq

def wholeOk (w : List UInt8) : Bool := match w with
  | [] => false
  | c :: r => !(c == 48 && !r.isEmpty)
def fracOf (l : List UInt8) : Option (List UInt8 × List UInt8) :=
  match l with
  | 46 :: r => if digs r = [] then none else some (digs r, past r)
  | _ => some ([], l)
def signOf (l : List UInt8) : Bool × List UInt8 :=
  match l with
  | 45 :: r => (true, r)
  | 43 :: r => (false, r)
  | _ => (false, l)
def expOf (l : List UInt8) : Option (Bool × List UInt8 × List UInt8) :=
  match l with
  | c :: r => if c = 101 ∨ c = 69 then (if digs (signOf r).2 = [] then none else some ((signOf r).1, digs (signOf r).2, past (signOf r).2)) else some (false, [], l)
  | [] => some (false, [], [])
def minusOf (l : List UInt8) : Bool × List UInt8 :=
  match l with
  | 45 :: r => (true, r)
  | _ => (false, l)
def parseR (l : List UInt8) : Option Pt :=
  let m := minusOf l
  let w := digs m.2
  if wholeOk w then
    match fracOf (past m.2) with
    | none => none
    | some (f, l3) =>
      match expOf l3 with
      | none => none
      | some (b, e, l4) => if l4 = [] then some ⟨m.1, w, f, b, e⟩ else none
  else none

/-- A worth: the digits, without noughts at both ends (none: 0), times 10 to the power exp. -/
structure Num where
  neg : Bool
  digits : List UInt8
  exp : Int
deriving DecidableEq
def Num.zero : Num := ⟨false, [], 0⟩
def isNought (c : UInt8) : Bool := c == 48
def trimL (l : List UInt8) : List UInt8 := l.dropWhile isNought
def trimR (l : List UInt8) : List UInt8 := (l.reverse.dropWhile isNought).reverse
def powerR (p : Pt) : Int := if p.below then -(num p.exp : Int) else num p.exp
def valueR (p : Pt) : Num :=
  let all := trimL (p.whole ++ p.frac)
  let d := trimR all
  if d = [] then Num.zero else ⟨p.neg, d, powerR p - (p.frac.length : Int) + ((all.length - d.length : Nat) : Int)⟩
def tooLarge (n : Num) : Bool := decide (200 < n.digits.length) || (decide (n.exp < -9999) || decide (9999 < n.exp))
/-- The worth of a text, or the error. -/
def readR (l : List UInt8) : Num × Int :=
  match parseR l with
  | none => (Num.zero, 4)
  | some p => if tooLarge (valueR p) then (Num.zero, 40) else (valueR p, 0)
def wholeForm (n : Num) : List UInt8 := if n.digits = [] then [48] else (if n.neg then [45] else []) ++ n.digits
def expForm (e : Int) : List UInt8 := if e = 0 then [] else 101 :: Lib.itoa e
def form (n : Num) : List UInt8 := wholeForm n ++ expForm n.exp
def ownR (l : List UInt8) : List UInt8 × Int := if (readR l).2 = 0 then (form (readR l).1, 0) else ([], (readR l).2)
def signN (n : Num) : Int := if n.digits = [] then 0 else if n.neg then -1 else 1
def topN (n : Num) : Int := n.exp + (n.digits.length : Int)
def lex : List UInt8 → List UInt8 → Int
  | [], [] => 0
  | [], _ :: _ => -1
  | _ :: _, [] => 1
  | a :: as, b :: bs => if a.toNat < b.toNat then -1 else if b.toNat < a.toNat then 1 else lex as bs
def cmpI (a b : Int) : Int := if a < b then -1 else if b < a then 1 else 0
def sizes (a b : Num) : Int := if topN a ≠ topN b then cmpI (topN a) (topN b) else lex a.digits b.digits
def cmpN (a b : Num) : Int := if signN a ≠ signN b then cmpI (signN a) (signN b) else signN a * sizes a b
def cmpR (s t : List UInt8) : Int × Int :=
  if (readR s).2 ≠ 0 then (0, (readR s).2) else if (readR t).2 ≠ 0 then (0, (readR t).2) else (cmpN (readR s).1 (readR t).1, 0)
def sizeI (n : Num) : Nat := num n.digits * 10 ^ n.exp.toNat
def worth (n : Num) : Int := if n.neg then -(sizeI n : Int) else sizeI n
def fits64 (v : Int) : Bool := decide (-(2 ^ 63 : Int) ≤ v) && decide (v < 2 ^ 63)
def intR (l : List UInt8) : Int × Int :=
  if (readR l).2 ≠ 0 then (0, (readR l).2) else if (readR l).1.exp < 0 then (0, 1) else if fits64 (worth (readR l).1) then (worth (readR l).1, 0) else (0, 64)
def ofR (n : Int) : List UInt8 := (ownR (Lib.itoa n)).1

/-- A worth as it may be told: the digits are digits, without noughts at both ends; 0 has neither a sign nor a power. -/
structure Canon (n : Num) : Prop where
  dig : ∀ c ∈ n.digits, isDig c = true
  first : n.digits.head? ≠ some 48
  last : n.digits.getLast? ≠ some 48
  zero : n.digits = [] → n.neg = false ∧ n.exp = 0

/-! ### reading digits -/
theorem digs_all {l : List UInt8} (h : ∀ c ∈ l, isDig c = true) : digs l = l := by
  unfold digs
  induction l with
  | nil => rfl
  | cons a l ih => rw [List.takeWhile_cons, if_pos (h a (by simp)), ih (fun c hc => h c (by simp [hc]))]
theorem digs_app {l r : List UInt8} (h : ∀ c ∈ l, isDig c = true) (hr : ∀ c, r.head? = some c → isDig c = false) : digs (l ++ r) = l ∧ past (l ++ r) = r := by
  induction l with
  | nil =>
    cases r with
    | nil => simp [digs, past]
    | cons c r => have := hr c rfl; simp [digs, past, this]
  | cons a l ih =>
    have ha := h a (by simp)
    have := ih (fun c hc => h c (by simp [hc]))
    simp only [digs, past] at this ⊢
    simp [ha, this]
theorem digs_dig (l : List UInt8) : ∀ c ∈ digs l, isDig c = true := by
  unfold digs
  induction l with
  | nil => simp
  | cons a l ih =>
    by_cases h : isDig a = true
    · simp only [List.takeWhile_cons, h, ite_true, List.mem_cons]
      rintro c (rfl | hc)
      · exact h
      · exact ih c hc
    · simp [h]
theorem digs_past (l : List UInt8) : digs l ++ past l = l := List.takeWhile_append_dropWhile

theorem decDigits_dig (u : Nat) : ∀ c ∈ Lib.decDigits u, isDig c = true := by
  induction u using Nat.strongRecOn with
  | _ u ih =>
    rw [Lib.decDigits]
    split
    · rename_i h
      intro c hc
      obtain rfl := List.mem_singleton.1 hc
      have : (UInt8.ofNat (48 + u)).toNat = 48 + u := by simp [UInt8.toNat_ofNat']; omega
      unfold isDig
      rw [this]; simp; omega
    · rename_i h
      intro c hc
      rw [List.mem_append] at hc
      rcases hc with hc | hc
      · exact ih _ (by omega) c hc
      · obtain rfl := List.mem_singleton.1 hc
        have : (UInt8.ofNat (48 + u % 10)).toNat = 48 + u % 10 := by simp [UInt8.toNat_ofNat']; omega
        unfold isDig
        rw [this]; simp; omega
theorem num_snoc (l : List UInt8) (c : UInt8) : num (l ++ [c]) = num l * 10 + (c.toNat - 48) := by simp [num, List.foldl_append]
theorem num_decDigits (u : Nat) : num (Lib.decDigits u) = u := by
  induction u using Nat.strongRecOn with
  | _ u ih =>
    rw [Lib.decDigits]
    split
    · rename_i h
      have : (UInt8.ofNat (48 + u)).toNat = 48 + u := by simp [UInt8.toNat_ofNat']; omega
      simp [num]; omega
    · rename_i h
      have : (UInt8.ofNat (48 + u % 10)).toNat = 48 + u % 10 := by simp [UInt8.toNat_ofNat']; omega
      rw [num_snoc, ih _ (by omega), this]; omega
theorem decDigits_ne (u : Nat) : Lib.decDigits u ≠ [] := by
  rw [Lib.decDigits]; split <;> simp
theorem decDigits_head (u : Nat) : (Lib.decDigits u).head? = some 48 → u = 0 := by
  induction u using Nat.strongRecOn with
  | _ u ih =>
    rw [Lib.decDigits]
    split
    · rename_i h
      intro e
      have : (UInt8.ofNat (48 + u)).toNat = 48 + u := by simp [UInt8.toNat_ofNat']; omega
      have e2 : UInt8.ofNat (48 + u) = 48 := Option.some.inj e
      rw [e2] at this
      have h48 : (48 : UInt8).toNat = 48 := rfl
      omega
    · rename_i h
      rw [List.head?_append]
      cases e : (Lib.decDigits (u / 10)).head? with
      | none => rw [List.head?_eq_none_iff] at e; exact absurd e (decDigits_ne _)
      | some c =>
        simp
        intro hc
        subst hc
        have := ih (u / 10) (by omega) e
        omega
theorem wholeOk_dec (u : Nat) : wholeOk (Lib.decDigits u) = true := by
  cases e : Lib.decDigits u with
  | nil => exact absurd e (decDigits_ne u)
  | cons c r =>
    simp only [wholeOk]
    by_cases hc : c = 48
    · have hu := decDigits_head u (by rw [e, hc]; rfl)
      subst hu
      rw [Lib.decDigits] at e
      simp at e
      rw [e.2]; simp
    · simp [hc]
end Go.Proofs.YtgcpgieojckheaaGreatDoor
namespace Go.Proofs.YtgcpgieojckheaaGreatDoor
open Go

theorem isDig_ne {c : UInt8} (h : isDig c = true) : c ≠ 45 ∧ c ≠ 43 ∧ c ≠ 46 ∧ c ≠ 101 ∧ c ≠ 69 := by
  refine ⟨?_, ?_, ?_, ?_, ?_⟩ <;> (rintro rfl; exact absurd h (by decide))
theorem minusOf_dig {l r : List UInt8} (h : ∀ c ∈ l, isDig c = true) (hn : l ≠ []) : minusOf (l ++ r) = (false, l ++ r) := by
  cases l with
  | nil => exact absurd rfl hn
  | cons a l =>
    have := (isDig_ne (h a (by simp))).1
    unfold minusOf
    split
    · rename_i r' e
      simp at e
      exact absurd e.1 this
    · rfl
theorem signOf_dig {l : List UInt8} (h : ∀ c ∈ l, isDig c = true) : signOf l = (false, l) := by
  cases l with
  | nil => rfl
  | cons a l =>
    have h1 := isDig_ne (h a (by simp))
    unfold signOf
    split
    · rename_i r' e
      simp at e
      exact absurd e.1 h1.1
    · rename_i r' e
      simp at e
      exact absurd e.1 h1.2.1
    · rfl
theorem signOf_itoa (e : Int) : signOf (Lib.itoa e) = (decide (e < 0), Lib.decDigits e.natAbs) := by
  unfold Lib.itoa
  by_cases h : e < 0
  · rw [if_pos h]; simp [signOf, h]
  · rw [if_neg h, signOf_dig (decDigits_dig _)]
    have : e.toNat = e.natAbs := by omega
    simp [h, this]
theorem expForm_head (e : Int) : ∀ c, (expForm e).head? = some c → isDig c = false := by
  intro c h
  unfold expForm at h
  split at h
  · simp at h
  · simp at h; subst h; decide
theorem fracOf_expForm (e : Int) : fracOf (expForm e) = some ([], expForm e) := by
  unfold expForm
  split
  · rfl
  · rfl
theorem past_dig {l : List UInt8} (h : ∀ c ∈ l, isDig c = true) : past l = [] := by
  have := (digs_app (l := l) (r := []) h (by simp)).2
  simpa using this
theorem expOf_expForm (e : Int) : expOf (expForm e) = some (decide (e < 0), if e = 0 then [] else Lib.decDigits e.natAbs, []) := by
  unfold expForm
  split
  · rename_i h; subst h; rfl
  · rename_i h
    simp only [expOf]
    rw [signOf_itoa, if_pos (by decide)]
    simp only
    rw [digs_all (decDigits_dig _), if_neg (decDigits_ne _), past_dig (decDigits_dig _)]
theorem wholeOk_of {l : List UInt8} (hn : l ≠ []) (h : l.head? ≠ some 48) : wholeOk l = true := by
  cases l with
  | nil => exact absurd rfl hn
  | cons c r =>
    have : c ≠ 48 := fun e => h (by rw [e]; rfl)
    simp [wholeOk, this]
theorem trimL_of {l : List UInt8} (h : l.head? ≠ some 48) : trimL l = l := by
  cases l with
  | nil => rfl
  | cons c r =>
    have : c ≠ 48 := fun e => h (by rw [e]; rfl)
    simp [trimL, isNought, this]
theorem trimR_of {l : List UInt8} (h : l.getLast? ≠ some 48) : trimR l = l := by
  unfold trimR
  have := trimL_of (l := l.reverse) (by rw [List.head?_reverse]; exact h)
  unfold trimL at this
  rw [this, List.reverse_reverse]

/-- The parts of a text that is written as a sign, digits and a power. -/
theorem parse_plain (neg : Bool) (d : List UInt8) (e : Int) (hd : ∀ c ∈ d, isDig c = true) (hw : wholeOk d = true) :
    parseR ((if neg then [45] else []) ++ d ++ expForm e) = some ⟨neg, d, [], decide (e < 0), if e = 0 then [] else Lib.decDigits e.natAbs⟩ := by
  have hn : d ≠ [] := by intro h; rw [h] at hw; exact absurd hw (by decide)
  have hm : minusOf ((if neg then [45] else []) ++ d ++ expForm e) = (neg, d ++ expForm e) := by
    cases neg with
    | true => simp [minusOf]
    | false => simpa using minusOf_dig (r := expForm e) hd hn
  have hdp := digs_app (r := expForm e) hd (expForm_head e)
  unfold parseR
  simp only [hm, hdp.1, hdp.2, hw, if_true, fracOf_expForm, expOf_expForm]
theorem power_plain (e : Int) (neg : Bool) (d f : List UInt8) : powerR ⟨neg, d, f, decide (e < 0), if e = 0 then [] else Lib.decDigits e.natAbs⟩ = e := by
  unfold powerR
  by_cases h0 : e = 0
  · subst h0; rfl
  · simp only [h0, if_false]
    rw [num_decDigits]
    by_cases h : e < 0 <;> simp [h] <;> omega
theorem Num.canon_zero {n : Num} (h : Canon n) (h0 : n.digits = []) : n = Num.zero := by
  obtain ⟨a, b⟩ := h.zero h0
  cases n; simp_all [Num.zero]
/-- An own form is read as it was. -/
theorem read_form (n : Num) (h : Canon n) (hl : tooLarge n = false) : readR (form n) = (n, 0) := by
  by_cases h0 : n.digits = []
  · have := Num.canon_zero h h0
    subst this
    decide
  · have hp := parse_plain n.neg n.digits n.exp h.dig (wholeOk_of h0 h.first)
    have hf : form n = (if n.neg then [45] else []) ++ n.digits ++ expForm n.exp := by unfold form wholeForm; rw [if_neg h0]
    unfold readR
    rw [hf, hp]
    simp only
    have hv : valueR ⟨n.neg, n.digits, [], decide (n.exp < 0), if n.exp = 0 then [] else Lib.decDigits n.exp.natAbs⟩ = n := by
      unfold valueR
      simp only [List.append_nil, trimL_of h.first, trimR_of h.last, if_neg h0, power_plain]
      simp
    rw [hv, hl]; rfl

theorem trimL_dig {l : List UInt8} (h : ∀ c ∈ l, isDig c = true) : ∀ c ∈ trimL l, isDig c = true := fun c hc => h c ((List.dropWhile_suffix _).subset hc)
theorem trimR_dig {l : List UInt8} (h : ∀ c ∈ l, isDig c = true) : ∀ c ∈ trimR l, isDig c = true := fun c hc => h c (by
  unfold trimR at hc
  rw [List.mem_reverse] at hc
  exact List.mem_reverse.1 ((List.dropWhile_suffix _).subset hc))
theorem dropWhile_head {p : UInt8 → Bool} (l : List UInt8) : ∀ c, (l.dropWhile p).head? = some c → p c = false := by
  induction l with
  | nil => simp
  | cons a l ih =>
    intro c
    by_cases h : p a = true
    · simpa [h] using ih c
    · simp [h]; rintro rfl; simpa using h
theorem trimL_head (l : List UInt8) : (trimL l).head? ≠ some 48 := fun h => by
  have := dropWhile_head l 48 h
  simp [isNought] at this
theorem trimR_last (l : List UInt8) : (trimR l).getLast? ≠ some 48 := fun h => by
  unfold trimR at h
  rw [List.getLast?_reverse] at h
  have := dropWhile_head l.reverse 48 h
  simp [isNought] at this
theorem trimR_split (l : List UInt8) : ∃ k, l = trimR l ++ List.replicate k 48 ∧ l.length = (trimR l).length + k := by
  have e := List.takeWhile_append_dropWhile (p := isNought) (l := l.reverse)
  refine ⟨(l.reverse.takeWhile isNought).length, ?_, ?_⟩
  · have h1 : l.reverse.takeWhile isNought = List.replicate (l.reverse.takeWhile isNought).length 48 := by
      apply List.eq_replicate_iff.2
      refine ⟨rfl, fun b hb => ?_⟩
      have : ∀ m : List UInt8, ∀ b ∈ m.takeWhile isNought, isNought b = true := by
        intro m
        induction m with
        | nil => simp
        | cons a m ih =>
          by_cases h : isNought a = true
          · simp only [List.takeWhile_cons, h, ite_true, List.mem_cons]
            rintro b (rfl | hb)
            · exact h
            · exact ih b hb
          · simp [h]
      have := this _ b hb
      simpa [isNought] using this
    have h2 : l = (l.reverse.takeWhile isNought ++ l.reverse.dropWhile isNought).reverse := by rw [e, List.reverse_reverse]
    rw [List.reverse_append] at h2
    have h3 : (l.reverse.takeWhile isNought).reverse = List.replicate (l.reverse.takeWhile isNought).length 48 := by
      conv => lhs; rw [h1]
      rw [List.reverse_replicate]
    rw [h3] at h2
    exact h2
  · have := congrArg List.length e
    rw [List.length_append, List.length_reverse] at this
    unfold trimR
    rw [List.length_reverse]
    omega
theorem trimR_len (l : List UInt8) : (trimR l).length ≤ l.length := by
  obtain ⟨k, _, h⟩ := trimR_split l
  omega
theorem trimR_head {l : List UInt8} (h : l.head? ≠ some 48) : (trimR l).head? ≠ some 48 := by
  obtain ⟨k, e, _⟩ := trimR_split l
  intro hh
  apply h
  rw [e, List.head?_append, hh]; rfl
theorem canon_value (p : Pt) (h1 : ∀ c ∈ p.whole, isDig c = true) (h2 : ∀ c ∈ p.frac, isDig c = true) : Canon (valueR p) := by
  have ha : ∀ c ∈ p.whole ++ p.frac, isDig c = true := fun c hc => by
    rcases List.mem_append.1 hc with h | h
    · exact h1 c h
    · exact h2 c h
  unfold valueR
  simp only
  by_cases h0 : trimR (trimL (p.whole ++ p.frac)) = []
  · rw [if_pos h0]
    exact ⟨by simp [Num.zero], by simp [Num.zero], by simp [Num.zero], fun _ => ⟨rfl, rfl⟩⟩
  · rw [if_neg h0]
    exact ⟨trimR_dig (trimL_dig ha), trimR_head (trimL_head _), trimR_last _, fun h => absurd h h0⟩
theorem parse_dig {l : List UInt8} {p : Pt} (h : parseR l = some p) : (∀ c ∈ p.whole, isDig c = true) ∧ ∀ c ∈ p.frac, isDig c = true := by
  unfold parseR at h
  simp only at h
  split at h
  · split at h
    · cases h
    · rename_i f l3 hf
      split at h
      · cases h
      · split at h
        · simp only [Option.some.injEq] at h
          subst h
          refine ⟨digs_dig _, ?_⟩
          simp only
          unfold fracOf at hf
          split at hf
          · split at hf
            · cases hf
            · simp only [Option.some.injEq, Prod.mk.injEq] at hf
              rw [← hf.1]; exact digs_dig _
          · simp only [Option.some.injEq, Prod.mk.injEq] at hf
            rw [← hf.1]; simp
        · cases h
  · cases h
theorem Canon.nought : Canon Num.zero := ⟨by simp [Num.zero], by simp [Num.zero], by simp [Num.zero], fun _ => ⟨rfl, rfl⟩⟩
theorem canon_read (l : List UInt8) : Canon (readR l).1 ∧ tooLarge (readR l).1 = false := by
  unfold readR
  split
  · exact ⟨Canon.nought, by decide⟩
  · rename_i p hp
    have := parse_dig hp
    by_cases h : tooLarge (valueR p) = true
    · rw [if_pos h]; exact ⟨Canon.nought, by decide⟩
    · rw [if_neg h]; exact ⟨canon_value p this.1 this.2, by simpa using h⟩
/-- An own form's own form is itself. -/
theorem own_own (l : List UInt8) (h : (readR l).2 = 0) : ownR (ownR l).1 = ((ownR l).1, 0) := by
  have := canon_read l
  have e : (ownR l).1 = form (readR l).1 := by unfold ownR; rw [if_pos h]
  rw [e]
  have hr := read_form _ this.1 this.2
  unfold ownR
  rw [hr]; rfl
/-- The forms tell worths apart. -/
theorem form_inj {a b : Num} (ha : Canon a) (hb : Canon b) (la : tooLarge a = false) (lb : tooLarge b = false) (h : form a = form b) : a = b := by
  have h1 := read_form a ha la
  have h2 := read_form b hb lb
  rw [h, h2] at h1
  exact (Prod.mk.inj h1).1.symm

/-! ### whole numbers -/
theorem num_app_nought (l : List UInt8) (k : Nat) : num (l ++ List.replicate k 48) = num l * 10 ^ k := by
  induction k with
  | zero => simp
  | succ k ih =>
    rw [List.replicate_succ', ← List.append_assoc, num_snoc, ih]
    simp [Nat.pow_succ, Nat.mul_assoc]
theorem decDigits_len (u k : Nat) (h : u < 10 ^ k) (hk : 0 < k) : (Lib.decDigits u).length ≤ k := by
  induction k generalizing u with
  | zero => omega
  | succ k ih =>
    rw [Lib.decDigits]
    split
    · simp
    · rename_i h10
      rw [List.length_append]
      rcases Nat.eq_zero_or_pos k with rfl | hk'
      · simp at h; omega
      · have := ih (u / 10) (by rw [Nat.pow_succ] at h; omega) hk'
        simp; omega
theorem read_itoa (n : Int) (h1 : -(2 ^ 63 : Int) ≤ n) (h2 : n < 2 ^ 63) : (readR (Lib.itoa n)).2 = 0 ∧ worth (readR (Lib.itoa n)).1 = n ∧ 0 ≤ (readR (Lib.itoa n)).1.exp := by
  have hi : Lib.itoa n = (if decide (n < 0) then [45] else []) ++ Lib.decDigits n.natAbs ++ expForm 0 := by
    unfold Lib.itoa expForm
    by_cases h : n < 0
    · simp [h]
    · have : n.toNat = n.natAbs := by omega
      simp [h, this]
  have hp := parse_plain (decide (n < 0)) (Lib.decDigits n.natAbs) 0 (decDigits_dig _) (wholeOk_dec _)
  have hlen := decDigits_len n.natAbs 19 (by omega) (by omega)
  obtain ⟨k, he, hk⟩ := trimR_split (trimL (Lib.decDigits n.natAbs))
  by_cases h0 : n = 0
  · subst h0
    have e : Lib.itoa 0 = [48] := by unfold Lib.itoa; simp; rw [Lib.decDigits]; rfl
    rw [e]
    decide
  · have hT : trimL (Lib.decDigits n.natAbs) = Lib.decDigits n.natAbs := trimL_of (fun e => by have := decDigits_head _ e; omega)
    rw [hT] at he hk
    have hnum : num (trimR (Lib.decDigits n.natAbs)) * 10 ^ k = n.natAbs := by rw [← num_app_nought, ← he, num_decDigits]
    have hne : trimR (Lib.decDigits n.natAbs) ≠ [] := by
      intro e
      rw [e] at hnum
      simp [num] at hnum
      omega
    have hp' : parseR (Lib.itoa n) = some ⟨decide (n < 0), Lib.decDigits n.natAbs, [], false, []⟩ := by rw [hi]; exact hp
    have hpw : powerR ⟨decide (n < 0), Lib.decDigits n.natAbs, [], false, []⟩ = 0 := rfl
    have hv : valueR ⟨decide (n < 0), Lib.decDigits n.natAbs, [], false, []⟩ = ⟨decide (n < 0), trimR (Lib.decDigits n.natAbs), k⟩ := by
      unfold valueR
      simp only [List.append_nil, hT, if_neg hne, hpw]
      simp
      omega
    have hl : tooLarge ⟨decide (n < 0), trimR (Lib.decDigits n.natAbs), (k : Int)⟩ = false := by
      unfold tooLarge
      simp
      omega
    have hr : readR (Lib.itoa n) = (⟨decide (n < 0), trimR (Lib.decDigits n.natAbs), (k : Int)⟩, 0) := by
      unfold readR
      rw [hp']
      simp only
      rw [hv, hl]; rfl
    rw [hr]
    refine ⟨rfl, ?_, by simp⟩
    unfold worth sizeI
    simp only [Int.toNat_natCast, hnum]
    by_cases h : n < 0 <;> simp [h] <;> omega
/-- Int of Of is the number. -/
theorem int_of (n : Int) (h1 : -(2 ^ 63 : Int) ≤ n) (h2 : n < 2 ^ 63) : intR (ofR n) = (n, 0) := by
  obtain ⟨a, b, c⟩ := read_itoa n h1 h2
  have hc := canon_read (Lib.itoa n)
  have hr := read_form _ hc.1 hc.2
  have e : ofR n = form (readR (Lib.itoa n)).1 := by unfold ofR ownR; rw [if_pos a]
  unfold intR
  rw [e, hr]
  simp only [b]
  rw [if_neg (by decide), if_neg (by omega), if_pos (by simp [fits64]; omega)]
end Go.Proofs.YtgcpgieojckheaaGreatDoor
namespace Go.Proofs.YtgcpgieojckheaaGreatDoor
open Go

/-- Held against one another: the other way about, and handed on. -/
structure Ordr {α : Type} (f : α → α → Int) : Prop where
  anti : ∀ a b, f a b = -(f b a)
  tr : ∀ a b c, f a b ≤ 0 → f b c ≤ 0 → f a c ≤ 0 ∧ (f a c = 0 → f a b = 0 ∧ f b c = 0)
theorem lexico {α : Type} (k : α → Int) (f : α → α → Int) (ha : ∀ a b, k a = k b → f a b = -(f b a))
    (ht : ∀ a b c, k a = k b → k b = k c → f a b ≤ 0 → f b c ≤ 0 → f a c ≤ 0 ∧ (f a c = 0 → f a b = 0 ∧ f b c = 0)) :
    Ordr (fun a b => if k a ≠ k b then cmpI (k a) (k b) else f a b) := by
  refine ⟨fun a b => ?_, fun a b c => ?_⟩
  · by_cases h : k a = k b
    · simp only [h, ne_eq, not_true, if_false]; exact ha a b h
    · have h' : ¬ k b = k a := fun e => h e.symm
      simp only [h, h', ne_eq, not_false_iff, if_true]
      unfold cmpI
      split <;> split <;> (try split) <;> omega
  · by_cases h1 : k a = k b
    · by_cases h2 : k b = k c
      · have h3 : k a = k c := h1.trans h2
        simp only [h1, h2, ne_eq, not_true, if_false]
        exact ht a b c h1 h2
      · have h3 : ¬ k a = k c := fun e => h2 (h1.symm.trans e)
        simp only [h1, h2, ne_eq, not_true, not_false_iff, if_false, if_true]
        unfold cmpI
        intro _ hb
        refine ⟨hb, fun e => ?_⟩
        split at e
        · omega
        · split at e <;> omega
    · by_cases h2 : k b = k c
      · have h3 : ¬ k a = k c := fun e => h1 (e.trans h2.symm)
        simp only [h1, ← h2, ne_eq, not_true, not_false_iff, if_false, if_true]
        unfold cmpI
        intro hb _
        refine ⟨hb, fun e => ?_⟩
        split at e
        · omega
        · split at e <;> omega
      · simp only [h1, h2, ne_eq, not_false_iff, if_true]
        unfold cmpI
        intro x y
        have g1 : k a < k b := by
          split at x
          · assumption
          · split at x <;> omega
        have g2 : k b < k c := by
          split at y
          · assumption
          · split at y <;> omega
        have h3 : ¬ k a = k c := by omega
        simp only [h3, not_false_iff, if_true]
        rw [if_pos (by omega : k a < k c)]
        exact ⟨by omega, fun e => by omega⟩
theorem lex_anti : ∀ a b : List UInt8, lex a b = -(lex b a)
  | [], [] => rfl
  | [], _ :: _ => rfl
  | _ :: _, [] => rfl
  | a :: as, b :: bs => by
    have := lex_anti as bs
    simp only [lex]
    split <;> split <;> omega
theorem lex_range : ∀ a b : List UInt8, lex a b = -1 ∨ lex a b = 0 ∨ lex a b = 1
  | [], [] => by simp [lex]
  | [], _ :: _ => by simp [lex]
  | _ :: _, [] => by simp [lex]
  | a :: as, b :: bs => by
    have := lex_range as bs
    simp only [lex]
    split
    · simp
    · split
      · simp
      · exact this
theorem lex_eq : ∀ a b : List UInt8, lex a b = 0 → a = b
  | [], [] => fun _ => rfl
  | [], _ :: _ => fun h => by simp [lex] at h
  | _ :: _, [] => fun h => by simp [lex] at h
  | a :: as, b :: bs => fun h => by
    simp only [lex] at h
    split at h
    · omega
    · split at h
      · omega
      · have e : a = b := UInt8.toNat_inj.1 (by omega)
        rw [e, lex_eq as bs h]
theorem lex_tr : ∀ a b c : List UInt8, lex a b ≤ 0 → lex b c ≤ 0 → lex a c ≤ 0 ∧ (lex a c = 0 → lex a b = 0 ∧ lex b c = 0)
  | [], [], c => fun _ h => ⟨h, fun e => ⟨rfl, e⟩⟩
  | [], _ :: _, [] => fun _ h => by simp [lex] at h
  | [], _ :: _, _ :: _ => fun _ _ => by simp [lex]
  | _ :: _, [], _ => fun h => by simp [lex] at h
  | _ :: _, _ :: _, [] => fun _ h => by simp [lex] at h
  | a :: as, b :: bs, c :: cs => fun h1 h2 => by
    have ih := lex_tr as bs cs
    have r1 := lex_range as bs
    have r2 := lex_range bs cs
    simp only [lex] at h1 h2 ⊢
    by_cases x1 : a.toNat < b.toNat
    · by_cases x2 : b.toNat < c.toNat
      · have x3 : a.toNat < c.toNat := by omega
        simp [x1, x3]
      · rw [if_neg x2] at h2
        by_cases x4 : c.toNat < b.toNat
        · rw [if_pos x4] at h2; omega
        · have x3 : a.toNat < c.toNat := by omega
          simp [x1, x3]
    · rw [if_neg x1] at h1
      by_cases x5 : b.toNat < a.toNat
      · rw [if_pos x5] at h1; omega
      · rw [if_neg x5] at h1
        by_cases x2 : b.toNat < c.toNat
        · have x3 : a.toNat < c.toNat := by omega
          simp [x2, x3]
        · rw [if_neg x2] at h2
          by_cases x4 : c.toNat < b.toNat
          · rw [if_pos x4] at h2; omega
          · rw [if_neg x4] at h2
            have y1 : ¬ a.toNat < c.toNat := by omega
            have y2 : ¬ c.toNat < a.toNat := by omega
            simp only [x1, x5, x2, x4, y1, y2, if_false]
            exact ih h1 h2
theorem sizes_ord : Ordr sizes := lexico topN (fun a b => lex a.digits b.digits) (fun _ _ _ => lex_anti _ _) (fun _ _ _ _ _ => lex_tr _ _ _)
theorem signN_range (n : Num) : signN n = -1 ∨ signN n = 0 ∨ signN n = 1 := by
  unfold signN; split
  · simp
  · split <;> simp
theorem cmp_ord : Ordr cmpN := by
  refine lexico signN (fun a b => signN a * sizes a b) (fun a b h => ?_) (fun a b c h1 h2 => ?_)
  · rw [sizes_ord.anti a b, ← h]; simp [Int.mul_neg]
  · have t1 := sizes_ord.tr a b c
    have t2 := sizes_ord.tr c b a
    have a1 := sizes_ord.anti a b
    have a2 := sizes_ord.anti b c
    have a3 := sizes_ord.anti a c
    simp only [← h1]
    rcases signN_range a with e | e | e <;> rw [e]
    · intro x y
      have := t2 (by omega) (by omega)
      exact ⟨by omega, fun z => by have := this.2 (by omega); omega⟩
    · intro _ _; simp
    · intro x y
      have := t1 (by omega) (by omega)
      exact ⟨by omega, fun z => by have := this.2 (by omega); omega⟩
theorem cmpN_self (a : Num) : cmpN a a = 0 := by have := cmp_ord.anti a a; omega
theorem cmpI_eq {a b : Int} (h : cmpI a b = 0) : a = b := by
  unfold cmpI at h
  split at h
  · omega
  · split at h <;> omega
theorem cmpN_eq {a b : Num} (ha : Canon a) (hb : Canon b) (h : cmpN a b = 0) : a = b := by
  unfold cmpN at h
  by_cases hs : signN a = signN b
  · rw [if_neg (by simpa using hs)] at h
    by_cases h0 : a.digits = []
    · have e : signN a = 0 := by unfold signN; rw [if_pos h0]
      have h1 : b.digits = [] := by
        rw [e] at hs
        unfold signN at hs
        by_cases g : b.digits = []
        · exact g
        · rw [if_neg g] at hs; split at hs <;> omega
      rw [Num.canon_zero ha h0, Num.canon_zero hb h1]
    · have e : signN a ≠ 0 := by unfold signN; rw [if_neg h0]; split <;> omega
      have hz : sizes a b = 0 := by
        rcases Int.mul_eq_zero.1 h with g | g
        · exact absurd g e
        · exact g
      have h1 : b.digits ≠ [] := by
        intro g
        rw [hs] at e
        unfold signN at e
        rw [if_pos g] at e
        exact e rfl
      unfold sizes at hz
      by_cases ht : topN a = topN b
      · rw [if_neg (by simpa using ht)] at hz
        have hd := lex_eq _ _ hz
        unfold topN at ht
        rw [hd] at ht
        have he : a.exp = b.exp := by omega
        unfold signN at hs
        rw [if_neg h0, if_neg h1] at hs
        have hn : a.neg = b.neg := by
          cases x : a.neg <;> cases y : b.neg <;> simp [x, y] at hs ⊢
        cases a; cases b; simp_all
      · rw [if_pos (by simpa using ht)] at hz
        exact absurd (cmpI_eq hz) ht
  · rw [if_pos (by simpa using hs)] at h
    exact absurd (cmpI_eq h) hs
/-- Two texts have the same own form just if they are held to be alike. -/
theorem alike_iff (s t : List UInt8) (h1 : (readR s).2 = 0) (h2 : (readR t).2 = 0) : ((cmpR s t).1 = 0) ↔ ((ownR s).1 = (ownR t).1) := by
  have c1 := canon_read s
  have c2 := canon_read t
  have e1 : (cmpR s t).1 = cmpN (readR s).1 (readR t).1 := by unfold cmpR; rw [if_neg (by simpa using h1), if_neg (by simpa using h2)]
  have e2 : (ownR s).1 = form (readR s).1 := by unfold ownR; rw [if_pos h1]
  have e3 : (ownR t).1 = form (readR t).1 := by unfold ownR; rw [if_pos h2]
  rw [e1, e2, e3]
  constructor
  · intro h; rw [cmpN_eq c1.1 c2.1 h]
  · intro h; rw [form_inj c1.1 c2.1 c1.2 c2.2 h]; exact cmpN_self _

/-! ### moved points -/
theorem trimR_app_nought (l : List UInt8) (k : Nat) : trimR (l ++ List.replicate k 48) = trimR l := by
  unfold trimR
  rw [List.reverse_append, List.reverse_replicate]
  induction k with
  | zero => simp
  | succ k ih => rw [List.replicate_succ, List.cons_append, List.dropWhile_cons, if_pos (by rfl)]; exact ih
theorem num_nought2 (l : List UInt8) : num (48 :: 48 :: l) = num l := by simp [num]
theorem digs_rep (k : Nat) : ∀ c ∈ List.replicate k (48 : UInt8), isDig c = true := fun c hc => by rw [(List.mem_replicate.1 hc).2]; decide
/-- Digits, a fraction of noughts (or none), and a power. -/
theorem value_moved (s : List UInt8) (k : Nat) (f : List UInt8) (e : List UInt8) (hs : s.head? = some 49) (hf : f = List.replicate k 48) :
    valueR ⟨false, s, f, false, e⟩ = ⟨false, trimR s, (num e : Int) + (s.length : Int) - ((trimR s).length : Int)⟩ := by
  have hne : trimR s ≠ [] := by
    obtain ⟨j, h1, _⟩ := trimR_split s
    intro h
    rw [h] at h1
    rw [h1] at hs
    cases j with
    | zero => simp at hs
    | succ j => simp [List.replicate_succ] at hs
  have hl := trimR_len s
  have hh : trimL (s ++ f) = s ++ f := trimL_of (by rw [List.head?_append, hs]; simp)
  subst hf
  unfold valueR powerR
  simp only [hh, trimR_app_nought, if_neg hne, List.length_append, List.length_replicate]
  simp
  omega
theorem read_value {l : List UInt8} {p : Pt} {n : Num} (h : parseR l = some p) (hv : valueR p = n) (hl : tooLarge n = false) : ownR l = (form n, 0) := by
  unfold ownR readR
  rw [h]
  simp only [hv, hl]
  rfl
theorem num_dig2 {l : List UInt8} (h : ∀ c ∈ l, isDig c = true) : ∀ c ∈ (48 :: 48 :: l), isDig c = true := fun c hc => by
  simp at hc
  rcases hc with rfl | hc
  · decide
  · exact h c hc
theorem own_moved (ds : List UInt8) (n e : Nat) (hd : ∀ c ∈ ds, isDig c = true) (hl : ds.length ≤ 150) (hn : n ≤ 40) (he : e ≤ 5000) :
    ∃ o, ownR ((49 :: ds) ++ [46, 48] ++ List.replicate n 48 ++ [101] ++ Lib.decDigits (e + n)) = (o, 0) ∧
      ownR ((49 :: ds) ++ List.replicate n 48 ++ [69, 43, 48, 48] ++ Lib.decDigits e) = (o, 0) ∧
      ownR ((49 :: ds) ++ [101] ++ Lib.decDigits (e + n)) = (o, 0) := by
  have hs : ∀ c ∈ (49 :: ds), isDig c = true := fun c hc => by
    simp at hc
    rcases hc with rfl | hc
    · decide
    · exact hd c hc
  generalize hS : 49 :: ds = s at *
  have hhead : s.head? = some 49 := by rw [← hS]; rfl
  have hlen : s.length ≤ 151 := by rw [← hS]; simp; omega
  have hne : s ≠ [] := by rw [← hS]; simp
  have hw : wholeOk s = true := wholeOk_of hne (by rw [hhead]; simp)
  have htl := trimR_len s
  refine ⟨form ⟨false, trimR s, ((e + n : Nat) : Int) + (s.length : Int) - ((trimR s).length : Int)⟩, ?_, ?_, ?_⟩
  · have hp : parseR (s ++ [46, 48] ++ List.replicate n 48 ++ [101] ++ Lib.decDigits (e + n)) = some ⟨false, s, 48 :: List.replicate n 48, false, Lib.decDigits (e + n)⟩ := by
      have ha : s ++ [46, 48] ++ List.replicate n 48 ++ [101] ++ Lib.decDigits (e + n) = s ++ (46 :: ((48 :: List.replicate n 48) ++ (101 :: Lib.decDigits (e + n)))) := by simp
      have hm := minusOf_dig (r := 46 :: ((48 :: List.replicate n 48) ++ (101 :: Lib.decDigits (e + n)))) hs hne
      have h1 := digs_app (r := 46 :: ((48 :: List.replicate n 48) ++ (101 :: Lib.decDigits (e + n)))) hs (by simp; decide)
      have h2 := digs_app (l := 48 :: List.replicate n 48) (r := 101 :: Lib.decDigits (e + n)) (digs_rep (n + 1)) (by simp; decide)
      rw [ha]
      unfold parseR
      simp only [hm, h1.1, h1.2, hw, if_true, fracOf, h2.1, h2.2]
      simp only [expOf]
      simp [signOf_dig (decDigits_dig _), digs_all (decDigits_dig _), decDigits_ne, past_dig (decDigits_dig _)]
    refine read_value hp ((value_moved s (n + 1) _ _ hhead rfl).trans (by rw [num_decDigits])) ?_
    unfold tooLarge; simp; omega
  · have hp : parseR (s ++ List.replicate n 48 ++ [69, 43, 48, 48] ++ Lib.decDigits e) = some ⟨false, s ++ List.replicate n 48, [], false, 48 :: 48 :: Lib.decDigits e⟩ := by
      have hs2 : ∀ c ∈ s ++ List.replicate n 48, isDig c = true := fun c hc => by
        rcases List.mem_append.1 hc with h | h
        · exact hs c h
        · exact digs_rep n c h
      have hne2 : s ++ List.replicate n 48 ≠ [] := by simp [hne]
      have hw2 : wholeOk (s ++ List.replicate n 48) = true := wholeOk_of hne2 (by rw [List.head?_append, hhead]; simp)
      have ha : s ++ List.replicate n 48 ++ [69, 43, 48, 48] ++ Lib.decDigits e = (s ++ List.replicate n 48) ++ (69 :: 43 :: (48 :: 48 :: Lib.decDigits e)) := by simp
      have hm := minusOf_dig (r := 69 :: 43 :: (48 :: 48 :: Lib.decDigits e)) hs2 hne2
      have h1 := digs_app (r := 69 :: 43 :: (48 :: 48 :: Lib.decDigits e)) hs2 (by simp; decide)
      have h3 := num_dig2 (decDigits_dig e)
      rw [ha]
      unfold parseR
      simp only [hm, h1.1, h1.2, hw2, if_true, fracOf]
      simp only [expOf, signOf]
      simp [digs_all h3, past_dig h3]
    have hv : valueR ⟨false, s ++ List.replicate n 48, [], false, 48 :: 48 :: Lib.decDigits e⟩ = ⟨false, trimR s, ((e + n : Nat) : Int) + (s.length : Int) - ((trimR s).length : Int)⟩ := by
      refine (value_moved (s ++ List.replicate n 48) 0 _ _ (by rw [List.head?_append, hhead]; simp) rfl).trans ?_
      rw [num_nought2, num_decDigits, trimR_app_nought]
      simp
      omega
    refine read_value hp hv ?_
    unfold tooLarge; simp; omega
  · have hp : parseR (s ++ [101] ++ Lib.decDigits (e + n)) = some ⟨false, s, [], false, Lib.decDigits (e + n)⟩ := by
      have ha : s ++ [101] ++ Lib.decDigits (e + n) = s ++ (101 :: Lib.decDigits (e + n)) := by simp
      have hm := minusOf_dig (r := 101 :: Lib.decDigits (e + n)) hs hne
      have h1 := digs_app (r := 101 :: Lib.decDigits (e + n)) hs (by simp; decide)
      rw [ha]
      unfold parseR
      simp only [hm, h1.1, h1.2, hw, if_true, fracOf]
      simp only [expOf]
      simp [signOf_dig (decDigits_dig _), digs_all (decDigits_dig _), decDigits_ne, past_dig (decDigits_dig _)]
    refine read_value hp ((value_moved s 0 _ _ hhead rfl).trans (by rw [num_decDigits])) ?_
    unfold tooLarge; simp; omega
end Go.Proofs.YtgcpgieojckheaaGreatDoor
namespace Go.Proofs.YtgcpgieojckheaaGreatDoor
open Go

structure PS where
  rest : List UInt8
  neg : Bool := false
  whole : List UInt8 := []
  frac : List UInt8 := []
  below : Bool := false
  exp : List UInt8 := []
  done : Bool := false
def cutC (c : UInt8) (l : List UInt8) : Bool × List UInt8 :=
  match l with
  | [] => (false, [])
  | a :: r => if a = c then (true, r) else (false, a :: r)
def finEnd (p : PS) : PS := { p with done := p.rest.isEmpty }
def finExp (p : PS) : PS := if digs p.rest = [] then { p with exp := [], rest := past p.rest } else finEnd { p with exp := digs p.rest, rest := past p.rest }
def finExpSign (p : PS) : PS := if (cutC 45 p.rest).1 then finExp { p with below := true, rest := (cutC 45 p.rest).2 } else finExp { p with below := false, rest := (cutC 43 p.rest).2 }
def finMark (p : PS) : PS := if (cutC 101 p.rest).1 then finExpSign { p with rest := (cutC 101 p.rest).2 } else if (cutC 69 p.rest).1 then finExpSign { p with rest := (cutC 69 p.rest).2 } else finEnd p
def finFrac (p : PS) : PS := if digs p.rest = [] then { p with frac := [], rest := past p.rest } else finMark { p with frac := digs p.rest, rest := past p.rest }
def finPoint (p : PS) : PS := if (cutC 46 p.rest).1 then finFrac { p with rest := (cutC 46 p.rest).2 } else finMark p
def finWhole (p : PS) : PS := if wholeOk (digs p.rest) then finPoint { p with whole := digs p.rest, rest := past p.rest } else { p with whole := digs p.rest, rest := past p.rest }
def finSign (p : PS) : PS := finWhole { p with neg := (cutC 45 p.rest).1, rest := (cutC 45 p.rest).2 }
/-- What comes of a state in the end. -/
def fin : Nat → PS → PS
  | 0 => finSign
  | 1 => finWhole
  | 2 => finPoint
  | 3 => finFrac
  | 4 => finMark
  | 5 => finExpSign
  | 6 => finExp
  | 7 => finEnd
  | _ => id

theorem cutC_no {c : UInt8} {l : List UInt8} (h : (cutC c l).1 = false) : (cutC c l).2 = l := by
  unfold cutC at h ⊢
  split
  · rfl
  · rename_i a r
    by_cases e : a = c
    · simp [e] at h
    · simp [e]
theorem cutC_minus (l : List UInt8) : cutC 45 l = minusOf l := by
  unfold cutC minusOf
  split
  · rfl
  · rename_i a r
    by_cases e : a = 45
    · subst e; rfl
    · rw [if_neg e]
      split
      · rename_i r' e'; simp at e'; exact absurd e'.1 e
      · rfl
def ptOf (p : PS) : Pt := ⟨p.neg, p.whole, p.frac, p.below, p.exp⟩
/-- What is answered of a text, and what must be so of the parser. -/
def Ends (q : PS) (o : Option Pt) : Prop := (q.done = true → o = some (ptOf q)) ∧ (q.done = false → o = none)
theorem ends_end (p : PS) : Ends (finEnd p) (if p.rest = [] then some (ptOf p) else none) := by
  unfold finEnd Ends ptOf
  cases h : p.rest with
  | nil => simp
  | cons a l => simp
theorem ends_none {q : PS} (hd : q.done = false) : Ends q none := ⟨fun h => (by rw [hd] at h; cases h), fun _ => rfl⟩
theorem ends_exp (p : PS) (hd : p.done = false) : Ends (finExp p) (if digs p.rest = [] then none else if past p.rest = [] then some { ptOf p with exp := digs p.rest } else none) := by
  unfold finExp
  by_cases h : digs p.rest = []
  · rw [if_pos h, if_pos h]; exact ends_none hd
  · rw [if_neg h, if_neg h]; exact ends_end { p with exp := digs p.rest, rest := past p.rest }
theorem ends_sign (p : PS) (hd : p.done = false) : Ends (finExpSign p) (if digs (signOf p.rest).2 = [] then none else if past (signOf p.rest).2 = [] then some { ptOf p with below := (signOf p.rest).1, exp := digs (signOf p.rest).2 } else none) := by
  unfold finExpSign
  cases hl : p.rest with
  | nil =>
    have := ends_exp { p with below := false, rest := [] } hd
    simpa [cutC, signOf, digs] using this
  | cons a r =>
    by_cases h1 : a = 45
    · subst h1
      exact ends_exp { p with below := true, rest := r } hd
    · by_cases h2 : a = 43
      · subst h2
        exact ends_exp { p with below := false, rest := r } hd
      · have hs : signOf (a :: r) = (false, a :: r) := by
          unfold signOf
          split
          · rename_i e; simp at e; exact absurd e.1 h1
          · rename_i e; simp at e; exact absurd e.1 h2
          · rfl
        rw [hs]
        have := ends_exp { p with below := false, rest := a :: r } hd
        simpa [cutC, h1, h2, ptOf] using this
theorem ends_mark (p : PS) (hd : p.done = false) (he : p.exp = []) (hb : p.below = false) : Ends (finMark p) (match expOf p.rest with | none => none | some (b, e, l4) => if l4 = [] then some { ptOf p with below := b, exp := e } else none) := by
  unfold finMark
  cases hl : p.rest with
  | nil =>
    have := ends_end p
    rw [hl] at this
    simpa [cutC, expOf, ptOf, he, hb] using this
  | cons a r =>
    by_cases h1 : a = 101
    · subst h1
      have := ends_sign { p with rest := r } hd
      simp only [cutC, if_true, expOf]
      by_cases h : digs (signOf r).2 = []
      · simpa [h, ptOf] using this
      · simpa [h, ptOf] using this
    · by_cases h2 : a = 69
      · subst h2
        have := ends_sign { p with rest := r } hd
        simp only [cutC, if_neg h1, if_true, expOf]
        by_cases h : digs (signOf r).2 = []
        · simpa [h, ptOf] using this
        · simpa [h, ptOf] using this
      · have := ends_end p
        rw [hl] at this
        simpa [cutC, h1, h2, expOf, ptOf, he, hb] using this
theorem ends_point (p : PS) (hd : p.done = false) (he : p.exp = []) (hb : p.below = false) (hf : p.frac = []) :
    Ends (finPoint p) (match fracOf p.rest with | none => none | some (f, l3) => match expOf l3 with | none => none | some (b, e, l4) => if l4 = [] then some ⟨p.neg, p.whole, f, b, e⟩ else none) := by
  unfold finPoint
  have other : ∀ l, l = p.rest → (cutC 46 l).1 = false → fracOf l = some ([], l) → Ends (if (cutC 46 l).1 then finFrac { p with rest := (cutC 46 l).2 } else finMark p) (match fracOf l with | none => none | some (f, l3) => match expOf l3 with | none => none | some (b, e, l4) => if l4 = [] then some ⟨p.neg, p.whole, f, b, e⟩ else none) := by
    intro l e h1 h2
    rw [h1, h2, e]
    have := ends_mark p hd he hb
    simpa [ptOf, hf] using this
  cases hl : p.rest with
  | nil => exact other [] hl.symm rfl rfl
  | cons a r =>
    by_cases h1 : a = 46
    · subst h1
      simp only [cutC, if_true, fracOf, finFrac]
      by_cases h : digs r = []
      · rw [if_pos h, if_pos h]; exact ends_none hd
      · rw [if_neg h, if_neg h]
        exact ends_mark { p with frac := digs r, rest := past r } hd he hb
    · refine other (a :: r) hl.symm (by simp [cutC, h1]) ?_
      unfold fracOf
      split
      · rename_i e; simp at e; exact absurd e.1 h1
      · rfl
theorem ends_all (l : List UInt8) : Ends (finSign { rest := l }) (parseR l) := by
  unfold finSign finWhole parseR
  simp only [cutC_minus]
  by_cases hw : wholeOk (digs (minusOf l).2) = true
  · rw [if_pos hw, if_pos hw]
    exact ends_point { rest := past (minusOf l).2, neg := (minusOf l).1, whole := digs (minusOf l).2 } rfl rfl rfl rfl
  · rw [if_neg hw, if_neg hw]
    exact ends_none rfl
end Go.Proofs.YtgcpgieojckheaaGreatDoor
