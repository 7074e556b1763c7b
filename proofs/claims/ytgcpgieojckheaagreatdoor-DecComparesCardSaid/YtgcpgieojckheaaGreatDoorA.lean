/-
  Decimals, plainly: the text, the worth, the own form. No model in it.
-/
import Derived.Lib.ItoaNum
namespace Go.Proofs.YtgcpgieojckheaaGreatDoor
open Go

def isDig (c : UInt8) : Bool := decide (48 ≤ c.toNat) && decide (c.toNat ≤ 57)
def digs (l : List UInt8) : List UInt8 := l.takeWhile isDig
def past (l : List UInt8) : List UInt8 := l.dropWhile isDig
/-- Digits as a number. -/
def num (l : List UInt8) : Nat := l.foldl (fun n c => n * 10 + (c.toNat - 48)) 0

/-- What was read of a text. -/
structure Pt where
  neg : Bool
  whole : List UInt8
  frac : List UInt8
  below : Bool
  exp : List UInt8
deriving DecidableEq

def wholeOk (w : List UInt8) : Bool := match w with
  | [] => false
  | c :: r => !(c == 48 && !r.isEmpty)
def fracOf (l : List UInt8) : Option (List UInt8 × List UInt8) :=
  match l with
  | 46 :: r => if digs r = [] then none else some (digs r, past r)
  | _ => some ([], l)
def signOf (l : List UInt8) : Bool × List UInt8 :=
  match l with
  | 45 :: r => (true, r)
  | 43 :: r => (false, r)
  | _ => (false, l)
def expOf (l : List UInt8) : Option (Bool × List UInt8 × List UInt8) :=
  match l with
  | c :: r => if c = 101 ∨ c = 69 then (if digs (signOf r).2 = [] then none else some ((signOf r).1, digs (signOf r).2, past (signOf r).2)) else some (false, [], l)
  | [] => some (false, [], [])
def minusOf (l : List UInt8) : Bool × List UInt8 :=
  match l with
  | 45 :: r => (true, r)
  | _ => (false, l)
def parseR (l : List UInt8) : Option Pt :=
  let m := minusOf l
  let w := digs m.2
  if wholeOk w then
    match fracOf (past m.2) with
    | none => none
    | some (f, l3) =>
      match expOf l3 with
      | none => none
      | some (b, e, l4) => if l4 = [] then some ⟨m.1, w, f, b, e⟩ else none
  else none

/-- A worth: the digits, without noughts at both ends (none: 0), times 10 to the power exp. -/
structure Num where
  neg : Bool
  digits : List UInt8
  exp : Int
deriving DecidableEq
def Num.zero : Num := ⟨false, [], 0⟩
def isNought (c : UInt8) : Bool := c == 48
def trimL (l : List UInt8) : List UInt8 := l.dropWhile isNought
def trimR (l : List UInt8) : List UInt8 := (l.reverse.dropWhile isNought).reverse
def powerR (p : Pt) : Int := if p.below then -(num p.exp : Int) else num p.exp
def valueR (p : Pt) : Num :=
  let all := trimL (p.whole ++ p.frac)
  let d := trimR all
  if d = [] then Num.zero else ⟨p.neg, d, powerR p - (p.frac.length : Int) + ((all.length - d.length : Nat) : Int)⟩
def tooLarge (n : Num) : Bool := decide (200 < n.digits.length) || (decide (n.exp < -9999) || decide (9999 < n.exp))
/-- The worth of a text, or the error. -/
def readR (l : List UInt8) : Num × Int :=
  match parseR l with
  | none => (Num.zero, 4)
  | some p => if tooLarge (valueR p) then (Num.zero, 40) else (valueR p, 0)
def wholeForm (n : Num) : List UInt8 := if n.digits = [] then [48] else (if n.neg then [45] else []) ++ n.digits
def expForm (e : Int) : List UInt8 := if e = 0 then [] else 101 :: Lib.itoa e
def form (n : Num) : List UInt8 := wholeForm n ++ expForm n.exp
def ownR (l : List UInt8) : List UInt8 × Int := if (readR l).2 = 0 then (form (readR l).1, 0) else ([], (readR l).2)
def signN (n : Num) : Int := if n.digits = [] then 0 else if n.neg then -1 else 1
def topN (n : Num) : Int := n.exp + (n.digits.length : Int)
def lex : List UInt8 → List UInt8 → Int
  | [], [] => 0
  | [], _ :: _ => -1
  | _ :: _, [] => 1
  | a :: as, b :: bs => if a.toNat < b.toNat then -1 else if b.toNat < a.toNat then 1 else lex as bs
def cmpI (a b : Int) : Int := if a < b then -1 else if b < a then 1 else 0
def sizes (a b : Num) : Int := if topN a ≠ topN b then cmpI (topN a) (topN b) else lex a.digits b.digits
def cmpN (a b : Num) : Int := if signN a ≠ signN b then cmpI (signN a) (signN b) else signN a * sizes a b
def cmpR (s t : List UInt8) : Int × Int :=
  if (readR s).2 ≠ 0 then (0, (readR s).2) else if (readR t).2 ≠ 0 then (0, (readR t).2) else (cmpN (readR s).1 (readR t).1, 0)
def sizeI (n : Num) : Nat := num n.digits * 10 ^ n.exp.toNat
def worth (n : Num) : Int := if n.neg then -(sizeI n : Int) else sizeI n
def fits64 (v : Int) : Bool := decide (-(2 ^ 63 : Int) ≤ v) && decide (v < 2 ^ 63)
def intR (l : List UInt8) : Int × Int :=
  if (readR l).2 ≠ 0 then (0, (readR l).2) else if (readR l).1.exp < 0 then (0, 1) else if fits64 (worth (readR l).1) then (worth (readR l).1, 0) else (0, 64)
def ofR (n : Int) : List UInt8 := (ownR (Lib.itoa n)).1

/-- A worth as it may be told: the digits are digits, without noughts at both ends; 0 has neither a sign nor a power. -/
structure Canon (n : Num) : Prop where
  dig : ∀ c ∈ n.digits, isDig c = true
  first : n.digits.head? ≠ some 48
  last : n.digits.getLast? ≠ some 48
  zero : n.digits = [] → n.neg = false ∧ n.exp = 0

/-! ### reading digits -/
theorem digs_all {l : List UInt8} (h : ∀ c ∈ l, isDig c = true) : digs l = l := by
  unfold digs
  induction l with
  | nil => rfl
  | cons a l ih => rw [List.takeWhile_cons, if_pos (h a (by simp)), ih (fun c hc => h c (by simp [hc]))]
theorem digs_app {l r : List UInt8} (h : ∀ c ∈ l, isDig c = true) (hr : ∀ c, r.head? = some c → isDig c = false) : digs (l ++ r) = l ∧ past (l ++ r) = r := by
  induction l with
  | nil =>
    cases r with
    | nil => simp [digs, past]
    | cons c r => have := hr c rfl; simp [digs, past, this]
  | cons a l ih =>
    have ha := h a (by simp)
    have := ih (fun c hc => h c (by simp [hc]))
    simp only [digs, past] at this ⊢
    simp [ha, this]
theorem digs_dig (l : List UInt8) : ∀ c ∈ digs l, isDig c = true := by
  unfold digs
  induction l with
  | nil => simp
  | cons a l ih =>
    by_cases h : isDig a = true
    · simp only [List.takeWhile_cons, h, ite_true, List.mem_cons]
      rintro c (rfl | hc)
      · exact h
      · exact ih c hc
    · simp [h]
theorem digs_past (l : List UInt8) : digs l ++ past l = l := List.takeWhile_append_dropWhile

theorem decDigits_dig (u : Nat) : ∀ c ∈ Lib.decDigits u, isDig c = true := by
  induction u using Nat.strongRecOn with
  | _ u ih =>
    rw [Lib.decDigits]
    split
    · rename_i h
      intro c hc
      obtain rfl := List.mem_singleton.1 hc
      have : (UInt8.ofNat (48 + u)).toNat = 48 + u := by simp [UInt8.toNat_ofNat']; omega
      unfold isDig
      rw [this]; simp; omega
    · rename_i h
      intro c hc
      rw [List.mem_append] at hc
      rcases hc with hc | hc
      · exact ih _ (by omega) c hc
      · obtain rfl := List.mem_singleton.1 hc
        have : (UInt8.ofNat (48 + u % 10)).toNat = 48 + u % 10 := by simp [UInt8.toNat_ofNat']; omega
        unfold isDig
        rw [this]; simp; omega
theorem num_snoc (l : List UInt8) (c : UInt8) : num (l ++ [c]) = num l * 10 + (c.toNat - 48) := by simp [num, List.foldl_append]
theorem num_decDigits (u : Nat) : num (Lib.decDigits u) = u := by
  induction u using Nat.strongRecOn with
  | _ u ih =>
    rw [Lib.decDigits]
    split
    · rename_i h
      have : (UInt8.ofNat (48 + u)).toNat = 48 + u := by simp [UInt8.toNat_ofNat']; omega
      simp [num]; omega
    · rename_i h
      have : (UInt8.ofNat (48 + u % 10)).toNat = 48 + u % 10 := by simp [UInt8.toNat_ofNat']; omega
      rw [num_snoc, ih _ (by omega), this]; omega
theorem decDigits_ne (u : Nat) : Lib.decDigits u ≠ [] := by
  rw [Lib.decDigits]; split <;> simp
theorem decDigits_head (u : Nat) : (Lib.decDigits u).head? = some 48 → u = 0 := by
  induction u using Nat.strongRecOn with
  | _ u ih =>
    rw [Lib.decDigits]
    split
    · rename_i h
      intro e
      have : (UInt8.ofNat (48 + u)).toNat = 48 + u := by simp [UInt8.toNat_ofNat']; omega
      have e2 : UInt8.ofNat (48 + u) = 48 := Option.some.inj e
      rw [e2] at this
      have h48 : (48 : UInt8).toNat = 48 := rfl
      omega
    · rename_i h
      rw [List.head?_append]
      cases e : (Lib.decDigits (u / 10)).head? with
      | none => rw [List.head?_eq_none_iff] at e; exact absurd e (decDigits_ne _)
      | some c =>
        simp
        intro hc
        subst hc
        have := ih (u / 10) (by omega) e
        omega
theorem wholeOk_dec (u : Nat) : wholeOk (Lib.decDigits u) = true := by
  cases e : Lib.decDigits u with
  | nil => exact absurd e (decDigits_ne u)
  | cons c r =>
    simp only [wholeOk]
    by_cases hc : c = 48
    · have hu := decDigits_head u (by rw [e, hc]; rfl)
      subst hu
      rw [Lib.decDigits] at e
      simp at e
      rw [e.2]; simp
    · simp [hc]
end Go.Proofs.YtgcpgieojckheaaGreatDoor
