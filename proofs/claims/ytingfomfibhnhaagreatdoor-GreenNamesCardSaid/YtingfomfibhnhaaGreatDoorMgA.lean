/-
  A text as tokens, plainly: what stands at its beginning, how many bytes it has. No model in it.
  Where a token ends hangs on its own bytes alone (plainly): a token by itself, and ahead of a line's end.
  Bytes of a kind: isBlank, startsName, isInName, isDigit, the bytes of a spoilt text; leading, oneOf.
-/
import Derived.Test.YtingfomfibhnhaaGreatDoorShelf
import Derived.Lib.AtoiAll
import Derived.Lib.Strings
import Derived.Lib.DecodeN
import Derived.WalkKit
import Derived.WalkLawsBesides
import Derived.IntWalk
import Derived.Deep.RegionHeld3
import Derived.Deep.QuietTactic
import Derived.BigQuiet
import Derived.WalkSpells
import Derived.Below
import Derived.Lib.Hide
import Derived.OwnWalkIn
import Derived.LoopIn
import Derived.Outline
namespace Go.Proofs.YtingfomfibhnhaaGreatDoor

abbrev Tok := Nat × List UInt8
def lead (p : UInt8 → Bool) : List UInt8 → Nat
  | [] => 0
  | c :: r => if p c then lead p r + 1 else 0
def blankB (c : UInt8) : Bool := c == 32 || c == 9 || c == 10 || c == 13
def lowB (c : UInt8) : Bool := (decide (97 ≤ c.toNat) && decide (c.toNat ≤ 122)) || c == 95
def digB (c : UInt8) : Bool := decide (48 ≤ c.toNat) && decide (c.toNat ≤ 57)
def upB (c : UInt8) : Bool := decide (65 ≤ c.toNat) && decide (c.toNat ≤ 90)
def inB (c : UInt8) : Bool := lowB c || upB c || digB c || c == 39
def opens (l : List UInt8) : Bool := [40, 42].isPrefixOf l
def closes (l : List UInt8) : Bool := [42, 41].isPrefixOf l
def add1 (x : Nat × Bool) : Nat × Bool := (x.1 + 1, x.2)
/-- A remark: o brackets are open; p: the second byte of a bracket is next. How many bytes, and whether it ends. -/
def rem : Nat → Bool → List UInt8 → Nat × Bool
  | _, _, [] => (0, false)
  | o, true, _ :: r => if o = 0 then (1, true) else add1 (rem o false r)
  | o, false, c :: r => if opens (c :: r) then add1 (rem (o + 1) true r) else if closes (c :: r) then add1 (rem (o - 1) true r) else add1 (rem o false r)
def sgn : List UInt8 → Nat
  | [] => 0
  | c :: _ => if c == 43 || c == 45 then 1 else 0
/-- The bytes of an exponent with its e; 0: there is none. -/
def expo : List UInt8 → Nat
  | [] => 0
  | c :: r => if c == 101 || c == 69 then (if lead digB (r.drop (sgn r)) = 0 then 0 else 1 + sgn r + lead digB (r.drop (sgn r))) else 0
def valD (l : List UInt8) : Nat := l.foldl (fun n c => n * 10 + (c.toNat - 48)) 0
/-- What an exponent comes to. -/
def power : List UInt8 → Int
  | [] => 0
  | _ :: r => if r.head? = some 45 then -(valD (r.drop (sgn r)) : Int) else valD (r.drop (sgn r))
def fits (w f : Nat) (e : List UInt8) : Bool := decide (w + f ≤ 15) && decide ((f : Int) - 22 ≤ power e) && decide (power e ≤ (f : Int) + 22)
/-- Behind the digits and the point: how many digits, and the exponent. -/
def frac (r : List UInt8) : Nat := lead digB r
def expT (r : List UInt8) : List UInt8 := (r.drop (frac r)).take (expo (r.drop (frac r)))
def num (l : List UInt8) : Nat × Nat :=
  if l[lead digB l]? = some 46 then
    (if fits (lead digB l) (frac (l.drop (lead digB l + 1))) (expT (l.drop (lead digB l + 1))) then 6 else 9, lead digB l + 1 + frac (l.drop (lead digB l + 1)) + (expT (l.drop (lead digB l + 1))).length)
  else (5, lead digB l)
def escB (c : UInt8) : Bool := c == 110 || c == 116 || c == 92 || c == 34
def addN (x : Nat × Nat) : Nat × Nat := (x.1, x.2 + 1)
/-- Behind a quote: 0 as it must be; 1 behind a backslash; 2 it is Bad. The kind, and how many bytes. -/
def quo : Nat → List UInt8 → Nat × Nat
  | _, [] => (9, 0)
  | 0, c :: r => if c == 34 then (7, 1) else if c == 10 then (9, 0) else if c == 92 then addN (quo 1 r) else addN (quo 0 r)
  | 1, c :: r => if escB c then addN (quo 0 r) else if c == 10 then (9, 0) else addN (quo 2 r)
  | _ + 2, c :: r => if c == 34 then (9, 1) else if c == 10 then (9, 0) else addN (quo 2 r)
def wordsL : List (List UInt8) := [[108, 101, 116], [114, 101, 99], [105, 110], [102, 117, 110], [105, 102], [116, 104, 101, 110], [101, 108, 115, 101], [109, 97, 116, 99, 104], [119, 105, 116, 104], [116, 114, 117, 101], [102, 97, 108, 115, 101], [109, 111, 100]]
def nameK (l : List UInt8) : Nat := if l = [95] then 8 else if wordsL.contains l then 3 else 4
def twosL : List (List UInt8) := [[45, 62], [58, 58], [60, 62], [60, 61], [62, 61], [43, 46], [45, 46], [42, 46], [47, 46], [38, 38], [124, 124]]
def onesL : List UInt8 := [40, 41, 91, 93, 44, 59, 124, 61, 60, 62, 43, 45, 42, 47, 94, 64]
def runeN (l : List UInt8) : Nat := (if (⟨l.toArray⟩ : ByteArray).size = 0 then (65533, 0) else Utf8.decode ⟨l.toArray⟩ 0).2
def cutC (c : UInt8) (r : List UInt8) : Nat × Nat :=
  if blankB c then (1, lead blankB (c :: r))
  else if opens (c :: r) then (if (rem 0 false (c :: r)).2 then 2 else 9, (rem 0 false (c :: r)).1)
  else if lowB c then (nameK ((c :: r).take (lead inB (c :: r))), lead inB (c :: r))
  else if digB c then num (c :: r)
  else if c == 34 then addN (quo 0 r)
  else if twosL.contains ((c :: r).take 2) then (8, 2)
  else if onesL.contains c then (8, 1)
  else (9, runeN (c :: r))
def cut : List UInt8 → Nat × Nat
  | [] => (0, 0)
  | c :: r => cutC c r
def toksF : Nat → List UInt8 → List Tok
  | 0, _ => []
  | f + 1, l => if l = [] then [] else ((cut l).1, l.take (cut l).2) :: toksF f (l.drop (cut l).2)
def toks (l : List UInt8) : List Tok := toksF l.length l

/-! ### bytes as far as they go -/
theorem lead_le (p : UInt8 → Bool) : ∀ l, lead p l ≤ l.length
  | [] => Nat.le_refl _
  | c :: r => by unfold lead; split <;> simp; exact lead_le p r
theorem lead_take (p : UInt8 → Bool) : ∀ (l : List UInt8) (n : Nat), lead p (l.take n) = min n (lead p l)
  | [], n => by simp [lead]
  | c :: r, 0 => by simp [lead]
  | c :: r, n + 1 => by
    rw [List.take_succ_cons]; unfold lead
    split
    · rw [lead_take p r n]; omega
    · omega
theorem lead_more (p : UInt8 → Bool) (d : UInt8) (r : List UInt8) (h : p d = false) : ∀ t : List UInt8, lead p (t ++ d :: r) = lead p t
  | [] => by simp [lead, h]
  | c :: t => by rw [List.cons_append]; unfold lead; rw [lead_more p d r h t]
theorem lead_all (p : UInt8 → Bool) : ∀ (l : List UInt8) (k : Nat) (c : UInt8), k < lead p l → l[k]? = some c → p c = true
  | [], k, c, _, h2 => by simp at h2
  | d :: r, k, c, h1, h2 => by
    unfold lead at h1
    split at h1
    · cases k with
      | zero => simp at h2; subst h2; assumption
      | succ k => exact lead_all p r k c (by omega) (by simpa using h2)
    · omega
theorem lead_stop (p : UInt8 → Bool) : ∀ (l : List UInt8) (c : UInt8), l[lead p l]? = some c → p c = false
  | [], c, h => by simp at h
  | d :: r, c, h => by
    unfold lead at h
    split at h
    · exact lead_stop p r c (by simpa using h)
    · simp at h; subst h; simp_all
theorem lead_pos (p : UInt8 → Bool) (c : UInt8) (r : List UInt8) (h : p c = true) : 0 < lead p (c :: r) := by unfold lead; rw [if_pos h]; omega
theorem lead_zero (p : UInt8 → Bool) (c : UInt8) (r : List UInt8) (h : p c = false) : lead p (c :: r) = 0 := by unfold lead; rw [if_neg (by simp [h])]

/-! ### sizes -/
theorem rem_le : ∀ (l : List UInt8) (o : Nat) (p : Bool), (rem o p l).1 ≤ l.length
  | [], o, p => by unfold rem; exact Nat.le_refl _
  | c :: r, o, true => by
    unfold rem; split
    · simp
    · have := rem_le r o false; simp [add1]; omega
  | c :: r, o, false => by
    have h1 := rem_le r (o + 1) true
    have h2 := rem_le r (o - 1) true
    have h3 := rem_le r o false
    unfold rem; split
    · simp [add1]; omega
    · split <;> (simp [add1]; omega)
theorem rem_pos (c : UInt8) (r : List UInt8) (o : Nat) (p : Bool) : 0 < (rem o p (c :: r)).1 := by
  cases p <;> unfold rem <;> (repeat' split) <;> simp [add1]
theorem rem_open : ∀ (l : List UInt8) (o : Nat) (p : Bool), (rem o p l).2 = false → (rem o p l).1 = l.length
  | [], o, p, _ => by cases p <;> rfl
  | c :: r, o, true, h => by
    unfold rem at h ⊢; split at h
    · cases h
    · rename_i ho; rw [if_neg ho]; simp [add1] at h ⊢; exact rem_open r o false h
  | c :: r, o, false, h => by
    unfold rem at h ⊢; split at h
    · rename_i h1; rw [if_pos h1]; simp [add1] at h ⊢; exact rem_open r _ _ h
    · rename_i h1; rw [if_neg h1]; split at h
      · rename_i h2; rw [if_pos h2]; simp [add1] at h ⊢; exact rem_open r _ _ h
      · rename_i h2; rw [if_neg h2]; simp [add1] at h ⊢; exact rem_open r _ _ h
theorem sgn_le : ∀ l, sgn l ≤ l.length
  | [] => Nat.le_refl _
  | c :: r => by show (if c == 43 || c == 45 then 1 else 0) ≤ r.length + 1; split <;> omega
theorem expo_cons (c : UInt8) (r : List UInt8) : expo (c :: r) = if c == 101 || c == 69 then (if lead digB (r.drop (sgn r)) = 0 then 0 else 1 + sgn r + lead digB (r.drop (sgn r))) else 0 := rfl
theorem expo_le : ∀ l, expo l ≤ l.length
  | [] => Nat.le_refl _
  | c :: r => by
    have h1 := lead_le digB (r.drop (sgn r))
    have h2 := sgn_le r
    rw [List.length_drop] at h1
    rw [expo_cons, List.length_cons]; split
    · split <;> omega
    · omega
theorem expT_len (r : List UInt8) : (expT r).length = expo (r.drop (frac r)) := by
  unfold expT; rw [List.length_take, Nat.min_eq_left (expo_le _)]
theorem num_le (l : List UInt8) : (num l).2 ≤ l.length ∧ lead digB l ≤ (num l).2 := by
  have h1 := lead_le digB l
  unfold num
  split
  · rename_i h
    have h3 : lead digB l < l.length := by
      apply Nat.lt_of_not_le; intro h'; rw [List.getElem?_eq_none h'] at h; cases h
    rw [expT_len]
    have h4 := expo_le ((l.drop (lead digB l + 1)).drop (frac (l.drop (lead digB l + 1))))
    have h5 := lead_le digB (l.drop (lead digB l + 1))
    unfold frac at *
    rw [List.length_drop, List.length_drop] at h4
    rw [List.length_drop] at h5
    constructor
    · show lead digB l + 1 + _ + _ ≤ _; omega
    · show _ ≤ lead digB l + 1 + _ + _; omega
  · exact ⟨h1, Nat.le_refl _⟩
theorem quo_le : ∀ (l : List UInt8) (st : Nat), (quo st l).2 ≤ l.length
  | [], st => by cases st <;> (unfold quo; exact Nat.le_refl _)
  | c :: r, 0 => by
    have h0 := quo_le r 0
    have h1 := quo_le r 1
    unfold quo; repeat' split
    all_goals (simp [addN]; try omega)
  | c :: r, 1 => by
    have h0 := quo_le r 0
    have h1 := quo_le r 2
    unfold quo; repeat' split
    all_goals (simp [addN]; try omega)
  | c :: r, st + 2 => by
    have h1 := quo_le r 2
    unfold quo; repeat' split
    all_goals (simp [addN]; try omega)
theorem opens_len {l : List UInt8} (h : opens l = true) : 2 ≤ l.length := by
  unfold opens at h
  have := (List.isPrefixOf_iff_prefix.1 h).length_le
  simpa using this
theorem twos_len {l : List UInt8} (h : twosL.contains (l.take 2) = true) : 2 ≤ l.length := by
  have h1 : ∀ x ∈ twosL, x.length = 2 := by decide
  have h2 := h1 _ (List.contains_iff_mem.1 h)
  rw [List.length_take] at h2; omega
theorem decodeN_sz (n a b c d : Nat) (hn : 1 ≤ n) : 1 ≤ (Lib.decodeN n a b c d).2 ∧ (Lib.decodeN n a b c d).2 ≤ 4 ∧ (Lib.decodeN n a b c d).2 ≤ n := by
  unfold Lib.decodeN
  repeat' split
  all_goals (simp only []; omega)
theorem rune_bd (l : List UInt8) (h : l ≠ []) : 0 < runeN l ∧ runeN l ≤ l.length ∧ runeN l ≤ 4 := by
  have hz : (⟨l.toArray⟩ : ByteArray).size = l.length := List.size_toArray
  have hl : 1 ≤ l.length := List.length_pos_iff.2 h
  unfold runeN
  rw [if_neg (by omega), Lib.decode_at]
  have := decodeN_sz ((⟨l.toArray⟩ : ByteArray).size - 0) ((⟨l.toArray⟩ : ByteArray).get! 0).toNat ((⟨l.toArray⟩ : ByteArray).get! (0 + 1)).toNat ((⟨l.toArray⟩ : ByteArray).get! (0 + 2)).toNat ((⟨l.toArray⟩ : ByteArray).get! (0 + 3)).toNat (by omega)
  omega
theorem cut_bd (l : List UInt8) (h : l ≠ []) : 0 < (cut l).2 ∧ (cut l).2 ≤ l.length := by
  cases l with
  | nil => exact absurd rfl h
  | cons c r =>
    rw [show cut (c :: r) = cutC c r from rfl]
    unfold cutC
    by_cases h1 : blankB c = true
    · rw [if_pos h1]; exact ⟨lead_pos _ _ _ h1, lead_le _ _⟩
    rw [if_neg h1]
    by_cases h2 : opens (c :: r) = true
    · rw [if_pos h2]; exact ⟨rem_pos _ _ _ _, rem_le _ _ _⟩
    rw [if_neg h2]
    by_cases h3 : lowB c = true
    · rw [if_pos h3]; exact ⟨lead_pos _ _ _ (by simp [inB, h3]), lead_le _ _⟩
    rw [if_neg h3]
    by_cases h4 : digB c = true
    · rw [if_pos h4]; exact ⟨Nat.lt_of_lt_of_le (lead_pos _ _ _ h4) (num_le _).2, (num_le _).1⟩
    rw [if_neg h4]
    by_cases h5 : (c == 34) = true
    · rw [if_pos h5]; exact ⟨Nat.succ_pos _, Nat.succ_le_succ (quo_le r 0)⟩
    rw [if_neg h5]
    by_cases h6 : twosL.contains ((c :: r).take 2) = true
    · rw [if_pos h6]; exact ⟨by decide, twos_len h6⟩
    rw [if_neg h6]
    split
    · exact ⟨by decide, Nat.succ_le_succ (Nat.zero_le _)⟩
    · exact ⟨(rune_bd _ (by simp)).1, (rune_bd _ (by simp)).2.1⟩

/-! ### the row of tokens -/
theorem toksF_fuel : ∀ (f g : Nat) (l : List UInt8), l.length ≤ f → l.length ≤ g → toksF f l = toksF g l
  | 0, g, l, h1, _ => by
    have : l = [] := List.length_eq_zero_iff.1 (by omega)
    subst this; cases g <;> simp [toksF]
  | f + 1, 0, l, _, h2 => by
    have : l = [] := List.length_eq_zero_iff.1 (by omega)
    subst this; simp [toksF]
  | f + 1, g + 1, l, h1, h2 => by
    unfold toksF
    split
    · rfl
    · rename_i h
      have hb := cut_bd l h
      rw [toksF_fuel f g _ (by rw [List.length_drop]; omega) (by rw [List.length_drop]; omega)]
theorem toks_nil : toks [] = [] := rfl
theorem toks_cons (l : List UInt8) (h : l ≠ []) : toks l = ((cut l).1, l.take (cut l).2) :: toks (l.drop (cut l).2) := by
  have hb := cut_bd l h
  unfold toks
  cases hl : l.length with
  | zero => exact absurd (List.length_eq_zero_iff.1 hl) h
  | succ n =>
    rw [toksF, if_neg h, toksF_fuel n (l.drop (cut l).2).length _ (by rw [List.length_drop]; omega) (Nat.le_refl _)]
theorem toks_ind {P : List UInt8 → Prop} (h0 : P []) (h1 : ∀ l, l ≠ [] → P (l.drop (cut l).2) → P l) : ∀ l, P l := by
  intro l
  generalize hn : l.length = n
  induction n using Nat.strongRecOn generalizing l with
  | ind n ih =>
    by_cases h : l = []
    · subst h; exact h0
    · have hb := cut_bd l h
      exact h1 l h (ih _ (by rw [List.length_drop]; omega) _ rfl)
theorem toks_join (l : List UInt8) : (toks l).flatMap (·.2) = l := by
  induction l using toks_ind with
  | h0 => rfl
  | h1 l h ih => rw [toks_cons l h, List.flatMap_cons, ih, List.take_append_drop]
theorem toks_len (l : List UInt8) : (toks l).length ≤ l.length := by
  induction l using toks_ind with
  | h0 => exact Nat.le_refl _
  | h1 l h ih =>
    have hb := cut_bd l h
    rw [toks_cons l h, List.length_cons]; rw [List.length_drop] at ih; omega
/-- What stands behind a token has the tokens that stand behind it. -/
theorem toks_drop : ∀ (i : Nat) (l : List UInt8), toks (l.drop (((toks l).take i).flatMap (·.2)).length) = (toks l).drop i
  | 0, l => by simp
  | i + 1, l => by
    by_cases h : l = []
    · subst h; simp [toks_nil]
    · have hb := cut_bd l h
      rw [toks_cons l h, List.take_succ_cons, List.flatMap_cons, List.length_append, List.drop_succ_cons, List.length_take, Nat.min_eq_left hb.2, ← List.drop_drop, toks_drop i]
end Go.Proofs.YtingfomfibhnhaaGreatDoor
namespace Go.Proofs.YtingfomfibhnhaaGreatDoor

/-! ### by itself -/
theorem opens_take {l : List UInt8} {n : Nat} (h : 2 ≤ n) : opens (l.take n) = opens l := by
  match l, n, h with
  | [], n, _ => simp
  | [a], n + 2, _ => rfl
  | a :: b :: r, n + 2, _ => rfl
theorem closes_take {l : List UInt8} {n : Nat} (h : 2 ≤ n) : closes (l.take n) = closes l := by
  match l, n, h with
  | [], n, _ => simp
  | [a], n + 2, _ => rfl
  | a :: b :: r, n + 2, _ => rfl
theorem opens_one (a : UInt8) : opens [a] = false := by unfold opens; simp [List.isPrefixOf]
theorem closes_one (a : UInt8) : closes [a] = false := by unfold closes; simp [List.isPrefixOf]
theorem opens_mono {l : List UInt8} {n : Nat} (h : opens (l.take n) = true) : opens l = true := by
  unfold opens at *
  exact List.isPrefixOf_iff_prefix.2 ((List.isPrefixOf_iff_prefix.1 h).trans (List.take_prefix n l))
theorem closes_mono {l : List UInt8} {n : Nat} (h : closes (l.take n) = true) : closes l = true := by
  unfold closes at *
  exact List.isPrefixOf_iff_prefix.2 ((List.isPrefixOf_iff_prefix.1 h).trans (List.take_prefix n l))
theorem rem_true (o : Nat) (c : UInt8) (r : List UInt8) : rem o true (c :: r) = if o = 0 then (1, true) else add1 (rem o false r) := rfl
theorem rem_false (o : Nat) (c : UInt8) (r : List UInt8) : rem o false (c :: r) = if opens (c :: r) then add1 (rem (o + 1) true r) else if closes (c :: r) then add1 (rem (o - 1) true r) else add1 (rem o false r) := rfl
theorem rem_nil (o : Nat) (p : Bool) : rem o p [] = (0, false) := by cases p <;> rfl
theorem rem_take : ∀ (l : List UInt8) (o : Nat) (p : Bool), rem o p (l.take (rem o p l).1) = rem o p l
  | [], o, p => by simp
  | c :: r, o, true => by
    rw [rem_true]
    split
    · rename_i h; simp [rem_true, h]
    · rename_i h
      show rem o true (List.take ((rem o false r).1 + 1) (c :: r)) = _
      rw [List.take_succ_cons, rem_true, if_neg h, rem_take r o false]
  | c :: r, o, false => by
    rw [rem_false]
    split
    · rename_i h
      have h2 := opens_len h
      have h3 : 1 ≤ (rem (o + 1) true r).1 := by
        cases r with
        | nil => simp at h2
        | cons d r => exact rem_pos _ _ _ _
      show rem o false (List.take ((rem (o + 1) true r).1 + 1) (c :: r)) = _
      have h4 := opens_take (l := c :: r) (n := (rem (o + 1) true r).1 + 1) (by omega)
      rw [List.take_succ_cons] at h4 ⊢
      rw [rem_false, h4, if_pos h, rem_take r (o + 1) true]
    · rename_i hn
      split
      · rename_i h
        have h2 : 2 ≤ (c :: r).length := by
          unfold closes at h
          have := (List.isPrefixOf_iff_prefix.1 h).length_le
          simpa using this
        have h3 : 1 ≤ (rem (o - 1) true r).1 := by
          cases r with
          | nil => simp at h2
          | cons d r => exact rem_pos _ _ _ _
        show rem o false (List.take ((rem (o - 1) true r).1 + 1) (c :: r)) = _
        have h4 := closes_take (l := c :: r) (n := (rem (o - 1) true r).1 + 1) (by omega)
        have h5 := opens_take (l := c :: r) (n := (rem (o - 1) true r).1 + 1) (by omega)
        rw [List.take_succ_cons] at h4 h5 ⊢
        rw [rem_false, h5, if_neg hn, h4, if_pos h, rem_take r (o - 1) true]
      · rename_i h
        show rem o false (List.take ((rem o false r).1 + 1) (c :: r)) = _
        have h5 : ¬ opens (List.take ((rem o false r).1 + 1) (c :: r)) = true := fun x => hn (opens_mono x)
        have h4 : ¬ closes (List.take ((rem o false r).1 + 1) (c :: r)) = true := fun x => h (closes_mono x)
        rw [List.take_succ_cons] at h4 h5 ⊢
        rw [rem_false, if_neg h5, if_neg h4, rem_take r o false]
theorem sgn_take (l : List UInt8) (n : Nat) (h : 0 < n) : sgn (l.take n) = sgn l := by
  cases n with
  | zero => omega
  | succ n => cases l <;> rfl
theorem expo_take (l : List UInt8) : expo (l.take (expo l)) = expo l := by
  cases l with
  | nil => rfl
  | cons c r =>
    rw [expo_cons]
    by_cases h1 : (c == 101 || c == 69) = true
    · rw [if_pos h1]
      by_cases h2 : lead digB (r.drop (sgn r)) = 0
      · rw [if_pos h2]; rfl
      · rw [if_neg h2, Nat.add_assoc, Nat.add_comm 1, List.take_succ_cons, expo_cons, if_pos h1, sgn_take r _ (by omega), List.drop_take, Nat.add_sub_cancel_left, lead_take, Nat.min_self, if_neg h2]
        omega
    · rw [if_neg h1]; rfl
theorem num_eq (l : List UInt8) : num l = if l[lead digB l]? = some 46 then
    (if fits (lead digB l) (frac (l.drop (lead digB l + 1))) (expT (l.drop (lead digB l + 1))) then 6 else 9, lead digB l + 1 + frac (l.drop (lead digB l + 1)) + (expT (l.drop (lead digB l + 1))).length)
  else (5, lead digB l) := rfl
theorem num_take (l : List UInt8) : num (l.take (num l).2) = num l := by
  obtain ⟨W, hW⟩ : ∃ W, lead digB l = W := ⟨_, rfl⟩
  obtain ⟨R, hR⟩ : ∃ R, l.drop (W + 1) = R := ⟨_, rfl⟩
  have hE := expT_len R
  have hn := num_eq l
  rw [hW, hR] at hn
  by_cases h : l[W]? = some 46
  · rw [if_pos h] at hn
    have h2 : (num l).2 = W + 1 + (frac R + expo (R.drop (frac R))) := by rw [hn, hE]; show W + 1 + _ + _ = _; omega
    have hx := num_eq (l.take (num l).2)
    rw [lead_take, hW, h2, Nat.min_eq_right (by omega), List.getElem?_take_of_lt (by omega), if_pos h, List.drop_take, hR, Nat.add_sub_cancel_left] at hx
    have hf : frac (R.take (frac R + expo (R.drop (frac R)))) = frac R := by
      unfold frac; rw [lead_take, Nat.min_eq_right (by omega)]
    have he : expT (R.take (frac R + expo (R.drop (frac R)))) = expT R := by
      unfold expT
      rw [hf, List.drop_take, Nat.add_sub_cancel_left, expo_take, List.take_take, Nat.min_self]
    rw [h2, hx, hn, hf, he]
  · rw [if_neg h] at hn
    rw [hn]
    show num (l.take W) = _
    have hx := num_eq (l.take W)
    rw [lead_take, hW, Nat.min_self, List.getElem?_eq_none (by simp; omega), if_neg (by simp)] at hx
    exact hx
theorem quo_take : ∀ (l : List UInt8) (st : Nat), quo st (l.take (quo st l).2) = quo st l
  | [], st => by simp
  | c :: r, 0 => by
    have h0 := quo_take r 0
    have h1 := quo_take r 1
    rw [show quo 0 (c :: r) = if c == 34 then (7, 1) else if c == 10 then (9, 0) else if c == 92 then addN (quo 1 r) else addN (quo 0 r) from rfl]
    by_cases a1 : (c == 34) = true
    · rw [if_pos a1]; show quo 0 [c] = _; unfold quo; rw [if_pos a1]
    rw [if_neg a1]
    by_cases a2 : (c == 10) = true
    · rw [if_pos a2]; rfl
    rw [if_neg a2]
    by_cases a3 : (c == 92) = true
    · rw [if_pos a3]; show quo 0 (List.take ((quo 1 r).2 + 1) (c :: r)) = _
      rw [List.take_succ_cons]
      rw [show ∀ x, quo 0 (c :: x) = if c == 34 then (7, 1) else if c == 10 then (9, 0) else if c == 92 then addN (quo 1 x) else addN (quo 0 x) from fun _ => rfl, if_neg a1, if_neg a2, if_pos a3, h1]
    · rw [if_neg a3]; show quo 0 (List.take ((quo 0 r).2 + 1) (c :: r)) = _
      rw [List.take_succ_cons]
      rw [show ∀ x, quo 0 (c :: x) = if c == 34 then (7, 1) else if c == 10 then (9, 0) else if c == 92 then addN (quo 1 x) else addN (quo 0 x) from fun _ => rfl, if_neg a1, if_neg a2, if_neg a3, h0]
  | c :: r, 1 => by
    have h0 := quo_take r 0
    have h1 := quo_take r 2
    have e : ∀ x, quo 1 (c :: x) = if escB c then addN (quo 0 x) else if c == 10 then (9, 0) else addN (quo 2 x) := fun _ => rfl
    rw [e]
    by_cases a1 : escB c = true
    · rw [if_pos a1]; show quo 1 (List.take ((quo 0 r).2 + 1) (c :: r)) = _
      rw [List.take_succ_cons, e, if_pos a1, h0]
    rw [if_neg a1]
    by_cases a2 : (c == 10) = true
    · rw [if_pos a2]; rfl
    · rw [if_neg a2]; show quo 1 (List.take ((quo 2 r).2 + 1) (c :: r)) = _
      rw [List.take_succ_cons, e, if_neg a1, if_neg a2, h1]
  | c :: r, st + 2 => by
    have h1 := quo_take r 2
    have e : ∀ x, quo (st + 2) (c :: x) = if c == 34 then (9, 1) else if c == 10 then (9, 0) else addN (quo 2 x) := fun _ => rfl
    rw [e]
    by_cases a1 : (c == 34) = true
    · rw [if_pos a1]; show quo (st + 2) [c] = _; rw [e, if_pos a1]
    rw [if_neg a1]
    by_cases a2 : (c == 10) = true
    · rw [if_pos a2]; rfl
    · rw [if_neg a2]; show quo (st + 2) (List.take ((quo 2 r).2 + 1) (c :: r)) = _
      rw [List.take_succ_cons, e, if_neg a1, if_neg a2, h1]
/-- The bytes of a token of one character: what its rune asks. -/
def OneRune (l : List UInt8) : Prop := runeN (l.take (runeN l)) = runeN l
theorem take_cons_pos {α : Type _} (c : α) (r : List α) (n : Nat) (h : 0 < n) : (c :: r).take n = c :: r.take (n - 1) := by
  cases n with
  | zero => omega
  | succ n => rfl
theorem cut_take (l : List UInt8) (hr : OneRune l) : cut (l.take (cut l).2) = cut l := by
  cases l with
  | nil => rfl
  | cons c r =>
    have hp := (cut_bd (c :: r) (by simp)).1
    have key : ∀ x, cut (c :: x) = cutC c x := fun _ => rfl
    obtain ⟨n, hn⟩ : ∃ n, (cut (c :: r)).2 = n := ⟨_, rfl⟩
    rw [hn] at hp ⊢
    have htk := take_cons_pos c r n hp
    have T : cut ((c :: r).take n) = cutC c (r.take (n - 1)) := by rw [htk]; rfl
    rw [T]
    rw [key] at hn ⊢
    have U : ∀ x, cutC c x = if blankB c then (1, lead blankB (c :: x))
      else if opens (c :: x) then (if (rem 0 false (c :: x)).2 then 2 else 9, (rem 0 false (c :: x)).1)
      else if lowB c then (nameK ((c :: x).take (lead inB (c :: x))), lead inB (c :: x))
      else if digB c then num (c :: x)
      else if c == 34 then addN (quo 0 x)
      else if twosL.contains ((c :: x).take 2) then (8, 2)
      else if onesL.contains c then (8, 1)
      else (9, runeN (c :: x)) := fun _ => rfl
    rw [U] at hn
    rw [U, U, ← htk]
    by_cases h1 : blankB c = true
    · rw [if_pos h1] at hn; rw [if_pos h1, if_pos h1, ← hn, lead_take, Nat.min_self]
    rw [if_neg h1] at hn; rw [if_neg h1, if_neg h1]
    by_cases h2 : opens (c :: r) = true
    · rw [if_pos h2] at hn; rw [if_pos h2]
      have hn2 : (rem 0 false (c :: r)).1 = n := hn
      have h2n : 2 ≤ n := by
        rw [← hn2, rem_false, if_pos h2]
        have := opens_len h2
        cases r with
        | nil => simp at this
        | cons d r => have := rem_pos d r (0 + 1) true; show 2 ≤ (rem (0 + 1) true (d :: r)).1 + 1; omega
      rw [opens_take h2n, if_pos h2, ← hn2, rem_take]
    rw [if_neg h2] at hn; rw [if_neg h2, if_neg (fun x => h2 (opens_mono x))]
    by_cases h3 : lowB c = true
    · rw [if_pos h3] at hn; rw [if_pos h3, if_pos h3]
      have hn2 : lead inB (c :: r) = n := hn
      rw [← hn2, lead_take, Nat.min_self, List.take_take, Nat.min_self]
    rw [if_neg h3] at hn; rw [if_neg h3, if_neg h3]
    by_cases h4 : digB c = true
    · rw [if_pos h4] at hn; rw [if_pos h4, if_pos h4, ← hn, num_take]
    rw [if_neg h4] at hn; rw [if_neg h4, if_neg h4]
    by_cases h5 : (c == 34) = true
    · rw [if_pos h5] at hn; rw [if_pos h5, if_pos h5]
      have hn2 : n - 1 = (quo 0 r).2 := by rw [← hn]; rfl
      rw [hn2, quo_take]
    rw [if_neg h5] at hn; rw [if_neg h5, if_neg h5]
    by_cases h6 : twosL.contains ((c :: r).take 2) = true
    · rw [if_pos h6] at hn; rw [if_pos h6]
      have hn2 : 2 = n := hn
      rw [← hn2, List.take_take, Nat.min_self, if_pos h6]
    rw [if_neg h6] at hn; rw [if_neg h6]
    have h6' : ¬ twosL.contains (((c :: r).take n).take 2) = true := fun x => by
      have hl := twos_len x
      apply h6
      rw [List.length_take] at hl
      rw [List.take_take, Nat.min_eq_left (by omega)] at x
      exact x
    rw [if_neg h6']
    by_cases h7 : onesL.contains c = true
    · rw [if_pos h7, if_pos h7]
    rw [if_neg h7] at hn; rw [if_neg h7, if_neg h7]
    have hn2 : runeN (c :: r) = n := hn
    unfold OneRune at hr
    rw [← hn2, hr]

/-! ### ahead of a line's end -/
theorem opens_more (t r : List UInt8) (h : t ≠ []) : opens (t ++ 10 :: r) = opens t := by
  match t, h with
  | [a], _ => unfold opens; simp [List.isPrefixOf]
  | a :: b :: t, _ => rfl
theorem rem_more : ∀ (t s : List UInt8) (o : Nat) (p : Bool), (rem o p t).2 = true → rem o p (t ++ s) = rem o p t
  | [], s, o, p, h => by rw [rem_nil] at h; cases h
  | c :: t, s, o, true, h => by
    rw [List.cons_append, rem_true, rem_true]
    rw [rem_true] at h
    split
    · rfl
    · rename_i ho; rw [if_neg ho] at h; rw [rem_more t s o false h]
  | [c], s, o, false, h => by
    rw [rem_false, opens_one, closes_one, if_neg (by simp), if_neg (by simp), rem_nil] at h; cases h
  | c :: d :: t, s, o, false, h => by
    have e1 : opens ((c :: d :: t) ++ s) = opens (c :: d :: t) := rfl
    have e2 : closes ((c :: d :: t) ++ s) = closes (c :: d :: t) := rfl
    rw [rem_false] at h
    have e3 : rem o false ((c :: d :: t) ++ s) = if opens ((c :: d :: t) ++ s) then add1 (rem (o + 1) true ((d :: t) ++ s)) else if closes ((c :: d :: t) ++ s) then add1 (rem (o - 1) true ((d :: t) ++ s)) else add1 (rem o false ((d :: t) ++ s)) := rfl
    rw [e3, rem_false, e1, e2]
    by_cases h1 : opens (c :: d :: t) = true
    · rw [if_pos h1] at h; rw [if_pos h1, if_pos h1, rem_more (d :: t) s _ _ h]
    rw [if_neg h1] at h; rw [if_neg h1, if_neg h1]
    by_cases h2 : closes (c :: d :: t) = true
    · rw [if_pos h2] at h; rw [if_pos h2, if_pos h2, rem_more (d :: t) s _ _ h]
    rw [if_neg h2] at h; rw [if_neg h2, if_neg h2, rem_more (d :: t) s _ _ h]
theorem sgn_more (t r : List UInt8) : sgn (t ++ 10 :: r) = sgn t := by cases t <;> rfl
theorem drop_more (t r : List UInt8) (k : Nat) (h : k ≤ t.length) : (t ++ 10 :: r).drop k = t.drop k ++ 10 :: r := List.drop_append_of_le_length h
theorem expo_more (t r : List UInt8) : expo (t ++ 10 :: r) = expo t := by
  cases t with
  | nil => rfl
  | cons c t =>
    rw [List.cons_append, expo_cons, expo_cons, sgn_more, drop_more _ _ _ (sgn_le t), lead_more digB 10 r (by decide)]
theorem num_more (t r : List UInt8) : num (t ++ 10 :: r) = num t := by
  have hl := lead_le digB t
  rw [num_eq, num_eq, lead_more digB 10 r (by decide)]
  by_cases h : lead digB t < t.length
  · rw [List.getElem?_append_left h, drop_more _ _ _ (by omega)]
    have e1 : ∀ x : List UInt8, frac (x ++ 10 :: r) = frac x := fun x => lead_more digB 10 r (by decide) x
    have e2 : ∀ x : List UInt8, expT (x ++ 10 :: r) = expT x := fun x => by
      unfold expT
      rw [e1, drop_more _ _ (frac x) (lead_le digB x), expo_more, List.take_append_of_le_length (expo_le _)]
    rw [e1, e2]
  · rw [List.getElem?_append_right (by omega), List.getElem?_eq_none (l := t) (by omega), show lead digB t - t.length = 0 by omega, if_neg (by simp), if_neg (by simp)]
theorem quo_more (r : List UInt8) : ∀ (t : List UInt8) (st : Nat), quo st (t ++ 10 :: r) = quo st t
  | [], 0 => rfl
  | [], 1 => rfl
  | [], st + 2 => rfl
  | c :: t, 0 => by
    have e : ∀ x, quo 0 (c :: x) = if c == 34 then (7, 1) else if c == 10 then (9, 0) else if c == 92 then addN (quo 1 x) else addN (quo 0 x) := fun _ => rfl
    rw [List.cons_append, e, e, quo_more r t 1, quo_more r t 0]
  | c :: t, 1 => by
    have e : ∀ x, quo 1 (c :: x) = if escB c then addN (quo 0 x) else if c == 10 then (9, 0) else addN (quo 2 x) := fun _ => rfl
    rw [List.cons_append, e, e, quo_more r t 2, quo_more r t 0]
  | c :: t, st + 2 => by
    have e : ∀ x, quo (st + 2) (c :: x) = if c == 34 then (9, 1) else if c == 10 then (9, 0) else addN (quo 2 x) := fun _ => rfl
    rw [List.cons_append, e, e, quo_more r t 2]
/-- A token ahead of a line's end stays it, if it is no Blank, and no remark without an end. -/
theorem cut_more (t r : List UInt8) (ht : t ≠ []) (hb : (cut t).1 ≠ 1) (ho : ¬ ((cut t).1 = 9 ∧ opens t = true)) (hr : runeN (t ++ 10 :: r) = runeN t) : cut (t ++ 10 :: r) = cut t := by
  cases t with
  | nil => exact absurd rfl ht
  | cons c t =>
    have U : ∀ x, cut (c :: x) = if blankB c then (1, lead blankB (c :: x))
      else if opens (c :: x) then (if (rem 0 false (c :: x)).2 then 2 else 9, (rem 0 false (c :: x)).1)
      else if lowB c then (nameK ((c :: x).take (lead inB (c :: x))), lead inB (c :: x))
      else if digB c then num (c :: x)
      else if c == 34 then addN (quo 0 x)
      else if twosL.contains ((c :: x).take 2) then (8, 2)
      else if onesL.contains c then (8, 1)
      else (9, runeN (c :: x)) := fun _ => rfl
    rw [U] at hb ho
    rw [List.cons_append, U, U, ← List.cons_append]
    by_cases h1 : blankB c = true
    · rw [if_pos h1] at hb; exact absurd rfl hb
    rw [if_neg h1] at hb ho
    rw [if_neg h1, if_neg h1, opens_more _ _ ht]
    by_cases h2 : opens (c :: t) = true
    · rw [if_pos h2] at ho; rw [if_pos h2, if_pos h2]
      have h3 : (rem 0 false (c :: t)).2 = true := by
        apply Classical.byContradiction; intro h; exact ho ⟨by rw [if_neg h], h2⟩
      rw [rem_more _ _ _ _ h3]
    rw [if_neg h2, if_neg h2, lead_more inB 10 r (by decide), List.take_append_of_le_length (lead_le _ _), num_more, quo_more]
    by_cases h3 : lowB c = true
    · rw [if_pos h3, if_pos h3]
    rw [if_neg h3, if_neg h3]
    by_cases h4 : digB c = true
    · rw [if_pos h4, if_pos h4]
    rw [if_neg h4, if_neg h4]
    by_cases h5 : (c == 34) = true
    · rw [if_pos h5, if_pos h5]
    rw [if_neg h5, if_neg h5, hr]
    have h6 : twosL.contains (((c :: t) ++ 10 :: r).take 2) = twosL.contains ((c :: t).take 2) := by
      cases t with
      | nil =>
        show twosL.contains [c, 10] = twosL.contains [c]
        unfold twosL
        simp
      | cons d t => rfl
    rw [h6]
end Go.Proofs.YtingfomfibhnhaaGreatDoor
namespace Go.Proofs.YtingfomfibhnhaaGreatDoor
open Go.RowKit

theorem u8_eq {c k : UInt8} {n : Int} (h : (k.toNat : Int) = n) : ((c.toNat : Int) == n) = (c == k) := by
  rw [Bool.eq_iff_iff, beq_iff_eq, beq_iff_eq, ← h]
  exact ⟨fun e => UInt8.toNat_inj.1 (by omega), fun e => by rw [e]⟩
theorem u8_ne {c k : UInt8} {n : Int} (h : (k.toNat : Int) = n) : ((c.toNat : Int) != n) = !(c == k) := by
  rw [bne, u8_eq h]
theorem isDigit_any (c : UInt8) (w : World) : Calls Tryz.prog 100 #[.int .u8 c.toNat] w fun e w' => e = .returned (.bool (digB c)) ∧ w = w' := by
  have HB : Hid (digB c = (decide ((48 : Int) ≤ c.toNat) && decide ((c.toNat : Int) ≤ 57))) := Lib.hid (by unfold digB; congr 1 <;> (apply decide_eq_decide.2; omega))
  by_cases h1 : (48 : Int) ≤ c.toNat
  all_goals
    by_cases h2 : (c.toNat : Int) ≤ 57
  all_goals
    go_enter Tryz.func100, Tryz.ntmps100
    go_wp2
    go_ret
    exact ⟨by rw [HB.out]; simp [h1, h2], rfl⟩
theorem startsName_any (c : UInt8) (w : World) : Calls Tryz.prog 98 #[.int .u8 c.toNat] w fun e w' => e = .returned (.bool (lowB c)) ∧ w = w' := by
  have HB : Hid (lowB c = ((decide ((97 : Int) ≤ c.toNat) && decide ((c.toNat : Int) ≤ 122)) || c == 95)) := Lib.hid (by unfold lowB; congr 2 <;> (apply decide_eq_decide.2; omega))
  have e1 : ((c.toNat : Int) == 95) = (c == 95) := u8_eq rfl
  generalize (c == 95) = B at *
  by_cases h1 : (97 : Int) ≤ c.toNat
  all_goals
    by_cases h2 : (c.toNat : Int) ≤ 122
  all_goals
    cases B
  all_goals
    go_enter Tryz.func98, Tryz.ntmps98
    go_wp2
    go_ret
    exact ⟨by rw [HB.out]; simp [h1, h2], rfl⟩
theorem isBlank_any (c : UInt8) (w : World) : Calls Tryz.prog 95 #[.int .u8 c.toNat] w fun e w' => e = .returned (.bool (blankB c)) ∧ w = w' := by
  have HB : Hid (blankB c = (c == 32 || c == 9 || c == 10 || c == 13)) := rfl
  have e1 : ((c.toNat : Int) == 32) = (c == 32) := u8_eq rfl
  have e2 : ((c.toNat : Int) == 9) = (c == 9) := u8_eq rfl
  have e3 : ((c.toNat : Int) == 10) = (c == 10) := u8_eq rfl
  have e4 : ((c.toNat : Int) == 13) = (c == 13) := u8_eq rfl
  generalize (c == 32) = B1 at *
  generalize (c == 9) = B2 at *
  generalize (c == 10) = B3 at *
  generalize (c == 13) = B4 at *
  cases B1
  all_goals
    cases B2
  all_goals
    cases B3
  all_goals
    go_enter Tryz.func95, Tryz.ntmps95
    go_wp2
    go_ret
    exact ⟨by rw [HB.out]; simp, rfl⟩
theorem isSpoilt_any (c : UInt8) (w : World) : Calls Tryz.prog 111 #[.int .u8 c.toNat] w fun e w' => e = .returned (.bool (!(c == 34) && !(c == 10))) ∧ w = w' := by
  have e1 : ((c.toNat : Int) != 34) = !(c == 34) := u8_ne rfl
  have e2 : ((c.toNat : Int) != 10) = !(c == 10) := u8_ne rfl
  generalize (c == 34) = B1 at *
  generalize (c == 10) = B2 at *
  cases B1
  all_goals
    cases B2
  all_goals
    go_enter Tryz.func111, Tryz.ntmps111
    go_wp2
    go_ret
    exact ⟨rfl, rfl⟩
theorem isInName_any (c : UInt8) (w : World) : Calls Tryz.prog 99 #[.int .u8 c.toNat] w fun e w' => e = .returned (.bool (inB c)) ∧ w = w' := by
  have HB : Hid (inB c = (lowB c || (decide ((65 : Int) ≤ c.toNat) && decide ((c.toNat : Int) ≤ 90)) || digB c || c == 39)) := Lib.hid (by unfold inB upB; congr 3; congr 1 <;> (apply decide_eq_decide.2; omega))
  have e1 : ((c.toNat : Int) == 39) = (c == 39) := u8_eq rfl
  have hs := fun w => startsName_any c w
  have hd := fun w => isDigit_any c w
  generalize (c == 39) = B at *
  generalize lowB c = L at *
  generalize digB c = D at *
  cases L
  all_goals
    rcases (by omega : ¬ (65 : Int) ≤ c.toNat ∨ ((65 : Int) ≤ c.toNat ∧ (c.toNat : Int) ≤ 90) ∨ ((65 : Int) ≤ c.toNat ∧ ¬ (c.toNat : Int) ≤ 90)) with h1 | ⟨h1, h2⟩ | ⟨h1, h2⟩
  all_goals
    cases D
  all_goals
    cases B
  all_goals
    go_enter Tryz.func99, Tryz.ntmps99
    go_wp2_with (first | (go_at_call 98; refine (hs _).mono ?_; rintro e w' ⟨rfl, rfl⟩) | (go_at_call 100; refine (hd _).mono ?_; rintro e w' ⟨rfl, rfl⟩))
    go_ret
    exact ⟨by rw [HB.out]; first | (simp [*]; done) | (simp [*]; omega), rfl⟩
theorem str_get (s : ByteArray) (k : Nat) (h : k < s.size) : s.data.toList[k]? = some (s[k]'h) := by
  rw [List.getElem?_eq_getElem (by rw [← Lib.size_eq]; exact h)]; rfl
theorem lead_drop_pos {p : UInt8 → Bool} {l : List UInt8} {k : Nat} {c : UInt8} (hc : l[k]? = some c) (hp : p c = true) (h : lead p l = k + lead p (l.drop k)) : lead p l = (k + 1) + lead p (l.drop (k + 1)) := by
  have hk : k < l.length := (List.getElem?_eq_some_iff.1 hc).1
  have hg : l[k] = c := (List.getElem?_eq_some_iff.1 hc).2
  rw [List.drop_eq_getElem_cons hk, hg] at h
  rw [h]; unfold lead; rw [if_pos hp]
  cases hd : l.drop (k + 1) with
  | nil => rfl
  | cons a r => simp only [lead]; omega
theorem lead_drop_neg {p : UInt8 → Bool} {l : List UInt8} {k : Nat} {c : UInt8} (hc : l[k]? = some c) (hp : p c = false) (h : lead p l = k + lead p (l.drop k)) : lead p l = k := by
  have hk : k < l.length := (List.getElem?_eq_some_iff.1 hc).1
  have hg : l[k] = c := (List.getElem?_eq_some_iff.1 hc).2
  rw [List.drop_eq_getElem_cons hk, hg] at h
  rw [h]; unfold lead; rw [if_neg (by simp [hp])]; rfl
theorem lead_drop_end {p : UInt8 → Bool} {l : List UInt8} {k : Nat} (hk : l.length ≤ k) (h : lead p l = k + lead p (l.drop k)) : lead p l = k := by
  rw [h, List.drop_eq_nil_of_le hk]; rfl
set_option maxHeartbeats 1000000 in
theorem leading58 (p : UInt8 → Bool) (hf : ∀ (c : UInt8) (W : World), Calls Tryz.prog 95 #[.int .u8 c.toNat] W fun e w' => e = .returned (.bool (p c)) ∧ W = w') (s : ByteArray) (w : World) (hz : s.size ≤ 1000000000) :
    Calls Tryz.prog 94 #[.string s, .func (.func 95) #[] #[]] w fun e w' => e = .returned (.int .i64 (lead p s.data.toList : Nat)) ∧ w = w' := by
  obtain ⟨V, hV⟩ : ∃ V, lead p s.data.toList = V := ⟨_, rfl⟩
  have H0 : Hid (lead p s.data.toList = 0 + lead p (s.data.toList.drop 0)) := Lib.hid (by simp)
  rw [hV]
  have HV := Lib.hid hV
  clear hV
  go_enter Tryz.func94, Tryz.ntmps94
  go_wp2_with fail
  go_loop [5] (fun i => ∃ k : Nat, i = .int .i64 k ∧ k ≤ s.size ∧ Hid (lead p s.data.toList = k + lead p (s.data.toList.drop k))) (fun i => s.size - (intOf i).toNat)
  case atStart => exact ⟨0, rfl, Nat.zero_le _, H0⟩
  case round =>
    obtain ⟨k, rfl, hk, HJ⟩ := hrel
    by_cases hlt : k < s.size
    · have hlt' : (k : Int) < (s.size : Int) := by omega
      have hc := fun W => hf (s[k]'hlt) W
      have hgc := str_get s k hlt
      cases hp : p (s[k]'hlt) with
      | true =>
        rw [hp] at hc
        have HN : Hid (lead p s.data.toList = (k + 1 : Nat) + lead p (s.data.toList.drop (k + 1))) := Lib.hid (lead_drop_pos hgc hp HJ.out)
        clear hp hgc
        have hw : IntKind.i64.wrap ((k : Int) + 1) = ((k + 1 : Nat) : Int) := by rw [IntWalk.i64_in _ (by omega)]; omega
        go_wp2_with (go_at_call 95; refine (hc _).mono ?_; rintro e w' ⟨rfl, rfl⟩)
        go_round
        case rel => exact ⟨k + 1, rfl, by omega, HN⟩
        case measure => simp [intOf]; omega
      | false =>
        rw [hp] at hc
        have HN : Hid (V = k) := Lib.hid (HV.out.symm.trans (lead_drop_neg hgc hp HJ.out))
        clear hp hgc
        go_wp2_with (go_at_call 95; refine (hc _).mono ?_; rintro e w' ⟨rfl, rfl⟩)
        go_ret
        exact ⟨by rw [HN.out]; rfl, rfl⟩
    · have hlt' : ¬ (k : Int) < (s.size : Int) := by omega
      have HN : Hid (V = k) := Lib.hid (HV.out.symm.trans (lead_drop_end (by rw [← Lib.size_eq]; omega) HJ.out))
      go_wp2_with fail
      go_ret
      exact ⟨by rw [HN.out]; rfl, rfl⟩
set_option maxHeartbeats 1000000 in
theorem leading61 (p : UInt8 → Bool) (hf : ∀ (c : UInt8) (W : World), Calls Tryz.prog 98 #[.int .u8 c.toNat] W fun e w' => e = .returned (.bool (p c)) ∧ W = w') (s : ByteArray) (w : World) (hz : s.size ≤ 1000000000) :
    Calls Tryz.prog 94 #[.string s, .func (.func 98) #[] #[]] w fun e w' => e = .returned (.int .i64 (lead p s.data.toList : Nat)) ∧ w = w' := by
  obtain ⟨V, hV⟩ : ∃ V, lead p s.data.toList = V := ⟨_, rfl⟩
  have H0 : Hid (lead p s.data.toList = 0 + lead p (s.data.toList.drop 0)) := Lib.hid (by simp)
  rw [hV]
  have HV := Lib.hid hV
  clear hV
  go_enter Tryz.func94, Tryz.ntmps94
  go_wp2_with fail
  go_loop [5] (fun i => ∃ k : Nat, i = .int .i64 k ∧ k ≤ s.size ∧ Hid (lead p s.data.toList = k + lead p (s.data.toList.drop k))) (fun i => s.size - (intOf i).toNat)
  case atStart => exact ⟨0, rfl, Nat.zero_le _, H0⟩
  case round =>
    obtain ⟨k, rfl, hk, HJ⟩ := hrel
    by_cases hlt : k < s.size
    · have hlt' : (k : Int) < (s.size : Int) := by omega
      have hc := fun W => hf (s[k]'hlt) W
      have hgc := str_get s k hlt
      cases hp : p (s[k]'hlt) with
      | true =>
        rw [hp] at hc
        have HN : Hid (lead p s.data.toList = (k + 1 : Nat) + lead p (s.data.toList.drop (k + 1))) := Lib.hid (lead_drop_pos hgc hp HJ.out)
        clear hp hgc
        have hw : IntKind.i64.wrap ((k : Int) + 1) = ((k + 1 : Nat) : Int) := by rw [IntWalk.i64_in _ (by omega)]; omega
        go_wp2_with (go_at_call 98; refine (hc _).mono ?_; rintro e w' ⟨rfl, rfl⟩)
        go_round
        case rel => exact ⟨k + 1, rfl, by omega, HN⟩
        case measure => simp [intOf]; omega
      | false =>
        rw [hp] at hc
        have HN : Hid (V = k) := Lib.hid (HV.out.symm.trans (lead_drop_neg hgc hp HJ.out))
        clear hp hgc
        go_wp2_with (go_at_call 98; refine (hc _).mono ?_; rintro e w' ⟨rfl, rfl⟩)
        go_ret
        exact ⟨by rw [HN.out]; rfl, rfl⟩
    · have hlt' : ¬ (k : Int) < (s.size : Int) := by omega
      have HN : Hid (V = k) := Lib.hid (HV.out.symm.trans (lead_drop_end (by rw [← Lib.size_eq]; omega) HJ.out))
      go_wp2_with fail
      go_ret
      exact ⟨by rw [HN.out]; rfl, rfl⟩
set_option maxHeartbeats 1000000 in
theorem leading62 (p : UInt8 → Bool) (hf : ∀ (c : UInt8) (W : World), Calls Tryz.prog 99 #[.int .u8 c.toNat] W fun e w' => e = .returned (.bool (p c)) ∧ W = w') (s : ByteArray) (w : World) (hz : s.size ≤ 1000000000) :
    Calls Tryz.prog 94 #[.string s, .func (.func 99) #[] #[]] w fun e w' => e = .returned (.int .i64 (lead p s.data.toList : Nat)) ∧ w = w' := by
  obtain ⟨V, hV⟩ : ∃ V, lead p s.data.toList = V := ⟨_, rfl⟩
  have H0 : Hid (lead p s.data.toList = 0 + lead p (s.data.toList.drop 0)) := Lib.hid (by simp)
  rw [hV]
  have HV := Lib.hid hV
  clear hV
  go_enter Tryz.func94, Tryz.ntmps94
  go_wp2_with fail
  go_loop [5] (fun i => ∃ k : Nat, i = .int .i64 k ∧ k ≤ s.size ∧ Hid (lead p s.data.toList = k + lead p (s.data.toList.drop k))) (fun i => s.size - (intOf i).toNat)
  case atStart => exact ⟨0, rfl, Nat.zero_le _, H0⟩
  case round =>
    obtain ⟨k, rfl, hk, HJ⟩ := hrel
    by_cases hlt : k < s.size
    · have hlt' : (k : Int) < (s.size : Int) := by omega
      have hc := fun W => hf (s[k]'hlt) W
      have hgc := str_get s k hlt
      cases hp : p (s[k]'hlt) with
      | true =>
        rw [hp] at hc
        have HN : Hid (lead p s.data.toList = (k + 1 : Nat) + lead p (s.data.toList.drop (k + 1))) := Lib.hid (lead_drop_pos hgc hp HJ.out)
        clear hp hgc
        have hw : IntKind.i64.wrap ((k : Int) + 1) = ((k + 1 : Nat) : Int) := by rw [IntWalk.i64_in _ (by omega)]; omega
        go_wp2_with (go_at_call 99; refine (hc _).mono ?_; rintro e w' ⟨rfl, rfl⟩)
        go_round
        case rel => exact ⟨k + 1, rfl, by omega, HN⟩
        case measure => simp [intOf]; omega
      | false =>
        rw [hp] at hc
        have HN : Hid (V = k) := Lib.hid (HV.out.symm.trans (lead_drop_neg hgc hp HJ.out))
        clear hp hgc
        go_wp2_with (go_at_call 99; refine (hc _).mono ?_; rintro e w' ⟨rfl, rfl⟩)
        go_ret
        exact ⟨by rw [HN.out]; rfl, rfl⟩
    · have hlt' : ¬ (k : Int) < (s.size : Int) := by omega
      have HN : Hid (V = k) := Lib.hid (HV.out.symm.trans (lead_drop_end (by rw [← Lib.size_eq]; omega) HJ.out))
      go_wp2_with fail
      go_ret
      exact ⟨by rw [HN.out]; rfl, rfl⟩
set_option maxHeartbeats 1000000 in
theorem leading63 (p : UInt8 → Bool) (hf : ∀ (c : UInt8) (W : World), Calls Tryz.prog 100 #[.int .u8 c.toNat] W fun e w' => e = .returned (.bool (p c)) ∧ W = w') (s : ByteArray) (w : World) (hz : s.size ≤ 1000000000) :
    Calls Tryz.prog 94 #[.string s, .func (.func 100) #[] #[]] w fun e w' => e = .returned (.int .i64 (lead p s.data.toList : Nat)) ∧ w = w' := by
  obtain ⟨V, hV⟩ : ∃ V, lead p s.data.toList = V := ⟨_, rfl⟩
  have H0 : Hid (lead p s.data.toList = 0 + lead p (s.data.toList.drop 0)) := Lib.hid (by simp)
  rw [hV]
  have HV := Lib.hid hV
  clear hV
  go_enter Tryz.func94, Tryz.ntmps94
  go_wp2_with fail
  go_loop [5] (fun i => ∃ k : Nat, i = .int .i64 k ∧ k ≤ s.size ∧ Hid (lead p s.data.toList = k + lead p (s.data.toList.drop k))) (fun i => s.size - (intOf i).toNat)
  case atStart => exact ⟨0, rfl, Nat.zero_le _, H0⟩
  case round =>
    obtain ⟨k, rfl, hk, HJ⟩ := hrel
    by_cases hlt : k < s.size
    · have hlt' : (k : Int) < (s.size : Int) := by omega
      have hc := fun W => hf (s[k]'hlt) W
      have hgc := str_get s k hlt
      cases hp : p (s[k]'hlt) with
      | true =>
        rw [hp] at hc
        have HN : Hid (lead p s.data.toList = (k + 1 : Nat) + lead p (s.data.toList.drop (k + 1))) := Lib.hid (lead_drop_pos hgc hp HJ.out)
        clear hp hgc
        have hw : IntKind.i64.wrap ((k : Int) + 1) = ((k + 1 : Nat) : Int) := by rw [IntWalk.i64_in _ (by omega)]; omega
        go_wp2_with (go_at_call 100; refine (hc _).mono ?_; rintro e w' ⟨rfl, rfl⟩)
        go_round
        case rel => exact ⟨k + 1, rfl, by omega, HN⟩
        case measure => simp [intOf]; omega
      | false =>
        rw [hp] at hc
        have HN : Hid (V = k) := Lib.hid (HV.out.symm.trans (lead_drop_neg hgc hp HJ.out))
        clear hp hgc
        go_wp2_with (go_at_call 100; refine (hc _).mono ?_; rintro e w' ⟨rfl, rfl⟩)
        go_ret
        exact ⟨by rw [HN.out]; rfl, rfl⟩
    · have hlt' : ¬ (k : Int) < (s.size : Int) := by omega
      have HN : Hid (V = k) := Lib.hid (HV.out.symm.trans (lead_drop_end (by rw [← Lib.size_eq]; omega) HJ.out))
      go_wp2_with fail
      go_ret
      exact ⟨by rw [HN.out]; rfl, rfl⟩
set_option maxHeartbeats 1000000 in
theorem leading74 (p : UInt8 → Bool) (hf : ∀ (c : UInt8) (W : World), Calls Tryz.prog 111 #[.int .u8 c.toNat] W fun e w' => e = .returned (.bool (p c)) ∧ W = w') (s : ByteArray) (w : World) (hz : s.size ≤ 1000000000) :
    Calls Tryz.prog 94 #[.string s, .func (.func 111) #[] #[]] w fun e w' => e = .returned (.int .i64 (lead p s.data.toList : Nat)) ∧ w = w' := by
  obtain ⟨V, hV⟩ : ∃ V, lead p s.data.toList = V := ⟨_, rfl⟩
  have H0 : Hid (lead p s.data.toList = 0 + lead p (s.data.toList.drop 0)) := Lib.hid (by simp)
  rw [hV]
  have HV := Lib.hid hV
  clear hV
  go_enter Tryz.func94, Tryz.ntmps94
  go_wp2_with fail
  go_loop [5] (fun i => ∃ k : Nat, i = .int .i64 k ∧ k ≤ s.size ∧ Hid (lead p s.data.toList = k + lead p (s.data.toList.drop k))) (fun i => s.size - (intOf i).toNat)
  case atStart => exact ⟨0, rfl, Nat.zero_le _, H0⟩
  case round =>
    obtain ⟨k, rfl, hk, HJ⟩ := hrel
    by_cases hlt : k < s.size
    · have hlt' : (k : Int) < (s.size : Int) := by omega
      have hc := fun W => hf (s[k]'hlt) W
      have hgc := str_get s k hlt
      cases hp : p (s[k]'hlt) with
      | true =>
        rw [hp] at hc
        have HN : Hid (lead p s.data.toList = (k + 1 : Nat) + lead p (s.data.toList.drop (k + 1))) := Lib.hid (lead_drop_pos hgc hp HJ.out)
        clear hp hgc
        have hw : IntKind.i64.wrap ((k : Int) + 1) = ((k + 1 : Nat) : Int) := by rw [IntWalk.i64_in _ (by omega)]; omega
        go_wp2_with (go_at_call 111; refine (hc _).mono ?_; rintro e w' ⟨rfl, rfl⟩)
        go_round
        case rel => exact ⟨k + 1, rfl, by omega, HN⟩
        case measure => simp [intOf]; omega
      | false =>
        rw [hp] at hc
        have HN : Hid (V = k) := Lib.hid (HV.out.symm.trans (lead_drop_neg hgc hp HJ.out))
        clear hp hgc
        go_wp2_with (go_at_call 111; refine (hc _).mono ?_; rintro e w' ⟨rfl, rfl⟩)
        go_ret
        exact ⟨by rw [HN.out]; rfl, rfl⟩
    · have hlt' : ¬ (k : Int) < (s.size : Int) := by omega
      have HN : Hid (V = k) := Lib.hid (HV.out.symm.trans (lead_drop_end (by rw [← Lib.size_eq]; omega) HJ.out))
      go_wp2_with fail
      go_ret
      exact ⟨by rw [HN.out]; rfl, rfl⟩
end Go.Proofs.YtingfomfibhnhaaGreatDoor
