/-
  A text as tokens, plainly: what stands at its beginning, how many bytes it has. No model in it.
-/
import Derived.Lib.AtoiAll
import Derived.Lib.Strings
import Derived.Lib.DecodeN
namespace Go.Proofs.YtfedmhccbfhcbaaGreatDoor

abbrev Tok := Nat × List UInt8
def lead (p : UInt8 → Bool) : List UInt8 → Nat
  | [] => 0
  | c :: r => if p c then lead p r + 1 else 0
def blankB (c : UInt8) : Bool := c == 32 || c == 9 || c == 10 || c == 13
def lowB (c : UInt8) : Bool := (decide (97 ≤ c.toNat) && decide (c.toNat ≤ 122)) || c == 95
def digB (c : UInt8) : Bool := decide (48 ≤ c.toNat) && decide (c.toNat ≤ 57)
def upB (c : UInt8) : Bool := decide (65 ≤ c.toNat) && decide (c.toNat ≤ 90)
def inB (c : UInt8) : Bool := lowB c || upB c || digB c || c == 39
def opens (l : List UInt8) : Bool := [40, 42].isPrefixOf l
def closes (l : List UInt8) : Bool := [42, 41].isPrefixOf l
def add1 (x : Nat × Bool) : Nat × Bool := (x.1 + 1, x.2)
/-- A remark: o brackets are open; p: the second byte of a bracket is next. How many bytes, and whether it ends. -/
def rem : Nat → Bool → List UInt8 → Nat × Bool
  | _, _, [] => (0, false)
  | o, true, _ :: r => if o = 0 then (1, true) else add1 (rem o false r)
  | o, false, c :: r => if opens (c :: r) then add1 (rem (o + 1) true r) else if closes (c :: r) then add1 (rem (o - 1) true r) else add1 (rem o false r)
def sgn : List UInt8 → Nat
  | [] => 0
  | c :: _ => if c == 43 || c == 45 then 1 else 0
/-- The bytes of an exponent with its e; 0: there is none. -/
def expo : List UInt8 → Nat
  | [] => 0
  | c :: r => if c == 101 || c == 69 then (if lead digB (r.drop (sgn r)) = 0 then 0 else 1 + sgn r + lead digB (r.drop (sgn r))) else 0
def valD (l : List UInt8) : Nat := l.foldl (fun n c => n * 10 + (c.toNat - 48)) 0
/-- What an exponent comes to. -/
def power : List UInt8 → Int
  | [] => 0
  | _ :: r => if r.head? = some 45 then -(valD (r.drop (sgn r)) : Int) else valD (r.drop (sgn r))
def fits (w f : Nat) (e : List UInt8) : Bool := decide (w + f ≤ 15) && decide ((f : Int) - 22 ≤ power e) && decide (power e ≤ (f : Int) + 22)
/-- Behind the digits and the point: how many digits, and the exponent. -/
def frac (r : List UInt8) : Nat := lead digB r
def expT (r : List UInt8) : List UInt8 := (r.drop (frac r)).take (expo (r.drop (frac r)))
def num (l : List UInt8) : Nat × Nat :=
  if l[lead digB l]? = some 46 then
    (if fits (lead digB l) (frac (l.drop (lead digB l + 1))) (expT (l.drop (lead digB l + 1))) then 6 else 9, lead digB l + 1 + frac (l.drop (lead digB l + 1)) + (expT (l.drop (lead digB l + 1))).length)
  else (5, lead digB l)
def escB (c : UInt8) : Bool := c == 110 || c == 116 || c == 92 || c == 34
def addN (x : Nat × Nat) : Nat × Nat := (x.1, x.2 + 1)
/-- Behind a quote: 0 as it must be; 1 behind a backslash; 2 it is Bad. The kind, and how many bytes. -/
def quo : Nat → List UInt8 → Nat × Nat
  | _, [] => (9, 0)
  | 0, c :: r => if c == 34 then (7, 1) else if c == 10 then (9, 0) else if c == 92 then addN (quo 1 r) else addN (quo 0 r)
  | 1, c :: r => if escB c then addN (quo 0 r) else if c == 10 then (9, 0) else addN (quo 2 r)
  | _ + 2, c :: r => if c == 34 then (9, 1) else if c == 10 then (9, 0) else addN (quo 2 r)
def wordsL : List (List UInt8) := [[108, 101, 116], [114, 101, 99], [105, 110], [102, 117, 110], [105, 102], [116, 104, 101, 110], [101, 108, 115, 101], [109, 97, 116, 99, 104], [119, 105, 116, 104], [116, 114, 117, 101], [102, 97, 108, 115, 101], [109, 111, 100]]
def nameK (l : List UInt8) : Nat := if l = [95] then 8 else if wordsL.contains l then 3 else 4
def twosL : List (List UInt8) := [[45, 62], [58, 58], [60, 62], [60, 61], [62, 61], [43, 46], [45, 46], [42, 46], [47, 46], [38, 38], [124, 124]]
def onesL : List UInt8 := [40, 41, 91, 93, 44, 59, 124, 61, 60, 62, 43, 45, 42, 47, 94, 64]
def runeN (l : List UInt8) : Nat := (if (⟨l.toArray⟩ : ByteArray).size = 0 then (65533, 0) else Utf8.decode ⟨l.toArray⟩ 0).2
def cutC (c : UInt8) (r : List UInt8) : Nat × Nat :=
  if blankB c then (1, lead blankB (c :: r))
  else if opens (c :: r) then (if (rem 0 false (c :: r)).2 then 2 else 9, (rem 0 false (c :: r)).1)
  else if lowB c then (nameK ((c :: r).take (lead inB (c :: r))), lead inB (c :: r))
  else if digB c then num (c :: r)
  else if c == 34 then addN (quo 0 r)
  else if twosL.contains ((c :: r).take 2) then (8, 2)
  else if onesL.contains c then (8, 1)
  else (9, runeN (c :: r))
def cut : List UInt8 → Nat × Nat
  | [] => (0, 0)
  | c :: r => cutC c r
def toksF : Nat → List UInt8 → List Tok
  | 0, _ => []
  | f + 1, l => if l = [] then [] else ((cut l).1, l.take (cut l).2) :: toksF f (l.drop (cut l).2)
def toks (l : List UInt8) : List Tok := toksF l.length l

/-! ### bytes as far as they go -/
theorem lead_le (p : UInt8 → Bool) : ∀ l, lead p l ≤ l.length
  | [] => Nat.le_refl _
  | c :: r => by unfold lead; split <;> simp; exact lead_le p r
theorem lead_take (p : UInt8 → Bool) : ∀ (l : List UInt8) (n : Nat), lead p (l.take n) = min n (lead p l)
  | [], n => by simp [lead]
  | c :: r, 0 => by simp [lead]
  | c :: r, n + 1 => by
    rw [List.take_succ_cons]; unfold lead
    split
    · rw [lead_take p r n]; omega
    · omega
theorem lead_more (p : UInt8 → Bool) (d : UInt8) (r : List UInt8) (h : p d = false) : ∀ t : List UInt8, lead p (t ++ d :: r) = lead p t
  | [] => by simp [lead, h]
  | c :: t => by rw [List.cons_append]; unfold lead; rw [lead_more p d r h t]
theorem lead_all (p : UInt8 → Bool) : ∀ (l : List UInt8) (k : Nat) (c : UInt8), k < lead p l → l[k]? = some c → p c = true
  | [], k, c, _, h2 => by simp at h2
  | d :: r, k, c, h1, h2 => by
    unfold lead at h1
    split at h1
    · cases k with
      | zero => simp at h2; subst h2; assumption
      | succ k => exact lead_all p r k c (by omega) (by simpa using h2)
    · omega
theorem lead_stop (p : UInt8 → Bool) : ∀ (l : List UInt8) (c : UInt8), l[lead p l]? = some c → p c = false
  | [], c, h => by simp at h
  | d :: r, c, h => by
    unfold lead at h
    split at h
    · exact lead_stop p r c (by simpa using h)
    · simp at h; subst h; simp_all
theorem lead_pos (p : UInt8 → Bool) (c : UInt8) (r : List UInt8) (h : p c = true) : 0 < lead p (c :: r) := by unfold lead; rw [if_pos h]; omega
theorem lead_zero (p : UInt8 → Bool) (c : UInt8) (r : List UInt8) (h : p c = false) : lead p (c :: r) = 0 := by unfold lead; rw [if_neg (by simp [h])]

/-! ### sizes -/
theorem rem_le : ∀ (l : List UInt8) (o : Nat) (p : Bool), (rem o p l).1 ≤ l.length
  | [], o, p => by unfold rem; exact Nat.le_refl _
  | c :: r, o, true => by
    unfold rem; split
    · simp
    · have := rem_le r o false; simp [add1]; omega
  | c :: r, o, false => by
    have h1 := rem_le r (o + 1) true
    have h2 := rem_le r (o - 1) true
    have h3 := rem_le r o false
    unfold rem; split
    · simp [add1]; omega
    · split <;> (simp [add1]; omega)
theorem rem_pos (c : UInt8) (r : List UInt8) (o : Nat) (p : Bool) : 0 < (rem o p (c :: r)).1 := by
  cases p <;> unfold rem <;> (repeat' split) <;> simp [add1]
theorem rem_open : ∀ (l : List UInt8) (o : Nat) (p : Bool), (rem o p l).2 = false → (rem o p l).1 = l.length
  | [], o, p, _ => by cases p <;> rfl
  | c :: r, o, true, h => by
    unfold rem at h ⊢; split at h
    · cases h
    · rename_i ho; rw [if_neg ho]; simp [add1] at h ⊢; exact rem_open r o false h
  | c :: r, o, false, h => by
    unfold rem at h ⊢; split at h
    · rename_i h1; rw [if_pos h1]; simp [add1] at h ⊢; exact rem_open r _ _ h
    · rename_i h1; rw [if_neg h1]; split at h
      · rename_i h2; rw [if_pos h2]; simp [add1] at h ⊢; exact rem_open r _ _ h
      · rename_i h2; rw [if_neg h2]; simp [add1] at h ⊢; exact rem_open r _ _ h
theorem sgn_le : ∀ l, sgn l ≤ l.length
  | [] => Nat.le_refl _
  | c :: r => by show (if c == 43 || c == 45 then 1 else 0) ≤ r.length + 1; split <;> omega
theorem expo_cons (c : UInt8) (r : List UInt8) : expo (c :: r) = if c == 101 || c == 69 then (if lead digB (r.drop (sgn r)) = 0 then 0 else 1 + sgn r + lead digB (r.drop (sgn r))) else 0 := rfl
theorem expo_le : ∀ l, expo l ≤ l.length
  | [] => Nat.le_refl _
  | c :: r => by
    have h1 := lead_le digB (r.drop (sgn r))
    have h2 := sgn_le r
    rw [List.length_drop] at h1
    rw [expo_cons, List.length_cons]; split
    · split <;> omega
    · omega
theorem expT_len (r : List UInt8) : (expT r).length = expo (r.drop (frac r)) := by
  unfold expT; rw [List.length_take, Nat.min_eq_left (expo_le _)]
theorem num_le (l : List UInt8) : (num l).2 ≤ l.length ∧ lead digB l ≤ (num l).2 := by
  have h1 := lead_le digB l
  unfold num
  split
  · rename_i h
    have h3 : lead digB l < l.length := by
      apply Nat.lt_of_not_le; intro h'; rw [List.getElem?_eq_none h'] at h; cases h
    rw [expT_len]
    have h4 := expo_le ((l.drop (lead digB l + 1)).drop (frac (l.drop (lead digB l + 1))))
    have h5 := lead_le digB (l.drop (lead digB l + 1))
    unfold frac at *
    rw [List.length_drop, List.length_drop] at h4
    rw [List.length_drop] at h5
    constructor
    · show lead digB l + 1 + _ + _ ≤ _; omega
    · show _ ≤ lead digB l + 1 + _ + _; omega
  · exact ⟨h1, Nat.le_refl _⟩
theorem quo_le : ∀ (l : List UInt8) (st : Nat), (quo st l).2 ≤ l.length
  | [], st => by cases st <;> (unfold quo; exact Nat.le_refl _)
  | c :: r, 0 => by
    have h0 := quo_le r 0
    have h1 := quo_le r 1
    unfold quo; repeat' split
    all_goals (simp [addN]; try omega)
  | c :: r, 1 => by
    have h0 := quo_le r 0
    have h1 := quo_le r 2
    unfold quo; repeat' split
    all_goals (simp [addN]; try omega)
  | c :: r, st + 2 => by
    have h1 := quo_le r 2
    unfold quo; repeat' split
    all_goals (simp [addN]; try omega)
theorem opens_len {l : List UInt8} (h : opens l = true) : 2 ≤ l.length := by
  unfold opens at h
  have := (List.isPrefixOf_iff_prefix.1 h).length_le
  simpa using this
theorem twos_len {l : List UInt8} (h : twosL.contains (l.take 2) = true) : 2 ≤ l.length := by
  have h1 : ∀ x ∈ twosL, x.length = 2 := by decide
  have h2 := h1 _ (List.contains_iff_mem.1 h)
  rw [List.length_take] at h2; omega
theorem decodeN_sz (n a b c d : Nat) (hn : 1 ≤ n) : 1 ≤ (Lib.decodeN n a b c d).2 ∧ (Lib.decodeN n a b c d).2 ≤ 4 ∧ (Lib.decodeN n a b c d).2 ≤ n := by
  unfold Lib.decodeN
  repeat' split
  all_goals (simp only []; omega)
theorem rune_bd (l : List UInt8) (h : l ≠ []) : 0 < runeN l ∧ runeN l ≤ l.length ∧ runeN l ≤ 4 := by
  have hz : (⟨l.toArray⟩ : ByteArray).size = l.length := List.size_toArray
  have hl : 1 ≤ l.length := List.length_pos_iff.2 h
  unfold runeN
  rw [if_neg (by omega), Lib.decode_at]
  have := decodeN_sz ((⟨l.toArray⟩ : ByteArray).size - 0) ((⟨l.toArray⟩ : ByteArray).get! 0).toNat ((⟨l.toArray⟩ : ByteArray).get! (0 + 1)).toNat ((⟨l.toArray⟩ : ByteArray).get! (0 + 2)).toNat ((⟨l.toArray⟩ : ByteArray).get! (0 + 3)).toNat (by omega)
  omega
theorem cut_bd (l : List UInt8) (h : l ≠ []) : 0 < (cut l).2 ∧ (cut l).2 ≤ l.length := by
  cases l with
  | nil => exact absurd rfl h
  | cons c r =>
    rw [show cut (c :: r) = cutC c r from rfl]
    unfold cutC
    by_cases h1 : blankB c = true
    · rw [if_pos h1]; exact ⟨lead_pos _ _ _ h1, lead_le _ _⟩
    rw [if_neg h1]
    by_cases h2 : opens (c :: r) = true
    · rw [if_pos h2]; exact ⟨rem_pos _ _ _ _, rem_le _ _ _⟩
    rw [if_neg h2]
    by_cases h3 : lowB c = true
    · rw [if_pos h3]; exact ⟨lead_pos _ _ _ (by simp [inB, h3]), lead_le _ _⟩
    rw [if_neg h3]
    by_cases h4 : digB c = true
    · rw [if_pos h4]; exact ⟨Nat.lt_of_lt_of_le (lead_pos _ _ _ h4) (num_le _).2, (num_le _).1⟩
    rw [if_neg h4]
    by_cases h5 : (c == 34) = true
    · rw [if_pos h5]; exact ⟨Nat.succ_pos _, Nat.succ_le_succ (quo_le r 0)⟩
    rw [if_neg h5]
    by_cases h6 : twosL.contains ((c :: r).take 2) = true
    · rw [if_pos h6]; exact ⟨by decide, twos_len h6⟩
    rw [if_neg h6]
    split
    · exact ⟨by decide, Nat.succ_le_succ (Nat.zero_le _)⟩
    · exact ⟨(rune_bd _ (by simp)).1, (rune_bd _ (by simp)).2.1⟩

/-! ### the row of tokens -/
theorem toksF_fuel : ∀ (f g : Nat) (l : List UInt8), l.length ≤ f → l.length ≤ g → toksF f l = toksF g l
  | 0, g, l, h1, _ => by
    have : l = [] := List.length_eq_zero_iff.1 (by omega)
    subst this; cases g <;> simp [toksF]
  | f + 1, 0, l, _, h2 => by
    have : l = [] := List.length_eq_zero_iff.1 (by omega)
    subst this; simp [toksF]
  | f + 1, g + 1, l, h1, h2 => by
    unfold toksF
    split
    · rfl
    · rename_i h
      have hb := cut_bd l h
      rw [toksF_fuel f g _ (by rw [List.length_drop]; omega) (by rw [List.length_drop]; omega)]
theorem toks_nil : toks [] = [] := rfl
theorem toks_cons (l : List UInt8) (h : l ≠ []) : toks l = ((cut l).1, l.take (cut l).2) :: toks (l.drop (cut l).2) := by
  have hb := cut_bd l h
  unfold toks
  cases hl : l.length with
  | zero => exact absurd (List.length_eq_zero_iff.1 hl) h
  | succ n =>
    rw [toksF, if_neg h, toksF_fuel n (l.drop (cut l).2).length _ (by rw [List.length_drop]; omega) (Nat.le_refl _)]
theorem toks_ind {P : List UInt8 → Prop} (h0 : P []) (h1 : ∀ l, l ≠ [] → P (l.drop (cut l).2) → P l) : ∀ l, P l := by
  intro l
  generalize hn : l.length = n
  induction n using Nat.strongRecOn generalizing l with
  | ind n ih =>
    by_cases h : l = []
    · subst h; exact h0
    · have hb := cut_bd l h
      exact h1 l h (ih _ (by rw [List.length_drop]; omega) _ rfl)
theorem toks_join (l : List UInt8) : (toks l).flatMap (·.2) = l := by
  induction l using toks_ind with
  | h0 => rfl
  | h1 l h ih => rw [toks_cons l h, List.flatMap_cons, ih, List.take_append_drop]
theorem toks_len (l : List UInt8) : (toks l).length ≤ l.length := by
  induction l using toks_ind with
  | h0 => exact Nat.le_refl _
  | h1 l h ih =>
    have hb := cut_bd l h
    rw [toks_cons l h, List.length_cons]; rw [List.length_drop] at ih; omega
/-- What stands behind a token has the tokens that stand behind it. -/
theorem toks_drop : ∀ (i : Nat) (l : List UInt8), toks (l.drop (((toks l).take i).flatMap (·.2)).length) = (toks l).drop i
  | 0, l => by simp
  | i + 1, l => by
    by_cases h : l = []
    · subst h; simp [toks_nil]
    · have hb := cut_bd l h
      rw [toks_cons l h, List.take_succ_cons, List.flatMap_cons, List.length_append, List.drop_succ_cons, List.length_take, Nat.min_eq_left hb.2, ← List.drop_drop, toks_drop i]
end Go.Proofs.YtfedmhccbfhcbaaGreatDoor
