/-
  Plainly: powers that are read with a bound; a worth as a whole number's text; bytes held against bytes.
-/
import Derived.Test.YtgcpgieojckheaaGreatDoorMgA
import Derived.Lib.ParseIntB
import Derived.Lib.Bytealg
import Derived.Lib.TrimByte
namespace Go.Proofs.YtgcpgieojckheaaGreatDoor
open Go

theorem compare_lex : ∀ a b : List UInt8, Lib.compareBytes a b = lex a b
  | [], [] => rfl
  | [], _ :: _ => rfl
  | _ :: _, [] => rfl
  | a :: as, b :: bs => by
    simp only [Lib.compareBytes, lex, UInt8.lt_iff_toNat_lt, compare_lex as bs]
theorem trimL_lib (l : List UInt8) : Lib.trimLeftB l 48 = trimL l := rfl
theorem trimR_lib (l : List UInt8) : Lib.trimRightB l 48 = trimR l := rfl

/-! ### powers -/
def PowOk (B : Nat) (p : Pt) (P : Int) : Prop :=
  (num p.exp < B ∧ P = powerR p) ∨ (B ≤ num p.exp ∧ (p.below = true → P ≤ -(B : Int) ∧ -(10 * B + 9 : Int) ≤ P) ∧ (p.below = false → (B : Int) ≤ P ∧ P ≤ 10 * B + 9))
theorem PowOk.range {B : Nat} {p : Pt} {P : Int} (h : PowOk B p P) : -(10 * B + 9 : Int) ≤ P ∧ P ≤ 10 * B + 9 := by
  rcases h with ⟨h1, h2⟩ | ⟨_, h2, h3⟩
  · unfold powerR at h2; split at h2 <;> omega
  · cases hb : p.below with
    | true => have := h2 hb; omega
    | false => have := h3 hb; omega
def valP (p : Pt) (P : Int) : Num :=
  let all := trimL (p.whole ++ p.frac)
  let d := trimR all
  if d = [] then Num.zero else ⟨p.neg, d, P - (p.frac.length : Int) + ((all.length - d.length : Nat) : Int)⟩
theorem trimL_len (l : List UInt8) : (trimL l).length ≤ l.length := (List.dropWhile_suffix _).length_le
theorem val_of {B : Nat} {p : Pt} {P : Int} (h : PowOk B p P) (hB : p.whole.length + p.frac.length + 20000 ≤ B) :
    tooLarge (valP p P) = tooLarge (valueR p) ∧ (tooLarge (valueR p) = false → valP p P = valueR p) := by
  unfold valP valueR
  simp only
  by_cases h0 : trimR (trimL (p.whole ++ p.frac)) = []
  · rw [if_pos h0, if_pos h0]; exact ⟨rfl, fun _ => rfl⟩
  · rw [if_neg h0, if_neg h0]
    rcases h with ⟨_, h2⟩ | ⟨h1, h2, h3⟩
    · rw [h2]; exact ⟨rfl, fun _ => rfl⟩
    · have l1 := trimR_len (trimL (p.whole ++ p.frac))
      have l2 := trimL_len (p.whole ++ p.frac)
      rw [List.length_append] at l2
      have key : ∀ Q : Int, (p.below = true → Q ≤ -(B : Int)) → (p.below = false → (B : Int) ≤ Q) →
          tooLarge ⟨p.neg, trimR (trimL (p.whole ++ p.frac)), Q - (p.frac.length : Int) + (((trimL (p.whole ++ p.frac)).length - (trimR (trimL (p.whole ++ p.frac))).length : Nat) : Int)⟩ = true := by
        intro Q q1 q2
        unfold tooLarge
        simp only [Bool.or_eq_true, decide_eq_true_eq]
        right
        cases hb : p.below with
        | true => left; have := q1 hb; omega
        | false => right; have := q2 hb; omega
      have k1 := key P (fun hb => (h2 hb).1) (fun hb => (h3 hb).1)
      have k2 := key (powerR p) (fun hb => by unfold powerR; rw [if_pos hb]; omega) (fun hb => by unfold powerR; rw [hb]; simp; omega)
      rw [k1, k2]
      exact ⟨rfl, fun h => by cases h⟩
/-- What is read, by a power that was read with a bound. -/
theorem read_valP {B : Nat} {l : List UInt8} {p : Pt} {P : Int} (hp : parseR l = some p) (h : PowOk B p P) (hB : p.whole.length + p.frac.length + 20000 ≤ B) :
    readR l = if tooLarge (valP p P) then (Num.zero, 40) else (valP p P, 0) := by
  obtain ⟨h1, h2⟩ := val_of h hB
  unfold readR
  rw [hp]
  simp only
  rw [h1]
  cases e : tooLarge (valueR p) with
  | true => rfl
  | false => rw [h2 e]
/-- The power's digits, one by one, up to a bound. -/
theorem num_take (l : List UInt8) (k : Nat) (hk : k < l.length) : num (l.take (k + 1)) = num (l.take k) * 10 + (l[k].toNat - 48) := by
  rw [List.take_succ_eq_append_getElem hk, num_snoc]
theorem num_mono (l r : List UInt8) : num l ≤ num (l ++ r) := by
  induction r generalizing l with
  | nil => simp
  | cons a r ih =>
    have := ih (l ++ [a])
    rw [num_snoc] at this
    simp at this ⊢
    omega
theorem num_take_le (l : List UInt8) (k : Nat) : num (l.take k) ≤ num l := by
  have := num_mono (l.take k) (l.drop k)
  rwa [List.take_append_drop] at this

/-! ### a whole number's text -/
def numA (acc : Nat) (l : List UInt8) : Nat := l.foldl (fun n c => n * 10 + (c.toNat - 48)) acc
theorem numA_ge (l : List UInt8) : ∀ acc, acc ≤ numA acc l := by
  induction l with
  | nil => intro acc; exact Nat.le_refl _
  | cons a l ih => intro acc; have := ih (acc * 10 + (a.toNat - 48)); simp only [numA, List.foldl_cons] at this ⊢; omega
theorem isDig_iff {c : UInt8} : isDig c = true ↔ 48 ≤ c.toNat ∧ c.toNat ≤ 57 := by unfold isDig; simp
theorem parseUintM_dig (l : List UInt8) (h : ∀ c ∈ l, isDig c = true) : ∀ acc, acc ≤ 18446744073709551615 →
    Lib.parseUintM 18446744073709551615 acc l = if numA acc l ≤ 18446744073709551615 then .ok (numA acc l) else .range := by
  induction l with
  | nil => intro acc ha; simp [Lib.parseUintM, numA, ha]
  | cons a l ih =>
    intro acc ha
    have hd := isDig_iff.1 (h a (by simp))
    have hge := numA_ge l (acc * 10 + (a.toNat - 48))
    have e : numA acc (a :: l) = numA (acc * 10 + (a.toNat - 48)) l := rfl
    unfold Lib.parseUintM
    rw [if_pos hd, e]
    by_cases h1 : 1844674407370955162 ≤ acc
    · rw [if_pos h1, if_neg (by omega)]
    · rw [if_neg h1]
      by_cases h2 : 18446744073709551615 < acc * 10 + (a.toNat - 48)
      · rw [if_pos h2, if_neg (by omega)]
      · rw [if_neg h2]
        exact ih (fun c hc => h c (by simp [hc])) _ (by omega)
theorem num_zeros (l : List UInt8) (k : Nat) : num (l ++ List.replicate k 48) = num l * 10 ^ k := by
  induction k with
  | zero => simp
  | succ k ih =>
    rw [List.replicate_succ', ← List.append_assoc, num_snoc, ih, Nat.pow_succ]
    have : (48 : UInt8).toNat = 48 := rfl
    rw [this, Nat.mul_assoc]; omega
theorem parseInt_dig (neg : Bool) (l : List UInt8) (h : ∀ c ∈ l, isDig c = true) (hn : l ≠ []) :
    Lib.parseIntB 64 ((if neg then [45] else []) ++ l) = if fits64 (if neg then -(num l : Int) else num l) then .ok (if neg then -(num l : Int) else num l) else .range := by
  have hu : Lib.parseUintB 64 l = if num l ≤ 18446744073709551615 then .ok (num l) else .range := by
    unfold Lib.parseUintB
    rw [if_neg hn]
    exact parseUintM_dig l h 0 (by omega)
  cases neg with
  | true =>
    unfold Lib.parseIntB
    simp only [if_true, List.cons_append, List.nil_append]
    rw [if_pos (by right; rfl), hu]
    have h45 : (45 : UInt8).toNat = 45 := rfl
    by_cases h1 : num l ≤ 18446744073709551615
    · rw [if_pos h1]
      simp only [h45, not_true, false_and, if_false, true_and, if_true]
      by_cases h2 : 2 ^ 63 < num l
      · rw [if_pos (by simpa using h2), if_neg (by unfold fits64; simp; omega)]
      · rw [if_neg (by simpa using h2), if_pos (by unfold fits64; simp; omega)]
    · rw [if_neg h1, if_neg (by unfold fits64; simp; omega)]
  | false =>
    cases l with
    | nil => exact absurd rfl hn
    | cons a r =>
      have hd := isDig_iff.1 (h a (by simp))
      unfold Lib.parseIntB
      simp only [Bool.false_eq_true, if_false, List.nil_append]
      rw [if_neg (by omega), hu]
      by_cases h1 : num (a :: r) ≤ 18446744073709551615
      · rw [if_pos h1]
        have h45 : ¬ a.toNat = 45 := by omega
        simp only [h45, not_false_iff, true_and, false_and, if_false]
        by_cases h2 : 2 ^ 63 ≤ num (a :: r)
        · rw [if_pos (by simpa using h2), if_neg (by unfold fits64; simp; omega)]
        · rw [if_neg (by simpa using h2), if_pos (by unfold fits64; simp; omega)]
      · rw [if_neg h1, if_neg (by unfold fits64; simp; omega)]
theorem parseInt_worth (n : Num) (hc : Canon n) (he : 0 ≤ n.exp) :
    Lib.parseIntB 64 (wholeForm n ++ List.replicate n.exp.toNat 48) = if fits64 (worth n) then .ok (worth n) else .range := by
  by_cases h0 : n.digits = []
  · have := Num.canon_zero hc h0
    subst this
    decide
  · have hd : ∀ c ∈ n.digits ++ List.replicate n.exp.toNat 48, isDig c = true := fun c hx => by
      rcases List.mem_append.1 hx with g | g
      · exact hc.dig c g
      · exact digs_rep _ c g
    have := parseInt_dig n.neg (n.digits ++ List.replicate n.exp.toNat 48) hd (by simp [h0])
    rw [num_zeros] at this
    have e : wholeForm n ++ List.replicate n.exp.toNat 48 = (if n.neg then [45] else []) ++ (n.digits ++ List.replicate n.exp.toNat 48) := by
      unfold wholeForm; rw [if_neg h0, List.append_assoc]
    rw [e, this]
    have e2 : worth n = if n.neg then -((num n.digits * 10 ^ n.exp.toNat : Nat) : Int) else ((num n.digits * 10 ^ n.exp.toNat : Nat) : Int) := rfl
    rw [e2]
end Go.Proofs.YtgcpgieojckheaaGreatDoor
