/-
  Decimals, plainly: what is written is read as it was.
-/
import Derived.Test.YtgcpgieojckheaaGreatDoorA
namespace Go.Proofs.YtgcpgieojckheaaGreatDoor
open Go

theorem isDig_ne {c : UInt8} (h : isDig c = true) : c ≠ 45 ∧ c ≠ 43 ∧ c ≠ 46 ∧ c ≠ 101 ∧ c ≠ 69 := by
  refine ⟨?_, ?_, ?_, ?_, ?_⟩ <;> (rintro rfl; exact absurd h (by decide))
theorem minusOf_dig {l r : List UInt8} (h : ∀ c ∈ l, isDig c = true) (hn : l ≠ []) : minusOf (l ++ r) = (false, l ++ r) := by
  cases l with
  | nil => exact absurd rfl hn
  | cons a l =>
    have := (isDig_ne (h a (by simp))).1
    unfold minusOf
    split
    · rename_i r' e
      simp at e
      exact absurd e.1 this
    · rfl
theorem signOf_dig {l : List UInt8} (h : ∀ c ∈ l, isDig c = true) : signOf l = (false, l) := by
  cases l with
  | nil => rfl
  | cons a l =>
    have h1 := isDig_ne (h a (by simp))
    unfold signOf
    split
    · rename_i r' e
      simp at e
      exact absurd e.1 h1.1
    · rename_i r' e
      simp at e
      exact absurd e.1 h1.2.1
    · rfl
theorem signOf_itoa (e : Int) : signOf (Lib.itoa e) = (decide (e < 0), Lib.decDigits e.natAbs) := by
  unfold Lib.itoa
  by_cases h : e < 0
  · rw [if_pos h]; simp [signOf, h]
  · rw [if_neg h, signOf_dig (decDigits_dig _)]
    have : e.toNat = e.natAbs := by omega
    simp [h, this]
theorem expForm_head (e : Int) : ∀ c, (expForm e).head? = some c → isDig c = false := by
  intro c h
  unfold expForm at h
  split at h
  · simp at h
  · simp at h; subst h; decide
theorem fracOf_expForm (e : Int) : fracOf (expForm e) = some ([], expForm e) := by
  unfold expForm
  split
  · rfl
  · rfl
theorem past_dig {l : List UInt8} (h : ∀ c ∈ l, isDig c = true) : past l = [] := by
  have := (digs_app (l := l) (r := []) h (by simp)).2
  simpa using this
theorem expOf_expForm (e : Int) : expOf (expForm e) = some (decide (e < 0), if e = 0 then [] else Lib.decDigits e.natAbs, []) := by
  unfold expForm
  split
  · rename_i h; subst h; rfl
  · rename_i h
    simp only [expOf]
    rw [signOf_itoa, if_pos (by decide)]
    simp only
    rw [digs_all (decDigits_dig _), if_neg (decDigits_ne _), past_dig (decDigits_dig _)]
theorem wholeOk_of {l : List UInt8} (hn : l ≠ []) (h : l.head? ≠ some 48) : wholeOk l = true := by
  cases l with
  | nil => exact absurd rfl hn
  | cons c r =>
    have : c ≠ 48 := fun e => h (by rw [e]; rfl)
    simp [wholeOk, this]
theorem trimL_of {l : List UInt8} (h : l.head? ≠ some 48) : trimL l = l := by
  cases l with
  | nil => rfl
  | cons c r =>
    have : c ≠ 48 := fun e => h (by rw [e]; rfl)
    simp [trimL, isNought, this]
theorem trimR_of {l : List UInt8} (h : l.getLast? ≠ some 48) : trimR l = l := by
  unfold trimR
  have := trimL_of (l := l.reverse) (by rw [List.head?_reverse]; exact h)
  unfold trimL at this
  rw [this, List.reverse_reverse]

/-- The parts of a text that is written as a sign, digits and a power. -/
theorem parse_plain (neg : Bool) (d : List UInt8) (e : Int) (hd : ∀ c ∈ d, isDig c = true) (hw : wholeOk d = true) :
    parseR ((if neg then [45] else []) ++ d ++ expForm e) = some ⟨neg, d, [], decide (e < 0), if e = 0 then [] else Lib.decDigits e.natAbs⟩ := by
  have hn : d ≠ [] := by intro h; rw [h] at hw; exact absurd hw (by decide)
  have hm : minusOf ((if neg then [45] else []) ++ d ++ expForm e) = (neg, d ++ expForm e) := by
    cases neg with
    | true => simp [minusOf]
    | false => simpa using minusOf_dig (r := expForm e) hd hn
  have hdp := digs_app (r := expForm e) hd (expForm_head e)
  unfold parseR
  simp only [hm, hdp.1, hdp.2, hw, if_true, fracOf_expForm, expOf_expForm]
theorem power_plain (e : Int) (neg : Bool) (d f : List UInt8) : powerR ⟨neg, d, f, decide (e < 0), if e = 0 then [] else Lib.decDigits e.natAbs⟩ = e := by
  unfold powerR
  by_cases h0 : e = 0
  · subst h0; rfl
  · simp only [h0, if_false]
    rw [num_decDigits]
    by_cases h : e < 0 <;> simp [h] <;> omega
theorem Num.canon_zero {n : Num} (h : Canon n) (h0 : n.digits = []) : n = Num.zero := by
  obtain ⟨a, b⟩ := h.zero h0
  cases n; simp_all [Num.zero]
/-- An own form is read as it was. -/
theorem read_form (n : Num) (h : Canon n) (hl : tooLarge n = false) : readR (form n) = (n, 0) := by
  by_cases h0 : n.digits = []
  · have := Num.canon_zero h h0
    subst this
    decide
  · have hp := parse_plain n.neg n.digits n.exp h.dig (wholeOk_of h0 h.first)
    have hf : form n = (if n.neg then [45] else []) ++ n.digits ++ expForm n.exp := by unfold form wholeForm; rw [if_neg h0]
    unfold readR
    rw [hf, hp]
    simp only
    have hv : valueR ⟨n.neg, n.digits, [], decide (n.exp < 0), if n.exp = 0 then [] else Lib.decDigits n.exp.natAbs⟩ = n := by
      unfold valueR
      simp only [List.append_nil, trimL_of h.first, trimR_of h.last, if_neg h0, power_plain]
      simp
    rw [hv, hl]; rfl

theorem trimL_dig {l : List UInt8} (h : ∀ c ∈ l, isDig c = true) : ∀ c ∈ trimL l, isDig c = true := fun c hc => h c ((List.dropWhile_suffix _).subset hc)
theorem trimR_dig {l : List UInt8} (h : ∀ c ∈ l, isDig c = true) : ∀ c ∈ trimR l, isDig c = true := fun c hc => h c (by
  unfold trimR at hc
  rw [List.mem_reverse] at hc
  exact List.mem_reverse.1 ((List.dropWhile_suffix _).subset hc))
theorem dropWhile_head {p : UInt8 → Bool} (l : List UInt8) : ∀ c, (l.dropWhile p).head? = some c → p c = false := by
  induction l with
  | nil => simp
  | cons a l ih =>
    intro c
    by_cases h : p a = true
    · simpa [h] using ih c
    · simp [h]; rintro rfl; simpa using h
theorem trimL_head (l : List UInt8) : (trimL l).head? ≠ some 48 := fun h => by
  have := dropWhile_head l 48 h
  simp [isNought] at this
theorem trimR_last (l : List UInt8) : (trimR l).getLast? ≠ some 48 := fun h => by
  unfold trimR at h
  rw [List.getLast?_reverse] at h
  have := dropWhile_head l.reverse 48 h
  simp [isNought] at this
theorem trimR_split (l : List UInt8) : ∃ k, l = trimR l ++ List.replicate k 48 ∧ l.length = (trimR l).length + k := by
  have e := List.takeWhile_append_dropWhile (p := isNought) (l := l.reverse)
  refine ⟨(l.reverse.takeWhile isNought).length, ?_, ?_⟩
  · have h1 : l.reverse.takeWhile isNought = List.replicate (l.reverse.takeWhile isNought).length 48 := by
      apply List.eq_replicate_iff.2
      refine ⟨rfl, fun b hb => ?_⟩
      have : ∀ m : List UInt8, ∀ b ∈ m.takeWhile isNought, isNought b = true := by
        intro m
        induction m with
        | nil => simp
        | cons a m ih =>
          by_cases h : isNought a = true
          · simp only [List.takeWhile_cons, h, ite_true, List.mem_cons]
            rintro b (rfl | hb)
            · exact h
            · exact ih b hb
          · simp [h]
      have := this _ b hb
      simpa [isNought] using this
    have h2 : l = (l.reverse.takeWhile isNought ++ l.reverse.dropWhile isNought).reverse := by rw [e, List.reverse_reverse]
    rw [List.reverse_append] at h2
    have h3 : (l.reverse.takeWhile isNought).reverse = List.replicate (l.reverse.takeWhile isNought).length 48 := by
      conv => lhs; rw [h1]
      rw [List.reverse_replicate]
    rw [h3] at h2
    exact h2
  · have := congrArg List.length e
    rw [List.length_append, List.length_reverse] at this
    unfold trimR
    rw [List.length_reverse]
    omega
theorem trimR_len (l : List UInt8) : (trimR l).length ≤ l.length := by
  obtain ⟨k, _, h⟩ := trimR_split l
  omega
theorem trimR_head {l : List UInt8} (h : l.head? ≠ some 48) : (trimR l).head? ≠ some 48 := by
  obtain ⟨k, e, _⟩ := trimR_split l
  intro hh
  apply h
  rw [e, List.head?_append, hh]; rfl
theorem canon_value (p : Pt) (h1 : ∀ c ∈ p.whole, isDig c = true) (h2 : ∀ c ∈ p.frac, isDig c = true) : Canon (valueR p) := by
  have ha : ∀ c ∈ p.whole ++ p.frac, isDig c = true := fun c hc => by
    rcases List.mem_append.1 hc with h | h
    · exact h1 c h
    · exact h2 c h
  unfold valueR
  simp only
  by_cases h0 : trimR (trimL (p.whole ++ p.frac)) = []
  · rw [if_pos h0]
    exact ⟨by simp [Num.zero], by simp [Num.zero], by simp [Num.zero], fun _ => ⟨rfl, rfl⟩⟩
  · rw [if_neg h0]
    exact ⟨trimR_dig (trimL_dig ha), trimR_head (trimL_head _), trimR_last _, fun h => absurd h h0⟩
theorem parse_dig {l : List UInt8} {p : Pt} (h : parseR l = some p) : (∀ c ∈ p.whole, isDig c = true) ∧ ∀ c ∈ p.frac, isDig c = true := by
  unfold parseR at h
  simp only at h
  split at h
  · split at h
    · cases h
    · rename_i f l3 hf
      split at h
      · cases h
      · split at h
        · simp only [Option.some.injEq] at h
          subst h
          refine ⟨digs_dig _, ?_⟩
          simp only
          unfold fracOf at hf
          split at hf
          · split at hf
            · cases hf
            · simp only [Option.some.injEq, Prod.mk.injEq] at hf
              rw [← hf.1]; exact digs_dig _
          · simp only [Option.some.injEq, Prod.mk.injEq] at hf
            rw [← hf.1]; simp
        · cases h
  · cases h
theorem Canon.nought : Canon Num.zero := ⟨by simp [Num.zero], by simp [Num.zero], by simp [Num.zero], fun _ => ⟨rfl, rfl⟩⟩
theorem canon_read (l : List UInt8) : Canon (readR l).1 ∧ tooLarge (readR l).1 = false := by
  unfold readR
  split
  · exact ⟨Canon.nought, by decide⟩
  · rename_i p hp
    have := parse_dig hp
    by_cases h : tooLarge (valueR p) = true
    · rw [if_pos h]; exact ⟨Canon.nought, by decide⟩
    · rw [if_neg h]; exact ⟨canon_value p this.1 this.2, by simpa using h⟩
/-- An own form's own form is itself. -/
theorem own_own (l : List UInt8) (h : (readR l).2 = 0) : ownR (ownR l).1 = ((ownR l).1, 0) := by
  have := canon_read l
  have e : (ownR l).1 = form (readR l).1 := by unfold ownR; rw [if_pos h]
  rw [e]
  have hr := read_form _ this.1 this.2
  unfold ownR
  rw [hr]; rfl
/-- The forms tell worths apart. -/
theorem form_inj {a b : Num} (ha : Canon a) (hb : Canon b) (la : tooLarge a = false) (lb : tooLarge b = false) (h : form a = form b) : a = b := by
  have h1 := read_form a ha la
  have h2 := read_form b hb lb
  rw [h, h2] at h1
  exact (Prod.mk.inj h1).1.symm

/-! ### whole numbers -/
theorem num_app_nought (l : List UInt8) (k : Nat) : num (l ++ List.replicate k 48) = num l * 10 ^ k := by
  induction k with
  | zero => simp
  | succ k ih =>
    rw [List.replicate_succ', ← List.append_assoc, num_snoc, ih]
    simp [Nat.pow_succ, Nat.mul_assoc]
theorem decDigits_len (u k : Nat) (h : u < 10 ^ k) (hk : 0 < k) : (Lib.decDigits u).length ≤ k := by
  induction k generalizing u with
  | zero => omega
  | succ k ih =>
    rw [Lib.decDigits]
    split
    · simp
    · rename_i h10
      rw [List.length_append]
      rcases Nat.eq_zero_or_pos k with rfl | hk'
      · simp at h; omega
      · have := ih (u / 10) (by rw [Nat.pow_succ] at h; omega) hk'
        simp; omega
theorem read_itoa (n : Int) (h1 : -(2 ^ 63 : Int) ≤ n) (h2 : n < 2 ^ 63) : (readR (Lib.itoa n)).2 = 0 ∧ worth (readR (Lib.itoa n)).1 = n ∧ 0 ≤ (readR (Lib.itoa n)).1.exp := by
  have hi : Lib.itoa n = (if decide (n < 0) then [45] else []) ++ Lib.decDigits n.natAbs ++ expForm 0 := by
    unfold Lib.itoa expForm
    by_cases h : n < 0
    · simp [h]
    · have : n.toNat = n.natAbs := by omega
      simp [h, this]
  have hp := parse_plain (decide (n < 0)) (Lib.decDigits n.natAbs) 0 (decDigits_dig _) (wholeOk_dec _)
  have hlen := decDigits_len n.natAbs 19 (by omega) (by omega)
  obtain ⟨k, he, hk⟩ := trimR_split (trimL (Lib.decDigits n.natAbs))
  by_cases h0 : n = 0
  · subst h0
    have e : Lib.itoa 0 = [48] := by unfold Lib.itoa; simp; rw [Lib.decDigits]; rfl
    rw [e]
    decide
  · have hT : trimL (Lib.decDigits n.natAbs) = Lib.decDigits n.natAbs := trimL_of (fun e => by have := decDigits_head _ e; omega)
    rw [hT] at he hk
    have hnum : num (trimR (Lib.decDigits n.natAbs)) * 10 ^ k = n.natAbs := by rw [← num_app_nought, ← he, num_decDigits]
    have hne : trimR (Lib.decDigits n.natAbs) ≠ [] := by
      intro e
      rw [e] at hnum
      simp [num] at hnum
      omega
    have hp' : parseR (Lib.itoa n) = some ⟨decide (n < 0), Lib.decDigits n.natAbs, [], false, []⟩ := by rw [hi]; exact hp
    have hpw : powerR ⟨decide (n < 0), Lib.decDigits n.natAbs, [], false, []⟩ = 0 := rfl
    have hv : valueR ⟨decide (n < 0), Lib.decDigits n.natAbs, [], false, []⟩ = ⟨decide (n < 0), trimR (Lib.decDigits n.natAbs), k⟩ := by
      unfold valueR
      simp only [List.append_nil, hT, if_neg hne, hpw]
      simp
      omega
    have hl : tooLarge ⟨decide (n < 0), trimR (Lib.decDigits n.natAbs), (k : Int)⟩ = false := by
      unfold tooLarge
      simp
      omega
    have hr : readR (Lib.itoa n) = (⟨decide (n < 0), trimR (Lib.decDigits n.natAbs), (k : Int)⟩, 0) := by
      unfold readR
      rw [hp']
      simp only
      rw [hv, hl]; rfl
    rw [hr]
    refine ⟨rfl, ?_, by simp⟩
    unfold worth sizeI
    simp only [Int.toNat_natCast, hnum]
    by_cases h : n < 0 <;> simp [h] <;> omega
/-- Int of Of is the number. -/
theorem int_of (n : Int) (h1 : -(2 ^ 63 : Int) ≤ n) (h2 : n < 2 ^ 63) : intR (ofR n) = (n, 0) := by
  obtain ⟨a, b, c⟩ := read_itoa n h1 h2
  have hc := canon_read (Lib.itoa n)
  have hr := read_form _ hc.1 hc.2
  have e : ofR n = form (readR (Lib.itoa n)).1 := by unfold ofR ownR; rw [if_pos a]
  unfold intR
  rw [e, hr]
  simp only [b]
  rw [if_neg (by decide), if_neg (by omega), if_pos (by simp [fits64]; omega)]
end Go.Proofs.YtgcpgieojckheaaGreatDoor
