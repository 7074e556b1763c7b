/-
  Frames, plainly: what was written is told; behind a wrong head reading begins again. No model in it.
-/
import Derived.Test.YtlafcnmopclgiaaGreatDoorFA
import Derived.Lib.ItoaNum
import Derived.Lib.CountLaws
namespace Go.Proofs.YtlafcnmopclgiaaGreatDoor
open Go.Lib

theorem index_none_of {s sub : List UInt8} (h : ∀ j, j ≤ s.length → occAt s sub j = false) : index s sub = -1 := by
  rcases index_spec s sub with ⟨h1, _⟩ | ⟨i, _, h2, h3, _⟩
  · exact h1
  · rw [h i h2] at h3; cases h3
theorem occAt_head {s t : List UInt8} {c : UInt8} {j : Nat} (h : s[j]? ≠ some c) : occAt s (c :: t) j = false := by
  rw [Bool.eq_false_iff]
  intro ho
  unfold occAt at ho
  obtain ⟨r, hr⟩ := List.isPrefixOf_iff_prefix.1 ho
  apply h
  have := congrArg (fun l => l[0]?) hr
  simp only [List.cons_append, List.getElem?_cons_zero, List.getElem?_drop, Nat.add_zero] at this
  exact this.symm
/-- Behind what has not the first byte. -/
theorem index_behind {p t r : List UInt8} {c : UInt8} (h : c ∉ p) : index (p ++ (c :: t) ++ r) (c :: t) = p.length := by
  refine index_first (by simp) ?_ fun j hj => occAt_head ?_
  · unfold occAt
    rw [List.append_assoc, List.drop_left, List.isPrefixOf_iff_prefix]
    exact List.prefix_append _ _
  · rw [List.append_assoc, List.getElem?_append_left hj]
    intro e
    exact h (List.mem_of_getElem? e)
theorem index_no {p t : List UInt8} {c : UInt8} (h : c ∉ p) : index p (c :: t) = -1 :=
  index_none_of fun _ _ => occAt_head fun e => h (List.mem_of_getElem? e)
theorem dg_nat (k : Nat) (h : k < 10) : (UInt8.ofNat (48 + k)).toNat = 48 + k := by
  rw [UInt8.toNat_ofNat']; omega
theorem decDigits_dig (u : Nat) : ∀ c ∈ decDigits u, isDig c = true := by
  induction u using Nat.strongRecOn with
  | _ u ih =>
    rw [decDigits]
    split
    · rename_i h
      intro c hc
      rw [List.mem_singleton] at hc
      subst hc
      unfold isDig; rw [dg_nat u h]; simp; omega
    · rename_i h
      intro c hc
      rw [List.mem_append, List.mem_singleton] at hc
      rcases hc with hc | hc
      · exact ih (u / 10) (by omega) c hc
      · subst hc
        unfold isDig; rw [dg_nat (u % 10) (by omega)]; simp; omega
theorem decDigits_head (u : Nat) (h0 : 0 < u) : ∃ c r, decDigits u = c :: r ∧ c ≠ 48 := by
  induction u using Nat.strongRecOn with
  | _ u ih =>
    rw [decDigits]
    split
    · rename_i h
      refine ⟨_, [], rfl, fun e => ?_⟩
      have := congrArg UInt8.toNat e
      rw [dg_nat u h] at this
      change 48 + u = 48 at this
      omega
    · rename_i h
      obtain ⟨c, r, h1, h2⟩ := ih (u / 10) (by omega) (by omega)
      exact ⟨c, r ++ [UInt8.ofNat (48 + u % 10)], by rw [h1]; rfl, h2⟩
theorem decDigits_numb (u : Nat) : isNumb (decDigits u) = true := by
  unfold isNumb
  rw [Bool.and_eq_true]
  refine ⟨List.all_eq_true.2 (decDigits_dig u), ?_⟩
  rcases Nat.eq_zero_or_pos u with h | h
  · subst h; decide +kernel
  · obtain ⟨c, r, h1, h2⟩ := decDigits_head u h
    rw [h1]
    simp [h2]
theorem parse_snoc : ∀ (l : List UInt8) (acc u : Nat) (k : Nat), k < 10 → parseUint10 acc l = .ok u → u < 100000000 → parseUint10 acc (l ++ [UInt8.ofNat (48 + k)]) = .ok (u * 10 + k)
  | [], acc, u, k, hk, h, hu => by
    rw [parseUint10] at h
    cases h
    rw [List.nil_append, parseUint10, dg_nat k hk, if_pos (by omega), if_neg (by omega), if_neg (by omega), parseUint10]
    congr 1; omega
  | c :: l, acc, u, k, hk, h, hu => by
    rw [parseUint10] at h
    rw [List.cons_append, parseUint10]
    by_cases h1 : 48 ≤ c.toNat ∧ c.toNat ≤ 57
    · rw [if_pos h1] at h ⊢
      by_cases h2 : 1844674407370955162 ≤ acc
      · rw [if_pos h2] at h; cases h
      · rw [if_neg h2] at h ⊢
        by_cases h3 : 18446744073709551616 ≤ acc * 10 + (c.toNat - 48)
        · rw [if_pos h3] at h; cases h
        · rw [if_neg h3] at h ⊢
          exact parse_snoc l _ u k hk h hu
    · rw [if_neg h1] at h; cases h
theorem parse_dec (u : Nat) (hu : u ≤ 100000000) : parseUint10 0 (decDigits u) = .ok u := by
  induction u using Nat.strongRecOn with
  | _ u ih =>
    rw [decDigits]
    split
    · rename_i h
      have := parse_snoc [] 0 0 u h (by rw [parseUint10]) (by omega)
      simpa using this
    · rename_i h
      have := parse_snoc (decDigits (u / 10)) 0 (u / 10) (u % 10) (by omega) (ih (u / 10) (by omega) (by omega)) (by omega)
      rw [this]; congr 1; omega
theorem atoi_dec (u : Nat) (hu : u ≤ 100000000) : atoiAll (decDigits u) = .ok (u : Int) := by
  have hp := parse_dec u hu
  have hd := decDigits_dig u
  cases h : decDigits u with
  | nil => rw [h] at hp; have := decDigits_length u; rw [h] at this; have := nDigits_pos u; simp at *; omega
  | cons c r =>
    rw [h] at hp hd
    have hc := hd c (by simp)
    unfold isDig at hc
    simp only [Bool.and_eq_true, decide_eq_true_eq] at hc
    unfold atoiAll
    simp only
    rw [if_neg (by omega)]
    unfold parseMag
    rw [if_neg (by simp), hp]
    simp only
    rw [if_neg (by omega), if_neg (by omega), if_neg (by omega)]
theorem trim_dec (u : Nat) : trimS (32 :: decDigits u) [32, 9] = decDigits u := by
  have hd := decDigits_dig u
  have hno : ∀ c, isDig c = true → [(32 : UInt8), 9].contains c = false := by
    intro c hc
    unfold isDig at hc
    simp only [Bool.and_eq_true, decide_eq_true_eq] at hc
    have h1 : c ≠ 32 := fun e => by subst e; exact absurd hc.1 (by decide)
    have h2 : c ≠ 9 := fun e => by subst e; exact absurd hc.1 (by decide)
    simp [h1, h2]
  have hpos : 0 < (decDigits u).length := by rw [decDigits_length]; exact nDigits_pos u
  unfold trimS
  have e1 : trimRightS (32 :: decDigits u) [32, 9] = 32 :: decDigits u := by
    rw [trimRightS_take _ _ (32 :: decDigits u).length (Nat.le_refl _) (fun j b hj hb => by rw [List.getElem?_eq_none hj] at hb; cases hb) (fun b _ hb => by
      refine hno b (hd b ?_)
      rw [List.length_cons, Nat.add_sub_cancel] at hb
      rw [show (decDigits u).length = (decDigits u).length - 1 + 1 by omega, List.getElem?_cons_succ] at hb
      exact List.mem_of_getElem? hb)]
    exact List.take_length
  rw [e1]
  unfold trimLeftS
  rw [List.dropWhile_cons, if_pos (by decide)]
  cases h : decDigits u with
  | nil => rw [h] at hpos; exact absurd hpos (by decide)
  | cons c r => rw [List.dropWhile_cons, if_neg (by rw [hno c (hd c (by rw [h]; simp))]; decide)]
/-- A body's frame. -/
def frameOf (b : List UInt8) : List UInt8 := mark ++ 32 :: decDigits b.length ++ crlf2 ++ b
def firstLine (n : Nat) : List UInt8 := mark ++ 32 :: decDigits n
theorem first_13 (n : Nat) : (13 : UInt8) ∉ firstLine n := by
  unfold firstLine
  intro h
  rw [List.mem_append, List.mem_cons] at h
  rcases h with h | h | h
  · exact absurd h (by decide)
  · exact absurd h (by decide)
  · have := decDigits_dig n 13 h
    exact absurd this (by decide)
theorem nDigits_few (n : Nat) (h : n ≤ 262144) : nDigits n ≤ 6 := by
  rcases Nat.lt_or_ge n 10 with h1 | h1
  · rw [nDigits_small h1]; decide
  · rcases Nat.lt_or_ge n 100 with h2 | h2
    · rw [nDigits_unique 1 n (by omega) (by omega)]; decide
    · rcases Nat.lt_or_ge n 1000 with h3 | h3
      · rw [nDigits_unique 2 n (by omega) (by omega)]; decide
      · rcases Nat.lt_or_ge n 10000 with h4 | h4
        · rw [nDigits_unique 3 n (by omega) (by omega)]; decide
        · rcases Nat.lt_or_ge n 100000 with h5 | h5
          · rw [nDigits_unique 4 n (by omega) (by omega)]; decide
          · rw [nDigits_unique 5 n (by omega) (by omega)]; decide
theorem first_len (n : Nat) (h : n ≤ 262144) : (firstLine n).length ≤ 22 := by
  have := nDigits_few n h
  unfold firstLine
  rw [List.length_append, List.length_cons, decDigits_length]
  show 15 + _ ≤ 22
  omega
theorem first_head (n : Nat) (h : n ≤ 262144) : headLen (firstLine n) = .ok n := by
  have h1 : split (firstLine n) crlf = [firstLine n] := by
    have hi : index (firstLine n) crlf = -1 := index_no (first_13 n)
    unfold split
    rw [count_miss hi]; rfl
  have h2 : cut (firstLine n) [58] = (mark.take 14, 32 :: decDigits n, true) := by
    have hi : index (firstLine n) [58] = ((14 : Nat) : Int) := by
      have := index_behind (p := mark.take 14) (t := []) (c := 58) (r := 32 :: decDigits n) (by decide)
      exact this
    unfold cut
    rw [hi, if_pos (by decide)]
    rfl
  unfold headLen
  rw [h1]
  unfold scan
  rw [h2]
  simp only [Bool.true_and]
  rw [if_pos (by decide +kernel)]
  simp only [scan]
  rw [if_pos (by decide +kernel), trim_dec]
  simp only
  rw [decDigits_numb, if_pos rfl, atoi_dec n (by omega)]
  simp only
  rw [if_neg (by omega)]
  rfl
theorem op_first (n : Nat) (r : List UInt8) (h : n ≤ 262144) : op .head (firstLine n ++ crlf2 ++ r) = ((firstLine n).length + 4, none, some (.body n)) := by
  have hl := first_len n h
  have ht : (firstLine n ++ crlf2 ++ r).take 1028 = firstLine n ++ crlf2 ++ r.take (1028 - (firstLine n ++ crlf2).length) := by
    rw [List.take_append, List.take_of_length_le (by rw [List.length_append]; show _ + 4 ≤ _; omega)]
  have hi : index ((firstLine n ++ crlf2 ++ r).take 1028) crlf2 = ((firstLine n).length : Int) := by
    rw [ht]
    exact index_behind (first_13 n)
  simp only [op, opHead]
  rw [hi, if_pos (by omega), ht]
  simp only [Int.toNat_natCast]
  rw [List.append_assoc, List.take_left, first_head n h]
theorem run_frame (b r : List UInt8) (h : b.length ≤ 262144) : runA .head (frameOf b ++ r) = ((frameOf b).length + (runA .head r).1, (b, 0) :: (runA .head r).2.1, (runA .head r).2.2) := by
  have e : frameOf b ++ r = firstLine b.length ++ crlf2 ++ (b ++ r) := by unfold frameOf firstLine; simp only [List.append_assoc, List.cons_append]
  have hd : (frameOf b ++ r).drop ((firstLine b.length).length + 4) = b ++ r := by
    rw [e]
    exact List.drop_left' (by rw [List.length_append]; rfl)
  rw [runA_step, e, op_first _ _ h, ← e]
  simp only [hd]
  rw [runA_step]
  simp only [op, opBody]
  rw [if_neg (by rw [List.length_append]; omega)]
  simp only [List.drop_left, List.take_left, Option.toList, List.nil_append, List.singleton_append]
  have : (frameOf b).length = (firstLine b.length).length + 4 + b.length := by
    unfold frameOf firstLine
    simp only [List.length_append, List.length_cons]
    rfl
  rw [this]
  simp only [Nat.add_assoc]
theorem runA_nil : runA .head [] = (0, [], .head) := by unfold runA; rfl
/-- Frames, one behind the other, are told as their bodies. -/
theorem run_frames : ∀ (l : List (List UInt8)), (∀ b ∈ l, b.length ≤ 262144) → runA .head (l.map frameOf).flatten = ((l.map frameOf).flatten.length, l.map (fun b => (b, 0)), .head)
  | [], _ => runA_nil
  | b :: l, h => by
    have ih := run_frames l fun c hc => h c (List.mem_cons_of_mem _ hc)
    rw [List.map_cons, List.flatten_cons, run_frame b _ (h b (by simp)), ih, List.length_append]; rfl
def noHead : List UInt8 := [110, 111, 32, 104, 101, 97, 100]
theorem op_none (r : List UInt8) : op .head (noHead ++ crlf2 ++ r) = (1, some ([], 72), some .skip) := by
  have ht : (noHead ++ crlf2 ++ r).take 1028 = noHead ++ crlf2 ++ r.take 1017 := by rw [List.take_append]; rfl
  have hi : index ((noHead ++ crlf2 ++ r).take 1028) crlf2 = ((7 : Nat) : Int) := by
    rw [ht]
    exact index_behind (by decide)
  have hh : headLen noHead = .error 72 := by
    have h1 : split noHead crlf = [noHead] := by
      have hi : index noHead crlf = -1 := index_no (by decide)
      unfold split
      rw [count_miss hi]; rfl
    have h2 : cut noHead [58] = (noHead, [], false) := by
      have hi : index noHead [58] = -1 := index_no (by decide)
      unfold cut
      rw [hi, if_neg (by decide)]
    unfold headLen
    rw [h1]
    unfold scan
    rw [h2]
    rfl
  simp only [op, opHead]
  rw [hi, if_pos (by decide), ht]
  simp only [Int.toNat_natCast]
  rw [List.append_assoc, show (7 : Nat) = noHead.length from rfl, List.take_left, hh]
/-- Behind a head that is wrong, and bytes without a C, the frames that follow are told. -/
theorem run_again (b : List UInt8) (l : List (List UInt8)) (hb : (67 : UInt8) ∉ b) (h : ∀ c ∈ l, c.length ≤ 262144) :
    (runA .head (noHead ++ crlf2 ++ (b ++ (l.map frameOf).flatten))).2.1 = ([], 72) :: l.map (fun c => (c, 0)) := by
  rw [runA_step, op_none]
  have hd : (noHead ++ crlf2 ++ (b ++ (l.map frameOf).flatten)).drop 1 = ((noHead ++ crlf2).drop 1 ++ b) ++ (l.map frameOf).flatten := by
    rw [List.drop_append_of_le_length (by decide), List.append_assoc]
  simp only [hd]
  have hp : (67 : UInt8) ∉ (noHead ++ crlf2).drop 1 ++ b := by
    rw [List.mem_append]
    rintro (h1 | h1)
    · exact absurd h1 (by decide)
    · exact hb h1
  simp only [Option.toList, List.singleton_append]
  congr 1
  cases l with
  | nil =>
    rw [runA_step]
    simp only [op, opSkip, List.map_nil, List.flatten_nil, List.append_nil]
    rw [show index ((noHead ++ crlf2).drop 1 ++ b) mark = -1 from index_no hp, if_neg (by decide)]
    rfl
  | cons c l =>
    have hr := run_frames (c :: l) h
    have hm : ∃ t, ((c :: l).map frameOf).flatten = mark ++ t := by
      refine ⟨32 :: decDigits c.length ++ crlf2 ++ c ++ (l.map frameOf).flatten, ?_⟩
      rw [List.map_cons, List.flatten_cons]; unfold frameOf; simp only [List.append_assoc, List.cons_append]
    generalize ((c :: l).map frameOf).flatten = F at *
    obtain ⟨t, rfl⟩ := hm
    have hi : index ((noHead ++ crlf2).drop 1 ++ b ++ (mark ++ t)) mark = (((noHead ++ crlf2).drop 1 ++ b).length : Int) := by
      have := index_behind (p := (noHead ++ crlf2).drop 1 ++ b) (c := 67) (t := mark.drop 1) (r := t) hp
      rw [List.append_assoc] at this
      exact this
    rw [runA_step]
    simp only [op, opSkip]
    rw [hi, if_pos (by omega)]
    simp only [Int.toNat_natCast, List.drop_left, Option.toList, List.nil_append]
    rw [hr]
end Go.Proofs.YtlafcnmopclgiaaGreatDoor
