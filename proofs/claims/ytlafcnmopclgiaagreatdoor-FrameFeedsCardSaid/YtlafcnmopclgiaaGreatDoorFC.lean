/-
  Frames, plainly: the document's words, and that they say the same. No model in it.
-/
import Derived.Test.YtlafcnmopclgiaaGreatDoorFA
import Derived.Lib.CountLaws
namespace Go.Proofs.YtlafcnmopclgiaaGreatDoor
open Go.Lib

def low (c : UInt8) : UInt8 := if 65 ≤ c.toNat ∧ c.toNat ≤ 90 then c + 32 else c
/-- A number from 0 on; -1: it is none. -/
def numF : Int → List UInt8 → Int
  | n, [] => n
  | n, c :: r => if 48 ≤ c.toNat ∧ c.toNat ≤ 57 then numF (if n < 100000000 then n * 10 + c.toNat - 48 else n) r else -1
def numR (l : List UInt8) : Int := if l = [] ∨ (1 < l.length ∧ l.head? = some 48) then -1 else numF 0 l
/-- A head's length behind what was read of it; -1: it is wrong. -/
def lenR : Nat → Int → List UInt8 → Int
  | 0, n, _ => n
  | f + 1, n, h =>
    if h = [] then n
    else if index h crlf < 0 then -1
    else if index (h.take (index h crlf).toNat) [58] < 0 then -1
    else if isName ((h.take (index h crlf).toNat).take (index (h.take (index h crlf).toNat) [58]).toNat) = false then -1
    else if equalFold ((h.take (index h crlf).toNat).take (index (h.take (index h crlf).toNat) [58]).toNat) clen then
      if 0 ≤ n then -1
      else if numR (trimS ((h.take (index h crlf).toNat).drop ((index (h.take (index h crlf).toNat) [58]).toNat + 1)) [32, 9]) < 0 then -1
      else lenR f (numR (trimS ((h.take (index h crlf).toNat).drop ((index (h.take (index h crlf).toNat) [58]).toNat + 1)) [32, 9])) (h.drop ((index h crlf).toNat + 2))
    else lenR f n (h.drop ((index h crlf).toNat + 2))
theorem split_miss {b : List UInt8} (h : index b crlf = -1) : split b crlf = [b] := by
  unfold split; rw [count_miss h]; rfl
theorem split_hit {b : List UInt8} {i : Nat} (h : index b crlf = i) : split b crlf = b.take i :: split (b.drop (i + 2)) crlf := by
  have hm : ¬ (index b crlf == -1) = true := fun e => by have := beq_iff_eq.1 e; omega
  unfold split
  rw [count_hit (by decide) h, Nat.add_comm 1, splitK, if_neg hm, h]
  simp only [Int.toNat_natCast, Nat.add_zero]
  rfl
theorem index_nat' (s sub : List UInt8) : index s sub = -1 ∨ ∃ i : Nat, index s sub = i ∧ i + sub.length ≤ s.length ∧ occAt s sub i = true ∧ NoOcc s sub i := by
  have h := index_ge s sub
  by_cases h0 : 0 ≤ index s sub
  · exact .inr (index_nat h0)
  · exact .inl (by omega)
/-- The lines' end behind the last line. -/
theorem index_last {b : List UInt8} (h : index b crlf = -1) : index (b ++ crlf) crlf = b.length := by
  refine index_first (by simp) (by unfold occAt; rw [List.drop_left]; decide) fun j hj => ?_
  rcases Nat.lt_or_ge (j + 1) b.length with g | g
  · rw [occAt_append (by show j + 2 ≤ _; omega)]
    rcases index_spec b crlf with ⟨_, h2⟩ | ⟨i, h1, _⟩
    · exact h2 j (by omega)
    · omega
  · rw [Bool.eq_false_iff]
    intro ho
    unfold occAt at ho
    obtain ⟨r, hr⟩ := List.isPrefixOf_iff_prefix.1 ho
    have := congrArg (fun l => l[1]?) hr
    simp only [crlf, List.cons_append, List.getElem?_cons_succ, List.getElem?_cons_zero, List.getElem?_drop] at this
    rw [List.getElem?_append_right (by omega), show j + 1 - b.length = 0 by omega] at this
    simp at this
theorem index_more {b : List UInt8} {i : Nat} (h : index b crlf = i) : index (b ++ crlf) crlf = i := by
  rw [← h]; exact index_append (by decide) (by omega)
theorem cut_hit {l : List UInt8} {i : Nat} (h : index l [58] = i) : cut l [58] = (l.take i, l.drop (i + 1), true) := by
  unfold cut; rw [h, if_pos (by omega)]; rfl
theorem cut_miss {l : List UInt8} (h : index l [58] = -1) : cut l [58] = (l, [], false) := by
  unfold cut; rw [h, if_neg (by decide)]
/-- What the lines' values come to, behind what was read. -/
def lastV (n : Int) : List (List UInt8) → Int
  | [] => n
  | v :: vs => if 0 ≤ n then -1 else if numR v < 0 then -1 else lastV (numR v) vs
theorem lenR_nil (f : Nat) (n : Int) : lenR f n [] = n := by cases f <;> simp [lenR]
def endR (n : Int) : Option (List (List UInt8)) → Int
  | none => -1
  | some vs => lastV n vs
theorem lenR_lines : ∀ (f : Nat) (n : Int) (b : List UInt8), b.length + 2 ≤ f → lenR f n (b ++ crlf) = endR n (scan (split b crlf))
  | 0, n, b, h => by omega
  | f + 1, n, b, h => by
    have hne : b ++ crlf ≠ [] := by simp [crlf]
    have hcl : crlf.length = 2 := rfl
    unfold lenR
    rw [if_neg hne]
    -- the line and what is behind it
    obtain ⟨i, rest, hx, hl, hs, hr⟩ : ∃ (i : Nat) (rest : List (List UInt8)), index (b ++ crlf) crlf = i ∧ i ≤ b.length ∧ split b crlf = b.take i :: rest ∧ ∀ n', lenR f n' ((b ++ crlf).drop (i + 2)) = endR n' (scan rest) := by
      rcases index_nat' b crlf with h1 | ⟨i, h1, h2, _, _⟩
      · refine ⟨b.length, [], index_last h1, Nat.le_refl _, by rw [split_miss h1, List.take_length], fun n' => ?_⟩
        rw [List.drop_of_length_le (by rw [List.length_append, hcl]; exact Nat.le_refl _), lenR_nil]; rfl
      · refine ⟨i, split (b.drop (i + 2)) crlf, index_more h1, by omega, split_hit h1, fun n' => ?_⟩
        rw [List.drop_append_of_le_length (by omega)]
        exact lenR_lines f n' (b.drop (i + 2)) (by rw [List.length_drop]; omega)
    have ht : (b ++ crlf).take i = b.take i := List.take_append_of_le_length hl
    rw [hx, if_neg (by omega), hs]
    simp only [Int.toNat_natCast]
    rw [ht]
    generalize b.take i = line
    unfold scan
    rcases index_nat' line [58] with h1 | ⟨j, h1, _, _, _⟩
    · rw [h1, if_pos (by decide), cut_miss h1]; rfl
    · rw [h1, if_neg (by omega), cut_hit h1]
      simp only [Int.toNat_natCast, Bool.true_and]
      cases hn : isName (line.take j) with
      | false => rw [if_pos rfl]; simp [endR]
      | true =>
        rw [if_neg (by decide), if_pos rfl]
        cases he : equalFold (line.take j) clen with
        | false =>
          rw [if_neg (by decide), hr]
          cases scan rest with
          | none => rfl
          | some vs => simp
        | true =>
          rw [if_pos rfl]
          by_cases h0 : 0 ≤ n
          · rw [if_pos h0]
            cases scan rest with
            | none => rfl
            | some vs => simp [endR, lastV, h0]
          · rw [if_neg h0]
            by_cases hv : numR (trimS (line.drop (j + 1)) [32, 9]) < 0
            · rw [if_pos hv]
              cases scan rest with
              | none => rfl
              | some vs => simp [endR, lastV, h0, hv]
            · rw [if_neg hv, hr]
              cases scan rest with
              | none => rfl
              | some vs => simp [endR, lastV, h0, hv]
theorem numF_bad : ∀ (l : List UInt8) (n : Int), l.all isDig = false → numF n l = -1
  | [], n, h => by simp at h
  | c :: r, n, h => by
    unfold numF
    by_cases hc : 48 ≤ c.toNat ∧ c.toNat ≤ 57
    · rw [if_pos hc]
      refine numF_bad r _ ?_
      have : isDig c = true := by unfold isDig; simp [hc]
      simpa [this] using h
    · rw [if_neg hc]
theorem numF_good : ∀ (l : List UInt8) (n acc : Nat), l.all isDig = true → ((acc = n ∧ n < 100000000) ∨ (100000000 ≤ n ∧ 100000000 ≤ acc)) →
    ∃ k : Nat, numF n l = k ∧ ((parseUint10 acc l = .ok k ∧ k < 100000000) ∨ (100000000 ≤ k ∧ (parseUint10 acc l = .range ∨ ∃ u, parseUint10 acc l = .ok u ∧ 100000000 ≤ u)))
  | [], n, acc, _, h => by
    refine ⟨n, rfl, ?_⟩
    rw [parseUint10]
    rcases h with ⟨rfl, h⟩ | ⟨h1, h2⟩
    · exact .inl ⟨rfl, h⟩
    · exact .inr ⟨h1, .inr ⟨acc, rfl, h2⟩⟩
  | c :: r, n, acc, hd, h => by
    simp only [List.all_cons, Bool.and_eq_true] at hd
    have hc : 48 ≤ c.toNat ∧ c.toNat ≤ 57 := by have := hd.1; unfold isDig at this; simpa using this
    unfold numF
    rw [if_pos hc, parseUint10, if_pos hc]
    rcases h with ⟨rfl, h⟩ | ⟨h1, h2⟩
    · rw [if_pos (by omega), if_neg (by omega), if_neg (by omega)]
      have e : (acc : Int) * 10 + c.toNat - 48 = ((acc * 10 + (c.toNat - 48) : Nat) : Int) := by omega
      rw [e]
      exact numF_good r _ _ hd.2 (by omega)
    · rw [if_neg (by omega)]
      obtain ⟨k, k1, k2⟩ := numF_good r n (acc * 10 + (c.toNat - 48)) hd.2 (.inr ⟨h1, by omega⟩)
      refine ⟨k, k1, ?_⟩
      have hk : 100000000 ≤ k := by
        rcases k2 with ⟨_, k3⟩ | ⟨k3, _⟩
        · have : ∀ (l : List UInt8) (m : Nat), l.all isDig = true → 100000000 ≤ m → numF m l = m := by
            intro l
            induction l with
            | nil => intro m _ _; rfl
            | cons c l ih =>
              intro m hd hm
              simp only [List.all_cons, Bool.and_eq_true] at hd
              have hc : 48 ≤ c.toNat ∧ c.toNat ≤ 57 := by have := hd.1; unfold isDig at this; simpa using this
              unfold numF
              rw [if_pos hc, if_neg (by omega)]
              exact ih m hd.2 hm
          have := this r n hd.2 h1
          omega
        · exact k3
      refine .inr ⟨hk, ?_⟩
      by_cases hx : 1844674407370955162 ≤ acc
      · rw [if_pos hx]; exact .inl rfl
      · rw [if_neg hx]
        by_cases hy : 18446744073709551616 ≤ acc * 10 + (c.toNat - 48)
        · rw [if_pos hy]; exact .inl rfl
        · rw [if_neg hy]
          rcases k2 with ⟨_, k3⟩ | ⟨_, k4⟩
          · omega
          · exact k4
theorem numR_bad (v : List UInt8) (h : isNumb v = false) : numR v < 0 := by
  unfold numR
  by_cases h1 : v = [] ∨ (1 < v.length ∧ v.head? = some 48)
  · rw [if_pos h1]; decide
  · rw [if_neg h1]
    unfold isNumb at h
    by_cases hd : v.all isDig = true
    · rw [hd, Bool.true_and] at h
      exfalso
      apply h1
      cases v with
      | nil => exact .inl rfl
      | cons c r =>
        right
        simp at h
        obtain ⟨h2, h3⟩ := h
        subst h3
        cases r with
        | nil => simp at h2
        | cons d r => simp
    · rw [numF_bad v 0 (by simpa using hd)]; decide
theorem numR_good (v : List UInt8) (h : isNumb v = true) : ∃ k : Nat, numR v = k ∧ ((k ≤ 262144 ∧ atoiAll v = .ok k) ∨ (262144 < k ∧ (atoiAll v = .range ∨ ∃ u : Int, atoiAll v = .ok u ∧ 262144 < u))) := by
  unfold isNumb at h
  rw [Bool.and_eq_true] at h
  obtain ⟨hd, h2⟩ := h
  have h1 : ¬ (v = [] ∨ (1 < v.length ∧ v.head? = some 48)) := by
    cases v with
    | nil => simp at h2
    | cons c r =>
      simp at h2 ⊢
      intro hr hc
      rcases h2 with ⟨_, h2⟩ | h2
      · subst h2; exact absurd hr (by simp)
      · exact absurd hc h2
  obtain ⟨k, k1, k2⟩ := numF_good v 0 0 hd (.inl ⟨rfl, by decide⟩)
  unfold numR
  rw [if_neg h1]
  refine ⟨k, k1, ?_⟩
  cases v with
  | nil => simp at h2
  | cons c r =>
    have hc : 48 ≤ c.toNat ∧ c.toNat ≤ 57 := by
      simp only [List.all_cons, Bool.and_eq_true] at hd
      have := hd.1; unfold isDig at this; simpa using this
    have ha : atoiAll (c :: r) = match parseUint10 0 (c :: r) with | .syntax => .syntax | .range => .range | .ok u => if 9223372036854775808 ≤ u then .range else .ok (u : Int) := by
      unfold atoiAll
      simp only
      rw [if_neg (by omega)]
      unfold parseMag
      rw [if_neg (by simp)]
      have hn : ¬ c.toNat = 45 := by omega
      cases parseUint10 0 (c :: r) with
      | ok u => simp [hn]
      | «syntax» => rfl
      | range => rfl
    rw [ha]
    rcases k2 with ⟨k3, k4⟩ | ⟨k3, k4 | ⟨u, k4, k5⟩⟩
    · rw [k3]
      simp only
      rw [if_neg (by omega)]
      by_cases hk : k ≤ 262144
      · exact .inl ⟨hk, rfl⟩
      · exact .inr ⟨by omega, .inr ⟨k, rfl, by omega⟩⟩
    · rw [k4]; exact .inr ⟨by omega, .inl rfl⟩
    · rw [k4]
      simp only
      refine .inr ⟨by omega, ?_⟩
      by_cases hu : 9223372036854775808 ≤ u
      · rw [if_pos hu]; exact .inl rfl
      · rw [if_neg hu]; exact .inr ⟨u, rfl, by omega⟩
/-- A head's length, by the document's words. -/
theorem lenR_head (f : Nat) (b : List UInt8) (h : b.length + 2 ≤ f) : match headLen b with
    | .ok k => lenR f (-1) (b ++ crlf) = k ∧ k ≤ 262144
    | .error e => (e = 72 ∧ lenR f (-1) (b ++ crlf) < 0) ∨ (e = 40 ∧ 262144 < lenR f (-1) (b ++ crlf)) := by
  rw [lenR_lines f (-1) b h]
  unfold headLen
  cases scan (split b crlf) with
  | none => exact .inl ⟨rfl, by decide⟩
  | some vs =>
    cases vs with
    | nil => exact .inl ⟨rfl, by decide⟩
    | cons v vs =>
      cases vs with
      | nil =>
        have h1 : endR (-1) (some [v]) = if numR v < 0 then -1 else numR v := by
          unfold endR; simp only; unfold lastV; rw [if_neg (by decide)]; rfl
        rw [h1]
        by_cases hn : isNumb v = true
        · obtain ⟨k, k1, k2⟩ := numR_good v hn
          rw [k1, if_neg (show ¬ ((k : Int) < 0) by omega)]
          simp only [hn, if_true]
          rcases k2 with ⟨k3, k4⟩ | ⟨k3, k4 | ⟨u, k4, k5⟩⟩
          · rw [k4]
            simp only
            rw [if_neg (show ¬ ((262144 : Int) < (k : Int)) by omega)]
            exact ⟨by simp, by simpa using k3⟩
          · rw [k4]; exact .inr ⟨rfl, by omega⟩
          · rw [k4]
            simp only
            rw [if_pos k5]; exact .inr ⟨rfl, by omega⟩
        · rw [if_pos (numR_bad v (by simpa using hn))]
          simp only [hn]
          exact .inl ⟨rfl, by decide⟩
      | cons w vs =>
        have h1 : endR (-1) (some (v :: w :: vs)) < 0 := by
          unfold endR; simp only; unfold lastV; rw [if_neg (by decide)]
          by_cases hv : numR v < 0
          · rw [if_pos hv]; decide
          · rw [if_neg hv, lastV, if_pos (by omega)]; decide
        exact .inl ⟨rfl, h1⟩
theorem index_take {s : List UInt8} {i : Nat} (h : index s crlf2 = i) (hi : i ≤ 1024) : index (s.take 1028) crlf2 = i := by
  obtain ⟨j, h1, h2, h3, h4⟩ := index_nat (show 0 ≤ index s crlf2 by omega)
  obtain rfl : i = j := by omega
  have h2' : i + 4 ≤ s.length := h2
  have e : s = s.take 1028 ++ s.drop 1028 := (List.take_append_drop _ _).symm
  have hl : i + 4 ≤ (s.take 1028).length := by rw [List.length_take]; omega
  refine index_first (by omega) ?_ fun j hj => ?_
  · rw [e, occAt_append (by exact hl)] at h3; exact h3
  · have := h4 j hj
    rw [e, occAt_append (by show j + 4 ≤ _; omega)] at this; exact this
theorem index_take_none {s : List UInt8} (h : index s crlf2 < 0 ∨ 1024 < index s crlf2) : ¬ 0 ≤ index (s.take 1028) crlf2 := by
  intro h0
  have e : s = s.take 1028 ++ s.drop 1028 := (List.take_append_drop _ _).symm
  have ha := index_append (b := s.drop 1028) (by decide) h0
  rw [← e] at ha
  have hr := index_room (s.take 1028) crlf2 h0
  rw [List.length_take] at hr
  have : (crlf2.length : Int) = 4 := rfl
  omega
theorem skip_none {s : List UInt8} (h : index s mark < 0) : (runA .skip s).2.1 = [] := by
  rw [runA_step]; simp only [op, opSkip]; rw [if_neg (by omega)]; rfl
theorem skip_at {s : List UInt8} {i : Nat} (h : index s mark = i) : (runA .skip s).2.1 = (runA .head (s.drop i)).2.1 := by
  rw [runA_step]; simp only [op, opSkip]; rw [h, if_pos (by omega)]; rfl
theorem head_wait {s : List UInt8} (h : index s crlf2 < 0) (hl : s.length < 1028) : (runA .head s).2.1 = [] := by
  rw [runA_step]; simp only [op, opHead]; rw [if_neg (index_take_none (.inl h)), if_pos hl]; rfl
theorem head_none {s : List UInt8} (h : index s crlf2 < 0 ∨ 1024 < index s crlf2) (hl : ¬ s.length < 1028) : (runA .head s).2.1 = ([], 72) :: (runA .skip (s.drop 1)).2.1 := by
  rw [runA_step]; simp only [op, opHead]; rw [if_neg (index_take_none h), if_neg hl]; rfl
theorem head_bad {s : List UInt8} {i : Nat} {e : Int} (h : index s crlf2 = i) (hi : i ≤ 1024) (he : headLen (s.take i) = .error e) : (runA .head s).2.1 = ([], e) :: (runA .skip (s.drop 1)).2.1 := by
  rw [runA_step]; simp only [op, opHead]
  rw [index_take h hi, if_pos (by omega)]
  simp only [Int.toNat_natCast]
  rw [List.take_take, show min i 1028 = i by omega, he]; rfl
theorem head_ok {s : List UInt8} {i n : Nat} (h : index s crlf2 = i) (hi : i ≤ 1024) (he : headLen (s.take i) = .ok n) : (runA .head s).2.1 = if s.length < i + 4 + n then [] else ((s.drop (i + 4)).take n, 0) :: (runA .head (s.drop (i + 4 + n))).2.1 := by
  rw [runA_step]; simp only [op, opHead]
  rw [index_take h hi, if_pos (by omega)]
  simp only [Int.toNat_natCast]
  rw [List.take_take, show min i 1028 = i by omega, he]
  simp only [Option.toList, List.nil_append]
  rw [runA_step]; simp only [op, opBody]
  have hr := index_room s crlf2 (by omega)
  have h4 : (crlf2.length : Int) = 4 := rfl
  by_cases hl : s.length < i + 4 + n
  · rw [if_pos hl, if_pos (by rw [List.length_drop]; omega)]; rfl
  · rw [if_neg hl, if_neg (by rw [List.length_drop]; omega)]
    simp only [Option.toList, List.singleton_append, List.drop_drop]
end Go.Proofs.YtlafcnmopclgiaaGreatDoor
