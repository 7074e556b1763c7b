import Derived.Test.YtfedmhccbfhcbaaGreatDoorB
namespace Go.Proofs.YtfedmhccbfhcbaaGreatDoor

/-! ### three bytes behind a token decide where it ends -/
theorem lead_loc (P : UInt8 → Bool) (a b : List UInt8) : ∀ p : List UInt8, lead P (p ++ a) < p.length → lead P (p ++ b) = lead P (p ++ a)
  | [], h => by simp at h
  | c :: p, h => by
    rw [List.cons_append] at h ⊢
    rw [List.cons_append]
    unfold lead at h ⊢
    by_cases hc : P c = true
    · rw [if_pos hc] at h; rw [if_pos hc, if_pos hc, lead_loc P a b p (by rw [List.length_cons] at h; omega)]
    · rw [if_neg hc, if_neg hc]
theorem opens_loc (a b p : List UInt8) (h : 2 ≤ p.length) : opens (p ++ b) = opens (p ++ a) := by
  match p, h with
  | c :: d :: p, _ => rfl
theorem closes_loc (a b p : List UInt8) (h : 2 ≤ p.length) : closes (p ++ b) = closes (p ++ a) := by
  match p, h with
  | c :: d :: p, _ => rfl
theorem rem_loc (a b : List UInt8) : ∀ (p : List UInt8) (o : Nat) (q : Bool), (rem o q (p ++ a)).1 + 1 ≤ p.length → rem o q (p ++ b) = rem o q (p ++ a)
  | [], o, q, h => by simp at h
  | c :: p, o, true, h => by
    rw [List.cons_append] at h ⊢
    rw [List.cons_append]
    rw [rem_true] at h ⊢
    rw [rem_true]
    by_cases ho : o = 0
    · rw [if_pos ho, if_pos ho]
    · rw [if_neg ho] at h; rw [if_neg ho, if_neg ho, rem_loc a b p o false (by simp only [add1, List.length_cons] at h; omega)]
  | c :: p, o, false, h => by
    have hp : 2 ≤ (c :: p).length := by
      have h1 := rem_pos c (p ++ a) o false
      rw [List.cons_append] at h; omega
    have e1 := opens_loc a b (c :: p) hp
    have e2 := closes_loc a b (c :: p) hp
    rw [List.cons_append] at h e1 e2 ⊢
    rw [List.cons_append] at e1 e2 ⊢
    rw [rem_false] at h ⊢
    rw [rem_false, e1, e2]
    by_cases h1 : opens (c :: (p ++ a)) = true
    · rw [if_pos h1] at h; rw [if_pos h1, if_pos h1, rem_loc a b p _ _ (by simp only [add1, List.length_cons] at h; omega)]
    rw [if_neg h1] at h; rw [if_neg h1, if_neg h1]
    by_cases h2 : closes (c :: (p ++ a)) = true
    · rw [if_pos h2] at h; rw [if_pos h2, if_pos h2, rem_loc a b p _ _ (by simp only [add1, List.length_cons] at h; omega)]
    rw [if_neg h2] at h; rw [if_neg h2, if_neg h2, rem_loc a b p _ _ (by simp only [add1, List.length_cons] at h; omega)]
theorem quo_loc (a b : List UInt8) : ∀ (p : List UInt8) (st : Nat), (quo st (p ++ a)).2 + 1 ≤ p.length → quo st (p ++ b) = quo st (p ++ a)
  | [], st, h => by simp at h
  | c :: p, 0, h => by
    have e : ∀ x, quo 0 (c :: x) = if c == 34 then (7, 1) else if c == 10 then (9, 0) else if c == 92 then addN (quo 1 x) else addN (quo 0 x) := fun _ => rfl
    rw [List.cons_append, e] at h
    rw [List.cons_append, List.cons_append, e, e]
    by_cases a1 : (c == 34) = true
    · rw [if_pos a1, if_pos a1]
    rw [if_neg a1] at h; rw [if_neg a1, if_neg a1]
    by_cases a2 : (c == 10) = true
    · rw [if_pos a2, if_pos a2]
    rw [if_neg a2] at h; rw [if_neg a2, if_neg a2]
    by_cases a3 : (c == 92) = true
    · rw [if_pos a3] at h; rw [if_pos a3, if_pos a3, quo_loc a b p 1 (by simp only [addN, List.length_cons] at h; omega)]
    · rw [if_neg a3] at h; rw [if_neg a3, if_neg a3, quo_loc a b p 0 (by simp only [addN, List.length_cons] at h; omega)]
  | c :: p, 1, h => by
    have e : ∀ x, quo 1 (c :: x) = if escB c then addN (quo 0 x) else if c == 10 then (9, 0) else addN (quo 2 x) := fun _ => rfl
    rw [List.cons_append, e] at h
    rw [List.cons_append, List.cons_append, e, e]
    by_cases a1 : escB c = true
    · rw [if_pos a1] at h; rw [if_pos a1, if_pos a1, quo_loc a b p 0 (by simp only [addN, List.length_cons] at h; omega)]
    rw [if_neg a1] at h; rw [if_neg a1, if_neg a1]
    by_cases a2 : (c == 10) = true
    · rw [if_pos a2, if_pos a2]
    · rw [if_neg a2] at h; rw [if_neg a2, if_neg a2, quo_loc a b p 2 (by simp only [addN, List.length_cons] at h; omega)]
  | c :: p, st + 2, h => by
    have e : ∀ x, quo (st + 2) (c :: x) = if c == 34 then (9, 1) else if c == 10 then (9, 0) else addN (quo 2 x) := fun _ => rfl
    rw [List.cons_append, e] at h
    rw [List.cons_append, List.cons_append, e, e]
    by_cases a1 : (c == 34) = true
    · rw [if_pos a1, if_pos a1]
    rw [if_neg a1] at h; rw [if_neg a1, if_neg a1]
    by_cases a2 : (c == 10) = true
    · rw [if_pos a2, if_pos a2]
    · rw [if_neg a2] at h; rw [if_neg a2, if_neg a2, quo_loc a b p 2 (by simp only [addN, List.length_cons] at h; omega)]
theorem sgn_loc (a b p : List UInt8) (h : 1 ≤ p.length) : sgn (p ++ b) = sgn (p ++ a) := by
  match p, h with
  | c :: p, _ => rfl
theorem sgn_one (l : List UInt8) : sgn l ≤ 1 := by
  cases l with
  | nil => exact Nat.zero_le _
  | cons c r => show (if c == 43 || c == 45 then 1 else 0) ≤ 1; split <;> omega
theorem expo_loc (a b p : List UInt8) (h : expo (p ++ a) + 3 ≤ p.length) : expo (p ++ b) = expo (p ++ a) := by
  match p, h with
  | [], h => simp at h
  | c :: p, h =>
    rw [List.cons_append, expo_cons] at h
    rw [List.cons_append, List.cons_append, expo_cons, expo_cons]
    by_cases h1 : (c == 101 || c == 69) = true
    · rw [if_pos h1] at h; rw [if_pos h1, if_pos h1]
      have hl : 2 ≤ p.length := by rw [List.length_cons] at h; omega
      have hs := sgn_loc a b p (by omega)
      have hs1 := sgn_one (p ++ a)
      rw [hs]
      have hd : ∀ x, (p ++ x).drop (sgn (p ++ a)) = p.drop (sgn (p ++ a)) ++ x := fun x => List.drop_append_of_le_length (by omega)
      rw [hd] at h; rw [hd, hd]
      have hk : lead digB (p.drop (sgn (p ++ a)) ++ a) < (p.drop (sgn (p ++ a))).length := by
        rw [List.length_drop]
        rw [List.length_cons] at h
        split at h <;> omega
      rw [lead_loc digB a b _ hk]
    · rw [if_neg h1, if_neg h1]
theorem num_loc (a b p : List UInt8) (h : (num (p ++ a)).2 + 3 ≤ p.length) : num (p ++ b) = num (p ++ a) := by
  have hn := num_eq (p ++ a)
  have hm := num_eq (p ++ b)
  have hk := (num_le (p ++ a)).2
  have hW := lead_loc digB a b p (by omega)
  rw [hW] at hm
  generalize hw : lead digB (p ++ a) = W at *
  have hg : ∀ x, (p ++ x)[W]? = p[W]? := fun x => List.getElem?_append_left (by omega)
  rw [hg] at hn hm
  by_cases h1 : p[W]? = some 46
  · rw [if_pos h1] at hn hm
    have hd : ∀ x, (p ++ x).drop (W + 1) = p.drop (W + 1) ++ x := fun x => List.drop_append_of_le_length (by omega)
    rw [hd] at hn hm
    have hl : (p.drop (W + 1)).length = p.length - (W + 1) := List.length_drop
    generalize p.drop (W + 1) = r at *
    have h2 : (num (p ++ a)).2 = W + 1 + frac (r ++ a) + expo ((r ++ a).drop (frac (r ++ a))) := by rw [hn, expT_len]
    have hf : frac (r ++ b) = frac (r ++ a) := lead_loc digB a b r (by show frac (r ++ a) < _; omega)
    have hd2 : ∀ x, (r ++ x).drop (frac (r ++ a)) = r.drop (frac (r ++ a)) ++ x := fun x => List.drop_append_of_le_length (by omega)
    rw [hd2] at h2
    have he := expo_loc a b (r.drop (frac (r ++ a))) (by rw [List.length_drop]; omega)
    have ht : expT (r ++ b) = expT (r ++ a) := by
      unfold expT
      rw [hf, hd2, hd2, he, List.take_append_of_le_length (by rw [List.length_drop]; omega), List.take_append_of_le_length (by rw [List.length_drop]; omega)]
    rw [hm, hn, hf, ht]
  · rw [if_neg h1] at hn hm
    rw [hm, hn]
/-- A token that ends three bytes or more ahead of where two texts part is one of both. -/
theorem cut_loc (p a b : List UInt8) (h : (cut (p ++ a)).2 + 3 ≤ p.length) (hr : runeN (p ++ a) + 3 ≤ p.length → runeN (p ++ b) = runeN (p ++ a)) : cut (p ++ b) = cut (p ++ a) := by
  cases p with
  | nil => simp at h
  | cons c p =>
    have U : ∀ x, cut ((c :: p) ++ x) = if blankB c then (1, lead blankB ((c :: p) ++ x))
      else if opens ((c :: p) ++ x) then (if (rem 0 false ((c :: p) ++ x)).2 then 2 else 9, (rem 0 false ((c :: p) ++ x)).1)
      else if lowB c then (nameK (((c :: p) ++ x).take (lead inB ((c :: p) ++ x))), lead inB ((c :: p) ++ x))
      else if digB c then num ((c :: p) ++ x)
      else if c == 34 then addN (quo 0 (p ++ x))
      else if twosL.contains (((c :: p) ++ x).take 2) then (8, 2)
      else if onesL.contains c then (8, 1)
      else (9, runeN ((c :: p) ++ x)) := fun _ => rfl
    rw [U] at h ⊢
    rw [U]
    have h3 : 3 ≤ (c :: p).length := by omega
    by_cases h1 : blankB c = true
    · rw [if_pos h1] at h; rw [if_pos h1, if_pos h1, lead_loc blankB a b _ (by show lead _ _ < _; change lead _ _ + 3 ≤ _ at h; omega)]
    rw [if_neg h1] at h; rw [if_neg h1, if_neg h1, opens_loc a b (c :: p) (by omega)]
    by_cases h2 : opens ((c :: p) ++ a) = true
    · rw [if_pos h2] at h; rw [if_pos h2, if_pos h2]
      change (rem 0 false ((c :: p) ++ a)).1 + 3 ≤ _ at h
      rw [rem_loc a b (c :: p) 0 false (by omega)]
    rw [if_neg h2] at h; rw [if_neg h2, if_neg h2]
    by_cases h4 : lowB c = true
    · rw [if_pos h4] at h; rw [if_pos h4, if_pos h4]
      change lead inB ((c :: p) ++ a) + 3 ≤ _ at h
      rw [lead_loc inB a b (c :: p) (by omega), List.take_append_of_le_length (by omega), List.take_append_of_le_length (by omega)]
    rw [if_neg h4] at h; rw [if_neg h4, if_neg h4]
    by_cases h5 : digB c = true
    · rw [if_pos h5] at h; rw [if_pos h5, if_pos h5, num_loc a b (c :: p) h]
    rw [if_neg h5] at h; rw [if_neg h5, if_neg h5]
    by_cases h6 : (c == 34) = true
    · rw [if_pos h6] at h; rw [if_pos h6, if_pos h6]
      change (quo 0 (p ++ a)).2 + 1 + 3 ≤ p.length + 1 at h
      rw [quo_loc a b p 0 (by omega)]
    rw [if_neg h6] at h; rw [if_neg h6, if_neg h6, List.take_append_of_le_length (l₂ := b) (by omega)]
    rw [List.take_append_of_le_length (l₂ := a) (by omega)] at h ⊢
    by_cases h7 : twosL.contains ((c :: p).take 2) = true
    · rw [if_pos h7, if_pos h7]
    rw [if_neg h7] at h; rw [if_neg h7, if_neg h7]
    by_cases h8 : onesL.contains c = true
    · rw [if_pos h8, if_pos h8]
    rw [if_neg h8] at h; rw [if_neg h8, if_neg h8, hr h]
/-- How many tokens end three bytes or more ahead of a byte. -/
def keepN : Nat → List Tok → Nat
  | _, [] => 0
  | m, t :: r => if t.2.length + 3 ≤ m then keepN (m - t.2.length) r + 1 else 0
def flatN (l : List Tok) : Nat := (l.flatMap (·.2)).length
theorem flatN_cons (t : Tok) (l : List Tok) : flatN (t :: l) = t.2.length + flatN l := by unfold flatN; rw [List.flatMap_cons, List.length_append]
theorem keepN_le : ∀ (l : List Tok) (m : Nat), keepN m l ≤ l.length
  | [], m => Nat.le_refl _
  | t :: l, m => by
    unfold keepN; split
    · have := keepN_le l (m - t.2.length); rw [List.length_cons]; omega
    · exact Nat.zero_le _
theorem keepN_end : ∀ (l : List Tok) (m : Nat), keepN m l = 0 ∨ flatN (l.take (keepN m l)) + 3 ≤ m
  | [], m => .inl rfl
  | t :: l, m => by
    unfold keepN; split
    · rename_i h
      right
      rw [List.take_succ_cons, flatN_cons]
      rcases keepN_end l (m - t.2.length) with h1 | h1
      · rw [h1]; simp [flatN]; exact h
      · omega
    · exact .inl rfl
end Go.Proofs.YtfedmhccbfhcbaaGreatDoor
