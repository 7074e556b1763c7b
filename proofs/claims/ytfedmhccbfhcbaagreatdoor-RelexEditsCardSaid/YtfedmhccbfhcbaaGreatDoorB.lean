/-
  Where a token ends hangs on its own bytes alone (plainly): a token by itself, and ahead of a line's end.
-/
import Derived.Test.YtfedmhccbfhcbaaGreatDoorA
namespace Go.Proofs.YtfedmhccbfhcbaaGreatDoor

/-! ### by itself -/
theorem opens_take {l : List UInt8} {n : Nat} (h : 2 ≤ n) : opens (l.take n) = opens l := by
  match l, n, h with
  | [], n, _ => simp
  | [a], n + 2, _ => rfl
  | a :: b :: r, n + 2, _ => rfl
theorem closes_take {l : List UInt8} {n : Nat} (h : 2 ≤ n) : closes (l.take n) = closes l := by
  match l, n, h with
  | [], n, _ => simp
  | [a], n + 2, _ => rfl
  | a :: b :: r, n + 2, _ => rfl
theorem opens_one (a : UInt8) : opens [a] = false := by unfold opens; simp [List.isPrefixOf]
theorem closes_one (a : UInt8) : closes [a] = false := by unfold closes; simp [List.isPrefixOf]
theorem opens_mono {l : List UInt8} {n : Nat} (h : opens (l.take n) = true) : opens l = true := by
  unfold opens at *
  exact List.isPrefixOf_iff_prefix.2 ((List.isPrefixOf_iff_prefix.1 h).trans (List.take_prefix n l))
theorem closes_mono {l : List UInt8} {n : Nat} (h : closes (l.take n) = true) : closes l = true := by
  unfold closes at *
  exact List.isPrefixOf_iff_prefix.2 ((List.isPrefixOf_iff_prefix.1 h).trans (List.take_prefix n l))
theorem rem_true (o : Nat) (c : UInt8) (r : List UInt8) : rem o true (c :: r) = if o = 0 then (1, true) else add1 (rem o false r) := rfl
theorem rem_false (o : Nat) (c : UInt8) (r : List UInt8) : rem o false (c :: r) = if opens (c :: r) then add1 (rem (o + 1) true r) else if closes (c :: r) then add1 (rem (o - 1) true r) else add1 (rem o false r) := rfl
theorem rem_nil (o : Nat) (p : Bool) : rem o p [] = (0, false) := by cases p <;> rfl
theorem rem_take : ∀ (l : List UInt8) (o : Nat) (p : Bool), rem o p (l.take (rem o p l).1) = rem o p l
  | [], o, p => by simp
  | c :: r, o, true => by
    rw [rem_true]
    split
    · rename_i h; simp [rem_true, h]
    · rename_i h
      show rem o true (List.take ((rem o false r).1 + 1) (c :: r)) = _
      rw [List.take_succ_cons, rem_true, if_neg h, rem_take r o false]
  | c :: r, o, false => by
    rw [rem_false]
    split
    · rename_i h
      have h2 := opens_len h
      have h3 : 1 ≤ (rem (o + 1) true r).1 := by
        cases r with
        | nil => simp at h2
        | cons d r => exact rem_pos _ _ _ _
      show rem o false (List.take ((rem (o + 1) true r).1 + 1) (c :: r)) = _
      have h4 := opens_take (l := c :: r) (n := (rem (o + 1) true r).1 + 1) (by omega)
      rw [List.take_succ_cons] at h4 ⊢
      rw [rem_false, h4, if_pos h, rem_take r (o + 1) true]
    · rename_i hn
      split
      · rename_i h
        have h2 : 2 ≤ (c :: r).length := by
          unfold closes at h
          have := (List.isPrefixOf_iff_prefix.1 h).length_le
          simpa using this
        have h3 : 1 ≤ (rem (o - 1) true r).1 := by
          cases r with
          | nil => simp at h2
          | cons d r => exact rem_pos _ _ _ _
        show rem o false (List.take ((rem (o - 1) true r).1 + 1) (c :: r)) = _
        have h4 := closes_take (l := c :: r) (n := (rem (o - 1) true r).1 + 1) (by omega)
        have h5 := opens_take (l := c :: r) (n := (rem (o - 1) true r).1 + 1) (by omega)
        rw [List.take_succ_cons] at h4 h5 ⊢
        rw [rem_false, h5, if_neg hn, h4, if_pos h, rem_take r (o - 1) true]
      · rename_i h
        show rem o false (List.take ((rem o false r).1 + 1) (c :: r)) = _
        have h5 : ¬ opens (List.take ((rem o false r).1 + 1) (c :: r)) = true := fun x => hn (opens_mono x)
        have h4 : ¬ closes (List.take ((rem o false r).1 + 1) (c :: r)) = true := fun x => h (closes_mono x)
        rw [List.take_succ_cons] at h4 h5 ⊢
        rw [rem_false, if_neg h5, if_neg h4, rem_take r o false]
theorem sgn_take (l : List UInt8) (n : Nat) (h : 0 < n) : sgn (l.take n) = sgn l := by
  cases n with
  | zero => omega
  | succ n => cases l <;> rfl
theorem expo_take (l : List UInt8) : expo (l.take (expo l)) = expo l := by
  cases l with
  | nil => rfl
  | cons c r =>
    rw [expo_cons]
    by_cases h1 : (c == 101 || c == 69) = true
    · rw [if_pos h1]
      by_cases h2 : lead digB (r.drop (sgn r)) = 0
      · rw [if_pos h2]; rfl
      · rw [if_neg h2, Nat.add_assoc, Nat.add_comm 1, List.take_succ_cons, expo_cons, if_pos h1, sgn_take r _ (by omega), List.drop_take, Nat.add_sub_cancel_left, lead_take, Nat.min_self, if_neg h2]
        omega
    · rw [if_neg h1]; rfl
theorem num_eq (l : List UInt8) : num l = if l[lead digB l]? = some 46 then
    (if fits (lead digB l) (frac (l.drop (lead digB l + 1))) (expT (l.drop (lead digB l + 1))) then 6 else 9, lead digB l + 1 + frac (l.drop (lead digB l + 1)) + (expT (l.drop (lead digB l + 1))).length)
  else (5, lead digB l) := rfl
theorem num_take (l : List UInt8) : num (l.take (num l).2) = num l := by
  obtain ⟨W, hW⟩ : ∃ W, lead digB l = W := ⟨_, rfl⟩
  obtain ⟨R, hR⟩ : ∃ R, l.drop (W + 1) = R := ⟨_, rfl⟩
  have hE := expT_len R
  have hn := num_eq l
  rw [hW, hR] at hn
  by_cases h : l[W]? = some 46
  · rw [if_pos h] at hn
    have h2 : (num l).2 = W + 1 + (frac R + expo (R.drop (frac R))) := by rw [hn, hE]; show W + 1 + _ + _ = _; omega
    have hx := num_eq (l.take (num l).2)
    rw [lead_take, hW, h2, Nat.min_eq_right (by omega), List.getElem?_take_of_lt (by omega), if_pos h, List.drop_take, hR, Nat.add_sub_cancel_left] at hx
    have hf : frac (R.take (frac R + expo (R.drop (frac R)))) = frac R := by
      unfold frac; rw [lead_take, Nat.min_eq_right (by omega)]
    have he : expT (R.take (frac R + expo (R.drop (frac R)))) = expT R := by
      unfold expT
      rw [hf, List.drop_take, Nat.add_sub_cancel_left, expo_take, List.take_take, Nat.min_self]
    rw [h2, hx, hn, hf, he]
  · rw [if_neg h] at hn
    rw [hn]
    show num (l.take W) = _
    have hx := num_eq (l.take W)
    rw [lead_take, hW, Nat.min_self, List.getElem?_eq_none (by simp; omega), if_neg (by simp)] at hx
    exact hx
theorem quo_take : ∀ (l : List UInt8) (st : Nat), quo st (l.take (quo st l).2) = quo st l
  | [], st => by simp
  | c :: r, 0 => by
    have h0 := quo_take r 0
    have h1 := quo_take r 1
    rw [show quo 0 (c :: r) = if c == 34 then (7, 1) else if c == 10 then (9, 0) else if c == 92 then addN (quo 1 r) else addN (quo 0 r) from rfl]
    by_cases a1 : (c == 34) = true
    · rw [if_pos a1]; show quo 0 [c] = _; unfold quo; rw [if_pos a1]
    rw [if_neg a1]
    by_cases a2 : (c == 10) = true
    · rw [if_pos a2]; rfl
    rw [if_neg a2]
    by_cases a3 : (c == 92) = true
    · rw [if_pos a3]; show quo 0 (List.take ((quo 1 r).2 + 1) (c :: r)) = _
      rw [List.take_succ_cons]
      rw [show ∀ x, quo 0 (c :: x) = if c == 34 then (7, 1) else if c == 10 then (9, 0) else if c == 92 then addN (quo 1 x) else addN (quo 0 x) from fun _ => rfl, if_neg a1, if_neg a2, if_pos a3, h1]
    · rw [if_neg a3]; show quo 0 (List.take ((quo 0 r).2 + 1) (c :: r)) = _
      rw [List.take_succ_cons]
      rw [show ∀ x, quo 0 (c :: x) = if c == 34 then (7, 1) else if c == 10 then (9, 0) else if c == 92 then addN (quo 1 x) else addN (quo 0 x) from fun _ => rfl, if_neg a1, if_neg a2, if_neg a3, h0]
  | c :: r, 1 => by
    have h0 := quo_take r 0
    have h1 := quo_take r 2
    have e : ∀ x, quo 1 (c :: x) = if escB c then addN (quo 0 x) else if c == 10 then (9, 0) else addN (quo 2 x) := fun _ => rfl
    rw [e]
    by_cases a1 : escB c = true
    · rw [if_pos a1]; show quo 1 (List.take ((quo 0 r).2 + 1) (c :: r)) = _
      rw [List.take_succ_cons, e, if_pos a1, h0]
    rw [if_neg a1]
    by_cases a2 : (c == 10) = true
    · rw [if_pos a2]; rfl
    · rw [if_neg a2]; show quo 1 (List.take ((quo 2 r).2 + 1) (c :: r)) = _
      rw [List.take_succ_cons, e, if_neg a1, if_neg a2, h1]
  | c :: r, st + 2 => by
    have h1 := quo_take r 2
    have e : ∀ x, quo (st + 2) (c :: x) = if c == 34 then (9, 1) else if c == 10 then (9, 0) else addN (quo 2 x) := fun _ => rfl
    rw [e]
    by_cases a1 : (c == 34) = true
    · rw [if_pos a1]; show quo (st + 2) [c] = _; rw [e, if_pos a1]
    rw [if_neg a1]
    by_cases a2 : (c == 10) = true
    · rw [if_pos a2]; rfl
    · rw [if_neg a2]; show quo (st + 2) (List.take ((quo 2 r).2 + 1) (c :: r)) = _
      rw [List.take_succ_cons, e, if_neg a1, if_neg a2, h1]
/-- The bytes of a token of one character: what its rune asks. -/
def OneRune (l : List UInt8) : Prop := runeN (l.take (runeN l)) = runeN l
theorem take_cons_pos {α : Type _} (c : α) (r : List α) (n : Nat) (h : 0 < n) : (c :: r).take n = c :: r.take (n - 1) := by
  cases n with
  | zero => omega
  | succ n => rfl
theorem cut_take (l : List UInt8) (hr : OneRune l) : cut (l.take (cut l).2) = cut l := by
  cases l with
  | nil => rfl
  | cons c r =>
    have hp := (cut_bd (c :: r) (by simp)).1
    have key : ∀ x, cut (c :: x) = cutC c x := fun _ => rfl
    obtain ⟨n, hn⟩ : ∃ n, (cut (c :: r)).2 = n := ⟨_, rfl⟩
    rw [hn] at hp ⊢
    have htk := take_cons_pos c r n hp
    have T : cut ((c :: r).take n) = cutC c (r.take (n - 1)) := by rw [htk]; rfl
    rw [T]
    rw [key] at hn ⊢
    have U : ∀ x, cutC c x = if blankB c then (1, lead blankB (c :: x))
      else if opens (c :: x) then (if (rem 0 false (c :: x)).2 then 2 else 9, (rem 0 false (c :: x)).1)
      else if lowB c then (nameK ((c :: x).take (lead inB (c :: x))), lead inB (c :: x))
      else if digB c then num (c :: x)
      else if c == 34 then addN (quo 0 x)
      else if twosL.contains ((c :: x).take 2) then (8, 2)
      else if onesL.contains c then (8, 1)
      else (9, runeN (c :: x)) := fun _ => rfl
    rw [U] at hn
    rw [U, U, ← htk]
    by_cases h1 : blankB c = true
    · rw [if_pos h1] at hn; rw [if_pos h1, if_pos h1, ← hn, lead_take, Nat.min_self]
    rw [if_neg h1] at hn; rw [if_neg h1, if_neg h1]
    by_cases h2 : opens (c :: r) = true
    · rw [if_pos h2] at hn; rw [if_pos h2]
      have hn2 : (rem 0 false (c :: r)).1 = n := hn
      have h2n : 2 ≤ n := by
        rw [← hn2, rem_false, if_pos h2]
        have := opens_len h2
        cases r with
        | nil => simp at this
        | cons d r => have := rem_pos d r (0 + 1) true; show 2 ≤ (rem (0 + 1) true (d :: r)).1 + 1; omega
      rw [opens_take h2n, if_pos h2, ← hn2, rem_take]
    rw [if_neg h2] at hn; rw [if_neg h2, if_neg (fun x => h2 (opens_mono x))]
    by_cases h3 : lowB c = true
    · rw [if_pos h3] at hn; rw [if_pos h3, if_pos h3]
      have hn2 : lead inB (c :: r) = n := hn
      rw [← hn2, lead_take, Nat.min_self, List.take_take, Nat.min_self]
    rw [if_neg h3] at hn; rw [if_neg h3, if_neg h3]
    by_cases h4 : digB c = true
    · rw [if_pos h4] at hn; rw [if_pos h4, if_pos h4, ← hn, num_take]
    rw [if_neg h4] at hn; rw [if_neg h4, if_neg h4]
    by_cases h5 : (c == 34) = true
    · rw [if_pos h5] at hn; rw [if_pos h5, if_pos h5]
      have hn2 : n - 1 = (quo 0 r).2 := by rw [← hn]; rfl
      rw [hn2, quo_take]
    rw [if_neg h5] at hn; rw [if_neg h5, if_neg h5]
    by_cases h6 : twosL.contains ((c :: r).take 2) = true
    · rw [if_pos h6] at hn; rw [if_pos h6]
      have hn2 : 2 = n := hn
      rw [← hn2, List.take_take, Nat.min_self, if_pos h6]
    rw [if_neg h6] at hn; rw [if_neg h6]
    have h6' : ¬ twosL.contains (((c :: r).take n).take 2) = true := fun x => by
      have hl := twos_len x
      apply h6
      rw [List.length_take] at hl
      rw [List.take_take, Nat.min_eq_left (by omega)] at x
      exact x
    rw [if_neg h6']
    by_cases h7 : onesL.contains c = true
    · rw [if_pos h7, if_pos h7]
    rw [if_neg h7] at hn; rw [if_neg h7, if_neg h7]
    have hn2 : runeN (c :: r) = n := hn
    unfold OneRune at hr
    rw [← hn2, hr]

/-! ### ahead of a line's end -/
theorem opens_more (t r : List UInt8) (h : t ≠ []) : opens (t ++ 10 :: r) = opens t := by
  match t, h with
  | [a], _ => unfold opens; simp [List.isPrefixOf]
  | a :: b :: t, _ => rfl
theorem rem_more : ∀ (t s : List UInt8) (o : Nat) (p : Bool), (rem o p t).2 = true → rem o p (t ++ s) = rem o p t
  | [], s, o, p, h => by rw [rem_nil] at h; cases h
  | c :: t, s, o, true, h => by
    rw [List.cons_append, rem_true, rem_true]
    rw [rem_true] at h
    split
    · rfl
    · rename_i ho; rw [if_neg ho] at h; rw [rem_more t s o false h]
  | [c], s, o, false, h => by
    rw [rem_false, opens_one, closes_one, if_neg (by simp), if_neg (by simp), rem_nil] at h; cases h
  | c :: d :: t, s, o, false, h => by
    have e1 : opens ((c :: d :: t) ++ s) = opens (c :: d :: t) := rfl
    have e2 : closes ((c :: d :: t) ++ s) = closes (c :: d :: t) := rfl
    rw [rem_false] at h
    have e3 : rem o false ((c :: d :: t) ++ s) = if opens ((c :: d :: t) ++ s) then add1 (rem (o + 1) true ((d :: t) ++ s)) else if closes ((c :: d :: t) ++ s) then add1 (rem (o - 1) true ((d :: t) ++ s)) else add1 (rem o false ((d :: t) ++ s)) := rfl
    rw [e3, rem_false, e1, e2]
    by_cases h1 : opens (c :: d :: t) = true
    · rw [if_pos h1] at h; rw [if_pos h1, if_pos h1, rem_more (d :: t) s _ _ h]
    rw [if_neg h1] at h; rw [if_neg h1, if_neg h1]
    by_cases h2 : closes (c :: d :: t) = true
    · rw [if_pos h2] at h; rw [if_pos h2, if_pos h2, rem_more (d :: t) s _ _ h]
    rw [if_neg h2] at h; rw [if_neg h2, if_neg h2, rem_more (d :: t) s _ _ h]
theorem sgn_more (t r : List UInt8) : sgn (t ++ 10 :: r) = sgn t := by cases t <;> rfl
theorem drop_more (t r : List UInt8) (k : Nat) (h : k ≤ t.length) : (t ++ 10 :: r).drop k = t.drop k ++ 10 :: r := List.drop_append_of_le_length h
theorem expo_more (t r : List UInt8) : expo (t ++ 10 :: r) = expo t := by
  cases t with
  | nil => rfl
  | cons c t =>
    rw [List.cons_append, expo_cons, expo_cons, sgn_more, drop_more _ _ _ (sgn_le t), lead_more digB 10 r (by decide)]
theorem num_more (t r : List UInt8) : num (t ++ 10 :: r) = num t := by
  have hl := lead_le digB t
  rw [num_eq, num_eq, lead_more digB 10 r (by decide)]
  by_cases h : lead digB t < t.length
  · rw [List.getElem?_append_left h, drop_more _ _ _ (by omega)]
    have e1 : ∀ x : List UInt8, frac (x ++ 10 :: r) = frac x := fun x => lead_more digB 10 r (by decide) x
    have e2 : ∀ x : List UInt8, expT (x ++ 10 :: r) = expT x := fun x => by
      unfold expT
      rw [e1, drop_more _ _ (frac x) (lead_le digB x), expo_more, List.take_append_of_le_length (expo_le _)]
    rw [e1, e2]
  · rw [List.getElem?_append_right (by omega), List.getElem?_eq_none (l := t) (by omega), show lead digB t - t.length = 0 by omega, if_neg (by simp), if_neg (by simp)]
theorem quo_more (r : List UInt8) : ∀ (t : List UInt8) (st : Nat), quo st (t ++ 10 :: r) = quo st t
  | [], 0 => rfl
  | [], 1 => rfl
  | [], st + 2 => rfl
  | c :: t, 0 => by
    have e : ∀ x, quo 0 (c :: x) = if c == 34 then (7, 1) else if c == 10 then (9, 0) else if c == 92 then addN (quo 1 x) else addN (quo 0 x) := fun _ => rfl
    rw [List.cons_append, e, e, quo_more r t 1, quo_more r t 0]
  | c :: t, 1 => by
    have e : ∀ x, quo 1 (c :: x) = if escB c then addN (quo 0 x) else if c == 10 then (9, 0) else addN (quo 2 x) := fun _ => rfl
    rw [List.cons_append, e, e, quo_more r t 2, quo_more r t 0]
  | c :: t, st + 2 => by
    have e : ∀ x, quo (st + 2) (c :: x) = if c == 34 then (9, 1) else if c == 10 then (9, 0) else addN (quo 2 x) := fun _ => rfl
    rw [List.cons_append, e, e, quo_more r t 2]
/-- A token ahead of a line's end stays it, if it is no Blank, and no remark without an end. -/
theorem cut_more (t r : List UInt8) (ht : t ≠ []) (hb : (cut t).1 ≠ 1) (ho : ¬ ((cut t).1 = 9 ∧ opens t = true)) (hr : runeN (t ++ 10 :: r) = runeN t) : cut (t ++ 10 :: r) = cut t := by
  cases t with
  | nil => exact absurd rfl ht
  | cons c t =>
    have U : ∀ x, cut (c :: x) = if blankB c then (1, lead blankB (c :: x))
      else if opens (c :: x) then (if (rem 0 false (c :: x)).2 then 2 else 9, (rem 0 false (c :: x)).1)
      else if lowB c then (nameK ((c :: x).take (lead inB (c :: x))), lead inB (c :: x))
      else if digB c then num (c :: x)
      else if c == 34 then addN (quo 0 x)
      else if twosL.contains ((c :: x).take 2) then (8, 2)
      else if onesL.contains c then (8, 1)
      else (9, runeN (c :: x)) := fun _ => rfl
    rw [U] at hb ho
    rw [List.cons_append, U, U, ← List.cons_append]
    by_cases h1 : blankB c = true
    · rw [if_pos h1] at hb; exact absurd rfl hb
    rw [if_neg h1] at hb ho
    rw [if_neg h1, if_neg h1, opens_more _ _ ht]
    by_cases h2 : opens (c :: t) = true
    · rw [if_pos h2] at ho; rw [if_pos h2, if_pos h2]
      have h3 : (rem 0 false (c :: t)).2 = true := by
        apply Classical.byContradiction; intro h; exact ho ⟨by rw [if_neg h], h2⟩
      rw [rem_more _ _ _ _ h3]
    rw [if_neg h2, if_neg h2, lead_more inB 10 r (by decide), List.take_append_of_le_length (lead_le _ _), num_more, quo_more]
    by_cases h3 : lowB c = true
    · rw [if_pos h3, if_pos h3]
    rw [if_neg h3, if_neg h3]
    by_cases h4 : digB c = true
    · rw [if_pos h4, if_pos h4]
    rw [if_neg h4, if_neg h4]
    by_cases h5 : (c == 34) = true
    · rw [if_pos h5, if_pos h5]
    rw [if_neg h5, if_neg h5, hr]
    have h6 : twosL.contains (((c :: t) ++ 10 :: r).take 2) = twosL.contains ((c :: t).take 2) := by
      cases t with
      | nil =>
        show twosL.contains [c, 10] = twosL.contains [c]
        unfold twosL
        simp
      | cons d t => rfl
    rw [h6]
end Go.Proofs.YtfedmhccbfhcbaaGreatDoor
