/-
  Frames, plainly: what a reader does with the bytes that it holds. No model in it.
-/
import Derived.Lib.IndexMore
import Derived.Lib.Split
import Derived.Lib.Fold
import Derived.Lib.SlTrimSet
import Derived.Lib.AtoiAll
import Derived.Lib.Strings
namespace Go.Proofs.YtlafcnmopclgiaaGreatDoor
open Go.Lib

def crlf : List UInt8 := [13, 10]
def crlf2 : List UInt8 := [13, 10, 13, 10]
def mark : List UInt8 := [67, 111, 110, 116, 101, 110, 116, 45, 76, 101, 110, 103, 116, 104, 58]
def clen : List UInt8 := [99, 111, 110, 116, 101, 110, 116, 45, 108, 101, 110, 103, 116, 104]
inductive Mode where
  | head
  | body (n : Nat)
  | skip
abbrev Ev := List UInt8 × Int
def isLet (c : UInt8) : Bool := (decide (97 ≤ c.toNat) && decide (c.toNat ≤ 122)) || (decide (65 ≤ c.toNat) && decide (c.toNat ≤ 90))
def isDig (c : UInt8) : Bool := decide (48 ≤ c.toNat) && decide (c.toNat ≤ 57)
def nameC (c : UInt8) : Bool := isLet c || isDig c || c == 45
def isName (l : List UInt8) : Bool := l.all nameC && !l.isEmpty
def isNumb (l : List UInt8) : Bool := l.all isDig && (l == [48] || (!l.isEmpty && l.head? != some 48))
/-- The values of the lines with the name content-length; none: a line is wrong. -/
def scan : List (List UInt8) → Option (List (List UInt8))
  | [] => some []
  | l :: r =>
    if (cut l [58]).2.2 && isName (cut l [58]).1 then
      match scan r with
      | none => none
      | some vs => some (if equalFold (cut l [58]).1 clen then trimS (cut l [58]).2.1 [32, 9] :: vs else vs)
    else none
/-- A head's length, or the error. -/
def headLen (b : List UInt8) : Except Int Nat :=
  match scan (split b crlf) with
  | some [v] =>
    if isNumb v then
      match atoiAll v with
      | .ok n => if 262144 < n then .error 40 else .ok n.toNat
      | _ => .error 40
    else .error 72
  | _ => .error 72
/-- The longest end that may be the beginning of a mark, of k bytes at most. -/
def begunF (h : List UInt8) : Nat → Nat
  | 0 => 0
  | k + 1 => if hasSuffix h (mark.take (k + 1)) then k + 1 else begunF h k
def begun (h : List UInt8) : Nat := begunF h (min h.length 14)
/-- One operation: the bytes that it used up, what it tells, the next one (none: more bytes are needed). -/
def opHead (h : List UInt8) : Nat × Option Ev × Option Mode :=
  if 0 ≤ index (h.take 1028) crlf2 then
    match headLen ((h.take 1028).take (index (h.take 1028) crlf2).toNat) with
    | .error k => (1, some ([], k), some .skip)
    | .ok n => ((index (h.take 1028) crlf2).toNat + 4, none, some (.body n))
  else if h.length < 1028 then (0, none, none)
  else (1, some ([], 72), some .skip)
def opBody (n : Nat) (h : List UInt8) : Nat × Option Ev × Option Mode := if h.length < n then (0, none, none) else (n, some (h.take n, 0), some .head)
def opSkip (h : List UInt8) : Nat × Option Ev × Option Mode := if 0 ≤ index h mark then ((index h mark).toNat, none, some .head) else (h.length - begun h, none, none)
def op : Mode → List UInt8 → Nat × Option Ev × Option Mode
  | .head, h => opHead h
  | .body n, h => opBody n h
  | .skip, h => opSkip h
def run : Nat → Mode → List UInt8 → Nat × List Ev × Mode
  | 0, m, _ => (0, [], m)
  | f + 1, m, h =>
    match op m h with
    | (u, e, none) => (u, e.toList, m)
    | (u, e, some m2) => (u + (run f m2 (h.drop u)).1, e.toList ++ (run f m2 (h.drop u)).2.1, (run f m2 (h.drop u)).2.2)
def rank : Mode → Nat
  | .head => 0
  | _ => 1
theorem index_nat {s sub : List UInt8} (h : 0 ≤ index s sub) : ∃ i : Nat, index s sub = i ∧ i + sub.length ≤ s.length ∧ occAt s sub i = true ∧ NoOcc s sub i := by
  rcases index_spec s sub with ⟨h1, _⟩ | ⟨i, h1, h2, h3, h4⟩
  · omega
  · have := index_room s sub h
    exact ⟨i, h1, by omega, h3, h4⟩
theorem op_used (m : Mode) (h : List UInt8) : (op m h).1 ≤ h.length ∧ ∀ m2, (op m h).2.2 = some m2 → 2 * (h.length - (op m h).1) + rank m2 < 2 * h.length + rank m := by
  cases m with
  | head =>
    simp only [op, opHead]
    split
    · rename_i hi
      obtain ⟨i, h1, h2, _, _⟩ := index_nat hi
      rw [List.length_take] at h2
      have h4 : crlf2.length = 4 := rfl
      rw [h1]
      split
      · refine ⟨by show 1 ≤ _; omega, fun m2 e => ?_⟩
        cases e
        simp only [rank]; omega
      · refine ⟨by show _ ≤ _; simp only [Int.toNat_natCast]; omega, fun m2 e => ?_⟩
        cases e
        simp only [rank, Int.toNat_natCast]; omega
    · split
      · exact ⟨Nat.zero_le _, fun m2 e => by cases e⟩
      · refine ⟨by show 1 ≤ _; omega, fun m2 e => ?_⟩
        cases e
        simp only [rank]; omega
  | body n =>
    simp only [op, opBody]
    split
    · exact ⟨Nat.zero_le _, fun m2 e => by cases e⟩
    · refine ⟨by show n ≤ _; omega, fun m2 e => ?_⟩
      cases e
      simp only [rank]; omega
  | skip =>
    simp only [op, opSkip]
    split
    · rename_i hi
      obtain ⟨i, h1, h2, _, _⟩ := index_nat hi
      rw [h1]
      refine ⟨by show _ ≤ _; simp only [Int.toNat_natCast]; omega, fun m2 e => ?_⟩
      cases e
      simp only [rank, Int.toNat_natCast]; omega
    · exact ⟨by show _ - _ ≤ _; omega, fun m2 e => by cases e⟩
theorem run_fuel : ∀ (f g : Nat) (m : Mode) (h : List UInt8), 2 * h.length + rank m < f → 2 * h.length + rank m < g → run f m h = run g m h
  | 0, _, m, h, hf, _ => absurd hf (Nat.not_lt_zero _)
  | _ + 1, 0, m, h, _, hg => absurd hg (Nat.not_lt_zero _)
  | f + 1, g + 1, m, h, hf, hg => by
    have hu := op_used m h
    unfold run
    generalize op m h = x at hu
    obtain ⟨u, e, n⟩ := x
    cases n with
    | none => rfl
    | some m2 =>
      have := hu.2 m2 rfl
      simp only at this hu ⊢
      rw [run_fuel f g m2 (h.drop u) (by rw [List.length_drop]; omega) (by rw [List.length_drop]; omega)]
/-- All operations, till more bytes are needed. -/
def runA (m : Mode) (h : List UInt8) : Nat × List Ev × Mode := run (2 * h.length + 2) m h
theorem runA_step (m : Mode) (h : List UInt8) : runA m h = match op m h with
    | (u, e, none) => (u, e.toList, m)
    | (u, e, some m2) => (u + (runA m2 (h.drop u)).1, e.toList ++ (runA m2 (h.drop u)).2.1, (runA m2 (h.drop u)).2.2) := by
  have hu := op_used m h
  unfold runA
  rw [run]
  generalize op m h = x at hu
  obtain ⟨u, e, n⟩ := x
  cases n with
  | none => rfl
  | some m2 =>
    have := hu.2 m2 rfl
    have hr : rank m ≤ 1 := by cases m <;> simp [rank]
    have hr2 : rank m2 ≤ 1 := by cases m2 <;> simp [rank]
    simp only at this hu ⊢
    rw [run_fuel (2 * h.length + 1) (2 * (h.drop u).length + 2) m2 (h.drop u) (by rw [List.length_drop]; omega) (by rw [List.length_drop]; omega)]
theorem occAt_append {a b sub : List UInt8} {i : Nat} (h : i + sub.length ≤ a.length) : occAt (a ++ b) sub i = occAt a sub i := by
  unfold occAt
  rw [Bool.eq_iff_iff, List.isPrefixOf_iff_prefix, List.isPrefixOf_iff_prefix, List.drop_append_of_le_length (by omega)]
  constructor
  · intro k
    exact List.prefix_of_prefix_length_le k (List.prefix_append _ _) (by rw [List.length_drop]; omega)
  · intro k
    exact k.trans (List.prefix_append _ _)
theorem occAt_fits {a sub : List UInt8} {i : Nat} (hs : 0 < sub.length) (h : occAt a sub i = true) : i + sub.length ≤ a.length := by
  unfold occAt at h
  have := (List.isPrefixOf_iff_prefix.1 h).length_le
  rw [List.length_drop] at this
  omega
/-- What is found stays so when more comes behind. -/
theorem index_append {a b sub : List UInt8} (hs : 0 < sub.length) (h : 0 ≤ index a sub) : index (a ++ b) sub = index a sub := by
  obtain ⟨i, h1, h2, h3, h4⟩ := index_nat h
  rw [h1]
  refine index_first (by rw [List.length_append]; omega) (by rw [occAt_append h2]; exact h3) fun j hj => ?_
  rw [occAt_append (by omega)]; exact h4 j hj
theorem take_app (a b : List UInt8) (n : Nat) : (a ++ b).take n = a.take n ++ b.take (n - a.length) := List.take_append
theorem op_more (m : Mode) (a b : List UInt8) (m2 : Mode) (h : (op m a).2.2 = some m2) : op m (a ++ b) = op m a := by
  cases m with
  | head =>
    simp only [op, opHead] at h ⊢
    by_cases hi : 0 ≤ index (a.take 1028) crlf2
    · have e : index ((a ++ b).take 1028) crlf2 = index (a.take 1028) crlf2 := by rw [take_app]; exact index_append (by decide) hi
      rw [e, if_pos hi, if_pos hi]
      obtain ⟨i, h1, h2, _, _⟩ := index_nat hi
      rw [h1, take_app, List.take_append_of_le_length (by simp only [Int.toNat_natCast]; omega)]
    · rw [if_neg hi] at h
      by_cases hl : a.length < 1028
      · rw [if_pos hl] at h; cases h
      · rw [take_app, show 1028 - a.length = 0 by omega, List.take_zero, List.append_nil, if_neg hi, if_neg hi, if_neg hl, if_neg (by rw [List.length_append]; omega)]
  | body n =>
    simp only [op, opBody] at h ⊢
    by_cases hl : a.length < n
    · rw [if_pos hl] at h; cases h
    · rw [if_neg hl, if_neg (by rw [List.length_append]; omega), List.take_append_of_le_length (by omega)]
  | skip =>
    simp only [op, opSkip] at h ⊢
    by_cases hi : 0 ≤ index a mark
    · rw [index_append (by decide) hi, if_pos hi, if_pos hi]
    · rw [if_neg hi] at h; cases h
theorem begunF_le (h : List UInt8) : ∀ k, begunF h k ≤ k
  | 0 => Nat.le_refl _
  | k + 1 => by
    unfold begunF
    split
    · exact Nat.le_refl _
    · have := begunF_le h k; omega
theorem begunF_max (h : List UInt8) : ∀ (k j : Nat), j ≤ k → hasSuffix h (mark.take j) = true → j ≤ begunF h k
  | 0, j, hj, _ => hj
  | k + 1, j, hj, hs => by
    unfold begunF
    split
    · exact hj
    · rename_i hn
      rcases Nat.lt_or_ge j (k + 1) with g | g
      · exact begunF_max h k j (by omega) hs
      · have : j = k + 1 := by omega
        subst this; exact absurd hs hn
theorem begunF_suffix (h : List UInt8) : ∀ k, hasSuffix h (mark.take (begunF h k)) = true
  | 0 => by unfold begunF hasSuffix; simp
  | k + 1 => by
    unfold begunF
    split
    · assumption
    · exact begunF_suffix h k
theorem begun_le (h : List UInt8) : begun h ≤ h.length ∧ begun h ≤ 14 := by
  have := begunF_le h (min h.length 14)
  unfold begun; omega
/-- What may begin a mark at the end is held. -/
theorem begun_max (h : List UInt8) (j : Nat) (h1 : j ≤ 14) (hs : mark.take j <:+ h) : j ≤ begun h := by
  have hl : (mark.take j).length = j := by rw [List.length_take]; show min j 15 = j; omega
  have := hs.length_le
  exact begunF_max h _ j (by omega) (List.isSuffixOf_iff_suffix.2 hs)
theorem begun_suffix (h : List UInt8) : mark.take (begun h) <:+ h := List.isSuffixOf_iff_suffix.1 (begunF_suffix h _)
/-- No mark begins in what is let go. -/
theorem no_mark {a b : List UInt8} (hn : ¬ 0 ≤ index a mark) (j : Nat) (hj : j < a.length - begun a) : occAt (a ++ b) mark j = false := by
  have hml : mark.length = 15 := rfl
  rcases Nat.lt_or_ge a.length (j + 15) with g | g
  · rw [Bool.eq_false_iff]
    intro ho
    unfold occAt at ho
    have hp := List.isPrefixOf_iff_prefix.1 ho
    rw [List.drop_append_of_le_length (by omega)] at hp
    have h2 : mark.take (a.length - j) <:+ a := by
      have : mark.take (a.length - j) = a.drop j := by
        obtain ⟨t, ht⟩ := hp
        have := congrArg (List.take (a.length - j)) ht
        rw [List.take_append_of_le_length (by omega), List.take_append_of_le_length (by rw [List.length_drop]; omega), List.take_of_length_le (l := a.drop j) (by rw [List.length_drop]; omega)] at this
        exact this
      rw [this]; exact List.drop_suffix _ _
    have := begun_max a (a.length - j) (by omega) h2
    omega
  · rw [occAt_append (by omega)]
    rcases index_spec a mark with ⟨_, h2⟩ | ⟨i, h1, _⟩
    · exact h2 j (by omega)
    · omega

theorem begun_drop {a b : List UInt8} : begun (a ++ b) = begun (a.drop (a.length - begun a) ++ b) := by
  have ha := begun_le a
  have hk := begun_le (a ++ b)
  have hd : (a.drop (a.length - begun a)).length = begun a := by rw [List.length_drop]; omega
  have hsx : a.drop (a.length - begun a) ++ b <:+ a ++ b := ⟨a.take (a.length - begun a), by rw [← List.append_assoc, List.take_append_drop]⟩
  apply Nat.le_antisymm
  · have hs := begun_suffix (a ++ b)
    have hl : (mark.take (begun (a ++ b))).length = begun (a ++ b) := by rw [List.length_take]; show min _ 15 = _; omega
    rcases Nat.lt_or_ge (begun a + b.length) (begun (a ++ b)) with g | g
    · exfalso
      obtain ⟨t, ht⟩ := hs
      have e := congrArg (List.take a.length) ht
      rw [List.take_left] at e
      have htl := congrArg List.length ht
      rw [List.length_append, List.length_append, hl] at htl
      rw [List.take_append, List.take_of_length_le (by omega), List.take_take] at e
      have := begun_max a (min (a.length - t.length) (begun (a ++ b))) (by omega) ⟨t, e⟩
      omega
    · exact begun_max _ _ hk.2 (List.suffix_of_suffix_length_le hs hsx (by rw [hl, List.length_append, hd]; omega))
  · exact begun_max _ _ (begun_le _).2 ((begun_suffix _).trans hsx)
theorem op_stop (m : Mode) (a : List UInt8) (h : (op m a).2.2 = none) : (op m a).2.1 = none ∧ ∀ b, runA m (a ++ b) = ((op m a).1 + (runA m (a.drop (op m a).1 ++ b)).1, (runA m (a.drop (op m a).1 ++ b)).2.1, (runA m (a.drop (op m a).1 ++ b)).2.2) := by
  cases m with
  | head =>
    simp only [op, opHead] at h ⊢
    by_cases hi : 0 ≤ index (a.take 1028) crlf2
    · rw [if_pos hi] at h
      split at h <;> cases h
    · rw [if_neg hi] at h ⊢
      by_cases hl : a.length < 1028
      · rw [if_pos hl]; exact ⟨rfl, fun b => by simp⟩
      · rw [if_neg hl] at h; cases h
  | body n =>
    simp only [op, opBody] at h ⊢
    by_cases hl : a.length < n
    · rw [if_pos hl]; exact ⟨rfl, fun b => by simp⟩
    · rw [if_neg hl] at h; cases h
  | skip =>
    have ha := begun_le a
    by_cases hi : 0 ≤ index a mark
    · simp only [op, opSkip] at h
      rw [if_pos hi] at h; cases h
    · have e1 : op .skip a = (a.length - begun a, none, none) := by simp only [op, opSkip]; rw [if_neg hi]
      rw [e1]
      refine ⟨rfl, fun b => ?_⟩
      have hdr : (a ++ b).drop (a.length - begun a) = a.drop (a.length - begun a) ++ b := List.drop_append_of_le_length (by omega)
      have hx := index_drop (s := a ++ b) (sub := mark) (i := a.length - begun a) (fun j hj => no_mark hi j hj) (by rw [List.length_append]; omega)
      rw [hdr] at hx
      have hbd := begun_drop (a := a) (b := b)
      rw [runA_step .skip (a ++ b), runA_step .skip (a.drop (a.length - begun a) ++ b)]
      simp only [op, opSkip]
      by_cases hj : 0 ≤ index (a.drop (a.length - begun a) ++ b) mark
      · obtain ⟨i, h1, h2, _, _⟩ := index_nat hj
        rw [h1] at hx
        rw [show ((i : Int) == -1) = false by rw [beq_eq_false_iff_ne]; omega] at hx
        simp only [Bool.false_eq_true, if_false] at hx
        have hx2 : index (a ++ b) mark = ((a.length - begun a + i : Nat) : Int) := by rw [hx]; omega
        rw [if_pos hj, hx2, if_pos (by omega), h1]
        simp only [Int.toNat_natCast]
        rw [← List.drop_drop, hdr]
        simp [Nat.add_assoc]
      · have hm : index (a.drop (a.length - begun a) ++ b) mark = -1 := by have := index_ge (a.drop (a.length - begun a) ++ b) mark; omega
        rw [hm] at hx
        simp only [beq_self_eq_true, if_true] at hx
        rw [if_neg hj, hx, if_neg (by decide), ← hbd]
        simp only [List.length_append, List.length_drop, Option.toList]
        refine Prod.ext ?_ rfl
        have hb := begun_le (a ++ b)
        have hb2 := begun_le (a.drop (a.length - begun a) ++ b)
        rw [← hbd, List.length_append, List.length_drop] at hb2
        simp only
        omega
/-- What is told hangs on the bytes alone. -/
theorem run_append : ∀ (k : Nat) (m : Mode) (a b : List UInt8), 2 * a.length + rank m < k →
    runA m (a ++ b) = ((runA m a).1 + (runA (runA m a).2.2 (a.drop (runA m a).1 ++ b)).1, (runA m a).2.1 ++ (runA (runA m a).2.2 (a.drop (runA m a).1 ++ b)).2.1, (runA (runA m a).2.2 (a.drop (runA m a).1 ++ b)).2.2)
  | 0, m, a, b, h => absurd h (Nat.not_lt_zero _)
  | k + 1, m, a, b, h => by
    have hu := op_used m a
    cases hn : (op m a).2.2 with
    | none =>
      have hs := op_stop m a hn
      have e : runA m a = ((op m a).1, [], m) := by
        rw [runA_step]
        generalize op m a = x at hn hs
        obtain ⟨u, e, n⟩ := x
        simp only at hn hs
        subst hn
        rw [hs.1]; rfl
      rw [e]
      simp only [List.nil_append]
      exact hs.2 b
    | some m2 =>
      have hm := op_more m a b m2 hn
      have h2 := hu.2 m2 hn
      have e1 := runA_step m a
      have e2 := runA_step m (a ++ b)
      rw [hm] at e2
      have ih := run_append k m2 (a.drop (op m a).1) b (by rw [List.length_drop]; omega)
      have hd : (a ++ b).drop (op m a).1 = a.drop (op m a).1 ++ b := List.drop_append_of_le_length hu.1
      generalize op m a = x at *
      obtain ⟨u, e, n⟩ := x
      simp only at hn hu hm h2 ih hd
      subst hn
      simp only at e1 e2
      rw [e2, e1, hd, ih]
      simp only [List.drop_drop, Nat.add_assoc, List.append_assoc]
end Go.Proofs.YtlafcnmopclgiaaGreatDoor
