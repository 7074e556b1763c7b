/-
  JSON, plainly: items and members step by step. No model in it.
-/
import Derived.Test.YtgcpgieojckheaaGreatDoorMgJW
namespace Go.Proofs.YtgcpgieojckheaaGreatDoor.Json
open Go.Proofs.YtgcpgieojckheaaGreatDoor

theorem own_nil : (ownR []).2 ≠ 0 := by decide +kernel
/-- A reader of values that uses up something. -/
def Uses (v : Val) : Prop := ∀ l n j r n2, v l n = .ok (j, r, n2) → r.length < l.length
theorem items_len {v : Val} (hv : Uses v) : ∀ (f : Nat) (l : List UInt8) (n : Nat) (js : List J) (r : List UInt8) (n2 : Nat), items v f l n = .ok (js, r, n2) → r.length < l.length
  | 0, l, n, js, r, n2, h => by unfold items at h; cases h
  | f + 1, l, n, js, r, n2, h => by
    unfold items at h
    split at h
    · cases h
    · rename_i j r0 n0 h0
      have l0 := hv _ _ _ _ _ h0
      split at h
      · rename_i r2 h2
        have l2 := skip_len r0
        rw [h2, List.length_cons] at l2
        split at h
        · cases h
        · rename_i js' r3 n3 h3
          have l3 := items_len hv f _ _ _ _ _ h3
          cases h
          omega
      · rename_i r2 h2
        have l2 := skip_len r0
        rw [h2, List.length_cons] at l2
        cases h
        omega
      · cases h
theorem members_len {v : Val} (hv : Uses v) : ∀ (f : Nat) (known : List (List UInt8)) (l : List UInt8) (n : Nat) (ns : List (List UInt8)) (js : List J) (r : List UInt8) (n2 : Nat), members v f known l n = .ok ((ns, js), r, n2) → r.length < l.length
  | 0, known, l, n, ns, js, r, n2, h => by unfold members at h; cases h
  | f + 1, known, l, n, ns, js, r, n2, h => by
    unfold members at h
    split at h
    · cases h
    · rename_i name r0 h0
      have l0 := quoted_len h0
      have ls := skip_len l
      split at h
      · cases h
      · split at h
        · rename_i r1 h1
          have l1 := skip_len r0
          rw [h1, List.length_cons] at l1
          split at h
          · cases h
          · rename_i j r' n' h2
            have l2 := hv _ _ _ _ _ h2
            have l3 := skip_len r'
            split at h
            · rename_i r2 h3
              rw [h3, List.length_cons] at l3
              split at h
              · cases h
              · rename_i ns' js' r3 n3 h4
                have l4 := members_len hv f _ _ _ _ _ _ _ h4
                cases h
                omega
            · rename_i r2 h3
              rw [h3, List.length_cons] at l3
              cases h
              omega
            · cases h
        · cases h
theorem number_len {l : List UInt8} {n : Nat} {j : J} {r : List UInt8} {n2 : Nat} (h : number l n = .ok (j, r, n2)) : r.length < l.length := by
  unfold number at h
  split at h
  · rename_i h0
    cases h
    cases l with
    | nil => exact absurd h0 own_nil
    | cons c l =>
      by_cases hc : isNumc c = true
      · rw [List.dropWhile_cons, if_pos hc]
        have := (List.dropWhile_suffix (l := l) isNumc).length_le
        simp only [List.length_cons]; omega
      · rw [List.takeWhile_cons, if_neg hc] at h0
        exact absurd h0 own_nil
  · cases h
theorem word_len {w l : List UInt8} {k n : Nat} {j : J} {r : List UInt8} {n2 : Nat} (hw : 0 < w.length) (h : word w k l n = .ok (j, r, n2)) : r.length < l.length := by
  unfold word at h
  split at h
  · rename_i h0
    have := (List.isPrefixOf_iff_prefix.1 h0).length_le
    cases h
    rw [List.length_drop]; omega
  · cases h
theorem value_uses : ∀ d, Uses (value d)
  | 0 => fun l n j r n2 h => by unfold value at h; cases h
  | d + 1 => fun l n j r n2 h => by
    have hv := value_uses d
    have hs := skip_len l
    unfold value at h
    split at h
    · cases h
    · split at h
      · rename_i r0 h0
        rw [h0] at hs
        have := word_len (by decide) h; omega
      · rename_i r0 h0
        rw [h0] at hs
        have := word_len (by decide) h; omega
      · rename_i r0 h0
        rw [h0] at hs
        have := word_len (by decide) h; omega
      · rename_i r0 h0
        rw [h0] at hs
        split at h
        · cases h
        · rename_i h1
          have := quoted_len h1
          cases h; omega
      · rename_i r0 h0
        rw [h0, List.length_cons] at hs
        have h2 := skip_len r0
        split at h
        · rename_i h3
          rw [h3, List.length_cons] at h2
          cases h; omega
        · rename_i r1 _
          split at h
          · cases h
          · rename_i h4
            have := items_len hv _ _ _ _ _ _ h4
            cases h; omega
      · rename_i r0 h0
        rw [h0, List.length_cons] at hs
        have h2 := skip_len r0
        split at h
        · rename_i h3
          rw [h3, List.length_cons] at h2
          cases h; omega
        · rename_i r1 _
          split at h
          · cases h
          · rename_i h4
            have := members_len hv _ _ _ _ _ _ _ _ h4
            cases h; omega
      · have := number_len h; omega
theorem items_fuel {v : Val} (hv : Uses v) : ∀ (f g : Nat) (l : List UInt8) (n : Nat), l.length < f → l.length < g → items v f l n = items v g l n
  | 0, _, l, n, h, _ => absurd h (Nat.not_lt_zero _)
  | _ + 1, 0, l, n, _, h => absurd h (Nat.not_lt_zero _)
  | f + 1, g + 1, l, n, hf, hg => by
    unfold items
    cases h0 : v l n with
    | error e => rfl
    | ok p =>
      obtain ⟨j, r, n2⟩ := p
      have l0 := hv _ _ _ _ _ h0
      have l1 := skip_len r
      simp only
      split
      · rename_i r2 h2
        rw [h2, List.length_cons] at l1
        rw [items_fuel hv f g r2 n2 (by omega) (by omega)]
      · rfl
      · rfl
theorem members_fuel {v : Val} (hv : Uses v) : ∀ (f g : Nat) (known : List (List UInt8)) (l : List UInt8) (n : Nat), l.length < f → l.length < g → members v f known l n = members v g known l n
  | 0, _, known, l, n, h, _ => absurd h (Nat.not_lt_zero _)
  | _ + 1, 0, known, l, n, _, h => absurd h (Nat.not_lt_zero _)
  | f + 1, g + 1, known, l, n, hf, hg => by
    unfold members
    cases hq : quoted (skip l) with
    | none => rfl
    | some p =>
      obtain ⟨name, r0⟩ := p
      have lq := quoted_len hq
      have ls := skip_len l
      simp only
      by_cases hk : known.contains name = true
      · rw [if_pos hk, if_pos hk]
      · rw [if_neg hk, if_neg hk]
        split
        · rename_i r1 h1
          have l1 := skip_len r0
          rw [h1, List.length_cons] at l1
          cases h0 : v r1 n with
          | error e => rfl
          | ok p =>
            obtain ⟨j, r, n2⟩ := p
            have l0 := hv _ _ _ _ _ h0
            have l2 := skip_len r
            simp only
            split
            · rename_i r2 h2
              rw [h2, List.length_cons] at l2
              rw [members_fuel hv f g (name :: known) r2 n2 (by omega) (by omega)]
            · rfl
            · rfl
        · rfl
theorem value_skip (d : Nat) (l : List UInt8) (n : Nat) : value d (skip l) n = value d l n := by
  cases d with
  | zero => rfl
  | succ d => unfold value; rw [skip_skip]
/-- What stands behind an element. -/
def itemsRest (v : Val) (r : List UInt8) (n : Nat) : Got (List J) :=
  match skip r with
  | 44 :: r2 => items v (r2.length + 1) r2 n
  | 93 :: r2 => .ok ([], r2, n)
  | _ => .error 4
def preJ (ps : List J) : Got (List J) → Got (List J)
  | .error e => .error e
  | .ok (js, r, n) => .ok (ps ++ js, r, n)
theorem preJ_pre (ps qs : List J) (g : Got (List J)) : preJ ps (preJ qs g) = preJ (ps ++ qs) g := by
  cases g with
  | error e => rfl
  | ok p => obtain ⟨js, r, n⟩ := p; simp [preJ]
theorem items_step {v : Val} (hv : Uses v) (f : Nat) (l : List UInt8) (n : Nat) (h : l.length < f) :
    items v f l n = match v l n with | .error e => .error e | .ok (j, r, n2) => preJ [j] (itemsRest v r n2) := by
  cases f with
  | zero => omega
  | succ f =>
    unfold items
    cases h0 : v l n with
    | error e => rfl
    | ok p =>
      obtain ⟨j, r, n2⟩ := p
      have l0 := hv _ _ _ _ _ h0
      have l1 := skip_len r
      simp only
      unfold itemsRest
      generalize skip r = S at l1 ⊢
      split
      · rename_i r2
        rw [List.length_cons] at l1
        rw [items_fuel hv f (r2.length + 1) r2 n2 (by omega) (by omega)]
        show _ = preJ [j] (items v (r2.length + 1) r2 n2)
        cases items v (r2.length + 1) r2 n2 with
        | error e => rfl
        | ok p => rfl
      · rfl
      · rename_i x1 x2
        split
        · exact absurd rfl (x1 _)
        · exact absurd rfl (x2 _)
        · rfl
/-- A member; known: the names ahead. -/
def member (v : Val) (known : List (List UInt8)) (l : List UInt8) (n : Nat) : Got (List UInt8 × J) :=
  match quoted (skip l) with
  | none => .error 4
  | some (name, r0) =>
    if known.contains name then .error 6
    else match skip r0 with
      | 58 :: r1 =>
        match v r1 n with
        | .error e => .error e
        | .ok (j, r, n2) => .ok ((name, j), r, n2)
      | _ => .error 4
/-- What stands behind a member. -/
def membersRest (v : Val) (known : List (List UInt8)) (r : List UInt8) (n : Nat) : Got (List (List UInt8) × List J) :=
  match skip r with
  | 44 :: r2 => members v (r2.length + 1) known r2 n
  | 125 :: r2 => .ok (([], []), r2, n)
  | _ => .error 4
def preM (ms : List (List UInt8)) (ps : List J) : Got (List (List UInt8) × List J) → Got (List (List UInt8) × List J)
  | .error e => .error e
  | .ok ((ns, js), r, n) => .ok ((ms ++ ns, ps ++ js), r, n)
theorem preM_pre (ms ms2 : List (List UInt8)) (ps qs : List J) (g : Got (List (List UInt8) × List J)) : preM ms ps (preM ms2 qs g) = preM (ms ++ ms2) (ps ++ qs) g := by
  cases g with
  | error e => rfl
  | ok p => obtain ⟨⟨ns, js⟩, r, n⟩ := p; simp [preM]
theorem member_len {v : Val} (hv : Uses v) {known : List (List UInt8)} {l : List UInt8} {n : Nat} {m : List UInt8 × J} {r : List UInt8} {n2 : Nat} (h : member v known l n = .ok (m, r, n2)) : r.length < l.length := by
  unfold member at h
  split at h
  · cases h
  · rename_i name r0 h0
    have l0 := quoted_len h0
    have ls := skip_len l
    split at h
    · cases h
    · split at h
      · rename_i r1 h1
        have l1 := skip_len r0
        rw [h1, List.length_cons] at l1
        split at h
        · cases h
        · rename_i h2
          have l2 := hv _ _ _ _ _ h2
          cases h
          omega
      · cases h
theorem members_step {v : Val} (hv : Uses v) (f : Nat) (known : List (List UInt8)) (l : List UInt8) (n : Nat) (h : l.length < f) :
    members v f known l n = match member v known l n with | .error e => .error e | .ok ((name, j), r, n2) => preM [name] [j] (membersRest v (name :: known) r n2) := by
  cases f with
  | zero => omega
  | succ f =>
    have hl : ∀ m r n2, member v known l n = .ok (m, r, n2) → r.length < l.length := fun m r n2 h => member_len hv h
    unfold members
    unfold member at hl ⊢
    cases hq : quoted (skip l) with
    | none => rfl
    | some p =>
      obtain ⟨name, r0⟩ := p
      rw [hq] at hl
      simp only at hl ⊢
      by_cases hk : known.contains name = true
      · rw [if_pos hk, if_pos hk]
      · rw [if_neg hk, if_neg hk]
        rw [if_neg hk] at hl
        generalize skip r0 = S0 at hl ⊢
        split
        · rename_i r1
          simp only at hl ⊢
          cases h0 : v r1 n with
          | error e => rfl
          | ok p =>
            obtain ⟨j, r, n2⟩ := p
            rw [h0] at hl
            have l0 := hl _ _ _ rfl
            have l2 := skip_len r
            simp only
            unfold membersRest
            generalize skip r = S at l2 ⊢
            split
            · rename_i r2
              rw [List.length_cons] at l2
              rw [members_fuel hv f (r2.length + 1) (name :: known) r2 n2 (by omega) (by omega)]
              show _ = preM [name] [j] (members v (r2.length + 1) (name :: known) r2 n2)
              cases members v (r2.length + 1) (name :: known) r2 n2 with
              | error e => rfl
              | ok p => rfl
            · rfl
            · rename_i x1 x2
              split
              · exact absurd rfl (x1 _)
              · exact absurd rfl (x2 _)
              · rfl
        · rename_i x1
          split
          · rename_i h1
            split at h1
            · exact absurd rfl (x1 _)
            · cases h1; rfl
          · rename_i h1
            split at h1
            · exact absurd rfl (x1 _)
            · cases h1
end Go.Proofs.YtgcpgieojckheaaGreatDoor.Json
