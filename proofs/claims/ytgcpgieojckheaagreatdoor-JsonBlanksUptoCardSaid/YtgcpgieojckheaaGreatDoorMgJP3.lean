/-
  Lists, plainly: an Array's elements and an Object's members, one by one.
-/
import Derived.Test.YtgcpgieojckheaaGreatDoorMgJP0
namespace Go.Proofs.YtgcpgieojckheaaGreatDoor.Json

/-- An Array's element. -/
def elA (v : Val) (js : List J) (l : List UInt8) (n : Nat) : Got (List J) :=
  match v l n with
  | .error e => .error e
  | .ok (j, r, n2) => .ok (js ++ [j], r, n2)
theorem elA_uses {v : Val} (hv : Uses v) : UsesL (elA v) := fun a l n a2 r n2 h => by
  unfold elA at h
  cases hq : v l n with
  | error e => rw [hq] at h; cases h
  | ok p =>
    obtain ⟨j, r0, n0⟩ := p
    rw [hq] at h
    cases h
    exact hv _ _ _ _ _ hq
theorem elA_skip {v : Val} (hs : ∀ l n, v (skip l) n = v l n) (a : List J) (l : List UInt8) (n : Nat) : elA v a (skip l) n = elA v a l n := by unfold elA; rw [hs]
theorem elA_len {v : Val} (a : List J) (l : List UInt8) (n : Nat) (a2 : List J) (r : List UInt8) (n2 : Nat) (h : elA v a l n = .ok (a2, r, n2)) : a2.length ≤ a.length + 1 := by
  unfold elA at h
  cases hq : v l n with
  | error e => rw [hq] at h; cases h
  | ok p =>
    obtain ⟨j, r0, n0⟩ := p
    rw [hq] at h
    cases h
    simp
theorem restA_items {v : Val} (hv : Uses v) : ∀ (k : Nat) (r : List UInt8), r.length ≤ k → ∀ (js : List J) (n : Nat), restA (elA v) 93 js r n = preJ js (itemsRest v r n) := by
  intro k
  induction k using Nat.strongRecOn with
  | _ k ih =>
    intro r hk js n
    have ls := skip_len r
    by_cases h44 : ∃ r2, skip r = 44 :: r2
    · obtain ⟨r2, h⟩ := h44
      rw [h, List.length_cons] at ls
      rw [rest_comma (elA_uses hv) h]
      unfold itemsRest
      rw [h]
      simp only
      rw [items_step hv _ r2 n (Nat.lt_succ_self _)]
      unfold elA
      cases hq : v r2 n with
      | error e => rfl
      | ok p =>
        obtain ⟨j, r3, n3⟩ := p
        have := hv _ _ _ _ _ hq
        show restA (elA v) 93 (js ++ [j]) r3 n3 = preJ js (preJ [j] (itemsRest v r3 n3))
        rw [ih r3.length (by omega) r3 (Nat.le_refl _), preJ_pre]
    · by_cases h93 : ∃ r2, skip r = 93 :: r2
      · obtain ⟨r2, h⟩ := h93
        rw [rest_shut (by decide) h]
        unfold itemsRest
        rw [h]
        simp [preJ]
      · rw [rest_else (fun r2 h => h44 ⟨r2, h⟩) (fun r2 h => h93 ⟨r2, h⟩)]
        unfold itemsRest
        split
        · rename_i r2 h; exact absurd ⟨r2, h⟩ h44
        · rename_i r2 h; exact absurd ⟨r2, h⟩ h93
        · rfl
theorem preJ_nil (g : Got (List J)) : preJ [] g = g := by
  cases g with
  | error e => rfl
  | ok p => rfl
theorem thenA {v : Val} (hv : Uses v) (l : List UInt8) (n : Nat) : thenL (elA v) 93 (elA v [] l n) = items v (l.length + 1) l n := by
  rw [items_step hv _ l n (Nat.lt_succ_self _)]
  unfold elA
  cases hq : v l n with
  | error e => rfl
  | ok p =>
    obtain ⟨j, r, n2⟩ := p
    exact restA_items hv r.length r (Nat.le_refl _) [j] n2
/-- An Array, behind its first bracket. -/
def arrV : Got (List J) → Got J
  | .error e => .error e
  | .ok (js, r, n) => .ok (.mk 6 [] [] js, r, n)
theorem value_arr {d n : Nat} {l r : List UInt8} (hn : n < 65536) (h : skip l = 91 :: r) : value (d + 1) l n = arrV (listL (elA (value d)) 93 [] r (n + 1)) := by
  unfold value
  rw [if_neg (by omega), h]
  simp only
  by_cases h93 : ∃ r2, skip r = 93 :: r2
  · obtain ⟨r2, h2⟩ := h93
    rw [listL_shut h2, h2]; rfl
  · rw [listL_el (fun r2 h2 => h93 ⟨r2, h2⟩), thenA (value_uses d)]
    split
    · rename_i r2 h2; exact absurd ⟨r2, h2⟩ h93
    · cases items (value d) ((skip r).length + 1) (skip r) (n + 1) with
      | error e => rfl
      | ok p => rfl
/- members -/
/-- An Object's member. -/
def elM (v : Val) (a : List (List UInt8) × List J) (l : List UInt8) (n : Nat) : Got (List (List UInt8) × List J) :=
  match member v a.1 l n with
  | .error e => .error e
  | .ok ((name, j), r, n2) => .ok ((a.1 ++ [name], a.2 ++ [j]), r, n2)
theorem elM_uses {v : Val} (hv : Uses v) : UsesL (elM v) := fun a l n a2 r n2 h => by
  unfold elM at h
  cases hq : member v a.1 l n with
  | error e => rw [hq] at h; cases h
  | ok p =>
    obtain ⟨⟨name, j⟩, r0, n0⟩ := p
    rw [hq] at h
    cases h
    exact member_len hv hq
theorem elM_skip {v : Val} (a : List (List UInt8) × List J) (l : List UInt8) (n : Nat) : elM v a (skip l) n = elM v a l n := by unfold elM member; rw [skip_skip]
theorem elM_len {v : Val} (a : List (List UInt8) × List J) (l : List UInt8) (n : Nat) (a2 : List (List UInt8) × List J) (r : List UInt8) (n2 : Nat) (h : elM v a l n = .ok (a2, r, n2)) :
    a2.1.length ≤ a.1.length + 1 ∧ (a.1.length = a.2.length → a2.1.length = a2.2.length) := by
  unfold elM at h
  cases hq : member v a.1 l n with
  | error e => rw [hq] at h; cases h
  | ok p =>
    obtain ⟨⟨name, j⟩, r0, n0⟩ := p
    rw [hq] at h
    cases h
    simp
theorem member_known {v : Val} {k1 k2 : List (List UInt8)} (hk : ∀ t, k1.contains t = k2.contains t) (l : List UInt8) (n : Nat) : member v k1 l n = member v k2 l n := by
  unfold member
  cases quoted (skip l) with
  | none => rfl
  | some p => obtain ⟨name, r0⟩ := p; simp only; rw [hk]
theorem members_known {v : Val} (hv : Uses v) : ∀ (k : Nat) (l : List UInt8), l.length ≤ k → ∀ (k1 k2 : List (List UInt8)) (n : Nat), (∀ t, k1.contains t = k2.contains t) → members v (l.length + 1) k1 l n = members v (l.length + 1) k2 l n := by
  intro k
  induction k using Nat.strongRecOn with
  | _ k ih =>
    intro l hk k1 k2 n h
    rw [members_step hv _ k1 l n (Nat.lt_succ_self _), members_step hv _ k2 l n (Nat.lt_succ_self _), member_known h]
    cases hq : member v k2 l n with
    | error e => rfl
    | ok p =>
      obtain ⟨⟨name, j⟩, r, n2⟩ := p
      have l1 := member_len hv hq
      have l2 := skip_len r
      simp only
      congr 1
      unfold membersRest
      split
      · rename_i r2 h2
        rw [h2, List.length_cons] at l2
        refine ih r2.length (by omega) r2 (Nat.le_refl _) _ _ n2 fun t => ?_
        rw [List.contains_cons, List.contains_cons, h]
      · rfl
      · rfl
theorem restA_members {v : Val} (hv : Uses v) : ∀ (k : Nat) (r : List UInt8), r.length ≤ k → ∀ (a : List (List UInt8) × List J) (known : List (List UInt8)) (n : Nat), (∀ t, known.contains t = a.1.contains t) → restA (elM v) 125 a r n = preM a.1 a.2 (membersRest v known r n) := by
  intro k
  induction k using Nat.strongRecOn with
  | _ k ih =>
    intro r hk a known n ha
    have ls := skip_len r
    by_cases h44 : ∃ r2, skip r = 44 :: r2
    · obtain ⟨r2, h⟩ := h44
      rw [h, List.length_cons] at ls
      rw [rest_comma (elM_uses hv) h]
      unfold membersRest
      rw [h]
      simp only
      rw [members_step hv _ known r2 n (Nat.lt_succ_self _), member_known ha]
      unfold elM
      cases hq : member v a.1 r2 n with
      | error e => rfl
      | ok p =>
        obtain ⟨⟨name, j⟩, r3, n3⟩ := p
        have := member_len hv hq
        show restA (elM v) 125 (a.1 ++ [name], a.2 ++ [j]) r3 n3 = preM a.1 a.2 (preM [name] [j] (membersRest v (name :: known) r3 n3))
        rw [ih r3.length (by omega) r3 (Nat.le_refl _) _ (name :: known) n3 ?_, preM_pre]
        intro t
        rw [List.contains_cons, ha]
        simp only [List.contains_eq_any_beq, List.any_append, List.any_cons, List.any_nil, Bool.or_false]
        rw [Bool.or_comm]
    · by_cases h93 : ∃ r2, skip r = 125 :: r2
      · obtain ⟨r2, h⟩ := h93
        rw [rest_shut (by decide) h]
        unfold membersRest
        rw [h]
        simp [preM]
      · rw [rest_else (fun r2 h => h44 ⟨r2, h⟩) (fun r2 h => h93 ⟨r2, h⟩)]
        unfold membersRest
        split
        · rename_i r2 h; exact absurd ⟨r2, h⟩ h44
        · rename_i r2 h; exact absurd ⟨r2, h⟩ h93
        · rfl
theorem thenM {v : Val} (hv : Uses v) (l : List UInt8) (n : Nat) : thenL (elM v) 125 (elM v ([], []) l n) = members v (l.length + 1) [] l n := by
  rw [members_step hv _ [] l n (Nat.lt_succ_self _)]
  unfold elM
  show thenL _ _ (match member v [] l n with | .error e => .error e | .ok ((name, j), r, n2) => .ok (([] ++ [name], [] ++ [j]), r, n2)) = _
  cases hq : member v [] l n with
  | error e => rfl
  | ok p =>
    obtain ⟨⟨name, j⟩, r, n2⟩ := p
    exact restA_members hv r.length r (Nat.le_refl _) ([name], [j]) [name] n2 (fun _ => rfl)
/-- An Object, behind its first bracket. -/
def objV : Got (List (List UInt8) × List J) → Got J
  | .error e => .error e
  | .ok ((ns, js), r, n) => .ok (.mk 7 [] ns js, r, n)
theorem value_obj {d n : Nat} {l r : List UInt8} (hn : n < 65536) (h : skip l = 123 :: r) : value (d + 1) l n = objV (listL (elM (value d)) 125 ([], []) r (n + 1)) := by
  unfold value
  rw [if_neg (by omega), h]
  simp only
  by_cases h93 : ∃ r2, skip r = 125 :: r2
  · obtain ⟨r2, h2⟩ := h93
    rw [listL_shut h2, h2]; rfl
  · rw [listL_el (fun r2 h2 => h93 ⟨r2, h2⟩), thenM (value_uses d)]
    split
    · rename_i r2 h2; exact absurd ⟨r2, h2⟩ h93
    · cases members (value d) ((skip r).length + 1) [] (skip r) (n + 1) with
      | error e => rfl
      | ok p => rfl
end Go.Proofs.YtgcpgieojckheaaGreatDoor.Json
