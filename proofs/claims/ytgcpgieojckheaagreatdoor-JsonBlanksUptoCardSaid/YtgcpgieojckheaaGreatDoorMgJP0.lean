/-
  Lists, plainly: what stands between two brackets, element by element.
-/
import Derived.Test.YtgcpgieojckheaaGreatDoorMgJW2
namespace Go.Proofs.YtgcpgieojckheaaGreatDoor.Json

section
variable {α : Type} (el : α → List UInt8 → Nat → Got α) (shut : UInt8)
/-- What stands behind an element. -/
def restL : Nat → α → List UInt8 → Nat → Got α
  | 0, _, _, _ => .error 4
  | f + 1, a, r, n =>
    match skip r with
    | [] => .error 4
    | c :: r2 =>
      if c = 44 then
        match el a r2 n with
        | .error e => .error e
        | .ok (a2, r3, n3) => restL f a2 r3 n3
      else if c = shut then .ok (a, r2, n) else .error 4
def restA (a : α) (r : List UInt8) (n : Nat) : Got α := restL el shut (r.length + 1) a r n
def thenL : Got α → Got α
  | .error e => .error e
  | .ok (a, r, n) => restA el shut a r n
/-- What stands behind the first bracket. -/
def listL (a : α) (r : List UInt8) (z : Nat) : Got α :=
  match skip r with
  | [] => thenL el shut (el a [] z)
  | c :: r2 => if c = shut then .ok (a, r2, z) else thenL el shut (el a (c :: r2) z)
end
section
variable {α : Type} {el : α → List UInt8 → Nat → Got α} {shut : UInt8}
/-- An element uses up something. -/
def UsesL (el : α → List UInt8 → Nat → Got α) : Prop := ∀ a l n a2 r n2, el a l n = .ok (a2, r, n2) → r.length < l.length
theorem listL_shut {a : α} {r r2 : List UInt8} {z : Nat} (h : skip r = shut :: r2) : listL el shut a r z = .ok (a, r2, z) := by
  unfold listL; rw [h]; simp
theorem listL_el {a : α} {r : List UInt8} {z : Nat} (h : ∀ r2, skip r ≠ shut :: r2) : listL el shut a r z = thenL el shut (el a (skip r) z) := by
  unfold listL
  cases hs : skip r with
  | nil => rfl
  | cons c r2 =>
    simp only
    rw [if_neg (fun e => h r2 (by rw [hs, e]))]
theorem restL_fuel (hu : UsesL el) : ∀ (f g : Nat) (a : α) (r : List UInt8) (n : Nat), r.length < f → r.length < g → restL el shut f a r n = restL el shut g a r n
  | 0, _, _, _, _, h, _ => absurd h (Nat.not_lt_zero _)
  | _ + 1, 0, _, _, _, _, h => absurd h (Nat.not_lt_zero _)
  | f + 1, g + 1, a, r, n, hf, hg => by
    unfold restL
    cases hs : skip r with
    | nil => rfl
    | cons c r2 =>
      have l1 := skip_len r
      rw [hs, List.length_cons] at l1
      simp only
      cases he : el a r2 n with
      | error e => rfl
      | ok p =>
        obtain ⟨a2, r3, n3⟩ := p
        have l2 := hu _ _ _ _ _ _ he
        simp only
        rw [restL_fuel hu f g a2 r3 n3 (by omega) (by omega)]
theorem rest_comma (hu : UsesL el) {a : α} {r r2 : List UInt8} {n : Nat} (h : skip r = 44 :: r2) : restA el shut a r n = thenL el shut (el a r2 n) := by
  have l1 := skip_len r
  rw [h, List.length_cons] at l1
  unfold restA
  rw [restL, h]
  simp only [if_true]
  cases he : el a r2 n with
  | error e => rfl
  | ok p =>
    obtain ⟨a2, r3, n3⟩ := p
    have l2 := hu _ _ _ _ _ _ he
    show restL el shut r.length a2 r3 n3 = restL el shut (r3.length + 1) a2 r3 n3
    exact restL_fuel hu _ _ _ _ _ (by omega) (by omega)
theorem rest_shut (hs : shut ≠ 44) {a : α} {r r2 : List UInt8} {n : Nat} (h : skip r = shut :: r2) : restA el shut a r n = .ok (a, r2, n) := by
  unfold restA
  rw [restL, h]
  simp [hs]
theorem rest_else {a : α} {r : List UInt8} {n : Nat} (h1 : ∀ r2, skip r ≠ 44 :: r2) (h2 : ∀ r2, skip r ≠ shut :: r2) : restA el shut a r n = .error 4 := by
  unfold restA
  rw [restL]
  cases hs : skip r with
  | nil => rfl
  | cons c r2 =>
    simp only
    rw [if_neg (fun e => h1 r2 (by rw [hs, e])), if_neg (fun e => h2 r2 (by rw [hs, e]))]
end
theorem rest_skip {α : Type} {el : α → List UInt8 → Nat → Got α} {shut : UInt8} (hu : UsesL el) (a : α) (r : List UInt8) (n : Nat) : restA el shut a (skip r) n = restA el shut a r n := by
  have l1 := skip_len r
  unfold restA
  rw [restL_fuel hu (r.length + 1) (r.length + 2) a r n (by omega) (by omega), restL_fuel hu ((skip r).length + 1) (r.length + 2) a (skip r) n (by omega) (by omega)]
  rw [restL, restL, skip_skip]
end Go.Proofs.YtgcpgieojckheaaGreatDoor.Json
