/-
  copied, of any tree.
-/
import Derived.Test.YtingfomfibhnhaaGreatDoorMgHQ
namespace Go.Proofs.YtingfomfibhnhaaGreatDoor
open Go.RowKit Go.Shelf Go.Maps

mutual
/-- No token's text is too long. -/
def shortT : T → Prop
  | .mk _ t ks => t.2.length ≤ 1000000000 ∧ shortsT ks
def shortsT : List T → Prop
  | [] => True
  | x :: r => shortT x ∧ shortsT r
end
theorem shortsT_at : ∀ (l : List T) (i : Nat) (x : T), shortsT l → l[i]? = some x → shortT x
  | [], i, x, _, h => by simp at h
  | y :: r, 0, x, h, hx => by
    simp at hx; subst hx
    unfold shortsT at h; exact h.1
  | y :: r, i + 1, x, h, hx => by
    simp at hx
    unfold shortsT at h
    exact shortsT_at r i x h.2 hx
mutual
theorem weight_short : ∀ x : T, weightT x < 600 → shortT x
  | .mk k t ks, h => by
    have hw : weightT (.mk k t ks) = addW (1 + min t.2.length 10000 / 16) (weightsT ks) := by rw [weightT]
    rw [hw] at h
    have hs := addW_sum _ _ (by omega : addW (1 + min t.2.length 10000 / 16) (weightsT ks) < 1000)
    rw [hs] at h
    unfold shortT
    exact ⟨by omega, weights_short ks (by omega)⟩
theorem weights_short : ∀ l : List T, (weightsT l).sum < 600 → shortsT l
  | [], _ => by unfold shortsT; trivial
  | x :: r, h => by
    unfold weightsT at h
    rw [List.sum_cons] at h
    unfold shortsT
    exact ⟨weight_short x (by omega), weights_short r (by omega)⟩
end
theorem copied_deep : ∀ (n : Nat) (x : T), countT x ≤ n → n ≤ 1000000 → shortT x → ∀ (W : World) (p : Option Addr) (c : Nat), NAt AnyB W x (cellsN x p c) → Calls Tryz.prog 34 #[aggN x p c] W (CopEnd x W)
  | 0, .mk k t ks, hc, _, _, _, _, _, _ => by rw [countT_mk] at hc; omega
  | n + 1, .mk k t ks, hc, hn, hs, W, p, c, h => by
    obtain ⟨vs, h1, h2⟩ := h.parts
    have hl := counts_len ks
    rw [countT_mk] at hc
    unfold shortT at hs
    refine copied_one k t ks W p c vs (by omega) hs.1 h1 h2 (Lib.hid fun i x hx w p' c' h' => ?_)
    refine copied_deep n x ?_ (by omega) (shortsT_at ks i x hs.2 hx) w p' c' h'
    have := counts_at ks i x hx
    omega
theorem copied_any (x : T) (p : Option Addr) (c : Nat) (W : World) (hx : NAt AnyB W x (cellsN x p c)) (hc : countT x ≤ 1000000) (hs : shortT x) : Calls Tryz.prog 34 #[aggN x p c] W (CopEnd x W) :=
  copied_deep _ x (Nat.le_refl _) hc hs W p c hx
end Go.Proofs.YtingfomfibhnhaaGreatDoor
