/-
  RelexBack (plainly).
-/
import Derived.Test.YtfedmhccbfhcbaaDoorXM
import Derived.Test.YtfedmhccbfhcbaaDoorXP
namespace Go.Proofs.YtfedmhccbfhcbaaDoor
open Go.RowKit Go.Shelf

theorem back_text (s x : List UInt8) (f t : Nat) (h1 : f ≤ t) (h2 : t ≤ s.length) : edL (edL s x f t) ((s.drop f).take (t - f)) f (f + x.length) = s := by
  have hf : (s.take f).length = f := by rw [List.length_take]; omega
  have a1 : (s.take f ++ (x ++ s.drop t)).take f = s.take f := List.take_left' hf
  have a2 : (s.take f ++ (x ++ s.drop t)).drop (f + x.length) = s.drop t := by rw [← List.drop_drop, List.drop_left' hf, List.drop_left]
  have a3 : s.drop t = (s.drop f).drop (t - f) := by rw [List.drop_drop]; congr 1; omega
  unfold edL
  rw [a1, a2, a3, List.take_append_drop, List.take_append_drop]
theorem back_good {s x : List UInt8} {f t : Nat} (h : doE s x f t = 0) : tokE s = 0 ∧ f ≤ t ∧ t ≤ s.length ∧ doX s x f t = edL s x f t ∧ edE s x f t = 0 ∧ edX s x f t = edL s x f t ∧ tokE (edL s x f t) = 0 ∧ edE (edL s x f t) ((s.drop f).take (t - f)) f (f + x.length) = 0 ∧ edX (edL s x f t) ((s.drop f).take (t - f)) f (f + x.length) = s := by
  obtain ⟨hs0, hsp, hx0, hk0, hd0⟩ := do_good h
  unfold isSp at hsp
  simp only [Bool.and_eq_true, decide_eq_true_eq] at hsp
  obtain ⟨q1, q2, q3⟩ := hsp
  have h1 : f ≤ t := by omega
  have h2 : t ≤ s.length := by omega
  change doX s x f t = edL s x f t at hx0
  have hT : tokE (edL s x f t) = 0 := by rw [← hx0]; exact hk0
  have hb := back_text s x f t h1 h2
  have hel := edL_len (x := x) h1 h2
  have e1 : edE s x f t = 0 := by unfold doE at h; rw [if_pos hs0] at h; exact h
  have e2 : edX s x f t = edL s x f t := by unfold edX; rw [if_pos e1]; rfl
  have hsp2 : isSp (f : Int) ((f : Int) + (x.length : Int)) ((edL s x f t).length : Int) = true := by
    unfold isSp; simp only [Bool.and_eq_true, decide_eq_true_eq]; omega
  have ht : ((f : Int) + (x.length : Int)).toNat = f + x.length := by omega
  have e3 : edE (edL s x f t) ((s.drop f).take (t - f)) f (f + x.length) = 0 := by
    unfold edE; rw [if_pos hsp2, ht]
    show tokE (edL (edL s x f t) ((s.drop f).take (t - f)) f (f + x.length)) = 0
    rw [hb]; exact hs0
  refine ⟨hs0, h1, h2, hx0, e1, e2, hT, e3, ?_⟩
  unfold edX; rw [if_pos e3, ht]; exact hb
theorem back_do {s x : List UInt8} {f t : Nat} (h : doE s x f t = 0) : doE (edL s x f t) ((s.drop f).take (t - f)) f (f + x.length) = 0 ∧ doX (edL s x f t) ((s.drop f).take (t - f)) f (f + x.length) = s := by
  obtain ⟨_, _, _, _, _, _, hT, e3, e4⟩ := back_good h
  unfold doE doX
  rw [if_pos hT, if_pos hT]
  exact ⟨e3, e4⟩
theorem back_row {s x : ByteArray} {f t : Nat} {y : ByteArray} (h : doE s.data.toList x.data.toList f t = 0) (hy : y.data.toList = (s.data.toList.drop f).take (t - f)) : rwR s.data.toList [⟨f, t, x⟩, ⟨f, f + x.size, y⟩] = (s.data.toList, 0, 0) := by
  obtain ⟨hs0, _, _, _, e1, e2, hT, e3, e4⟩ := back_good h
  have hz : (x.size : Int) = (x.data.toList.length : Int) := by rw [Lib.size_eq]
  unfold rwR
  rw [if_pos hs0]
  show (if edE s.data.toList x.data.toList f t = 0 then rowF (edX s.data.toList x.data.toList f t) [⟨f, f + x.size, y⟩] 1 else _) = _
  rw [if_pos e1, e2]
  show (if edE (edL s.data.toList x.data.toList f t) y.data.toList f (f + x.size) = 0 then rowF (edX (edL s.data.toList x.data.toList f t) y.data.toList f (f + x.size)) [] 2 else _) = _
  rw [hy, hz, if_pos e3, e4]
  rfl
end Go.Proofs.YtfedmhccbfhcbaaDoor
