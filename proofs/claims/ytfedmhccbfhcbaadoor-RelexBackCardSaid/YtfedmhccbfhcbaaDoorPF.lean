/-
  The walks of the reference's bits and Rune.
-/
import Derived.Test.YtfedmhccbfhcbaaDoorPB
import Derived.Deep.RegionWith
namespace Go.Proofs.YtfedmhccbfhcbaaDoor.Utf
open Go.RowKit

theorem Below.drewN_ {B : Nat} {a w : World} (h : Below B a w) (n : Nat) : Below B a (w.drewN n) := ⟨h.os, h.tape, h.output, h.size, h.block⟩
/-- What the first k of the bytes would be of, the first one with a head taken away. -/
def bt (s : ByteArray) (head : Int) : Nat → Int
  | 0 => 0
  | 1 => (s.get! 0).toNat - head
  | k + 2 => bt s head (k + 1) * 64 + (s.get! (k + 1)).toNat - 128
theorem bt_succ (s : ByteArray) (head : Int) (k : Nat) (h : 1 ≤ k) : bt s head (k + 1) = bt s head k * 64 + (s.get! k).toNat - 128 := by
  cases k with
  | zero => omega
  | succ k => rfl
theorem bt_bd (s : ByteArray) (head : Int) (k : Nat) (h0 : 0 ≤ head) (h : head ≤ 1000) (hk : k ≤ 4) : -1000000000 ≤ bt s head k ∧ bt s head k ≤ 1000000000 := by
  have l0 := (s.get! 0).toNat_lt
  have l1 := (s.get! 1).toNat_lt
  have l2 := (s.get! 2).toNat_lt
  have l3 := (s.get! 3).toNat_lt
  have e1 : bt s head 1 = (s.get! 0).toNat - head := rfl
  have e2 : bt s head 2 = bt s head 1 * 64 + (s.get! 1).toNat - 128 := rfl
  have e3 : bt s head 3 = bt s head 2 * 64 + (s.get! 2).toNat - 128 := rfl
  have e4 : bt s head 4 = bt s head 3 * 64 + (s.get! 3).toNat - 128 := rfl
  rcases (by omega : k = 0 ∨ k = 1 ∨ k = 2 ∨ k = 3 ∨ k = 4) with rfl | rfl | rfl | rfl | rfl
  · exact ⟨by show -1000000000 ≤ (0 : Int); omega, by show (0 : Int) ≤ 1000000000; omega⟩
  all_goals omega
/-- What one to four bytes would be of. -/
def bitsB (s : ByteArray) : Int := if s.size = 1 then (s.get! 0).toNat else if s.size = 2 then bt s 192 2 else if s.size = 3 then bt s 224 3 else bt s 240 4
/-- The first k bytes are those of a code point. -/
def cand (s : ByteArray) (k : Nat) : Bool := decide (0 ≤ bitsB (s.extract 0 k)) && (putB (bitsB (s.extract 0 k))).toList == (s.extract 0 k).toList
/-- The reference's first character, from k bytes on. -/
def rf (s : ByteArray) : Nat → Nat → Int × Nat
  | 0, _ => (-1, 1)
  | f + 1, k => if k ≤ s.size then (if cand s k then (bitsB (s.extract 0 k), k) else rf s f (k + 1)) else (-1, 1)
def rfAll (s : ByteArray) : Int × Nat := if s.size = 0 then (-1, 0) else rf s 4 1

end Go.Proofs.YtfedmhccbfhcbaaDoor.Utf
