/-
  The walks of the reference's Valid, Len16, Unit, Byte.
-/
import Derived.Test.YtfedmhccbfhcbaaDoorPL
namespace Go.Proofs.YtfedmhccbfhcbaaDoor.Utf
open Go.RowKit

def strSize : Value → Nat
  | .string t => t.size
  | _ => 0
theorem isEmpty_no {s : ByteArray} (hs : 0 < s.size) : s.toList.isEmpty = false := by
  rw [Lib.toList_data]
  cases h : s.data.toList with
  | nil => exact absurd (by rw [Lib.size_eq, h]; rfl) (Nat.ne_of_gt hs)
  | cons _ _ => rfl
theorem isEmpty_yes {s : ByteArray} (hs : s.size = 0) : s.toList.isEmpty = true := by
  rw [Lib.toList_data]
  have : s.data.toList = [] := List.eq_nil_of_length_eq_zero (by rw [← Lib.size_eq]; exact hs)
  rw [this]; rfl
theorem okAll_cons (x : Nat × ByteArray) (xs : List (Nat × ByteArray)) : okAll (x :: xs) = (!strayB x.2 && okAll xs) := by simp [okAll]

end Go.Proofs.YtfedmhccbfhcbaaDoor.Utf
