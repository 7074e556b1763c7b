/-
  What the statements ask with: all, back, Same.
-/
import Derived.Test.YtlafcnmopclgiaaGreatDoorK
namespace Go.Proofs.YtlafcnmopclgiaaGreatDoor
open Go.RowKit Go.Shelf

/-- '[]byte(s)' as a chunk. -/
theorem chunk_conv (w : World) (s : ByteArray) (cap : Nat) : Chunk (Lib.bytesWorld w 5 s) (.slice (some ⟨w.heap.size, 0, none⟩) s.size cap) s.data.toList := by
  refine .inr ⟨w.heap.size, 0, cap, by rw [← Lib.size_eq], fun i hi => ?_⟩
  rw [Nat.zero_add]
  exact Lib.bytesWorld_cell w 5 s i (by rw [Lib.size_eq]; exact hi)
end Go.Proofs.YtlafcnmopclgiaaGreatDoor
