/-
  FrameAgain.
-/
import Derived.Test.YtlafcnmopclgiaaGreatDoorO
import Derived.Shelf.Bytes.SlSmallAll
namespace Go.Proofs.YtlafcnmopclgiaaGreatDoor
open Go.RowKit Go.Shelf

/-- A row of bytes, as an argument. -/
def BRowV (w : World) (v : Value) (l : List UInt8) : Prop :=
  ((∃ p cap, v = .slice p 0 cap) ∧ l = []) ∨ ∃ g o cap, v = .slice (some ⟨g, o, none⟩) l.length cap ∧ l.length ≤ cap ∧ Lies w g o l
theorem BRowV.below {w w' : World} {v : Value} {l : List UInt8} (h : BRowV w v l) (hb : Below w.heap.size w w') : BRowV w' v l := by
  rcases h with h | ⟨g, o, cap, h1, h2, h3⟩
  · exact .inl h
  · exact .inr ⟨g, o, cap, h1, h2, h3.below hb⟩
theorem BRowV.shape {w : World} {v : Value} {l : List UInt8} (h : BRowV w v l) : ∃ p cap, v = .slice p l.length cap := by
  rcases h with ⟨⟨p, cap, rfl⟩, rfl⟩ | ⟨g, o, cap, h1, _⟩
  · exact ⟨p, cap, rfl⟩
  · exact ⟨_, cap, h1⟩
theorem BRowV.str {w : World} {v : Value} {l : List UInt8} (h : BRowV w v l) : (convert 30 9 v).run Tryz.prog w = .ok (.string ⟨l.toArray⟩) w := by
  rcases h with ⟨⟨p, cap, rfl⟩, rfl⟩ | ⟨g, o, cap, rfl, _, h3⟩
  · exact Go.Proofs.run_convert_bytes_zero w 30 5 u31 u5 p cap 9 u9
  · exact h3.str cap
theorem BRowV.cell {w : World} {p : Option Addr} {cap : Nat} {l : List UInt8} (h : BRowV w (.slice p l.length cap) l) {i : Nat} (hi : i < l.length) : ∃ g o, p = some ⟨g, o, none⟩ ∧ w.cell? ⟨g, o + i, none⟩ = some (.int .u8 (l.getD i 0).toNat) := by
  rcases h with ⟨_, rfl⟩ | ⟨g, o, cap2, h1, _, h3⟩
  · exact absurd hi (Nat.not_lt_zero _)
  · cases h1
    exact ⟨g, o, rfl, h3 i hi⟩
end Go.Proofs.YtlafcnmopclgiaaGreatDoor
