/-
  A row of bytes that came in, to be cut.
-/
import Derived.Test.YtmchldenibpmeaaDoorYY
import Derived.Test.YtmchldenibpmeaaDoorU
namespace Go.Proofs.YtmchldenibpmeaaDoor
open Go.ChangeShapes Go.WideShapes Go.ChangeAt Go.RowKit

theorem barg_open {H : Type} {enc : TypeId × Value → H} {w : World} {base : Nat} {spare : Nat → Bool} {held : Bool} {fuel : Nat} {a : Option Addr} {len cap : Nat} {x : DataW H × List MemPlace}
    (h : DataW.trod enc Tryd.prog w base spare held fuel 31 (Value.slice a len cap).cells.toList = some x) : ∃ l : List UInt8, BArg w (.slice a len cap) l ∧ l.length ≤ 9223372036854775807 := by
  obtain ⟨l, hl, hm⟩ := brow_open h
  refine ⟨l, ?_, hm⟩
  rcases hl with ⟨⟨p, cp, e⟩, rfl⟩ | ⟨g, o, cp, e, h1, h2⟩
  · cases e
    rcases open_ints Tryd.underlying31 Tryd.underlying5 (by kernel_rfl) h with ⟨hcs, _⟩ | ⟨a2, n, c, zs, hcs, _⟩
    · simp [Value.cells] at hcs
      obtain ⟨rfl, rfl⟩ := hcs
      exact .inl ⟨rfl, rfl⟩
    · simp [Value.cells] at hcs
      obtain ⟨rfl, rfl, rfl⟩ := hcs
      exact .inr (.inl ⟨_, _, rfl, rfl⟩)
  · by_cases h0 : l.length = 0
    · obtain rfl := List.eq_nil_of_length_eq_zero h0
      cases e
      exact .inr (.inl ⟨_, _, rfl, rfl⟩)
    · exact .inr (.inr ⟨g, o, cp, e, h1, by omega, h2⟩)
end Go.Proofs.YtmchldenibpmeaaDoor
