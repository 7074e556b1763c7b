/-
  A law with an argument that lies in memory: the last step; small numbers.
-/
import Derived.Test.YtmchldenibpmeaaDoorY
import Derived.Test.YtmchldenibpmeaaDoorP
import Derived.SliceStrings
import Derived.Carry
import Derived.ChangeSlices
namespace Go.Proofs.YtmchldenibpmeaaDoor
open Go.ChangeShapes Go.WideShapes Go.ChangeAt Go.RowKit

theorem trydLaidOut : laidOutB Tryd.prog = true := by kernel_rfl
theorem wf_u8 {k : Int} (h : (Lit.int .u8 k).wf = true) : 0 ≤ k ∧ k ≤ 255 := by
  have e : IntKind.u8.min = 0 := by kernel_rfl
  have e2 : IntKind.u8.max = 255 := by kernel_rfl
  simp [Lit.wf] at h
  omega
/-- From a walk to the row, where an argument leads into memory. -/
theorem post_places {H : Type} {enc : TypeId × Value → H} {P : Program} {f : Func} {s : ChangeSpec} {W W' : World} {args : Array Value} {v : Value} {ds : List (DataW H)} {before : List MemPlace}
    (hW : DataW.Whole enc P f.params.toList s.vars false W args.toList ds [] before)
    (hres : DataW.TrodAll enc P W' W.heap.size (fun _ => false) false f.resultTypes.toList (v.resultList f.resultTypes.size) (s.fn H (ds ++ [])).results [])
    (hargs : DataW.TrodAll enc P W' 0 (fun b => decide (b < W.heap.size)) true f.params.toList args.toList (s.fn H (ds ++ [])).args before)
    (hvars : DataW.TrodVars enc P W' (fun b => decide (b < W.heap.size)) s.vars (s.fn H (ds ++ [])).vars [])
    (hb : Below W.heap.size W W') : s.post enc P f false true false false W args v W' :=
  ⟨ds, [], before, [], before, [], hW, hres, hargs, hvars, World.keptBut_mono (fun p hp => by cases hp) (hb.frame (· ∈ [])), fun h => by cases h⟩
theorem lstr_open {H : Type} {enc : TypeId × Value → H} {w : World} {base : Nat} {spare : Nat → Bool} {held : Bool} {fuel : Nat} {a : Option Addr} {len cap : Nat} {x : DataW H × List MemPlace}
    (h : DataW.trod enc Tryd.prog w base spare held fuel 43 (Value.slice a len cap).cells.toList = some x) : ∃ l : List ByteArray, LStr w (.slice a len cap) l ∧ l.length ≤ 9223372036854775807 := by
  rcases open_strings Tryd.underlying43 Tryd.underlying9 (by kernel_rfl) h with ⟨hcs, _⟩ | ⟨a2, n, c, ss, hcs, _, hl, hm, hz, _, hcell, _⟩
  · simp [Value.cells] at hcs
    obtain ⟨rfl, rfl, rfl⟩ := hcs
    exact ⟨[], .inl ⟨⟨_, _, rfl⟩, rfl⟩, by simp⟩
  · simp [Value.cells] at hcs
    obtain ⟨rfl, rfl, rfl⟩ := hcs
    have hc : len ≤ ss.length := by rw [hz]; split <;> omega
    have e : (ss.take len).length = len := by simp; omega
    have hm2 : len ≤ 9223372036854775807 := by
      have : maxLen = 9223372036854775807 := by kernel_rfl
      omega
    by_cases hl0 : len = 0
    · subst hl0
      exact ⟨[], .inl ⟨⟨_, _, rfl⟩, rfl⟩, by simp⟩
    · obtain ⟨b, off, spot⟩ := a2
      have hspot : spot = none := by simpa [Addr.add] using World.cell?_spot (hcell 0 (by omega))
      subst hspot
      refine ⟨ss.take len, .inr ⟨b, off, cap, by rw [e], fun i X hX => ?_⟩, by rw [e]; exact hm2⟩
      have hi : i < len := by
        have := (List.getElem?_eq_some_iff.1 hX).1
        omega
      have h1 := hcell i (by omega)
      rw [Go.WideShapes.add_plain] at h1
      rw [List.getElem?_take_of_lt hi] at hX
      have e2 : ss.getD i ByteArray.empty = X := by rw [List.getD_eq_getElem?_getD, hX]; rfl
      rw [e2] at h1
      exact h1
theorem brow_open {H : Type} {enc : TypeId × Value → H} {w : World} {base : Nat} {spare : Nat → Bool} {held : Bool} {fuel : Nat} {a : Option Addr} {len cap : Nat} {x : DataW H × List MemPlace}
    (h : DataW.trod enc Tryd.prog w base spare held fuel 31 (Value.slice a len cap).cells.toList = some x) : ∃ l : List UInt8, BRowV w (.slice a len cap) l ∧ l.length ≤ 9223372036854775807 := by
  rcases open_ints Tryd.underlying31 Tryd.underlying5 (by kernel_rfl) h with ⟨hcs, _⟩ | ⟨a2, n, c, zs, hcs, _, hl, hm, hz, _, hcell, hws⟩
  · simp [Value.cells] at hcs
    obtain ⟨rfl, rfl, rfl⟩ := hcs
    exact ⟨[], .inl ⟨⟨_, _, rfl⟩, rfl⟩, by simp⟩
  · simp [Value.cells] at hcs
    obtain ⟨rfl, rfl, rfl⟩ := hcs
    have hc : len ≤ zs.length := by rw [hz]; split <;> omega
    have hm2 : len ≤ 9223372036854775807 := by
      have : maxLen = 9223372036854775807 := by kernel_rfl
      omega
    by_cases hl0 : len = 0
    · subst hl0
      exact ⟨[], .inl ⟨⟨_, _, rfl⟩, rfl⟩, by simp⟩
    · obtain ⟨b, off, spot⟩ := a2
      have hspot : spot = none := by simpa [Addr.add] using World.cell?_spot (hcell 0 (by omega))
      subst hspot
      have e : ((zs.take len).map fun z => UInt8.ofNat z.toNat).length = len := by simp; omega
      refine ⟨(zs.take len).map fun z => UInt8.ofNat z.toNat, .inr ⟨b, off, cap, by rw [e], by rw [e]; exact hl, fun i hi => ?_⟩, by rw [e]; exact hm2⟩
      rw [e] at hi
      have h1 := hcell i (by omega)
      rw [Go.WideShapes.add_plain] at h1
      have hmem : zs.getD i 0 ∈ zs := by
        rw [List.getD_eq_getElem?_getD, List.getElem?_eq_getElem (by omega)]; exact List.getElem_mem _
      have h2 := wf_u8 (hws _ hmem)
      have e2 : (((zs.take len).map fun z => UInt8.ofNat z.toNat).getD i 0).toNat = (zs.getD i 0).toNat := by
        rw [List.getD_eq_getElem?_getD, List.getElem?_map, List.getElem?_take_of_lt hi, List.getD_eq_getElem?_getD, List.getElem?_eq_getElem (by omega)]
        simp only [Option.map_some, Option.getD_some]
        rw [List.getD_eq_getElem?_getD, List.getElem?_eq_getElem (by omega)] at h2
        simp only [Option.getD_some] at h2
        rw [UInt8.toNat_ofNat']
        omega
      have e3 : ((((zs.take len).map fun z => UInt8.ofNat z.toNat).getD i 0).toNat : Int) = zs.getD i 0 := by rw [e2]; omega
      rw [e3]
      exact h1
end Go.Proofs.YtmchldenibpmeaaDoor
