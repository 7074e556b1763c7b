/-
  A law with an argument that lies in memory: the last step; small numbers.
-/
import Derived.Test.YtlafcnmopclgiaaGreatDoorY
import Derived.Test.YtlafcnmopclgiaaGreatDoorP
import Derived.Test.YtlafcnmopclgiaaGreatDoorSF
import Derived.Deep.Matrix
import Derived.Carry
import Derived.ChangeSlices
namespace Go.Proofs.YtlafcnmopclgiaaGreatDoor
open Go.ChangeShapes Go.WideShapes Go.ChangeAt Go.RowKit

theorem trydLaidOut : laidOutB Tryz.prog = true := by kernel_rfl
theorem wf_u8 {k : Int} (h : (Lit.int .u8 k).wf = true) : 0 ≤ k ∧ k ≤ 255 := by
  have e : IntKind.u8.min = 0 := by kernel_rfl
  have e2 : IntKind.u8.max = 255 := by kernel_rfl
  simp [Lit.wf] at h
  omega
/-- From a walk to the row, where an argument leads into memory. -/
theorem post_places {H : Type} {enc : TypeId × Value → H} {P : Program} {f : Func} {s : ChangeSpec} {W W' : World} {args : Array Value} {v : Value} {ds : List (DataW H)} {before : List MemPlace}
    (hW : DataW.Whole enc P f.params.toList s.vars false W args.toList ds [] before)
    (hres : DataW.TrodAll enc P W' W.heap.size (fun _ => false) false f.resultTypes.toList (v.resultList f.resultTypes.size) (s.fn H (ds ++ [])).results [])
    (hargs : DataW.TrodAll enc P W' 0 (fun b => decide (b < W.heap.size)) true f.params.toList args.toList (s.fn H (ds ++ [])).args before)
    (hvars : DataW.TrodVars enc P W' (fun b => decide (b < W.heap.size)) s.vars (s.fn H (ds ++ [])).vars [])
    (hb : Below W.heap.size W W') : s.post enc P f false true false false W args v W' :=
  ⟨ds, [], before, [], before, [], hW, hres, hargs, hvars, World.keptBut_mono (fun p hp => by cases hp) (hb.frame (· ∈ [])), fun h => by cases h⟩
theorem rows_open {H : Type} {enc : TypeId × Value → H} {w : World} {base : Nat} {held : Bool} {fuel : Nat} {a : Option Addr} {len cap : Nat} {x : DataW H × List MemPlace}
    (h : DataW.trod enc Tryz.prog w base (fun _ => true) held fuel 22 (Value.slice a len cap).cells.toList = some x) : ∃ L : List (List UInt8), Rows2 w (.slice a len cap) L ∧ L.length ≤ 9223372036854775807 := by
  have hmx : maxLen = 9223372036854775807 := by kernel_rfl
  rcases Go.Deep.open_int_rows Tryz.underlying22 Tryz.underlying30 Tryz.underlying5 (by kernel_rfl) (by kernel_rfl) h with ⟨hcs, _⟩ | ⟨a2, n, c, A, Ln, C, Z, hcs, _, hl, hm, _, hr⟩
  · simp [Value.cells] at hcs
    obtain ⟨rfl, rfl, rfl⟩ := hcs
    exact ⟨[], ⟨none, 0, rfl, Nat.le_refl _, fun i l hi => by simp at hi⟩, by simp⟩
  · simp [Value.cells] at hcs
    obtain ⟨rfl, rfl, rfl⟩ := hcs
    refine ⟨(List.range len).map fun r => ((Z r).take (Ln r)).map fun z => UInt8.ofNat z.toNat, ⟨some a2, cap, by simp, by simpa using hl, fun i l hi => ?_⟩, by simp; omega⟩
    have hil : i < len := by have := (List.getElem?_eq_some_iff.1 hi).1; simpa using this
    rw [List.getElem?_map, List.getElem?_range hil] at hi
    simp only [Option.map_some, Option.some.injEq] at hi
    subst hi
    obtain ⟨h1, h2, h3, h4, h5, h6, h7⟩ := hr i (by omega)
    obtain ⟨g, o, spot⟩ := a2
    have hspot : spot = none := by simpa [Addr.add] using World.cell?_spot (hr 0 (by omega)).1
    subst hspot
    rw [Go.WideShapes.add_plain] at h1
    refine ⟨g, o, _, rfl, h1, ?_⟩
    have e : (((Z i).take (Ln i)).map fun z => UInt8.ofNat z.toNat).length = Ln i := by simp; omega
    by_cases hl0 : Ln i = 0
    · left
      rw [hl0]
      exact ⟨⟨_, _, rfl⟩, by simp⟩
    · right
      cases hA : A i with
      | none => have := h6 hA; omega
      | some a3 =>
        obtain ⟨_, h8⟩ := h7 a3 hA
        obtain ⟨b, off, spot⟩ := a3
        have hspot : spot = none := by simpa [Addr.add] using World.cell?_spot (h8 0 (by omega))
        subst hspot
        refine ⟨b, off, C i, by rw [e], by rw [e]; exact h2, fun j hj => ?_⟩
        rw [e] at hj
        have k1 := h8 j (by omega)
        rw [Go.WideShapes.add_plain] at k1
        have hmem : (Z i).getD j 0 ∈ Z i := by
          rw [List.getD_eq_getElem?_getD, List.getElem?_eq_getElem (by omega)]; exact List.getElem_mem _
        have k2 := wf_u8 (h5 _ hmem)
        have e2 : ((((Z i).take (Ln i)).map fun z => UInt8.ofNat z.toNat).getD j 0).toNat = ((Z i).getD j 0).toNat := by
          rw [List.getD_eq_getElem?_getD, List.getElem?_map, List.getElem?_take_of_lt hj, List.getD_eq_getElem?_getD, List.getElem?_eq_getElem (by omega)]
          simp only [Option.map_some, Option.getD_some]
          rw [List.getD_eq_getElem?_getD, List.getElem?_eq_getElem (by omega)] at k2
          simp only [Option.getD_some] at k2
          rw [UInt8.toNat_ofNat']
          omega
        have e3 : (((((Z i).take (Ln i)).map fun z => UInt8.ofNat z.toNat).getD j 0).toNat : Int) = (Z i).getD j 0 := by rw [e2]; omega
        rw [e3]
        exact k1
end Go.Proofs.YtlafcnmopclgiaaGreatDoor
