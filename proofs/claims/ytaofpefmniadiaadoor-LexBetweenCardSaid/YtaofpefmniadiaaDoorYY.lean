/-
  A law with an argument that lies in memory: the last step.
-/
import Derived.Test.YtaofpefmniadiaaDoorY
import Derived.Test.YtaofpefmniadiaaDoorW
import Derived.SliceStrings
import Derived.Carry
import Derived.ChangeSlices
namespace Go.Proofs.YtaofpefmniadiaaDoor
open Go.ChangeShapes Go.WideShapes Go.ChangeAt Go.RowKit

theorem trydLaidOut : laidOutB Tryd.prog = true := by kernel_rfl
/-- From a walk to the row, where an argument leads into memory. -/
theorem post_places {H : Type} {enc : TypeId × Value → H} {P : Program} {f : Func} {s : ChangeSpec} {W W' : World} {args : Array Value} {v : Value} {ds : List (DataW H)} {before : List MemPlace}
    (hW : DataW.Whole enc P f.params.toList s.vars false W args.toList ds [] before)
    (hres : DataW.TrodAll enc P W' W.heap.size (fun _ => false) false f.resultTypes.toList (v.resultList f.resultTypes.size) (s.fn H (ds ++ [])).results [])
    (hargs : DataW.TrodAll enc P W' 0 (fun b => decide (b < W.heap.size)) true f.params.toList args.toList (s.fn H (ds ++ [])).args before)
    (hvars : DataW.TrodVars enc P W' (fun b => decide (b < W.heap.size)) s.vars (s.fn H (ds ++ [])).vars [])
    (hb : Below W.heap.size W W') : s.post enc P f false true false false W args v W' :=
  ⟨ds, [], before, [], before, [], hW, hres, hargs, hvars, World.keptBut_mono (fun p hp => by cases hp) (hb.frame (· ∈ [])), fun h => by cases h⟩
theorem lstr_open {H : Type} {enc : TypeId × Value → H} {w : World} {base : Nat} {spare : Nat → Bool} {held : Bool} {fuel : Nat} {a : Option Addr} {len cap : Nat} {x : DataW H × List MemPlace}
    (h : DataW.trod enc Tryd.prog w base spare held fuel 40 (Value.slice a len cap).cells.toList = some x) : ∃ l : List ByteArray, LStr w (.slice a len cap) l ∧ l.length ≤ 9223372036854775807 := by
  rcases open_strings Tryd.underlying40 Tryd.underlying9 (by kernel_rfl) h with ⟨hcs, _⟩ | ⟨a2, n, c, ss, hcs, _, hl, hm, hz, _, hcell, _⟩
  · simp [Value.cells] at hcs
    obtain ⟨rfl, rfl, rfl⟩ := hcs
    exact ⟨[], .inl ⟨⟨_, _, rfl⟩, rfl⟩, by simp⟩
  · simp [Value.cells] at hcs
    obtain ⟨rfl, rfl, rfl⟩ := hcs
    have hc : len ≤ ss.length := by rw [hz]; split <;> omega
    have e : (ss.take len).length = len := by simp; omega
    have hm2 : len ≤ 9223372036854775807 := by
      have : maxLen = 9223372036854775807 := by kernel_rfl
      omega
    by_cases hl0 : len = 0
    · subst hl0
      exact ⟨[], .inl ⟨⟨_, _, rfl⟩, rfl⟩, by simp⟩
    · obtain ⟨b, off, spot⟩ := a2
      have hspot : spot = none := by simpa [Addr.add] using World.cell?_spot (hcell 0 (by omega))
      subst hspot
      refine ⟨ss.take len, .inr ⟨b, off, cap, by rw [e], fun i X hX => ?_⟩, by rw [e]; exact hm2⟩
      have hi : i < len := by
        have := (List.getElem?_eq_some_iff.1 hX).1
        omega
      have h1 := hcell i (by omega)
      rw [Go.WideShapes.add_plain] at h1
      rw [List.getElem?_take_of_lt hi] at hX
      have e2 : ss.getD i ByteArray.empty = X := by rw [List.getD_eq_getElem?_getD, hX]; rfl
      rw [e2] at h1
      exact h1
end Go.Proofs.YtaofpefmniadiaaDoor
