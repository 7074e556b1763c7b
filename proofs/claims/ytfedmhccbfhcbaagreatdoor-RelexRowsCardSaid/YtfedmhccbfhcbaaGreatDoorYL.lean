/-
  A row of edits among the arguments: opened; the last step of a law with an argument that lies in memory.
-/
import Derived.Test.YtfedmhccbfhcbaaGreatDoorYE
import Derived.Test.YtfedmhccbfhcbaaGreatDoorXP
import Derived.Deep.Slices
import Derived.Carry
namespace Go.Proofs.YtfedmhccbfhcbaaGreatDoor
open Go.ChangeShapes Go.WideShapes Go.ChangeAt Go.RowKit Go.ChangeMaps Go.Joins Go.Deep

theorem trydLaidOut : laidOutB Tryz.prog = true := by kernel_rfl
instance : Inhabited Ed := ⟨⟨0, 0, ⟨#[]⟩⟩⟩
/-- From a walk to the row, where an argument leads into memory. -/
theorem post_places {H : Type} {enc : TypeId × Value → H} {P : Program} {f : Func} {s : ChangeSpec} {W W' : World} {args : Array Value} {v : Value} {ds : List (DataW H)} {before : List MemPlace}
    (hW : DataW.Whole enc P f.params.toList s.vars false W args.toList ds [] before)
    (hres : DataW.TrodAll enc P W' W.heap.size (fun _ => false) false f.resultTypes.toList (v.resultList f.resultTypes.size) (s.fn H (ds ++ [])).results [])
    (hargs : DataW.TrodAll enc P W' 0 (fun b => decide (b < W.heap.size)) true f.params.toList args.toList (s.fn H (ds ++ [])).args before)
    (hvars : DataW.TrodVars enc P W' (fun b => decide (b < W.heap.size)) s.vars (s.fn H (ds ++ [])).vars [])
    (hb : Below W.heap.size W W') : s.post enc P f false true false false W args v W' :=
  ⟨ds, [], before, [], before, [], hW, hres, hargs, hvars, World.keptBut_mono (fun p hp => by cases hp) (hb.frame (· ∈ [])), fun h => by cases h⟩
section
variable {H : Type} {enc : TypeId × Value → H} {w : World} {base : Nat} {held : Bool}
theorem edits_open {fuel : Nat} {a : Option Addr} {len cap : Nat} {x : DataW H × List MemPlace} (h : DataW.trod enc Tryz.prog w base (fun _ => true) held fuel 41 (Value.slice a len cap).cells.toList = some x) :
    ∃ l : List Ed, EdsAt w (.slice a len cap) l ∧ l.length ≤ 9223372036854775807 := by
  rcases open_slice Tryz.underlying41 h with h0 | ⟨a2, len2, cap2, m, n, D, Pl, hcs, hb, hl, hm, hmm, rfl, hx⟩
  · have h1 := h0.1
    simp [Value.cells] at h1
    obtain ⟨rfl, rfl, rfl⟩ := h1
    exact ⟨[], ⟨none, 0, rfl, Nat.le_refl _, .inl rfl⟩, by simp⟩
  · simp [Value.cells] at hcs
    obtain ⟨rfl, rfl, rfl⟩ := hcs
    have hlm : len ≤ m := by rw [hmm]; split <;> omega
    have each : ∀ i, i < len → ∃ s : Ed, w.cell? (a2.add (i * 3)) = some (.int .i64 s.f) ∧ w.cell? (a2.add (i * 3 + 1)) = some (.int .i64 s.t) ∧ w.cell? (a2.add (i * 3 + 2)) = some (.string s.x) := by
      intro i hi
      obtain ⟨cs', h1, h2⟩ := hx i (by omega)
      rw [cells25] at h1
      obtain ⟨_, hlen, hcell⟩ := World.cells?_some h1
      match cs', hlen with
      | [v0, v1, v2], _ =>
        obtain ⟨p, q, s, rfl, rfl, rfl, _⟩ := trod_edit h2
        have e0 := hcell 0 (by omega)
        have e1 := hcell 1 (by omega)
        have e2 := hcell 2 (by omega)
        rw [add_add] at e0 e1 e2
        exact ⟨⟨p, q, s⟩, by simpa using e0, by simpa using e1, by simpa using e2⟩
    obtain ⟨f, hf⟩ := choose_lt each
    have hlen : ((List.range len).map f).length = len := by simp
    have hm2 : len ≤ 9223372036854775807 := by
      have : maxLen = 9223372036854775807 := by kernel_rfl
      omega
    refine ⟨(List.range len).map f, ⟨some a2, cap, by rw [hlen], by rw [hlen]; exact hl, ?_⟩, by rw [hlen]; exact hm2⟩
    by_cases h0 : len = 0
    · left; subst h0; rfl
    · right
      obtain ⟨b, off, spot⟩ := a2
      have hs : spot = none := by
        have := World.cell?_spot (hf 0 (by omega)).1
        simpa [Addr.add] using this
      subst hs
      refine ⟨b, off, rfl, fun i e hi => ?_⟩
      have hil : i < len := by rw [← hlen]; exact (List.getElem?_eq_some_iff.1 hi).1
      have he : e = f i := by
        rw [List.getElem?_map, List.getElem?_range hil] at hi
        exact (Option.some.inj hi).symm
      obtain ⟨c0, c1, c2⟩ := hf i hil
      simp only [add_plain] at c0 c1 c2
      rw [he]
      exact ⟨c0, c1, c2⟩
end
end Go.Proofs.YtfedmhccbfhcbaaGreatDoor
