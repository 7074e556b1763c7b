/-
  What the rows' lists give for the package json: the two errors of strconv, the table of powers, the two tables of unicode/utf8.
-/
import Derived.Test.YtgcpgieojckheaaGreatDoorMgY
import Derived.Test.YtgcpgieojckheaaGreatDoorMgJV
namespace Go.Proofs.YtgcpgieojckheaaGreatDoor
open Go.ChangeShapes Go.WideShapes Go.ChangeAt Go.RowKit

theorem err_cell0 {w : World} {n : String} {d : DataW Unit} (h : Lib.VarReads Tryz.prog w n d) (hn : Tryz.prog.globalNamed n = some 0) : ∃ ev, w.cell? ⟨0, 0, none⟩ = some ev ∧ (ev = .nilIface ∨ ∃ te pe, ev = .iface te pe) := by
  obtain ⟨g, t, cs, fuel, p, hg, hty, hvar, hd⟩ := h
  obtain rfl := Option.some.inj (hn.symm.trans hg)
  have hty2 : (Tryz.prog.globals[0]?).map (·.type) = some 78 := by kernel_rfl
  obtain rfl := Option.some.inj (hty2.symm.trans hty)
  have hu : ∃ ms, Tryz.prog.underlying 78 = some (.interface ms) := ⟨_, Tryz.underlying78⟩
  obtain ⟨ms, hu⟩ := hu
  have hc := World.var?_cell hn hvar 0
  cases fuel with
  | zero => simp [DataW.trod] at hd
  | succ k =>
    unfold DataW.trod at hd
    rw [hu] at hd
    rcases hcs : cs.toList with _ | ⟨v, r⟩
    · rw [hcs] at hd; simp at hd
    · have h0 : cs[0]? = some v := by rw [← Array.getElem?_toList, hcs]; rfl
      rw [h0] at hc
      refine ⟨v, hc, ?_⟩
      rw [hcs] at hd
      cases v <;> first | exact .inl rfl | exact .inr ⟨_, _, rfl⟩ | (exfalso; cases r <;> simp at hd)
theorem tabsJ {W : World} (h : laidMetH Tryz.prog laidList W) : Json.TabsJ W := by
  refine ⟨?_, tabs h, tabs8 h⟩
  rw [MakeChecks.laidMetH_plain Tryz.prog laidList W (by kernel_rfl)] at h
  exact err_cell0 (Lib.laidMet.reads h (.tail _ (.tail _ (.tail _ (.tail _ (.tail _ (.head _))))))) (by kernel_rfl)
theorem heap8 {W : World} (h : laidMetH Tryz.prog laidList W) : 8 ≤ W.heap.size := Utf.tabs_size (tabs8 h)
end Go.Proofs.YtgcpgieojckheaaGreatDoor
