/-
  nameBut, rows: the table of readers.
-/
import Derived.Test.YtfedmhccbfhcbaaGreatDoorI
namespace Go.Proofs.YtfedmhccbfhcbaaGreatDoor
open Go.RowKit Go.Maps Go.WideMaps

theorem cellH {w : World} {b : Nat} {cs : Array Value} {t : TypeId} {fr : Nat × Nat} (h : w.heap[b]? = some (.cells cs t fr)) (o : Nat) : w.cell? ⟨b, o, none⟩ = cs[o]? := cell_of_row w b o cs t fr h
theorem makeFunc_run (fn : Fn) (first cap : Array Value) (w : World) : (Instr.makeFunc fn first cap).run Tryz.prog w = .ok (.func fn first cap) w := rfl
def NameButEnd (w : World) (e : Ending) (w' : World) : Prop := ∃ B, e = .returned (.func (.func 66) #[] #[.pointer (some ⟨B, 0, none⟩)]) ∧ WordsAt B w' ∧ Below w.heap.size w w'
set_option maxRecDepth 100000 in
set_option maxHeartbeats 1000000 in
theorem nameBut_any (M : Nat) (w : World) (hM : MapOf M 13 w) : Calls Tryz.prog 55 #[.map (some M)] w (NameButEnd w) := by
  have hmf := makeFunc_run
  have hb : Below w.heap.size w (w.alloc (.cells #[.map (some M)] 97)) := Below.alloc (Below.refl _ _) (Nat.le_refl _) _
  have hW : WordsAt w.heap.size (w.alloc (.cells #[.map (some M)] 97)) := ⟨M, by rw [cellH (heap_alloc_new w _)]; rfl, hM.below hb hM.lt⟩
  have HW := Lib.hid hW
  have HB := Lib.hid hb
  clear hb hW hM
  go_enter Tryz.func55, Tryz.ntmps55
  go_wp2
  go_ret
  exact ⟨_, rfl, HW.out, HB.out⟩
def fnT (B : Nat) : Array Value := #[.func (.func 53) #[] #[], .func (.func 54) #[] #[], .func (.func 66) #[] #[.pointer (some ⟨B, 0, none⟩)], .func (.func 57) #[] #[], .func (.func 58) #[] #[], .func (.func 59) #[] #[], .func (.func 60) #[] #[]]
/-- The table at T. -/
def TabAt (T : Nat) (w : World) : Prop := ∃ B, w.heap[T]? = some (.cells (fnT B) 95 (0, 0)) ∧ WordsAt B w
theorem TabAt.below {T : Nat} {w w' : World} (h : TabAt T w) (hb : Below w.heap.size w w') : TabAt T w' := by
  obtain ⟨B, h1, h2⟩ := h
  exact ⟨B, (hb.block T (Array.getElem?_eq_some_iff.1 h1).1).trans h1, h2.below hb⟩
def RowsEnd (w : World) (e : Ending) (w' : World) : Prop := ∃ T, e = .returned (.slice (some ⟨T, 0, none⟩) 7 7) ∧ TabAt T w' ∧ w.heap.size ≤ T ∧ Below w.heap.size w w'
set_option maxRecDepth 100000 in
set_option maxHeartbeats 1000000 in
theorem rows_any (w : World) : Calls Tryz.prog 47 #[] w (RowsEnd w) := by
  go_enter Tryz.func47, Tryz.ntmps47
  go_wp2_with fail
  refine (words_any w).mono ?_
  rintro e w1 ⟨M, rfl, hM, hb1⟩
  have HB1 := Lib.hid hb1
  have HM := Lib.hid hM
  clear hb1 hM
  go_wp2_with fail
  refine (nameBut_any M w1 HM.out).mono ?_
  rintro e w2 ⟨B, rfl, hW, hb2⟩
  have HB2 := Lib.hid (HB1.out.trans (hb2.mono HB1.out.size))
  have hA : Below w2.heap.size w2 (w2.alloc (.cells (fnT B) 95)) := Below.alloc (Below.refl _ _) (Nat.le_refl _) _
  have HT : Hid (TabAt w2.heap.size (w2.alloc (.cells (fnT B) 95))) := Lib.hid ⟨B, heap_alloc_new w2 _, hW.below hA⟩
  have HA := Lib.hid hA
  clear hb2 hW hA
  go_wp2_with fail
  go_ret
  exact ⟨_, rfl, HT.out, HB2.out.size, HB2.out.trans (HA.out.mono HB2.out.size)⟩
end Go.Proofs.YtfedmhccbfhcbaaGreatDoor
