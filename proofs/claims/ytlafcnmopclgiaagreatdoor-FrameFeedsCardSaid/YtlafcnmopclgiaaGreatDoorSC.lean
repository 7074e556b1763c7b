/-
  Copy; a copy's Feed.
-/
import Derived.Test.YtlafcnmopclgiaaGreatDoorSB
namespace Go.Proofs.YtlafcnmopclgiaaGreatDoor
open Go.RowKit Go.Shelf

set_option maxRecDepth 100000 in
set_option maxHeartbeats 2000000 in
theorem copy_some (w : World) (b : Nat) (ad : Addr) (n cap : Nat) (m : Mode) (h : RCell w b (.slice (some ad) n cap) m) (hn : n ≤ cap) :
    Calls Tryz.prog 7 #[.pointer (some ⟨b, 0, none⟩)] w fun e w' => e = .returned (.pointer (some ⟨w.heap.size, 0, none⟩)) ∧ RCell w' w.heap.size (.slice (some ad) n n) m ∧ Below w.heap.size w w' := by
  obtain ⟨f2, n2, hf2⟩ := fn_shape m
  obtain ⟨x0, x1, xf⟩ := h.cells
  rw [hf2] at x1
  have hn0 : (0 : Int) ≤ (n : Int) := by omega
  have hn1 : (n : Int) ≤ (cap : Int) := by omega
  have HR : Hid (RCell (w.alloc (.cells #[.slice (some ad) n n, .func (.func f2) #[.agg #[.int .i64 n2]] #[]] 48)).drew w.heap.size (.slice (some ad) n n) m) := Lib.hid (by unfold RCell; rw [hf2]; exact heap_alloc_new w _)
  have HB : Hid (Below w.heap.size w (w.alloc (.cells #[.slice (some ad) n n, .func (.func f2) #[.agg #[.int .i64 n2]] #[]] 48)).drew) := Lib.hid ((Below.refl _ _).alloc (Nat.le_refl _) _).drew
  clear hf2 h
  go_enter Tryz.func7, Tryz.ntmps7
  go_wp2_with fail
  go_region_held3 (fun u => u.cell? ⟨b, 0, none⟩ = some (.slice (some ad) n cap) ∧ u.cell? ⟨b, 1, none⟩ = some (.func (.func f2) #[.agg #[.int .i64 n2]] #[])) (go_keep) (fail)
  all_goals go_wp2_with fail
  all_goals go_ret
  all_goals exact ⟨rfl, HR.out, HB.out⟩
set_option maxRecDepth 100000 in
set_option maxHeartbeats 2000000 in
theorem copy_none (w : World) (b : Nat) (m : Mode) (h : RCell w b (.slice none 0 0) m) :
    Calls Tryz.prog 7 #[.pointer (some ⟨b, 0, none⟩)] w fun e w' => e = .returned (.pointer (some ⟨w.heap.size, 0, none⟩)) ∧ RCell w' w.heap.size (.slice none 0 0) m ∧ Below w.heap.size w w' := by
  obtain ⟨f2, n2, hf2⟩ := fn_shape m
  obtain ⟨x0, x1, xf⟩ := h.cells
  rw [hf2] at x1
  have HR : Hid (RCell (w.alloc (.cells #[.slice none 0 0, .func (.func f2) #[.agg #[.int .i64 n2]] #[]] 48)).drew w.heap.size (.slice none 0 0) m) := Lib.hid (by unfold RCell; rw [hf2]; exact heap_alloc_new w _)
  have HB : Hid (Below w.heap.size w (w.alloc (.cells #[.slice none 0 0, .func (.func f2) #[.agg #[.int .i64 n2]] #[]] 48)).drew) := Lib.hid ((Below.refl _ _).alloc (Nat.le_refl _) _).drew
  clear hf2 h
  go_enter Tryz.func7, Tryz.ntmps7
  go_wp2_with fail
  go_region_held3 (fun u => u.cell? ⟨b, 0, none⟩ = some (.slice none 0 0) ∧ u.cell? ⟨b, 1, none⟩ = some (.func (.func f2) #[.agg #[.int .i64 n2]] #[])) (go_keep) (fail)
  all_goals go_wp2_with fail
  all_goals go_ret
  all_goals exact ⟨rfl, HR.out, HB.out⟩
end Go.Proofs.YtlafcnmopclgiaaGreatDoor
