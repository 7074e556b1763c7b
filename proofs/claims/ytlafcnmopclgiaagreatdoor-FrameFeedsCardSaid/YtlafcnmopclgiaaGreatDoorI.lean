/-
  divide where nothing is held; what a reader is; New.
-/
import Derived.Test.YtlafcnmopclgiaaGreatDoorH
namespace Go.Proofs.YtlafcnmopclgiaaGreatDoor
open Go.RowKit Go.Shelf

set_option maxRecDepth 100000 in
set_option maxHeartbeats 4000000 in
theorem head_none_any (w : World) : Calls Tryz.prog 13 #[.agg #[.int .i64 0], .slice none 0 0] w fun e w' => e = .returned (.agg #[.int .i64 0, .slice none 0 0, .nilFunc]) ∧ Below w.heap.size w w' := by
  have hmf := makeFunc_run
  obtain ⟨A1, hv1⟩ : ∃ A, w.alloc (.cells #[.int .i64 0] 45) = A := ⟨_, rfl⟩
  obtain ⟨A2, hv2⟩ : ∃ A, A1.alloc (.cells #[.int .i64 0, .slice none 0 0, .nilFunc] 56) = A := ⟨_, rfl⟩
  obtain ⟨A0, hv0⟩ : ∃ A, A2.alloc (.cells #[.int .u8 13, .int .u8 10, .int .u8 13, .int .u8 10] 5) = A := ⟨_, rfl⟩
  obtain ⟨A3, hv3⟩ : ∃ A, A2.alloc (.cells #[.int .u8 13, .int .u8 10, .int .u8 13, .int .u8 10] 5 (4, 5)) = A := ⟨_, rfl⟩
  have s1 : A1.heap.size = w.heap.size + 1 := by rw [← hv1]; simp
  have s2 : A2.heap.size = w.heap.size + 2 := by rw [← hv2]; simp [s1]
  have b1 : Below w.heap.size w A1 := by rw [← hv1]; exact galloc2 (Below.refl _ _) (Nat.le_refl _) _
  have b2 : Below w.heap.size w A2 := by rw [← hv2]; exact galloc2 b1 (by omega) _
  have b3 : Below w.heap.size w A3 := by rw [← hv3]; exact galloc2 b2 (by omega) _
  have hcs : (convert 30 30 (.slice (some ⟨w.heap.size + 2, 0, none⟩) 4 4)).run Tryz.prog A0 = .ok (.slice (some ⟨w.heap.size + 2, 0, none⟩) 4 4) A3 := by
    rw [← hv0, ← hv3, ← s2]; exact Lib.run_convert_bytes_const A2 30 5 #[.int .u8 13, .int .u8 10, .int .u8 13, .int .u8 10] 4 4 u31 u5
  have S2 : SBox A2 (w.heap.size + 1) (.int .i64 0) (.slice none 0 0) .nilFunc := by rw [← hv2, ← s1]; exact heap_alloc_new A1 _
  have S3 : SBox A3 (w.heap.size + 1) (.int .i64 0) (.slice none 0 0) .nilFunc := by rw [← hv3]; exact heap_old S2
  have hix := Tryz.bytes_Index_nil (some ⟨w.heap.size + 2, 0, none⟩) 4 4 A3 (by omega) (fun h => absurd h (by decide))
  have HS := Lib.hid S3
  have HB := Lib.hid b3
  obtain ⟨q0, q1, q2, qf⟩ := S3.cells
  clear b1 b2 b3 S2 S3
  go_enter Tryz.func13, Tryz.ntmps13
  go_wp2_with fail
  refine hix.mono ?_
  rintro e w4 ⟨rfl, rfl⟩
  rw [if_neg (by decide)]
  go_wp2_with fail
  have kF := HS.out.set (.int .i64 0) (.slice none 0 0) .nilFunc
  obtain ⟨z0, z1, z2, _⟩ := kF.cells
  refine bodyPost_ret (v := .agg #[.int .i64 0, .slice none 0 0, .nilFunc]) (by simp [results, Tryz.results13, go_sem, z0, z1, z2]) rfl ⟨rfl, set3_below (by omega) HB.out⟩
/-- Behind the operation of a reader that holds nothing. -/
def CutNil (w : World) (s6 : Value) (wx : World) : Prop :=
  ∃ X, s6 = .pointer (some ⟨X, 0, none⟩) ∧ SBox wx X (.int .i64 0) (.slice none 0 0) .nilFunc ∧ Below w.heap.size w wx
set_option maxRecDepth 100000 in
set_option maxHeartbeats 4000000 in
theorem divide_nil (w : World) (b : Nat) (hR : RCell w b (.slice none 0 0) .head) :
    Calls Tryz.prog 14 #[.pointer (some ⟨b, 0, none⟩)] w fun e w' => e = .returned (.tuple #[.int .i64 0, .slice none 0 0]) ∧ Below w.heap.size w w' := by
  have heq1 := eq_nil_nil
  have hbw := hR.lt
  obtain ⟨x0, x1, xf⟩ := hR.cells
  have hop := head_none_any
  simp only [fnOf] at x1
  obtain ⟨i41, hi, hz0, hz1, hz2⟩ := info_parts info41
  go_enter Tryz.func14, Tryz.ntmps14
  go_wp2_with fail
  go_loopw [4, 5] (fun u e wr => u = .int .i64 0 ∧ e = .slice none 0 0 ∧ wr = w) (fun _ _ _ => 0)
  case atStart => exact ⟨rfl, rfl, rfl⟩
  case round =>
    obtain ⟨rfl, rfl, hwr⟩ := hrel
    replace hwr := hwr.symm
    subst hwr
    go_wp2_with fail
    go_cut [6] from 7 to 35 (fun s6 wx => CutNil w s6 wx)
    case first =>
      go_region_held3 (fun u => u.cell? ⟨b, 0, none⟩ = some (.slice none 0 0) ∧ u.cell? ⟨b, 1, none⟩ = some (.func (.func 13) #[.agg #[.int .i64 0]] #[])) (first | exact ⟨x0, x1⟩ | exact ⟨y0, y1⟩ | ((with_reducible (refine ⟨?_, ?_⟩ <;> (repeat' (first | assumption | refine keepD ?_ | refine keepA _ ?_ | refine (World.cell?_setCell_far _ _ _ _ ?_).trans ?_)))); done) | go_keep) (first | (go_at_call 13; (with_reducible refine Calls.mono (hop _) ?_); rintro e w5 ⟨rfl, hb5⟩; have gg := (Below.refl w.heap.size w).drew.trans hb5; have y0 := (gg.cell (p := ⟨b, 0, none⟩) hbw).trans x0; have y1 := (gg.cell (p := ⟨b, 1, none⟩) hbw).trans x1; have nb : w5.heap.size ≠ b := (by have := gg.size; omega)) | (go_at_call 13; (with_reducible refine Calls.mono (hop _) ?_); rintro e w5 ⟨rfl, hb5⟩; have gg := ((Below.refl w.heap.size w).alloc (Nat.le_refl _) (.cells #[.int .i64 0, .slice none 0 0, .nilFunc] 56)).drew.trans (hb5.mono (by simp)); have y0 := (gg.cell (p := ⟨b, 0, none⟩) hbw).trans x0; have y1 := (gg.cell (p := ⟨b, 1, none⟩) hbw).trans x1; have nb : w.heap.size ≠ b := (by omega); have hsb := SBox.below (w := (w.alloc (.cells #[.int .i64 0, .slice none 0 0, .nilFunc] 56)).drew) (heap_alloc_new w (.cells #[.int .i64 0, .slice none 0 0, .nilFunc] 56)) hb5; obtain ⟨q0, q1, q2, qf⟩ := hsb.cells))
      all_goals (go_wp2_with fail; go_meet)
      case rel => exact ⟨_, rfl, heap_alloc_new w5 _, galloc2 gg gg.size _⟩
      case rel => exact ⟨_, rfl, hsb.set _ _ _, set3_below (Nat.le_refl _) gg⟩
    case rest =>
      obtain ⟨X, rfl, hS, hb⟩ := hcut
      obtain ⟨q0, q1, q2, qf⟩ := hS.cells
      have HB := Lib.hid hb
      clear hb hS
      go_wp2_with (at_builtin; refine wpList_append_own_none rfl _ _ 31 rfl w.heap.size 40 i41 2 und28 hi _ _ _ rfl (World.ownsRow_nil _ _ _ _) rfl ?_)
      go_wp2_with fail
      go_ret2
      exact ⟨rfl, HB.out⟩
end Go.Proofs.YtlafcnmopclgiaaGreatDoor
