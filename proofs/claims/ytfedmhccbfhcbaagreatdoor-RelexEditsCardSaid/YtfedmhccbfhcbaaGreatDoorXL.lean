/-
  awake: the first example.
-/
import Derived.Test.YtfedmhccbfhcbaaGreatDoorXK
namespace Go.Proofs.YtfedmhccbfhcbaaGreatDoor
open Go.RowKit Go.Shelf

def letS : List UInt8 := [108, 101, 116, 32, 120, 32, 61, 32, 49]
set_option maxRecDepth 100000 in
theorem aw1 : doE letS [50, 51] 8 9 = 0 := by decide +kernel
set_option maxRecDepth 100000 in
theorem aw2 : doL letS [50, 51] 8 9 = [(3, [108, 101, 116]), (1, [32]), (4, [120]), (1, [32]), (8, [61]), (1, [32]), (5, [50, 51])] := by decide +kernel
set_option maxRecDepth 100000 in
theorem aw3 : kepA letS [50, 51] 8 9 = 6 := by decide +kernel
set_option maxRecDepth 100000 in
theorem aw4 : kepB letS [50, 51] 8 9 = 0 := by decide +kernel
theorem eql_kept (W : World) : (binOp .eql 32 (.agg #[.int .i64 6, .int .i64 0]) (.agg #[.int .i64 6, .int .i64 0])).run Tryz.prog W = .ok (.bool true) W := by simp [go_sem]
set_option maxRecDepth 100000 in
set_option maxHeartbeats 16000000 in
theorem awake_any (w : World) (hE : Env w) : Calls Tryz.prog 5 #[] w fun e w' => e = .returned (.bool true) ∧ Below w.heap.size w w' := by
  have hre := relex_any ⟨#[108, 101, 116, 32, 120, 32, 61, 32, 49]⟩ ⟨#[50, 51]⟩ 8 9 w (by decide) (by decide) hE
  unfold RlxEnd at hre
  have e1 : (⟨#[108, 101, 116, 32, 120, 32, 61, 32, 49]⟩ : ByteArray).data.toList = letS := rfl
  have e2 : (⟨#[50, 51]⟩ : ByteArray).data.toList = [50, 51] := rfl
  rw [e1, e2, aw1, aw2, aw3, aw4] at hre
  unfold edV at hre
  have hn2 := fun W => eql_any (5, [50, 51]) (5, [50, 51]) W
  rw [decide_eq_true rfl] at hn2
  unfold tokA bl at hn2
  have hk2 := eql_kept
  go_enter Tryz.func5, Tryz.ntmps5
  go_wp2_with fail
  refine hre.mono ?_
  rintro e w1 ⟨v, rfl, hO, hb⟩
  have HB := Lib.hid hb
  rcases hO with ⟨h0, _⟩ | hO
  · simp at h0
  obtain ⟨g, cap, rfl, r0, r1⟩ := tok_at hO (i := 6) (t := (5, [50, 51])) rfl
  have hn := heap_alloc_new w1 (.cells #[.int .i64 0, .int .i64 0] 32)
  have hba : Below w1.heap.size w1 (w1.alloc (.cells #[.int .i64 0, .int .i64 0] 32)) := galloc2 (Below.refl _ _) (Nat.le_refl _) _
  have hg : g < w1.heap.size := by
    unfold World.cell? at r0
    cases hh : w1.heap[g]? with
    | none => rw [hh] at r0; cases r0
    | some o => exact (Array.getElem?_eq_some_iff.1 hh).1
  have r0' := cell_below hba r0
  have r1' := cell_below hba r1
  generalize hw2 : w1.alloc (.cells #[.int .i64 0, .int .i64 0] 32) = w2 at *
  have HB2 := Lib.hid (HB.out.trans (hba.mono HB.out.size))
  have z0 : w2.cell? ⟨w1.heap.size, 0, none⟩ = some (.int .i64 0) := by rw [cellH hn]; rfl
  have z1 : w2.cell? ⟨w1.heap.size, 1, none⟩ = some (.int .i64 0) := by rw [cellH hn]; rfl
  have zf : ∀ o, w2.frozen? ⟨w1.heap.size, o, none⟩ = false := fun o => Lib.frozen_of_heap hn o
  have far1 : ∀ (W : World) (o1 o2 : Nat) (x : Value), (W.setCell ⟨w1.heap.size, o1, none⟩ x).cell? ⟨g, o2, none⟩ = W.cell? ⟨g, o2, none⟩ := fun W o1 o2 x => set_far W _ _ _ _ _ (by omega)
  unfold bl at r1'
  clear hre hO hb r0 r1 hn hba hg e1 e2
  go_wp2_with fail
  go_ret
  exact ⟨rfl, below_set2 HB2.out HB.out.size⟩
end Go.Proofs.YtfedmhccbfhcbaaGreatDoor
