/-
  Span, over what Offset answers.
-/
import Derived.Test.YtfhkahnajjbohaaDoorX
import Derived.Test.YtfhkahnajjbohaaDoorS
namespace Go.Proofs.YtfhkahnajjbohaaDoor
open Go.RowKit Go.Shelf

/-- What a call of Offset answers, whenever it is made. -/
def OffSays (P : Program) (f : FuncId) (r : Value) (a b : Int) (w : World) (k e : Int) : Prop :=
  ∀ W, Below w.heap.size w W → Calls P f #[r, .agg #[.int .i64 a, .int .i64 b]] W fun e' W' => e' = .returned (.tuple #[.int .i64 k, .int .i64 e]) ∧ Below W.heap.size W W'
theorem keepF {W w' : World} {b o : Nat} (hb : Below W.heap.size W w') (hlt : b < W.heap.size) (h : W.frozen? ⟨b, o, none⟩ = false) : w'.frozen? ⟨b, o, none⟩ = false := (hb.frozen (p := ⟨b, o, none⟩) hlt).trans h

theorem put_two {w : World} {n : Nat} {u v : Value} (x y : Value) (h0 : w.cell? ⟨n, 0, none⟩ = some u) (h1 : w.cell? ⟨n, 1, none⟩ = some v) :
    ((w.setCell ⟨n, 0, none⟩ x).setCell ⟨n, 1, none⟩ y).cell? ⟨n, 0, none⟩ = some x ∧ ((w.setCell ⟨n, 0, none⟩ x).setCell ⟨n, 1, none⟩ y).cell? ⟨n, 1, none⟩ = some y := by
  have g0 : (w.setCell ⟨n, 0, none⟩ x).cell? ⟨n, 0, none⟩ = some x := World.cell?_setCell_same _ _ _ h0
  have g1 : (w.setCell ⟨n, 0, none⟩ x).cell? ⟨n, 1, none⟩ = some v := (World.cell?_setCell_other _ _ _ _ (by simp)).trans h1
  exact ⟨(World.cell?_setCell_other _ _ _ _ (by simp)).trans g0, World.cell?_setCell_same _ _ _ g1⟩

set_option maxHeartbeats 1600000 in
theorem span_e1 (p : Option Addr) (a1 a2 b1 b2 k e : Int) (w : World) (c1 : OffSays Tryd.prog 15 (.pointer p) a1 a2 w k e) (he : ((e : Int) == 0) = false) :
    Calls Tryd.prog 19 #[.pointer p, .agg #[.int .i64 a1, .int .i64 a2, .int .i64 b1, .int .i64 b2]] w fun e' w' => e' = .returned (.tuple #[.agg #[.int .i64 0, .int .i64 0], .int .i64 e]) ∧ Below w.heap.size w w' := by
  have hb0 : Below w.heap.size w ((w.alloc (.cells #[.int .i64 a1, .int .i64 a2, .int .i64 b1, .int .i64 b2] 39)).alloc (.cells #[.int .i64 0, .int .i64 0] 32)) := ((Below.refl _ _).alloc (Nat.le_refl _) _).alloc (by simp) _
  have hne : ((e : Int) != 0) = true := by rw [bne, he]; rfl
  go_enter Tryd.func19, Tryd.ntmps19
  go_wp2_with fail
  generalize hW0 : (w.alloc (.cells #[.int .i64 a1, .int .i64 a2, .int .i64 b1, .int .i64 b2] 39)).alloc (.cells #[.int .i64 0, .int .i64 0] 32) = W0 at *
  have p2 : W0.cell? ⟨w.heap.size, 2, none⟩ = some (.int .i64 b1) := by rw [← hW0]; simp
  have p3 : W0.cell? ⟨w.heap.size, 3, none⟩ = some (.int .i64 b2) := by rw [← hW0]; simp
  have r0 : W0.cell? ⟨w.heap.size + 1, 0, none⟩ = some (.int .i64 0) := by rw [← hW0]; simp
  have r1 : W0.cell? ⟨w.heap.size + 1, 1, none⟩ = some (.int .i64 0) := by rw [← hW0]; simp
  have f0 : W0.frozen? ⟨w.heap.size + 1, 0, none⟩ = false := by rw [← hW0]; simp
  have f1 : W0.frozen? ⟨w.heap.size + 1, 1, none⟩ = false := by rw [← hW0]; simp
  clear hW0
  have z0 : w.heap.size + 1 < W0.heap.size := World.block_lt_of_cell? W0 ⟨w.heap.size + 1, 0, none⟩ r0
  refine (c1 _ hb0).mono ?_
  rintro e' w1 ⟨rfl, hb1'⟩
  have hb1 := hb0.trans (hb1'.mono hb0.size)
  replace p2 := keepB hb1' p2
  replace p3 := keepB hb1' p3
  replace r0 := keepB hb1' r0
  replace r1 := keepB hb1' r1
  replace f0 := keepF hb1' z0 f0
  replace f1 := keepF hb1' z0 f1
  replace z0 : w.heap.size + 1 < w1.heap.size := Nat.lt_of_lt_of_le z0 hb1'.size
  clear hb1'
  obtain ⟨t0, t1⟩ := put_two (.int .i64 0) (.int .i64 0) r0 r1
  have hBe : Below w.heap.size w ((w1.setCell ⟨w.heap.size + 1, 0, none⟩ (.int .i64 0)).setCell ⟨w.heap.size + 1, 1, none⟩ (.int .i64 0)) := (hb1.setCell (p := ⟨w.heap.size + 1, 0, none⟩) (by simp) _).setCell (p := ⟨w.heap.size + 1, 1, none⟩) (by simp) _
  have HBE := Lib.hid hBe
  clear hBe
  go_wp2
  refine bodyPost_ret (v := .tuple #[.agg #[.int .i64 0, .int .i64 0], .int .i64 e]) (by simp [results, Tryd.f19, go_sem, t0, t1]) rfl ⟨rfl, HBE.out⟩

set_option maxHeartbeats 1600000 in
theorem span_e2 (p : Option Addr) (a1 a2 b1 b2 k j e : Int) (w : World) (c1 : OffSays Tryd.prog 15 (.pointer p) a1 a2 w k 0) (c2 : OffSays Tryd.prog 15 (.pointer p) b1 b2 w j e) (he : ((e : Int) == 0) = false) :
    Calls Tryd.prog 19 #[.pointer p, .agg #[.int .i64 a1, .int .i64 a2, .int .i64 b1, .int .i64 b2]] w fun e' w' => e' = .returned (.tuple #[.agg #[.int .i64 0, .int .i64 0], .int .i64 e]) ∧ Below w.heap.size w w' := by
  have hb0 : Below w.heap.size w ((w.alloc (.cells #[.int .i64 a1, .int .i64 a2, .int .i64 b1, .int .i64 b2] 39)).alloc (.cells #[.int .i64 0, .int .i64 0] 32)) := ((Below.refl _ _).alloc (Nat.le_refl _) _).alloc (by simp) _
  have hne : ((e : Int) != 0) = true := by rw [bne, he]; rfl
  go_enter Tryd.func19, Tryd.ntmps19
  go_wp2_with fail
  generalize hW0 : (w.alloc (.cells #[.int .i64 a1, .int .i64 a2, .int .i64 b1, .int .i64 b2] 39)).alloc (.cells #[.int .i64 0, .int .i64 0] 32) = W0 at *
  have p2 : W0.cell? ⟨w.heap.size, 2, none⟩ = some (.int .i64 b1) := by rw [← hW0]; simp
  have p3 : W0.cell? ⟨w.heap.size, 3, none⟩ = some (.int .i64 b2) := by rw [← hW0]; simp
  have r0 : W0.cell? ⟨w.heap.size + 1, 0, none⟩ = some (.int .i64 0) := by rw [← hW0]; simp
  have r1 : W0.cell? ⟨w.heap.size + 1, 1, none⟩ = some (.int .i64 0) := by rw [← hW0]; simp
  have f0 : W0.frozen? ⟨w.heap.size + 1, 0, none⟩ = false := by rw [← hW0]; simp
  have f1 : W0.frozen? ⟨w.heap.size + 1, 1, none⟩ = false := by rw [← hW0]; simp
  clear hW0
  have z0 : w.heap.size + 1 < W0.heap.size := World.block_lt_of_cell? W0 ⟨w.heap.size + 1, 0, none⟩ r0
  refine (c1 _ hb0).mono ?_
  rintro e' w1 ⟨rfl, hb1'⟩
  have hb1 := hb0.trans (hb1'.mono hb0.size)
  replace p2 := keepB hb1' p2
  replace p3 := keepB hb1' p3
  replace r0 := keepB hb1' r0
  replace r1 := keepB hb1' r1
  replace f0 := keepF hb1' z0 f0
  replace f1 := keepF hb1' z0 f1
  replace z0 : w.heap.size + 1 < w1.heap.size := Nat.lt_of_lt_of_le z0 hb1'.size
  clear hb1'
  go_wp2_with fail
  refine (c2 _ hb1).mono ?_
  rintro e' w2 ⟨rfl, hb2'⟩
  have hb2 := hb1.trans (hb2'.mono hb1.size)
  replace r0 := keepB hb2' r0
  replace r1 := keepB hb2' r1
  replace f0 := keepF hb2' z0 f0
  replace f1 := keepF hb2' z0 f1
  clear hb2' p2 p3
  obtain ⟨t0, t1⟩ := put_two (.int .i64 0) (.int .i64 0) r0 r1
  have hBe : Below w.heap.size w ((w2.setCell ⟨w.heap.size + 1, 0, none⟩ (.int .i64 0)).setCell ⟨w.heap.size + 1, 1, none⟩ (.int .i64 0)) := (hb2.setCell (p := ⟨w.heap.size + 1, 0, none⟩) (by simp) _).setCell (p := ⟨w.heap.size + 1, 1, none⟩) (by simp) _
  have HBE := Lib.hid hBe
  clear hBe
  go_wp2
  refine bodyPost_ret (v := .tuple #[.agg #[.int .i64 0, .int .i64 0], .int .i64 e]) (by simp [results, Tryd.f19, go_sem, t0, t1]) rfl ⟨rfl, HBE.out⟩

set_option maxHeartbeats 1600000 in
theorem span_rev (p : Option Addr) (a1 a2 b1 b2 k j : Int) (w : World) (c1 : OffSays Tryd.prog 15 (.pointer p) a1 a2 w k 0) (c2 : OffSays Tryd.prog 15 (.pointer p) b1 b2 w j 0) (h : j < k) :
    Calls Tryd.prog 19 #[.pointer p, .agg #[.int .i64 a1, .int .i64 a2, .int .i64 b1, .int .i64 b2]] w fun e' w' => e' = .returned (.tuple #[.agg #[.int .i64 0, .int .i64 0], .int .i64 60]) ∧ Below w.heap.size w w' := by
  have hb0 : Below w.heap.size w ((w.alloc (.cells #[.int .i64 a1, .int .i64 a2, .int .i64 b1, .int .i64 b2] 39)).alloc (.cells #[.int .i64 0, .int .i64 0] 32)) := ((Below.refl _ _).alloc (Nat.le_refl _) _).alloc (by simp) _
  go_enter Tryd.func19, Tryd.ntmps19
  go_wp2_with fail
  generalize hW0 : (w.alloc (.cells #[.int .i64 a1, .int .i64 a2, .int .i64 b1, .int .i64 b2] 39)).alloc (.cells #[.int .i64 0, .int .i64 0] 32) = W0 at *
  have p2 : W0.cell? ⟨w.heap.size, 2, none⟩ = some (.int .i64 b1) := by rw [← hW0]; simp
  have p3 : W0.cell? ⟨w.heap.size, 3, none⟩ = some (.int .i64 b2) := by rw [← hW0]; simp
  have r0 : W0.cell? ⟨w.heap.size + 1, 0, none⟩ = some (.int .i64 0) := by rw [← hW0]; simp
  have r1 : W0.cell? ⟨w.heap.size + 1, 1, none⟩ = some (.int .i64 0) := by rw [← hW0]; simp
  have f0 : W0.frozen? ⟨w.heap.size + 1, 0, none⟩ = false := by rw [← hW0]; simp
  have f1 : W0.frozen? ⟨w.heap.size + 1, 1, none⟩ = false := by rw [← hW0]; simp
  clear hW0
  have z0 : w.heap.size + 1 < W0.heap.size := World.block_lt_of_cell? W0 ⟨w.heap.size + 1, 0, none⟩ r0
  refine (c1 _ hb0).mono ?_
  rintro e' w1 ⟨rfl, hb1'⟩
  have hb1 := hb0.trans (hb1'.mono hb0.size)
  replace p2 := keepB hb1' p2
  replace p3 := keepB hb1' p3
  replace r0 := keepB hb1' r0
  replace r1 := keepB hb1' r1
  replace f0 := keepF hb1' z0 f0
  replace f1 := keepF hb1' z0 f1
  replace z0 : w.heap.size + 1 < w1.heap.size := Nat.lt_of_lt_of_le z0 hb1'.size
  clear hb1'
  go_wp2_with fail
  refine (c2 _ hb1).mono ?_
  rintro e' w2 ⟨rfl, hb2'⟩
  have hb2 := hb1.trans (hb2'.mono hb1.size)
  replace r0 := keepB hb2' r0
  replace r1 := keepB hb2' r1
  replace f0 := keepF hb2' z0 f0
  replace f1 := keepF hb2' z0 f1
  clear hb2' p2 p3
  obtain ⟨t0, t1⟩ := put_two (.int .i64 0) (.int .i64 0) r0 r1
  have hBe : Below w.heap.size w ((w2.setCell ⟨w.heap.size + 1, 0, none⟩ (.int .i64 0)).setCell ⟨w.heap.size + 1, 1, none⟩ (.int .i64 0)) := (hb2.setCell (p := ⟨w.heap.size + 1, 0, none⟩) (by simp) _).setCell (p := ⟨w.heap.size + 1, 1, none⟩) (by simp) _
  have HBE := Lib.hid hBe
  clear hBe
  go_wp2
  refine bodyPost_ret (v := .tuple #[.agg #[.int .i64 0, .int .i64 0], .int .i64 60]) (by simp [results, Tryd.f19, go_sem, t0, t1]) rfl ⟨rfl, HBE.out⟩

set_option maxHeartbeats 1600000 in
theorem span_ok (p : Option Addr) (a1 a2 b1 b2 k j : Int) (w : World) (c1 : OffSays Tryd.prog 15 (.pointer p) a1 a2 w k 0) (c2 : OffSays Tryd.prog 15 (.pointer p) b1 b2 w j 0) (h : k ≤ j) :
    Calls Tryd.prog 19 #[.pointer p, .agg #[.int .i64 a1, .int .i64 a2, .int .i64 b1, .int .i64 b2]] w fun e' w' => e' = .returned (.tuple #[.agg #[.int .i64 k, .int .i64 j], .int .i64 0]) ∧ Below w.heap.size w w' := by
  have hb0 : Below w.heap.size w ((w.alloc (.cells #[.int .i64 a1, .int .i64 a2, .int .i64 b1, .int .i64 b2] 39)).alloc (.cells #[.int .i64 0, .int .i64 0] 32)) := ((Below.refl _ _).alloc (Nat.le_refl _) _).alloc (by simp) _
  go_enter Tryd.func19, Tryd.ntmps19
  go_wp2_with fail
  generalize hW0 : (w.alloc (.cells #[.int .i64 a1, .int .i64 a2, .int .i64 b1, .int .i64 b2] 39)).alloc (.cells #[.int .i64 0, .int .i64 0] 32) = W0 at *
  have p2 : W0.cell? ⟨w.heap.size, 2, none⟩ = some (.int .i64 b1) := by rw [← hW0]; simp
  have p3 : W0.cell? ⟨w.heap.size, 3, none⟩ = some (.int .i64 b2) := by rw [← hW0]; simp
  have r0 : W0.cell? ⟨w.heap.size + 1, 0, none⟩ = some (.int .i64 0) := by rw [← hW0]; simp
  have r1 : W0.cell? ⟨w.heap.size + 1, 1, none⟩ = some (.int .i64 0) := by rw [← hW0]; simp
  have f0 : W0.frozen? ⟨w.heap.size + 1, 0, none⟩ = false := by rw [← hW0]; simp
  have f1 : W0.frozen? ⟨w.heap.size + 1, 1, none⟩ = false := by rw [← hW0]; simp
  clear hW0
  have z0 : w.heap.size + 1 < W0.heap.size := World.block_lt_of_cell? W0 ⟨w.heap.size + 1, 0, none⟩ r0
  refine (c1 _ hb0).mono ?_
  rintro e' w1 ⟨rfl, hb1'⟩
  have hb1 := hb0.trans (hb1'.mono hb0.size)
  replace p2 := keepB hb1' p2
  replace p3 := keepB hb1' p3
  replace r0 := keepB hb1' r0
  replace r1 := keepB hb1' r1
  replace f0 := keepF hb1' z0 f0
  replace f1 := keepF hb1' z0 f1
  replace z0 : w.heap.size + 1 < w1.heap.size := Nat.lt_of_lt_of_le z0 hb1'.size
  clear hb1'
  go_wp2_with fail
  refine (c2 _ hb1).mono ?_
  rintro e' w2 ⟨rfl, hb2'⟩
  have hb2 := hb1.trans (hb2'.mono hb1.size)
  replace r0 := keepB hb2' r0
  replace r1 := keepB hb2' r1
  replace f0 := keepF hb2' z0 f0
  replace f1 := keepF hb2' z0 f1
  clear hb2' p2 p3
  obtain ⟨t0, t1⟩ := put_two (.int .i64 k) (.int .i64 j) r0 r1
  have hBe : Below w.heap.size w ((w2.setCell ⟨w.heap.size + 1, 0, none⟩ (.int .i64 k)).setCell ⟨w.heap.size + 1, 1, none⟩ (.int .i64 j)) := (hb2.setCell (p := ⟨w.heap.size + 1, 0, none⟩) (by simp) _).setCell (p := ⟨w.heap.size + 1, 1, none⟩) (by simp) _
  have HBE := Lib.hid hBe
  clear hBe
  go_wp2
  refine bodyPost_ret (v := .tuple #[.agg #[.int .i64 k, .int .i64 j], .int .i64 0]) (by simp [results, Tryd.f19, go_sem, t0, t1]) rfl ⟨rfl, HBE.out⟩

end Go.Proofs.YtfhkahnajjbohaaDoor
