/-
  Range, over what Pos answers.
-/
import Derived.Test.YtfhkahnajjbohaaDoorSP
namespace Go.Proofs.YtfhkahnajjbohaaDoor
open Go.RowKit Go.Shelf

/-- What a call of Pos answers, whenever it is made. -/
def PosSays (P : Program) (f : FuncId) (r : Value) (off : Int) (w : World) (i u e : Int) : Prop :=
  ∀ W, Below w.heap.size w W → Calls P f #[r, .int .i64 off] W fun e' W' => e' = .returned (.tuple #[.agg #[.int .i64 i, .int .i64 u], .int .i64 e]) ∧ Below W.heap.size W W'
/-- Four cells, set one after the other. -/
def set4 (w : World) (n : Nat) (x0 x1 x2 x3 : Value) : World := (((w.setCell ⟨n, 0, none⟩ x0).setCell ⟨n, 1, none⟩ x1).setCell ⟨n, 2, none⟩ x2).setCell ⟨n, 3, none⟩ x3
theorem put_four {w : World} {n : Nat} {u0 u1 u2 u3 : Value} (x0 x1 x2 x3 : Value) (h0 : w.cell? ⟨n, 0, none⟩ = some u0) (h1 : w.cell? ⟨n, 1, none⟩ = some u1) (h2 : w.cell? ⟨n, 2, none⟩ = some u2) (h3 : w.cell? ⟨n, 3, none⟩ = some u3) :
    (set4 w n x0 x1 x2 x3).cell? ⟨n, 0, none⟩ = some x0 ∧ (set4 w n x0 x1 x2 x3).cell? ⟨n, 1, none⟩ = some x1 ∧ (set4 w n x0 x1 x2 x3).cell? ⟨n, 2, none⟩ = some x2 ∧ (set4 w n x0 x1 x2 x3).cell? ⟨n, 3, none⟩ = some x3 := by
  have ne : ∀ {W : World} {a b : Nat} {v : Value}, a ≠ b → (W.setCell ⟨n, a, none⟩ v).cell? ⟨n, b, none⟩ = W.cell? ⟨n, b, none⟩ := fun h => World.cell?_setCell_other _ _ _ _ (by intro e; injection e with _ e2; exact h e2)
  have a0 : (w.setCell ⟨n, 0, none⟩ x0).cell? ⟨n, 0, none⟩ = some x0 := World.cell?_setCell_same _ _ _ h0
  have a1 : (w.setCell ⟨n, 0, none⟩ x0).cell? ⟨n, 1, none⟩ = some u1 := (ne (by decide)).trans h1
  have a2 : (w.setCell ⟨n, 0, none⟩ x0).cell? ⟨n, 2, none⟩ = some u2 := (ne (by decide)).trans h2
  have a3 : (w.setCell ⟨n, 0, none⟩ x0).cell? ⟨n, 3, none⟩ = some u3 := (ne (by decide)).trans h3
  have b1 : ((w.setCell ⟨n, 0, none⟩ x0).setCell ⟨n, 1, none⟩ x1).cell? ⟨n, 1, none⟩ = some x1 := World.cell?_setCell_same _ _ _ a1
  have c2 : (((w.setCell ⟨n, 0, none⟩ x0).setCell ⟨n, 1, none⟩ x1).setCell ⟨n, 2, none⟩ x2).cell? ⟨n, 2, none⟩ = some x2 := World.cell?_setCell_same _ _ _ ((ne (by decide)).trans a2)
  have d3 : (((w.setCell ⟨n, 0, none⟩ x0).setCell ⟨n, 1, none⟩ x1).setCell ⟨n, 2, none⟩ x2).cell? ⟨n, 3, none⟩ = some u3 := (ne (by decide)).trans ((ne (by decide)).trans a3)
  exact ⟨(ne (by decide)).trans ((ne (by decide)).trans ((ne (by decide)).trans a0)), (ne (by decide)).trans ((ne (by decide)).trans b1), (ne (by decide)).trans c2, World.cell?_setCell_same _ _ _ d3⟩
theorem below_set4 {B : Nat} {w W : World} (hb : Below B w W) (n : Nat) (hn : B ≤ n) (x0 x1 x2 x3 : Value) : Below B w (set4 W n x0 x1 x2 x3) :=
  (((hb.setCell (p := ⟨n, 0, none⟩) hn _).setCell (p := ⟨n, 1, none⟩) hn _).setCell (p := ⟨n, 2, none⟩) hn _).setCell (p := ⟨n, 3, none⟩) hn _

set_option maxHeartbeats 1600000 in
theorem range_e1 (p : Option Addr) (s0 s1 i1 u1 e : Int) (w : World) (c1 : PosSays Tryd.prog 17 (.pointer p) s0 w i1 u1 e) (he : ((e : Int) == 0) = false) :
    Calls Tryd.prog 21 #[.pointer p, .agg #[.int .i64 s0, .int .i64 s1]] w fun e' w' => e' = .returned (.tuple #[.agg #[.int .i64 0, .int .i64 0, .int .i64 0, .int .i64 0], .int .i64 e]) ∧ Below w.heap.size w w' := by
  have hb0 : Below w.heap.size w ((w.alloc (.cells #[.int .i64 s0, .int .i64 s1] 32)).alloc (.cells #[.int .i64 0, .int .i64 0, .int .i64 0, .int .i64 0] 39)) := ((Below.refl _ _).alloc (Nat.le_refl _) _).alloc (by simp) _
  have hne : ((e : Int) != 0) = true := by rw [bne, he]; rfl
  go_enter Tryd.func21, Tryd.ntmps21
  go_wp2_with fail
  generalize hW0 : (w.alloc (.cells #[.int .i64 s0, .int .i64 s1] 32)).alloc (.cells #[.int .i64 0, .int .i64 0, .int .i64 0, .int .i64 0] 39) = W0 at *
  have p0 : W0.cell? ⟨w.heap.size, 0, none⟩ = some (.int .i64 s0) := by rw [← hW0]; simp
  have p1 : W0.cell? ⟨w.heap.size, 1, none⟩ = some (.int .i64 s1) := by rw [← hW0]; simp
  have r0 : W0.cell? ⟨w.heap.size + 1, 0, none⟩ = some (.int .i64 0) := by rw [← hW0]; simp
  have f0 : W0.frozen? ⟨w.heap.size + 1, 0, none⟩ = false := by rw [← hW0]; simp
  have r1 : W0.cell? ⟨w.heap.size + 1, 1, none⟩ = some (.int .i64 0) := by rw [← hW0]; simp
  have f1 : W0.frozen? ⟨w.heap.size + 1, 1, none⟩ = false := by rw [← hW0]; simp
  have r2 : W0.cell? ⟨w.heap.size + 1, 2, none⟩ = some (.int .i64 0) := by rw [← hW0]; simp
  have f2 : W0.frozen? ⟨w.heap.size + 1, 2, none⟩ = false := by rw [← hW0]; simp
  have r3 : W0.cell? ⟨w.heap.size + 1, 3, none⟩ = some (.int .i64 0) := by rw [← hW0]; simp
  have f3 : W0.frozen? ⟨w.heap.size + 1, 3, none⟩ = false := by rw [← hW0]; simp
  clear hW0
  have z0 : w.heap.size + 1 < W0.heap.size := World.block_lt_of_cell? W0 ⟨w.heap.size + 1, 0, none⟩ r0
  refine (c1 _ hb0).mono ?_
  rintro e' w1 ⟨rfl, hb1'⟩
  have hb1 := hb0.trans (hb1'.mono hb0.size)
  replace p0 := keepB hb1' p0
  replace p1 := keepB hb1' p1
  replace r0 := keepB hb1' r0
  replace r1 := keepB hb1' r1
  replace r2 := keepB hb1' r2
  replace r3 := keepB hb1' r3
  replace f0 := keepF hb1' z0 f0
  replace f1 := keepF hb1' z0 f1
  replace f2 := keepF hb1' z0 f2
  replace f3 := keepF hb1' z0 f3
  replace z0 : w.heap.size + 1 < w1.heap.size := Nat.lt_of_lt_of_le z0 hb1'.size
  clear hb1'
  obtain ⟨v1, hv1⟩ : ∃ v, w1.alloc (.cells #[.int .i64 i1, .int .i64 u1] 37) = v := ⟨_, rfl⟩
  have bv1 : Below w.heap.size w v1 := by rw [← hv1]; exact hb1.alloc hb1.size _
  have gv1 : Below w1.heap.size w1 v1 := by rw [← hv1]; exact (Below.refl _ _).alloc (Nat.le_refl _) _
  replace p0 := keepB gv1 p0
  replace p1 := keepB gv1 p1
  replace r0 := keepB gv1 r0
  replace r1 := keepB gv1 r1
  replace r2 := keepB gv1 r2
  replace r3 := keepB gv1 r3
  replace f0 := keepF gv1 z0 f0
  replace f1 := keepF gv1 z0 f1
  replace f2 := keepF gv1 z0 f2
  replace f3 := keepF gv1 z0 f3
  replace z0 : w.heap.size + 1 < v1.heap.size := Nat.lt_of_lt_of_le z0 gv1.size
  have q0 : v1.cell? ⟨w1.heap.size, 0, none⟩ = some (.int .i64 i1) := by rw [← hv1]; simp
  have q1 : v1.cell? ⟨w1.heap.size, 1, none⟩ = some (.int .i64 u1) := by rw [← hv1]; simp
  clear gv1
  obtain ⟨t0, t1, t2, t3⟩ := put_four (.int .i64 0) (.int .i64 0) (.int .i64 0) (.int .i64 0) r0 r1 r2 r3
  have HBE := Lib.hid (below_set4 bv1 (w.heap.size + 1) (by omega) (.int .i64 0) (.int .i64 0) (.int .i64 0) (.int .i64 0))
  unfold set4 at t0 t1 t2 t3 HBE
  go_wp2
  refine bodyPost_ret (v := .tuple #[.agg #[.int .i64 0, .int .i64 0, .int .i64 0, .int .i64 0], .int .i64 e]) (by simp [results, Tryd.f21, go_sem, t0, t1, t2, t3]) rfl ⟨rfl, HBE.out⟩

set_option maxHeartbeats 1600000 in
theorem range_e2 (p : Option Addr) (s0 s1 i1 u1 i2 u2 e : Int) (w : World) (c1 : PosSays Tryd.prog 17 (.pointer p) s0 w i1 u1 0) (c2 : PosSays Tryd.prog 17 (.pointer p) s1 w i2 u2 e) (he : ((e : Int) == 0) = false) :
    Calls Tryd.prog 21 #[.pointer p, .agg #[.int .i64 s0, .int .i64 s1]] w fun e' w' => e' = .returned (.tuple #[.agg #[.int .i64 0, .int .i64 0, .int .i64 0, .int .i64 0], .int .i64 e]) ∧ Below w.heap.size w w' := by
  have hb0 : Below w.heap.size w ((w.alloc (.cells #[.int .i64 s0, .int .i64 s1] 32)).alloc (.cells #[.int .i64 0, .int .i64 0, .int .i64 0, .int .i64 0] 39)) := ((Below.refl _ _).alloc (Nat.le_refl _) _).alloc (by simp) _
  have hne : ((e : Int) != 0) = true := by rw [bne, he]; rfl
  go_enter Tryd.func21, Tryd.ntmps21
  go_wp2_with fail
  generalize hW0 : (w.alloc (.cells #[.int .i64 s0, .int .i64 s1] 32)).alloc (.cells #[.int .i64 0, .int .i64 0, .int .i64 0, .int .i64 0] 39) = W0 at *
  have p0 : W0.cell? ⟨w.heap.size, 0, none⟩ = some (.int .i64 s0) := by rw [← hW0]; simp
  have p1 : W0.cell? ⟨w.heap.size, 1, none⟩ = some (.int .i64 s1) := by rw [← hW0]; simp
  have r0 : W0.cell? ⟨w.heap.size + 1, 0, none⟩ = some (.int .i64 0) := by rw [← hW0]; simp
  have f0 : W0.frozen? ⟨w.heap.size + 1, 0, none⟩ = false := by rw [← hW0]; simp
  have r1 : W0.cell? ⟨w.heap.size + 1, 1, none⟩ = some (.int .i64 0) := by rw [← hW0]; simp
  have f1 : W0.frozen? ⟨w.heap.size + 1, 1, none⟩ = false := by rw [← hW0]; simp
  have r2 : W0.cell? ⟨w.heap.size + 1, 2, none⟩ = some (.int .i64 0) := by rw [← hW0]; simp
  have f2 : W0.frozen? ⟨w.heap.size + 1, 2, none⟩ = false := by rw [← hW0]; simp
  have r3 : W0.cell? ⟨w.heap.size + 1, 3, none⟩ = some (.int .i64 0) := by rw [← hW0]; simp
  have f3 : W0.frozen? ⟨w.heap.size + 1, 3, none⟩ = false := by rw [← hW0]; simp
  clear hW0
  have z0 : w.heap.size + 1 < W0.heap.size := World.block_lt_of_cell? W0 ⟨w.heap.size + 1, 0, none⟩ r0
  refine (c1 _ hb0).mono ?_
  rintro e' w1 ⟨rfl, hb1'⟩
  have hb1 := hb0.trans (hb1'.mono hb0.size)
  replace p0 := keepB hb1' p0
  replace p1 := keepB hb1' p1
  replace r0 := keepB hb1' r0
  replace r1 := keepB hb1' r1
  replace r2 := keepB hb1' r2
  replace r3 := keepB hb1' r3
  replace f0 := keepF hb1' z0 f0
  replace f1 := keepF hb1' z0 f1
  replace f2 := keepF hb1' z0 f2
  replace f3 := keepF hb1' z0 f3
  replace z0 : w.heap.size + 1 < w1.heap.size := Nat.lt_of_lt_of_le z0 hb1'.size
  clear hb1'
  obtain ⟨v1, hv1⟩ : ∃ v, w1.alloc (.cells #[.int .i64 i1, .int .i64 u1] 37) = v := ⟨_, rfl⟩
  have bv1 : Below w.heap.size w v1 := by rw [← hv1]; exact hb1.alloc hb1.size _
  have gv1 : Below w1.heap.size w1 v1 := by rw [← hv1]; exact (Below.refl _ _).alloc (Nat.le_refl _) _
  replace p0 := keepB gv1 p0
  replace p1 := keepB gv1 p1
  replace r0 := keepB gv1 r0
  replace r1 := keepB gv1 r1
  replace r2 := keepB gv1 r2
  replace r3 := keepB gv1 r3
  replace f0 := keepF gv1 z0 f0
  replace f1 := keepF gv1 z0 f1
  replace f2 := keepF gv1 z0 f2
  replace f3 := keepF gv1 z0 f3
  replace z0 : w.heap.size + 1 < v1.heap.size := Nat.lt_of_lt_of_le z0 gv1.size
  have q0 : v1.cell? ⟨w1.heap.size, 0, none⟩ = some (.int .i64 i1) := by rw [← hv1]; simp
  have q1 : v1.cell? ⟨w1.heap.size, 1, none⟩ = some (.int .i64 u1) := by rw [← hv1]; simp
  clear gv1
  go_wp2_with fail
  refine (c2 _ bv1).mono ?_
  rintro e' w2 ⟨rfl, hb2'⟩
  have hb2 := bv1.trans (hb2'.mono bv1.size)
  replace p0 := keepB hb2' p0
  replace p1 := keepB hb2' p1
  replace q0 := keepB hb2' q0
  replace q1 := keepB hb2' q1
  replace r0 := keepB hb2' r0
  replace r1 := keepB hb2' r1
  replace r2 := keepB hb2' r2
  replace r3 := keepB hb2' r3
  replace f0 := keepF hb2' z0 f0
  replace f1 := keepF hb2' z0 f1
  replace f2 := keepF hb2' z0 f2
  replace f3 := keepF hb2' z0 f3
  replace z0 : w.heap.size + 1 < w2.heap.size := Nat.lt_of_lt_of_le z0 hb2'.size
  clear hb2' hv1
  obtain ⟨v2, hv2⟩ : ∃ v, w2.alloc (.cells #[.int .i64 i2, .int .i64 u2] 37) = v := ⟨_, rfl⟩
  have bv2 : Below w.heap.size w v2 := by rw [← hv2]; exact hb2.alloc hb2.size _
  have gv2 : Below w2.heap.size w2 v2 := by rw [← hv2]; exact (Below.refl _ _).alloc (Nat.le_refl _) _
  replace p0 := keepB gv2 p0
  replace p1 := keepB gv2 p1
  replace q0 := keepB gv2 q0
  replace q1 := keepB gv2 q1
  replace r0 := keepB gv2 r0
  replace r1 := keepB gv2 r1
  replace r2 := keepB gv2 r2
  replace r3 := keepB gv2 r3
  replace f0 := keepF gv2 z0 f0
  replace f1 := keepF gv2 z0 f1
  replace f2 := keepF gv2 z0 f2
  replace f3 := keepF gv2 z0 f3
  replace z0 : w.heap.size + 1 < v2.heap.size := Nat.lt_of_lt_of_le z0 gv2.size
  have k0 : v2.cell? ⟨w2.heap.size, 0, none⟩ = some (.int .i64 i2) := by rw [← hv2]; simp
  have k1 : v2.cell? ⟨w2.heap.size, 1, none⟩ = some (.int .i64 u2) := by rw [← hv2]; simp
  clear gv2
  obtain ⟨t0, t1, t2, t3⟩ := put_four (.int .i64 0) (.int .i64 0) (.int .i64 0) (.int .i64 0) r0 r1 r2 r3
  have HBE := Lib.hid (below_set4 bv2 (w.heap.size + 1) (by omega) (.int .i64 0) (.int .i64 0) (.int .i64 0) (.int .i64 0))
  unfold set4 at t0 t1 t2 t3 HBE
  go_wp2
  refine bodyPost_ret (v := .tuple #[.agg #[.int .i64 0, .int .i64 0, .int .i64 0, .int .i64 0], .int .i64 e]) (by simp [results, Tryd.f21, go_sem, t0, t1, t2, t3]) rfl ⟨rfl, HBE.out⟩

set_option maxHeartbeats 1600000 in
theorem range_rev (p : Option Addr) (s0 s1 i1 u1 i2 u2 : Int) (w : World) (c1 : PosSays Tryd.prog 17 (.pointer p) s0 w i1 u1 0) (c2 : PosSays Tryd.prog 17 (.pointer p) s1 w i2 u2 0) (h : s1 < s0) :
    Calls Tryd.prog 21 #[.pointer p, .agg #[.int .i64 s0, .int .i64 s1]] w fun e' w' => e' = .returned (.tuple #[.agg #[.int .i64 0, .int .i64 0, .int .i64 0, .int .i64 0], .int .i64 1]) ∧ Below w.heap.size w w' := by
  have hb0 : Below w.heap.size w ((w.alloc (.cells #[.int .i64 s0, .int .i64 s1] 32)).alloc (.cells #[.int .i64 0, .int .i64 0, .int .i64 0, .int .i64 0] 39)) := ((Below.refl _ _).alloc (Nat.le_refl _) _).alloc (by simp) _
  go_enter Tryd.func21, Tryd.ntmps21
  go_wp2_with fail
  generalize hW0 : (w.alloc (.cells #[.int .i64 s0, .int .i64 s1] 32)).alloc (.cells #[.int .i64 0, .int .i64 0, .int .i64 0, .int .i64 0] 39) = W0 at *
  have p0 : W0.cell? ⟨w.heap.size, 0, none⟩ = some (.int .i64 s0) := by rw [← hW0]; simp
  have p1 : W0.cell? ⟨w.heap.size, 1, none⟩ = some (.int .i64 s1) := by rw [← hW0]; simp
  have r0 : W0.cell? ⟨w.heap.size + 1, 0, none⟩ = some (.int .i64 0) := by rw [← hW0]; simp
  have f0 : W0.frozen? ⟨w.heap.size + 1, 0, none⟩ = false := by rw [← hW0]; simp
  have r1 : W0.cell? ⟨w.heap.size + 1, 1, none⟩ = some (.int .i64 0) := by rw [← hW0]; simp
  have f1 : W0.frozen? ⟨w.heap.size + 1, 1, none⟩ = false := by rw [← hW0]; simp
  have r2 : W0.cell? ⟨w.heap.size + 1, 2, none⟩ = some (.int .i64 0) := by rw [← hW0]; simp
  have f2 : W0.frozen? ⟨w.heap.size + 1, 2, none⟩ = false := by rw [← hW0]; simp
  have r3 : W0.cell? ⟨w.heap.size + 1, 3, none⟩ = some (.int .i64 0) := by rw [← hW0]; simp
  have f3 : W0.frozen? ⟨w.heap.size + 1, 3, none⟩ = false := by rw [← hW0]; simp
  clear hW0
  have z0 : w.heap.size + 1 < W0.heap.size := World.block_lt_of_cell? W0 ⟨w.heap.size + 1, 0, none⟩ r0
  refine (c1 _ hb0).mono ?_
  rintro e' w1 ⟨rfl, hb1'⟩
  have hb1 := hb0.trans (hb1'.mono hb0.size)
  replace p0 := keepB hb1' p0
  replace p1 := keepB hb1' p1
  replace r0 := keepB hb1' r0
  replace r1 := keepB hb1' r1
  replace r2 := keepB hb1' r2
  replace r3 := keepB hb1' r3
  replace f0 := keepF hb1' z0 f0
  replace f1 := keepF hb1' z0 f1
  replace f2 := keepF hb1' z0 f2
  replace f3 := keepF hb1' z0 f3
  replace z0 : w.heap.size + 1 < w1.heap.size := Nat.lt_of_lt_of_le z0 hb1'.size
  clear hb1'
  obtain ⟨v1, hv1⟩ : ∃ v, w1.alloc (.cells #[.int .i64 i1, .int .i64 u1] 37) = v := ⟨_, rfl⟩
  have bv1 : Below w.heap.size w v1 := by rw [← hv1]; exact hb1.alloc hb1.size _
  have gv1 : Below w1.heap.size w1 v1 := by rw [← hv1]; exact (Below.refl _ _).alloc (Nat.le_refl _) _
  replace p0 := keepB gv1 p0
  replace p1 := keepB gv1 p1
  replace r0 := keepB gv1 r0
  replace r1 := keepB gv1 r1
  replace r2 := keepB gv1 r2
  replace r3 := keepB gv1 r3
  replace f0 := keepF gv1 z0 f0
  replace f1 := keepF gv1 z0 f1
  replace f2 := keepF gv1 z0 f2
  replace f3 := keepF gv1 z0 f3
  replace z0 : w.heap.size + 1 < v1.heap.size := Nat.lt_of_lt_of_le z0 gv1.size
  have q0 : v1.cell? ⟨w1.heap.size, 0, none⟩ = some (.int .i64 i1) := by rw [← hv1]; simp
  have q1 : v1.cell? ⟨w1.heap.size, 1, none⟩ = some (.int .i64 u1) := by rw [← hv1]; simp
  clear gv1
  go_wp2_with fail
  refine (c2 _ bv1).mono ?_
  rintro e' w2 ⟨rfl, hb2'⟩
  have hb2 := bv1.trans (hb2'.mono bv1.size)
  replace p0 := keepB hb2' p0
  replace p1 := keepB hb2' p1
  replace q0 := keepB hb2' q0
  replace q1 := keepB hb2' q1
  replace r0 := keepB hb2' r0
  replace r1 := keepB hb2' r1
  replace r2 := keepB hb2' r2
  replace r3 := keepB hb2' r3
  replace f0 := keepF hb2' z0 f0
  replace f1 := keepF hb2' z0 f1
  replace f2 := keepF hb2' z0 f2
  replace f3 := keepF hb2' z0 f3
  replace z0 : w.heap.size + 1 < w2.heap.size := Nat.lt_of_lt_of_le z0 hb2'.size
  clear hb2' hv1
  obtain ⟨v2, hv2⟩ : ∃ v, w2.alloc (.cells #[.int .i64 i2, .int .i64 u2] 37) = v := ⟨_, rfl⟩
  have bv2 : Below w.heap.size w v2 := by rw [← hv2]; exact hb2.alloc hb2.size _
  have gv2 : Below w2.heap.size w2 v2 := by rw [← hv2]; exact (Below.refl _ _).alloc (Nat.le_refl _) _
  replace p0 := keepB gv2 p0
  replace p1 := keepB gv2 p1
  replace q0 := keepB gv2 q0
  replace q1 := keepB gv2 q1
  replace r0 := keepB gv2 r0
  replace r1 := keepB gv2 r1
  replace r2 := keepB gv2 r2
  replace r3 := keepB gv2 r3
  replace f0 := keepF gv2 z0 f0
  replace f1 := keepF gv2 z0 f1
  replace f2 := keepF gv2 z0 f2
  replace f3 := keepF gv2 z0 f3
  replace z0 : w.heap.size + 1 < v2.heap.size := Nat.lt_of_lt_of_le z0 gv2.size
  have k0 : v2.cell? ⟨w2.heap.size, 0, none⟩ = some (.int .i64 i2) := by rw [← hv2]; simp
  have k1 : v2.cell? ⟨w2.heap.size, 1, none⟩ = some (.int .i64 u2) := by rw [← hv2]; simp
  clear gv2
  obtain ⟨t0, t1, t2, t3⟩ := put_four (.int .i64 0) (.int .i64 0) (.int .i64 0) (.int .i64 0) r0 r1 r2 r3
  have HBE := Lib.hid (below_set4 bv2 (w.heap.size + 1) (by omega) (.int .i64 0) (.int .i64 0) (.int .i64 0) (.int .i64 0))
  unfold set4 at t0 t1 t2 t3 HBE
  go_wp2
  refine bodyPost_ret (v := .tuple #[.agg #[.int .i64 0, .int .i64 0, .int .i64 0, .int .i64 0], .int .i64 1]) (by simp [results, Tryd.f21, go_sem, t0, t1, t2, t3]) rfl ⟨rfl, HBE.out⟩

set_option maxHeartbeats 1600000 in
theorem range_ok (p : Option Addr) (s0 s1 i1 u1 i2 u2 : Int) (w : World) (c1 : PosSays Tryd.prog 17 (.pointer p) s0 w i1 u1 0) (c2 : PosSays Tryd.prog 17 (.pointer p) s1 w i2 u2 0) (h : s0 ≤ s1) :
    Calls Tryd.prog 21 #[.pointer p, .agg #[.int .i64 s0, .int .i64 s1]] w fun e' w' => e' = .returned (.tuple #[.agg #[.int .i64 i1, .int .i64 u1, .int .i64 i2, .int .i64 u2], .int .i64 0]) ∧ Below w.heap.size w w' := by
  have hb0 : Below w.heap.size w ((w.alloc (.cells #[.int .i64 s0, .int .i64 s1] 32)).alloc (.cells #[.int .i64 0, .int .i64 0, .int .i64 0, .int .i64 0] 39)) := ((Below.refl _ _).alloc (Nat.le_refl _) _).alloc (by simp) _
  go_enter Tryd.func21, Tryd.ntmps21
  go_wp2_with fail
  generalize hW0 : (w.alloc (.cells #[.int .i64 s0, .int .i64 s1] 32)).alloc (.cells #[.int .i64 0, .int .i64 0, .int .i64 0, .int .i64 0] 39) = W0 at *
  have p0 : W0.cell? ⟨w.heap.size, 0, none⟩ = some (.int .i64 s0) := by rw [← hW0]; simp
  have p1 : W0.cell? ⟨w.heap.size, 1, none⟩ = some (.int .i64 s1) := by rw [← hW0]; simp
  have r0 : W0.cell? ⟨w.heap.size + 1, 0, none⟩ = some (.int .i64 0) := by rw [← hW0]; simp
  have f0 : W0.frozen? ⟨w.heap.size + 1, 0, none⟩ = false := by rw [← hW0]; simp
  have r1 : W0.cell? ⟨w.heap.size + 1, 1, none⟩ = some (.int .i64 0) := by rw [← hW0]; simp
  have f1 : W0.frozen? ⟨w.heap.size + 1, 1, none⟩ = false := by rw [← hW0]; simp
  have r2 : W0.cell? ⟨w.heap.size + 1, 2, none⟩ = some (.int .i64 0) := by rw [← hW0]; simp
  have f2 : W0.frozen? ⟨w.heap.size + 1, 2, none⟩ = false := by rw [← hW0]; simp
  have r3 : W0.cell? ⟨w.heap.size + 1, 3, none⟩ = some (.int .i64 0) := by rw [← hW0]; simp
  have f3 : W0.frozen? ⟨w.heap.size + 1, 3, none⟩ = false := by rw [← hW0]; simp
  clear hW0
  have z0 : w.heap.size + 1 < W0.heap.size := World.block_lt_of_cell? W0 ⟨w.heap.size + 1, 0, none⟩ r0
  refine (c1 _ hb0).mono ?_
  rintro e' w1 ⟨rfl, hb1'⟩
  have hb1 := hb0.trans (hb1'.mono hb0.size)
  replace p0 := keepB hb1' p0
  replace p1 := keepB hb1' p1
  replace r0 := keepB hb1' r0
  replace r1 := keepB hb1' r1
  replace r2 := keepB hb1' r2
  replace r3 := keepB hb1' r3
  replace f0 := keepF hb1' z0 f0
  replace f1 := keepF hb1' z0 f1
  replace f2 := keepF hb1' z0 f2
  replace f3 := keepF hb1' z0 f3
  replace z0 : w.heap.size + 1 < w1.heap.size := Nat.lt_of_lt_of_le z0 hb1'.size
  clear hb1'
  obtain ⟨v1, hv1⟩ : ∃ v, w1.alloc (.cells #[.int .i64 i1, .int .i64 u1] 37) = v := ⟨_, rfl⟩
  have bv1 : Below w.heap.size w v1 := by rw [← hv1]; exact hb1.alloc hb1.size _
  have gv1 : Below w1.heap.size w1 v1 := by rw [← hv1]; exact (Below.refl _ _).alloc (Nat.le_refl _) _
  replace p0 := keepB gv1 p0
  replace p1 := keepB gv1 p1
  replace r0 := keepB gv1 r0
  replace r1 := keepB gv1 r1
  replace r2 := keepB gv1 r2
  replace r3 := keepB gv1 r3
  replace f0 := keepF gv1 z0 f0
  replace f1 := keepF gv1 z0 f1
  replace f2 := keepF gv1 z0 f2
  replace f3 := keepF gv1 z0 f3
  replace z0 : w.heap.size + 1 < v1.heap.size := Nat.lt_of_lt_of_le z0 gv1.size
  have q0 : v1.cell? ⟨w1.heap.size, 0, none⟩ = some (.int .i64 i1) := by rw [← hv1]; simp
  have q1 : v1.cell? ⟨w1.heap.size, 1, none⟩ = some (.int .i64 u1) := by rw [← hv1]; simp
  clear gv1
  go_wp2_with fail
  refine (c2 _ bv1).mono ?_
  rintro e' w2 ⟨rfl, hb2'⟩
  have hb2 := bv1.trans (hb2'.mono bv1.size)
  replace p0 := keepB hb2' p0
  replace p1 := keepB hb2' p1
  replace q0 := keepB hb2' q0
  replace q1 := keepB hb2' q1
  replace r0 := keepB hb2' r0
  replace r1 := keepB hb2' r1
  replace r2 := keepB hb2' r2
  replace r3 := keepB hb2' r3
  replace f0 := keepF hb2' z0 f0
  replace f1 := keepF hb2' z0 f1
  replace f2 := keepF hb2' z0 f2
  replace f3 := keepF hb2' z0 f3
  replace z0 : w.heap.size + 1 < w2.heap.size := Nat.lt_of_lt_of_le z0 hb2'.size
  clear hb2' hv1
  obtain ⟨v2, hv2⟩ : ∃ v, w2.alloc (.cells #[.int .i64 i2, .int .i64 u2] 37) = v := ⟨_, rfl⟩
  have bv2 : Below w.heap.size w v2 := by rw [← hv2]; exact hb2.alloc hb2.size _
  have gv2 : Below w2.heap.size w2 v2 := by rw [← hv2]; exact (Below.refl _ _).alloc (Nat.le_refl _) _
  replace p0 := keepB gv2 p0
  replace p1 := keepB gv2 p1
  replace q0 := keepB gv2 q0
  replace q1 := keepB gv2 q1
  replace r0 := keepB gv2 r0
  replace r1 := keepB gv2 r1
  replace r2 := keepB gv2 r2
  replace r3 := keepB gv2 r3
  replace f0 := keepF gv2 z0 f0
  replace f1 := keepF gv2 z0 f1
  replace f2 := keepF gv2 z0 f2
  replace f3 := keepF gv2 z0 f3
  replace z0 : w.heap.size + 1 < v2.heap.size := Nat.lt_of_lt_of_le z0 gv2.size
  have k0 : v2.cell? ⟨w2.heap.size, 0, none⟩ = some (.int .i64 i2) := by rw [← hv2]; simp
  have k1 : v2.cell? ⟨w2.heap.size, 1, none⟩ = some (.int .i64 u2) := by rw [← hv2]; simp
  clear gv2
  obtain ⟨t0, t1, t2, t3⟩ := put_four (.int .i64 i1) (.int .i64 u1) (.int .i64 i2) (.int .i64 u2) r0 r1 r2 r3
  have HBE := Lib.hid (below_set4 bv2 (w.heap.size + 1) (by omega) (.int .i64 i1) (.int .i64 u1) (.int .i64 i2) (.int .i64 u2))
  unfold set4 at t0 t1 t2 t3 HBE
  go_wp2
  refine bodyPost_ret (v := .tuple #[.agg #[.int .i64 i1, .int .i64 u1, .int .i64 i2, .int .i64 u2], .int .i64 0]) (by simp [results, Tryd.f21, go_sem, t0, t1, t2, t3]) rfl ⟨rfl, HBE.out⟩

end Go.Proofs.YtfhkahnajjbohaaDoor
