/-
  The reference: Span and Range, over what Offset and Pos answer.
-/
import Derived.Test.YtfhkahnajjbohaaDoorRP
namespace Go.Proofs.YtfhkahnajjbohaaDoor
open Go.RowKit Go.Shelf

set_option maxHeartbeats 1600000 in
theorem rspan_e1 (s : ByteArray) (a1 a2 b1 b2 k e : Int) (w : World) (c1 : OffSays Tryd.prog 16 (.string s) a1 a2 w k e) (he : ((e : Int) == 0) = false) :
    Calls Tryd.prog 20 #[.string s, .agg #[.int .i64 a1, .int .i64 a2, .int .i64 b1, .int .i64 b2]] w fun e' w' => e' = .returned (.tuple #[.agg #[.int .i64 0, .int .i64 0], .int .i64 e]) ∧ Below w.heap.size w w' := by
  have hb0 : Below w.heap.size w ((w.alloc (.cells #[.int .i64 a1, .int .i64 a2, .int .i64 b1, .int .i64 b2] 39)).alloc (.cells #[.int .i64 0, .int .i64 0] 32)) := ((Below.refl _ _).alloc (Nat.le_refl _) _).alloc (by simp) _
  have hne : ((e : Int) != 0) = true := by rw [bne, he]; rfl
  go_enter Tryd.func20, Tryd.ntmps20
  go_wp2_with fail
  generalize hW0 : (w.alloc (.cells #[.int .i64 a1, .int .i64 a2, .int .i64 b1, .int .i64 b2] 39)).alloc (.cells #[.int .i64 0, .int .i64 0] 32) = W0 at *
  have p0 : W0.cell? ⟨w.heap.size, 0, none⟩ = some (.int .i64 a1) := by rw [← hW0]; simp
  have p1 : W0.cell? ⟨w.heap.size, 1, none⟩ = some (.int .i64 a2) := by rw [← hW0]; simp
  have p2 : W0.cell? ⟨w.heap.size, 2, none⟩ = some (.int .i64 b1) := by rw [← hW0]; simp
  have p3 : W0.cell? ⟨w.heap.size, 3, none⟩ = some (.int .i64 b2) := by rw [← hW0]; simp
  have r0 : W0.cell? ⟨w.heap.size + 1, 0, none⟩ = some (.int .i64 0) := by rw [← hW0]; simp
  have f0 : W0.frozen? ⟨w.heap.size + 1, 0, none⟩ = false := by rw [← hW0]; simp
  have r1 : W0.cell? ⟨w.heap.size + 1, 1, none⟩ = some (.int .i64 0) := by rw [← hW0]; simp
  have f1 : W0.frozen? ⟨w.heap.size + 1, 1, none⟩ = false := by rw [← hW0]; simp
  clear hW0
  have z0 : w.heap.size + 1 < W0.heap.size := World.block_lt_of_cell? W0 ⟨w.heap.size + 1, 0, none⟩ r0
  refine (c1 _ hb0).mono ?_
  rintro e' w1 ⟨rfl, hw1⟩
  have bw1 := hb0.trans (hw1.mono hb0.size)
  replace p0 := keepB hw1 p0
  replace p1 := keepB hw1 p1
  replace p2 := keepB hw1 p2
  replace p3 := keepB hw1 p3
  replace r0 := keepB hw1 r0
  replace r1 := keepB hw1 r1
  replace f0 := keepF hw1 z0 f0
  replace f1 := keepF hw1 z0 f1
  replace z0 : w.heap.size + 1 < w1.heap.size := Nat.lt_of_lt_of_le z0 hw1.size
  clear hw1
  obtain ⟨t0, t1⟩ := put_two (.int .i64 0) (.int .i64 0) r0 r1
  have HBE : Hid (Below w.heap.size w ((w1.setCell ⟨w.heap.size + 1, 0, none⟩ (.int .i64 0)).setCell ⟨w.heap.size + 1, 1, none⟩ (.int .i64 0))) := Lib.hid ((bw1.setCell (p := ⟨w.heap.size + 1, 0, none⟩) (by simp) _).setCell (p := ⟨w.heap.size + 1, 1, none⟩) (by simp) _)
  go_wp2
  refine bodyPost_ret (v := .tuple #[.agg #[.int .i64 0, .int .i64 0], .int .i64 e]) (by simp [results, Tryd.f20, go_sem, t0, t1]) rfl ⟨rfl, HBE.out⟩

set_option maxHeartbeats 1600000 in
theorem rspan_e2 (s : ByteArray) (a1 a2 b1 b2 k j e : Int) (w : World) (c1 : OffSays Tryd.prog 16 (.string s) a1 a2 w k 0) (c2 : OffSays Tryd.prog 16 (.string s) b1 b2 w j e) (he : ((e : Int) == 0) = false) :
    Calls Tryd.prog 20 #[.string s, .agg #[.int .i64 a1, .int .i64 a2, .int .i64 b1, .int .i64 b2]] w fun e' w' => e' = .returned (.tuple #[.agg #[.int .i64 0, .int .i64 0], .int .i64 e]) ∧ Below w.heap.size w w' := by
  have hb0 : Below w.heap.size w ((w.alloc (.cells #[.int .i64 a1, .int .i64 a2, .int .i64 b1, .int .i64 b2] 39)).alloc (.cells #[.int .i64 0, .int .i64 0] 32)) := ((Below.refl _ _).alloc (Nat.le_refl _) _).alloc (by simp) _
  have hne : ((e : Int) != 0) = true := by rw [bne, he]; rfl
  go_enter Tryd.func20, Tryd.ntmps20
  go_wp2_with fail
  generalize hW0 : (w.alloc (.cells #[.int .i64 a1, .int .i64 a2, .int .i64 b1, .int .i64 b2] 39)).alloc (.cells #[.int .i64 0, .int .i64 0] 32) = W0 at *
  have p0 : W0.cell? ⟨w.heap.size, 0, none⟩ = some (.int .i64 a1) := by rw [← hW0]; simp
  have p1 : W0.cell? ⟨w.heap.size, 1, none⟩ = some (.int .i64 a2) := by rw [← hW0]; simp
  have p2 : W0.cell? ⟨w.heap.size, 2, none⟩ = some (.int .i64 b1) := by rw [← hW0]; simp
  have p3 : W0.cell? ⟨w.heap.size, 3, none⟩ = some (.int .i64 b2) := by rw [← hW0]; simp
  have r0 : W0.cell? ⟨w.heap.size + 1, 0, none⟩ = some (.int .i64 0) := by rw [← hW0]; simp
  have f0 : W0.frozen? ⟨w.heap.size + 1, 0, none⟩ = false := by rw [← hW0]; simp
  have r1 : W0.cell? ⟨w.heap.size + 1, 1, none⟩ = some (.int .i64 0) := by rw [← hW0]; simp
  have f1 : W0.frozen? ⟨w.heap.size + 1, 1, none⟩ = false := by rw [← hW0]; simp
  clear hW0
  have z0 : w.heap.size + 1 < W0.heap.size := World.block_lt_of_cell? W0 ⟨w.heap.size + 1, 0, none⟩ r0
  refine (c1 _ hb0).mono ?_
  rintro e' w1 ⟨rfl, hw1⟩
  have bw1 := hb0.trans (hw1.mono hb0.size)
  replace p0 := keepB hw1 p0
  replace p1 := keepB hw1 p1
  replace p2 := keepB hw1 p2
  replace p3 := keepB hw1 p3
  replace r0 := keepB hw1 r0
  replace r1 := keepB hw1 r1
  replace f0 := keepF hw1 z0 f0
  replace f1 := keepF hw1 z0 f1
  replace z0 : w.heap.size + 1 < w1.heap.size := Nat.lt_of_lt_of_le z0 hw1.size
  clear hw1
  go_wp2_with fail
  refine (c2 _ bw1).mono ?_
  rintro e' w2 ⟨rfl, hw2⟩
  have bw2 := bw1.trans (hw2.mono bw1.size)
  replace p0 := keepB hw2 p0
  replace p1 := keepB hw2 p1
  replace p2 := keepB hw2 p2
  replace p3 := keepB hw2 p3
  replace r0 := keepB hw2 r0
  replace r1 := keepB hw2 r1
  replace f0 := keepF hw2 z0 f0
  replace f1 := keepF hw2 z0 f1
  replace z0 : w.heap.size + 1 < w2.heap.size := Nat.lt_of_lt_of_le z0 hw2.size
  clear hw2
  obtain ⟨t0, t1⟩ := put_two (.int .i64 0) (.int .i64 0) r0 r1
  have HBE : Hid (Below w.heap.size w ((w2.setCell ⟨w.heap.size + 1, 0, none⟩ (.int .i64 0)).setCell ⟨w.heap.size + 1, 1, none⟩ (.int .i64 0))) := Lib.hid ((bw2.setCell (p := ⟨w.heap.size + 1, 0, none⟩) (by simp) _).setCell (p := ⟨w.heap.size + 1, 1, none⟩) (by simp) _)
  go_wp2
  refine bodyPost_ret (v := .tuple #[.agg #[.int .i64 0, .int .i64 0], .int .i64 e]) (by simp [results, Tryd.f20, go_sem, t0, t1]) rfl ⟨rfl, HBE.out⟩

set_option maxHeartbeats 1600000 in
theorem rspan_rev (s : ByteArray) (a1 a2 b1 b2 k j : Int) (w : World) (c1 : OffSays Tryd.prog 16 (.string s) a1 a2 w k 0) (c2 : OffSays Tryd.prog 16 (.string s) b1 b2 w j 0) (h : lessB b1 b2 a1 a2 = true) :
    Calls Tryd.prog 20 #[.string s, .agg #[.int .i64 a1, .int .i64 a2, .int .i64 b1, .int .i64 b2]] w fun e' w' => e' = .returned (.tuple #[.agg #[.int .i64 0, .int .i64 0], .int .i64 60]) ∧ Below w.heap.size w w' := by
  have hb0 : Below w.heap.size w ((w.alloc (.cells #[.int .i64 a1, .int .i64 a2, .int .i64 b1, .int .i64 b2] 39)).alloc (.cells #[.int .i64 0, .int .i64 0] 32)) := ((Below.refl _ _).alloc (Nat.le_refl _) _).alloc (by simp) _
  have cl := fun w => less_any b1 b2 a1 a2 w
  rw [h] at cl
  clear h
  go_enter Tryd.func20, Tryd.ntmps20
  go_wp2_with fail
  generalize hW0 : (w.alloc (.cells #[.int .i64 a1, .int .i64 a2, .int .i64 b1, .int .i64 b2] 39)).alloc (.cells #[.int .i64 0, .int .i64 0] 32) = W0 at *
  have p0 : W0.cell? ⟨w.heap.size, 0, none⟩ = some (.int .i64 a1) := by rw [← hW0]; simp
  have p1 : W0.cell? ⟨w.heap.size, 1, none⟩ = some (.int .i64 a2) := by rw [← hW0]; simp
  have p2 : W0.cell? ⟨w.heap.size, 2, none⟩ = some (.int .i64 b1) := by rw [← hW0]; simp
  have p3 : W0.cell? ⟨w.heap.size, 3, none⟩ = some (.int .i64 b2) := by rw [← hW0]; simp
  have r0 : W0.cell? ⟨w.heap.size + 1, 0, none⟩ = some (.int .i64 0) := by rw [← hW0]; simp
  have f0 : W0.frozen? ⟨w.heap.size + 1, 0, none⟩ = false := by rw [← hW0]; simp
  have r1 : W0.cell? ⟨w.heap.size + 1, 1, none⟩ = some (.int .i64 0) := by rw [← hW0]; simp
  have f1 : W0.frozen? ⟨w.heap.size + 1, 1, none⟩ = false := by rw [← hW0]; simp
  clear hW0
  have z0 : w.heap.size + 1 < W0.heap.size := World.block_lt_of_cell? W0 ⟨w.heap.size + 1, 0, none⟩ r0
  refine (c1 _ hb0).mono ?_
  rintro e' w1 ⟨rfl, hw1⟩
  have bw1 := hb0.trans (hw1.mono hb0.size)
  replace p0 := keepB hw1 p0
  replace p1 := keepB hw1 p1
  replace p2 := keepB hw1 p2
  replace p3 := keepB hw1 p3
  replace r0 := keepB hw1 r0
  replace r1 := keepB hw1 r1
  replace f0 := keepF hw1 z0 f0
  replace f1 := keepF hw1 z0 f1
  replace z0 : w.heap.size + 1 < w1.heap.size := Nat.lt_of_lt_of_le z0 hw1.size
  clear hw1
  go_wp2_with fail
  refine (c2 _ bw1).mono ?_
  rintro e' w2 ⟨rfl, hw2⟩
  have bw2 := bw1.trans (hw2.mono bw1.size)
  replace p0 := keepB hw2 p0
  replace p1 := keepB hw2 p1
  replace p2 := keepB hw2 p2
  replace p3 := keepB hw2 p3
  replace r0 := keepB hw2 r0
  replace r1 := keepB hw2 r1
  replace f0 := keepF hw2 z0 f0
  replace f1 := keepF hw2 z0 f1
  replace z0 : w.heap.size + 1 < w2.heap.size := Nat.lt_of_lt_of_le z0 hw2.size
  clear hw2
  go_wp2_with fail
  refine (cl _).mono ?_
  rintro e' w3 ⟨rfl, hw3⟩
  have bw3 := bw2.trans (hw3.mono bw2.size)
  replace p0 := keepB hw3 p0
  replace p1 := keepB hw3 p1
  replace p2 := keepB hw3 p2
  replace p3 := keepB hw3 p3
  replace r0 := keepB hw3 r0
  replace r1 := keepB hw3 r1
  replace f0 := keepF hw3 z0 f0
  replace f1 := keepF hw3 z0 f1
  replace z0 : w.heap.size + 1 < w3.heap.size := Nat.lt_of_lt_of_le z0 hw3.size
  clear hw3
  obtain ⟨t0, t1⟩ := put_two (.int .i64 0) (.int .i64 0) r0 r1
  have HBE : Hid (Below w.heap.size w ((w3.setCell ⟨w.heap.size + 1, 0, none⟩ (.int .i64 0)).setCell ⟨w.heap.size + 1, 1, none⟩ (.int .i64 0))) := Lib.hid ((bw3.setCell (p := ⟨w.heap.size + 1, 0, none⟩) (by simp) _).setCell (p := ⟨w.heap.size + 1, 1, none⟩) (by simp) _)
  go_wp2
  refine bodyPost_ret (v := .tuple #[.agg #[.int .i64 0, .int .i64 0], .int .i64 60]) (by simp [results, Tryd.f20, go_sem, t0, t1]) rfl ⟨rfl, HBE.out⟩

set_option maxHeartbeats 1600000 in
theorem rspan_ok (s : ByteArray) (a1 a2 b1 b2 k j : Int) (w : World) (c1 : OffSays Tryd.prog 16 (.string s) a1 a2 w k 0) (c2 : OffSays Tryd.prog 16 (.string s) b1 b2 w j 0) (h : lessB b1 b2 a1 a2 = false) :
    Calls Tryd.prog 20 #[.string s, .agg #[.int .i64 a1, .int .i64 a2, .int .i64 b1, .int .i64 b2]] w fun e' w' => e' = .returned (.tuple #[.agg #[.int .i64 k, .int .i64 j], .int .i64 0]) ∧ Below w.heap.size w w' := by
  have hb0 : Below w.heap.size w ((w.alloc (.cells #[.int .i64 a1, .int .i64 a2, .int .i64 b1, .int .i64 b2] 39)).alloc (.cells #[.int .i64 0, .int .i64 0] 32)) := ((Below.refl _ _).alloc (Nat.le_refl _) _).alloc (by simp) _
  have cl := fun w => less_any b1 b2 a1 a2 w
  rw [h] at cl
  clear h
  go_enter Tryd.func20, Tryd.ntmps20
  go_wp2_with fail
  generalize hW0 : (w.alloc (.cells #[.int .i64 a1, .int .i64 a2, .int .i64 b1, .int .i64 b2] 39)).alloc (.cells #[.int .i64 0, .int .i64 0] 32) = W0 at *
  have p0 : W0.cell? ⟨w.heap.size, 0, none⟩ = some (.int .i64 a1) := by rw [← hW0]; simp
  have p1 : W0.cell? ⟨w.heap.size, 1, none⟩ = some (.int .i64 a2) := by rw [← hW0]; simp
  have p2 : W0.cell? ⟨w.heap.size, 2, none⟩ = some (.int .i64 b1) := by rw [← hW0]; simp
  have p3 : W0.cell? ⟨w.heap.size, 3, none⟩ = some (.int .i64 b2) := by rw [← hW0]; simp
  have r0 : W0.cell? ⟨w.heap.size + 1, 0, none⟩ = some (.int .i64 0) := by rw [← hW0]; simp
  have f0 : W0.frozen? ⟨w.heap.size + 1, 0, none⟩ = false := by rw [← hW0]; simp
  have r1 : W0.cell? ⟨w.heap.size + 1, 1, none⟩ = some (.int .i64 0) := by rw [← hW0]; simp
  have f1 : W0.frozen? ⟨w.heap.size + 1, 1, none⟩ = false := by rw [← hW0]; simp
  clear hW0
  have z0 : w.heap.size + 1 < W0.heap.size := World.block_lt_of_cell? W0 ⟨w.heap.size + 1, 0, none⟩ r0
  refine (c1 _ hb0).mono ?_
  rintro e' w1 ⟨rfl, hw1⟩
  have bw1 := hb0.trans (hw1.mono hb0.size)
  replace p0 := keepB hw1 p0
  replace p1 := keepB hw1 p1
  replace p2 := keepB hw1 p2
  replace p3 := keepB hw1 p3
  replace r0 := keepB hw1 r0
  replace r1 := keepB hw1 r1
  replace f0 := keepF hw1 z0 f0
  replace f1 := keepF hw1 z0 f1
  replace z0 : w.heap.size + 1 < w1.heap.size := Nat.lt_of_lt_of_le z0 hw1.size
  clear hw1
  go_wp2_with fail
  refine (c2 _ bw1).mono ?_
  rintro e' w2 ⟨rfl, hw2⟩
  have bw2 := bw1.trans (hw2.mono bw1.size)
  replace p0 := keepB hw2 p0
  replace p1 := keepB hw2 p1
  replace p2 := keepB hw2 p2
  replace p3 := keepB hw2 p3
  replace r0 := keepB hw2 r0
  replace r1 := keepB hw2 r1
  replace f0 := keepF hw2 z0 f0
  replace f1 := keepF hw2 z0 f1
  replace z0 : w.heap.size + 1 < w2.heap.size := Nat.lt_of_lt_of_le z0 hw2.size
  clear hw2
  go_wp2_with fail
  refine (cl _).mono ?_
  rintro e' w3 ⟨rfl, hw3⟩
  have bw3 := bw2.trans (hw3.mono bw2.size)
  replace p0 := keepB hw3 p0
  replace p1 := keepB hw3 p1
  replace p2 := keepB hw3 p2
  replace p3 := keepB hw3 p3
  replace r0 := keepB hw3 r0
  replace r1 := keepB hw3 r1
  replace f0 := keepF hw3 z0 f0
  replace f1 := keepF hw3 z0 f1
  replace z0 : w.heap.size + 1 < w3.heap.size := Nat.lt_of_lt_of_le z0 hw3.size
  clear hw3
  obtain ⟨t0, t1⟩ := put_two (.int .i64 k) (.int .i64 j) r0 r1
  have HBE : Hid (Below w.heap.size w ((w3.setCell ⟨w.heap.size + 1, 0, none⟩ (.int .i64 k)).setCell ⟨w.heap.size + 1, 1, none⟩ (.int .i64 j))) := Lib.hid ((bw3.setCell (p := ⟨w.heap.size + 1, 0, none⟩) (by simp) _).setCell (p := ⟨w.heap.size + 1, 1, none⟩) (by simp) _)
  go_wp2
  refine bodyPost_ret (v := .tuple #[.agg #[.int .i64 k, .int .i64 j], .int .i64 0]) (by simp [results, Tryd.f20, go_sem, t0, t1]) rfl ⟨rfl, HBE.out⟩

set_option maxHeartbeats 1600000 in
theorem rrange_e1 (s : ByteArray) (s0 s1 i1 u1 e : Int) (w : World) (c1 : PosSays Tryd.prog 18 (.string s) s0 w i1 u1 e) (he : ((e : Int) == 0) = false) (h : s0 ≤ s1) :
    Calls Tryd.prog 22 #[.string s, .agg #[.int .i64 s0, .int .i64 s1]] w fun e' w' => e' = .returned (.tuple #[.agg #[.int .i64 0, .int .i64 0, .int .i64 0, .int .i64 0], .int .i64 e]) ∧ Below w.heap.size w w' := by
  have hb0 : Below w.heap.size w ((w.alloc (.cells #[.int .i64 s0, .int .i64 s1] 32)).alloc (.cells #[.int .i64 0, .int .i64 0, .int .i64 0, .int .i64 0] 39)) := ((Below.refl _ _).alloc (Nat.le_refl _) _).alloc (by simp) _
  have hne : ((e : Int) != 0) = true := by rw [bne, he]; rfl
  go_enter Tryd.func22, Tryd.ntmps22
  go_wp2_with fail
  generalize hW0 : (w.alloc (.cells #[.int .i64 s0, .int .i64 s1] 32)).alloc (.cells #[.int .i64 0, .int .i64 0, .int .i64 0, .int .i64 0] 39) = W0 at *
  have p0 : W0.cell? ⟨w.heap.size, 0, none⟩ = some (.int .i64 s0) := by rw [← hW0]; simp
  have p1 : W0.cell? ⟨w.heap.size, 1, none⟩ = some (.int .i64 s1) := by rw [← hW0]; simp
  have r0 : W0.cell? ⟨w.heap.size + 1, 0, none⟩ = some (.int .i64 0) := by rw [← hW0]; simp
  have f0 : W0.frozen? ⟨w.heap.size + 1, 0, none⟩ = false := by rw [← hW0]; simp
  have r1 : W0.cell? ⟨w.heap.size + 1, 1, none⟩ = some (.int .i64 0) := by rw [← hW0]; simp
  have f1 : W0.frozen? ⟨w.heap.size + 1, 1, none⟩ = false := by rw [← hW0]; simp
  have r2 : W0.cell? ⟨w.heap.size + 1, 2, none⟩ = some (.int .i64 0) := by rw [← hW0]; simp
  have f2 : W0.frozen? ⟨w.heap.size + 1, 2, none⟩ = false := by rw [← hW0]; simp
  have r3 : W0.cell? ⟨w.heap.size + 1, 3, none⟩ = some (.int .i64 0) := by rw [← hW0]; simp
  have f3 : W0.frozen? ⟨w.heap.size + 1, 3, none⟩ = false := by rw [← hW0]; simp
  clear hW0
  have z0 : w.heap.size + 1 < W0.heap.size := World.block_lt_of_cell? W0 ⟨w.heap.size + 1, 0, none⟩ r0
  refine (c1 _ hb0).mono ?_
  rintro e' w1 ⟨rfl, hb1'⟩
  have hb1 := hb0.trans (hb1'.mono hb0.size)
  replace p0 := keepB hb1' p0
  replace p1 := keepB hb1' p1
  replace r0 := keepB hb1' r0
  replace r1 := keepB hb1' r1
  replace r2 := keepB hb1' r2
  replace r3 := keepB hb1' r3
  replace f0 := keepF hb1' z0 f0
  replace f1 := keepF hb1' z0 f1
  replace f2 := keepF hb1' z0 f2
  replace f3 := keepF hb1' z0 f3
  replace z0 : w.heap.size + 1 < w1.heap.size := Nat.lt_of_lt_of_le z0 hb1'.size
  clear hb1'
  obtain ⟨v1, hv1⟩ : ∃ v, w1.alloc (.cells #[.int .i64 i1, .int .i64 u1] 37) = v := ⟨_, rfl⟩
  have bv1 : Below w.heap.size w v1 := by rw [← hv1]; exact hb1.alloc hb1.size _
  have gv1 : Below w1.heap.size w1 v1 := by rw [← hv1]; exact (Below.refl _ _).alloc (Nat.le_refl _) _
  replace p0 := keepB gv1 p0
  replace p1 := keepB gv1 p1
  replace r0 := keepB gv1 r0
  replace r1 := keepB gv1 r1
  replace r2 := keepB gv1 r2
  replace r3 := keepB gv1 r3
  replace f0 := keepF gv1 z0 f0
  replace f1 := keepF gv1 z0 f1
  replace f2 := keepF gv1 z0 f2
  replace f3 := keepF gv1 z0 f3
  replace z0 : w.heap.size + 1 < v1.heap.size := Nat.lt_of_lt_of_le z0 gv1.size
  have q0 : v1.cell? ⟨w1.heap.size, 0, none⟩ = some (.int .i64 i1) := by rw [← hv1]; simp
  have q1 : v1.cell? ⟨w1.heap.size, 1, none⟩ = some (.int .i64 u1) := by rw [← hv1]; simp
  clear gv1
  obtain ⟨t0, t1, t2, t3⟩ := put_four (.int .i64 0) (.int .i64 0) (.int .i64 0) (.int .i64 0) r0 r1 r2 r3
  have HBE := Lib.hid (below_set4 bv1 (w.heap.size + 1) (by omega) (.int .i64 0) (.int .i64 0) (.int .i64 0) (.int .i64 0))
  unfold set4 at t0 t1 t2 t3 HBE
  go_wp2
  refine bodyPost_ret (v := .tuple #[.agg #[.int .i64 0, .int .i64 0, .int .i64 0, .int .i64 0], .int .i64 e]) (by simp [results, Tryd.f22, go_sem, t0, t1, t2, t3]) rfl ⟨rfl, HBE.out⟩

set_option maxHeartbeats 1600000 in
theorem rrange_e2 (s : ByteArray) (s0 s1 i1 u1 i2 u2 e : Int) (w : World) (c1 : PosSays Tryd.prog 18 (.string s) s0 w i1 u1 0) (c2 : PosSays Tryd.prog 18 (.string s) s1 w i2 u2 e) (he : ((e : Int) == 0) = false) (h : s0 ≤ s1) :
    Calls Tryd.prog 22 #[.string s, .agg #[.int .i64 s0, .int .i64 s1]] w fun e' w' => e' = .returned (.tuple #[.agg #[.int .i64 0, .int .i64 0, .int .i64 0, .int .i64 0], .int .i64 e]) ∧ Below w.heap.size w w' := by
  have hb0 : Below w.heap.size w ((w.alloc (.cells #[.int .i64 s0, .int .i64 s1] 32)).alloc (.cells #[.int .i64 0, .int .i64 0, .int .i64 0, .int .i64 0] 39)) := ((Below.refl _ _).alloc (Nat.le_refl _) _).alloc (by simp) _
  have hne : ((e : Int) != 0) = true := by rw [bne, he]; rfl
  go_enter Tryd.func22, Tryd.ntmps22
  go_wp2_with fail
  generalize hW0 : (w.alloc (.cells #[.int .i64 s0, .int .i64 s1] 32)).alloc (.cells #[.int .i64 0, .int .i64 0, .int .i64 0, .int .i64 0] 39) = W0 at *
  have p0 : W0.cell? ⟨w.heap.size, 0, none⟩ = some (.int .i64 s0) := by rw [← hW0]; simp
  have p1 : W0.cell? ⟨w.heap.size, 1, none⟩ = some (.int .i64 s1) := by rw [← hW0]; simp
  have r0 : W0.cell? ⟨w.heap.size + 1, 0, none⟩ = some (.int .i64 0) := by rw [← hW0]; simp
  have f0 : W0.frozen? ⟨w.heap.size + 1, 0, none⟩ = false := by rw [← hW0]; simp
  have r1 : W0.cell? ⟨w.heap.size + 1, 1, none⟩ = some (.int .i64 0) := by rw [← hW0]; simp
  have f1 : W0.frozen? ⟨w.heap.size + 1, 1, none⟩ = false := by rw [← hW0]; simp
  have r2 : W0.cell? ⟨w.heap.size + 1, 2, none⟩ = some (.int .i64 0) := by rw [← hW0]; simp
  have f2 : W0.frozen? ⟨w.heap.size + 1, 2, none⟩ = false := by rw [← hW0]; simp
  have r3 : W0.cell? ⟨w.heap.size + 1, 3, none⟩ = some (.int .i64 0) := by rw [← hW0]; simp
  have f3 : W0.frozen? ⟨w.heap.size + 1, 3, none⟩ = false := by rw [← hW0]; simp
  clear hW0
  have z0 : w.heap.size + 1 < W0.heap.size := World.block_lt_of_cell? W0 ⟨w.heap.size + 1, 0, none⟩ r0
  refine (c1 _ hb0).mono ?_
  rintro e' w1 ⟨rfl, hb1'⟩
  have hb1 := hb0.trans (hb1'.mono hb0.size)
  replace p0 := keepB hb1' p0
  replace p1 := keepB hb1' p1
  replace r0 := keepB hb1' r0
  replace r1 := keepB hb1' r1
  replace r2 := keepB hb1' r2
  replace r3 := keepB hb1' r3
  replace f0 := keepF hb1' z0 f0
  replace f1 := keepF hb1' z0 f1
  replace f2 := keepF hb1' z0 f2
  replace f3 := keepF hb1' z0 f3
  replace z0 : w.heap.size + 1 < w1.heap.size := Nat.lt_of_lt_of_le z0 hb1'.size
  clear hb1'
  obtain ⟨v1, hv1⟩ : ∃ v, w1.alloc (.cells #[.int .i64 i1, .int .i64 u1] 37) = v := ⟨_, rfl⟩
  have bv1 : Below w.heap.size w v1 := by rw [← hv1]; exact hb1.alloc hb1.size _
  have gv1 : Below w1.heap.size w1 v1 := by rw [← hv1]; exact (Below.refl _ _).alloc (Nat.le_refl _) _
  replace p0 := keepB gv1 p0
  replace p1 := keepB gv1 p1
  replace r0 := keepB gv1 r0
  replace r1 := keepB gv1 r1
  replace r2 := keepB gv1 r2
  replace r3 := keepB gv1 r3
  replace f0 := keepF gv1 z0 f0
  replace f1 := keepF gv1 z0 f1
  replace f2 := keepF gv1 z0 f2
  replace f3 := keepF gv1 z0 f3
  replace z0 : w.heap.size + 1 < v1.heap.size := Nat.lt_of_lt_of_le z0 gv1.size
  have q0 : v1.cell? ⟨w1.heap.size, 0, none⟩ = some (.int .i64 i1) := by rw [← hv1]; simp
  have q1 : v1.cell? ⟨w1.heap.size, 1, none⟩ = some (.int .i64 u1) := by rw [← hv1]; simp
  clear gv1
  go_wp2_with fail
  refine (c2 _ bv1).mono ?_
  rintro e' w2 ⟨rfl, hb2'⟩
  have hb2 := bv1.trans (hb2'.mono bv1.size)
  replace p0 := keepB hb2' p0
  replace p1 := keepB hb2' p1
  replace q0 := keepB hb2' q0
  replace q1 := keepB hb2' q1
  replace r0 := keepB hb2' r0
  replace r1 := keepB hb2' r1
  replace r2 := keepB hb2' r2
  replace r3 := keepB hb2' r3
  replace f0 := keepF hb2' z0 f0
  replace f1 := keepF hb2' z0 f1
  replace f2 := keepF hb2' z0 f2
  replace f3 := keepF hb2' z0 f3
  replace z0 : w.heap.size + 1 < w2.heap.size := Nat.lt_of_lt_of_le z0 hb2'.size
  clear hb2' hv1
  obtain ⟨v2, hv2⟩ : ∃ v, w2.alloc (.cells #[.int .i64 i2, .int .i64 u2] 37) = v := ⟨_, rfl⟩
  have bv2 : Below w.heap.size w v2 := by rw [← hv2]; exact hb2.alloc hb2.size _
  have gv2 : Below w2.heap.size w2 v2 := by rw [← hv2]; exact (Below.refl _ _).alloc (Nat.le_refl _) _
  replace p0 := keepB gv2 p0
  replace p1 := keepB gv2 p1
  replace q0 := keepB gv2 q0
  replace q1 := keepB gv2 q1
  replace r0 := keepB gv2 r0
  replace r1 := keepB gv2 r1
  replace r2 := keepB gv2 r2
  replace r3 := keepB gv2 r3
  replace f0 := keepF gv2 z0 f0
  replace f1 := keepF gv2 z0 f1
  replace f2 := keepF gv2 z0 f2
  replace f3 := keepF gv2 z0 f3
  replace z0 : w.heap.size + 1 < v2.heap.size := Nat.lt_of_lt_of_le z0 gv2.size
  have k0 : v2.cell? ⟨w2.heap.size, 0, none⟩ = some (.int .i64 i2) := by rw [← hv2]; simp
  have k1 : v2.cell? ⟨w2.heap.size, 1, none⟩ = some (.int .i64 u2) := by rw [← hv2]; simp
  clear gv2
  obtain ⟨t0, t1, t2, t3⟩ := put_four (.int .i64 0) (.int .i64 0) (.int .i64 0) (.int .i64 0) r0 r1 r2 r3
  have HBE := Lib.hid (below_set4 bv2 (w.heap.size + 1) (by omega) (.int .i64 0) (.int .i64 0) (.int .i64 0) (.int .i64 0))
  unfold set4 at t0 t1 t2 t3 HBE
  go_wp2
  refine bodyPost_ret (v := .tuple #[.agg #[.int .i64 0, .int .i64 0, .int .i64 0, .int .i64 0], .int .i64 e]) (by simp [results, Tryd.f22, go_sem, t0, t1, t2, t3]) rfl ⟨rfl, HBE.out⟩

set_option maxHeartbeats 1600000 in
theorem rrange_ok (s : ByteArray) (s0 s1 i1 u1 i2 u2 : Int) (w : World) (c1 : PosSays Tryd.prog 18 (.string s) s0 w i1 u1 0) (c2 : PosSays Tryd.prog 18 (.string s) s1 w i2 u2 0) (h : s0 ≤ s1) :
    Calls Tryd.prog 22 #[.string s, .agg #[.int .i64 s0, .int .i64 s1]] w fun e' w' => e' = .returned (.tuple #[.agg #[.int .i64 i1, .int .i64 u1, .int .i64 i2, .int .i64 u2], .int .i64 0]) ∧ Below w.heap.size w w' := by
  have hb0 : Below w.heap.size w ((w.alloc (.cells #[.int .i64 s0, .int .i64 s1] 32)).alloc (.cells #[.int .i64 0, .int .i64 0, .int .i64 0, .int .i64 0] 39)) := ((Below.refl _ _).alloc (Nat.le_refl _) _).alloc (by simp) _
  go_enter Tryd.func22, Tryd.ntmps22
  go_wp2_with fail
  generalize hW0 : (w.alloc (.cells #[.int .i64 s0, .int .i64 s1] 32)).alloc (.cells #[.int .i64 0, .int .i64 0, .int .i64 0, .int .i64 0] 39) = W0 at *
  have p0 : W0.cell? ⟨w.heap.size, 0, none⟩ = some (.int .i64 s0) := by rw [← hW0]; simp
  have p1 : W0.cell? ⟨w.heap.size, 1, none⟩ = some (.int .i64 s1) := by rw [← hW0]; simp
  have r0 : W0.cell? ⟨w.heap.size + 1, 0, none⟩ = some (.int .i64 0) := by rw [← hW0]; simp
  have f0 : W0.frozen? ⟨w.heap.size + 1, 0, none⟩ = false := by rw [← hW0]; simp
  have r1 : W0.cell? ⟨w.heap.size + 1, 1, none⟩ = some (.int .i64 0) := by rw [← hW0]; simp
  have f1 : W0.frozen? ⟨w.heap.size + 1, 1, none⟩ = false := by rw [← hW0]; simp
  have r2 : W0.cell? ⟨w.heap.size + 1, 2, none⟩ = some (.int .i64 0) := by rw [← hW0]; simp
  have f2 : W0.frozen? ⟨w.heap.size + 1, 2, none⟩ = false := by rw [← hW0]; simp
  have r3 : W0.cell? ⟨w.heap.size + 1, 3, none⟩ = some (.int .i64 0) := by rw [← hW0]; simp
  have f3 : W0.frozen? ⟨w.heap.size + 1, 3, none⟩ = false := by rw [← hW0]; simp
  clear hW0
  have z0 : w.heap.size + 1 < W0.heap.size := World.block_lt_of_cell? W0 ⟨w.heap.size + 1, 0, none⟩ r0
  refine (c1 _ hb0).mono ?_
  rintro e' w1 ⟨rfl, hb1'⟩
  have hb1 := hb0.trans (hb1'.mono hb0.size)
  replace p0 := keepB hb1' p0
  replace p1 := keepB hb1' p1
  replace r0 := keepB hb1' r0
  replace r1 := keepB hb1' r1
  replace r2 := keepB hb1' r2
  replace r3 := keepB hb1' r3
  replace f0 := keepF hb1' z0 f0
  replace f1 := keepF hb1' z0 f1
  replace f2 := keepF hb1' z0 f2
  replace f3 := keepF hb1' z0 f3
  replace z0 : w.heap.size + 1 < w1.heap.size := Nat.lt_of_lt_of_le z0 hb1'.size
  clear hb1'
  obtain ⟨v1, hv1⟩ : ∃ v, w1.alloc (.cells #[.int .i64 i1, .int .i64 u1] 37) = v := ⟨_, rfl⟩
  have bv1 : Below w.heap.size w v1 := by rw [← hv1]; exact hb1.alloc hb1.size _
  have gv1 : Below w1.heap.size w1 v1 := by rw [← hv1]; exact (Below.refl _ _).alloc (Nat.le_refl _) _
  replace p0 := keepB gv1 p0
  replace p1 := keepB gv1 p1
  replace r0 := keepB gv1 r0
  replace r1 := keepB gv1 r1
  replace r2 := keepB gv1 r2
  replace r3 := keepB gv1 r3
  replace f0 := keepF gv1 z0 f0
  replace f1 := keepF gv1 z0 f1
  replace f2 := keepF gv1 z0 f2
  replace f3 := keepF gv1 z0 f3
  replace z0 : w.heap.size + 1 < v1.heap.size := Nat.lt_of_lt_of_le z0 gv1.size
  have q0 : v1.cell? ⟨w1.heap.size, 0, none⟩ = some (.int .i64 i1) := by rw [← hv1]; simp
  have q1 : v1.cell? ⟨w1.heap.size, 1, none⟩ = some (.int .i64 u1) := by rw [← hv1]; simp
  clear gv1
  go_wp2_with fail
  refine (c2 _ bv1).mono ?_
  rintro e' w2 ⟨rfl, hb2'⟩
  have hb2 := bv1.trans (hb2'.mono bv1.size)
  replace p0 := keepB hb2' p0
  replace p1 := keepB hb2' p1
  replace q0 := keepB hb2' q0
  replace q1 := keepB hb2' q1
  replace r0 := keepB hb2' r0
  replace r1 := keepB hb2' r1
  replace r2 := keepB hb2' r2
  replace r3 := keepB hb2' r3
  replace f0 := keepF hb2' z0 f0
  replace f1 := keepF hb2' z0 f1
  replace f2 := keepF hb2' z0 f2
  replace f3 := keepF hb2' z0 f3
  replace z0 : w.heap.size + 1 < w2.heap.size := Nat.lt_of_lt_of_le z0 hb2'.size
  clear hb2' hv1
  obtain ⟨v2, hv2⟩ : ∃ v, w2.alloc (.cells #[.int .i64 i2, .int .i64 u2] 37) = v := ⟨_, rfl⟩
  have bv2 : Below w.heap.size w v2 := by rw [← hv2]; exact hb2.alloc hb2.size _
  have gv2 : Below w2.heap.size w2 v2 := by rw [← hv2]; exact (Below.refl _ _).alloc (Nat.le_refl _) _
  replace p0 := keepB gv2 p0
  replace p1 := keepB gv2 p1
  replace q0 := keepB gv2 q0
  replace q1 := keepB gv2 q1
  replace r0 := keepB gv2 r0
  replace r1 := keepB gv2 r1
  replace r2 := keepB gv2 r2
  replace r3 := keepB gv2 r3
  replace f0 := keepF gv2 z0 f0
  replace f1 := keepF gv2 z0 f1
  replace f2 := keepF gv2 z0 f2
  replace f3 := keepF gv2 z0 f3
  replace z0 : w.heap.size + 1 < v2.heap.size := Nat.lt_of_lt_of_le z0 gv2.size
  have k0 : v2.cell? ⟨w2.heap.size, 0, none⟩ = some (.int .i64 i2) := by rw [← hv2]; simp
  have k1 : v2.cell? ⟨w2.heap.size, 1, none⟩ = some (.int .i64 u2) := by rw [← hv2]; simp
  clear gv2
  obtain ⟨t0, t1, t2, t3⟩ := put_four (.int .i64 i1) (.int .i64 u1) (.int .i64 i2) (.int .i64 u2) r0 r1 r2 r3
  have HBE := Lib.hid (below_set4 bv2 (w.heap.size + 1) (by omega) (.int .i64 i1) (.int .i64 u1) (.int .i64 i2) (.int .i64 u2))
  unfold set4 at t0 t1 t2 t3 HBE
  go_wp2
  refine bodyPost_ret (v := .tuple #[.agg #[.int .i64 i1, .int .i64 u1, .int .i64 i2, .int .i64 u2], .int .i64 0]) (by simp [results, Tryd.f22, go_sem, t0, t1, t2, t3]) rfl ⟨rfl, HBE.out⟩

set_option maxHeartbeats 1600000 in
theorem rrange_rev (s : ByteArray) (s0 s1 : Int) (w : World) (h : s1 < s0) :
    Calls Tryd.prog 22 #[.string s, .agg #[.int .i64 s0, .int .i64 s1]] w fun e' w' => e' = .returned (.tuple #[.agg #[.int .i64 0, .int .i64 0, .int .i64 0, .int .i64 0], .int .i64 1]) ∧ Below w.heap.size w w' := by
  go_enter Tryd.func22, Tryd.ntmps22
  go_wp2
  refine bodyPost_ret (v := .tuple #[.agg #[.int .i64 0, .int .i64 0, .int .i64 0, .int .i64 0], .int .i64 1]) (by simp [results, Tryd.f22, go_sem]) rfl ⟨rfl, ?_⟩
  exact ((Below.refl _ _).alloc (Nat.le_refl _) _).alloc (by simp) _

end Go.Proofs.YtfhkahnajjbohaaDoor
