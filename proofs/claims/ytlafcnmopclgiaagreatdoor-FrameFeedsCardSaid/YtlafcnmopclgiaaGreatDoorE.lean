/-
  body: what is behind a head.
-/
import Derived.Test.YtlafcnmopclgiaaGreatDoorD
import Derived.Laws.IdiomStrings
namespace Go.Proofs.YtlafcnmopclgiaaGreatDoor
open Go.RowKit Go.Shelf

theorem keepA {W : World} (o : Obj) {a : Addr} {v : Value} (h : W.cell? a = some v) : (W.alloc o).cell? a = some v := (World.cell?_alloc_some W a o (by rw [h]; rfl)).trans h
theorem u31 : Tryz.prog.underlying 30 = some (.slice 5) := by kernel_rfl
theorem u5 : Tryz.prog.underlying 5 = some (.int .u8) := by kernel_rfl
theorem u9 : Tryz.prog.underlying 9 = some .string := by kernel_rfl
/-- The bytes of l lie at g from o on. -/
def Lies (w : World) (g o : Nat) (l : List UInt8) : Prop := ∀ i, i < l.length → w.cell? ⟨g, o + i, none⟩ = some (.int .u8 (l.getD i 0).toNat)
theorem Lies.below {w w' : World} {g o : Nat} {l : List UInt8} (h : Lies w g o l) (hb : Below w.heap.size w w') : Lies w' g o l := fun i hi =>
  (World.cell?_of_block (hb.block g (World.block_lt_of_cell? w _ (h i hi)))).trans (h i hi)
theorem Lies.take {w : World} {g o : Nat} {l : List UInt8} (h : Lies w g o l) (n : Nat) : Lies w g o (l.take n) := fun i hi => by
  rw [List.length_take] at hi
  rw [h i (by omega)]
  congr 3
  rw [List.getD_eq_getElem?_getD, List.getD_eq_getElem?_getD, List.getElem?_take, if_pos (by omega)]
theorem Lies.drop {w : World} {g o : Nat} {l : List UInt8} (h : Lies w g o l) (n : Nat) : Lies w g (o + n) (l.drop n) := fun i hi => by
  rw [List.length_drop] at hi
  have := h (n + i) (by omega)
  rw [Nat.add_assoc, this]
  congr 3
  rw [List.getD_eq_getElem?_getD, List.getD_eq_getElem?_getD, List.getElem?_drop]
theorem addr_add (g o j : Nat) : (⟨g, o, none⟩ : Addr).add j = ⟨g, o + j, none⟩ := by unfold Addr.add; split <;> simp_all
theorem Lies.str {w : World} {g o : Nat} {l : List UInt8} (h : Lies w g o l) (c : Nat) : (convert 30 9 (.slice (some ⟨g, o, none⟩) l.length c)).run Tryz.prog w = .ok (bl l) w := by
  refine run_convert_bytes_back w 30 9 5 ⟨g, o, none⟩ c l u31 u5 u9 fun j hj => ?_
  have := h j hj
  rw [getD_get hj] at this
  rw [addr_add]; exact this
set_option maxRecDepth 100000 in
set_option maxHeartbeats 2000000 in
theorem body_take (w : World) (g o cap : Nat) (l : List UInt8) (n : Nat) (hl : Lies w g o l) (hn : n ≤ l.length) (hc : l.length ≤ cap) :
    Calls Tryz.prog 21 #[.agg #[.int .i64 n], .slice (some ⟨g, o, none⟩) l.length cap] w fun e w' => ∃ v, e = .returned (stepV n v (some .head)) ∧ EvsAt w.heap.size w' v [(l.take n, 0)] ∧ Below w.heap.size w w' := by
  have hmf := makeFunc_run
  obtain ⟨A1, hv1⟩ : ∃ A, w.alloc (.cells #[.int .i64 n] 45) = A := ⟨_, rfl⟩
  obtain ⟨A2, hv2⟩ : ∃ A, A1.alloc (.cells #[.int .i64 0, .slice none 0 0, .nilFunc] 56) = A := ⟨_, rfl⟩
  obtain ⟨A3, hv3⟩ : ∃ A, A2.drew.alloc (.cells #[bl (l.take n), .int .i64 0] 40) = A := ⟨_, rfl⟩
  have s1 : A1.heap.size = w.heap.size + 1 := by rw [← hv1]; simp
  have s2 : A2.heap.size = w.heap.size + 2 := by rw [← hv2]; simp [s1]
  have b1 : Below w.heap.size w A1 := by rw [← hv1]; exact galloc2 (Below.refl _ _) (Nat.le_refl _) _
  have b2 : Below w.heap.size w A2 := by rw [← hv2]; exact galloc2 b1 (by omega) _
  have b3 : Below w.heap.size w A3 := by rw [← hv3]; exact galloc2 b2.drew (by show _ ≤ A2.heap.size; omega) _
  have k1 : A1.cell? ⟨w.heap.size, 0, none⟩ = some (.int .i64 n) := by rw [← hv1, cellH (heap_alloc_new w _)]; rfl
  have k2 : A2.cell? ⟨w.heap.size, 0, none⟩ = some (.int .i64 n) := by rw [← hv2]; exact keepA _ k1
  have k2d : A2.drew.cell? ⟨w.heap.size, 0, none⟩ = some (.int .i64 n) := k2
  have k3 : A3.cell? ⟨w.heap.size, 0, none⟩ = some (.int .i64 n) := by rw [← hv3]; exact keepA _ k2d
  have S2 : SBox A2 (w.heap.size + 1) (.int .i64 0) (.slice none 0 0) .nilFunc := by rw [← hv2, ← s1]; exact heap_alloc_new A1 _
  have S3 : SBox A3 (w.heap.size + 1) (.int .i64 0) (.slice none 0 0) .nilFunc := by rw [← hv3]; exact heap_old (w := A2.drew) S2
  have HE : Hid (A3.heap[w.heap.size + 2]? = some (.cells #[bl (l.take n), .int .i64 0] 40 (0, 0))) := Lib.hid (by rw [← hv3, ← s2]; exact heap_alloc_new A2.drew _)
  have c2 := ((hl.take n).below b2.drew).str cap
  have c3 := ((hl.take n).below b3).str cap
  have b4 := set3_below (d0 := .int .i64 n) (d1 := .slice (some ⟨w.heap.size + 2, 0, none⟩) 1 1) (d2 := fnOf .head) (b := w.heap.size + 1) (by omega) b3
  have c4 := ((hl.take n).below b4).str cap
  have k4 : ((((A3.setCell ⟨w.heap.size + 1, 0, none⟩ (.int .i64 n)).setCell ⟨w.heap.size + 1, 1, none⟩ (.slice (some ⟨w.heap.size + 2, 0, none⟩) 1 1)).setCell ⟨w.heap.size + 1, 2, none⟩ (fnOf .head))).cell? ⟨w.heap.size, 0, none⟩ = some (.int .i64 n) := by
    have := A3.heap.size
    refine (World.cell?_of_block (w := A3) ?_).trans k3
    show _ = A3.heap[w.heap.size]?
    rw [Below.heap_setCell _ ⟨w.heap.size + 1, 2, none⟩ _ _ (by simp), Below.heap_setCell _ ⟨w.heap.size + 1, 1, none⟩ _ _ (by simp), Below.heap_setCell _ ⟨w.heap.size + 1, 0, none⟩ _ _ (by simp)]
  simp only [fnOf] at b4 c4 k4
  have HB4 := Lib.hid b4
  have hlen : (l.take n).length = n := by rw [List.length_take]; omega
  rw [hlen] at c2 c3 c4
  have hle : ¬ (l.length : Int) < (n : Int) := by omega
  have hle2 : (n : Int) ≤ (cap : Int) := by omega
  have HB := Lib.hid b3
  have HS := Lib.hid S3
  obtain ⟨q0, q1, q2, qf⟩ := S3.cells
  clear b1 b2 b3 b4 S2 S3 hl hlen
  generalize l.take n = X at *
  unfold bl at *
  go_enter Tryz.func21, Tryz.ntmps21
  go_wp2
  go_region_held3 (fun u => u.cell? ⟨w.heap.size, 0, none⟩ = some (.int .i64 n) ∧ (convert 30 9 (.slice (some ⟨g, o, none⟩) n cap)).run Tryz.prog u = .ok (.string ⟨X.toArray⟩) u) (first | exact ⟨k2d, c2⟩ | exact ⟨k3, c3⟩ | exact ⟨k4, c4⟩ | go_keep) (first | fail)
  all_goals
    go_wp2
    have kF := HS.out.set (.int .i64 n) (.slice (some ⟨w.heap.size + 2, 0, none⟩) 1 1) (fnOf .head)
    obtain ⟨z0, z1, z2, _⟩ := kF.cells
    refine bodyPost_ret (v := stepV n (.slice (some ⟨w.heap.size + 2, 0, none⟩) 1 1) (some .head)) (by simp only [fnOf] at z0 z1 z2; simp [results, Tryz.results21, go_sem, stepV, fnO, fnOf, z0, z1, z2]) rfl ⟨_, rfl, ?_, ?_⟩
    · exact evs_one (e := (X, 0)) (by omega) (set3_other (by omega) HE.out)
    · exact HB4.out
set_option maxRecDepth 100000 in
set_option maxHeartbeats 2000000 in
theorem body_wait (w : World) (v : Value) (p : Option Addr) (c m : Nat) (n : Nat) (hv : v = .slice p m c) (hn : m < n) :
    Calls Tryz.prog 21 #[.agg #[.int .i64 n], v] w fun e w' => e = .returned (stepV 0 (.slice none 0 0) none) ∧ Below w.heap.size w w' := by
  obtain ⟨A1, hv1⟩ : ∃ A, w.alloc (.cells #[.int .i64 n] 45) = A := ⟨_, rfl⟩
  obtain ⟨A2, hv2⟩ : ∃ A, A1.alloc (.cells #[.int .i64 0, .slice none 0 0, .nilFunc] 56) = A := ⟨_, rfl⟩
  have s1 : A1.heap.size = w.heap.size + 1 := by rw [← hv1]; simp
  have b1 : Below w.heap.size w A1 := by rw [← hv1]; exact galloc2 (Below.refl _ _) (Nat.le_refl _) _
  have b2 : Below w.heap.size w A2 := by rw [← hv2]; exact galloc2 b1 (by omega) _
  have k1 : A1.cell? ⟨w.heap.size, 0, none⟩ = some (.int .i64 n) := by rw [← hv1, cellH (heap_alloc_new w _)]; rfl
  have k2 : A2.cell? ⟨w.heap.size, 0, none⟩ = some (.int .i64 n) := by rw [← hv2]; exact keepA _ k1
  have S2 : SBox A2 (w.heap.size + 1) (.int .i64 0) (.slice none 0 0) .nilFunc := by rw [← hv2, ← s1]; exact heap_alloc_new A1 _
  have hle : (m : Int) < (n : Int) := by omega
  have HB := Lib.hid b2
  have HS := Lib.hid S2
  obtain ⟨q0, q1, q2, qf⟩ := S2.cells
  clear b1 b2 S2
  subst hv
  go_enter Tryz.func21, Tryz.ntmps21
  go_wp2
  have kF := HS.out.set (.int .i64 0) (.slice none 0 0) .nilFunc
  obtain ⟨z0, z1, z2, _⟩ := kF.cells
  refine bodyPost_ret (v := stepV 0 (.slice none 0 0) none) (by simp [results, Tryz.results21, go_sem, stepV, fnO, z0, z1, z2]) rfl ⟨rfl, ?_⟩
  exact set3_below (by omega) HB.out
end Go.Proofs.YtlafcnmopclgiaaGreatDoor
