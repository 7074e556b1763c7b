/-
  The walk of the law LinesOrder.
-/
import Derived.Test.YtfhkahnajjbohaaDoorS
import Derived.Test.YtfhkahnajjbohaaDoorX
import Derived.Test.YtfhkahnajjbohaaDoorZ2
namespace Go.Proofs.YtfhkahnajjbohaaDoor
open Go.RowKit Go.Shelf

set_option maxHeartbeats 1600000 in
theorem order_long (s : ByteArray) (pl pc ql qc : Int) (w : World) (hT : Lib.Utf8Tabs 1 2 w) (h : 3000 < s.size) :
    Calls Tryd.prog 7 #[.string s, .agg #[.int .i64 pl, .int .i64 pc], .agg #[.int .i64 ql, .int .i64 qc]] w fun e w' => e = .returned (.bool true) ∧ Below w.heap.size w w' := by
  have h2 := tabs_size hT
  have cw := awake_any
  have hb0 : Below w.heap.size w ((w.alloc (.cells #[.int .i64 pl, .int .i64 pc] 37)).alloc (.cells #[.int .i64 ql, .int .i64 qc] 37)) := ((Below.refl _ _).alloc (Nat.le_refl _) _).alloc (by simp) _
  go_enter Tryd.func7, Tryd.ntmps7
  go_wp2_with fail
  refine (cw _ (tabs_below hT hb0 h2)).mono ?_
  rintro e w1 ⟨rfl, hb1⟩
  go_wp2
  go_ret
  exact ⟨rfl, hb0.trans (hb1.mono hb0.size)⟩

set_option maxHeartbeats 1600000 in
theorem order_none (s : ByteArray) (pl pc ql qc : Int) (w : World) (hT : Lib.Utf8Tabs 1 2 w) (h : s.size ≤ 3000) (hv : validS s = false) :
    Calls Tryd.prog 7 #[.string s, .agg #[.int .i64 pl, .int .i64 pc], .agg #[.int .i64 ql, .int .i64 qc]] w fun e w' => e = .returned (.bool true) ∧ Below w.heap.size w w' := by
  have h2 := tabs_size hT
  have cw := awake_any
  have hb0 : Below w.heap.size w ((w.alloc (.cells #[.int .i64 pl, .int .i64 pc] 37)).alloc (.cells #[.int .i64 ql, .int .i64 qc] 37)) := ((Below.refl _ _).alloc (Nat.le_refl _) _).alloc (by simp) _
  have cn := fun w hT => new_bad s w (by omega) hv hT
  have cv := fun w => rvalid_any s w (by omega)
  simp only [hv] at cv
  clear hv
  go_enter Tryd.func7, Tryd.ntmps7
  go_wp2_with fail
  refine (cw _ (tabs_below hT hb0 h2)).mono ?_
  rintro e w1 ⟨rfl, hb1'⟩
  have hb1 := hb0.trans (hb1'.mono hb0.size)
  go_wp2_with fail
  refine (cn _ (tabs_below hT hb1 h2)).mono ?_
  rintro e w2 ⟨rfl, hb2'⟩
  have hb2 := hb1.trans (hb2'.mono hb1.size)
  go_wp2_with fail
  refine (cv _).mono ?_
  rintro e w3 ⟨rfl, rfl⟩
  go_wp2
  go_ret
  exact ⟨rfl, hb2⟩

set_option maxHeartbeats 1600000 in
theorem order_both (s : ByteArray) (pl pc ql qc : Int) (w : World) (hT : Lib.Utf8Tabs 1 2 w) (h : s.size ≤ 3000) (hv : validS s = true) (k j : Nat) (hk : OffAt s pl pc k) (hj : OffAt s ql qc j) :
    Calls Tryd.prog 7 #[.string s, .agg #[.int .i64 pl, .int .i64 pc], .agg #[.int .i64 ql, .int .i64 qc]] w fun e w' => e = .returned (.bool true) ∧ Below w.heap.size w w' := by
  have h2 := tabs_size hT
  have cw := awake_any
  have hb0 : Below w.heap.size w ((w.alloc (.cells #[.int .i64 pl, .int .i64 pc] 37)).alloc (.cells #[.int .i64 ql, .int .i64 qc] 37)) := ((Below.refl _ _).alloc (Nat.le_refl _) _).alloc (by simp) _
  have cn := fun w hT => new_ix s w (by omega) hv hT
  have co1 := fun b w h => off_good b s w h hv (by omega) pl pc k hk
  have co2 := fun b w h => off_good b s w h hv (by omega) ql qc j hj
  obtain ⟨o1, o2⟩ := off_order hk hj
  have hless : lessB pl pc ql qc = decide ((k : Int) < (j : Int)) := by rw [Bool.eq_iff_iff, lessB_iff, decide_eq_true_eq, o1]; omega
  have cl := fun w => less_any pl pc ql qc w
  rw [hless] at cl
  have O2 := Lib.hid o2
  clear hv hk hj o1 o2 hless
  go_enter Tryd.func7, Tryd.ntmps7
  go_wp2_with fail
  generalize hW0 : (w.alloc (.cells #[.int .i64 pl, .int .i64 pc] 37)).alloc (.cells #[.int .i64 ql, .int .i64 qc] 37) = W0 at *
  have p0 : W0.cell? ⟨w.heap.size, 0, none⟩ = some (.int .i64 pl) := by rw [← hW0]; simp
  have p1 : W0.cell? ⟨w.heap.size, 1, none⟩ = some (.int .i64 pc) := by rw [← hW0]; simp
  have q0 : W0.cell? ⟨w.heap.size + 1, 0, none⟩ = some (.int .i64 ql) := by rw [← hW0]; simp
  have q1 : W0.cell? ⟨w.heap.size + 1, 1, none⟩ = some (.int .i64 qc) := by rw [← hW0]; simp
  clear hW0
  refine (cw _ (tabs_below hT hb0 h2)).mono ?_
  rintro e w1 ⟨rfl, hb1'⟩
  have hb1 := hb0.trans (hb1'.mono hb0.size)
  replace p0 := keepB hb1' p0
  replace p1 := keepB hb1' p1
  replace q0 := keepB hb1' q0
  replace q1 := keepB hb1' q1
  clear hb1'
  go_wp2_with fail
  refine Calls.mono (cn _ (tabs_below hT hb1 h2)) ?_
  rintro e w2 ⟨b, rfl, hI, hb2'⟩
  have hb2 := hb1.trans (hb2'.mono hb1.size)
  replace p0 := keepB hb2' p0
  replace p1 := keepB hb2' p1
  replace q0 := keepB hb2' q0
  replace q1 := keepB hb2' q1
  clear hb2' cn
  have HI := Lib.hid hI
  clear hI
  go_wp2_with fail
  refine (co1 b _ HI.out).mono ?_
  rintro e w3 ⟨rfl, hb3'⟩
  have hb3 := hb2.trans (hb3'.mono hb2.size)
  replace p0 := keepB hb3' p0
  replace p1 := keepB hb3' p1
  replace q0 := keepB hb3' q0
  replace q1 := keepB hb3' q1
  go_wp2_with fail
  refine (co2 b _ (HI.out.below (Nat.le_refl _) hb3')).mono ?_
  rintro e w4 ⟨rfl, hb4'⟩
  have hb4 := hb3.trans (hb4'.mono hb3.size)
  replace p0 := keepB hb4' p0
  replace p1 := keepB hb4' p1
  replace q0 := keepB hb4' q0
  replace q1 := keepB hb4' q1
  clear hb3' hb4' co1 co2 cw
  go_wp2_with fail
  refine (cl _).mono ?_
  rintro e w5 ⟨rfl, hb5'⟩
  have hb5 := hb4.trans (hb5'.mono hb4.size)
  replace p0 := keepB hb5' p0
  replace p1 := keepB hb5' p1
  replace q0 := keepB hb5' q0
  replace q1 := keepB hb5' q1
  clear hb5' cl
  go_wp2
  all_goals
    have O := O2.out
    go_ret
    refine ⟨congrArg (fun b => Ending.returned (.bool b)) ?_, hb5⟩
    first
    | (show ((k : Int) == (j : Int)) = true; rw [beq_iff_eq]; omega)
    | (show (!((k : Int) == (j : Int))) = true; rw [Bool.not_eq_true', beq_eq_false_iff_ne]; intro hkj; have O3 := O.2 (by omega); omega)

set_option maxHeartbeats 1600000 in
theorem order_right (s : ByteArray) (pl pc ql qc : Int) (w : World) (hT : Lib.Utf8Tabs 1 2 w) (h : s.size ≤ 3000) (hv : validS s = true) (k : Nat) (hk : OffAt s pl pc k) (hj : ∀ j, ¬ OffAt s ql qc j) :
    Calls Tryd.prog 7 #[.string s, .agg #[.int .i64 pl, .int .i64 pc], .agg #[.int .i64 ql, .int .i64 qc]] w fun e w' => e = .returned (.bool true) ∧ Below w.heap.size w w' := by
  have h2 := tabs_size hT
  have cw := awake_any
  have hb0 : Below w.heap.size w ((w.alloc (.cells #[.int .i64 pl, .int .i64 pc] 37)).alloc (.cells #[.int .i64 ql, .int .i64 qc] 37)) := ((Below.refl _ _).alloc (Nat.le_refl _) _).alloc (by simp) _
  have cn := fun w hT => new_ix s w (by omega) hv hT
  have co1 := fun b w h => off_good b s w h hv (by omega) pl pc k hk
  have co2 := fun b w h => off_bad b s w h hv (by omega) ql qc hj
  clear hv
  go_enter Tryd.func7, Tryd.ntmps7
  go_wp2_with fail
  generalize hW0 : (w.alloc (.cells #[.int .i64 pl, .int .i64 pc] 37)).alloc (.cells #[.int .i64 ql, .int .i64 qc] 37) = W0 at *
  have p0 : W0.cell? ⟨w.heap.size, 0, none⟩ = some (.int .i64 pl) := by rw [← hW0]; simp
  have p1 : W0.cell? ⟨w.heap.size, 1, none⟩ = some (.int .i64 pc) := by rw [← hW0]; simp
  have q0 : W0.cell? ⟨w.heap.size + 1, 0, none⟩ = some (.int .i64 ql) := by rw [← hW0]; simp
  have q1 : W0.cell? ⟨w.heap.size + 1, 1, none⟩ = some (.int .i64 qc) := by rw [← hW0]; simp
  clear hW0
  refine (cw _ (tabs_below hT hb0 h2)).mono ?_
  rintro e w1 ⟨rfl, hb1'⟩
  have hb1 := hb0.trans (hb1'.mono hb0.size)
  replace p0 := keepB hb1' p0
  replace p1 := keepB hb1' p1
  replace q0 := keepB hb1' q0
  replace q1 := keepB hb1' q1
  clear hb1'
  go_wp2_with fail
  refine Calls.mono (cn _ (tabs_below hT hb1 h2)) ?_
  rintro e w2 ⟨b, rfl, hI, hb2'⟩
  have hb2 := hb1.trans (hb2'.mono hb1.size)
  replace p0 := keepB hb2' p0
  replace p1 := keepB hb2' p1
  replace q0 := keepB hb2' q0
  replace q1 := keepB hb2' q1
  clear hb2' cn
  have HI := Lib.hid hI
  clear hI
  go_wp2_with fail
  refine (co1 b _ HI.out).mono ?_
  rintro e w3 ⟨rfl, hb3'⟩
  have hb3 := hb2.trans (hb3'.mono hb2.size)
  replace p0 := keepB hb3' p0
  replace p1 := keepB hb3' p1
  replace q0 := keepB hb3' q0
  replace q1 := keepB hb3' q1
  go_wp2_with fail
  refine (co2 b _ (HI.out.below (Nat.le_refl _) hb3')).mono ?_
  rintro e w4 ⟨rfl, hb4'⟩
  have hb4 := hb3.trans (hb4'.mono hb3.size)
  replace p0 := keepB hb4' p0
  replace p1 := keepB hb4' p1
  replace q0 := keepB hb4' q0
  replace q1 := keepB hb4' q1
  clear hb3' hb4' co1 co2 cw
  go_wp2
  go_ret
  exact ⟨rfl, hb4⟩

set_option maxHeartbeats 1600000 in
theorem order_left (s : ByteArray) (pl pc ql qc : Int) (w : World) (hT : Lib.Utf8Tabs 1 2 w) (h : s.size ≤ 3000) (hv : validS s = true) (j : Nat) (hk : ∀ k, ¬ OffAt s pl pc k) (hj : OffAt s ql qc j) :
    Calls Tryd.prog 7 #[.string s, .agg #[.int .i64 pl, .int .i64 pc], .agg #[.int .i64 ql, .int .i64 qc]] w fun e w' => e = .returned (.bool true) ∧ Below w.heap.size w w' := by
  have h2 := tabs_size hT
  have cw := awake_any
  have hb0 : Below w.heap.size w ((w.alloc (.cells #[.int .i64 pl, .int .i64 pc] 37)).alloc (.cells #[.int .i64 ql, .int .i64 qc] 37)) := ((Below.refl _ _).alloc (Nat.le_refl _) _).alloc (by simp) _
  have cn := fun w hT => new_ix s w (by omega) hv hT
  have co1 := fun b w h => off_bad b s w h hv (by omega) pl pc hk
  have co2 := fun b w h => off_good b s w h hv (by omega) ql qc j hj
  clear hv
  go_enter Tryd.func7, Tryd.ntmps7
  go_wp2_with fail
  generalize hW0 : (w.alloc (.cells #[.int .i64 pl, .int .i64 pc] 37)).alloc (.cells #[.int .i64 ql, .int .i64 qc] 37) = W0 at *
  have p0 : W0.cell? ⟨w.heap.size, 0, none⟩ = some (.int .i64 pl) := by rw [← hW0]; simp
  have p1 : W0.cell? ⟨w.heap.size, 1, none⟩ = some (.int .i64 pc) := by rw [← hW0]; simp
  have q0 : W0.cell? ⟨w.heap.size + 1, 0, none⟩ = some (.int .i64 ql) := by rw [← hW0]; simp
  have q1 : W0.cell? ⟨w.heap.size + 1, 1, none⟩ = some (.int .i64 qc) := by rw [← hW0]; simp
  clear hW0
  refine (cw _ (tabs_below hT hb0 h2)).mono ?_
  rintro e w1 ⟨rfl, hb1'⟩
  have hb1 := hb0.trans (hb1'.mono hb0.size)
  replace p0 := keepB hb1' p0
  replace p1 := keepB hb1' p1
  replace q0 := keepB hb1' q0
  replace q1 := keepB hb1' q1
  clear hb1'
  go_wp2_with fail
  refine Calls.mono (cn _ (tabs_below hT hb1 h2)) ?_
  rintro e w2 ⟨b, rfl, hI, hb2'⟩
  have hb2 := hb1.trans (hb2'.mono hb1.size)
  replace p0 := keepB hb2' p0
  replace p1 := keepB hb2' p1
  replace q0 := keepB hb2' q0
  replace q1 := keepB hb2' q1
  clear hb2' cn
  have HI := Lib.hid hI
  clear hI
  go_wp2_with fail
  refine (co1 b _ HI.out).mono ?_
  rintro e w3 ⟨rfl, hb3'⟩
  have hb3 := hb2.trans (hb3'.mono hb2.size)
  replace p0 := keepB hb3' p0
  replace p1 := keepB hb3' p1
  replace q0 := keepB hb3' q0
  replace q1 := keepB hb3' q1
  go_wp2_with fail
  refine (co2 b _ (HI.out.below (Nat.le_refl _) hb3')).mono ?_
  rintro e w4 ⟨rfl, hb4'⟩
  have hb4 := hb3.trans (hb4'.mono hb3.size)
  replace p0 := keepB hb4' p0
  replace p1 := keepB hb4' p1
  replace q0 := keepB hb4' q0
  replace q1 := keepB hb4' q1
  clear hb3' hb4' co1 co2 cw
  go_wp2
  go_ret
  exact ⟨rfl, hb4⟩

set_option maxHeartbeats 1600000 in
theorem order_no (s : ByteArray) (pl pc ql qc : Int) (w : World) (hT : Lib.Utf8Tabs 1 2 w) (h : s.size ≤ 3000) (hv : validS s = true) (hk : ∀ k, ¬ OffAt s pl pc k) (hj : ∀ j, ¬ OffAt s ql qc j) :
    Calls Tryd.prog 7 #[.string s, .agg #[.int .i64 pl, .int .i64 pc], .agg #[.int .i64 ql, .int .i64 qc]] w fun e w' => e = .returned (.bool true) ∧ Below w.heap.size w w' := by
  have h2 := tabs_size hT
  have cw := awake_any
  have hb0 : Below w.heap.size w ((w.alloc (.cells #[.int .i64 pl, .int .i64 pc] 37)).alloc (.cells #[.int .i64 ql, .int .i64 qc] 37)) := ((Below.refl _ _).alloc (Nat.le_refl _) _).alloc (by simp) _
  have cn := fun w hT => new_ix s w (by omega) hv hT
  have co1 := fun b w h => off_bad b s w h hv (by omega) pl pc hk
  have co2 := fun b w h => off_bad b s w h hv (by omega) ql qc hj
  clear hv
  go_enter Tryd.func7, Tryd.ntmps7
  go_wp2_with fail
  generalize hW0 : (w.alloc (.cells #[.int .i64 pl, .int .i64 pc] 37)).alloc (.cells #[.int .i64 ql, .int .i64 qc] 37) = W0 at *
  have p0 : W0.cell? ⟨w.heap.size, 0, none⟩ = some (.int .i64 pl) := by rw [← hW0]; simp
  have p1 : W0.cell? ⟨w.heap.size, 1, none⟩ = some (.int .i64 pc) := by rw [← hW0]; simp
  have q0 : W0.cell? ⟨w.heap.size + 1, 0, none⟩ = some (.int .i64 ql) := by rw [← hW0]; simp
  have q1 : W0.cell? ⟨w.heap.size + 1, 1, none⟩ = some (.int .i64 qc) := by rw [← hW0]; simp
  clear hW0
  refine (cw _ (tabs_below hT hb0 h2)).mono ?_
  rintro e w1 ⟨rfl, hb1'⟩
  have hb1 := hb0.trans (hb1'.mono hb0.size)
  replace p0 := keepB hb1' p0
  replace p1 := keepB hb1' p1
  replace q0 := keepB hb1' q0
  replace q1 := keepB hb1' q1
  clear hb1'
  go_wp2_with fail
  refine Calls.mono (cn _ (tabs_below hT hb1 h2)) ?_
  rintro e w2 ⟨b, rfl, hI, hb2'⟩
  have hb2 := hb1.trans (hb2'.mono hb1.size)
  replace p0 := keepB hb2' p0
  replace p1 := keepB hb2' p1
  replace q0 := keepB hb2' q0
  replace q1 := keepB hb2' q1
  clear hb2' cn
  have HI := Lib.hid hI
  clear hI
  go_wp2_with fail
  refine (co1 b _ HI.out).mono ?_
  rintro e w3 ⟨rfl, hb3'⟩
  have hb3 := hb2.trans (hb3'.mono hb2.size)
  replace p0 := keepB hb3' p0
  replace p1 := keepB hb3' p1
  replace q0 := keepB hb3' q0
  replace q1 := keepB hb3' q1
  go_wp2_with fail
  refine (co2 b _ (HI.out.below (Nat.le_refl _) hb3')).mono ?_
  rintro e w4 ⟨rfl, hb4'⟩
  have hb4 := hb3.trans (hb4'.mono hb3.size)
  replace p0 := keepB hb4' p0
  replace p1 := keepB hb4' p1
  replace q0 := keepB hb4' q0
  replace q1 := keepB hb4' q1
  clear hb3' hb4' co1 co2 cw
  go_wp2
  go_ret
  exact ⟨rfl, hb4⟩

theorem linesOrder_walk (s : ByteArray) (pl pc ql qc : Int) (w : World) (hT : Lib.Utf8Tabs 1 2 w) :
    Calls Tryd.prog 7 #[.string s, .agg #[.int .i64 pl, .int .i64 pc], .agg #[.int .i64 ql, .int .i64 qc]] w fun e w' => e = .returned (.bool true) ∧ Below w.heap.size w w' := by
  by_cases h : s.size ≤ 3000
  · cases hv : validS s
    · exact order_none s pl pc ql qc w hT h hv
    by_cases hk : ∃ k, OffAt s pl pc k
    · obtain ⟨k, hk⟩ := hk
      by_cases hj : ∃ j, OffAt s ql qc j
      · obtain ⟨j, hj⟩ := hj
        exact order_both s pl pc ql qc w hT h hv k j hk hj
      · exact order_right s pl pc ql qc w hT h hv k hk fun j hjj => hj ⟨j, hjj⟩
    · by_cases hj : ∃ j, OffAt s ql qc j
      · obtain ⟨j, hj⟩ := hj
        exact order_left s pl pc ql qc w hT h hv j (fun k hkk => hk ⟨k, hkk⟩) hj
      · exact order_no s pl pc ql qc w hT h hv (fun k hkk => hk ⟨k, hkk⟩) fun j hjj => hj ⟨j, hjj⟩
  · exact order_long s pl pc ql qc w hT (by omega)
end Go.Proofs.YtfhkahnajjbohaaDoor
