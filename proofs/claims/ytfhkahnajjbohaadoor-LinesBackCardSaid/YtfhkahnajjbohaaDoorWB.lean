/-
  The walk of the law LinesBack.
-/
import Derived.Test.YtfhkahnajjbohaaDoorS
import Derived.Test.YtfhkahnajjbohaaDoorX
import Derived.Test.YtfhkahnajjbohaaDoorZ2
namespace Go.Proofs.YtfhkahnajjbohaaDoor
open Go.RowKit Go.Shelf

set_option maxRecDepth 100000 in
set_option maxHeartbeats 1600000 in
theorem back_long (s : ByteArray) (pl pc at_ : Int) (w : World) (hT : Lib.Utf8Tabs 1 2 w) (h : 3000 < s.size) :
    Calls Tryd.prog 6 #[.string s, .agg #[.int .i64 pl, .int .i64 pc], .int .i64 at_] w fun e w' => e = .returned (.bool true) ∧ Below w.heap.size w w' := by
  have h2 := tabs_size hT
  have cw := awake_any
  have hb0 : Below w.heap.size w (w.alloc (.cells #[.int .i64 pl, .int .i64 pc] 37)) := (Below.refl _ _).alloc (Nat.le_refl _) _
  go_enter Tryd.func6, Tryd.ntmps6
  go_wp2_with fail
  refine (cw _ (tabs_below hT hb0 h2)).mono ?_
  rintro e w1 ⟨rfl, hb1⟩
  go_wp2
  go_ret
  exact ⟨rfl, hb0.trans (hb1.mono hb0.size)⟩

set_option maxRecDepth 100000 in
set_option maxHeartbeats 1600000 in
theorem back_none (s : ByteArray) (pl pc at_ : Int) (w : World) (hT : Lib.Utf8Tabs 1 2 w) (h : s.size ≤ 3000) (hv : validS s = false) :
    Calls Tryd.prog 6 #[.string s, .agg #[.int .i64 pl, .int .i64 pc], .int .i64 at_] w fun e w' => e = .returned (.bool true) ∧ Below w.heap.size w w' := by
  have h2 := tabs_size hT
  have cw := awake_any
  have hb0 : Below w.heap.size w (w.alloc (.cells #[.int .i64 pl, .int .i64 pc] 37)) := (Below.refl _ _).alloc (Nat.le_refl _) _
  have cn := fun w hT => new_bad s w (by omega) hv hT
  have cv := fun w => rvalid_any s w (by omega)
  simp only [hv] at cv
  clear hv
  go_enter Tryd.func6, Tryd.ntmps6
  go_wp2_with fail
  refine (cw _ (tabs_below hT hb0 h2)).mono ?_
  rintro e w1 ⟨rfl, hb1'⟩
  have hb1 := hb0.trans (hb1'.mono hb0.size)
  go_wp2_with fail
  refine (cn _ (tabs_below hT hb1 h2)).mono ?_
  rintro e w2 ⟨rfl, hb2'⟩
  have hb2 := hb1.trans (hb2'.mono hb1.size)
  go_wp2_with fail
  refine (cv _).mono ?_
  rintro e w3 ⟨rfl, rfl⟩
  go_wp2
  go_ret
  exact ⟨rfl, hb2⟩

set_option maxRecDepth 100000 in
set_option maxHeartbeats 3000000 in
theorem back_Y_bad (s : ByteArray) (pl pc : Int) (at_ : Int) (w : World) (hT : Lib.Utf8Tabs 1 2 w) (h : s.size ≤ 3000) (hv : validS s = true) (k : Nat) (hk : OffAt s pl pc k) (hp : PosBad s at_) :
    Calls Tryd.prog 6 #[.string s, .agg #[.int .i64 pl, .int .i64 pc], .int .i64 at_] w fun e w' => e = .returned (.bool true) ∧ Below w.heap.size w w' := by
  have h2 := tabs_size hT
  have cw := awake_any
  have hb0 : Below w.heap.size w (w.alloc (.cells #[.int .i64 pl, .int .i64 pc] 37)) := (Below.refl _ _).alloc (Nat.le_refl _) _
  have cn := fun w hT => new_ix s w (by omega) hv hT
  have co := fun b w h => off_good b s w h hv (by omega) pl pc k hk
  obtain ⟨i, u, rfl, rfl, hpos⟩ := off_pos hv hk
  have cp := fun b w h => pos_good b s w h (by omega) k i u hpos
  have cq := fun b w h => pos_none b s w h at_ hp
  clear hv hk hpos hp
  go_enter Tryd.func6, Tryd.ntmps6
  go_wp2_with fail
  generalize hW0 : w.alloc (.cells #[.int .i64 i, .int .i64 u] 37) = W0 at *
  have p0 : W0.cell? ⟨w.heap.size, 0, none⟩ = some (.int .i64 i) := by rw [← hW0]; simp
  have p1 : W0.cell? ⟨w.heap.size, 1, none⟩ = some (.int .i64 u) := by rw [← hW0]; simp
  clear hW0
  refine (cw _ (tabs_below hT hb0 h2)).mono ?_
  rintro e w1 ⟨rfl, hb1'⟩
  have hb1 := hb0.trans (hb1'.mono hb0.size)
  replace p0 := keepB hb1' p0
  replace p1 := keepB hb1' p1
  clear hb1'
  go_wp2_with fail
  refine Calls.mono (cn _ (tabs_below hT hb1 h2)) ?_
  rintro e w2 ⟨b, rfl, hI, hb2'⟩
  have hb2 := hb1.trans (hb2'.mono hb1.size)
  replace p0 := keepB hb2' p0
  replace p1 := keepB hb2' p1
  clear hb2' cn
  have HI := Lib.hid hI
  clear hI
  go_wp2_with fail
  refine (co b _ HI.out).mono ?_
  rintro e w3 ⟨rfl, hb3'⟩
  have hb3 := hb2.trans (hb3'.mono hb2.size)
  replace p0 := keepB hb3' p0
  replace p1 := keepB hb3' p1
  go_wp2_with fail
  refine (cp b _ (HI.out.below (Nat.le_refl _) hb3')).mono ?_
  rintro e w4 ⟨rfl, hb4'⟩
  have hI4 := hb3'.trans (hb4'.mono hb3'.size)
  have hb4 := hb3.trans (hb4'.mono hb3.size)
  replace p0 := keepB hb4' p0
  replace p1 := keepB hb4' p1
  clear hb3' hb4' co cp cw
  obtain ⟨v4, hv4⟩ : ∃ v, w4.alloc (.cells #[.int .i64 i, .int .i64 u] 37) = v := ⟨_, rfl⟩
  have hb5 : Below w.heap.size w v4 := by rw [← hv4]; exact hb4.alloc hb4.size _
  have hI5 : Below w2.heap.size w2 v4 := by rw [← hv4]; exact hI4.alloc hI4.size _
  replace p0 : v4.cell? ⟨w.heap.size, 0, none⟩ = some (.int .i64 i) := by rw [← hv4]; exact keepA _ p0
  replace p1 : v4.cell? ⟨w.heap.size, 1, none⟩ = some (.int .i64 u) := by rw [← hv4]; exact keepA _ p1
  have q0 : v4.cell? ⟨w4.heap.size, 0, none⟩ = some (.int .i64 i) := by rw [← hv4]; simp
  have q1 : v4.cell? ⟨w4.heap.size, 1, none⟩ = some (.int .i64 u) := by rw [← hv4]; simp
  clear hI4
  go_wp2_with fail
  refine (cq b _ (HI.out.below (Nat.le_refl _) hI5)).mono ?_
  rintro e w6 ⟨rfl, hb6'⟩
  have hb6 := hb5.trans (hb6'.mono hb5.size)
  have hI6 := hI5.trans (hb6'.mono hI5.size)
  clear hb6' hv4 cq hI5 p0 p1 q0 q1
  go_wp2
  go_ret
  exact ⟨rfl, hb6.alloc hb6.size _⟩

set_option maxRecDepth 100000 in
set_option maxHeartbeats 3000000 in
theorem back_Y_mid (s : ByteArray) (pl pc : Int) (j : Nat) (w : World) (hT : Lib.Utf8Tabs 1 2 w) (h : s.size ≤ 3000) (hv : validS s = true) (k : Nat) (hk : OffAt s pl pc k) (i2 u2 : Nat) (hq : PosAt s j i2 u2) (hm : midB s j) :
    Calls Tryd.prog 6 #[.string s, .agg #[.int .i64 pl, .int .i64 pc], .int .i64 j] w fun e w' => e = .returned (.bool true) ∧ Below w.heap.size w w' := by
  have h2 := tabs_size hT
  have cw := awake_any
  have hb0 : Below w.heap.size w (w.alloc (.cells #[.int .i64 pl, .int .i64 pc] 37)) := (Below.refl _ _).alloc (Nat.le_refl _) _
  have cn := fun w hT => new_ix s w (by omega) hv hT
  have co := fun b w h => off_good b s w h hv (by omega) pl pc k hk
  obtain ⟨i, u, rfl, rfl, hpos⟩ := off_pos hv hk
  have cp := fun b w h => pos_good b s w h (by omega) k i u hpos
  have cq := fun b w h => pos_good b s w h (by omega) j i2 u2 hq
  have cr := fun b w h => off_good b s w h hv (by omega) i2 u2 (j - 1) ((pos_off hq).2 hm)
  obtain ⟨m0, m1, m2, m3⟩ := hm
  rw [show ((j - 1 : Nat) : Int) = (j : Int) - 1 by omega] at cr
  have m2' : (((s[j - 1]'(by omega)).toNat : Int) == 13) = true := by rw [← get!_lt s (j - 1) (by omega), m2]; rfl
  have m3' : (((s[j]'m1).toNat : Int) == 10) = true := by rw [← get!_lt s j m1, m3]; rfl
  clear m2 m3
  clear hv hk hpos hq
  go_enter Tryd.func6, Tryd.ntmps6
  go_wp2_with fail
  generalize hW0 : w.alloc (.cells #[.int .i64 i, .int .i64 u] 37) = W0 at *
  have p0 : W0.cell? ⟨w.heap.size, 0, none⟩ = some (.int .i64 i) := by rw [← hW0]; simp
  have p1 : W0.cell? ⟨w.heap.size, 1, none⟩ = some (.int .i64 u) := by rw [← hW0]; simp
  clear hW0
  refine (cw _ (tabs_below hT hb0 h2)).mono ?_
  rintro e w1 ⟨rfl, hb1'⟩
  have hb1 := hb0.trans (hb1'.mono hb0.size)
  replace p0 := keepB hb1' p0
  replace p1 := keepB hb1' p1
  clear hb1'
  go_wp2_with fail
  refine Calls.mono (cn _ (tabs_below hT hb1 h2)) ?_
  rintro e w2 ⟨b, rfl, hI, hb2'⟩
  have hb2 := hb1.trans (hb2'.mono hb1.size)
  replace p0 := keepB hb2' p0
  replace p1 := keepB hb2' p1
  clear hb2' cn
  have HI := Lib.hid hI
  clear hI
  go_wp2_with fail
  refine (co b _ HI.out).mono ?_
  rintro e w3 ⟨rfl, hb3'⟩
  have hb3 := hb2.trans (hb3'.mono hb2.size)
  replace p0 := keepB hb3' p0
  replace p1 := keepB hb3' p1
  go_wp2_with fail
  refine (cp b _ (HI.out.below (Nat.le_refl _) hb3')).mono ?_
  rintro e w4 ⟨rfl, hb4'⟩
  have hI4 := hb3'.trans (hb4'.mono hb3'.size)
  have hb4 := hb3.trans (hb4'.mono hb3.size)
  replace p0 := keepB hb4' p0
  replace p1 := keepB hb4' p1
  clear hb3' hb4' co cp cw
  obtain ⟨v4, hv4⟩ : ∃ v, w4.alloc (.cells #[.int .i64 i, .int .i64 u] 37) = v := ⟨_, rfl⟩
  have hb5 : Below w.heap.size w v4 := by rw [← hv4]; exact hb4.alloc hb4.size _
  have hI5 : Below w2.heap.size w2 v4 := by rw [← hv4]; exact hI4.alloc hI4.size _
  replace p0 : v4.cell? ⟨w.heap.size, 0, none⟩ = some (.int .i64 i) := by rw [← hv4]; exact keepA _ p0
  replace p1 : v4.cell? ⟨w.heap.size, 1, none⟩ = some (.int .i64 u) := by rw [← hv4]; exact keepA _ p1
  have q0 : v4.cell? ⟨w4.heap.size, 0, none⟩ = some (.int .i64 i) := by rw [← hv4]; simp
  have q1 : v4.cell? ⟨w4.heap.size, 1, none⟩ = some (.int .i64 u) := by rw [← hv4]; simp
  clear hI4
  go_wp2_with fail
  refine (cq b _ (HI.out.below (Nat.le_refl _) hI5)).mono ?_
  rintro e w6 ⟨rfl, hb6'⟩
  have hb6 := hb5.trans (hb6'.mono hb5.size)
  have hI6 := hI5.trans (hb6'.mono hI5.size)
  clear hb6' hv4 cq hI5 p0 p1 q0 q1
  obtain ⟨v6, hv6⟩ : ∃ v, w6.alloc (.cells #[.int .i64 i2, .int .i64 u2] 37) = v := ⟨_, rfl⟩
  have hb7 : Below w.heap.size w v6 := by rw [← hv6]; exact hb6.alloc hb6.size _
  have hI7 : Below w2.heap.size w2 v6 := by rw [← hv6]; exact hI6.alloc hI6.size _
  have r0 : v6.cell? ⟨w6.heap.size, 0, none⟩ = some (.int .i64 i2) := by rw [← hv6]; simp
  have r1 : v6.cell? ⟨w6.heap.size, 1, none⟩ = some (.int .i64 u2) := by rw [← hv6]; simp
  clear hI6
  go_wp2_with fail
  refine (cr b _ (HI.out.below (Nat.le_refl _) hI7)).mono ?_
  rintro e w8 ⟨rfl, hb8'⟩
  have hb8 := hb7.trans (hb8'.mono hb7.size)
  clear hb8' hv6 cr hI7 r0 r1
  go_wp2
  go_ret
  exact ⟨congrArg (fun b => Ending.returned (.bool b)) (by first | rfl | exact beq_self_eq_true _), hb8⟩

set_option maxRecDepth 100000 in
set_option maxHeartbeats 3000000 in
theorem back_Y_zero (s : ByteArray) (pl pc : Int) (j : Nat) (w : World) (hT : Lib.Utf8Tabs 1 2 w) (h : s.size ≤ 3000) (hv : validS s = true) (k : Nat) (hk : OffAt s pl pc k) (i2 u2 : Nat) (hq : PosAt s j i2 u2) (hm : j = 0) :
    Calls Tryd.prog 6 #[.string s, .agg #[.int .i64 pl, .int .i64 pc], .int .i64 j] w fun e w' => e = .returned (.bool true) ∧ Below w.heap.size w w' := by
  have h2 := tabs_size hT
  have cw := awake_any
  have hb0 : Below w.heap.size w (w.alloc (.cells #[.int .i64 pl, .int .i64 pc] 37)) := (Below.refl _ _).alloc (Nat.le_refl _) _
  have cn := fun w hT => new_ix s w (by omega) hv hT
  have co := fun b w h => off_good b s w h hv (by omega) pl pc k hk
  obtain ⟨i, u, rfl, rfl, hpos⟩ := off_pos hv hk
  have cp := fun b w h => pos_good b s w h (by omega) k i u hpos
  have cq := fun b w h => pos_good b s w h (by omega) j i2 u2 hq
  have cr := fun b w h => off_good b s w h hv (by omega) i2 u2 j ((pos_off hq).1 (by rintro ⟨m0, m1, m2, m3⟩; omega))
  subst hm
  clear hv hk hpos hq
  go_enter Tryd.func6, Tryd.ntmps6
  go_wp2_with fail
  generalize hW0 : w.alloc (.cells #[.int .i64 i, .int .i64 u] 37) = W0 at *
  have p0 : W0.cell? ⟨w.heap.size, 0, none⟩ = some (.int .i64 i) := by rw [← hW0]; simp
  have p1 : W0.cell? ⟨w.heap.size, 1, none⟩ = some (.int .i64 u) := by rw [← hW0]; simp
  clear hW0
  refine (cw _ (tabs_below hT hb0 h2)).mono ?_
  rintro e w1 ⟨rfl, hb1'⟩
  have hb1 := hb0.trans (hb1'.mono hb0.size)
  replace p0 := keepB hb1' p0
  replace p1 := keepB hb1' p1
  clear hb1'
  go_wp2_with fail
  refine Calls.mono (cn _ (tabs_below hT hb1 h2)) ?_
  rintro e w2 ⟨b, rfl, hI, hb2'⟩
  have hb2 := hb1.trans (hb2'.mono hb1.size)
  replace p0 := keepB hb2' p0
  replace p1 := keepB hb2' p1
  clear hb2' cn
  have HI := Lib.hid hI
  clear hI
  go_wp2_with fail
  refine (co b _ HI.out).mono ?_
  rintro e w3 ⟨rfl, hb3'⟩
  have hb3 := hb2.trans (hb3'.mono hb2.size)
  replace p0 := keepB hb3' p0
  replace p1 := keepB hb3' p1
  go_wp2_with fail
  refine (cp b _ (HI.out.below (Nat.le_refl _) hb3')).mono ?_
  rintro e w4 ⟨rfl, hb4'⟩
  have hI4 := hb3'.trans (hb4'.mono hb3'.size)
  have hb4 := hb3.trans (hb4'.mono hb3.size)
  replace p0 := keepB hb4' p0
  replace p1 := keepB hb4' p1
  clear hb3' hb4' co cp cw
  obtain ⟨v4, hv4⟩ : ∃ v, w4.alloc (.cells #[.int .i64 i, .int .i64 u] 37) = v := ⟨_, rfl⟩
  have hb5 : Below w.heap.size w v4 := by rw [← hv4]; exact hb4.alloc hb4.size _
  have hI5 : Below w2.heap.size w2 v4 := by rw [← hv4]; exact hI4.alloc hI4.size _
  replace p0 : v4.cell? ⟨w.heap.size, 0, none⟩ = some (.int .i64 i) := by rw [← hv4]; exact keepA _ p0
  replace p1 : v4.cell? ⟨w.heap.size, 1, none⟩ = some (.int .i64 u) := by rw [← hv4]; exact keepA _ p1
  have q0 : v4.cell? ⟨w4.heap.size, 0, none⟩ = some (.int .i64 i) := by rw [← hv4]; simp
  have q1 : v4.cell? ⟨w4.heap.size, 1, none⟩ = some (.int .i64 u) := by rw [← hv4]; simp
  clear hI4
  go_wp2_with fail
  refine (cq b _ (HI.out.below (Nat.le_refl _) hI5)).mono ?_
  rintro e w6 ⟨rfl, hb6'⟩
  have hb6 := hb5.trans (hb6'.mono hb5.size)
  have hI6 := hI5.trans (hb6'.mono hI5.size)
  clear hb6' hv4 cq hI5 p0 p1 q0 q1
  obtain ⟨v6, hv6⟩ : ∃ v, w6.alloc (.cells #[.int .i64 i2, .int .i64 u2] 37) = v := ⟨_, rfl⟩
  have hb7 : Below w.heap.size w v6 := by rw [← hv6]; exact hb6.alloc hb6.size _
  have hI7 : Below w2.heap.size w2 v6 := by rw [← hv6]; exact hI6.alloc hI6.size _
  have r0 : v6.cell? ⟨w6.heap.size, 0, none⟩ = some (.int .i64 i2) := by rw [← hv6]; simp
  have r1 : v6.cell? ⟨w6.heap.size, 1, none⟩ = some (.int .i64 u2) := by rw [← hv6]; simp
  clear hI6
  go_wp2_with fail
  refine (cr b _ (HI.out.below (Nat.le_refl _) hI7)).mono ?_
  rintro e w8 ⟨rfl, hb8'⟩
  have hb8 := hb7.trans (hb8'.mono hb7.size)
  clear hb8' hv6 cr hI7 r0 r1
  go_wp2
  go_ret
  exact ⟨congrArg (fun b => Ending.returned (.bool b)) (by first | rfl | exact beq_self_eq_true _), hb8⟩

set_option maxRecDepth 100000 in
set_option maxHeartbeats 3000000 in
theorem back_Y_end (s : ByteArray) (pl pc : Int) (j : Nat) (w : World) (hT : Lib.Utf8Tabs 1 2 w) (h : s.size ≤ 3000) (hv : validS s = true) (k : Nat) (hk : OffAt s pl pc k) (i2 u2 : Nat) (hq : PosAt s j i2 u2) (h0 : 0 < j) (hm : j = s.size) :
    Calls Tryd.prog 6 #[.string s, .agg #[.int .i64 pl, .int .i64 pc], .int .i64 j] w fun e w' => e = .returned (.bool true) ∧ Below w.heap.size w w' := by
  have h2 := tabs_size hT
  have cw := awake_any
  have hb0 : Below w.heap.size w (w.alloc (.cells #[.int .i64 pl, .int .i64 pc] 37)) := (Below.refl _ _).alloc (Nat.le_refl _) _
  have cn := fun w hT => new_ix s w (by omega) hv hT
  have co := fun b w h => off_good b s w h hv (by omega) pl pc k hk
  obtain ⟨i, u, rfl, rfl, hpos⟩ := off_pos hv hk
  have cp := fun b w h => pos_good b s w h (by omega) k i u hpos
  have cq := fun b w h => pos_good b s w h (by omega) j i2 u2 hq
  have cr := fun b w h => off_good b s w h hv (by omega) i2 u2 j ((pos_off hq).1 (by rintro ⟨m0, m1, m2, m3⟩; omega))
  have hj : ¬ (j : Int) < s.size := by omega
  have HM := Lib.hid hm
  clear hm
  clear hv hk hpos hq
  go_enter Tryd.func6, Tryd.ntmps6
  go_wp2_with fail
  generalize hW0 : w.alloc (.cells #[.int .i64 i, .int .i64 u] 37) = W0 at *
  have p0 : W0.cell? ⟨w.heap.size, 0, none⟩ = some (.int .i64 i) := by rw [← hW0]; simp
  have p1 : W0.cell? ⟨w.heap.size, 1, none⟩ = some (.int .i64 u) := by rw [← hW0]; simp
  clear hW0
  refine (cw _ (tabs_below hT hb0 h2)).mono ?_
  rintro e w1 ⟨rfl, hb1'⟩
  have hb1 := hb0.trans (hb1'.mono hb0.size)
  replace p0 := keepB hb1' p0
  replace p1 := keepB hb1' p1
  clear hb1'
  go_wp2_with fail
  refine Calls.mono (cn _ (tabs_below hT hb1 h2)) ?_
  rintro e w2 ⟨b, rfl, hI, hb2'⟩
  have hb2 := hb1.trans (hb2'.mono hb1.size)
  replace p0 := keepB hb2' p0
  replace p1 := keepB hb2' p1
  clear hb2' cn
  have HI := Lib.hid hI
  clear hI
  go_wp2_with fail
  refine (co b _ HI.out).mono ?_
  rintro e w3 ⟨rfl, hb3'⟩
  have hb3 := hb2.trans (hb3'.mono hb2.size)
  replace p0 := keepB hb3' p0
  replace p1 := keepB hb3' p1
  go_wp2_with fail
  refine (cp b _ (HI.out.below (Nat.le_refl _) hb3')).mono ?_
  rintro e w4 ⟨rfl, hb4'⟩
  have hI4 := hb3'.trans (hb4'.mono hb3'.size)
  have hb4 := hb3.trans (hb4'.mono hb3.size)
  replace p0 := keepB hb4' p0
  replace p1 := keepB hb4' p1
  clear hb3' hb4' co cp cw
  obtain ⟨v4, hv4⟩ : ∃ v, w4.alloc (.cells #[.int .i64 i, .int .i64 u] 37) = v := ⟨_, rfl⟩
  have hb5 : Below w.heap.size w v4 := by rw [← hv4]; exact hb4.alloc hb4.size _
  have hI5 : Below w2.heap.size w2 v4 := by rw [← hv4]; exact hI4.alloc hI4.size _
  replace p0 : v4.cell? ⟨w.heap.size, 0, none⟩ = some (.int .i64 i) := by rw [← hv4]; exact keepA _ p0
  replace p1 : v4.cell? ⟨w.heap.size, 1, none⟩ = some (.int .i64 u) := by rw [← hv4]; exact keepA _ p1
  have q0 : v4.cell? ⟨w4.heap.size, 0, none⟩ = some (.int .i64 i) := by rw [← hv4]; simp
  have q1 : v4.cell? ⟨w4.heap.size, 1, none⟩ = some (.int .i64 u) := by rw [← hv4]; simp
  clear hI4
  go_wp2_with fail
  refine (cq b _ (HI.out.below (Nat.le_refl _) hI5)).mono ?_
  rintro e w6 ⟨rfl, hb6'⟩
  have hb6 := hb5.trans (hb6'.mono hb5.size)
  have hI6 := hI5.trans (hb6'.mono hI5.size)
  clear hb6' hv4 cq hI5 p0 p1 q0 q1
  obtain ⟨v6, hv6⟩ : ∃ v, w6.alloc (.cells #[.int .i64 i2, .int .i64 u2] 37) = v := ⟨_, rfl⟩
  have hb7 : Below w.heap.size w v6 := by rw [← hv6]; exact hb6.alloc hb6.size _
  have hI7 : Below w2.heap.size w2 v6 := by rw [← hv6]; exact hI6.alloc hI6.size _
  have r0 : v6.cell? ⟨w6.heap.size, 0, none⟩ = some (.int .i64 i2) := by rw [← hv6]; simp
  have r1 : v6.cell? ⟨w6.heap.size, 1, none⟩ = some (.int .i64 u2) := by rw [← hv6]; simp
  clear hI6
  go_wp2_with fail
  refine (cr b _ (HI.out.below (Nat.le_refl _) hI7)).mono ?_
  rintro e w8 ⟨rfl, hb8'⟩
  have hb8 := hb7.trans (hb8'.mono hb7.size)
  clear hb8' hv6 cr hI7 r0 r1
  go_wp2
  go_ret
  exact ⟨congrArg (fun b => Ending.returned (.bool b)) (by first | rfl | exact beq_self_eq_true _), hb8⟩

set_option maxRecDepth 100000 in
set_option maxHeartbeats 3000000 in
theorem back_Y_no13 (s : ByteArray) (pl pc : Int) (j : Nat) (w : World) (hT : Lib.Utf8Tabs 1 2 w) (h : s.size ≤ 3000) (hv : validS s = true) (k : Nat) (hk : OffAt s pl pc k) (i2 u2 : Nat) (hq : PosAt s j i2 u2) (h0 : 0 < j) (h1 : j < s.size) (hm : s.get! (j - 1) ≠ 13) :
    Calls Tryd.prog 6 #[.string s, .agg #[.int .i64 pl, .int .i64 pc], .int .i64 j] w fun e w' => e = .returned (.bool true) ∧ Below w.heap.size w w' := by
  have h2 := tabs_size hT
  have cw := awake_any
  have hb0 : Below w.heap.size w (w.alloc (.cells #[.int .i64 pl, .int .i64 pc] 37)) := (Below.refl _ _).alloc (Nat.le_refl _) _
  have cn := fun w hT => new_ix s w (by omega) hv hT
  have co := fun b w h => off_good b s w h hv (by omega) pl pc k hk
  obtain ⟨i, u, rfl, rfl, hpos⟩ := off_pos hv hk
  have cp := fun b w h => pos_good b s w h (by omega) k i u hpos
  have cq := fun b w h => pos_good b s w h (by omega) j i2 u2 hq
  have cr := fun b w h => off_good b s w h hv (by omega) i2 u2 j ((pos_off hq).1 (by rintro ⟨m0, m1, m2, m3⟩; exact hm m2))
  have m2' : (((s[j - 1]'(by omega)).toNat : Int) == 13) = false := by
    rw [← get!_lt s (j - 1) (by omega), beq_eq_false_iff_ne]
    intro e
    exact hm (UInt8.toNat.inj (by show _ = 13; omega))
  clear hm
  clear hv hk hpos hq
  go_enter Tryd.func6, Tryd.ntmps6
  go_wp2_with fail
  generalize hW0 : w.alloc (.cells #[.int .i64 i, .int .i64 u] 37) = W0 at *
  have p0 : W0.cell? ⟨w.heap.size, 0, none⟩ = some (.int .i64 i) := by rw [← hW0]; simp
  have p1 : W0.cell? ⟨w.heap.size, 1, none⟩ = some (.int .i64 u) := by rw [← hW0]; simp
  clear hW0
  refine (cw _ (tabs_below hT hb0 h2)).mono ?_
  rintro e w1 ⟨rfl, hb1'⟩
  have hb1 := hb0.trans (hb1'.mono hb0.size)
  replace p0 := keepB hb1' p0
  replace p1 := keepB hb1' p1
  clear hb1'
  go_wp2_with fail
  refine Calls.mono (cn _ (tabs_below hT hb1 h2)) ?_
  rintro e w2 ⟨b, rfl, hI, hb2'⟩
  have hb2 := hb1.trans (hb2'.mono hb1.size)
  replace p0 := keepB hb2' p0
  replace p1 := keepB hb2' p1
  clear hb2' cn
  have HI := Lib.hid hI
  clear hI
  go_wp2_with fail
  refine (co b _ HI.out).mono ?_
  rintro e w3 ⟨rfl, hb3'⟩
  have hb3 := hb2.trans (hb3'.mono hb2.size)
  replace p0 := keepB hb3' p0
  replace p1 := keepB hb3' p1
  go_wp2_with fail
  refine (cp b _ (HI.out.below (Nat.le_refl _) hb3')).mono ?_
  rintro e w4 ⟨rfl, hb4'⟩
  have hI4 := hb3'.trans (hb4'.mono hb3'.size)
  have hb4 := hb3.trans (hb4'.mono hb3.size)
  replace p0 := keepB hb4' p0
  replace p1 := keepB hb4' p1
  clear hb3' hb4' co cp cw
  obtain ⟨v4, hv4⟩ : ∃ v, w4.alloc (.cells #[.int .i64 i, .int .i64 u] 37) = v := ⟨_, rfl⟩
  have hb5 : Below w.heap.size w v4 := by rw [← hv4]; exact hb4.alloc hb4.size _
  have hI5 : Below w2.heap.size w2 v4 := by rw [← hv4]; exact hI4.alloc hI4.size _
  replace p0 : v4.cell? ⟨w.heap.size, 0, none⟩ = some (.int .i64 i) := by rw [← hv4]; exact keepA _ p0
  replace p1 : v4.cell? ⟨w.heap.size, 1, none⟩ = some (.int .i64 u) := by rw [← hv4]; exact keepA _ p1
  have q0 : v4.cell? ⟨w4.heap.size, 0, none⟩ = some (.int .i64 i) := by rw [← hv4]; simp
  have q1 : v4.cell? ⟨w4.heap.size, 1, none⟩ = some (.int .i64 u) := by rw [← hv4]; simp
  clear hI4
  go_wp2_with fail
  refine (cq b _ (HI.out.below (Nat.le_refl _) hI5)).mono ?_
  rintro e w6 ⟨rfl, hb6'⟩
  have hb6 := hb5.trans (hb6'.mono hb5.size)
  have hI6 := hI5.trans (hb6'.mono hI5.size)
  clear hb6' hv4 cq hI5 p0 p1 q0 q1
  obtain ⟨v6, hv6⟩ : ∃ v, w6.alloc (.cells #[.int .i64 i2, .int .i64 u2] 37) = v := ⟨_, rfl⟩
  have hb7 : Below w.heap.size w v6 := by rw [← hv6]; exact hb6.alloc hb6.size _
  have hI7 : Below w2.heap.size w2 v6 := by rw [← hv6]; exact hI6.alloc hI6.size _
  have r0 : v6.cell? ⟨w6.heap.size, 0, none⟩ = some (.int .i64 i2) := by rw [← hv6]; simp
  have r1 : v6.cell? ⟨w6.heap.size, 1, none⟩ = some (.int .i64 u2) := by rw [← hv6]; simp
  clear hI6
  go_wp2_with fail
  refine (cr b _ (HI.out.below (Nat.le_refl _) hI7)).mono ?_
  rintro e w8 ⟨rfl, hb8'⟩
  have hb8 := hb7.trans (hb8'.mono hb7.size)
  clear hb8' hv6 cr hI7 r0 r1
  go_wp2
  go_ret
  exact ⟨congrArg (fun b => Ending.returned (.bool b)) (by first | rfl | exact beq_self_eq_true _), hb8⟩

set_option maxRecDepth 100000 in
set_option maxHeartbeats 3000000 in
theorem back_Y_no10 (s : ByteArray) (pl pc : Int) (j : Nat) (w : World) (hT : Lib.Utf8Tabs 1 2 w) (h : s.size ≤ 3000) (hv : validS s = true) (k : Nat) (hk : OffAt s pl pc k) (i2 u2 : Nat) (hq : PosAt s j i2 u2) (h0 : 0 < j) (h1 : j < s.size) (hr : s.get! (j - 1) = 13) (hm : s.get! j ≠ 10) :
    Calls Tryd.prog 6 #[.string s, .agg #[.int .i64 pl, .int .i64 pc], .int .i64 j] w fun e w' => e = .returned (.bool true) ∧ Below w.heap.size w w' := by
  have h2 := tabs_size hT
  have cw := awake_any
  have hb0 : Below w.heap.size w (w.alloc (.cells #[.int .i64 pl, .int .i64 pc] 37)) := (Below.refl _ _).alloc (Nat.le_refl _) _
  have cn := fun w hT => new_ix s w (by omega) hv hT
  have co := fun b w h => off_good b s w h hv (by omega) pl pc k hk
  obtain ⟨i, u, rfl, rfl, hpos⟩ := off_pos hv hk
  have cp := fun b w h => pos_good b s w h (by omega) k i u hpos
  have cq := fun b w h => pos_good b s w h (by omega) j i2 u2 hq
  have cr := fun b w h => off_good b s w h hv (by omega) i2 u2 j ((pos_off hq).1 (by rintro ⟨m0, m1, m2, m3⟩; exact hm m3))
  have m2' : (((s[j - 1]'(by omega)).toNat : Int) == 13) = true := by rw [← get!_lt s (j - 1) (by omega), hr]; rfl
  have m3' : (((s[j]'h1).toNat : Int) == 10) = false := by
    rw [← get!_lt s j h1, beq_eq_false_iff_ne]
    intro e
    exact hm (UInt8.toNat.inj (by show _ = 10; omega))
  clear hm hr
  clear hv hk hpos hq
  go_enter Tryd.func6, Tryd.ntmps6
  go_wp2_with fail
  generalize hW0 : w.alloc (.cells #[.int .i64 i, .int .i64 u] 37) = W0 at *
  have p0 : W0.cell? ⟨w.heap.size, 0, none⟩ = some (.int .i64 i) := by rw [← hW0]; simp
  have p1 : W0.cell? ⟨w.heap.size, 1, none⟩ = some (.int .i64 u) := by rw [← hW0]; simp
  clear hW0
  refine (cw _ (tabs_below hT hb0 h2)).mono ?_
  rintro e w1 ⟨rfl, hb1'⟩
  have hb1 := hb0.trans (hb1'.mono hb0.size)
  replace p0 := keepB hb1' p0
  replace p1 := keepB hb1' p1
  clear hb1'
  go_wp2_with fail
  refine Calls.mono (cn _ (tabs_below hT hb1 h2)) ?_
  rintro e w2 ⟨b, rfl, hI, hb2'⟩
  have hb2 := hb1.trans (hb2'.mono hb1.size)
  replace p0 := keepB hb2' p0
  replace p1 := keepB hb2' p1
  clear hb2' cn
  have HI := Lib.hid hI
  clear hI
  go_wp2_with fail
  refine (co b _ HI.out).mono ?_
  rintro e w3 ⟨rfl, hb3'⟩
  have hb3 := hb2.trans (hb3'.mono hb2.size)
  replace p0 := keepB hb3' p0
  replace p1 := keepB hb3' p1
  go_wp2_with fail
  refine (cp b _ (HI.out.below (Nat.le_refl _) hb3')).mono ?_
  rintro e w4 ⟨rfl, hb4'⟩
  have hI4 := hb3'.trans (hb4'.mono hb3'.size)
  have hb4 := hb3.trans (hb4'.mono hb3.size)
  replace p0 := keepB hb4' p0
  replace p1 := keepB hb4' p1
  clear hb3' hb4' co cp cw
  obtain ⟨v4, hv4⟩ : ∃ v, w4.alloc (.cells #[.int .i64 i, .int .i64 u] 37) = v := ⟨_, rfl⟩
  have hb5 : Below w.heap.size w v4 := by rw [← hv4]; exact hb4.alloc hb4.size _
  have hI5 : Below w2.heap.size w2 v4 := by rw [← hv4]; exact hI4.alloc hI4.size _
  replace p0 : v4.cell? ⟨w.heap.size, 0, none⟩ = some (.int .i64 i) := by rw [← hv4]; exact keepA _ p0
  replace p1 : v4.cell? ⟨w.heap.size, 1, none⟩ = some (.int .i64 u) := by rw [← hv4]; exact keepA _ p1
  have q0 : v4.cell? ⟨w4.heap.size, 0, none⟩ = some (.int .i64 i) := by rw [← hv4]; simp
  have q1 : v4.cell? ⟨w4.heap.size, 1, none⟩ = some (.int .i64 u) := by rw [← hv4]; simp
  clear hI4
  go_wp2_with fail
  refine (cq b _ (HI.out.below (Nat.le_refl _) hI5)).mono ?_
  rintro e w6 ⟨rfl, hb6'⟩
  have hb6 := hb5.trans (hb6'.mono hb5.size)
  have hI6 := hI5.trans (hb6'.mono hI5.size)
  clear hb6' hv4 cq hI5 p0 p1 q0 q1
  obtain ⟨v6, hv6⟩ : ∃ v, w6.alloc (.cells #[.int .i64 i2, .int .i64 u2] 37) = v := ⟨_, rfl⟩
  have hb7 : Below w.heap.size w v6 := by rw [← hv6]; exact hb6.alloc hb6.size _
  have hI7 : Below w2.heap.size w2 v6 := by rw [← hv6]; exact hI6.alloc hI6.size _
  have r0 : v6.cell? ⟨w6.heap.size, 0, none⟩ = some (.int .i64 i2) := by rw [← hv6]; simp
  have r1 : v6.cell? ⟨w6.heap.size, 1, none⟩ = some (.int .i64 u2) := by rw [← hv6]; simp
  clear hI6
  go_wp2_with fail
  refine (cr b _ (HI.out.below (Nat.le_refl _) hI7)).mono ?_
  rintro e w8 ⟨rfl, hb8'⟩
  have hb8 := hb7.trans (hb8'.mono hb7.size)
  clear hb8' hv6 cr hI7 r0 r1
  go_wp2
  go_ret
  exact ⟨congrArg (fun b => Ending.returned (.bool b)) (by first | rfl | exact beq_self_eq_true _), hb8⟩

set_option maxRecDepth 100000 in
set_option maxHeartbeats 3000000 in
theorem back_N_bad (s : ByteArray) (pl pc : Int) (at_ : Int) (w : World) (hT : Lib.Utf8Tabs 1 2 w) (h : s.size ≤ 3000) (hv : validS s = true) (hk : ∀ k, ¬ OffAt s pl pc k) (hp : PosBad s at_) :
    Calls Tryd.prog 6 #[.string s, .agg #[.int .i64 pl, .int .i64 pc], .int .i64 at_] w fun e w' => e = .returned (.bool true) ∧ Below w.heap.size w w' := by
  have h2 := tabs_size hT
  have cw := awake_any
  have hb0 : Below w.heap.size w (w.alloc (.cells #[.int .i64 pl, .int .i64 pc] 37)) := (Below.refl _ _).alloc (Nat.le_refl _) _
  have cn := fun w hT => new_ix s w (by omega) hv hT
  have co := fun b w h => off_bad b s w h hv (by omega) pl pc hk
  have cq := fun b w h => pos_none b s w h at_ hp
  clear hv hk hp
  go_enter Tryd.func6, Tryd.ntmps6
  go_wp2_with fail
  generalize hW0 : w.alloc (.cells #[.int .i64 pl, .int .i64 pc] 37) = W0 at *
  have p0 : W0.cell? ⟨w.heap.size, 0, none⟩ = some (.int .i64 pl) := by rw [← hW0]; simp
  have p1 : W0.cell? ⟨w.heap.size, 1, none⟩ = some (.int .i64 pc) := by rw [← hW0]; simp
  clear hW0
  refine (cw _ (tabs_below hT hb0 h2)).mono ?_
  rintro e w1 ⟨rfl, hb1'⟩
  have hb1 := hb0.trans (hb1'.mono hb0.size)
  replace p0 := keepB hb1' p0
  replace p1 := keepB hb1' p1
  clear hb1'
  go_wp2_with fail
  refine Calls.mono (cn _ (tabs_below hT hb1 h2)) ?_
  rintro e w2 ⟨b, rfl, hI, hb2'⟩
  have hb2 := hb1.trans (hb2'.mono hb1.size)
  replace p0 := keepB hb2' p0
  replace p1 := keepB hb2' p1
  clear hb2' cn
  have HI := Lib.hid hI
  clear hI
  go_wp2_with fail
  refine (co b _ HI.out).mono ?_
  rintro e w3 ⟨rfl, hb3'⟩
  have hb3 := hb2.trans (hb3'.mono hb2.size)
  go_wp2_with fail
  refine (cq b _ (HI.out.below (Nat.le_refl _) hb3')).mono ?_
  rintro e w6 ⟨rfl, hb6'⟩
  have hI6 := hb3'.trans (hb6'.mono hb3'.size)
  have hb6 := hb3.trans (hb6'.mono hb3.size)
  clear hb3' hb6' co cw p0 p1 cq
  go_wp2
  go_ret
  exact ⟨rfl, hb6.alloc hb6.size _⟩

set_option maxRecDepth 100000 in
set_option maxHeartbeats 3000000 in
theorem back_N_mid (s : ByteArray) (pl pc : Int) (j : Nat) (w : World) (hT : Lib.Utf8Tabs 1 2 w) (h : s.size ≤ 3000) (hv : validS s = true) (hk : ∀ k, ¬ OffAt s pl pc k) (i2 u2 : Nat) (hq : PosAt s j i2 u2) (hm : midB s j) :
    Calls Tryd.prog 6 #[.string s, .agg #[.int .i64 pl, .int .i64 pc], .int .i64 j] w fun e w' => e = .returned (.bool true) ∧ Below w.heap.size w w' := by
  have h2 := tabs_size hT
  have cw := awake_any
  have hb0 : Below w.heap.size w (w.alloc (.cells #[.int .i64 pl, .int .i64 pc] 37)) := (Below.refl _ _).alloc (Nat.le_refl _) _
  have cn := fun w hT => new_ix s w (by omega) hv hT
  have co := fun b w h => off_bad b s w h hv (by omega) pl pc hk
  have cq := fun b w h => pos_good b s w h (by omega) j i2 u2 hq
  have cr := fun b w h => off_good b s w h hv (by omega) i2 u2 (j - 1) ((pos_off hq).2 hm)
  obtain ⟨m0, m1, m2, m3⟩ := hm
  rw [show ((j - 1 : Nat) : Int) = (j : Int) - 1 by omega] at cr
  have m2' : (((s[j - 1]'(by omega)).toNat : Int) == 13) = true := by rw [← get!_lt s (j - 1) (by omega), m2]; rfl
  have m3' : (((s[j]'m1).toNat : Int) == 10) = true := by rw [← get!_lt s j m1, m3]; rfl
  clear m2 m3
  clear hv hk hq
  go_enter Tryd.func6, Tryd.ntmps6
  go_wp2_with fail
  generalize hW0 : w.alloc (.cells #[.int .i64 pl, .int .i64 pc] 37) = W0 at *
  have p0 : W0.cell? ⟨w.heap.size, 0, none⟩ = some (.int .i64 pl) := by rw [← hW0]; simp
  have p1 : W0.cell? ⟨w.heap.size, 1, none⟩ = some (.int .i64 pc) := by rw [← hW0]; simp
  clear hW0
  refine (cw _ (tabs_below hT hb0 h2)).mono ?_
  rintro e w1 ⟨rfl, hb1'⟩
  have hb1 := hb0.trans (hb1'.mono hb0.size)
  replace p0 := keepB hb1' p0
  replace p1 := keepB hb1' p1
  clear hb1'
  go_wp2_with fail
  refine Calls.mono (cn _ (tabs_below hT hb1 h2)) ?_
  rintro e w2 ⟨b, rfl, hI, hb2'⟩
  have hb2 := hb1.trans (hb2'.mono hb1.size)
  replace p0 := keepB hb2' p0
  replace p1 := keepB hb2' p1
  clear hb2' cn
  have HI := Lib.hid hI
  clear hI
  go_wp2_with fail
  refine (co b _ HI.out).mono ?_
  rintro e w3 ⟨rfl, hb3'⟩
  have hb3 := hb2.trans (hb3'.mono hb2.size)
  go_wp2_with fail
  refine (cq b _ (HI.out.below (Nat.le_refl _) hb3')).mono ?_
  rintro e w6 ⟨rfl, hb6'⟩
  have hI6 := hb3'.trans (hb6'.mono hb3'.size)
  have hb6 := hb3.trans (hb6'.mono hb3.size)
  clear hb3' hb6' co cw p0 p1 cq
  obtain ⟨v6, hv6⟩ : ∃ v, w6.alloc (.cells #[.int .i64 i2, .int .i64 u2] 37) = v := ⟨_, rfl⟩
  have hb7 : Below w.heap.size w v6 := by rw [← hv6]; exact hb6.alloc hb6.size _
  have hI7 : Below w2.heap.size w2 v6 := by rw [← hv6]; exact hI6.alloc hI6.size _
  have r0 : v6.cell? ⟨w6.heap.size, 0, none⟩ = some (.int .i64 i2) := by rw [← hv6]; simp
  have r1 : v6.cell? ⟨w6.heap.size, 1, none⟩ = some (.int .i64 u2) := by rw [← hv6]; simp
  clear hI6
  go_wp2_with fail
  refine (cr b _ (HI.out.below (Nat.le_refl _) hI7)).mono ?_
  rintro e w8 ⟨rfl, hb8'⟩
  have hb8 := hb7.trans (hb8'.mono hb7.size)
  clear hb8' hv6 cr hI7 r0 r1
  go_wp2
  go_ret
  exact ⟨congrArg (fun b => Ending.returned (.bool b)) (by first | rfl | exact beq_self_eq_true _), hb8⟩

set_option maxRecDepth 100000 in
set_option maxHeartbeats 3000000 in
theorem back_N_zero (s : ByteArray) (pl pc : Int) (j : Nat) (w : World) (hT : Lib.Utf8Tabs 1 2 w) (h : s.size ≤ 3000) (hv : validS s = true) (hk : ∀ k, ¬ OffAt s pl pc k) (i2 u2 : Nat) (hq : PosAt s j i2 u2) (hm : j = 0) :
    Calls Tryd.prog 6 #[.string s, .agg #[.int .i64 pl, .int .i64 pc], .int .i64 j] w fun e w' => e = .returned (.bool true) ∧ Below w.heap.size w w' := by
  have h2 := tabs_size hT
  have cw := awake_any
  have hb0 : Below w.heap.size w (w.alloc (.cells #[.int .i64 pl, .int .i64 pc] 37)) := (Below.refl _ _).alloc (Nat.le_refl _) _
  have cn := fun w hT => new_ix s w (by omega) hv hT
  have co := fun b w h => off_bad b s w h hv (by omega) pl pc hk
  have cq := fun b w h => pos_good b s w h (by omega) j i2 u2 hq
  have cr := fun b w h => off_good b s w h hv (by omega) i2 u2 j ((pos_off hq).1 (by rintro ⟨m0, m1, m2, m3⟩; omega))
  subst hm
  clear hv hk hq
  go_enter Tryd.func6, Tryd.ntmps6
  go_wp2_with fail
  generalize hW0 : w.alloc (.cells #[.int .i64 pl, .int .i64 pc] 37) = W0 at *
  have p0 : W0.cell? ⟨w.heap.size, 0, none⟩ = some (.int .i64 pl) := by rw [← hW0]; simp
  have p1 : W0.cell? ⟨w.heap.size, 1, none⟩ = some (.int .i64 pc) := by rw [← hW0]; simp
  clear hW0
  refine (cw _ (tabs_below hT hb0 h2)).mono ?_
  rintro e w1 ⟨rfl, hb1'⟩
  have hb1 := hb0.trans (hb1'.mono hb0.size)
  replace p0 := keepB hb1' p0
  replace p1 := keepB hb1' p1
  clear hb1'
  go_wp2_with fail
  refine Calls.mono (cn _ (tabs_below hT hb1 h2)) ?_
  rintro e w2 ⟨b, rfl, hI, hb2'⟩
  have hb2 := hb1.trans (hb2'.mono hb1.size)
  replace p0 := keepB hb2' p0
  replace p1 := keepB hb2' p1
  clear hb2' cn
  have HI := Lib.hid hI
  clear hI
  go_wp2_with fail
  refine (co b _ HI.out).mono ?_
  rintro e w3 ⟨rfl, hb3'⟩
  have hb3 := hb2.trans (hb3'.mono hb2.size)
  go_wp2_with fail
  refine (cq b _ (HI.out.below (Nat.le_refl _) hb3')).mono ?_
  rintro e w6 ⟨rfl, hb6'⟩
  have hI6 := hb3'.trans (hb6'.mono hb3'.size)
  have hb6 := hb3.trans (hb6'.mono hb3.size)
  clear hb3' hb6' co cw p0 p1 cq
  obtain ⟨v6, hv6⟩ : ∃ v, w6.alloc (.cells #[.int .i64 i2, .int .i64 u2] 37) = v := ⟨_, rfl⟩
  have hb7 : Below w.heap.size w v6 := by rw [← hv6]; exact hb6.alloc hb6.size _
  have hI7 : Below w2.heap.size w2 v6 := by rw [← hv6]; exact hI6.alloc hI6.size _
  have r0 : v6.cell? ⟨w6.heap.size, 0, none⟩ = some (.int .i64 i2) := by rw [← hv6]; simp
  have r1 : v6.cell? ⟨w6.heap.size, 1, none⟩ = some (.int .i64 u2) := by rw [← hv6]; simp
  clear hI6
  go_wp2_with fail
  refine (cr b _ (HI.out.below (Nat.le_refl _) hI7)).mono ?_
  rintro e w8 ⟨rfl, hb8'⟩
  have hb8 := hb7.trans (hb8'.mono hb7.size)
  clear hb8' hv6 cr hI7 r0 r1
  go_wp2
  go_ret
  exact ⟨congrArg (fun b => Ending.returned (.bool b)) (by first | rfl | exact beq_self_eq_true _), hb8⟩

set_option maxRecDepth 100000 in
set_option maxHeartbeats 3000000 in
theorem back_N_end (s : ByteArray) (pl pc : Int) (j : Nat) (w : World) (hT : Lib.Utf8Tabs 1 2 w) (h : s.size ≤ 3000) (hv : validS s = true) (hk : ∀ k, ¬ OffAt s pl pc k) (i2 u2 : Nat) (hq : PosAt s j i2 u2) (h0 : 0 < j) (hm : j = s.size) :
    Calls Tryd.prog 6 #[.string s, .agg #[.int .i64 pl, .int .i64 pc], .int .i64 j] w fun e w' => e = .returned (.bool true) ∧ Below w.heap.size w w' := by
  have h2 := tabs_size hT
  have cw := awake_any
  have hb0 : Below w.heap.size w (w.alloc (.cells #[.int .i64 pl, .int .i64 pc] 37)) := (Below.refl _ _).alloc (Nat.le_refl _) _
  have cn := fun w hT => new_ix s w (by omega) hv hT
  have co := fun b w h => off_bad b s w h hv (by omega) pl pc hk
  have cq := fun b w h => pos_good b s w h (by omega) j i2 u2 hq
  have cr := fun b w h => off_good b s w h hv (by omega) i2 u2 j ((pos_off hq).1 (by rintro ⟨m0, m1, m2, m3⟩; omega))
  have hj : ¬ (j : Int) < s.size := by omega
  have HM := Lib.hid hm
  clear hm
  clear hv hk hq
  go_enter Tryd.func6, Tryd.ntmps6
  go_wp2_with fail
  generalize hW0 : w.alloc (.cells #[.int .i64 pl, .int .i64 pc] 37) = W0 at *
  have p0 : W0.cell? ⟨w.heap.size, 0, none⟩ = some (.int .i64 pl) := by rw [← hW0]; simp
  have p1 : W0.cell? ⟨w.heap.size, 1, none⟩ = some (.int .i64 pc) := by rw [← hW0]; simp
  clear hW0
  refine (cw _ (tabs_below hT hb0 h2)).mono ?_
  rintro e w1 ⟨rfl, hb1'⟩
  have hb1 := hb0.trans (hb1'.mono hb0.size)
  replace p0 := keepB hb1' p0
  replace p1 := keepB hb1' p1
  clear hb1'
  go_wp2_with fail
  refine Calls.mono (cn _ (tabs_below hT hb1 h2)) ?_
  rintro e w2 ⟨b, rfl, hI, hb2'⟩
  have hb2 := hb1.trans (hb2'.mono hb1.size)
  replace p0 := keepB hb2' p0
  replace p1 := keepB hb2' p1
  clear hb2' cn
  have HI := Lib.hid hI
  clear hI
  go_wp2_with fail
  refine (co b _ HI.out).mono ?_
  rintro e w3 ⟨rfl, hb3'⟩
  have hb3 := hb2.trans (hb3'.mono hb2.size)
  go_wp2_with fail
  refine (cq b _ (HI.out.below (Nat.le_refl _) hb3')).mono ?_
  rintro e w6 ⟨rfl, hb6'⟩
  have hI6 := hb3'.trans (hb6'.mono hb3'.size)
  have hb6 := hb3.trans (hb6'.mono hb3.size)
  clear hb3' hb6' co cw p0 p1 cq
  obtain ⟨v6, hv6⟩ : ∃ v, w6.alloc (.cells #[.int .i64 i2, .int .i64 u2] 37) = v := ⟨_, rfl⟩
  have hb7 : Below w.heap.size w v6 := by rw [← hv6]; exact hb6.alloc hb6.size _
  have hI7 : Below w2.heap.size w2 v6 := by rw [← hv6]; exact hI6.alloc hI6.size _
  have r0 : v6.cell? ⟨w6.heap.size, 0, none⟩ = some (.int .i64 i2) := by rw [← hv6]; simp
  have r1 : v6.cell? ⟨w6.heap.size, 1, none⟩ = some (.int .i64 u2) := by rw [← hv6]; simp
  clear hI6
  go_wp2_with fail
  refine (cr b _ (HI.out.below (Nat.le_refl _) hI7)).mono ?_
  rintro e w8 ⟨rfl, hb8'⟩
  have hb8 := hb7.trans (hb8'.mono hb7.size)
  clear hb8' hv6 cr hI7 r0 r1
  go_wp2
  go_ret
  exact ⟨congrArg (fun b => Ending.returned (.bool b)) (by first | rfl | exact beq_self_eq_true _), hb8⟩

set_option maxRecDepth 100000 in
set_option maxHeartbeats 3000000 in
theorem back_N_no13 (s : ByteArray) (pl pc : Int) (j : Nat) (w : World) (hT : Lib.Utf8Tabs 1 2 w) (h : s.size ≤ 3000) (hv : validS s = true) (hk : ∀ k, ¬ OffAt s pl pc k) (i2 u2 : Nat) (hq : PosAt s j i2 u2) (h0 : 0 < j) (h1 : j < s.size) (hm : s.get! (j - 1) ≠ 13) :
    Calls Tryd.prog 6 #[.string s, .agg #[.int .i64 pl, .int .i64 pc], .int .i64 j] w fun e w' => e = .returned (.bool true) ∧ Below w.heap.size w w' := by
  have h2 := tabs_size hT
  have cw := awake_any
  have hb0 : Below w.heap.size w (w.alloc (.cells #[.int .i64 pl, .int .i64 pc] 37)) := (Below.refl _ _).alloc (Nat.le_refl _) _
  have cn := fun w hT => new_ix s w (by omega) hv hT
  have co := fun b w h => off_bad b s w h hv (by omega) pl pc hk
  have cq := fun b w h => pos_good b s w h (by omega) j i2 u2 hq
  have cr := fun b w h => off_good b s w h hv (by omega) i2 u2 j ((pos_off hq).1 (by rintro ⟨m0, m1, m2, m3⟩; exact hm m2))
  have m2' : (((s[j - 1]'(by omega)).toNat : Int) == 13) = false := by
    rw [← get!_lt s (j - 1) (by omega), beq_eq_false_iff_ne]
    intro e
    exact hm (UInt8.toNat.inj (by show _ = 13; omega))
  clear hm
  clear hv hk hq
  go_enter Tryd.func6, Tryd.ntmps6
  go_wp2_with fail
  generalize hW0 : w.alloc (.cells #[.int .i64 pl, .int .i64 pc] 37) = W0 at *
  have p0 : W0.cell? ⟨w.heap.size, 0, none⟩ = some (.int .i64 pl) := by rw [← hW0]; simp
  have p1 : W0.cell? ⟨w.heap.size, 1, none⟩ = some (.int .i64 pc) := by rw [← hW0]; simp
  clear hW0
  refine (cw _ (tabs_below hT hb0 h2)).mono ?_
  rintro e w1 ⟨rfl, hb1'⟩
  have hb1 := hb0.trans (hb1'.mono hb0.size)
  replace p0 := keepB hb1' p0
  replace p1 := keepB hb1' p1
  clear hb1'
  go_wp2_with fail
  refine Calls.mono (cn _ (tabs_below hT hb1 h2)) ?_
  rintro e w2 ⟨b, rfl, hI, hb2'⟩
  have hb2 := hb1.trans (hb2'.mono hb1.size)
  replace p0 := keepB hb2' p0
  replace p1 := keepB hb2' p1
  clear hb2' cn
  have HI := Lib.hid hI
  clear hI
  go_wp2_with fail
  refine (co b _ HI.out).mono ?_
  rintro e w3 ⟨rfl, hb3'⟩
  have hb3 := hb2.trans (hb3'.mono hb2.size)
  go_wp2_with fail
  refine (cq b _ (HI.out.below (Nat.le_refl _) hb3')).mono ?_
  rintro e w6 ⟨rfl, hb6'⟩
  have hI6 := hb3'.trans (hb6'.mono hb3'.size)
  have hb6 := hb3.trans (hb6'.mono hb3.size)
  clear hb3' hb6' co cw p0 p1 cq
  obtain ⟨v6, hv6⟩ : ∃ v, w6.alloc (.cells #[.int .i64 i2, .int .i64 u2] 37) = v := ⟨_, rfl⟩
  have hb7 : Below w.heap.size w v6 := by rw [← hv6]; exact hb6.alloc hb6.size _
  have hI7 : Below w2.heap.size w2 v6 := by rw [← hv6]; exact hI6.alloc hI6.size _
  have r0 : v6.cell? ⟨w6.heap.size, 0, none⟩ = some (.int .i64 i2) := by rw [← hv6]; simp
  have r1 : v6.cell? ⟨w6.heap.size, 1, none⟩ = some (.int .i64 u2) := by rw [← hv6]; simp
  clear hI6
  go_wp2_with fail
  refine (cr b _ (HI.out.below (Nat.le_refl _) hI7)).mono ?_
  rintro e w8 ⟨rfl, hb8'⟩
  have hb8 := hb7.trans (hb8'.mono hb7.size)
  clear hb8' hv6 cr hI7 r0 r1
  go_wp2
  go_ret
  exact ⟨congrArg (fun b => Ending.returned (.bool b)) (by first | rfl | exact beq_self_eq_true _), hb8⟩

set_option maxRecDepth 100000 in
set_option maxHeartbeats 3000000 in
theorem back_N_no10 (s : ByteArray) (pl pc : Int) (j : Nat) (w : World) (hT : Lib.Utf8Tabs 1 2 w) (h : s.size ≤ 3000) (hv : validS s = true) (hk : ∀ k, ¬ OffAt s pl pc k) (i2 u2 : Nat) (hq : PosAt s j i2 u2) (h0 : 0 < j) (h1 : j < s.size) (hr : s.get! (j - 1) = 13) (hm : s.get! j ≠ 10) :
    Calls Tryd.prog 6 #[.string s, .agg #[.int .i64 pl, .int .i64 pc], .int .i64 j] w fun e w' => e = .returned (.bool true) ∧ Below w.heap.size w w' := by
  have h2 := tabs_size hT
  have cw := awake_any
  have hb0 : Below w.heap.size w (w.alloc (.cells #[.int .i64 pl, .int .i64 pc] 37)) := (Below.refl _ _).alloc (Nat.le_refl _) _
  have cn := fun w hT => new_ix s w (by omega) hv hT
  have co := fun b w h => off_bad b s w h hv (by omega) pl pc hk
  have cq := fun b w h => pos_good b s w h (by omega) j i2 u2 hq
  have cr := fun b w h => off_good b s w h hv (by omega) i2 u2 j ((pos_off hq).1 (by rintro ⟨m0, m1, m2, m3⟩; exact hm m3))
  have m2' : (((s[j - 1]'(by omega)).toNat : Int) == 13) = true := by rw [← get!_lt s (j - 1) (by omega), hr]; rfl
  have m3' : (((s[j]'h1).toNat : Int) == 10) = false := by
    rw [← get!_lt s j h1, beq_eq_false_iff_ne]
    intro e
    exact hm (UInt8.toNat.inj (by show _ = 10; omega))
  clear hm hr
  clear hv hk hq
  go_enter Tryd.func6, Tryd.ntmps6
  go_wp2_with fail
  generalize hW0 : w.alloc (.cells #[.int .i64 pl, .int .i64 pc] 37) = W0 at *
  have p0 : W0.cell? ⟨w.heap.size, 0, none⟩ = some (.int .i64 pl) := by rw [← hW0]; simp
  have p1 : W0.cell? ⟨w.heap.size, 1, none⟩ = some (.int .i64 pc) := by rw [← hW0]; simp
  clear hW0
  refine (cw _ (tabs_below hT hb0 h2)).mono ?_
  rintro e w1 ⟨rfl, hb1'⟩
  have hb1 := hb0.trans (hb1'.mono hb0.size)
  replace p0 := keepB hb1' p0
  replace p1 := keepB hb1' p1
  clear hb1'
  go_wp2_with fail
  refine Calls.mono (cn _ (tabs_below hT hb1 h2)) ?_
  rintro e w2 ⟨b, rfl, hI, hb2'⟩
  have hb2 := hb1.trans (hb2'.mono hb1.size)
  replace p0 := keepB hb2' p0
  replace p1 := keepB hb2' p1
  clear hb2' cn
  have HI := Lib.hid hI
  clear hI
  go_wp2_with fail
  refine (co b _ HI.out).mono ?_
  rintro e w3 ⟨rfl, hb3'⟩
  have hb3 := hb2.trans (hb3'.mono hb2.size)
  go_wp2_with fail
  refine (cq b _ (HI.out.below (Nat.le_refl _) hb3')).mono ?_
  rintro e w6 ⟨rfl, hb6'⟩
  have hI6 := hb3'.trans (hb6'.mono hb3'.size)
  have hb6 := hb3.trans (hb6'.mono hb3.size)
  clear hb3' hb6' co cw p0 p1 cq
  obtain ⟨v6, hv6⟩ : ∃ v, w6.alloc (.cells #[.int .i64 i2, .int .i64 u2] 37) = v := ⟨_, rfl⟩
  have hb7 : Below w.heap.size w v6 := by rw [← hv6]; exact hb6.alloc hb6.size _
  have hI7 : Below w2.heap.size w2 v6 := by rw [← hv6]; exact hI6.alloc hI6.size _
  have r0 : v6.cell? ⟨w6.heap.size, 0, none⟩ = some (.int .i64 i2) := by rw [← hv6]; simp
  have r1 : v6.cell? ⟨w6.heap.size, 1, none⟩ = some (.int .i64 u2) := by rw [← hv6]; simp
  clear hI6
  go_wp2_with fail
  refine (cr b _ (HI.out.below (Nat.le_refl _) hI7)).mono ?_
  rintro e w8 ⟨rfl, hb8'⟩
  have hb8 := hb7.trans (hb8'.mono hb7.size)
  clear hb8' hv6 cr hI7 r0 r1
  go_wp2
  go_ret
  exact ⟨congrArg (fun b => Ending.returned (.bool b)) (by first | rfl | exact beq_self_eq_true _), hb8⟩

theorem back_at (s : ByteArray) (pl pc at_ : Int) (w : World) (hT : Lib.Utf8Tabs 1 2 w) (h : s.size ≤ 3000) (hv : validS s = true) :
    Calls Tryd.prog 6 #[.string s, .agg #[.int .i64 pl, .int .i64 pc], .int .i64 at_] w fun e w' => e = .returned (.bool true) ∧ Below w.heap.size w w' := by
  rcases pos_cases hv at_ with hp | ⟨j, i2, u2, rfl, hq⟩
  · by_cases hk : ∃ k, OffAt s pl pc k
    · obtain ⟨k, hk⟩ := hk
      exact back_Y_bad s pl pc at_ w hT h hv k hk hp
    · exact back_N_bad s pl pc at_ w hT h hv (fun k hkk => hk ⟨k, hkk⟩) hp
  · by_cases hk : ∃ k, OffAt s pl pc k
    · obtain ⟨k, hk⟩ := hk
      by_cases h0 : j = 0
      · exact back_Y_zero s pl pc j w hT h hv k hk i2 u2 hq h0
      by_cases h1 : j < s.size
      · by_cases h2 : s.get! (j - 1) = 13
        · by_cases h3 : s.get! j = 10
          · exact back_Y_mid s pl pc j w hT h hv k hk i2 u2 hq ⟨by omega, h1, h2, h3⟩
          · exact back_Y_no10 s pl pc j w hT h hv k hk i2 u2 hq (by omega) h1 h2 h3
        · exact back_Y_no13 s pl pc j w hT h hv k hk i2 u2 hq (by omega) h1 h2
      · exact back_Y_end s pl pc j w hT h hv k hk i2 u2 hq (by omega) (by have := hq.1; omega)
    · replace hk := fun k hkk => hk ⟨k, hkk⟩
      by_cases h0 : j = 0
      · exact back_N_zero s pl pc j w hT h hv hk i2 u2 hq h0
      by_cases h1 : j < s.size
      · by_cases h2 : s.get! (j - 1) = 13
        · by_cases h3 : s.get! j = 10
          · exact back_N_mid s pl pc j w hT h hv hk i2 u2 hq ⟨by omega, h1, h2, h3⟩
          · exact back_N_no10 s pl pc j w hT h hv hk i2 u2 hq (by omega) h1 h2 h3
        · exact back_N_no13 s pl pc j w hT h hv hk i2 u2 hq (by omega) h1 h2
      · exact back_N_end s pl pc j w hT h hv hk i2 u2 hq (by omega) (by have := hq.1; omega)
theorem linesBack_walk (s : ByteArray) (pl pc at_ : Int) (w : World) (hT : Lib.Utf8Tabs 1 2 w) :
    Calls Tryd.prog 6 #[.string s, .agg #[.int .i64 pl, .int .i64 pc], .int .i64 at_] w fun e w' => e = .returned (.bool true) ∧ Below w.heap.size w w' := by
  by_cases h : s.size ≤ 3000
  · cases hv : validS s
    · exact back_none s pl pc at_ w hT h hv
    · exact back_at s pl pc at_ w hT h hv
  · exact back_long s pl pc at_ w hT (by omega)
end Go.Proofs.YtfhkahnajjbohaaDoor
