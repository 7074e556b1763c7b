/-
  head of nothing; skip.
-/
import Derived.Test.YtlafcnmopclgiaaGreatDoorF
namespace Go.Proofs.YtlafcnmopclgiaaGreatDoor
open Go.RowKit Go.Shelf

theorem op_head_nil : op .head [] = (0, none, none) := by
  simp only [op, opHead]
  rw [if_neg (by decide), if_pos (by decide)]
set_option maxRecDepth 100000 in
set_option maxHeartbeats 4000000 in
theorem head_nil (w : World) : Calls Tryz.prog 13 #[.agg #[.int .i64 0], .slice none 0 0] w (StepEnd .head [] w) := by
  have hmf := makeFunc_run
  obtain ⟨A1, hv1⟩ : ∃ A, w.alloc (.cells #[.int .i64 0] 45) = A := ⟨_, rfl⟩
  obtain ⟨A2, hv2⟩ : ∃ A, A1.alloc (.cells #[.int .i64 0, .slice none 0 0, .nilFunc] 56) = A := ⟨_, rfl⟩
  obtain ⟨A0, hv0⟩ : ∃ A, A2.alloc (.cells #[.int .u8 13, .int .u8 10, .int .u8 13, .int .u8 10] 5) = A := ⟨_, rfl⟩
  obtain ⟨A3, hv3⟩ : ∃ A, A2.alloc (.cells #[.int .u8 13, .int .u8 10, .int .u8 13, .int .u8 10] 5 (4, 5)) = A := ⟨_, rfl⟩
  have s1 : A1.heap.size = w.heap.size + 1 := by rw [← hv1]; simp
  have s2 : A2.heap.size = w.heap.size + 2 := by rw [← hv2]; simp [s1]
  have b1 : Below w.heap.size w A1 := by rw [← hv1]; exact galloc2 (Below.refl _ _) (Nat.le_refl _) _
  have b2 : Below w.heap.size w A2 := by rw [← hv2]; exact galloc2 b1 (by omega) _
  have b3 : Below w.heap.size w A3 := by rw [← hv3]; exact galloc2 b2 (by omega) _
  have hcs : (convert 30 30 (.slice (some ⟨w.heap.size + 2, 0, none⟩) 4 4)).run Tryz.prog A0 = .ok (.slice (some ⟨w.heap.size + 2, 0, none⟩) 4 4) A3 := by
    rw [← hv0, ← hv3, ← s2]; exact Lib.run_convert_bytes_const A2 30 5 #[.int .u8 13, .int .u8 10, .int .u8 13, .int .u8 10] 4 4 u31 u5
  have S2 : SBox A2 (w.heap.size + 1) (.int .i64 0) (.slice none 0 0) .nilFunc := by rw [← hv2, ← s1]; exact heap_alloc_new A1 _
  have S3 : SBox A3 (w.heap.size + 1) (.int .i64 0) (.slice none 0 0) .nilFunc := by rw [← hv3]; exact heap_old S2
  have hix := Tryz.bytes_Index_nil (some ⟨w.heap.size + 2, 0, none⟩) 4 4 A3 (by omega) (fun h => absurd h (by decide))
  have HS := Lib.hid S3
  have HB := Lib.hid b3
  obtain ⟨q0, q1, q2, qf⟩ := S3.cells
  unfold StepEnd
  rw [op_head_nil]
  clear b1 b2 b3 S2 S3
  go_enter Tryz.func13, Tryz.ntmps13
  go_wp2_with fail
  refine hix.mono ?_
  rintro e w4 ⟨rfl, rfl⟩
  rw [if_neg (by decide)]
  go_wp2_with fail
  have kF := HS.out.set (.int .i64 0) (.slice none 0 0) .nilFunc
  obtain ⟨z0, z1, z2, _⟩ := kF.cells
  refine bodyPost_ret (v := stepV 0 (.slice none 0 0) none) (by simp [results, Tryz.results13, go_sem, stepV, fnO, z0, z1, z2]) rfl ⟨.slice none 0 0, rfl, evs_none _ _, set3_below (by omega) HB.out⟩
theorem mark_lies (w : World) : Lies (w.alloc (.cells #[.int .u8 67, .int .u8 111, .int .u8 110, .int .u8 116, .int .u8 101, .int .u8 110, .int .u8 116, .int .u8 45, .int .u8 76, .int .u8 101, .int .u8 110, .int .u8 103, .int .u8 116, .int .u8 104, .int .u8 58] 5 (15, 16))) w.heap.size 0 mark := by
  intro i hi
  rw [cellH (heap_alloc_new w _)]
  match i, hi with
  | 0, _ => rfl
  | 1, _ => rfl
  | 2, _ => rfl
  | 3, _ => rfl
  | 4, _ => rfl
  | 5, _ => rfl
  | 6, _ => rfl
  | 7, _ => rfl
  | 8, _ => rfl
  | 9, _ => rfl
  | 10, _ => rfl
  | 11, _ => rfl
  | 12, _ => rfl
  | 13, _ => rfl
  | 14, _ => rfl
  | i + 15, hi => exact absurd hi (by show ¬ i + 15 < 15; omega)
theorem Lies.in {w : World} {g o : Nat} {l : List UInt8} (h : Lies w g o l) : Lib.BytesIn w (some ⟨g, o, none⟩) l.length (nums l) := fun _ => ⟨g, o, rfl, fun i hi => by rw [nums_get]; exact h i hi⟩
set_option maxRecDepth 100000 in
set_option maxHeartbeats 4000000 in
theorem skip_any (w : World) (hT : Tab w) (g o cap : Nat) (l : List UInt8) (hl : Lies w g o l) (hc : l.length ≤ cap) (hz : l.length ≤ 1000000000) :
    Calls Tryz.prog 30 #[.agg #[.int .i64 0], .slice (some ⟨g, o, none⟩) l.length cap] w (StepEnd .skip l w) := by
  have hmf := makeFunc_run
  obtain ⟨A1, hv1⟩ : ∃ A, w.alloc (.cells #[.int .i64 0] 45) = A := ⟨_, rfl⟩
  obtain ⟨A2, hv2⟩ : ∃ A, A1.alloc (.cells #[.int .i64 0, .slice none 0 0, .nilFunc] 56) = A := ⟨_, rfl⟩
  obtain ⟨A0, hv0⟩ : ∃ A, A2.alloc (.cells #[.int .u8 67, .int .u8 111, .int .u8 110, .int .u8 116, .int .u8 101, .int .u8 110, .int .u8 116, .int .u8 45, .int .u8 76, .int .u8 101, .int .u8 110, .int .u8 103, .int .u8 116, .int .u8 104, .int .u8 58] 5) = A := ⟨_, rfl⟩
  obtain ⟨A3, hv3⟩ : ∃ A, A2.alloc (.cells #[.int .u8 67, .int .u8 111, .int .u8 110, .int .u8 116, .int .u8 101, .int .u8 110, .int .u8 116, .int .u8 45, .int .u8 76, .int .u8 101, .int .u8 110, .int .u8 103, .int .u8 116, .int .u8 104, .int .u8 58] 5 (15, 16)) = A := ⟨_, rfl⟩
  have s1 : A1.heap.size = w.heap.size + 1 := by rw [← hv1]; simp
  have s2 : A2.heap.size = w.heap.size + 2 := by rw [← hv2]; simp [s1]
  have b1 : Below w.heap.size w A1 := by rw [← hv1]; exact galloc2 (Below.refl _ _) (Nat.le_refl _) _
  have b2 : Below w.heap.size w A2 := by rw [← hv2]; exact galloc2 b1 (by omega) _
  have b3 : Below w.heap.size w A3 := by rw [← hv3]; exact galloc2 b2 (by omega) _
  have hcs : (convert 30 30 (.slice (some ⟨w.heap.size + 2, 0, none⟩) 15 15)).run Tryz.prog A0 = .ok (.slice (some ⟨w.heap.size + 2, 0, none⟩) 15 15) A3 := by
    rw [← hv0, ← hv3, ← s2]; exact Lib.run_convert_bytes_const A2 30 5 #[.int .u8 67, .int .u8 111, .int .u8 110, .int .u8 116, .int .u8 101, .int .u8 110, .int .u8 116, .int .u8 45, .int .u8 76, .int .u8 101, .int .u8 110, .int .u8 103, .int .u8 116, .int .u8 104, .int .u8 58] 15 15 u31 u5
  have S2 : SBox A2 (w.heap.size + 1) (.int .i64 0) (.slice none 0 0) .nilFunc := by rw [← hv2, ← s1]; exact heap_alloc_new A1 _
  have S3 : SBox A3 (w.heap.size + 1) (.int .i64 0) (.slice none 0 0) .nilFunc := by rw [← hv3]; exact heap_old S2
  have r3 : Lies A3 (w.heap.size + 2) 0 mark := by rw [← hv3, ← s2]; exact mark_lies A2
  have l3 := hl.below b3
  have T3 := hT.below b3
  have hix := index_any A3 g o cap (w.heap.size + 2) 15 l mark l3 r3 hc hz (by decide) T3
  have hc15 : mark.length = 15 := rfl
  rw [hc15] at hix
  have hbg := fun w' (h : Below A3.heap.size A3 w') => begun_any w' (some ⟨g, o, none⟩) l cap hc hz (l3.below h).in
  have HS := Lib.hid S3
  have HB := Lib.hid b3
  have HDEF : Hid (op .skip l = if 0 ≤ Lib.index l mark then ((Lib.index l mark).toNat, none, some .head) else (l.length - begun l, none, none)) := rfl
  have hbl := (begun_le l).1
  unfold StepEnd
  generalize op .skip l = OP at *
  generalize Lib.index l mark = I at *
  generalize begun l = BG at *
  clear b1 b2 b3 S2 S3 r3 l3 T3 hl hc15 hT
  by_cases h0 : 0 ≤ I
  · obtain ⟨i, rfl⟩ := Int.eq_ofNat_of_zero_le h0
    have HD : Hid (OP = (i, none, some .head)) := Lib.hid (by rw [HDEF.out, if_pos h0]; rfl)
    have hi : ¬ (i : Int) < 0 := by omega
    clear HDEF
    go_enter Tryz.func30, Tryz.ntmps30
    go_wp2_with fail
    refine hix.mono ?_
    rintro e w4 ⟨rfl, q, rfl⟩
    have HB4 := Lib.hid (belowN (Below.refl A3.heap.size A3) q)
    have HS5 := Lib.hid (HS.out.below HB4.out)
    obtain ⟨q0, q1, q2, qf⟩ := HS5.out.cells
    go_wp2_with fail
    have kF := HS5.out.set (.int .i64 (i : Int)) (.slice none 0 0) (fnOf .head)
    obtain ⟨z0, z1, z2, _⟩ := kF.cells
    refine bodyPost_ret (v := stepV i (.slice none 0 0) (some .head)) (by simp only [fnOf] at z0 z1 z2; simp [results, Tryz.results30, go_sem, stepV, fnO, fnOf, z0, z1, z2]) rfl ⟨.slice none 0 0, by rw [HD.out], ?_, ?_⟩
    · rw [HD.out]; exact evs_none _ _
    · exact set3_below (by omega) (HB.out.trans (HB4.out.mono HB.out.size))
  · have hneg : I < 0 := by omega
    have HD : Hid (OP = (l.length - BG, none, none)) := Lib.hid (by rw [HDEF.out, if_neg h0])
    have hw : IntKind.i64.wrap ((l.length : Int) - (BG : Int)) = ((l.length - BG : Nat) : Int) := by rw [IntWalk.i64_in _ (by omega)]; omega
    clear HDEF h0
    generalize l.length - BG = U at *
    go_enter Tryz.func30, Tryz.ntmps30
    go_wp2_with fail
    refine hix.mono ?_
    rintro e w4 ⟨rfl, q, rfl⟩
    have B4 := belowN (Below.refl A3.heap.size A3) q
    have hbg4 := hbg _ B4
    have HB4 := Lib.hid B4
    clear B4 hbg
    go_wp2_with fail
    refine hbg4.mono ?_
    rintro e w5 ⟨rfl, hb5⟩
    have HB5 := Lib.hid (gcall HB4.out HB4.out.size hb5)
    clear hb5 hbg4
    have HS5 := Lib.hid (HS.out.below HB5.out)
    obtain ⟨q0, q1, q2, qf⟩ := HS5.out.cells
    go_wp2_with fail
    have kF := HS5.out.set (.int .i64 (U : Int)) (.slice none 0 0) .nilFunc
    obtain ⟨z0, z1, z2, _⟩ := kF.cells
    refine bodyPost_ret (v := stepV U (.slice none 0 0) none) (by simp [results, Tryz.results30, go_sem, stepV, fnO, z0, z1, z2]) rfl ⟨.slice none 0 0, by rw [HD.out], ?_, ?_⟩
    · rw [HD.out]; exact evs_none _ _
    · exact set3_below (by omega) (HB.out.trans (HB5.out.mono HB.out.size))
end Go.Proofs.YtlafcnmopclgiaaGreatDoor
