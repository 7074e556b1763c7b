/-
  awake: the first example.
-/
import Derived.Test.YtlafcnmopclgiaaGreatDoorL
namespace Go.Proofs.YtlafcnmopclgiaaGreatDoor
open Go.RowKit Go.Shelf

def k1 : List UInt8 := [99, 111, 110, 116, 101, 110, 116, 45, 108, 101, 110, 103, 116, 104, 58, 32, 50, 13, 10, 120, 58, 32, 121, 13, 10, 13]
def k2 : List UInt8 := [10, 97]
def k3 : List UInt8 := [98, 99]
theorem aw1 : runA .head ([] ++ k1) = (0, [], .head) := by kernel_rfl
theorem aw2 : runA .head (k1 ++ k2) = (27, [], .body 2) := by kernel_rfl
theorem aw3 : runA (.body 2) ([97] ++ k3) = (2, [([97, 98], 0)], .head) := by kernel_rfl
theorem aw_write : WriteEnd [97, 98] = .tuple #[.string ⟨#[67, 111, 110, 116, 101, 110, 116, 45, 76, 101, 110, 103, 116, 104, 58, 32, 50, 13, 10, 13, 10, 97, 98]⟩, .int .i64 0] := by
  unfold WriteEnd; rw [if_pos (by decide)]; unfold frameOf; rw [show ([97, 98] : List UInt8).length = 2 from rfl, Lib.decDigits, dif_pos (by decide)]; rfl
theorem const_lies (w : World) (c : List UInt8) (fr : Nat × Nat) : Lies (w.alloc (.cells (c.map byV).toArray 5 fr)) w.heap.size 0 c := by
  intro i hi
  rw [cellH (heap_alloc_new w _), Nat.zero_add]
  have := byV_get c i hi
  rw [List.getElem?_toArray]; exact this
theorem const_chunk (w : World) (c : List UInt8) (fr : Nat × Nat) (n : Nat) (hn : n = c.length) : Chunk (w.alloc (.cells (c.map byV).toArray 5 fr)) (.slice (some ⟨w.heap.size, 0, none⟩) n n) c :=
  .inr ⟨w.heap.size, 0, n, by rw [hn], const_lies w c fr⟩
theorem Rd.below {B b : Nat} {m : Mode} {l : List UInt8} {w w' : World} (h : Rd B w b m l) (hb : Below w.heap.size w w') : Rd B w' b m l := by
  obtain ⟨hv, r1, r2, r3, r4, r5⟩ := h
  exact ⟨hv, r1.below hb, owns_below r2 hb, r3, r4, r5⟩
theorem evs_first {B : Nat} {w : World} {v : Value} {e : Ev} {l : List Ev} (h : EvsAt B w v (e :: l)) : ∃ g cap, v = .slice (some ⟨g, 0, none⟩) (l.length + 1) cap ∧ w.cell? ⟨g, 0, none⟩ = some (bl e.1) ∧ w.cell? ⟨g, 1, none⟩ = some (.int .i64 e.2) := by
  have hc := fun g (hg : v.ownBlock = some g) => World.ownsRow.cells h hg
  rcases h.2 with ⟨_, h2⟩ | ⟨g, cap, cur, rfl, _⟩
  · simp at h2
  · refine ⟨g, cap, rfl, ?_, ?_⟩
    · have := hc g rfl 0 _ rfl
      rw [addr_add] at this; exact this
    · have := hc g rfl 1 _ rfl
      rw [addr_add] at this; exact this
set_option maxRecDepth 100000 in
set_option maxHeartbeats 4000000 in
theorem awake_any (w : World) (hT : Tab w) (h11 : 11 ≤ w.heap.size) : Calls Tryz.prog 5 #[] w fun e w' => e = .returned (.bool true) ∧ Below w.heap.size w w' := by
  have hnew := new_any w
  go_enter Tryz.func5, Tryz.ntmps5
  go_wp2_with fail
  refine hnew.mono ?_
  rintro e w1 ⟨rfl, R1, b1⟩
  have s1 := b1.size
  have T1 := hT.below b1
  clear hnew
  obtain ⟨A1, hv1⟩ : ∃ A, w1.alloc (.cells #[.int .u8 99, .int .u8 111, .int .u8 110, .int .u8 116, .int .u8 101, .int .u8 110, .int .u8 116, .int .u8 45, .int .u8 108, .int .u8 101, .int .u8 110, .int .u8 103, .int .u8 116, .int .u8 104, .int .u8 58, .int .u8 32, .int .u8 50, .int .u8 13, .int .u8 10, .int .u8 120, .int .u8 58, .int .u8 32, .int .u8 121, .int .u8 13, .int .u8 10, .int .u8 13] 5) = A := ⟨_, rfl⟩
  obtain ⟨C1, hc1⟩ : ∃ A, w1.alloc (.cells #[.int .u8 99, .int .u8 111, .int .u8 110, .int .u8 116, .int .u8 101, .int .u8 110, .int .u8 116, .int .u8 45, .int .u8 108, .int .u8 101, .int .u8 110, .int .u8 103, .int .u8 116, .int .u8 104, .int .u8 58, .int .u8 32, .int .u8 50, .int .u8 13, .int .u8 10, .int .u8 120, .int .u8 58, .int .u8 32, .int .u8 121, .int .u8 13, .int .u8 10, .int .u8 13] 5 (26, 27)) = A := ⟨_, rfl⟩
  have hcs1 : (convert 30 30 (.slice (some ⟨w1.heap.size, 0, none⟩) 26 26)).run Tryz.prog A1 = .ok (.slice (some ⟨w1.heap.size, 0, none⟩) 26 26) C1 := by
    rw [← hv1, ← hc1]; exact Lib.run_convert_bytes_const w1 30 5 #[.int .u8 99, .int .u8 111, .int .u8 110, .int .u8 116, .int .u8 101, .int .u8 110, .int .u8 116, .int .u8 45, .int .u8 108, .int .u8 101, .int .u8 110, .int .u8 103, .int .u8 116, .int .u8 104, .int .u8 58, .int .u8 32, .int .u8 50, .int .u8 13, .int .u8 10, .int .u8 120, .int .u8 58, .int .u8 32, .int .u8 121, .int .u8 13, .int .u8 10, .int .u8 13] 26 26 u31 u5
  have d1 : Below w1.heap.size w1 C1 := by rw [← hc1]; exact galloc2 (Below.refl _ _) (Nat.le_refl _) _
  have hch1 : Chunk C1 (.slice (some ⟨w1.heap.size, 0, none⟩) 26 26) k1 := by rw [← hc1]; exact const_chunk w1 k1 (26, 27) 26 rfl
  have e1 := b1.trans (d1.mono s1)
  have f1 := feed_any w.heap.size C1 w.heap.size .head [] (T1.below d1) h11 e1.size (R1.below d1) _ k1 hch1 (by decide)
  unfold FeedEnd at f1
  rw [aw1] at f1
  have E1 := Lib.hid e1
  have TC1 := Lib.hid (T1.below d1)
  clear hc1 hch1 R1 d1 b1 e1 T1 s1
  go_wp2_with fail
  refine f1.mono ?_
  rintro e w2 ⟨v1, rfl, ev1, R2, g1⟩
  have b2 := E1.out.trans g1
  have s2 := b2.size
  have T2 := TC1.out.low h11 g1
  clear f1 hcs1 hv1 TC1 E1 g1
  obtain ⟨p1, q1, rfl⟩ := evs_shape ev1
  clear ev1
  have R2' : Rd w.heap.size w2 w.heap.size .head k1 := R2
  clear R2
  have R2 := R2'
  clear R2'
  obtain ⟨A2, hv2⟩ : ∃ A, w2.alloc (.cells #[.int .u8 10, .int .u8 97] 5) = A := ⟨_, rfl⟩
  obtain ⟨C2, hc2⟩ : ∃ A, w2.alloc (.cells #[.int .u8 10, .int .u8 97] 5 (2, 3)) = A := ⟨_, rfl⟩
  have hcs2 : (convert 30 30 (.slice (some ⟨w2.heap.size, 0, none⟩) 2 2)).run Tryz.prog A2 = .ok (.slice (some ⟨w2.heap.size, 0, none⟩) 2 2) C2 := by
    rw [← hv2, ← hc2]; exact Lib.run_convert_bytes_const w2 30 5 #[.int .u8 10, .int .u8 97] 2 2 u31 u5
  have d2 : Below w2.heap.size w2 C2 := by rw [← hc2]; exact galloc2 (Below.refl _ _) (Nat.le_refl _) _
  have hch2 : Chunk C2 (.slice (some ⟨w2.heap.size, 0, none⟩) 2 2) k2 := by rw [← hc2]; exact const_chunk w2 k2 (2, 3) 2 rfl
  have e2 := b2.trans (d2.mono s2)
  have f2 := feed_any w.heap.size C2 w.heap.size .head k1 (T2.below d2) h11 e2.size (R2.below d2) _ k2 hch2 (by decide)
  unfold FeedEnd at f2
  rw [aw2] at f2
  have E2 := Lib.hid e2
  have TC2 := Lib.hid (T2.below d2)
  clear hc2 hch2 R2 d2 b2 e2 T2 s2
  go_wp2_with fail
  refine f2.mono ?_
  rintro e w3 ⟨v2, rfl, ev2, R3, g2⟩
  have b3 := E2.out.trans g2
  have s3 := b3.size
  have T3 := TC2.out.low h11 g2
  clear f2 hcs2 hv2 TC2 E2 g2
  obtain ⟨p2, q2, rfl⟩ := evs_shape ev2
  clear ev2
  have R3' : Rd w.heap.size w3 w.heap.size (.body 2) [97] := R3
  clear R3
  have R3 := R3'
  clear R3'
  obtain ⟨A3, hv3⟩ : ∃ A, w3.alloc (.cells #[.int .u8 98, .int .u8 99] 5) = A := ⟨_, rfl⟩
  obtain ⟨C3, hc3⟩ : ∃ A, w3.alloc (.cells #[.int .u8 98, .int .u8 99] 5 (2, 3)) = A := ⟨_, rfl⟩
  have hcs3 : (convert 30 30 (.slice (some ⟨w3.heap.size, 0, none⟩) 2 2)).run Tryz.prog A3 = .ok (.slice (some ⟨w3.heap.size, 0, none⟩) 2 2) C3 := by
    rw [← hv3, ← hc3]; exact Lib.run_convert_bytes_const w3 30 5 #[.int .u8 98, .int .u8 99] 2 2 u31 u5
  have d3 : Below w3.heap.size w3 C3 := by rw [← hc3]; exact galloc2 (Below.refl _ _) (Nat.le_refl _) _
  have hch3 : Chunk C3 (.slice (some ⟨w3.heap.size, 0, none⟩) 2 2) k3 := by rw [← hc3]; exact const_chunk w3 k3 (2, 3) 2 rfl
  have e3 := b3.trans (d3.mono s3)
  have f3 := feed_any w.heap.size C3 w.heap.size (.body 2) [97] (T3.below d3) h11 e3.size (R3.below d3) _ k3 hch3 (by decide)
  unfold FeedEnd at f3
  rw [aw3] at f3
  have E3 := Lib.hid e3
  have TC3 := Lib.hid (T3.below d3)
  clear hc3 hch3 R3 d3 b3 e3 T3 s3
  go_wp2_with fail
  refine f3.mono ?_
  rintro e w4 ⟨v3, rfl, ev3, R4, g3⟩
  have b4 := E3.out.trans g3
  have s4 := b4.size
  have T4 := TC3.out.low h11 g3
  clear f3 hcs3 hv3 TC3 E3 g3
  obtain ⟨g, cap, rfl, x0, x1⟩ := evs_first ev3
  clear ev3 R4
  have hw := write_any ⟨#[97, 98]⟩ w4 T4
  rw [show (⟨#[97, 98]⟩ : ByteArray).data.toList = [97, 98] from rfl, aw_write] at hw
  have B4 := Lib.hid b4
  clear b4 T4
  go_wp2_with fail
  refine hw.mono ?_
  rintro e w5 ⟨rfl, b5⟩
  have y0 := (b5.cell (p := ⟨g, 0, none⟩) (World.block_lt_of_cell? w4 _ x0)).trans x0
  have y1 := (b5.cell (p := ⟨g, 1, none⟩) (World.block_lt_of_cell? w4 _ x1)).trans x1
  have B5 := Lib.hid (B4.out.trans (b5.mono s4))
  unfold bl at y0
  clear b5 x0 x1 hw
  go_wp2_with fail
  go_ret
  exact ⟨rfl, B5.out⟩
end Go.Proofs.YtlafcnmopclgiaaGreatDoor
