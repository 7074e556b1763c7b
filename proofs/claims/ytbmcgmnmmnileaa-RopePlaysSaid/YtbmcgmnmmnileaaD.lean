/-
  turnRight, turnLeft, balance.
-/
import Derived.Test.YtbmcgmnmmnileaaB
namespace Go.Proofs.Ytbmcgmnmmnileaa
open Go.RowKit Go.Shelf

theorem below_drewN {B : Nat} {a w : World} (h : Below B a w) (n : Nat) : Below B a (w.drewN n) := ⟨h.os, h.tape, h.output, h.size, h.block⟩
/-- A call that makes the tree t. -/
def Makes (w : World) (t : T) (e : Ending) (w' : World) : Prop := ∃ b, e = .returned (.pointer (some ⟨b, 0, none⟩)) ∧ At w' b t ∧ Below w.heap.size w w'
theorem concat_makes (w : World) (bl br : Nat) (l r : T) (hl : At w bl l) (hr : At w br r) (h1 : l.size + r.size ≤ 1000000000) (h2 : l.depth ≤ 1000000000) (h3 : r.depth ≤ 1000000000) :
    Calls Try.prog 40 #[.pointer (some ⟨bl, 0, none⟩), .pointer (some ⟨br, 0, none⟩)] w (Makes w (.cat l r)) := concat_ok w bl br l r hl hr h1 h2 h3

set_option maxRecDepth 100000 in
set_option maxHeartbeats 4000000 in
theorem turnR_two (w : World) (bL bR : Nat) (ll il ir r : T) (hL : At w bL (.cat ll (.cat il ir))) (hR : At w bR r) (hd : ll.depth < 1 + max il.depth ir.depth) (hs : ll.size + (il.size + ir.size) + r.size ≤ 1000000) (hz : ll.depth + il.depth + ir.depth + r.depth ≤ 1000000) :
    Calls Try.prog 59 #[.pointer (some ⟨bL, 0, none⟩), .pointer (some ⟨bR, 0, none⟩)] w (Makes w (.cat (.cat ll il) (.cat ir r))) := by
  obtain ⟨ba, bI, _, c4, c5, hll, hI⟩ := hL.cat
  obtain ⟨bb, bc, _, d4, d5, hil, hir⟩ := hI.cat
  obtain ⟨_, _, i2⟩ := hI.cells
  obtain ⟨_, _, a2⟩ := hll.cells
  have zL := At.lt hL
  have zI := At.lt hI
  rw [show (T.cat il ir).depth = 1 + max il.depth ir.depth from rfl] at i2
  have A1 : Hid (∀ W, Below w.heap.size w W → At W ba ll) := Lib.hid fun W hW => hll.below (Nat.le_refl _) hW
  have A2 : Hid (∀ W, Below w.heap.size w W → At W bb il) := Lib.hid fun W hW => hil.below (Nat.le_refl _) hW
  have A3 : Hid (∀ W, Below w.heap.size w W → At W bc ir) := Lib.hid fun W hW => hir.below (Nat.le_refl _) hW
  have A4 : Hid (∀ W, Below w.heap.size w W → At W bR r) := Lib.hid fun W hW => hR.below (Nat.le_refl _) hW
  have s1 : il.depth ≤ 1 + max il.depth ir.depth := by omega
  have hdi : (ll.depth : Int) < ((1 + max il.depth ir.depth : Nat) : Int) := by omega
  have HZ := Lib.hid hz
  have HS := Lib.hid hs
  clear hL hR hI hll hil hir hd hz hs s1
  generalize hq : 1 + max il.depth ir.depth = dq at *
  generalize hq2 : ll.depth = dl at *
  have Q2 := Lib.hid hq2
  clear hq hq2
  go_enter Try.func59, Try.ntmps59
  go_wp2
  go_quiet (fail)
  go_wp2
  have hBq : Below w.heap.size w (w.drewN nq) := below_drewN (Below.refl _ _) _
  have k4 : (w.drewN nq).cell? ⟨bL, 4, none⟩ = some (.pointer (some ⟨ba, 0, none⟩)) := c4
  have m4 : (w.drewN nq).cell? ⟨bI, 4, none⟩ = some (.pointer (some ⟨bb, 0, none⟩)) := d4
  have m5 : (w.drewN nq).cell? ⟨bI, 5, none⟩ = some (.pointer (some ⟨bc, 0, none⟩)) := d5
  have yz : (w.drewN nq).heap.size = w.heap.size := rfl
  clear c4 c5 d4 d5 i2 a2
  generalize w.drewN nq = W at *
  have yL : bL < W.heap.size := by omega
  have yI : bI < W.heap.size := by omega
  clear yz
  have e1 := HZ.out
  have e2 := HS.out
  have e3 := Q2.out
  have j1 : ll.size + il.size ≤ 1000000000 := by omega
  have j2 : ll.depth ≤ 1000000000 := by omega
  have j3 : il.depth ≤ 1000000000 := by omega
  have j4 : ir.size + r.size ≤ 1000000000 := by omega
  have j5 : ir.depth ≤ 1000000000 := by omega
  have j6 : r.depth ≤ 1000000000 := by omega
  have j7 : Hid ((T.cat ll il).size + (T.cat ir r).size ≤ 1000000000) := Lib.hid (by show ll.size + il.size + (ir.size + r.size) ≤ _; omega)
  have j8 : Hid ((T.cat ll il).depth ≤ 1000000000) := Lib.hid (by show 1 + max ll.depth il.depth ≤ _; omega)
  have j9 : Hid ((T.cat ir r).depth ≤ 1000000000) := Lib.hid (by show 1 + max ir.depth r.depth ≤ _; omega)
  clear e1 e2 e3
  go_region_held3 (fun u => u.cell? ⟨bL, 4, none⟩ = some (.pointer (some ⟨ba, 0, none⟩)) ∧ u.cell? ⟨bI, 4, none⟩ = some (.pointer (some ⟨bb, 0, none⟩)) ∧ u.cell? ⟨bI, 5, none⟩ = some (.pointer (some ⟨bc, 0, none⟩))) (first | exact ⟨k4, m4, m5⟩ | exact ⟨p4, p5, p6⟩ | exact ⟨q4, q5, q6⟩ | exact ⟨r4, r5, r6⟩ | go_keep) (first | (go_at_call 40; (with_reducible refine Calls.mono (concat_makes _ ba bb ll il (A1.out _ hBq.drew) (A2.out _ hBq.drew) j1 j2 j3) ?_); rintro e w1 ⟨b1, rfl, h1, hb1⟩; have p4 := (hb1.cell (p := ⟨bL, 4, none⟩) yL).trans k4; have p5 := (hb1.cell (p := ⟨bI, 4, none⟩) yI).trans m4; have p6 := (hb1.cell (p := ⟨bI, 5, none⟩) yI).trans m5; have hBw := hBq.drew.trans (hb1.mono hBq.drew.size)) | (go_at_call 40; (with_reducible refine Calls.mono (concat_makes _ bc bR ir r (A3.out _ hBw) (A4.out _ hBw) j4 j5 j6) ?_); rintro e w2 ⟨b2, rfl, h2, hb2⟩; have q4 := (hb2.cell (p := ⟨bL, 4, none⟩) (Nat.lt_of_lt_of_le yL hb1.size)).trans p4; have q5 := (hb2.cell (p := ⟨bI, 4, none⟩) (Nat.lt_of_lt_of_le yI hb1.size)).trans p5; have q6 := (hb2.cell (p := ⟨bI, 5, none⟩) (Nat.lt_of_lt_of_le yI hb1.size)).trans p6; have hBv := hBw.trans (hb2.mono hBw.size)) | (go_at_call 40; (with_reducible refine Calls.mono (concat_makes _ b1 b2 (.cat ll il) (.cat ir r) (h1.below (Nat.le_refl _) hb2) h2 j7.out j8.out j9.out) ?_); rintro e w3 ⟨b3, rfl, h3, hb3⟩; have r4 := (hb3.cell (p := ⟨bL, 4, none⟩) (Nat.lt_of_lt_of_le (Nat.lt_of_lt_of_le yL hb1.size) hb2.size)).trans q4; have r5 := (hb3.cell (p := ⟨bI, 4, none⟩) (Nat.lt_of_lt_of_le (Nat.lt_of_lt_of_le yI hb1.size) hb2.size)).trans q5; have r6 := (hb3.cell (p := ⟨bI, 5, none⟩) (Nat.lt_of_lt_of_le (Nat.lt_of_lt_of_le yI hb1.size) hb2.size)).trans q6))
  have hBe := hBv.trans (hb3.mono hBv.size)
  go_wp2
  go_ret
  exact ⟨b3, rfl, h3, hBe⟩
set_option maxRecDepth 100000 in
set_option maxHeartbeats 4000000 in
theorem turnR_one (w : World) (bL bR : Nat) (ll lr r : T) (hL : At w bL (.cat ll lr)) (hR : At w bR r) (hd : lr.depth ≤ ll.depth) (hs : ll.size + lr.size + r.size ≤ 1000000) (hz : ll.depth + lr.depth + r.depth ≤ 1000000) :
    Calls Try.prog 59 #[.pointer (some ⟨bL, 0, none⟩), .pointer (some ⟨bR, 0, none⟩)] w (Makes w (.cat ll (.cat lr r))) := by
  obtain ⟨ba, bI, _, c4, c5, hll, hI⟩ := hL.cat
  obtain ⟨_, _, cdep1⟩ := hI.cells
  obtain ⟨_, _, cdep2⟩ := hll.cells
  have zL := At.lt hL
  have hdi : (lr.depth : Int) ≤ (ll.depth : Int) := by omega
  have A1 : Hid (∀ W, Below w.heap.size w W → At W ba ll) := Lib.hid fun W hW => hll.below (Nat.le_refl _) hW
  have A2 : Hid (∀ W, Below w.heap.size w W → At W bI lr) := Lib.hid fun W hW => hI.below (Nat.le_refl _) hW
  have A4 : Hid (∀ W, Below w.heap.size w W → At W bR r) := Lib.hid fun W hW => hR.below (Nat.le_refl _) hW
  have j1 : Hid (lr.size + r.size ≤ 1000000000) := Lib.hid (by omega)
  have j2 : Hid (lr.depth ≤ 1000000000) := Lib.hid (by omega)
  have j3 : Hid (r.depth ≤ 1000000000) := Lib.hid (by omega)
  have j4 : Hid (ll.size + (T.cat lr r).size ≤ 1000000000) := Lib.hid (by show ll.size + (lr.size + r.size) ≤ _; omega)
  have j5 : Hid (ll.depth ≤ 1000000000) := Lib.hid (by omega)
  have j6 : Hid ((T.cat lr r).depth ≤ 1000000000) := Lib.hid (by show 1 + max lr.depth r.depth ≤ _; omega)
  clear hL hR hll hI hd hz hs
  generalize lr.depth = di at cdep1 hdi
  generalize ll.depth = dl at cdep2 hdi
  go_enter Try.func59, Try.ntmps59
  go_wp2
  go_quiet (fail)
  go_wp2
  have hBq : Below w.heap.size w (w.drewN nq) := below_drewN (Below.refl _ _) _
  have k0 : (w.drewN nq).cell? ⟨bL, 4, none⟩ = some (.pointer (some ⟨ba, 0, none⟩)) := c4
  have k1 : (w.drewN nq).cell? ⟨bL, 5, none⟩ = some (.pointer (some ⟨bI, 0, none⟩)) := c5
  have yz : (w.drewN nq).heap.size = w.heap.size := rfl
  clear c4 c5 cdep1 cdep2
  generalize w.drewN nq = W at *
  have ybL : bL < W.heap.size := by omega
  clear yz
  go_region_held3 (fun u => u.cell? ⟨bL, 4, none⟩ = some (.pointer (some ⟨ba, 0, none⟩)) ∧ u.cell? ⟨bL, 5, none⟩ = some (.pointer (some ⟨bI, 0, none⟩))) (first | exact ⟨k0, k1⟩ | exact ⟨p0, p1⟩ | exact ⟨q0, q1⟩ | go_keep) (first | (go_at_call 40; (with_reducible refine Calls.mono (concat_makes _ bI bR lr r (A2.out _ hBq.drew) (A4.out _ hBq.drew) j1.out j2.out j3.out) ?_); rintro e w1 ⟨b1, rfl, h1, hb1⟩; have p0 := (hb1.cell (p := ⟨bL, 4, none⟩) ybL).trans k0; have p1 := (hb1.cell (p := ⟨bL, 5, none⟩) ybL).trans k1; have hB1 := hBq.drew.trans (hb1.mono hBq.drew.size)) | (go_at_call 40; (with_reducible refine Calls.mono (concat_makes _ ba b1 ll (.cat lr r) (A1.out _ hB1) (h1) j4.out j5.out j6.out) ?_); rintro e w2 ⟨b2, rfl, h2, hb2⟩; have q0 := (hb2.cell (p := ⟨bL, 4, none⟩) (Nat.lt_of_lt_of_le ybL hb1.size)).trans p0; have q1 := (hb2.cell (p := ⟨bL, 5, none⟩) (Nat.lt_of_lt_of_le ybL hb1.size)).trans p1; have hB2 := hB1.trans (hb2.mono hB1.size)))
  go_wp2
  go_ret
  exact ⟨b2, rfl, h2, hB2⟩

set_option maxRecDepth 100000 in
set_option maxHeartbeats 4000000 in
theorem turnL_two (w : World) (bL bR : Nat) (l il ir rr : T) (hL : At w bL l) (hR : At w bR (.cat (.cat il ir) rr)) (hd : rr.depth < 1 + max il.depth ir.depth) (hs : l.size + (il.size + ir.size) + rr.size ≤ 1000000) (hz : l.depth + il.depth + ir.depth + rr.depth ≤ 1000000) :
    Calls Try.prog 60 #[.pointer (some ⟨bL, 0, none⟩), .pointer (some ⟨bR, 0, none⟩)] w (Makes w (.cat (.cat l il) (.cat ir rr))) := by
  obtain ⟨bI, ba, _, c4, c5, hI, hrr⟩ := hR.cat
  obtain ⟨bb, bc, _, d4, d5, hil, hir⟩ := hI.cat
  obtain ⟨_, _, cdep1⟩ := hI.cells
  obtain ⟨_, _, cdep2⟩ := hrr.cells
  have zR := At.lt hR
  have zI := At.lt hI
  rw [show (T.cat il ir).depth = 1 + max il.depth ir.depth from rfl] at cdep1
  have hdi : (rr.depth : Int) < ((1 + max il.depth ir.depth : Nat) : Int) := by omega
  have A1 : Hid (∀ W, Below w.heap.size w W → At W bL l) := Lib.hid fun W hW => hL.below (Nat.le_refl _) hW
  have A2 : Hid (∀ W, Below w.heap.size w W → At W bb il) := Lib.hid fun W hW => hil.below (Nat.le_refl _) hW
  have A3 : Hid (∀ W, Below w.heap.size w W → At W bc ir) := Lib.hid fun W hW => hir.below (Nat.le_refl _) hW
  have A4 : Hid (∀ W, Below w.heap.size w W → At W ba rr) := Lib.hid fun W hW => hrr.below (Nat.le_refl _) hW
  have j1 : Hid (l.size + il.size ≤ 1000000000) := Lib.hid (by omega)
  have j2 : Hid (l.depth ≤ 1000000000) := Lib.hid (by omega)
  have j3 : Hid (il.depth ≤ 1000000000) := Lib.hid (by omega)
  have j4 : Hid (ir.size + rr.size ≤ 1000000000) := Lib.hid (by omega)
  have j5 : Hid (ir.depth ≤ 1000000000) := Lib.hid (by omega)
  have j6 : Hid (rr.depth ≤ 1000000000) := Lib.hid (by omega)
  have j7 : Hid ((T.cat l il).size + (T.cat ir rr).size ≤ 1000000000) := Lib.hid (by show l.size + il.size + (ir.size + rr.size) ≤ _; omega)
  have j8 : Hid ((T.cat l il).depth ≤ 1000000000) := Lib.hid (by show 1 + max l.depth il.depth ≤ _; omega)
  have j9 : Hid ((T.cat ir rr).depth ≤ 1000000000) := Lib.hid (by show 1 + max ir.depth rr.depth ≤ _; omega)
  clear hL hR hI hil hir hrr hd hz hs
  generalize 1 + max il.depth ir.depth = di at cdep1 hdi
  generalize rr.depth = dl at cdep2 hdi
  go_enter Try.func60, Try.ntmps60
  go_wp2
  go_quiet (fail)
  go_wp2
  have hBq : Below w.heap.size w (w.drewN nq) := below_drewN (Below.refl _ _) _
  have k0 : (w.drewN nq).cell? ⟨bR, 4, none⟩ = some (.pointer (some ⟨bI, 0, none⟩)) := c4
  have k1 : (w.drewN nq).cell? ⟨bR, 5, none⟩ = some (.pointer (some ⟨ba, 0, none⟩)) := c5
  have k2 : (w.drewN nq).cell? ⟨bI, 4, none⟩ = some (.pointer (some ⟨bb, 0, none⟩)) := d4
  have k3 : (w.drewN nq).cell? ⟨bI, 5, none⟩ = some (.pointer (some ⟨bc, 0, none⟩)) := d5
  have yz : (w.drewN nq).heap.size = w.heap.size := rfl
  clear c4 c5 d4 d5 cdep1 cdep2
  generalize w.drewN nq = W at *
  have ybI : bI < W.heap.size := by omega
  have ybR : bR < W.heap.size := by omega
  clear yz
  go_region_held3 (fun u => u.cell? ⟨bR, 4, none⟩ = some (.pointer (some ⟨bI, 0, none⟩)) ∧ u.cell? ⟨bR, 5, none⟩ = some (.pointer (some ⟨ba, 0, none⟩)) ∧ u.cell? ⟨bI, 4, none⟩ = some (.pointer (some ⟨bb, 0, none⟩)) ∧ u.cell? ⟨bI, 5, none⟩ = some (.pointer (some ⟨bc, 0, none⟩))) (first | exact ⟨k0, k1, k2, k3⟩ | exact ⟨p0, p1, p2, p3⟩ | exact ⟨q0, q1, q2, q3⟩ | exact ⟨r0, r1, r2, r3⟩ | go_keep) (first | (go_at_call 40; (with_reducible refine Calls.mono (concat_makes _ bL bb l il (A1.out _ hBq.drew) (A2.out _ hBq.drew) j1.out j2.out j3.out) ?_); rintro e w1 ⟨b1, rfl, h1, hb1⟩; have p0 := (hb1.cell (p := ⟨bR, 4, none⟩) ybR).trans k0; have p1 := (hb1.cell (p := ⟨bR, 5, none⟩) ybR).trans k1; have p2 := (hb1.cell (p := ⟨bI, 4, none⟩) ybI).trans k2; have p3 := (hb1.cell (p := ⟨bI, 5, none⟩) ybI).trans k3; have hB1 := hBq.drew.trans (hb1.mono hBq.drew.size)) | (go_at_call 40; (with_reducible refine Calls.mono (concat_makes _ bc ba ir rr (A3.out _ hB1) (A4.out _ hB1) j4.out j5.out j6.out) ?_); rintro e w2 ⟨b2, rfl, h2, hb2⟩; have q0 := (hb2.cell (p := ⟨bR, 4, none⟩) (Nat.lt_of_lt_of_le ybR hb1.size)).trans p0; have q1 := (hb2.cell (p := ⟨bR, 5, none⟩) (Nat.lt_of_lt_of_le ybR hb1.size)).trans p1; have q2 := (hb2.cell (p := ⟨bI, 4, none⟩) (Nat.lt_of_lt_of_le ybI hb1.size)).trans p2; have q3 := (hb2.cell (p := ⟨bI, 5, none⟩) (Nat.lt_of_lt_of_le ybI hb1.size)).trans p3; have hB2 := hB1.trans (hb2.mono hB1.size)) | (go_at_call 40; (with_reducible refine Calls.mono (concat_makes _ b1 b2 (.cat l il) (.cat ir rr) (h1.below (Nat.le_refl _) hb2) (h2) j7.out j8.out j9.out) ?_); rintro e w3 ⟨b3, rfl, h3, hb3⟩; have r0 := (hb3.cell (p := ⟨bR, 4, none⟩) (Nat.lt_of_lt_of_le (Nat.lt_of_lt_of_le ybR hb1.size) hb2.size)).trans q0; have r1 := (hb3.cell (p := ⟨bR, 5, none⟩) (Nat.lt_of_lt_of_le (Nat.lt_of_lt_of_le ybR hb1.size) hb2.size)).trans q1; have r2 := (hb3.cell (p := ⟨bI, 4, none⟩) (Nat.lt_of_lt_of_le (Nat.lt_of_lt_of_le ybI hb1.size) hb2.size)).trans q2; have r3 := (hb3.cell (p := ⟨bI, 5, none⟩) (Nat.lt_of_lt_of_le (Nat.lt_of_lt_of_le ybI hb1.size) hb2.size)).trans q3; have hB3 := hB2.trans (hb3.mono hB2.size)))
  go_wp2
  go_ret
  exact ⟨b3, rfl, h3, hB3⟩

set_option maxRecDepth 100000 in
set_option maxHeartbeats 4000000 in
theorem turnL_one (w : World) (bL bR : Nat) (l rl rr : T) (hL : At w bL l) (hR : At w bR (.cat rl rr)) (hd : rl.depth ≤ rr.depth) (hs : l.size + rl.size + rr.size ≤ 1000000) (hz : l.depth + rl.depth + rr.depth ≤ 1000000) :
    Calls Try.prog 60 #[.pointer (some ⟨bL, 0, none⟩), .pointer (some ⟨bR, 0, none⟩)] w (Makes w (.cat (.cat l rl) rr)) := by
  obtain ⟨bI, ba, _, c4, c5, hI, hrr⟩ := hR.cat
  obtain ⟨_, _, cdep1⟩ := hI.cells
  obtain ⟨_, _, cdep2⟩ := hrr.cells
  have zR := At.lt hR
  have hdi : (rl.depth : Int) ≤ (rr.depth : Int) := by omega
  have A1 : Hid (∀ W, Below w.heap.size w W → At W bL l) := Lib.hid fun W hW => hL.below (Nat.le_refl _) hW
  have A2 : Hid (∀ W, Below w.heap.size w W → At W bI rl) := Lib.hid fun W hW => hI.below (Nat.le_refl _) hW
  have A4 : Hid (∀ W, Below w.heap.size w W → At W ba rr) := Lib.hid fun W hW => hrr.below (Nat.le_refl _) hW
  have j1 : Hid (l.size + rl.size ≤ 1000000000) := Lib.hid (by omega)
  have j2 : Hid (l.depth ≤ 1000000000) := Lib.hid (by omega)
  have j3 : Hid (rl.depth ≤ 1000000000) := Lib.hid (by omega)
  have j4 : Hid ((T.cat l rl).size + rr.size ≤ 1000000000) := Lib.hid (by show l.size + rl.size + rr.size ≤ _; omega)
  have j5 : Hid ((T.cat l rl).depth ≤ 1000000000) := Lib.hid (by show 1 + max l.depth rl.depth ≤ _; omega)
  have j6 : Hid (rr.depth ≤ 1000000000) := Lib.hid (by omega)
  clear hL hR hI hrr hd hz hs
  generalize rl.depth = di at cdep1 hdi
  generalize rr.depth = dl at cdep2 hdi
  go_enter Try.func60, Try.ntmps60
  go_wp2
  go_quiet (fail)
  go_wp2
  have hBq : Below w.heap.size w (w.drewN nq) := below_drewN (Below.refl _ _) _
  have k0 : (w.drewN nq).cell? ⟨bR, 4, none⟩ = some (.pointer (some ⟨bI, 0, none⟩)) := c4
  have k1 : (w.drewN nq).cell? ⟨bR, 5, none⟩ = some (.pointer (some ⟨ba, 0, none⟩)) := c5
  have yz : (w.drewN nq).heap.size = w.heap.size := rfl
  clear c4 c5 cdep1 cdep2
  generalize w.drewN nq = W at *
  have ybR : bR < W.heap.size := by omega
  clear yz
  go_region_held3 (fun u => u.cell? ⟨bR, 4, none⟩ = some (.pointer (some ⟨bI, 0, none⟩)) ∧ u.cell? ⟨bR, 5, none⟩ = some (.pointer (some ⟨ba, 0, none⟩))) (first | exact ⟨k0, k1⟩ | exact ⟨p0, p1⟩ | exact ⟨q0, q1⟩ | go_keep) (first | (go_at_call 40; (with_reducible refine Calls.mono (concat_makes _ bL bI l rl (A1.out _ hBq.drew) (A2.out _ hBq.drew) j1.out j2.out j3.out) ?_); rintro e w1 ⟨b1, rfl, h1, hb1⟩; have p0 := (hb1.cell (p := ⟨bR, 4, none⟩) ybR).trans k0; have p1 := (hb1.cell (p := ⟨bR, 5, none⟩) ybR).trans k1; have hB1 := hBq.drew.trans (hb1.mono hBq.drew.size)) | (go_at_call 40; (with_reducible refine Calls.mono (concat_makes _ b1 ba (.cat l rl) rr (h1) (A4.out _ hB1) j4.out j5.out j6.out) ?_); rintro e w2 ⟨b2, rfl, h2, hb2⟩; have q0 := (hb2.cell (p := ⟨bR, 4, none⟩) (Nat.lt_of_lt_of_le ybR hb1.size)).trans p0; have q1 := (hb2.cell (p := ⟨bR, 5, none⟩) (Nat.lt_of_lt_of_le ybR hb1.size)).trans p1; have hB2 := hB1.trans (hb2.mono hB1.size)))
  go_wp2
  go_ret
  exact ⟨b2, rfl, h2, hB2⟩

end Go.Proofs.Ytbmcgmnmmnileaa
