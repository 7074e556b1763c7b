/-
  The law GreenTells.
-/
import Derived.Test.YtingfomfibhnhaaGreatDoorMgHX
import Derived.Test.YtingfomfibhnhaaGreatDoorMgTF
import Derived.Test.YtingfomfibhnhaaGreatDoorMgTG
namespace Go.Proofs.YtingfomfibhnhaaGreatDoor
open Go.RowKit Go.Shelf Go.Maps

set_option maxRecDepth 100000 in
set_option maxHeartbeats 16000000 in
theorem tells_walk (x m : T) (W : World) (p : Option Addr) (c : Nat) (p2 : Option Addr) (c2 : Nat) (hE : Env W) (hx : NAt AnyB W x (cellsN x p c)) (hm : NAt AnyB W m (cellsN m p2 c2)) (hc : countT x ≤ 1048576) (hcm : countT m ≤ 1048576) :
    Calls Tryz.prog 4 #[aggN x p c, aggN m p2 c2] W fun e w' => e = .returned (.bool true) ∧ Below W.heap.size W w' := by
  have HE : Hid (∀ w, Below W.heap.size W w → Env w) := Lib.hid fun w hb => hE.below hb hE.size
  have hwt := fun (w : World) (p : Option Addr) (c : Nat) (h : NAt AnyB w x (cellsN x p c)) => weight_any x p c w h (by omega)
  have hwm := fun (w : World) (p : Option Addr) (c : Nat) (h : NAt AnyB w m (cellsN m p c)) => weight_any m p c w h (by omega)
  have HWF := Lib.hid (And.intro (weight_fine x) (weight_fine m))
  have HWS := Lib.hid (weight_tiny x)
  obtain ⟨wt, hwte⟩ : ∃ wt, weightT x = wt := ⟨_, rfl⟩
  obtain ⟨wu, hwue⟩ : ∃ wt, weightT m = wt := ⟨_, rfl⟩
  rw [hwte] at hwt HWS
  rw [hwue] at hwm
  rw [hwte, hwue] at HWF
  have HWT := Lib.hid hwt
  have HWM := Lib.hid hwm
  clear hE hc hcm hwte hwue hwt hwm
  obtain ⟨w1, hw1⟩ : ∃ w, W.alloc (.cells #[.int .u8 x.kind, .int .u8 x.tok.1, .string ⟨x.tok.2.toArray⟩, .slice p x.kids.length c] 27) = w := ⟨_, rfl⟩
  have b1 : Below W.heap.size W w1 := by rw [← hw1]; exact galloc (Below.refl _ _) _
  have n1 : w1.heap[W.heap.size]? = some (.cells #[.int .u8 x.kind, .int .u8 x.tok.1, .string ⟨x.tok.2.toArray⟩, .slice p x.kids.length c] 27 (0, 0)) := by rw [← hw1]; exact World.alloc_heap_new W _
  obtain ⟨N, hN⟩ : ∃ G, W.heap.size = G := ⟨_, rfl⟩
  rw [hN] at n1
  have HB1 := Lib.hid b1
  have FN1 := Lib.hid n1
  clear b1 n1
  have hx1 := hx.below (HB1.out)
  have hm1 := hm.below (HB1.out)
  have FX1 := Lib.hid hx1
  have FMX1 := Lib.hid hm1
  clear hx hx1 hm hm1
  obtain ⟨w2, hw2⟩ : ∃ w, w1.alloc (.cells #[.int .u8 m.kind, .int .u8 m.tok.1, .string ⟨m.tok.2.toArray⟩, .slice p2 m.kids.length c2] 27) = w := ⟨_, rfl⟩
  have b2 : Below w1.heap.size w1 w2 := by rw [← hw2]; exact galloc (Below.refl _ _) _
  have n2 : w2.heap[w1.heap.size]? = some (.cells #[.int .u8 m.kind, .int .u8 m.tok.1, .string ⟨m.tok.2.toArray⟩, .slice p2 m.kids.length c2] 27 (0, 0)) := by rw [← hw2]; exact World.alloc_heap_new w1 _
  obtain ⟨MB, hMB⟩ : ∃ G, w1.heap.size = G := ⟨_, rfl⟩
  rw [hMB] at n2
  have FN2 := Lib.hid ((b2.block _ (Array.getElem?_eq_some_iff.1 FN1.out).1).trans FN1.out)
  clear FN1
  have FX2 := Lib.hid (FX1.out.below b2)
  clear FX1
  have FMX2 := Lib.hid (FMX1.out.below b2)
  clear FMX1
  have HB2 := Lib.hid (HB1.out.trans (b2.mono HB1.out.size))
  have FMB2 := Lib.hid n2
  clear b2 n2
  go_enter Tryz.func4, Tryz.ntmps4
  obtain ⟨a0, a1, a2, a3⟩ := box4 FN2.out
  go_wp2_with fail
  refine (HWT.out w2 _ _ FX2.out).mono ?_
  rintro e w3 ⟨rfl, h3⟩
  clear a0 a1 a2 a3
  have FN3 := Lib.hid ((h3.block _ (Array.getElem?_eq_some_iff.1 FN2.out).1).trans FN2.out)
  clear FN2
  have FX3 := Lib.hid (FX2.out.below h3)
  clear FX2
  have FMX3 := Lib.hid (FMX2.out.below h3)
  clear FMX2
  have FMB3 := Lib.hid ((h3.block _ (Array.getElem?_eq_some_iff.1 FMB2.out).1).trans FMB2.out)
  clear FMB2
  have HB3 := Lib.hid (HB2.out.trans (h3.mono HB2.out.size))
  clear h3
  by_cases hwl : 300 ≤ wt
  · have hwl1 : decide ((300 : Int) ≤ (wt : Int)) = true := decide_eq_true (by omega)
    have hwl2 : decide (300 ≤ wt) = true := decide_eq_true hwl
    go_wp2_with fail
    go_ret
    exact ⟨rfl, by first | exact HB3.out | (rw [← hN]; exact HB3.out)⟩
  have hwl1 : decide ((300 : Int) ≤ (wt : Int)) = false := decide_eq_false (by omega)
  have hwl2 : decide (300 ≤ wt) = false := decide_eq_false hwl
  obtain ⟨d0, d1, d2, d3⟩ := box4 FMB3.out
  go_wp2_with fail
  refine (HWM.out w3 _ _ FMX3.out).mono ?_
  rintro e w4 ⟨rfl, h4⟩
  clear d0 d1 d2 d3
  have FN4 := Lib.hid ((h4.block _ (Array.getElem?_eq_some_iff.1 FN3.out).1).trans FN3.out)
  clear FN3
  have FX4 := Lib.hid (FX3.out.below h4)
  clear FX3
  have FMX4 := Lib.hid (FMX3.out.below h4)
  clear FMX3
  have FMB4 := Lib.hid ((h4.block _ (Array.getElem?_eq_some_iff.1 FMB3.out).1).trans FMB3.out)
  clear FMB3
  have HB4 := Lib.hid (HB3.out.trans (h4.mono HB3.out.size))
  clear h4
  clear HWT HWM
  by_cases hul : 300 ≤ wu
  · have hul1 : decide ((300 : Int) ≤ (wu : Int)) = true := decide_eq_true (by omega)
    have hul2 : decide (300 ≤ wu) = true := decide_eq_true hul
    go_wp2_with fail
    go_ret
    exact ⟨rfl, by first | exact HB4.out | (rw [← hN]; exact HB4.out)⟩
  have hul1 : decide ((300 : Int) ≤ (wu : Int)) = false := decide_eq_false (by omega)
  have hul2 : decide (300 ≤ wu) = false := decide_eq_false hul
  have HC : Hid (countT x ≤ 600 ∧ countT m ≤ 600) := Lib.hid ⟨by have := (HWF.out.1 (by omega)).1; omega, by have := (HWF.out.2 (by omega)).1; omega⟩
  have HS : Hid (sizeT x ≤ 4800) := Lib.hid (by have := (HWF.out.1 (by omega)).2; omega)
  have HTY : Hid (tinyT x) := Lib.hid (HWS.out (by omega))
  clear HWF HWS hwl hul
  obtain ⟨a0, a1, a2, a3⟩ := box4 FN4.out
  go_wp2_with fail
  refine (given_r FX4.out (by have := HC.out.1; omega)).mono ?_
  rintro e w5 ⟨p5, c5, rfl, hx5, h5⟩
  clear a0 a1 a2 a3
  have FN5 := Lib.hid ((h5.block _ (Array.getElem?_eq_some_iff.1 FN4.out).1).trans FN4.out)
  clear FN4
  have FX5 := Lib.hid (FX4.out.below h5)
  clear FX4
  have FMX5 := Lib.hid (FMX4.out.below h5)
  clear FMX4
  have FMB5 := Lib.hid ((h5.block _ (Array.getElem?_eq_some_iff.1 FMB4.out).1).trans FMB4.out)
  clear FMB4
  have HB5 := Lib.hid (HB4.out.trans (h5.mono HB4.out.size))
  have FI5 := Lib.hid hx5
  clear h5 hx5 hwl1 hwl2 hul1 hul2
  obtain ⟨w6, hw6⟩ : ∃ w, w5.alloc (.cells #[.int .u8 x.kind, .int .u8 x.tok.1, .string ⟨x.tok.2.toArray⟩, .slice p5 x.kids.length c5] 27) = w := ⟨_, rfl⟩
  have b6 : Below w5.heap.size w5 w6 := by rw [← hw6]; exact galloc (Below.refl _ _) _
  have n6 : w6.heap[w5.heap.size]? = some (.cells #[.int .u8 x.kind, .int .u8 x.tok.1, .string ⟨x.tok.2.toArray⟩, .slice p5 x.kids.length c5] 27 (0, 0)) := by rw [← hw6]; exact World.alloc_heap_new w5 _
  obtain ⟨GB, hGB⟩ : ∃ G, w5.heap.size = G := ⟨_, rfl⟩
  rw [hGB] at n6
  have FN6 := Lib.hid ((b6.block _ (Array.getElem?_eq_some_iff.1 FN5.out).1).trans FN5.out)
  clear FN5
  have FX6 := Lib.hid (FX5.out.below b6)
  clear FX5
  have FMX6 := Lib.hid (FMX5.out.below b6)
  clear FMX5
  have FMB6 := Lib.hid ((b6.block _ (Array.getElem?_eq_some_iff.1 FMB5.out).1).trans FMB5.out)
  clear FMB5
  have FI6 := Lib.hid (FI5.out.below b6)
  clear FI5
  have HB6 := Lib.hid (HB5.out.trans (b6.mono HB5.out.size))
  have FB6 := Lib.hid n6
  clear b6 n6
  go_wp2_with fail
  obtain ⟨b0, b1, b2, b3⟩ := box4 FB6.out
  obtain ⟨n0, n1, n2, n3⟩ := box4 FN6.out
  obtain ⟨m0, m1, m2, m3⟩ := box4 FMB6.out
  have HS0 : Hid ((w6.cell? ⟨GB, 0, none⟩ = some (.int .u8 x.kind) ∧ w6.cell? ⟨GB, 1, none⟩ = some (.int .u8 x.tok.1) ∧ w6.cell? ⟨GB, 2, none⟩ = some (.string ⟨x.tok.2.toArray⟩) ∧ w6.cell? ⟨GB, 3, none⟩ = some (.slice p5 x.kids.length c5)) ∧ (w6.cell? ⟨N, 0, none⟩ = some (.int .u8 x.kind) ∧ w6.cell? ⟨N, 1, none⟩ = some (.int .u8 x.tok.1) ∧ w6.cell? ⟨N, 2, none⟩ = some (.string ⟨x.tok.2.toArray⟩) ∧ w6.cell? ⟨N, 3, none⟩ = some (.slice p x.kids.length c)) ∧ (w6.cell? ⟨MB, 0, none⟩ = some (.int .u8 m.kind) ∧ w6.cell? ⟨MB, 1, none⟩ = some (.int .u8 m.tok.1) ∧ w6.cell? ⟨MB, 2, none⟩ = some (.string ⟨m.tok.2.toArray⟩) ∧ w6.cell? ⟨MB, 3, none⟩ = some (.slice p2 m.kids.length c2))) := Lib.hid ⟨⟨b0, b1, b2, b3⟩, ⟨n0, n1, n2, n3⟩, ⟨m0, m1, m2, m3⟩⟩
  have HSK : Hid (∀ w, Below w6.heap.size w6 w → (w.cell? ⟨GB, 0, none⟩ = some (.int .u8 x.kind) ∧ w.cell? ⟨GB, 1, none⟩ = some (.int .u8 x.tok.1) ∧ w.cell? ⟨GB, 2, none⟩ = some (.string ⟨x.tok.2.toArray⟩) ∧ w.cell? ⟨GB, 3, none⟩ = some (.slice p5 x.kids.length c5)) ∧ (w.cell? ⟨N, 0, none⟩ = some (.int .u8 x.kind) ∧ w.cell? ⟨N, 1, none⟩ = some (.int .u8 x.tok.1) ∧ w.cell? ⟨N, 2, none⟩ = some (.string ⟨x.tok.2.toArray⟩) ∧ w.cell? ⟨N, 3, none⟩ = some (.slice p x.kids.length c)) ∧ (w.cell? ⟨MB, 0, none⟩ = some (.int .u8 m.kind) ∧ w.cell? ⟨MB, 1, none⟩ = some (.int .u8 m.tok.1) ∧ w.cell? ⟨MB, 2, none⟩ = some (.string ⟨m.tok.2.toArray⟩) ∧ w.cell? ⟨MB, 3, none⟩ = some (.slice p2 m.kids.length c2))) := Lib.hid fun w hb => by
    obtain ⟨⟨b0, b1, b2, b3⟩, ⟨n0, n1, n2, n3⟩, ⟨m0, m1, m2, m3⟩⟩ := HS0.out
    exact ⟨⟨cell_in hb b0, cell_in hb b1, cell_in hb b2, cell_in hb b3⟩, ⟨cell_in hb n0, cell_in hb n1, cell_in hb n2, cell_in hb n3⟩, ⟨cell_in hb m0, cell_in hb m1, cell_in hb m2, cell_in hb m3⟩⟩
  obtain ⟨TX, hTX⟩ : ∃ TX : ByteArray, (⟨(textT x).toArray⟩ : ByteArray) = TX := ⟨_, rfl⟩
  have HTX := Lib.hid hTX
  clear hTX
  obtain ⟨E, hEE⟩ : ∃ E, toksT x = E := ⟨_, rfl⟩
  have hEL : E.length ≤ 10000000 := by rw [← hEE]; have := toks_count x; have := HC.out.1; omega
  have HEE := Lib.hid hEE
  have HEL := Lib.hid hEL
  clear hEE hEL
  obtain ⟨CK, hCK⟩ : ∃ CK, checkT x = CK := ⟨_, rfl⟩
  have HCK := Lib.hid hCK
  have HCR : Hid (checkR x = CK) := Lib.hid (by rw [← check_eq]; exact hCK)
  clear hCK
  obtain ⟨SM, hSM⟩ : ∃ SM, sameT x m = SM := ⟨_, rfl⟩
  have HSM := Lib.hid hSM
  clear hSM
  have HEV : Hid (∀ w, Below w6.heap.size w6 w → Env w) := Lib.hid fun w hb => HE.out w (HB6.out.trans (hb.mono HB6.out.size))
  have g1 : Calls Tryz.prog 22 #[.agg #[.int .u8 x.kind, .int .u8 x.tok.1, .string ⟨x.tok.2.toArray⟩, .slice p5 x.kids.length c5]] w6.drew fun e w' => e = .returned (.string TX) ∧ Hid (Below w6.heap.size w6 w') := (text_r (FI6.out.below (Below.refl _ _).drew) (by have := HC.out.1; omega) (by have := HS.out; omega)).mono fun e w' ⟨h1, h2⟩ => ⟨by rw [h1, HTX.out], Lib.hid ((Below.refl _ _).drew.trans h2)⟩
  have g2 : ∀ w, Hid (Below w6.heap.size w6 w) → Calls Tryz.prog 23 #[.agg #[.int .u8 x.kind, .int .u8 x.tok.1, .string ⟨x.tok.2.toArray⟩, .slice p x.kids.length c]] w fun e w' => e = .returned (.string TX) ∧ Hid (Below w6.heap.size w6 w') := fun w hw => (greft_any x w p c (FX6.out.below hw.out) (by have := HC.out.1; omega) (by have := HS.out; omega)).mono fun e w' ⟨h1, h2⟩ => ⟨by rw [h1, HTX.out], Lib.hid (gcall hw.out h2 hw.out.size)⟩
  have g3 : ∀ w, Hid (Below w6.heap.size w6 w) → Calls Tryz.prog 25 #[.agg #[.int .u8 x.kind, .int .u8 x.tok.1, .string ⟨x.tok.2.toArray⟩, .slice p5 x.kids.length c5]] w fun e w' => ∃ q k, e = .returned (.slice q E.length k) ∧ Hid (ToksAt w.heap.size w' (.slice q E.length k) E) ∧ Hid (Below w6.heap.size w6 w') := fun w hw => (gtokens_any x p5 c5 w (FI6.out.below hw.out) (by have := HC.out.1; omega) (by have := HS.out; omega)).mono fun e w' ⟨v, h1, h2, h3⟩ => by
    rw [HEE.out] at h2
    obtain ⟨q, k, rfl⟩ := owns_shape h2
    exact ⟨q, k, h1, Lib.hid h2, Lib.hid (gcall hw.out h3 hw.out.size)⟩
  have g4 : ∀ (w0 w : World) v0, Hid (Below w6.heap.size w6 w) → Hid (ToksAt w0.heap.size w v0 E) → Calls Tryz.prog 26 #[.agg #[.int .u8 x.kind, .int .u8 x.tok.1, .string ⟨x.tok.2.toArray⟩, .slice p x.kids.length c]] w fun e w' => ∃ q k, e = .returned (.slice q E.length k) ∧ Hid (ToksAt w.heap.size w' (.slice q E.length k) E ∧ ToksAt w0.heap.size w' v0 E) ∧ Hid (Below w6.heap.size w6 w') := fun w0 w v0 hw h0 => (greftk_any x w p c (FX6.out.below hw.out) (by have := HC.out.1; omega)).mono fun e w' ⟨v, h1, h2, h3⟩ => by
    rw [HEE.out] at h2
    obtain ⟨q, k, rfl⟩ := owns_shape h2
    exact ⟨q, k, h1, Lib.hid ⟨h2, owns_below h0.out h3⟩, Lib.hid (gcall hw.out h3 hw.out.size)⟩
  have g5 : ∀ (w0 w1 w : World) v0 v1, Hid (Below w6.heap.size w6 w) → Hid (ToksAt w1.heap.size w v1 E ∧ ToksAt w0.heap.size w v0 E) → Calls Tryz.prog 24 #[v0, v1] w fun e w' => e = .returned (.bool true) ∧ Hid (Below w6.heap.size w6 w') := fun w0 w1 w v0 v1 hw h0 => (same_any _ _ v0 v1 E w h0.out.2 h0.out.1 HEL.out).mono fun e w' ⟨h1, h2⟩ => ⟨h1, Lib.hid (gcall hw.out h2 hw.out.size)⟩
  have g6 : ∀ w, Hid (Below w6.heap.size w6 w) → Calls Tryz.prog 12 #[.agg #[.int .u8 x.kind, .int .u8 x.tok.1, .string ⟨x.tok.2.toArray⟩, .slice p5 x.kids.length c5]] w fun e w' => e = .returned (.int .i64 CK) ∧ Hid (Below w6.heap.size w6 w') := fun w hw => (gcheck_any x p5 c5 w (FI6.out.below hw.out) (by have := HC.out.1; omega) (by have := HS.out; omega) (HEV.out w hw.out)).mono fun e w' ⟨h1, h2⟩ => ⟨by rw [h1, HCK.out], Lib.hid (gcall hw.out h2 hw.out.size)⟩
  have g7 : ∀ w, Hid (Below w6.heap.size w6 w) → Calls Tryz.prog 27 #[.agg #[.int .u8 x.kind, .int .u8 x.tok.1, .string ⟨x.tok.2.toArray⟩, .slice p x.kids.length c]] w fun e w' => e = .returned (.int .i64 CK) ∧ Hid (Below w6.heap.size w6 w') := fun w hw => (rcheck27_any x p c w (FX6.out.below hw.out) (by have := HC.out.1; omega) (by have := HS.out; omega) (HEV.out w hw.out) HTY.out).mono fun e w' ⟨h1, h2⟩ => ⟨by rw [h1, HCR.out], Lib.hid (gcall hw.out h2 hw.out.size)⟩
  have g8 : ∀ w, Hid (Below w6.heap.size w6 w) → Calls Tryz.prog 21 #[.agg #[.int .u8 m.kind, .int .u8 m.tok.1, .string ⟨m.tok.2.toArray⟩, .slice p2 m.kids.length c2]] w fun e w' => ∃ pz cz, e = .returned (aggN m pz cz) ∧ Hid (Below w6.heap.size w6 w') ∧ Hid (NAt AnyB w' m (cellsN m pz cz)) := fun w hw => (given_r (FMX6.out.below hw.out) (by have := HC.out.2; omega)).mono fun e w' ⟨pz, cz, h1, h3, h2⟩ => ⟨pz, cz, h1, Lib.hid (gcall hw.out h2 hw.out.size), Lib.hid h3⟩
  have g9 : ∀ w pz cz, Hid (Below w6.heap.size w6 w) → Hid (NAt AnyB w m (cellsN m pz cz)) → Calls Tryz.prog 28 #[.agg #[.int .u8 x.kind, .int .u8 x.tok.1, .string ⟨x.tok.2.toArray⟩, .slice p5 x.kids.length c5], aggN m pz cz] w fun e w' => e = .returned (.bool SM) ∧ Hid (Below w6.heap.size w6 w') := fun w pz cz hw hn => (gsame_any x m w p5 pz c5 cz (FI6.out.below hw.out) hn.out (by have := HC.out.1; omega)).mono fun e w' ⟨h1, h2⟩ => ⟨by rw [h1, HSM.out], Lib.hid (gcall hw.out h2 hw.out.size)⟩
  have g10 : ∀ w, Hid (Below w6.heap.size w6 w) → Calls Tryz.prog 19 #[.agg #[.int .u8 x.kind, .int .u8 x.tok.1, .string ⟨x.tok.2.toArray⟩, .slice p x.kids.length c], .agg #[.int .u8 m.kind, .int .u8 m.tok.1, .string ⟨m.tok.2.toArray⟩, .slice p2 m.kids.length c2]] w fun e w' => e = .returned (.bool SM) ∧ Hid (Below w6.heap.size w6 w') := fun w hw => (rsame_any x m w p p2 c c2 (FX6.out.below hw.out) (FMX6.out.below hw.out) (by have := HC.out.1; omega)).mono fun e w' ⟨h1, h2⟩ => ⟨by rw [h1, HSM.out], Lib.hid (gcall hw.out h2 hw.out.size)⟩
  have g11 : ∀ w, Hid (Below w6.heap.size w6 w) → Calls Tryz.prog 21 #[.agg #[.int .u8 x.kind, .int .u8 x.tok.1, .string ⟨x.tok.2.toArray⟩, .slice p x.kids.length c]] w fun e w' => ∃ pz cz, e = .returned (aggN x pz cz) ∧ Hid (Below w6.heap.size w6 w') ∧ Hid (NAt AnyB w' x (cellsN x pz cz)) := fun w hw => (given_r (FX6.out.below hw.out) (by have := HC.out.1; omega)).mono fun e w' ⟨pz, cz, h1, h3, h2⟩ => ⟨pz, cz, h1, Lib.hid (gcall hw.out h2 hw.out.size), Lib.hid h3⟩
  have g12 : ∀ w pz cz, Hid (Below w6.heap.size w6 w) → Hid (NAt AnyB w x (cellsN x pz cz)) → Calls Tryz.prog 28 #[.agg #[.int .u8 x.kind, .int .u8 x.tok.1, .string ⟨x.tok.2.toArray⟩, .slice p5 x.kids.length c5], aggN x pz cz] w fun e w' => e = .returned (.bool true) ∧ Hid (Below w6.heap.size w6 w') := fun w pz cz hw hn => (gsame_any x x w p5 pz c5 cz (FI6.out.below hw.out) hn.out (by have := HC.out.1; omega)).mono fun e w' ⟨h1, h2⟩ => ⟨by rw [h1, sameT_self], Lib.hid (gcall hw.out h2 hw.out.size)⟩
  have g13 : ∀ w, Hid (Below w6.heap.size w6 w) → Calls Tryz.prog 19 #[.agg #[.int .u8 x.kind, .int .u8 x.tok.1, .string ⟨x.tok.2.toArray⟩, .slice p5 x.kids.length c5], .agg #[.int .u8 x.kind, .int .u8 x.tok.1, .string ⟨x.tok.2.toArray⟩, .slice p x.kids.length c]] w fun e w' => e = .returned (.bool true) ∧ Hid (Below w6.heap.size w6 w') := fun w hw => (rsame_any x x w p5 p c5 c (FI6.out.below hw.out) (FX6.out.below hw.out) (by have := HC.out.1; omega)).mono fun e w' ⟨h1, h2⟩ => ⟨by rw [h1, sameT_self], Lib.hid (gcall hw.out h2 hw.out.size)⟩
  have ht1 : (TX.toList == TX.toList) = true := by simp
  have ht2 : (CK == CK) = true := by simp
  have ht3 : (SM == SM) = true := by simp
  clear FN6
  clear FX6
  clear FMX6
  clear FMB6
  clear FI6
  clear FB6
  go_region_held3 (fun u => (u.cell? ⟨GB, 0, none⟩ = some (.int .u8 x.kind) ∧ u.cell? ⟨GB, 1, none⟩ = some (.int .u8 x.tok.1) ∧ u.cell? ⟨GB, 2, none⟩ = some (.string ⟨x.tok.2.toArray⟩) ∧ u.cell? ⟨GB, 3, none⟩ = some (.slice p5 x.kids.length c5)) ∧ (u.cell? ⟨N, 0, none⟩ = some (.int .u8 x.kind) ∧ u.cell? ⟨N, 1, none⟩ = some (.int .u8 x.tok.1) ∧ u.cell? ⟨N, 2, none⟩ = some (.string ⟨x.tok.2.toArray⟩) ∧ u.cell? ⟨N, 3, none⟩ = some (.slice p x.kids.length c)) ∧ (u.cell? ⟨MB, 0, none⟩ = some (.int .u8 m.kind) ∧ u.cell? ⟨MB, 1, none⟩ = some (.int .u8 m.tok.1) ∧ u.cell? ⟨MB, 2, none⟩ = some (.string ⟨m.tok.2.toArray⟩) ∧ u.cell? ⟨MB, 3, none⟩ = some (.slice p2 m.kids.length c2))) (first | (with_reducible exact HS0.out) | (with_reducible exact HSK.out _ H13.out) | (with_reducible exact HSK.out _ H12.out) | (with_reducible exact HSK.out _ H11.out) | (with_reducible exact HSK.out _ H10.out) | (with_reducible exact HSK.out _ H9.out) | (with_reducible exact HSK.out _ H8.out) | (with_reducible exact HSK.out _ H7.out) | (with_reducible exact HSK.out _ H6.out) | (with_reducible exact HSK.out _ H5.out) | (with_reducible exact HSK.out _ H4.out) | (with_reducible exact HSK.out _ H3.out) | (with_reducible exact HSK.out _ H2.out) | (with_reducible exact HSK.out _ H1.out) | go_keep) (first
    | (go_at_call 22; (with_reducible refine Calls.mono g1 ?_); rintro e v1 ⟨rfl, H1⟩)
    | (go_at_call 23; (with_reducible refine Calls.mono (g2 _ H1) ?_); rintro e v2 ⟨rfl, H2⟩)
    | (go_at_call 25; (with_reducible refine Calls.mono (g3 _ H2) ?_); rintro e v3 ⟨q3, k3, rfl, T3, H3⟩)
    | (go_at_call 26; (with_reducible refine Calls.mono (g4 _ _ _ H3 T3) ?_); rintro e v4 ⟨q4, k4, rfl, T4, H4⟩)
    | (go_at_call 24; (with_reducible refine Calls.mono (g5 _ _ _ _ _ H4 T4) ?_); rintro e v5 ⟨rfl, H5⟩)
    | (go_at_call 12; (with_reducible refine Calls.mono (g6 _ H5) ?_); rintro e v6 ⟨rfl, H6⟩)
    | (go_at_call 27; (with_reducible refine Calls.mono (g7 _ H6) ?_); rintro e v7 ⟨rfl, H7⟩)
    | (go_at_call 21; (with_reducible refine Calls.mono (g8 _ H7) ?_); rintro e v8 ⟨p8, k8, rfl, H8, Z8⟩)
    | (go_at_call 28; (with_reducible refine Calls.mono (g9 _ _ _ H8 Z8) ?_); rintro e v9 ⟨rfl, H9⟩)
    | (go_at_call 19; (with_reducible refine Calls.mono (g10 _ H9) ?_); rintro e v10 ⟨rfl, H10⟩)
    | (go_at_call 21; (with_reducible refine Calls.mono (g11 _ H10) ?_); rintro e v11 ⟨p11, k11, rfl, H11, Z11⟩)
    | (go_at_call 28; (with_reducible refine Calls.mono (g12 _ _ _ H11 Z11) ?_); rintro e v12 ⟨rfl, H12⟩)
    | (go_at_call 19; (with_reducible refine Calls.mono (g13 _ H12) ?_); rintro e v13 ⟨rfl, H13⟩))
  all_goals go_wp2
  all_goals go_ret
  all_goals exact ⟨rfl, by first | exact HB6.out.trans (H13.out.mono HB6.out.size) | (rw [← hN]; exact HB6.out.trans (H13.out.mono HB6.out.size))⟩
end Go.Proofs.YtingfomfibhnhaaGreatDoor
