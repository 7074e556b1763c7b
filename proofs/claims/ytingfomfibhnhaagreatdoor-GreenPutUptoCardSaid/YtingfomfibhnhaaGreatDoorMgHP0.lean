/-
  The law GreenPut.
-/
import Derived.Test.YtingfomfibhnhaaGreatDoorMgHY
import Derived.Test.YtingfomfibhnhaaGreatDoorMgHPA
import Derived.Test.YtingfomfibhnhaaGreatDoorMgHPB
import Derived.Test.YtingfomfibhnhaaGreatDoorMgHWP
import Derived.Test.YtingfomfibhnhaaGreatDoorMgHSA
namespace Go.Proofs.YtingfomfibhnhaaGreatDoor
open Go.RowKit Go.Shelf Go.Maps

abbrev zeroT : T := .mk 0 (0, []) []
theorem put_none {x m : T} {p p2 : Option Addr} {c c2 : Nat} {l : List Int} {v : Value} {w : World} (h : atT x l = none) (hx : NAt AnyB w x (cellsN x p c)) (hm : NAt AnyB w m (cellsN m p2 c2)) (hl : PaAt w v l) (hlen : l.length ≤ 1000000) (hcx : countT x ≤ 1000000 ∧ shortT x) (hcm : countT m ≤ 1000000 ∧ shortT m) :
    Calls Tryz.prog 17 #[aggN x p c, v, aggN m p2 c2] w fun e w' => ∃ p c, e = .returned (.tuple #[aggN zeroT p c, .int .i64 5]) ∧ NAt (fun k => w.heap.size ≤ k) w' zeroT (cellsN zeroT p c) ∧ Below w.heap.size w w' :=
  (Put_any x m l w p p2 c c2 v hx hm hl hlen hcx hcm).mono fun e w' h2 => by
    obtain ⟨h3, h4⟩ := h2
    rcases h4 with ⟨_, h5⟩ | ⟨z, p', c', h5, _⟩
    · exact ⟨none, 0, h5, nat_leaf _ _ _ _, h3⟩
    · unfold putR at h5; rw [h] at h5; cases h5
theorem put_some {x m z : T} {p p2 : Option Addr} {c c2 : Nat} {l : List Int} {v : Value} {w : World} (h : atT x l = some z) (hx : NAt AnyB w x (cellsN x p c)) (hm : NAt AnyB w m (cellsN m p2 c2)) (hl : PaAt w v l) (hlen : l.length ≤ 1000000) (hcx : countT x ≤ 1000000 ∧ shortT x) (hcm : countT m ≤ 1000000 ∧ shortT m) :
    Calls Tryz.prog 17 #[aggN x p c, v, aggN m p2 c2] w fun e w' => ∃ p c, e = .returned (.tuple #[aggN (putT x l m) p c, .int .i64 0]) ∧ NAt (fun k => w.heap.size ≤ k) w' (putT x l m) (cellsN (putT x l m) p c) ∧ Below w.heap.size w w' :=
  (Put_any x m l w p p2 c c2 v hx hm hl hlen hcx hcm).mono fun e w' h2 => by
    obtain ⟨h3, h4⟩ := h2
    rcases h4 with ⟨h5, _⟩ | ⟨y, p', c', h5, h6, h7⟩
    · unfold putR at h5; rw [h] at h5; cases h5
    · unfold putR at h5; rw [h] at h5; cases h5
      exact ⟨p', c', h6, h7, h3⟩
theorem at_some2 {x m : T} {p : Option Addr} {c : Nat} {l : List Int} {v : Value} {w : World} (h : atT x l = some m) (hx : NAt AnyB w x (cellsN x p c)) (hl : PaAt w v l) (hlen : l.length ≤ 1000000) (hm : countT m ≤ 1000000 ∧ shortT m) :
    Calls Tryz.prog 14 #[aggN x p c, v] w fun e w' => ∃ (p' : Option Addr) (c' : Nat), e = .returned (.tuple #[aggN m p' c', .int .i64 0]) ∧ NAt (fun k => w.heap.size ≤ k) w' m (cellsN m p' c') ∧ Below w.heap.size w w' :=
  (At_any x l w p c v hx hl hlen (fun z hz => by rw [h] at hz; cases hz; exact hm)).mono fun e w' h2 => by
    obtain ⟨h3, h4⟩ := h2
    rcases h4 with ⟨h5, _⟩ | ⟨z, p', c', h5, h6, h7⟩
    · rw [h] at h5; cases h5
    · rw [h] at h5; cases h5
      exact ⟨p', c', h6, NAt.mono (fun _ _ h => h.1) _ _ (NIn.at _ _ _ _ h7), h3⟩
theorem path_take {w : World} {g o n cl : Nat} {l : List Int} (h : PaAt w (.slice (some ⟨g, o, none⟩) n cl) l) (hn : n = l.length) {k : Nat} (hk : k ≤ l.length) (h0 : 0 < l.length) : PaAt w (.slice (some ⟨g, o, none⟩) k cl) (l.take k) := by
  subst hn
  have h1 := SlIn.take (k := k) h hk h0
  unfold PaAt
  rw [List.length_take, Nat.min_eq_left hk, List.map_take]
  rw [Nat.mul_one] at h1
  exact h1
theorem same_r {a b : T} {w : World} {p p2 : Option Addr} {c c2 : Nat} (h : a = b) (ha : NAt AnyB w a (cellsN a p c)) (hb : NAt AnyB w b (cellsN b p2 c2)) (hc : countT a ≤ 1000000) : Calls Tryz.prog 19 #[aggN a p c, aggN b p2 c2] w (RetEnd (.bool true) w) := by
  subst h
  have := rsame_any a a w p p2 c c2 ha hb hc
  rw [sameT_self] at this
  exact this
theorem join_three {pre mid mid2 post : List UInt8} {f t : Nat} (hf : f = pre.length) (ht : t = pre.length + mid.length) :
    (⟨(pre ++ (mid ++ post)).toArray⟩ : ByteArray).extract 0 f ++ ⟨mid2.toArray⟩ ++ (⟨(pre ++ (mid ++ post)).toArray⟩ : ByteArray).extract t (⟨(pre ++ (mid ++ post)).toArray⟩ : ByteArray).size = ⟨(pre ++ (mid2 ++ post)).toArray⟩ := by
  subst hf ht
  have h1 : (⟨(pre ++ (mid ++ post)).toArray⟩ : ByteArray).extract 0 pre.length = ⟨pre.toArray⟩ := by
    apply Utf.ba_ext
    simp [ByteArray.data_extract]
  have hs : (⟨(pre ++ (mid ++ post)).toArray⟩ : ByteArray).size = pre.length + mid.length + post.length := by rw [Lib.size_eq]; simp [Nat.add_assoc]
  have h2 : (⟨(pre ++ (mid ++ post)).toArray⟩ : ByteArray).extract (pre.length + mid.length) (⟨(pre ++ (mid ++ post)).toArray⟩ : ByteArray).size = ⟨post.toArray⟩ := by
    rw [hs]
    apply Utf.ba_ext
    rw [ByteArray.data_extract, Array.toList_extract, ← List.append_assoc, List.extract_eq_take_drop, List.drop_append_of_le_length (by simp)]
    simp
  rw [h1, h2]
  apply Utf.ba_ext
  simp
set_option maxRecDepth 100000 in
set_option maxHeartbeats 16000000 in
theorem put_walk (x m : T) (l : List Int) (W : World) (p : Option Addr) (c : Nat) (p2 : Option Addr) (c2 : Nat) (pl : Option Addr) (cl : Nat) (hE : Env W) (hx : NAt AnyB W x (cellsN x p c)) (hm : NAt AnyB W m (cellsN m p2 c2)) (hl : PaAt W (.slice pl l.length cl) l) (hc : countT x ≤ 1048576) (hcm : countT m ≤ 1048576) :
    Calls Tryz.prog 7 #[aggN x p c, aggN m p2 c2, .slice pl l.length cl] W fun e w' => e = .returned (.bool true) ∧ Below W.heap.size W w' := by
  have HE : Hid (∀ w, Below W.heap.size W w → Env w) := Lib.hid fun w hb => hE.below hb hE.size
  have hwt := fun (w : World) (p : Option Addr) (c : Nat) (h : NAt AnyB w x (cellsN x p c)) => weight_any x p c w h (by omega)
  have hwm := fun (w : World) (p : Option Addr) (c : Nat) (h : NAt AnyB w m (cellsN m p c)) => weight_any m p c w h (by omega)
  have HWF := Lib.hid (And.intro (weight_fine x) (weight_fine m))
  have HWS := Lib.hid (And.intro (weight_short x) (weight_short m))
  obtain ⟨wt, hwte⟩ : ∃ wt, weightT x = wt := ⟨_, rfl⟩
  obtain ⟨wu, hwue⟩ : ∃ wt, weightT m = wt := ⟨_, rfl⟩
  rw [hwte] at hwt
  rw [hwue] at hwm
  rw [hwte, hwue] at HWF HWS
  have HWT := Lib.hid hwt
  have HWM := Lib.hid hwm
  clear hE hc hcm hwte hwue hwt hwm
  obtain ⟨w1, hw1⟩ : ∃ w, W.alloc (.cells #[.int .u8 x.kind, .int .u8 x.tok.1, .string ⟨x.tok.2.toArray⟩, .slice p x.kids.length c] 27) = w := ⟨_, rfl⟩
  have b1 : Below W.heap.size W w1 := by rw [← hw1]; exact galloc (Below.refl _ _) _
  have n1 : w1.heap[W.heap.size]? = some (.cells #[.int .u8 x.kind, .int .u8 x.tok.1, .string ⟨x.tok.2.toArray⟩, .slice p x.kids.length c] 27 (0, 0)) := by rw [← hw1]; exact World.alloc_heap_new W _
  obtain ⟨N, hN⟩ : ∃ G, W.heap.size = G := ⟨_, rfl⟩
  rw [hN] at n1
  have HB1 := Lib.hid b1
  have FN1 := Lib.hid n1
  clear b1 n1
  have hx1 := hx.below (HB1.out)
  have hm1 := hm.below (HB1.out)
  have hl1 := hl.below (HB1.out)
  have FX1 := Lib.hid hx1
  have FMX1 := Lib.hid hm1
  have FP1 := Lib.hid hl1
  clear hx hx1 hl hl1 hm hm1
  obtain ⟨w2, hw2⟩ : ∃ w, w1.alloc (.cells #[.int .u8 m.kind, .int .u8 m.tok.1, .string ⟨m.tok.2.toArray⟩, .slice p2 m.kids.length c2] 27) = w := ⟨_, rfl⟩
  have b2 : Below w1.heap.size w1 w2 := by rw [← hw2]; exact galloc (Below.refl _ _) _
  have n2 : w2.heap[w1.heap.size]? = some (.cells #[.int .u8 m.kind, .int .u8 m.tok.1, .string ⟨m.tok.2.toArray⟩, .slice p2 m.kids.length c2] 27 (0, 0)) := by rw [← hw2]; exact World.alloc_heap_new w1 _
  obtain ⟨MB, hMB⟩ : ∃ G, w1.heap.size = G := ⟨_, rfl⟩
  rw [hMB] at n2
  have FN2 := Lib.hid ((b2.block _ (Array.getElem?_eq_some_iff.1 FN1.out).1).trans FN1.out)
  clear FN1
  have FX2 := Lib.hid (FX1.out.below b2)
  clear FX1
  have FMX2 := Lib.hid (FMX1.out.below b2)
  clear FMX1
  have FP2 := Lib.hid (FP1.out.below b2)
  clear FP1
  have HB2 := Lib.hid (HB1.out.trans (b2.mono HB1.out.size))
  have FMB2 := Lib.hid n2
  clear b2 n2
  go_enter Tryz.func7, Tryz.ntmps7
  obtain ⟨a0, a1, a2, a3⟩ := box4 FN2.out
  go_wp2_with fail
  refine (gworks_any w2 (HE.out w2 HB2.out)).mono ?_
  rintro e w3 ⟨rfl, h3⟩
  clear a0 a1 a2 a3
  have FN3 := Lib.hid ((h3.block _ (Array.getElem?_eq_some_iff.1 FN2.out).1).trans FN2.out)
  clear FN2
  have FX3 := Lib.hid (FX2.out.below h3)
  clear FX2
  have FMX3 := Lib.hid (FMX2.out.below h3)
  clear FMX2
  have FP3 := Lib.hid (FP2.out.below h3)
  clear FP2
  have FMB3 := Lib.hid ((h3.block _ (Array.getElem?_eq_some_iff.1 FMB2.out).1).trans FMB2.out)
  clear FMB2
  have HB3 := Lib.hid (HB2.out.trans (h3.mono HB2.out.size))
  clear h3
  obtain ⟨a0, a1, a2, a3⟩ := box4 FN3.out
  go_wp2_with fail
  refine (HWT.out w3 _ _ FX3.out).mono ?_
  rintro e w4 ⟨rfl, h4⟩
  clear a0 a1 a2 a3
  have FN4 := Lib.hid ((h4.block _ (Array.getElem?_eq_some_iff.1 FN3.out).1).trans FN3.out)
  clear FN3
  have FX4 := Lib.hid (FX3.out.below h4)
  clear FX3
  have FMX4 := Lib.hid (FMX3.out.below h4)
  clear FMX3
  have FP4 := Lib.hid (FP3.out.below h4)
  clear FP3
  have FMB4 := Lib.hid ((h4.block _ (Array.getElem?_eq_some_iff.1 FMB3.out).1).trans FMB3.out)
  clear FMB3
  have HB4 := Lib.hid (HB3.out.trans (h4.mono HB3.out.size))
  clear h4
  by_cases hwl : 300 ≤ wt
  · have hwl1 : decide ((300 : Int) ≤ (wt : Int)) = true := decide_eq_true (by omega)
    have hwl2 : decide (300 ≤ wt) = true := decide_eq_true hwl
    go_wp2_with fail
    refine (gworks_any w4 (HE.out w4 HB4.out)).mono ?_
    rintro e w5 ⟨rfl, h5⟩
    have FN5 := Lib.hid ((h5.block _ (Array.getElem?_eq_some_iff.1 FN4.out).1).trans FN4.out)
    clear FN4
    have FX5 := Lib.hid (FX4.out.below h5)
    clear FX4
    have FMX5 := Lib.hid (FMX4.out.below h5)
    clear FMX4
    have FP5 := Lib.hid (FP4.out.below h5)
    clear FP4
    have FMB5 := Lib.hid ((h5.block _ (Array.getElem?_eq_some_iff.1 FMB4.out).1).trans FMB4.out)
    clear FMB4
    have HB5 := Lib.hid (HB4.out.trans (h5.mono HB4.out.size))
    clear h5
    go_wp2
    go_ret
    exact ⟨rfl, by first | exact HB5.out | (rw [← hN]; exact HB5.out)⟩
  have hwl1 : decide ((300 : Int) ≤ (wt : Int)) = false := decide_eq_false (by omega)
  have hwl2 : decide (300 ≤ wt) = false := decide_eq_false hwl
  obtain ⟨d0, d1, d2, d3⟩ := box4 FMB4.out
  go_wp2_with fail
  refine (HWM.out w4 _ _ FMX4.out).mono ?_
  rintro e w5 ⟨rfl, h5⟩
  clear d0 d1 d2 d3
  have FN5 := Lib.hid ((h5.block _ (Array.getElem?_eq_some_iff.1 FN4.out).1).trans FN4.out)
  clear FN4
  have FX5 := Lib.hid (FX4.out.below h5)
  clear FX4
  have FMX5 := Lib.hid (FMX4.out.below h5)
  clear FMX4
  have FP5 := Lib.hid (FP4.out.below h5)
  clear FP4
  have FMB5 := Lib.hid ((h5.block _ (Array.getElem?_eq_some_iff.1 FMB4.out).1).trans FMB4.out)
  clear FMB4
  have HB5 := Lib.hid (HB4.out.trans (h5.mono HB4.out.size))
  clear h5
  clear HWT HWM
  by_cases hul : 300 ≤ wu
  · have hul1 : decide ((300 : Int) ≤ (wu : Int)) = true := decide_eq_true (by omega)
    have hul2 : decide (300 ≤ wu) = true := decide_eq_true hul
    go_wp2_with fail
    refine (gworks_any w5 (HE.out w5 HB5.out)).mono ?_
    rintro e w6 ⟨rfl, h6⟩
    have FN6 := Lib.hid ((h6.block _ (Array.getElem?_eq_some_iff.1 FN5.out).1).trans FN5.out)
    clear FN5
    have FX6 := Lib.hid (FX5.out.below h6)
    clear FX5
    have FMX6 := Lib.hid (FMX5.out.below h6)
    clear FMX5
    have FP6 := Lib.hid (FP5.out.below h6)
    clear FP5
    have FMB6 := Lib.hid ((h6.block _ (Array.getElem?_eq_some_iff.1 FMB5.out).1).trans FMB5.out)
    clear FMB5
    have HB6 := Lib.hid (HB5.out.trans (h6.mono HB5.out.size))
    clear h6
    go_wp2
    go_ret
    exact ⟨rfl, by first | exact HB6.out | (rw [← hN]; exact HB6.out)⟩
  have hul1 : decide ((300 : Int) ≤ (wu : Int)) = false := decide_eq_false (by omega)
  have hul2 : decide (300 ≤ wu) = false := decide_eq_false hul
  by_cases hpl : 300 < l.length
  · have hpl1 : decide ((300 : Int) < (l.length : Int)) = true := decide_eq_true (by omega)
    have hpl2 : decide (300 < l.length) = true := decide_eq_true hpl
    go_wp2_with fail
    refine (gworks_any w5 (HE.out w5 HB5.out)).mono ?_
    rintro e w6 ⟨rfl, h6⟩
    have FN6 := Lib.hid ((h6.block _ (Array.getElem?_eq_some_iff.1 FN5.out).1).trans FN5.out)
    clear FN5
    have FX6 := Lib.hid (FX5.out.below h6)
    clear FX5
    have FMX6 := Lib.hid (FMX5.out.below h6)
    clear FMX5
    have FP6 := Lib.hid (FP5.out.below h6)
    clear FP5
    have FMB6 := Lib.hid ((h6.block _ (Array.getElem?_eq_some_iff.1 FMB5.out).1).trans FMB5.out)
    clear FMB5
    have HB6 := Lib.hid (HB5.out.trans (h6.mono HB5.out.size))
    clear h6
    go_wp2
    go_ret
    exact ⟨rfl, by first | exact HB6.out | (rw [← hN]; exact HB6.out)⟩
  have hpl1 : decide ((300 : Int) < (l.length : Int)) = false := decide_eq_false (by omega)
  have hpl2 : decide (300 < l.length) = false := decide_eq_false hpl
  have HC : Hid (countT x ≤ 100000 ∧ countT m ≤ 100000) := Lib.hid ⟨by have := (HWF.out.1 (by omega)).1; omega, by have := (HWF.out.2 (by omega)).1; omega⟩
  have HS : Hid (sizeT x ≤ 4800 ∧ sizeT m ≤ 4800) := Lib.hid ⟨by have := (HWF.out.1 (by omega)).2; omega, by have := (HWF.out.2 (by omega)).2; omega⟩
  have HSH : Hid (shortT x ∧ shortT m) := Lib.hid ⟨HWS.out.1 (by omega), HWS.out.2 (by omega)⟩
  have HPL : Hid (l.length ≤ 300) := Lib.hid (by omega)
  clear HWF HWS hwl hul hpl
  obtain ⟨a0, a1, a2, a3⟩ := box4 FN5.out
  go_wp2_with fail
  refine (given_r FX5.out (by have := HC.out.1; omega)).mono ?_
  rintro e w6 ⟨p5, c5, rfl, hx5, h6⟩
  clear a0 a1 a2 a3
  have FN6 := Lib.hid ((h6.block _ (Array.getElem?_eq_some_iff.1 FN5.out).1).trans FN5.out)
  clear FN5
  have FX6 := Lib.hid (FX5.out.below h6)
  clear FX5
  have FMX6 := Lib.hid (FMX5.out.below h6)
  clear FMX5
  have FP6 := Lib.hid (FP5.out.below h6)
  clear FP5
  have FMB6 := Lib.hid ((h6.block _ (Array.getElem?_eq_some_iff.1 FMB5.out).1).trans FMB5.out)
  clear FMB5
  have HB6 := Lib.hid (HB5.out.trans (h6.mono HB5.out.size))
  have FI6 := Lib.hid hx5
  clear h6 hx5 hwl1 hwl2 hul1 hul2 hpl1 hpl2
  obtain ⟨w7, hw7⟩ : ∃ w, w6.alloc (.cells #[.int .u8 x.kind, .int .u8 x.tok.1, .string ⟨x.tok.2.toArray⟩, .slice p5 x.kids.length c5] 27) = w := ⟨_, rfl⟩
  have b7 : Below w6.heap.size w6 w7 := by rw [← hw7]; exact galloc (Below.refl _ _) _
  have n7 : w7.heap[w6.heap.size]? = some (.cells #[.int .u8 x.kind, .int .u8 x.tok.1, .string ⟨x.tok.2.toArray⟩, .slice p5 x.kids.length c5] 27 (0, 0)) := by rw [← hw7]; exact World.alloc_heap_new w6 _
  obtain ⟨GB, hGB⟩ : ∃ G, w6.heap.size = G := ⟨_, rfl⟩
  rw [hGB] at n7
  have FN7 := Lib.hid ((b7.block _ (Array.getElem?_eq_some_iff.1 FN6.out).1).trans FN6.out)
  clear FN6
  have FX7 := Lib.hid (FX6.out.below b7)
  clear FX6
  have FMX7 := Lib.hid (FMX6.out.below b7)
  clear FMX6
  have FP7 := Lib.hid (FP6.out.below b7)
  clear FP6
  have FMB7 := Lib.hid ((b7.block _ (Array.getElem?_eq_some_iff.1 FMB6.out).1).trans FMB6.out)
  clear FMB6
  have FI7 := Lib.hid (FI6.out.below b7)
  clear FI6
  have HB7 := Lib.hid (HB6.out.trans (b7.mono HB6.out.size))
  have FB7 := Lib.hid n7
  clear b7 n7
  obtain ⟨a0, a1, a2, a3⟩ := box4 FB7.out
  cases hat : atT x l with
  | none =>
    go_wp2_with fail
    refine (at_none hat FI7.out FP7.out (by have := HPL.out; omega)).mono ?_
    rintro e w8 ⟨rfl, h8⟩
    clear a0 a1 a2 a3
    have FN8 := Lib.hid ((h8.block _ (Array.getElem?_eq_some_iff.1 FN7.out).1).trans FN7.out)
    clear FN7
    have FX8 := Lib.hid (FX7.out.below h8)
    clear FX7
    have FMX8 := Lib.hid (FMX7.out.below h8)
    clear FMX7
    have FP8 := Lib.hid (FP7.out.below h8)
    clear FP7
    have FMB8 := Lib.hid ((h8.block _ (Array.getElem?_eq_some_iff.1 FMB7.out).1).trans FMB7.out)
    clear FMB7
    have FI8 := Lib.hid (FI7.out.below h8)
    clear FI7
    have FB8 := Lib.hid ((h8.block _ (Array.getElem?_eq_some_iff.1 FB7.out).1).trans FB7.out)
    clear FB7
    have HB8 := Lib.hid (HB7.out.trans (h8.mono HB7.out.size))
    clear h8
    have b9 : Below w8.heap.size w8 (w8.alloc (.cells #[.int .u8 0, .int .u8 0, .string ⟨#[]⟩, .slice none 0 0] 27)) := galloc (Below.refl _ _) _
    obtain ⟨a0, a1, a2, a3⟩ := box4 ((b9.block _ (Array.getElem?_eq_some_iff.1 FB8.out).1).trans FB8.out)
    go_wp2_with fail
    generalize hw9 : w8.alloc (.cells #[.int .u8 0, .int .u8 0, .string ⟨#[]⟩, .slice none 0 0] 27) = w9 at *
    clear a0 a1 a2 a3
    have FN9 := Lib.hid ((b9.block _ (Array.getElem?_eq_some_iff.1 FN8.out).1).trans FN8.out)
    clear FN8
    have FX9 := Lib.hid (FX8.out.below b9)
    clear FX8
    have FMX9 := Lib.hid (FMX8.out.below b9)
    clear FMX8
    have FP9 := Lib.hid (FP8.out.below b9)
    clear FP8
    have FMB9 := Lib.hid ((b9.block _ (Array.getElem?_eq_some_iff.1 FMB8.out).1).trans FMB8.out)
    clear FMB8
    have FI9 := Lib.hid (FI8.out.below b9)
    clear FI8
    have FB9 := Lib.hid ((b9.block _ (Array.getElem?_eq_some_iff.1 FB8.out).1).trans FB8.out)
    clear FB8
    have HB9 := Lib.hid (HB8.out.trans (b9.mono HB8.out.size))
    clear b9
    refine (full_some (fullA_none hat) FI9.out FP9.out (by have := HPL.out; omega) HC.out.1 (by have := HS.out.1; omega)).mono ?_
    rintro e w10 ⟨rfl, h10⟩
    have FN10 := Lib.hid ((h10.block _ (Array.getElem?_eq_some_iff.1 FN9.out).1).trans FN9.out)
    clear FN9
    have FX10 := Lib.hid (FX9.out.below h10)
    clear FX9
    have FMX10 := Lib.hid (FMX9.out.below h10)
    clear FMX9
    have FP10 := Lib.hid (FP9.out.below h10)
    clear FP9
    have FMB10 := Lib.hid ((h10.block _ (Array.getElem?_eq_some_iff.1 FMB9.out).1).trans FMB9.out)
    clear FMB9
    have FI10 := Lib.hid (FI9.out.below h10)
    clear FI9
    have FB10 := Lib.hid ((h10.block _ (Array.getElem?_eq_some_iff.1 FB9.out).1).trans FB9.out)
    clear FB9
    have HB10 := Lib.hid (HB9.out.trans (h10.mono HB9.out.size))
    clear h10
    have b11 : Below w10.heap.size w10 (w10.alloc (.cells #[.int .i64 0, .int .i64 0] 40)) := galloc (Below.refl _ _) _
    obtain ⟨a0, a1, a2, a3⟩ := box4 ((b11.block _ (Array.getElem?_eq_some_iff.1 FB10.out).1).trans FB10.out)
    go_wp2_with fail
    generalize hw11 : w10.alloc (.cells #[.int .i64 0, .int .i64 0] 40) = w11 at *
    clear a0 a1 a2 a3
    have FN11 := Lib.hid ((b11.block _ (Array.getElem?_eq_some_iff.1 FN10.out).1).trans FN10.out)
    clear FN10
    have FX11 := Lib.hid (FX10.out.below b11)
    clear FX10
    have FMX11 := Lib.hid (FMX10.out.below b11)
    clear FMX10
    have FP11 := Lib.hid (FP10.out.below b11)
    clear FP10
    have FMB11 := Lib.hid ((b11.block _ (Array.getElem?_eq_some_iff.1 FMB10.out).1).trans FMB10.out)
    clear FMB10
    have FI11 := Lib.hid (FI10.out.below b11)
    clear FI10
    have FB11 := Lib.hid ((b11.block _ (Array.getElem?_eq_some_iff.1 FB10.out).1).trans FB10.out)
    clear FB10
    have HB11 := Lib.hid (HB10.out.trans (b11.mono HB10.out.size))
    clear b11
    have hcall : ∀ w pm cm, Below w11.heap.size w11 w → NAt AnyB w m (cellsN m pm cm) → Calls Tryz.prog 17 #[.agg #[.int .u8 x.kind, .int .u8 x.tok.1, .string ⟨x.tok.2.toArray⟩, .slice p5 x.kids.length c5], .slice pl l.length cl, .agg #[.int .u8 m.kind, .int .u8 m.tok.1, .string ⟨m.tok.2.toArray⟩, .slice pm m.kids.length cm]] w fun e w' => ∃ p c, e = .returned (.tuple #[aggN zeroT p c, .int .i64 5]) ∧ NAt (fun k => w.heap.size ≤ k) w' zeroT (cellsN zeroT p c) ∧ Below w.heap.size w w' := fun w pm cm h1 h2 => put_none hat (FI11.out.below h1) h2 (FP11.out.below h1) (by have := HPL.out; omega) ⟨by have := HC.out.1; omega, HSH.out.1⟩ ⟨by have := HC.out.2; omega, HSH.out.2⟩
    have hgiven : ∀ w, Below w11.heap.size w11 w → Calls Tryz.prog 21 #[.agg #[.int .u8 m.kind, .int .u8 m.tok.1, .string ⟨m.tok.2.toArray⟩, .slice p2 m.kids.length c2]] w fun e w' => ∃ pm cm, e = .returned (aggN m pm cm) ∧ NAt AnyB w' m (cellsN m pm cm) ∧ Below w.heap.size w w' := fun w h => given_r (FMX11.out.below h) (by have := HC.out.2; omega)
    refine regPut6 _ _ _ _ _ _ _ _ _ _ _ _ _ _ _ _ _ _ _ _ _ _ _ _ _ _ _ _ _ _ _ _ _ _ _ _ _ _ _ _ _ _ _ _ _ _ _ _ _ _ _ _ _ _ _ _ _ _ _ _ _ _ _ _ _ _ _ _ _ _ _ _ _ _ _ _ _ _ _ _ _ _ _ _ _ _ _ _ _ _ _ _ _ _ _ _ _ _ _ _ _ _ _ _ _ _ _ _ _ _ _ _ _ _ _ _ _ _ _ _ _ _ _ _ _ _ _ _ _ _ _ _ _ _ _ _ _ _ _ _ _ _ _ _ _ _ _ _ _ _ _ _ _ _ _ _ _ _ _ _ _ _ _ _ _ _ GB MB 5 pl cl l x m zeroT p5 p2 c5 c2 w11 _ FB11.out FMB11.out hgiven hcall ?_
    intro p12 c12 pm12 cm12 PB w12 h12 n12 hy12
    clear hcall hgiven
    have FN12 := Lib.hid ((h12.block _ (Array.getElem?_eq_some_iff.1 FN11.out).1).trans FN11.out)
    clear FN11
    have FX12 := Lib.hid (FX11.out.below h12)
    clear FX11
    have FMX12 := Lib.hid (FMX11.out.below h12)
    clear FMX11
    have FP12 := Lib.hid (FP11.out.below h12)
    clear FP11
    have FMB12 := Lib.hid ((h12.block _ (Array.getElem?_eq_some_iff.1 FMB11.out).1).trans FMB11.out)
    clear FMB11
    have FI12 := Lib.hid (FI11.out.below h12)
    clear FI11
    have FB12 := Lib.hid ((h12.block _ (Array.getElem?_eq_some_iff.1 FB11.out).1).trans FB11.out)
    clear FB11
    have HB12 := Lib.hid (HB11.out.trans (h12.mono HB11.out.size))
    clear hat n12 hy12 h12
    go_wp2
    go_ret
    exact ⟨rfl, by first | exact HB12.out | (rw [← hN]; exact HB12.out)⟩
  | some z =>
    have HAT := Lib.hid hat
    have HCZ := Lib.hid (count_at _ _ _ hat)
    clear hat
    go_wp2_with fail
    refine (at_some HAT.out FI7.out FP7.out (by have := HPL.out; omega) ⟨by have := HCZ.out.1; have := HC.out.1; omega, HCZ.out.2 HSH.out.1⟩).mono ?_
    rintro e w8 ⟨p7, c7, rfl, hx7, h8⟩
    clear a0 a1 a2 a3
    have FN8 := Lib.hid ((h8.block _ (Array.getElem?_eq_some_iff.1 FN7.out).1).trans FN7.out)
    clear FN7
    have FX8 := Lib.hid (FX7.out.below h8)
    clear FX7
    have FMX8 := Lib.hid (FMX7.out.below h8)
    clear FMX7
    have FP8 := Lib.hid (FP7.out.below h8)
    clear FP7
    have FMB8 := Lib.hid ((h8.block _ (Array.getElem?_eq_some_iff.1 FMB7.out).1).trans FMB7.out)
    clear FMB7
    have FI8 := Lib.hid (FI7.out.below h8)
    clear FI7
    have FB8 := Lib.hid ((h8.block _ (Array.getElem?_eq_some_iff.1 FB7.out).1).trans FB7.out)
    clear FB7
    have HB8 := Lib.hid (HB7.out.trans (h8.mono HB7.out.size))
    have FZ8 := Lib.hid hx7
    clear h8 hx7
    obtain ⟨w9, hw9⟩ : ∃ w, w8.alloc (.cells #[.int .u8 z.kind, .int .u8 z.tok.1, .string ⟨z.tok.2.toArray⟩, .slice p7 z.kids.length c7] 27) = w := ⟨_, rfl⟩
    have b9 : Below w8.heap.size w8 w9 := by rw [← hw9]; exact galloc (Below.refl _ _) _
    have n9 : w9.heap[w8.heap.size]? = some (.cells #[.int .u8 z.kind, .int .u8 z.tok.1, .string ⟨z.tok.2.toArray⟩, .slice p7 z.kids.length c7] 27 (0, 0)) := by rw [← hw9]; exact World.alloc_heap_new w8 _
    obtain ⟨ZB, hZB⟩ : ∃ G, w8.heap.size = G := ⟨_, rfl⟩
    rw [hZB] at n9
    have FN9 := Lib.hid ((b9.block _ (Array.getElem?_eq_some_iff.1 FN8.out).1).trans FN8.out)
    clear FN8
    have FX9 := Lib.hid (FX8.out.below b9)
    clear FX8
    have FMX9 := Lib.hid (FMX8.out.below b9)
    clear FMX8
    have FP9 := Lib.hid (FP8.out.below b9)
    clear FP8
    have FMB9 := Lib.hid ((b9.block _ (Array.getElem?_eq_some_iff.1 FMB8.out).1).trans FMB8.out)
    clear FMB8
    have FI9 := Lib.hid (FI8.out.below b9)
    clear FI8
    have FB9 := Lib.hid ((b9.block _ (Array.getElem?_eq_some_iff.1 FB8.out).1).trans FB8.out)
    clear FB8
    have FZ9 := Lib.hid (FZ8.out.below b9)
    clear FZ8
    have HB9 := Lib.hid (HB8.out.trans (b9.mono HB8.out.size))
    have FZB9 := Lib.hid n9
    clear b9 n9
    obtain ⟨a0, a1, a2, a3⟩ := box4 FB9.out
    obtain ⟨⟨fa, fb⟩, hfab⟩ : ∃ s, fullT x l = s := ⟨_, rfl⟩
    have hfull := fullA_some HAT.out
    rw [hfab] at hfull
    have HFF := Lib.hid hfull
    clear hfull hfab
    go_wp2_with fail
    refine (full_some HFF.out FI9.out FP9.out (by have := HPL.out; omega) HC.out.1 (by have := HS.out.1; omega)).mono ?_
    rintro e w10 ⟨rfl, h10⟩
    clear a0 a1 a2 a3
    have FN10 := Lib.hid ((h10.block _ (Array.getElem?_eq_some_iff.1 FN9.out).1).trans FN9.out)
    clear FN9
    have FX10 := Lib.hid (FX9.out.below h10)
    clear FX9
    have FMX10 := Lib.hid (FMX9.out.below h10)
    clear FMX9
    have FP10 := Lib.hid (FP9.out.below h10)
    clear FP9
    have FMB10 := Lib.hid ((h10.block _ (Array.getElem?_eq_some_iff.1 FMB9.out).1).trans FMB9.out)
    clear FMB9
    have FI10 := Lib.hid (FI9.out.below h10)
    clear FI9
    have FB10 := Lib.hid ((h10.block _ (Array.getElem?_eq_some_iff.1 FB9.out).1).trans FB9.out)
    clear FB9
    have FZ10 := Lib.hid (FZ9.out.below h10)
    clear FZ9
    have FZB10 := Lib.hid ((h10.block _ (Array.getElem?_eq_some_iff.1 FZB9.out).1).trans FZB9.out)
    clear FZB9
    have HB10 := Lib.hid (HB9.out.trans (h10.mono HB9.out.size))
    clear h10
    dsimp only
    obtain ⟨w11, hw11⟩ : ∃ w, w10.alloc (.cells #[.int .i64 (fa : Int), .int .i64 (fb : Int)] 40) = w := ⟨_, rfl⟩
    have b11 : Below w10.heap.size w10 w11 := by rw [← hw11]; exact galloc (Below.refl _ _) _
    have n11 : w11.heap[w10.heap.size]? = some (.cells #[.int .i64 (fa : Int), .int .i64 (fb : Int)] 40 (0, 0)) := by rw [← hw11]; exact World.alloc_heap_new w10 _
    obtain ⟨GF, hGF⟩ : ∃ G, w10.heap.size = G := ⟨_, rfl⟩
    rw [hGF] at n11
    have FN11 := Lib.hid ((b11.block _ (Array.getElem?_eq_some_iff.1 FN10.out).1).trans FN10.out)
    clear FN10
    have FX11 := Lib.hid (FX10.out.below b11)
    clear FX10
    have FMX11 := Lib.hid (FMX10.out.below b11)
    clear FMX10
    have FP11 := Lib.hid (FP10.out.below b11)
    clear FP10
    have FMB11 := Lib.hid ((b11.block _ (Array.getElem?_eq_some_iff.1 FMB10.out).1).trans FMB10.out)
    clear FMB10
    have FI11 := Lib.hid (FI10.out.below b11)
    clear FI10
    have FB11 := Lib.hid ((b11.block _ (Array.getElem?_eq_some_iff.1 FB10.out).1).trans FB10.out)
    clear FB10
    have FZ11 := Lib.hid (FZ10.out.below b11)
    clear FZ10
    have FZB11 := Lib.hid ((b11.block _ (Array.getElem?_eq_some_iff.1 FZB10.out).1).trans FZB10.out)
    clear FZB10
    have HB11 := Lib.hid (HB10.out.trans (b11.mono HB10.out.size))
    have FF11 := Lib.hid n11
    clear b11 n11
    go_wp2_with fail
    have hcall : ∀ w pm cm, Below w11.heap.size w11 w → NAt AnyB w m (cellsN m pm cm) → Calls Tryz.prog 17 #[.agg #[.int .u8 x.kind, .int .u8 x.tok.1, .string ⟨x.tok.2.toArray⟩, .slice p5 x.kids.length c5], .slice pl l.length cl, .agg #[.int .u8 m.kind, .int .u8 m.tok.1, .string ⟨m.tok.2.toArray⟩, .slice pm m.kids.length cm]] w fun e w' => ∃ p c, e = .returned (.tuple #[aggN (putT x l m) p c, .int .i64 0]) ∧ NAt (fun k => w.heap.size ≤ k) w' (putT x l m) (cellsN (putT x l m) p c) ∧ Below w.heap.size w w' := fun w pm cm h1 h2 => put_some HAT.out (FI11.out.below h1) h2 (FP11.out.below h1) (by have := HPL.out; omega) ⟨by have := HC.out.1; omega, HSH.out.1⟩ ⟨by have := HC.out.2; omega, HSH.out.2⟩
    have hgiven : ∀ w, Below w11.heap.size w11 w → Calls Tryz.prog 21 #[.agg #[.int .u8 m.kind, .int .u8 m.tok.1, .string ⟨m.tok.2.toArray⟩, .slice p2 m.kids.length c2]] w fun e w' => ∃ pm cm, e = .returned (aggN m pm cm) ∧ NAt AnyB w' m (cellsN m pm cm) ∧ Below w.heap.size w w' := fun w h => given_r (FMX11.out.below h) (by have := HC.out.2; omega)
    refine regPut6 _ _ _ _ _ _ _ _ _ _ _ _ _ _ _ _ _ _ _ _ _ _ _ _ _ _ _ _ _ _ _ _ _ _ _ _ _ _ _ _ _ _ _ _ _ _ _ _ _ _ _ _ _ _ _ _ _ _ _ _ _ _ _ _ _ _ _ _ _ _ _ _ _ _ _ _ _ _ _ _ _ _ _ _ _ _ _ _ _ _ _ _ _ _ _ _ _ _ _ _ _ _ _ _ _ _ _ _ _ _ _ _ _ _ _ _ _ _ _ _ _ _ _ _ _ _ _ _ _ _ _ _ _ _ _ _ _ _ _ _ _ _ _ _ _ _ _ _ _ _ _ _ _ _ _ _ _ _ _ _ _ _ _ _ _ _ GB MB 0 pl cl l x m (putT x l m) p5 p2 c5 c2 w11 _ FB11.out FMB11.out hgiven hcall ?_
    intro p12 c12 pm12 cm12 PB w12 h12 n12 hy12
    clear hcall hgiven
    have FN12 := Lib.hid ((h12.block _ (Array.getElem?_eq_some_iff.1 FN11.out).1).trans FN11.out)
    clear FN11
    have FX12 := Lib.hid (FX11.out.below h12)
    clear FX11
    have FMX12 := Lib.hid (FMX11.out.below h12)
    clear FMX11
    have FP12 := Lib.hid (FP11.out.below h12)
    clear FP11
    have FMB12 := Lib.hid ((h12.block _ (Array.getElem?_eq_some_iff.1 FMB11.out).1).trans FMB11.out)
    clear FMB11
    have FI12 := Lib.hid (FI11.out.below h12)
    clear FI11
    have FB12 := Lib.hid ((h12.block _ (Array.getElem?_eq_some_iff.1 FB11.out).1).trans FB11.out)
    clear FB11
    have FZ12 := Lib.hid (FZ11.out.below h12)
    clear FZ11
    have FZB12 := Lib.hid ((h12.block _ (Array.getElem?_eq_some_iff.1 FZB11.out).1).trans FZB11.out)
    clear FZB11
    have FF12 := Lib.hid ((h12.block _ (Array.getElem?_eq_some_iff.1 FF11.out).1).trans FF11.out)
    clear FF11
    have HB12 := Lib.hid (HB11.out.trans (h12.mono HB11.out.size))
    have FPBX12 := Lib.hid n12
    have FPT12 := Lib.hid hy12
    clear h12 n12 hy12
    go_wp2_with fail
    have HI0 : Hid (Below W.heap.size W w12 ∧ (w12.heap[N]? = some (.cells #[.int .u8 x.kind, .int .u8 x.tok.1, .string ⟨x.tok.2.toArray⟩, .slice p x.kids.length c] 27 (0, 0))) ∧ (w12.heap[MB]? = some (.cells #[.int .u8 m.kind, .int .u8 m.tok.1, .string ⟨m.tok.2.toArray⟩, .slice p2 m.kids.length c2] 27 (0, 0))) ∧ (w12.heap[GB]? = some (.cells #[.int .u8 x.kind, .int .u8 x.tok.1, .string ⟨x.tok.2.toArray⟩, .slice p5 x.kids.length c5] 27 (0, 0))) ∧ (w12.heap[ZB]? = some (.cells #[.int .u8 z.kind, .int .u8 z.tok.1, .string ⟨z.tok.2.toArray⟩, .slice p7 z.kids.length c7] 27 (0, 0))) ∧ (w12.heap[GF]? = some (.cells #[.int .i64 (fa : Int), .int .i64 (fb : Int)] 40 (0, 0))) ∧ (w12.heap[PB]? = some (boxN (putT x l m) p12 c12)) ∧ (NAt AnyB w12 x (cellsN x p c)) ∧ (NAt AnyB w12 m (cellsN m p2 c2)) ∧ (NAt AnyB w12 x (cellsN x p5 c5)) ∧ (NAt AnyB w12 z (cellsN z p7 c7)) ∧ (NAt AnyB w12 (putT x l m) (cellsN (putT x l m) p12 c12)) ∧ (PaAt w12 (.slice pl l.length cl) l)) := Lib.hid ⟨HB12.out, FN12.out, FMB12.out, FB12.out, FZB12.out, FF12.out, FPBX12.out, FX12.out, FMX12.out, FI12.out, FZ12.out, FPT12.out, FP12.out⟩
    clear FN12
    clear FX12
    clear FMX12
    clear FP12
    clear FMB12
    clear FI12
    clear FB12
    clear FZ12
    clear FZB12
    clear FF12
    clear FPBX12
    clear FPT12
    clear HB1 HB2 HB3 HB4 HB5 HB6 HB7 HB8 HB9 HB10 HB11 HB12
    have HCL0 : Hid (∀ j, j < 0 → ∀ y, atT x (l.take j) = some y → y.kind ≠ 2) := Lib.hid fun j h => absurd h (by omega)
    go_loopw [14, 15, 16] (fun iv _ _ wr => ∃ i : Nat, i ≤ l.length ∧ iv = .int .i64 i ∧ Hid (Below W.heap.size W wr ∧ (wr.heap[N]? = some (.cells #[.int .u8 x.kind, .int .u8 x.tok.1, .string ⟨x.tok.2.toArray⟩, .slice p x.kids.length c] 27 (0, 0))) ∧ (wr.heap[MB]? = some (.cells #[.int .u8 m.kind, .int .u8 m.tok.1, .string ⟨m.tok.2.toArray⟩, .slice p2 m.kids.length c2] 27 (0, 0))) ∧ (wr.heap[GB]? = some (.cells #[.int .u8 x.kind, .int .u8 x.tok.1, .string ⟨x.tok.2.toArray⟩, .slice p5 x.kids.length c5] 27 (0, 0))) ∧ (wr.heap[ZB]? = some (.cells #[.int .u8 z.kind, .int .u8 z.tok.1, .string ⟨z.tok.2.toArray⟩, .slice p7 z.kids.length c7] 27 (0, 0))) ∧ (wr.heap[GF]? = some (.cells #[.int .i64 (fa : Int), .int .i64 (fb : Int)] 40 (0, 0))) ∧ (wr.heap[PB]? = some (boxN (putT x l m) p12 c12)) ∧ (NAt AnyB wr x (cellsN x p c)) ∧ (NAt AnyB wr m (cellsN m p2 c2)) ∧ (NAt AnyB wr x (cellsN x p5 c5)) ∧ (NAt AnyB wr z (cellsN z p7 c7)) ∧ (NAt AnyB wr (putT x l m) (cellsN (putT x l m) p12 c12)) ∧ (PaAt wr (.slice pl l.length cl) l)) ∧ Hid (∀ j, j < i → ∀ y, atT x (l.take j) = some y → y.kind ≠ 2)) (fun iv _ _ _ => l.length - (intOf iv).toNat)
    case atStart => exact ⟨0, by omega, rfl, HI0, HCL0⟩
    case round =>
      clear HI0 HCL0
      obtain ⟨i, hi, rfl, HI, HCL⟩ := hrel
      rcases Nat.lt_or_ge i l.length with hlt | hge
      · have hlt' : (i : Int) < (l.length : Int) := by omega
        have hwi : IntKind.i64.wrap ((i : Int) + 1) = ((i + 1 : Nat) : Int) := by rw [IntWalk.i64_in _ (by have := HPL.out; omega)]; omega
        obtain ⟨y, hy⟩ := at_take l x z i HAT.out
        have HY := Lib.hid hy
        have HCY := Lib.hid (count_at _ _ _ hy)
        clear hy
        have HB13 := Lib.hid HI.out.1
        have FN13 := Lib.hid (HI.out.2.1)
        have FMB13 := Lib.hid (HI.out.2.2.1)
        have FB13 := Lib.hid (HI.out.2.2.2.1)
        have FZB13 := Lib.hid (HI.out.2.2.2.2.1)
        have FF13 := Lib.hid (HI.out.2.2.2.2.2.1)
        have FPBX13 := Lib.hid (HI.out.2.2.2.2.2.2.1)
        have FX13 := Lib.hid (HI.out.2.2.2.2.2.2.2.1)
        have FMX13 := Lib.hid (HI.out.2.2.2.2.2.2.2.2.1)
        have FI13 := Lib.hid (HI.out.2.2.2.2.2.2.2.2.2.1)
        have FZ13 := Lib.hid (HI.out.2.2.2.2.2.2.2.2.2.2.1)
        have FPT13 := Lib.hid (HI.out.2.2.2.2.2.2.2.2.2.2.2.1)
        have FP13 := Lib.hid (HI.out.2.2.2.2.2.2.2.2.2.2.2.2)
        have hpp := FP13.out
        obtain ⟨gl, ol, hpl, _⟩ := SlIn.cellAt hpp (by omega)
        subst hpl
        have hicl : i ≤ cl := by
          obtain ⟨_, _, c', h2, h3, _⟩ := hpp
          cases h2; omega
        have hcall : ∀ w, Below wr.heap.size wr w → Calls Tryz.prog 14 #[.agg #[.int .u8 x.kind, .int .u8 x.tok.1, .string ⟨x.tok.2.toArray⟩, .slice p5 x.kids.length c5], .slice (some ⟨gl, ol, none⟩) i cl] w fun e w' => ∃ p c, e = .returned (.tuple #[aggN y p c, .int .i64 0]) ∧ NAt (fun k => w.heap.size ≤ k) w' y (cellsN y p c) ∧ Below w.heap.size w w' := fun w h1 => at_some2 HY.out (FI13.out.below h1) (path_take (FP13.out.below h1) rfl hi (by omega)) (by rw [List.length_take]; have := HPL.out; omega) ⟨by have := HCY.out.1; have := HC.out.1; omega, HCY.out.2 HSH.out.1⟩
        clear hpp
        go_wp2_with fail
        refine regAt12 _ _ _ _ _ _ _ _ _ _ _ _ _ _ _ _ _ _ _ _ _ _ _ _ _ _ _ _ _ _ _ _ _ _ _ _ _ _ _ _ _ _ _ _ _ _ _ _ _ _ _ _ _ _ _ _ _ _ _ _ _ _ _ _ _ _ _ _ _ _ _ _ _ _ _ _ _ _ _ _ _ _ _ _ _ _ _ _ _ _ _ _ _ _ _ _ _ _ _ _ _ _ _ _ _ _ _ _ _ _ _ _ _ _ _ _ _ _ _ _ _ _ _ _ _ _ _ _ _ _ _ _ _ _ _ _ _ _ _ _ _ _ _ _ _ _ _ _ _ _ _ _ _ _ _ _ _ _ _ _ _ _ _ _ _ _ GB 0 gl ol cl i l x y p5 c5 wr _ FB13.out hicl hcall ?_
        intro p15 c15 gy w14 h14 n14 hy14
        clear hcall hicl
        have FN14 := Lib.hid ((h14.block _ (Array.getElem?_eq_some_iff.1 FN13.out).1).trans FN13.out)
        clear FN13
        have FMB14 := Lib.hid ((h14.block _ (Array.getElem?_eq_some_iff.1 FMB13.out).1).trans FMB13.out)
        clear FMB13
        have FB14 := Lib.hid ((h14.block _ (Array.getElem?_eq_some_iff.1 FB13.out).1).trans FB13.out)
        clear FB13
        have FZB14 := Lib.hid ((h14.block _ (Array.getElem?_eq_some_iff.1 FZB13.out).1).trans FZB13.out)
        clear FZB13
        have FF14 := Lib.hid ((h14.block _ (Array.getElem?_eq_some_iff.1 FF13.out).1).trans FF13.out)
        clear FF13
        have FPBX14 := Lib.hid ((h14.block _ (Array.getElem?_eq_some_iff.1 FPBX13.out).1).trans FPBX13.out)
        clear FPBX13
        have FX14 := Lib.hid (FX13.out.below h14)
        clear FX13
        have FMX14 := Lib.hid (FMX13.out.below h14)
        clear FMX13
        have FI14 := Lib.hid (FI13.out.below h14)
        clear FI13
        have FZ14 := Lib.hid (FZ13.out.below h14)
        clear FZ13
        have FPT14 := Lib.hid (FPT13.out.below h14)
        clear FPT13
        have FP14 := Lib.hid (FP13.out.below h14)
        clear FP13
        have HB14 := Lib.hid (HB13.out.trans (h14.mono HB13.out.size))
        obtain ⟨y0, y1, y2, y3⟩ := box4 n14
        have HI14 : Hid (Below W.heap.size W w14 ∧ (w14.heap[N]? = some (.cells #[.int .u8 x.kind, .int .u8 x.tok.1, .string ⟨x.tok.2.toArray⟩, .slice p x.kids.length c] 27 (0, 0))) ∧ (w14.heap[MB]? = some (.cells #[.int .u8 m.kind, .int .u8 m.tok.1, .string ⟨m.tok.2.toArray⟩, .slice p2 m.kids.length c2] 27 (0, 0))) ∧ (w14.heap[GB]? = some (.cells #[.int .u8 x.kind, .int .u8 x.tok.1, .string ⟨x.tok.2.toArray⟩, .slice p5 x.kids.length c5] 27 (0, 0))) ∧ (w14.heap[ZB]? = some (.cells #[.int .u8 z.kind, .int .u8 z.tok.1, .string ⟨z.tok.2.toArray⟩, .slice p7 z.kids.length c7] 27 (0, 0))) ∧ (w14.heap[GF]? = some (.cells #[.int .i64 (fa : Int), .int .i64 (fb : Int)] 40 (0, 0))) ∧ (w14.heap[PB]? = some (boxN (putT x l m) p12 c12)) ∧ (NAt AnyB w14 x (cellsN x p c)) ∧ (NAt AnyB w14 m (cellsN m p2 c2)) ∧ (NAt AnyB w14 x (cellsN x p5 c5)) ∧ (NAt AnyB w14 z (cellsN z p7 c7)) ∧ (NAt AnyB w14 (putT x l m) (cellsN (putT x l m) p12 c12)) ∧ (PaAt w14 (.slice (some ⟨gl, ol, none⟩) l.length cl) l)) := Lib.hid ⟨HB14.out, FN14.out, FMB14.out, FB14.out, FZB14.out, FF14.out, FPBX14.out, FX14.out, FMX14.out, FI14.out, FZ14.out, FPT14.out, FP14.out⟩
        clear FN14 FMB14 FB14 FZB14 FF14 FPBX14 FX14 FMX14 FI14 FZ14 FPT14 FP14 n14 h14 hy14 HI
        by_cases hk2 : y.kind = 2
        · have hk3 : ((y.kind : Int) == 2) = true := by rw [hk2]; rfl
          clear hk2
          go_wp2
          go_ret
          exact ⟨rfl, by first | exact HI14.out.1 | (rw [← hN]; exact HI14.out.1)⟩
        · have hk3 : ((y.kind : Int) == 2) = false := beq_eq_false_iff_ne.2 (by omega)
          have HCL2 : Hid (∀ j, j < i + 1 → ∀ y, atT x (l.take j) = some y → y.kind ≠ 2) := Lib.hid fun j hj y2 h2 => by
            rcases Nat.lt_or_ge j i with h3 | h3
            · exact HCL.out j h3 y2 h2
            · obtain rfl : j = i := by omega
              rw [HY.out] at h2; cases h2; exact hk2
          clear hk2 HCL HY HCY y3 y2 y1
          go_wp2
          exact ⟨⟨i + 1, by omega, rfl, HI14, HCL2⟩, by simp [intOf]; omega⟩
      · obtain rfl : i = l.length := by omega
        have hlt' : ¬ (l.length : Int) < (l.length : Int) := by omega
        have hcl := clear_of l x z HAT.out fun i hi => HCL.out i hi
        obtain ⟨f, pre, post, e0, e1, e2, e3⟩ := put_facts x m z l hcl HAT.out
        have hff := e1.symm.trans HFF.out
        simp only [Prod.mk.injEq, and_true] at hff
        obtain ⟨hfa, hfb⟩ := hff
        have hsz : sizeT x = pre.length + (sizeT z + post.length) := by
          have := congrArg List.length e2
          rw [List.length_append, List.length_append] at this
          exact this
        have hsp : sizeT (putT x l m) = pre.length + (sizeT m + post.length) := by
          have := congrArg List.length e3
          rw [List.length_append, List.length_append] at this
          exact this
        have hcp := put_count l x m z HAT.out
        have HCP : Hid (countT (putT x l m) ≤ 200000 ∧ shortT (putT x l m) ∧ sizeT (putT x l m) ≤ 9600) := Lib.hid ⟨by have := hcp.1; have := HC.out; omega, hcp.2 HSH.out.1 HSH.out.2, by have := HS.out; omega⟩
        obtain ⟨TX, hTX⟩ : ∃ TX : ByteArray, (⟨(textT x).toArray⟩ : ByteArray) = TX := ⟨_, rfl⟩
        obtain ⟨TM, hTM⟩ : ∃ TX : ByteArray, (⟨(textT m).toArray⟩ : ByteArray) = TX := ⟨_, rfl⟩
        obtain ⟨TP, hTP⟩ : ∃ TX : ByteArray, (⟨(textT (putT x l m)).toArray⟩ : ByteArray) = TX := ⟨_, rfl⟩
        have hTS : TX.size = sizeT x := by rw [← hTX, Lib.size_eq]; rfl
        have hTMS : TM.size = sizeT m := by rw [← hTM, Lib.size_eq]; rfl
        have HJ : Hid (TX.extract 0 fa ++ TM ++ TX.extract fb TX.size = TP) := Lib.hid (by rw [← hTX, ← hTM, ← hTP, e2, e3]; exact join_three (by omega) (by have : (textT z).length = sizeT z := rfl; omega))
        have HSZ : Hid (fa ≤ fb ∧ fb ≤ TX.size ∧ TX.size ≤ 4800 ∧ TM.size ≤ 4800) := Lib.hid ⟨by omega, by rw [hTS]; omega, by rw [hTS]; exact HS.out.1, by rw [hTMS]; exact HS.out.2⟩
        have HTX := Lib.hid hTX
        have HTM := Lib.hid hTM
        have HTP := Lib.hid hTP
        have HAP := Lib.hid (at_put l x m z HAT.out)
        have HPB := Lib.hid (put_back l x m z HAT.out)
        clear hcl e0 e1 e2 e3 hfa hfb hsz hsp hcp hTX hTM hTP hTS hTMS HCL
        have HB13 := Lib.hid HI.out.1
        have FN13 := Lib.hid (HI.out.2.1)
        have FMB13 := Lib.hid (HI.out.2.2.1)
        have FB13 := Lib.hid (HI.out.2.2.2.1)
        have FZB13 := Lib.hid (HI.out.2.2.2.2.1)
        have FF13 := Lib.hid (HI.out.2.2.2.2.2.1)
        have FPBX13 := Lib.hid (HI.out.2.2.2.2.2.2.1)
        have FX13 := Lib.hid (HI.out.2.2.2.2.2.2.2.1)
        have FMX13 := Lib.hid (HI.out.2.2.2.2.2.2.2.2.1)
        have FI13 := Lib.hid (HI.out.2.2.2.2.2.2.2.2.2.1)
        have FZ13 := Lib.hid (HI.out.2.2.2.2.2.2.2.2.2.2.1)
        have FPT13 := Lib.hid (HI.out.2.2.2.2.2.2.2.2.2.2.2.1)
        have FP13 := Lib.hid (HI.out.2.2.2.2.2.2.2.2.2.2.2.2)
        obtain ⟨a0, a1, a2, a3⟩ := box4 FB13.out
        have htx := text_r FI13.out (by have := HC.out.1; omega) (by have := HS.out.1; omega)
        rw [HTX.out] at htx
        clear HI
        go_wp2_with fail
        refine (htx).mono ?_
        rintro e w14 ⟨rfl, h14⟩
        clear a0 a1 a2 a3
        have FN14 := Lib.hid ((h14.block _ (Array.getElem?_eq_some_iff.1 FN13.out).1).trans FN13.out)
        clear FN13
        have FMB14 := Lib.hid ((h14.block _ (Array.getElem?_eq_some_iff.1 FMB13.out).1).trans FMB13.out)
        clear FMB13
        have FB14 := Lib.hid ((h14.block _ (Array.getElem?_eq_some_iff.1 FB13.out).1).trans FB13.out)
        clear FB13
        have FZB14 := Lib.hid ((h14.block _ (Array.getElem?_eq_some_iff.1 FZB13.out).1).trans FZB13.out)
        clear FZB13
        have FF14 := Lib.hid ((h14.block _ (Array.getElem?_eq_some_iff.1 FF13.out).1).trans FF13.out)
        clear FF13
        have FPBX14 := Lib.hid ((h14.block _ (Array.getElem?_eq_some_iff.1 FPBX13.out).1).trans FPBX13.out)
        clear FPBX13
        have FX14 := Lib.hid (FX13.out.below h14)
        clear FX13
        have FMX14 := Lib.hid (FMX13.out.below h14)
        clear FMX13
        have FI14 := Lib.hid (FI13.out.below h14)
        clear FI13
        have FZ14 := Lib.hid (FZ13.out.below h14)
        clear FZ13
        have FPT14 := Lib.hid (FPT13.out.below h14)
        clear FPT13
        have FP14 := Lib.hid (FP13.out.below h14)
        clear FP13
        have HB14 := Lib.hid (HB13.out.trans (h14.mono HB13.out.size))
        clear h14 htx
        obtain ⟨a0, a1, a2, a3⟩ := box4 FB14.out
        obtain ⟨b0, b1, b2, b3⟩ := box4 FPBX14.out
        have f0 : w14.cell? ⟨GF, 0, none⟩ = some (.int .i64 (fa : Int)) := by rw [cellH FF14.out]; rfl
        have f1 : w14.cell? ⟨GF, 1, none⟩ = some (.int .i64 (fb : Int)) := by rw [cellH FF14.out]; rfl
        obtain ⟨s1, s2, s3, s4⟩ := HSZ.out
        have d1 : decide ((fa : Int) < 0) = false := decide_eq_false (by omega)
        have d2 : decide ((fb : Int) < (fa : Int)) = false := decide_eq_false (by omega)
        have d2' : decide (fb < fa) = false := decide_eq_false (by omega)
        have d3 : decide ((TX.size : Int) < (fb : Int)) = false := decide_eq_false (by omega)
        have d3' : decide (TX.size < fb) = false := decide_eq_false (by omega)
        go_wp2_with fail
        refine (at_some HAP.out FPT14.out FP14.out (by have := HPL.out; omega) ⟨by have := HC.out.2; omega, HSH.out.2⟩).mono ?_
        rintro e w15 ⟨p18, c18, rfl, hx18, h15⟩
        clear a0 a1 a2 a3 b0 b1 b2 b3 f0 f1 d1 d2 d2' d3 d3' s1 s2 s3 s4
        have FN15 := Lib.hid ((h15.block _ (Array.getElem?_eq_some_iff.1 FN14.out).1).trans FN14.out)
        clear FN14
        have FMB15 := Lib.hid ((h15.block _ (Array.getElem?_eq_some_iff.1 FMB14.out).1).trans FMB14.out)
        clear FMB14
        have FB15 := Lib.hid ((h15.block _ (Array.getElem?_eq_some_iff.1 FB14.out).1).trans FB14.out)
        clear FB14
        have FZB15 := Lib.hid ((h15.block _ (Array.getElem?_eq_some_iff.1 FZB14.out).1).trans FZB14.out)
        clear FZB14
        have FF15 := Lib.hid ((h15.block _ (Array.getElem?_eq_some_iff.1 FF14.out).1).trans FF14.out)
        clear FF14
        have FPBX15 := Lib.hid ((h15.block _ (Array.getElem?_eq_some_iff.1 FPBX14.out).1).trans FPBX14.out)
        clear FPBX14
        have FX15 := Lib.hid (FX14.out.below h15)
        clear FX14
        have FMX15 := Lib.hid (FMX14.out.below h15)
        clear FMX14
        have FI15 := Lib.hid (FI14.out.below h15)
        clear FI14
        have FZ15 := Lib.hid (FZ14.out.below h15)
        clear FZ14
        have FPT15 := Lib.hid (FPT14.out.below h15)
        clear FPT14
        have FP15 := Lib.hid (FP14.out.below h15)
        clear FP14
        have HB15 := Lib.hid (HB14.out.trans (h15.mono HB14.out.size))
        have FTH15 := Lib.hid hx18
        clear h15 hx18
        obtain ⟨w16, hw16⟩ : ∃ w, w15.alloc (.cells #[.int .u8 m.kind, .int .u8 m.tok.1, .string ⟨m.tok.2.toArray⟩, .slice p18 m.kids.length c18] 27) = w := ⟨_, rfl⟩
        have b16 : Below w15.heap.size w15 w16 := by rw [← hw16]; exact galloc (Below.refl _ _) _
        have n16 : w16.heap[w15.heap.size]? = some (.cells #[.int .u8 m.kind, .int .u8 m.tok.1, .string ⟨m.tok.2.toArray⟩, .slice p18 m.kids.length c18] 27 (0, 0)) := by rw [← hw16]; exact World.alloc_heap_new w15 _
        obtain ⟨THB, hTHB⟩ : ∃ G, w15.heap.size = G := ⟨_, rfl⟩
        rw [hTHB] at n16
        have FN16 := Lib.hid ((b16.block _ (Array.getElem?_eq_some_iff.1 FN15.out).1).trans FN15.out)
        clear FN15
        have FMB16 := Lib.hid ((b16.block _ (Array.getElem?_eq_some_iff.1 FMB15.out).1).trans FMB15.out)
        clear FMB15
        have FB16 := Lib.hid ((b16.block _ (Array.getElem?_eq_some_iff.1 FB15.out).1).trans FB15.out)
        clear FB15
        have FZB16 := Lib.hid ((b16.block _ (Array.getElem?_eq_some_iff.1 FZB15.out).1).trans FZB15.out)
        clear FZB15
        have FF16 := Lib.hid ((b16.block _ (Array.getElem?_eq_some_iff.1 FF15.out).1).trans FF15.out)
        clear FF15
        have FPBX16 := Lib.hid ((b16.block _ (Array.getElem?_eq_some_iff.1 FPBX15.out).1).trans FPBX15.out)
        clear FPBX15
        have FX16 := Lib.hid (FX15.out.below b16)
        clear FX15
        have FMX16 := Lib.hid (FMX15.out.below b16)
        clear FMX15
        have FI16 := Lib.hid (FI15.out.below b16)
        clear FI15
        have FZ16 := Lib.hid (FZ15.out.below b16)
        clear FZ15
        have FPT16 := Lib.hid (FPT15.out.below b16)
        clear FPT15
        have FP16 := Lib.hid (FP15.out.below b16)
        clear FP15
        have FTH16 := Lib.hid (FTH15.out.below b16)
        clear FTH15
        have HB16 := Lib.hid (HB15.out.trans (b16.mono HB15.out.size))
        have FTHB16 := Lib.hid n16
        clear b16 n16
        obtain ⟨b0, b1, b2, b3⟩ := box4 FPBX16.out
        obtain ⟨z0, z1, z2, z3⟩ := box4 FZB16.out
        have hp19 := put_some (m := z) HAP.out FPT16.out FZ16.out FP16.out (by have := HPL.out; omega) ⟨by have := HCP.out.1; omega, HCP.out.2.1⟩ ⟨by have := HCZ.out.1; have := HC.out.1; omega, HCZ.out.2 HSH.out.1⟩
        rw [HPB.out] at hp19
        go_wp2_with fail
        refine (hp19).mono ?_
        rintro e w17 ⟨p20, c20, rfl, hx20, h17⟩
        clear b0 b1 b2 b3 z0 z1 z2 z3
        have FN17 := Lib.hid ((h17.block _ (Array.getElem?_eq_some_iff.1 FN16.out).1).trans FN16.out)
        clear FN16
        have FMB17 := Lib.hid ((h17.block _ (Array.getElem?_eq_some_iff.1 FMB16.out).1).trans FMB16.out)
        clear FMB16
        have FB17 := Lib.hid ((h17.block _ (Array.getElem?_eq_some_iff.1 FB16.out).1).trans FB16.out)
        clear FB16
        have FZB17 := Lib.hid ((h17.block _ (Array.getElem?_eq_some_iff.1 FZB16.out).1).trans FZB16.out)
        clear FZB16
        have FF17 := Lib.hid ((h17.block _ (Array.getElem?_eq_some_iff.1 FF16.out).1).trans FF16.out)
        clear FF16
        have FPBX17 := Lib.hid ((h17.block _ (Array.getElem?_eq_some_iff.1 FPBX16.out).1).trans FPBX16.out)
        clear FPBX16
        have FX17 := Lib.hid (FX16.out.below h17)
        clear FX16
        have FMX17 := Lib.hid (FMX16.out.below h17)
        clear FMX16
        have FI17 := Lib.hid (FI16.out.below h17)
        clear FI16
        have FZ17 := Lib.hid (FZ16.out.below h17)
        clear FZ16
        have FPT17 := Lib.hid (FPT16.out.below h17)
        clear FPT16
        have FP17 := Lib.hid (FP16.out.below h17)
        clear FP16
        have FTH17 := Lib.hid (FTH16.out.below h17)
        clear FTH16
        have FTHB17 := Lib.hid ((h17.block _ (Array.getElem?_eq_some_iff.1 FTHB16.out).1).trans FTHB16.out)
        clear FTHB16
        have HB17 := Lib.hid (HB16.out.trans (h17.mono HB16.out.size))
        have FBK17 := Lib.hid hx20.any
        clear h17 hx20 hp19
        obtain ⟨w18, hw18⟩ : ∃ w, w17.alloc (.cells #[.int .u8 x.kind, .int .u8 x.tok.1, .string ⟨x.tok.2.toArray⟩, .slice p20 x.kids.length c20] 27) = w := ⟨_, rfl⟩
        have b18 : Below w17.heap.size w17 w18 := by rw [← hw18]; exact galloc (Below.refl _ _) _
        have n18 : w18.heap[w17.heap.size]? = some (.cells #[.int .u8 x.kind, .int .u8 x.tok.1, .string ⟨x.tok.2.toArray⟩, .slice p20 x.kids.length c20] 27 (0, 0)) := by rw [← hw18]; exact World.alloc_heap_new w17 _
        obtain ⟨BKB, hBKB⟩ : ∃ G, w17.heap.size = G := ⟨_, rfl⟩
        rw [hBKB] at n18
        have FN18 := Lib.hid ((b18.block _ (Array.getElem?_eq_some_iff.1 FN17.out).1).trans FN17.out)
        clear FN17
        have FMB18 := Lib.hid ((b18.block _ (Array.getElem?_eq_some_iff.1 FMB17.out).1).trans FMB17.out)
        clear FMB17
        have FB18 := Lib.hid ((b18.block _ (Array.getElem?_eq_some_iff.1 FB17.out).1).trans FB17.out)
        clear FB17
        have FZB18 := Lib.hid ((b18.block _ (Array.getElem?_eq_some_iff.1 FZB17.out).1).trans FZB17.out)
        clear FZB17
        have FF18 := Lib.hid ((b18.block _ (Array.getElem?_eq_some_iff.1 FF17.out).1).trans FF17.out)
        clear FF17
        have FPBX18 := Lib.hid ((b18.block _ (Array.getElem?_eq_some_iff.1 FPBX17.out).1).trans FPBX17.out)
        clear FPBX17
        have FX18 := Lib.hid (FX17.out.below b18)
        clear FX17
        have FMX18 := Lib.hid (FMX17.out.below b18)
        clear FMX17
        have FI18 := Lib.hid (FI17.out.below b18)
        clear FI17
        have FZ18 := Lib.hid (FZ17.out.below b18)
        clear FZ17
        have FPT18 := Lib.hid (FPT17.out.below b18)
        clear FPT17
        have FP18 := Lib.hid (FP17.out.below b18)
        clear FP17
        have FTH18 := Lib.hid (FTH17.out.below b18)
        clear FTH17
        have FTHB18 := Lib.hid ((b18.block _ (Array.getElem?_eq_some_iff.1 FTHB17.out).1).trans FTHB17.out)
        clear FTHB17
        have FBK18 := Lib.hid (FBK17.out.below b18)
        clear FBK17
        have HB18 := Lib.hid (HB17.out.trans (b18.mono HB17.out.size))
        have FBKB18 := Lib.hid n18
        clear b18 n18
        go_wp2_with fail
        obtain ⟨t0, t1, t2, t3⟩ := box4 FTHB18.out
        obtain ⟨m0, m1, m2, m3⟩ := box4 FMB18.out
        obtain ⟨k0, k1, k2, k3⟩ := box4 FBKB18.out
        obtain ⟨n0, n1, n2, n3⟩ := box4 FN18.out
        obtain ⟨b0, b1, b2, b3⟩ := box4 FPBX18.out
        have f0 : w18.cell? ⟨GF, 0, none⟩ = some (.int .i64 (fa : Int)) := by rw [cellH FF18.out]; rfl
        have f1 : w18.cell? ⟨GF, 1, none⟩ = some (.int .i64 (fb : Int)) := by rw [cellH FF18.out]; rfl
        have HS0 : Hid ((w18.cell? ⟨GF, 0, none⟩ = some (.int .i64 (fa : Int)) ∧ w18.cell? ⟨GF, 1, none⟩ = some (.int .i64 (fb : Int))) ∧ (w18.cell? ⟨THB, 0, none⟩ = some (.int .u8 m.kind) ∧ w18.cell? ⟨THB, 1, none⟩ = some (.int .u8 m.tok.1) ∧ w18.cell? ⟨THB, 2, none⟩ = some (.string ⟨m.tok.2.toArray⟩) ∧ w18.cell? ⟨THB, 3, none⟩ = some (.slice p18 m.kids.length c18)) ∧ (w18.cell? ⟨MB, 0, none⟩ = some (.int .u8 m.kind) ∧ w18.cell? ⟨MB, 1, none⟩ = some (.int .u8 m.tok.1) ∧ w18.cell? ⟨MB, 2, none⟩ = some (.string ⟨m.tok.2.toArray⟩) ∧ w18.cell? ⟨MB, 3, none⟩ = some (.slice p2 m.kids.length c2)) ∧ (w18.cell? ⟨BKB, 0, none⟩ = some (.int .u8 x.kind) ∧ w18.cell? ⟨BKB, 1, none⟩ = some (.int .u8 x.tok.1) ∧ w18.cell? ⟨BKB, 2, none⟩ = some (.string ⟨x.tok.2.toArray⟩) ∧ w18.cell? ⟨BKB, 3, none⟩ = some (.slice p20 x.kids.length c20)) ∧ (w18.cell? ⟨N, 0, none⟩ = some (.int .u8 x.kind) ∧ w18.cell? ⟨N, 1, none⟩ = some (.int .u8 x.tok.1) ∧ w18.cell? ⟨N, 2, none⟩ = some (.string ⟨x.tok.2.toArray⟩) ∧ w18.cell? ⟨N, 3, none⟩ = some (.slice p x.kids.length c)) ∧ (w18.cell? ⟨PB, 0, none⟩ = some (.int .u8 (putT x l m).kind) ∧ w18.cell? ⟨PB, 1, none⟩ = some (.int .u8 (putT x l m).tok.1) ∧ w18.cell? ⟨PB, 2, none⟩ = some (.string ⟨(putT x l m).tok.2.toArray⟩) ∧ w18.cell? ⟨PB, 3, none⟩ = some (.slice p12 (putT x l m).kids.length c12))) := Lib.hid ⟨⟨f0, f1⟩, ⟨t0, t1, t2, t3⟩, ⟨m0, m1, m2, m3⟩, ⟨k0, k1, k2, k3⟩, ⟨n0, n1, n2, n3⟩, ⟨b0, b1, b2, b3⟩⟩
        have HSK : Hid (∀ w, Below w18.heap.size w18 w → (w.cell? ⟨GF, 0, none⟩ = some (.int .i64 (fa : Int)) ∧ w.cell? ⟨GF, 1, none⟩ = some (.int .i64 (fb : Int))) ∧ (w.cell? ⟨THB, 0, none⟩ = some (.int .u8 m.kind) ∧ w.cell? ⟨THB, 1, none⟩ = some (.int .u8 m.tok.1) ∧ w.cell? ⟨THB, 2, none⟩ = some (.string ⟨m.tok.2.toArray⟩) ∧ w.cell? ⟨THB, 3, none⟩ = some (.slice p18 m.kids.length c18)) ∧ (w.cell? ⟨MB, 0, none⟩ = some (.int .u8 m.kind) ∧ w.cell? ⟨MB, 1, none⟩ = some (.int .u8 m.tok.1) ∧ w.cell? ⟨MB, 2, none⟩ = some (.string ⟨m.tok.2.toArray⟩) ∧ w.cell? ⟨MB, 3, none⟩ = some (.slice p2 m.kids.length c2)) ∧ (w.cell? ⟨BKB, 0, none⟩ = some (.int .u8 x.kind) ∧ w.cell? ⟨BKB, 1, none⟩ = some (.int .u8 x.tok.1) ∧ w.cell? ⟨BKB, 2, none⟩ = some (.string ⟨x.tok.2.toArray⟩) ∧ w.cell? ⟨BKB, 3, none⟩ = some (.slice p20 x.kids.length c20)) ∧ (w.cell? ⟨N, 0, none⟩ = some (.int .u8 x.kind) ∧ w.cell? ⟨N, 1, none⟩ = some (.int .u8 x.tok.1) ∧ w.cell? ⟨N, 2, none⟩ = some (.string ⟨x.tok.2.toArray⟩) ∧ w.cell? ⟨N, 3, none⟩ = some (.slice p x.kids.length c)) ∧ (w.cell? ⟨PB, 0, none⟩ = some (.int .u8 (putT x l m).kind) ∧ w.cell? ⟨PB, 1, none⟩ = some (.int .u8 (putT x l m).tok.1) ∧ w.cell? ⟨PB, 2, none⟩ = some (.string ⟨(putT x l m).tok.2.toArray⟩) ∧ w.cell? ⟨PB, 3, none⟩ = some (.slice p12 (putT x l m).kids.length c12))) := Lib.hid fun w hb => by
          obtain ⟨⟨f0, f1⟩, ⟨t0, t1, t2, t3⟩, ⟨m0, m1, m2, m3⟩, ⟨k0, k1, k2, k3⟩, ⟨n0, n1, n2, n3⟩, ⟨b0, b1, b2, b3⟩⟩ := HS0.out
          exact ⟨⟨cell_in hb f0, cell_in hb f1⟩, ⟨cell_in hb t0, cell_in hb t1, cell_in hb t2, cell_in hb t3⟩, ⟨cell_in hb m0, cell_in hb m1, cell_in hb m2, cell_in hb m3⟩, ⟨cell_in hb k0, cell_in hb k1, cell_in hb k2, cell_in hb k3⟩, ⟨cell_in hb n0, cell_in hb n1, cell_in hb n2, cell_in hb n3⟩, ⟨cell_in hb b0, cell_in hb b1, cell_in hb b2, cell_in hb b3⟩⟩
        have g1 : Calls Tryz.prog 19 #[.agg #[.int .u8 m.kind, .int .u8 m.tok.1, .string ⟨m.tok.2.toArray⟩, .slice p18 m.kids.length c18], .agg #[.int .u8 m.kind, .int .u8 m.tok.1, .string ⟨m.tok.2.toArray⟩, .slice p2 m.kids.length c2]] w18.drew fun e w' => e = .returned (.bool true) ∧ Hid (Below w18.heap.size w18 w') := (same_r rfl (FTH18.out.below (Below.refl _ _).drew) (FMX18.out.below (Below.refl _ _).drew) (by have := HC.out.2; omega)).mono fun e w' ⟨h1, h2⟩ => ⟨h1, Lib.hid ((Below.refl _ _).drew.trans h2)⟩
        have g2 : ∀ w, Hid (Below w18.heap.size w18 w) → Calls Tryz.prog 19 #[.agg #[.int .u8 x.kind, .int .u8 x.tok.1, .string ⟨x.tok.2.toArray⟩, .slice p20 x.kids.length c20], .agg #[.int .u8 x.kind, .int .u8 x.tok.1, .string ⟨x.tok.2.toArray⟩, .slice p x.kids.length c]] w fun e w' => e = .returned (.bool true) ∧ Hid (Below w18.heap.size w18 w') := fun w hw => (same_r rfl (FBK18.out.below hw.out) (FX18.out.below hw.out) (by have := HC.out.1; omega)).mono fun e w' ⟨h1, h2⟩ => ⟨h1, Lib.hid (gcall hw.out h2 hw.out.size)⟩
        have g3 : ∀ w, Hid (Below w18.heap.size w18 w) → Calls Tryz.prog 22 #[.agg #[.int .u8 (putT x l m).kind, .int .u8 (putT x l m).tok.1, .string ⟨(putT x l m).tok.2.toArray⟩, .slice p12 (putT x l m).kids.length c12]] w fun e w' => e = .returned (.string TP) ∧ Hid (Below w18.heap.size w18 w') := fun w hw => (text_r (FPT18.out.below hw.out) (by have := HCP.out.1; omega) (by have := HCP.out.2.2; omega)).mono fun e w' ⟨h1, h2⟩ => ⟨by rw [h1, HTP.out], Lib.hid (gcall hw.out h2 hw.out.size)⟩
        have g4 : ∀ w, Hid (Below w18.heap.size w18 w) → Calls Tryz.prog 21 #[.agg #[.int .u8 m.kind, .int .u8 m.tok.1, .string ⟨m.tok.2.toArray⟩, .slice p2 m.kids.length c2]] w fun e w' => ∃ pz cz, e = .returned (aggN m pz cz) ∧ Hid (Below w18.heap.size w18 w') ∧ Hid (NAt AnyB w' m (cellsN m pz cz)) := fun w hw => (given_r (FMX18.out.below hw.out) (by have := HC.out.2; omega)).mono fun e w' ⟨pz, cz, h1, h3, h2⟩ => ⟨pz, cz, h1, Lib.hid (gcall hw.out h2 hw.out.size), Lib.hid h3⟩
        have g5 : ∀ w pz cz, Hid (Below w18.heap.size w18 w) → Hid (NAt AnyB w m (cellsN m pz cz)) → Calls Tryz.prog 22 #[aggN m pz cz] w fun e w' => e = .returned (.string TM) ∧ Hid (Below w18.heap.size w18 w') := fun w pz cz hw hn => (text_r hn.out (by have := HC.out.2; omega) (by have := HS.out.2; omega)).mono fun e w' ⟨h1, h2⟩ => ⟨by rw [h1, HTM.out], Lib.hid (gcall hw.out h2 hw.out.size)⟩
        have hj := HJ.out
        obtain ⟨s1, s2, s3, s4⟩ := HSZ.out
        have hpp : (TP.toList == TP.toList) = true := by simp
        have r1 : (fa : Int) ≤ (TX.size : Int) := by omega
        have r2 : (fb : Int) ≤ (TX.size : Int) := by omega
        have r3 : (0 : Int) ≤ (fa : Int) := by omega
        have r4 : (0 : Int) ≤ (fb : Int) := by omega
        have hz1 : (TX.extract 0 fa).size ≤ 4800 := by rw [ByteArray.size_extract]; omega
        have hz2 : (TX.extract fb TX.size).size ≤ 4800 := by rw [ByteArray.size_extract]; omega
        obtain ⟨E1, hE1⟩ : ∃ E, TX.extract 0 fa = E := ⟨_, rfl⟩
        obtain ⟨E2, hE2⟩ : ∃ E, TX.extract fb TX.size = E := ⟨_, rfl⟩
        rw [hE1, hE2] at hj
        rw [hE1] at hz1
        rw [hE2] at hz2
        obtain ⟨E3, hE3⟩ : ∃ E, E1 ++ TM = E := ⟨_, rfl⟩
        have hz3 : E3.size ≤ 9600 := by rw [← hE3, ByteArray.size_append]; omega
        rw [hE3] at hj
        have q1 : ¬ 9223372036854775807 < E1.size + TM.size := by omega
        have q2 : ¬ 9223372036854775807 < E3.size + E2.size := by omega
        clear hz1 hz2 hz3
        clear FN18
        clear FMB18
        clear FB18
        clear FZB18
        clear FF18
        clear FPBX18
        clear FX18
        clear FMX18
        clear FI18
        clear FZ18
        clear FPT18
        clear FP18
        clear FTH18
        clear FTHB18
        clear FBK18
        clear FBKB18
        go_region_held3 (fun u => (u.cell? ⟨GF, 0, none⟩ = some (.int .i64 (fa : Int)) ∧ u.cell? ⟨GF, 1, none⟩ = some (.int .i64 (fb : Int))) ∧ (u.cell? ⟨THB, 0, none⟩ = some (.int .u8 m.kind) ∧ u.cell? ⟨THB, 1, none⟩ = some (.int .u8 m.tok.1) ∧ u.cell? ⟨THB, 2, none⟩ = some (.string ⟨m.tok.2.toArray⟩) ∧ u.cell? ⟨THB, 3, none⟩ = some (.slice p18 m.kids.length c18)) ∧ (u.cell? ⟨MB, 0, none⟩ = some (.int .u8 m.kind) ∧ u.cell? ⟨MB, 1, none⟩ = some (.int .u8 m.tok.1) ∧ u.cell? ⟨MB, 2, none⟩ = some (.string ⟨m.tok.2.toArray⟩) ∧ u.cell? ⟨MB, 3, none⟩ = some (.slice p2 m.kids.length c2)) ∧ (u.cell? ⟨BKB, 0, none⟩ = some (.int .u8 x.kind) ∧ u.cell? ⟨BKB, 1, none⟩ = some (.int .u8 x.tok.1) ∧ u.cell? ⟨BKB, 2, none⟩ = some (.string ⟨x.tok.2.toArray⟩) ∧ u.cell? ⟨BKB, 3, none⟩ = some (.slice p20 x.kids.length c20)) ∧ (u.cell? ⟨N, 0, none⟩ = some (.int .u8 x.kind) ∧ u.cell? ⟨N, 1, none⟩ = some (.int .u8 x.tok.1) ∧ u.cell? ⟨N, 2, none⟩ = some (.string ⟨x.tok.2.toArray⟩) ∧ u.cell? ⟨N, 3, none⟩ = some (.slice p x.kids.length c)) ∧ (u.cell? ⟨PB, 0, none⟩ = some (.int .u8 (putT x l m).kind) ∧ u.cell? ⟨PB, 1, none⟩ = some (.int .u8 (putT x l m).tok.1) ∧ u.cell? ⟨PB, 2, none⟩ = some (.string ⟨(putT x l m).tok.2.toArray⟩) ∧ u.cell? ⟨PB, 3, none⟩ = some (.slice p12 (putT x l m).kids.length c12))) (first | (with_reducible exact HS0.out) | (with_reducible exact HSK.out _ HB9.out) | (with_reducible exact HSK.out _ HB8.out) | (with_reducible exact HSK.out _ HB7.out) | (with_reducible exact HSK.out _ HB6.out) | (with_reducible exact HSK.out _ HB5.out) | go_keep) (first
          | (go_at_call 19; (with_reducible refine Calls.mono g1 ?_); rintro e v5 ⟨rfl, HB5⟩)
          | (go_at_call 19; (with_reducible refine Calls.mono (g2 _ HB5) ?_); rintro e v6 ⟨rfl, HB6⟩)
          | (go_at_call 22; (with_reducible refine Calls.mono (g3 _ HB6) ?_); rintro e v7 ⟨rfl, HB7⟩)
          | (go_at_call 21; (with_reducible refine Calls.mono (g4 _ HB7) ?_); rintro e v8 ⟨pz, cz, rfl, HB8, HZ8⟩)
          | (go_at_call 22; (with_reducible refine Calls.mono (g5 _ _ _ HB8 HZ8) ?_); rintro e v9 ⟨rfl, HB9⟩))
        all_goals go_wp2
        all_goals go_ret
        all_goals exact ⟨rfl, by first | exact HB18.out.trans (HB9.out.mono HB18.out.size) | (rw [← hN]; exact HB18.out.trans (HB9.out.mono HB18.out.size))⟩
end Go.Proofs.YtingfomfibhnhaaGreatDoor
