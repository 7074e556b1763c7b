/-
  The law GreenParts.
-/
import Derived.Test.YtingfomfibhnhaaGreatDoorMgHX
import Derived.Test.YtingfomfibhnhaaGreatDoorMgHYR
import Derived.Test.YtingfomfibhnhaaGreatDoorMgHW
namespace Go.Proofs.YtingfomfibhnhaaGreatDoor
open Go.RowKit Go.Shelf Go.Maps

theorem at_none {x : T} {p : Option Addr} {c : Nat} {l : List Int} {v : Value} {w : World} (h : atT x l = none) (hx : NAt AnyB w x (cellsN x p c)) (hl : PaAt w v l) (hlen : l.length ≤ 1000000) :
    Calls Tryz.prog 14 #[aggN x p c, v] w (RetEnd (.tuple #[zeroA, .int .i64 5]) w) :=
  (At_any x l w p c v hx hl hlen (fun z hz => by rw [h] at hz; cases hz)).mono fun e w' h2 => by
    obtain ⟨h3, h4⟩ := h2
    rcases h4 with ⟨_, h5⟩ | ⟨z, p', c', h5, _⟩
    · exact ⟨h5, h3⟩
    · rw [h] at h5; cases h5
theorem own_some {x : T} {p : Option Addr} {c : Nat} {l : List Int} {v : Value} {w : World} {s : Nat × Nat × Nat} (h : ownA x l = s) (hx : NAt AnyB w x (cellsN x p c)) (hl : PaAt w v l) (hlen : l.length ≤ 1000000) (hc : countT x ≤ 100000) (hs : sizeT x ≤ 100000000) :
    Calls Tryz.prog 16 #[aggN x p c, v] w (RetEnd (.tuple #[.agg #[.int .i64 s.1, .int .i64 s.2.1], .int .i64 s.2.2]) w) := by
  have := gown_any x l w p c v hx hl hlen hc hs
  rw [h] at this; exact this
theorem check_r {x : T} {p : Option Addr} {c : Nat} {w : World} (hx : NAt AnyB w x (cellsN x p c)) (hc : countT x ≤ 100000) (hs : sizeT x ≤ 1000000) (hE : Env w) : Calls Tryz.prog 12 #[aggN x p c] w (RetEnd (.int .i64 (checkT x)) w) := gcheck_any x p c w hx hc hs hE
theorem check_form {x : T} (h : checkT x = 0) : formP x = true := by
  cases hf : formP x with
  | true => rfl
  | false => rw [check_bad hf] at h; cases h
theorem ext_mid {pre mid post : List UInt8} : (⟨(pre ++ (mid ++ post)).toArray⟩ : ByteArray).extract pre.length (pre.length + mid.length) = ⟨mid.toArray⟩ := by
  apply Utf.ba_ext
  simp [ByteArray.data_extract]
set_option maxRecDepth 100000 in
set_option maxHeartbeats 16000000 in
theorem parts_walk (x : T) (l : List Int) (W : World) (p : Option Addr) (c : Nat) (pl : Option Addr) (cl : Nat) (hE : Env W) (hx : NAt AnyB W x (cellsN x p c)) (hl : PaAt W (.slice pl l.length cl) l) (hc : countT x ≤ 1048576) :
    Calls Tryz.prog 5 #[aggN x p c, .slice pl l.length cl] W fun e w' => e = .returned (.bool true) ∧ Below W.heap.size W w' := by
  have HE : Hid (∀ w, Below W.heap.size W w → Env w) := Lib.hid fun w hb => hE.below hb hE.size
  have hwt := fun (w : World) (p : Option Addr) (c : Nat) (h : NAt AnyB w x (cellsN x p c)) => weight_any x p c w h (by omega)
  have HWF := Lib.hid (weight_fine x)
  have HWS := Lib.hid (weight_short x)
  obtain ⟨wt, hwte⟩ : ∃ wt, weightT x = wt := ⟨_, rfl⟩
  rw [hwte] at hwt HWF HWS
  have HWT := Lib.hid hwt
  clear hE hc hwte hwt
  obtain ⟨w1, hw1⟩ : ∃ w, W.alloc (.cells #[.int .u8 x.kind, .int .u8 x.tok.1, .string ⟨x.tok.2.toArray⟩, .slice p x.kids.length c] 27) = w := ⟨_, rfl⟩
  have b1 : Below W.heap.size W w1 := by rw [← hw1]; exact galloc (Below.refl _ _) _
  have n1 : w1.heap[W.heap.size]? = some (.cells #[.int .u8 x.kind, .int .u8 x.tok.1, .string ⟨x.tok.2.toArray⟩, .slice p x.kids.length c] 27 (0, 0)) := by rw [← hw1]; exact World.alloc_heap_new W _
  obtain ⟨N, hN⟩ : ∃ G, W.heap.size = G := ⟨_, rfl⟩
  rw [hN] at n1
  have HB1 := Lib.hid b1
  have FN1 := Lib.hid n1
  clear b1 n1
  have hx1 := hx.below (HB1.out)
  have hl1 := hl.below (HB1.out)
  have FX1 := Lib.hid hx1
  have FP1 := Lib.hid hl1
  clear hx hx1 hl hl1
  go_enter Tryz.func5, Tryz.ntmps5
  obtain ⟨a0, a1, a2, a3⟩ := box4 FN1.out
  go_wp2_with fail
  refine (gworks_any w1 (HE.out w1 HB1.out)).mono ?_
  rintro e w2 ⟨rfl, h2⟩
  clear a0 a1 a2 a3
  have FN2 := Lib.hid ((h2.block _ (Array.getElem?_eq_some_iff.1 FN1.out).1).trans FN1.out)
  clear FN1
  have FX2 := Lib.hid (FX1.out.below h2)
  clear FX1
  have FP2 := Lib.hid (FP1.out.below h2)
  clear FP1
  have HB2 := Lib.hid (HB1.out.trans (h2.mono HB1.out.size))
  clear h2
  obtain ⟨a0, a1, a2, a3⟩ := box4 FN2.out
  go_wp2_with fail
  refine (HWT.out w2 _ _ FX2.out).mono ?_
  rintro e w3 ⟨rfl, h3⟩
  clear a0 a1 a2 a3
  have FN3 := Lib.hid ((h3.block _ (Array.getElem?_eq_some_iff.1 FN2.out).1).trans FN2.out)
  clear FN2
  have FX3 := Lib.hid (FX2.out.below h3)
  clear FX2
  have FP3 := Lib.hid (FP2.out.below h3)
  clear FP2
  have HB3 := Lib.hid (HB2.out.trans (h3.mono HB2.out.size))
  clear h3
  clear HWT
  by_cases hwl : 300 ≤ wt
  · have hwl1 : decide ((300 : Int) ≤ (wt : Int)) = true := decide_eq_true (by omega)
    have hwl2 : decide (300 ≤ wt) = true := decide_eq_true hwl
    go_wp2_with fail
    refine (gworks_any w3 (HE.out w3 HB3.out)).mono ?_
    rintro e w4 ⟨rfl, h4⟩
    have FN4 := Lib.hid ((h4.block _ (Array.getElem?_eq_some_iff.1 FN3.out).1).trans FN3.out)
    clear FN3
    have FX4 := Lib.hid (FX3.out.below h4)
    clear FX3
    have FP4 := Lib.hid (FP3.out.below h4)
    clear FP3
    have HB4 := Lib.hid (HB3.out.trans (h4.mono HB3.out.size))
    clear h4
    go_wp2
    go_ret
    exact ⟨rfl, HB4.out⟩
  · have hwl1 : decide ((300 : Int) ≤ (wt : Int)) = false := decide_eq_false (by omega)
    have hwl2 : decide (300 ≤ wt) = false := decide_eq_false hwl
    by_cases hpl : 300 < l.length
    · have hpl1 : decide ((300 : Int) < (l.length : Int)) = true := decide_eq_true (by omega)
      have hpl2 : decide (300 < l.length) = true := decide_eq_true hpl
      go_wp2_with fail
      refine (gworks_any w3 (HE.out w3 HB3.out)).mono ?_
      rintro e w4 ⟨rfl, h4⟩
      have FN4 := Lib.hid ((h4.block _ (Array.getElem?_eq_some_iff.1 FN3.out).1).trans FN3.out)
      clear FN3
      have FX4 := Lib.hid (FX3.out.below h4)
      clear FX3
      have FP4 := Lib.hid (FP3.out.below h4)
      clear FP3
      have HB4 := Lib.hid (HB3.out.trans (h4.mono HB3.out.size))
      clear h4
      go_wp2
      go_ret
      exact ⟨rfl, HB4.out⟩
    · have hpl1 : decide ((300 : Int) < (l.length : Int)) = false := decide_eq_false (by omega)
      have hpl2 : decide (300 < l.length) = false := decide_eq_false hpl
      have HC : Hid (countT x ≤ 100000) := Lib.hid (by have := (HWF.out (by omega)).1; omega)
      have HS : Hid (sizeT x ≤ 4800) := Lib.hid (by have := (HWF.out (by omega)).2; omega)
      have HSH : Hid (shortT x) := Lib.hid (HWS.out (by omega))
      have HPL : Hid (l.length ≤ 300) := Lib.hid (by omega)
      clear HWF HWS hwl hpl
      obtain ⟨a0, a1, a2, a3⟩ := box4 FN3.out
      go_wp2_with fail
      refine (given_r FX3.out (by have := HC.out; omega)).mono ?_
      rintro e w4 ⟨p5, c5, rfl, hx5, h4⟩
      clear a0 a1 a2 a3
      have FN4 := Lib.hid ((h4.block _ (Array.getElem?_eq_some_iff.1 FN3.out).1).trans FN3.out)
      clear FN3
      have FX4 := Lib.hid (FX3.out.below h4)
      clear FX3
      have FP4 := Lib.hid (FP3.out.below h4)
      clear FP3
      have HB4 := Lib.hid (HB3.out.trans (h4.mono HB3.out.size))
      have FI4 := Lib.hid hx5
      clear h4 hx5 hwl1 hwl2 hpl1 hpl2
      clear FN4
      clear FX4
      obtain ⟨w5, hw5⟩ : ∃ w, w4.alloc (.cells #[.int .u8 x.kind, .int .u8 x.tok.1, .string ⟨x.tok.2.toArray⟩, .slice p5 x.kids.length c5] 27) = w := ⟨_, rfl⟩
      have b5 : Below w4.heap.size w4 w5 := by rw [← hw5]; exact galloc (Below.refl _ _) _
      have n5 : w5.heap[w4.heap.size]? = some (.cells #[.int .u8 x.kind, .int .u8 x.tok.1, .string ⟨x.tok.2.toArray⟩, .slice p5 x.kids.length c5] 27 (0, 0)) := by rw [← hw5]; exact World.alloc_heap_new w4 _
      obtain ⟨GB, hGB⟩ : ∃ G, w4.heap.size = G := ⟨_, rfl⟩
      rw [hGB] at n5
      have FP5 := Lib.hid (FP4.out.below b5)
      clear FP4
      have FI5 := Lib.hid (FI4.out.below b5)
      clear FI4
      have HB5 := Lib.hid (HB4.out.trans (b5.mono HB4.out.size))
      have FB5 := Lib.hid n5
      clear b5 n5
      obtain ⟨a0, a1, a2, a3⟩ := box4 FB5.out
      obtain ⟨ck, hck⟩ : ∃ ck, checkT x = ck := ⟨_, rfl⟩
      have hch := check_r FI5.out HC.out (by have := HS.out; omega) (HE.out _ HB5.out)
      rw [hck] at hch
      have HCK := Lib.hid hck
      clear hck
      go_wp2_with fail
      refine (hch).mono ?_
      rintro e w6 ⟨rfl, h6⟩
      clear a0 a1 a2 a3
      have FP6 := Lib.hid (FP5.out.below h6)
      clear FP5
      have FI6 := Lib.hid (FI5.out.below h6)
      clear FI5
      have FB6 := Lib.hid ((h6.block _ (Array.getElem?_eq_some_iff.1 FB5.out).1).trans FB5.out)
      clear FB5
      have HB6 := Lib.hid (HB5.out.trans (h6.mono HB5.out.size))
      clear h6 hch
      obtain ⟨a0, a1, a2, a3⟩ := box4 FB6.out
      by_cases hz : ck = 0
      case' neg =>
        have hz1 : (ck != 0) = true := by simpa using hz
        clear hz
        go_wp2_with fail
        go_ret
        exact ⟨rfl, HB6.out⟩
      have hz1 : (ck != 0) = false := by rw [hz]; rfl
      have HOK : Hid (okM x) := Lib.hid (form_ok x (check_form (by rw [HCK.out, hz])))
      clear hz HCK
      have htx := text_r FI6.out (by have := HC.out; omega) (by have := HS.out; omega)
      obtain ⟨TX, hTX⟩ : ∃ TX : ByteArray, (⟨(textT x).toArray⟩ : ByteArray) = TX := ⟨_, rfl⟩
      have hTS : TX.size = sizeT x := by rw [← hTX, Lib.size_eq]; rfl
      rw [hTX] at htx
      have HTX := Lib.hid hTX
      have HTS := Lib.hid hTS
      clear hTX hTS
      go_wp2_with fail
      refine (htx).mono ?_
      rintro e w7 ⟨rfl, h7⟩
      clear a0 a1 a2 a3
      have FP7 := Lib.hid (FP6.out.below h7)
      clear FP6
      have FI7 := Lib.hid (FI6.out.below h7)
      clear FI6
      have FB7 := Lib.hid ((h7.block _ (Array.getElem?_eq_some_iff.1 FB6.out).1).trans FB6.out)
      clear FB6
      have HB7 := Lib.hid (HB6.out.trans (h7.mono HB6.out.size))
      clear h7 htx hz1
      obtain ⟨a0, a1, a2, a3⟩ := box4 FB7.out
      cases hat : atT x l with
      | none =>
        go_wp2_with fail
        refine (at_none hat FI7.out FP7.out (by have := HPL.out; omega)).mono ?_
        rintro e w8 ⟨rfl, h8⟩
        clear a0 a1 a2 a3
        have FP8 := Lib.hid (FP7.out.below h8)
        clear FP7
        have FI8 := Lib.hid (FI7.out.below h8)
        clear FI7
        have FB8 := Lib.hid ((h8.block _ (Array.getElem?_eq_some_iff.1 FB7.out).1).trans FB7.out)
        clear FB7
        have HB8 := Lib.hid (HB7.out.trans (h8.mono HB7.out.size))
        clear h8
        have b9 : Below w8.heap.size w8 (w8.alloc (.cells #[.int .u8 0, .int .u8 0, .string ⟨#[]⟩, .slice none 0 0] 27)) := galloc (Below.refl _ _) _
        obtain ⟨a0, a1, a2, a3⟩ := box4 ((b9.block _ (Array.getElem?_eq_some_iff.1 FB8.out).1).trans FB8.out)
        go_wp2_with fail
        generalize hw9 : w8.alloc (.cells #[.int .u8 0, .int .u8 0, .string ⟨#[]⟩, .slice none 0 0] 27) = w9 at *
        clear a0 a1 a2 a3
        have FP9 := Lib.hid (FP8.out.below b9)
        clear FP8
        have FI9 := Lib.hid (FI8.out.below b9)
        clear FI8
        have FB9 := Lib.hid ((b9.block _ (Array.getElem?_eq_some_iff.1 FB8.out).1).trans FB8.out)
        clear FB8
        have HB9 := Lib.hid (HB8.out.trans (b9.mono HB8.out.size))
        clear b9
        refine (full_some (fullA_none hat) FI9.out FP9.out (by have := HPL.out; omega) HC.out (by have := HS.out; omega)).mono ?_
        rintro e w10 ⟨rfl, h10⟩
        have FP10 := Lib.hid (FP9.out.below h10)
        clear FP9
        have FI10 := Lib.hid (FI9.out.below h10)
        clear FI9
        have FB10 := Lib.hid ((h10.block _ (Array.getElem?_eq_some_iff.1 FB9.out).1).trans FB9.out)
        clear FB9
        have HB10 := Lib.hid (HB9.out.trans (h10.mono HB9.out.size))
        clear h10
        have b11 : Below w10.heap.size w10 (w10.alloc (.cells #[.int .i64 0, .int .i64 0] 40)) := galloc (Below.refl _ _) _
        obtain ⟨a0, a1, a2, a3⟩ := box4 ((b11.block _ (Array.getElem?_eq_some_iff.1 FB10.out).1).trans FB10.out)
        go_wp2_with fail
        generalize hw11 : w10.alloc (.cells #[.int .i64 0, .int .i64 0] 40) = w11 at *
        clear a0 a1 a2 a3
        have FP11 := Lib.hid (FP10.out.below b11)
        clear FP10
        have FI11 := Lib.hid (FI10.out.below b11)
        clear FI10
        have FB11 := Lib.hid ((b11.block _ (Array.getElem?_eq_some_iff.1 FB10.out).1).trans FB10.out)
        clear FB10
        have HB11 := Lib.hid (HB10.out.trans (b11.mono HB10.out.size))
        clear b11
        refine (own_some (ownA_none hat) FI11.out FP11.out (by have := HPL.out; omega) HC.out (by have := HS.out; omega)).mono ?_
        rintro e w12 ⟨rfl, h12⟩
        have FP12 := Lib.hid (FP11.out.below h12)
        clear FP11
        have FI12 := Lib.hid (FI11.out.below h12)
        clear FI11
        have FB12 := Lib.hid ((h12.block _ (Array.getElem?_eq_some_iff.1 FB11.out).1).trans FB11.out)
        clear FB11
        have HB12 := Lib.hid (HB11.out.trans (h12.mono HB11.out.size))
        clear h12
        clear hat
        go_wp2
        go_ret
        exact ⟨rfl, galloc HB12.out _⟩
      | some m =>
        have HAT := Lib.hid hat
        obtain ⟨f, pre, post, a, b, e0, e1, e2, e3, e4, e5, e6, e7, e8, e9⟩ := parts_facts x m l HOK.out hat
        have HCM := Lib.hid (count_at _ _ _ hat)
        have hsz : sizeT x = pre.length + (sizeT m + post.length) := by
          have := congrArg List.length e1
          rw [List.length_append, List.length_append] at this
          exact this
        have hext : TX.extract f (f + sizeT m) = ⟨(textT m).toArray⟩ := by rw [← HTX.out, e1, e0]; exact ext_mid
        obtain ⟨t, ht⟩ : ∃ t, f + sizeT m = t := ⟨_, rfl⟩
        have HSM : Hid (sizeT m ≤ 4800) := Lib.hid (by have := HS.out; omega)
        rw [ht] at e2 e6 hext
        have HFT : Hid (f ≤ t ∧ t ≤ TX.size ∧ TX.size ≤ 4800) := Lib.hid ⟨by omega, by rw [HTS.out]; omega, by rw [HTS.out]; exact HS.out⟩
        have H2 := Lib.hid e2
        have H3 := Lib.hid e3
        have HAB := Lib.hid (And.intro e4 (And.intro e5 e6))
        have H7 := Lib.hid e7
        have H8 := Lib.hid e8
        have H9 := Lib.hid e9
        have HT := Lib.hid ht
        have HEXT := Lib.hid hext
        clear e0 e1 e2 e3 e4 e5 e6 e7 e8 e9 hsz hext ht HTX HTS HOK hat
        go_wp2_with fail
        refine (at_some HAT.out FI7.out FP7.out (by have := HPL.out; omega) ⟨by have := HCM.out.1; have := HC.out; omega, HCM.out.2 HSH.out⟩).mono ?_
        rintro e w8 ⟨p7, c7, rfl, hx7, h8⟩
        clear a0 a1 a2 a3
        have FP8 := Lib.hid (FP7.out.below h8)
        clear FP7
        have FI8 := Lib.hid (FI7.out.below h8)
        clear FI7
        have FB8 := Lib.hid ((h8.block _ (Array.getElem?_eq_some_iff.1 FB7.out).1).trans FB7.out)
        clear FB7
        have HB8 := Lib.hid (HB7.out.trans (h8.mono HB7.out.size))
        have FMT8 := Lib.hid hx7
        clear h8 hx7
        obtain ⟨w9, hw9⟩ : ∃ w, w8.alloc (.cells #[.int .u8 m.kind, .int .u8 m.tok.1, .string ⟨m.tok.2.toArray⟩, .slice p7 m.kids.length c7] 27) = w := ⟨_, rfl⟩
        have b9 : Below w8.heap.size w8 w9 := by rw [← hw9]; exact galloc (Below.refl _ _) _
        have n9 : w9.heap[w8.heap.size]? = some (.cells #[.int .u8 m.kind, .int .u8 m.tok.1, .string ⟨m.tok.2.toArray⟩, .slice p7 m.kids.length c7] 27 (0, 0)) := by rw [← hw9]; exact World.alloc_heap_new w8 _
        obtain ⟨GM, hGM⟩ : ∃ G, w8.heap.size = G := ⟨_, rfl⟩
        rw [hGM] at n9
        have FP9 := Lib.hid (FP8.out.below b9)
        clear FP8
        have FI9 := Lib.hid (FI8.out.below b9)
        clear FI8
        have FB9 := Lib.hid ((b9.block _ (Array.getElem?_eq_some_iff.1 FB8.out).1).trans FB8.out)
        clear FB8
        have FMT9 := Lib.hid (FMT8.out.below b9)
        clear FMT8
        have HB9 := Lib.hid (HB8.out.trans (b9.mono HB8.out.size))
        have FM9 := Lib.hid n9
        clear b9 n9
        obtain ⟨a0, a1, a2, a3⟩ := box4 FB9.out
        go_wp2_with fail
        refine (full_some H2.out FI9.out FP9.out (by have := HPL.out; omega) HC.out (by have := HS.out; omega)).mono ?_
        rintro e w10 ⟨rfl, h10⟩
        clear a0 a1 a2 a3
        have FP10 := Lib.hid (FP9.out.below h10)
        clear FP9
        have FI10 := Lib.hid (FI9.out.below h10)
        clear FI9
        have FB10 := Lib.hid ((h10.block _ (Array.getElem?_eq_some_iff.1 FB9.out).1).trans FB9.out)
        clear FB9
        have FMT10 := Lib.hid (FMT9.out.below h10)
        clear FMT9
        have FM10 := Lib.hid ((h10.block _ (Array.getElem?_eq_some_iff.1 FM9.out).1).trans FM9.out)
        clear FM9
        have HB10 := Lib.hid (HB9.out.trans (h10.mono HB9.out.size))
        clear h10
        dsimp only
        obtain ⟨w11, hw11⟩ : ∃ w, w10.alloc (.cells #[.int .i64 (f : Int), .int .i64 (t : Int)] 40) = w := ⟨_, rfl⟩
        have b11 : Below w10.heap.size w10 w11 := by rw [← hw11]; exact galloc (Below.refl _ _) _
        have n11 : w11.heap[w10.heap.size]? = some (.cells #[.int .i64 (f : Int), .int .i64 (t : Int)] 40 (0, 0)) := by rw [← hw11]; exact World.alloc_heap_new w10 _
        obtain ⟨GF, hGF⟩ : ∃ G, w10.heap.size = G := ⟨_, rfl⟩
        rw [hGF] at n11
        have FP11 := Lib.hid (FP10.out.below b11)
        clear FP10
        have FI11 := Lib.hid (FI10.out.below b11)
        clear FI10
        have FB11 := Lib.hid ((b11.block _ (Array.getElem?_eq_some_iff.1 FB10.out).1).trans FB10.out)
        clear FB10
        have FMT11 := Lib.hid (FMT10.out.below b11)
        clear FMT10
        have FM11 := Lib.hid ((b11.block _ (Array.getElem?_eq_some_iff.1 FM10.out).1).trans FM10.out)
        clear FM10
        have HB11 := Lib.hid (HB10.out.trans (b11.mono HB10.out.size))
        have FF11 := Lib.hid n11
        clear b11 n11
        obtain ⟨a0, a1, a2, a3⟩ := box4 FB11.out
        go_wp2_with fail
        refine (own_some H3.out FI11.out FP11.out (by have := HPL.out; omega) HC.out (by have := HS.out; omega)).mono ?_
        rintro e w12 ⟨rfl, h12⟩
        clear a0 a1 a2 a3
        have FP12 := Lib.hid (FP11.out.below h12)
        clear FP11
        have FI12 := Lib.hid (FI11.out.below h12)
        clear FI11
        have FB12 := Lib.hid ((h12.block _ (Array.getElem?_eq_some_iff.1 FB11.out).1).trans FB11.out)
        clear FB11
        have FMT12 := Lib.hid (FMT11.out.below h12)
        clear FMT11
        have FM12 := Lib.hid ((h12.block _ (Array.getElem?_eq_some_iff.1 FM11.out).1).trans FM11.out)
        clear FM11
        have FF12 := Lib.hid ((h12.block _ (Array.getElem?_eq_some_iff.1 FF11.out).1).trans FF11.out)
        clear FF11
        have HB12 := Lib.hid (HB11.out.trans (h12.mono HB11.out.size))
        clear h12
        dsimp only
        obtain ⟨w13, hw13⟩ : ∃ w, w12.alloc (.cells #[.int .i64 (a : Int), .int .i64 (b : Int)] 40) = w := ⟨_, rfl⟩
        have b13 : Below w12.heap.size w12 w13 := by rw [← hw13]; exact galloc (Below.refl _ _) _
        have n13 : w13.heap[w12.heap.size]? = some (.cells #[.int .i64 (a : Int), .int .i64 (b : Int)] 40 (0, 0)) := by rw [← hw13]; exact World.alloc_heap_new w12 _
        obtain ⟨GO, hGO⟩ : ∃ G, w12.heap.size = G := ⟨_, rfl⟩
        rw [hGO] at n13
        have FP13 := Lib.hid (FP12.out.below b13)
        clear FP12
        have FI13 := Lib.hid (FI12.out.below b13)
        clear FI12
        have FB13 := Lib.hid ((b13.block _ (Array.getElem?_eq_some_iff.1 FB12.out).1).trans FB12.out)
        clear FB12
        have FMT13 := Lib.hid (FMT12.out.below b13)
        clear FMT12
        have FM13 := Lib.hid ((b13.block _ (Array.getElem?_eq_some_iff.1 FM12.out).1).trans FM12.out)
        clear FM12
        have FF13 := Lib.hid ((b13.block _ (Array.getElem?_eq_some_iff.1 FF12.out).1).trans FF12.out)
        clear FF12
        have HB13 := Lib.hid (HB12.out.trans (b13.mono HB12.out.size))
        have FO13 := Lib.hid n13
        clear b13 n13
        go_wp2_with fail
        obtain ⟨m0, m1, m2, m3⟩ := box4 FM13.out
        have f0 : w13.cell? ⟨GF, 0, none⟩ = some (.int .i64 (f : Int)) := by rw [cellH FF13.out]; rfl
        have f1 : w13.cell? ⟨GF, 1, none⟩ = some (.int .i64 (t : Int)) := by rw [cellH FF13.out]; rfl
        have o0 : w13.cell? ⟨GO, 0, none⟩ = some (.int .i64 (a : Int)) := by rw [cellH FO13.out]; rfl
        have o1 : w13.cell? ⟨GO, 1, none⟩ = some (.int .i64 (b : Int)) := by rw [cellH FO13.out]; rfl
        obtain ⟨e4, e5, e6⟩ := HAB.out
        obtain ⟨e1, e2, e3⟩ := HFT.out
        have d1 : decide ((f : Int) < 0) = false := decide_eq_false (by omega)
        have d2 : decide ((TX.size : Int) < (t : Int)) = false := decide_eq_false (by omega)
        have d2' : decide (TX.size < t) = false := decide_eq_false (by omega)
        have d3 : decide ((a : Int) < (f : Int)) = false := decide_eq_false (by omega)
        have d3' : decide (a < f) = false := decide_eq_false (by omega)
        have d4 : decide ((b : Int) < (a : Int)) = false := decide_eq_false (by omega)
        have d4' : decide (b < a) = false := decide_eq_false (by omega)
        have d5 : decide ((t : Int) < (b : Int)) = false := decide_eq_false (by omega)
        have d5' : decide (t < b) = false := decide_eq_false (by omega)
        have s1 : (f : Int) ≤ (t : Int) := by omega
        have s2 : (t : Int) ≤ (TX.size : Int) := by omega
        have s0 : (0 : Int) ≤ (f : Int) := by omega
        have htm : Calls Tryz.prog 22 #[.agg #[.int .u8 m.kind, .int .u8 m.tok.1, .string ⟨m.tok.2.toArray⟩, .slice p7 m.kids.length c7]] w13.drew (RetEnd (.string ⟨(textT m).toArray⟩) w13.drew) := text_r (FMT13.out.below (Below.refl _ _).drew) (by have := HCM.out.1; have := HC.out; omega) (by have := HSM.out; omega)
        obtain ⟨TM, hTM⟩ : ∃ TM : ByteArray, (⟨(textT m).toArray⟩ : ByteArray) = TM := ⟨_, rfl⟩
        have hext := HEXT.out
        rw [hTM] at htm hext
        have hmm : (TM.toList != TM.toList) = false := by simp
        clear hTM HEXT e1 e2 e3 e4 e5 e6
        go_region_held3 (fun u => u.cell? ⟨GF, 0, none⟩ = some (.int .i64 (f : Int)) ∧ u.cell? ⟨GF, 1, none⟩ = some (.int .i64 (t : Int)) ∧ u.cell? ⟨GO, 0, none⟩ = some (.int .i64 (a : Int)) ∧ u.cell? ⟨GO, 1, none⟩ = some (.int .i64 (b : Int)) ∧ (u.cell? ⟨GM, 0, none⟩ = some (.int .u8 m.kind) ∧ u.cell? ⟨GM, 1, none⟩ = some (.int .u8 m.tok.1) ∧ u.cell? ⟨GM, 2, none⟩ = some (.string ⟨m.tok.2.toArray⟩) ∧ u.cell? ⟨GM, 3, none⟩ = some (.slice p7 m.kids.length c7))) (first | exact ⟨f0, f1, o0, o1, m0, m1, m2, m3⟩ | (with_reducible exact HKC.out) | go_keep) (first | (go_at_call 22; (with_reducible refine Calls.mono htm ?_); rintro e w14 ⟨rfl, h14⟩; have HD14 : Hid (Below w13.heap.size w13 w14) := Lib.hid ((Below.refl _ _).drew.trans h14); have HKC := Lib.hid (And.intro (cell_in HD14.out f0) (And.intro (cell_in HD14.out f1) (And.intro (cell_in HD14.out o0) (And.intro (cell_in HD14.out o1) (And.intro (cell_in HD14.out m0) (And.intro (cell_in HD14.out m1) (And.intro (cell_in HD14.out m2) (cell_in HD14.out m3)))))))); clear h14))
        all_goals (have hd := HD14.out; clear HKC HD14 htm hext hmm d1 d2 d2' d3 d3' d4 d4' d5 d5' s0 s1 s2)
        all_goals (clear m0 m1 m2 m3 f0 f1 o0 o1)
        all_goals (have FP14 := Lib.hid (FP13.out.below hd); clear FP13; have FI14 := Lib.hid (FI13.out.below hd); clear FI13; have FB14 := Lib.hid ((hd.block _ (Array.getElem?_eq_some_iff.1 FB13.out).1).trans FB13.out); clear FB13; have FMT14 := Lib.hid (FMT13.out.below hd); clear FMT13; have FM14 := Lib.hid ((hd.block _ (Array.getElem?_eq_some_iff.1 FM13.out).1).trans FM13.out); clear FM13; have FF14 := Lib.hid ((hd.block _ (Array.getElem?_eq_some_iff.1 FF13.out).1).trans FF13.out); clear FF13; have FO14 := Lib.hid ((hd.block _ (Array.getElem?_eq_some_iff.1 FO13.out).1).trans FO13.out); clear FO13; have HB14 := Lib.hid (HB13.out.trans (hd.mono HB13.out.size)); clear hd)
        clear FO14
        have HI0 : Hid (Below W.heap.size W w14 ∧ w14.heap[GB]? = some (.cells #[.int .u8 x.kind, .int .u8 x.tok.1, .string ⟨x.tok.2.toArray⟩, .slice p5 x.kids.length c5] 27 (0, 0)) ∧ NAt AnyB w14 x (cellsN x p5 c5) ∧ w14.heap[GM]? = some (.cells #[.int .u8 m.kind, .int .u8 m.tok.1, .string ⟨m.tok.2.toArray⟩, .slice p7 m.kids.length c7] 27 (0, 0)) ∧ w14.heap[GF]? = some (.cells #[.int .i64 (f : Int), .int .i64 (t : Int)] 40 (0, 0)) ∧ PaAt w14 (.slice pl l.length cl) l) := Lib.hid ⟨HB14.out, FB14.out, FI14.out, FM14.out, FF14.out, FP14.out⟩
        have f0 : w14.cell? ⟨GF, 0, none⟩ = some (.int .i64 (f : Int)) := by rw [cellH HI0.out.2.2.2.2.1]; rfl
        have m3 : w14.cell? ⟨GM, 3, none⟩ = some (.slice p7 m.kids.length c7) := by rw [cellH HI0.out.2.2.2.1]; rfl
        clear FP14
        clear FI14
        clear FB14
        clear FMT14
        clear FM14
        clear FF14
        clear HB2 HB3 HB4 HB5 HB6 HB7 HB8 HB9 HB10 HB11 HB12 HB13
        have hM0 : m.kids.length ≤ 100000 := by
          obtain ⟨mk, mt, ms⟩ := m
          have h1 := HCM.out.1
          rw [countT_mk] at h1
          have h2 := counts_len ms
          have := HC.out
          show ms.length ≤ _
          omega
        have HM0 := Lib.hid hM0
        clear hM0
        go_wp2_with fail
        go_loopw [13, 14, 15, 16] (fun av iv _ _ wr => ∃ i : Nat, i ≤ m.kids.length ∧ iv = .int .i64 i ∧ av = .int .i64 ((f + (textL (m.kids.take i)).length : Nat) : Int) ∧ Hid (Below W.heap.size W wr ∧ wr.heap[GB]? = some (.cells #[.int .u8 x.kind, .int .u8 x.tok.1, .string ⟨x.tok.2.toArray⟩, .slice p5 x.kids.length c5] 27 (0, 0)) ∧ NAt AnyB wr x (cellsN x p5 c5) ∧ wr.heap[GM]? = some (.cells #[.int .u8 m.kind, .int .u8 m.tok.1, .string ⟨m.tok.2.toArray⟩, .slice p7 m.kids.length c7] 27 (0, 0)) ∧ wr.heap[GF]? = some (.cells #[.int .i64 (f : Int), .int .i64 (t : Int)] 40 (0, 0)) ∧ PaAt wr (.slice pl l.length cl) l)) (fun _ iv _ _ _ => m.kids.length - (intOf iv).toNat)
        case atStart => exact ⟨0, by omega, rfl, by rw [List.take_zero]; rfl, HI0⟩
        case round =>
          clear HI0 f0 m3
          obtain ⟨i, hi, rfl, rfl, HI⟩ := hrel
          obtain ⟨AT, hAT⟩ : ∃ AT, f + (textL (m.kids.take i)).length = AT := ⟨_, rfl⟩
          rw [hAT]
          obtain ⟨hB, hBox, hIn, hMb, hFb, hPa⟩ := HI.out
          have m3 : wr.cell? ⟨GM, 3, none⟩ = some (.slice p7 m.kids.length c7) := by rw [cellH hMb]; rfl
          rcases Nat.lt_or_ge i m.kids.length with hlt | hge
          · have hlt' : (i : Int) < (m.kids.length : Int) := by omega
            have hwi : IntKind.i64.wrap ((i : Int) + 1) = ((i + 1 : Nat) : Int) := by rw [IntWalk.i64_in _ (by have := HM0.out; omega)]; omega
            have h7 := H7.out i hlt
            rw [hAT] at h7
            obtain ⟨NX, hNX⟩ : ∃ NX, f + (textL (m.kids.take (i + 1))).length = NX := ⟨_, rfl⟩
            rw [hNX] at h7
            have hle : AT ≤ NX := by
              have ht : (textL (m.kids.take (i + 1))).length = (textL (m.kids.take i)).length + sizeT (m.kids[i]'hlt) := by
                have hs := textL_split (m.kids.take (i + 1)) i (m.kids[i]'hlt) (by rw [List.getElem?_take_of_lt (by omega), List.getElem?_eq_getElem hlt])
                rw [hs, List.take_take, Nat.min_eq_left (by omega), List.length_append, List.length_append, List.drop_eq_nil_of_le (by rw [List.length_take]; exact Nat.min_le_left _ _)]
                show _ + (sizeT _ + (textL []).length) = _
                unfold textL
                rfl
              omega
            have d1 : decide ((NX : Int) < (AT : Int)) = false := decide_eq_false (by omega)
            have d2 : decide (NX < AT) = false := decide_eq_false (by omega)
            have HH7 := Lib.hid h7
            have HNX := Lib.hid hNX
            have HAT2 := Lib.hid hAT
            have hlen : l.length ≤ 1000000 := by have := HPL.out; omega
            have hfull : ∀ (w : World) (p : Option Addr) (c : Nat), Below wr.heap.size wr w → PaAt w (.slice p (l.length + 1) c) (l ++ [(i : Int)]) → Calls Tryz.prog 15 #[.agg #[.int .u8 x.kind, .int .u8 x.tok.1, .string ⟨x.tok.2.toArray⟩, .slice p5 x.kids.length c5], .slice p (l.length + 1) c] w fun e w' => e = .returned (.tuple #[.agg #[.int .i64 (AT : Int), .int .i64 (NX : Int)], .int .i64 0]) ∧ Below w.heap.size w w' := fun w p c h1 h2 => full_some HH7.out (hIn.below h1) h2 (by rw [List.length_append]; have := HPL.out; simp; omega) HC.out (by have := HS.out; omega)
            have HKP := Lib.hid hIn
            have HBr := Lib.hid hB
            have HBx := Lib.hid hBox
            have HMb := Lib.hid hMb
            have HFb := Lib.hid hFb
            have HPa := Lib.hid hPa
            clear h7 hNX hAT hB hIn hFb hMb
            go_wp2_with fail
            refine reg18 _ _ _ _ _ _ _ _ _ _ _ _ _ _ _ _ _ _ _ _ _ _ _ _ _ _ _ _ _ _ _ _ _ _ _ _ _ _ _ _ _ _ _ _ _ _ _ _ _ _ _ _ _ _ _ _ _ _ _ _ _ _ _ _ _ _ _ _ _ _ _ _ _ _ _ _ _ _ _ _ _ _ _ _ _ _ _ _ _ _ _ _ _ _ _ _ _ _ _ _ _ _ _ _ _ _ _ _ _ _ _ _ _ _ _ _ _ _ _ _ _ _ _ _ _ _ _ _ _ _ _ _ _ _ _ _ _ _ _ _ _ _ _ _ _ _ _ _ _ _ _ _ _ _ _ _ _ _ _ _ _ _ _ _ _ _ _ _ _ _ _ _ _ _ pl p5 l cl x.kids.length c5 GB (i : Int) (x.kind : Int) (x.tok.1 : Int) (AT : Int) (NX : Int) ⟨x.tok.2.toArray⟩ wr _ hPa hlen hBox hfull ?_
            intro v126 v128 v130 v131 gk w7 hb7 hk7
            clear hfull hBox hPa
            have HI7 : Hid (Below W.heap.size W w7 ∧ w7.heap[GB]? = some (.cells #[.int .u8 x.kind, .int .u8 x.tok.1, .string ⟨x.tok.2.toArray⟩, .slice p5 x.kids.length c5] 27 (0, 0)) ∧ NAt AnyB w7 x (cellsN x p5 c5) ∧ w7.heap[GM]? = some (.cells #[.int .u8 m.kind, .int .u8 m.tok.1, .string ⟨m.tok.2.toArray⟩, .slice p7 m.kids.length c7] 27 (0, 0)) ∧ w7.heap[GF]? = some (.cells #[.int .i64 (f : Int), .int .i64 (t : Int)] 40 (0, 0)) ∧ PaAt w7 (.slice pl l.length cl) l) := Lib.hid ⟨HBr.out.trans (hb7.mono HBr.out.size), (hb7.block _ (Array.getElem?_eq_some_iff.1 HBx.out).1).trans HBx.out, HKP.out.below hb7, (hb7.block _ (Array.getElem?_eq_some_iff.1 HMb.out).1).trans HMb.out, (hb7.block _ (Array.getElem?_eq_some_iff.1 HFb.out).1).trans HFb.out, HPa.out.below hb7⟩
            have k0 : w7.cell? ⟨gk, 0, none⟩ = some (.int .i64 (AT : Int)) := by rw [cellH hk7]; rfl
            have k1 : w7.cell? ⟨gk, 1, none⟩ = some (.int .i64 (NX : Int)) := by rw [cellH hk7]; rfl
            clear hb7 hk7 HKP HBr HBx HMb HFb HPa
            go_wp2_with fail
            exact ⟨⟨i + 1, by omega, rfl, by rw [HNX.out], HI7⟩, by simp [intOf]; omega⟩
          · obtain rfl : i = m.kids.length := by omega
            have hlt' : ¬ (m.kids.length : Int) < (m.kids.length : Int) := by omega
            have hAT2 : f + (textL m.kids).length = AT := by rw [← hAT, List.take_length]
            obtain ⟨m0, m1, m2, _⟩ := box4 hMb
            have f1 : wr.cell? ⟨GF, 1, none⟩ = some (.int .i64 (t : Int)) := by rw [cellH hFb]; rfl
            have HE := Lib.hid hB
            have hTT := HT.out
            have hsz : (⟨m.tok.2.toArray⟩ : ByteArray).size = m.tok.2.length := by rw [Lib.size_eq]
            by_cases hk2 : m.kind = 2
            · obtain ⟨e1, e2⟩ := H8.out hk2
              have hk3 : ((m.kind : Int) == 2) = true := by rw [hk2]; rfl
              have hk4 : AT = t := by rw [e2] at hAT2; unfold textL at hAT2; simp at hAT2; omega
              have hk5 : ((AT : Int) == (t : Int)) = true := by rw [hk4]; simp
              clear hk4 e1 e2 hk2 hAT hAT2 hTT hB hBox hIn hMb hFb hPa HI hge
              go_wp2
              go_ret
              exact ⟨rfl, by first | exact HE.out | (rw [← hN]; exact HE.out)⟩
            · have e1 := H9.out hk2
              have hk3 : ((m.kind : Int) == 2) = false := beq_eq_false_iff_ne.2 (by omega)
              have hk3' : ((m.kind : Int) != 2) = true := by rw [bne, hk3]; rfl
              obtain ⟨ts, hts⟩ : ∃ ts, m.tok.2.length = ts := ⟨_, rfl⟩
              rw [hts] at e1 hsz
              have hwr : IntKind.i64.wrap ((AT : Int) + (ts : Int)) = (t : Int) := by rw [IntWalk.i64_in _ (by have := HFT.out; omega)]; omega
              generalize (⟨m.tok.2.toArray⟩ : ByteArray) = MT at *
              subst hsz
              have hk5 : ((t : Int) == (t : Int)) = true := by simp
              clear hts e1 hk2 hAT hAT2 hTT hB hBox hIn hMb hFb hPa HI hge
              go_wp2
              go_ret
              exact ⟨rfl, by first | exact HE.out | (rw [← hN]; exact HE.out)⟩
end Go.Proofs.YtingfomfibhnhaaGreatDoor
