/-
  The document's Check.
-/
import Derived.Test.YtingfomfibhnhaaGreatDoorMgTE
namespace Go.Proofs.YtingfomfibhnhaaGreatDoor
open Go.RowKit Go.Shelf

theorem rcheck_bad {x : T} (h : formR x = false) : checkR x = 4 := by unfold checkR; rw [h]; rfl
theorem rcheck_err {x : T} (h : tokE (textT x) ≠ 0) : checkR x = 4 := by
  unfold checkR sameToks
  rw [show (tokE (textT x) == 0) = false from beq_eq_false_iff_ne.2 h]
  simp
theorem rcheck_good {x : T} (h : formR x = true) (h2 : tokE (textT x) = 0) : checkR x = if decide (toks (textT x) = toksT x) then 0 else 4 := by
  unfold checkR sameToks
  rw [h, h2]
  by_cases he : toks (textT x) = toksT x
  · rw [he]; simp
  · simp [he]
set_option maxRecDepth 100000 in
set_option maxHeartbeats 4000000 in
theorem rcheck27_any (x : T) (p : Option Addr) (c : Nat) (W : World) (hx : NAt AnyB W x (cellsN x p c)) (hc : countT x ≤ 100000) (hs : sizeT x ≤ 1000000) (hE : Env W) (ht : tinyT x) : Calls Tryz.prog 27 #[aggN x p c] W (IntEnd (checkR x) W) := by
  obtain ⟨w1, hw1⟩ : ∃ w1, W.alloc (.cells #[.int .u8 x.kind, .int .u8 x.tok.1, .string ⟨x.tok.2.toArray⟩, .slice p x.kids.length c] 27) = w1 := ⟨_, rfl⟩
  have n1 : w1.heap[W.heap.size]? = some (boxN x p c) := by rw [← hw1]; exact World.alloc_heap_new W _
  have b1 : Below W.heap.size W w1 := by rw [← hw1]; exact galloc (Below.refl _ _) _
  obtain ⟨c0, c1, c2, c3⟩ := box4 n1
  have hfo := gform_any _ x (Nat.le_refl _) (by omega) ht w1 p c (hE.below b1 hE.size) (hx.below b1)
  have HX := Lib.hid hx
  have HB := Lib.hid b1
  have HN := Lib.hid n1
  have HE := Lib.hid hE
  clear hx b1 n1 hE
  cases hF : formR x with
  | false =>
    rw [hF] at hfo
    rw [rcheck_bad hF]
    go_enter Tryz.func27, Tryz.ntmps27
    go_wp2_with (go_at_call 45; refine hfo.mono ?_; rintro e w2 ⟨rfl, h2⟩)
    go_ret
    exact ⟨rfl, gcall HB.out h2⟩
  | true =>
    rw [hF] at hfo
    have HT : Hid (∀ w2, Below W.heap.size W w2 → Calls Tryz.prog 23 #[aggN x p c] w2 fun e w' => e = .returned (.string ⟨(textT x).toArray⟩) ∧ Below w2.heap.size w2 w') := Lib.hid (fun w2 h => greft_any x w2 p c (HX.out.below h) (by omega) (by omega))
    have HG := Lib.hid (fun w2 (h : Below W.heap.size W w2) => greftk_any x w2 p c (HX.out.below h) (by omega))
    have hsz : (⟨(textT x).toArray⟩ : ByteArray).size ≤ 1000000 := by rw [Lib.size_eq]; exact hs
    have HL := Lib.hid (fun w2 (h : Below W.heap.size W w2) => rtokens_any ⟨(textT x).toArray⟩ w2 hsz (HE.out.below h HE.out.size))
    rw [show (⟨(textT x).toArray⟩ : ByteArray).data.toList = textT x from rfl] at HL
    have HLE := Lib.hid (show (tokL (textT x)).length ≤ 10000000 by have := @toks_len2 (textT x); unfold sizeT at hs; omega)
    have HLE2 := Lib.hid (show (toksT x).length ≤ 10000000 by have := toks_count x; omega)
    by_cases hK : tokE (textT x) = 0
    · rw [rcheck_good hF hK]
      rw [hK] at HL
      have hTL : tokL (textT x) = toks (textT x) := by unfold tokL; rw [if_pos hK]
      rw [hTL] at HL HLE
      generalize (⟨(textT x).toArray⟩ : ByteArray) = TX at *
      generalize toks (textT x) = E1 at *
      generalize toksT x = E2 at *
      clear hK hTL hF
      by_cases hd : E1 = E2
      · have hdd : decide (E1 = E2) = true := decide_eq_true hd
        rw [hdd]
        go_enter Tryz.func27, Tryz.ntmps27
        go_wp2_with fail
        refine hfo.mono ?_
        rintro e w2 ⟨rfl, h2⟩
        have HB2 := Lib.hid (gcall HB.out h2)
        have hN2 := (h2.block _ (Array.getElem?_eq_some_iff.1 HN.out).1).trans HN.out
        obtain ⟨d0, d1, d2, d3⟩ := box4 hN2
        have HN2 := Lib.hid hN2
        clear h2 hN2 c0 c1 c2 c3 hfo
        go_wp2_with fail
        refine (HT.out w2 HB2.out).mono ?_
        rintro e w3 ⟨rfl, h3⟩
        have HB3 := Lib.hid (HB2.out.trans (h3.mono HB2.out.size))
        have HN3 := Lib.hid ((h3.block _ (Array.getElem?_eq_some_iff.1 HN2.out).1).trans HN2.out)
        clear h3 d0 d1 d2 d3
        go_wp2_with fail
        refine (HL.out w3 HB3.out).mono ?_
        rintro e w4 ⟨v1, rfl, hT1, h4⟩
        have HB4 := Lib.hid (HB3.out.trans (h4.mono HB3.out.size))
        have hN4 := (h4.block _ (Array.getElem?_eq_some_iff.1 HN3.out).1).trans HN3.out
        obtain ⟨d0, d1, d2, d3⟩ := box4 hN4
        have HT1 := Lib.hid hT1
        clear h4 hN4 hT1
        go_wp2_with fail
        refine (HG.out w4 HB4.out).mono ?_
        rintro e w5 ⟨v2, rfl, hT2, h5⟩
        have hq := rsametok_any _ _ v1 v2 E1 E2 w5 (HT1.out.below h5) hT2 HLE.out HLE2.out
        rw [hdd] at hq
        have HB5 := Lib.hid (HB4.out.trans (h5.mono HB4.out.size))
        clear h5 hT2 d0 d1 d2 d3
        go_wp2_with fail
        refine hq.mono ?_
        rintro e w6 ⟨rfl, h6⟩
        have HB6 := Lib.hid (HB5.out.trans (h6.mono HB5.out.size))
        clear h6 hq
        go_wp2
        go_ret
        exact ⟨rfl, HB6.out⟩
      · have hdd : decide (E1 = E2) = false := decide_eq_false hd
        rw [hdd]
        go_enter Tryz.func27, Tryz.ntmps27
        go_wp2_with fail
        refine hfo.mono ?_
        rintro e w2 ⟨rfl, h2⟩
        have HB2 := Lib.hid (gcall HB.out h2)
        have hN2 := (h2.block _ (Array.getElem?_eq_some_iff.1 HN.out).1).trans HN.out
        obtain ⟨d0, d1, d2, d3⟩ := box4 hN2
        have HN2 := Lib.hid hN2
        clear h2 hN2 c0 c1 c2 c3 hfo
        go_wp2_with fail
        refine (HT.out w2 HB2.out).mono ?_
        rintro e w3 ⟨rfl, h3⟩
        have HB3 := Lib.hid (HB2.out.trans (h3.mono HB2.out.size))
        have HN3 := Lib.hid ((h3.block _ (Array.getElem?_eq_some_iff.1 HN2.out).1).trans HN2.out)
        clear h3 d0 d1 d2 d3
        go_wp2_with fail
        refine (HL.out w3 HB3.out).mono ?_
        rintro e w4 ⟨v1, rfl, hT1, h4⟩
        have HB4 := Lib.hid (HB3.out.trans (h4.mono HB3.out.size))
        have hN4 := (h4.block _ (Array.getElem?_eq_some_iff.1 HN3.out).1).trans HN3.out
        obtain ⟨d0, d1, d2, d3⟩ := box4 hN4
        have HT1 := Lib.hid hT1
        clear h4 hN4 hT1
        go_wp2_with fail
        refine (HG.out w4 HB4.out).mono ?_
        rintro e w5 ⟨v2, rfl, hT2, h5⟩
        have hq := rsametok_any _ _ v1 v2 E1 E2 w5 (HT1.out.below h5) hT2 HLE.out HLE2.out
        rw [hdd] at hq
        have HB5 := Lib.hid (HB4.out.trans (h5.mono HB4.out.size))
        clear h5 hT2 d0 d1 d2 d3
        go_wp2_with fail
        refine hq.mono ?_
        rintro e w6 ⟨rfl, h6⟩
        have HB6 := Lib.hid (HB5.out.trans (h6.mono HB5.out.size))
        clear h6 hq
        go_wp2
        go_ret
        exact ⟨rfl, HB6.out⟩
    · rw [rcheck_err hK]
      have hne : (tokE (textT x) != 0) = true := by rw [bne_iff_ne]; exact hK
      generalize tokE (textT x) = KE at *
      generalize tokL (textT x) = E1 at *
      generalize (⟨(textT x).toArray⟩ : ByteArray) = TX at *
      clear hF hK
      go_enter Tryz.func27, Tryz.ntmps27
      go_wp2_with fail
      refine hfo.mono ?_
      rintro e w2 ⟨rfl, h2⟩
      have HB2 := Lib.hid (gcall HB.out h2)
      have hN2 := (h2.block _ (Array.getElem?_eq_some_iff.1 HN.out).1).trans HN.out
      obtain ⟨d0, d1, d2, d3⟩ := box4 hN2
      have HN2 := Lib.hid hN2
      clear h2 hN2 c0 c1 c2 c3 hfo
      go_wp2_with fail
      refine (HT.out w2 HB2.out).mono ?_
      rintro e w3 ⟨rfl, h3⟩
      have HB3 := Lib.hid (HB2.out.trans (h3.mono HB2.out.size))
      have HN3 := Lib.hid ((h3.block _ (Array.getElem?_eq_some_iff.1 HN2.out).1).trans HN2.out)
      clear h3 d0 d1 d2 d3
      go_wp2_with fail
      refine (HL.out w3 HB3.out).mono ?_
      rintro e w4 ⟨v1, rfl, hT1, h4⟩
      have HB4 := Lib.hid (HB3.out.trans (h4.mono HB3.out.size))
      have hN4 := (h4.block _ (Array.getElem?_eq_some_iff.1 HN3.out).1).trans HN3.out
      obtain ⟨d0, d1, d2, d3⟩ := box4 hN4
      have HT1 := Lib.hid hT1
      clear h4 hN4 hT1
      go_wp2
      go_ret
      exact ⟨rfl, HB4.out⟩
end Go.Proofs.YtingfomfibhnhaaGreatDoor
