/-
  Check.
-/
import Derived.Test.YtingfomfibhnhaaGreatDoorMgHH
import Derived.Test.YtingfomfibhnhaaGreatDoorMgHA
namespace Go.Proofs.YtingfomfibhnhaaGreatDoor
open Go.RowKit Go.Shelf

theorem check_bad {x : T} (h : formP x = false) : checkT x = 4 := by unfold checkT; rw [h]; rfl
theorem check_err {x : T} (h : tokE (textT x) ≠ 0) : checkT x = 4 := by
  unfold checkT sameToks
  rw [show (tokE (textT x) == 0) = false from beq_eq_false_iff_ne.2 h]
  simp
theorem check_good {x : T} (h : formP x = true) (h2 : tokE (textT x) = 0) : checkT x = if decide (toks (textT x) = toksT x) then 0 else 4 := by
  unfold checkT sameToks
  rw [h, h2]
  by_cases he : toks (textT x) = toksT x
  · rw [he]; simp
  · simp [he]
theorem toks_len2 {l : List UInt8} : (tokL l).length ≤ l.length + 1 := by
  unfold tokL
  split
  · have hj := toks_join l
    have : ∀ E : List Tok, (∀ t ∈ E, t.2 ≠ []) → E.length ≤ (E.flatMap (·.2)).length := by
      intro E
      induction E with
      | nil => intro _; simp
      | cons t r ih =>
        intro h
        have h1 := ih fun t ht => h t (List.mem_cons_of_mem _ ht)
        have h2 := List.length_pos_iff.2 (h t (List.mem_cons_self ..))
        simp only [List.flatMap_cons, List.length_append, List.length_cons]; omega
    have h2 := this (toks l) (fun t ht => by
      rename_i hE
      obtain ⟨i, hi, rfl⟩ := List.getElem_of_mem ht
      exact (back_tok hE (List.getElem?_eq_getElem hi)).1)
    have h3 : (toks l).flatMap (·.2) = l := hj
    rw [h3] at h2; omega
  · simp
set_option maxRecDepth 100000 in
set_option maxHeartbeats 4000000 in
theorem gcheck_any (x : T) (p : Option Addr) (c : Nat) (W : World) (hx : NAt AnyB W x (cellsN x p c)) (hc : countT x ≤ 100000) (hs : sizeT x ≤ 1000000) (hE : Env W) : Calls Tryz.prog 12 #[aggN x p c] W (IntEnd (checkT x) W) := by
  obtain ⟨w1, hw1⟩ : ∃ w1, W.alloc (.cells #[.int .u8 x.kind, .int .u8 x.tok.1, .string ⟨x.tok.2.toArray⟩, .slice p x.kids.length c] 27) = w1 := ⟨_, rfl⟩
  have n1 : w1.heap[W.heap.size]? = some (boxN x p c) := by rw [← hw1]; exact World.alloc_heap_new W _
  have b1 : Below W.heap.size W w1 := by rw [← hw1]; exact galloc (Below.refl _ _) _
  obtain ⟨c0, c1, c2, c3⟩ := box4 n1
  have hfo := formed_any x p c w1 (hx.below b1) (by omega)
  have HX := Lib.hid hx
  have HB := Lib.hid b1
  have HN := Lib.hid n1
  have HE := Lib.hid hE
  clear hx b1 n1 hE
  cases hF : formP x with
  | false =>
    rw [hF] at hfo
    rw [check_bad hF]
    go_enter Tryz.func12, Tryz.ntmps12
    go_wp2_with (go_at_call 30; refine hfo.mono ?_; rintro e w2 ⟨rfl, h2⟩)
    go_ret
    exact ⟨rfl, gcall HB.out h2⟩
  | true =>
    rw [hF] at hfo
    have HT : Hid (∀ w2, Below W.heap.size W w2 → Calls Tryz.prog 22 #[aggN x p c] w2 fun e w' => e = .returned (.string ⟨(textT x).toArray⟩) ∧ Below w2.heap.size w2 w') := Lib.hid (fun w2 h => text_any x p c w2 (HX.out.below h) (by omega) (by omega))
    have HG := Lib.hid (fun w2 (h : Below W.heap.size W w2) => gtokens_any x p c w2 (HX.out.below h) hc (by omega))
    have hsz : (⟨(textT x).toArray⟩ : ByteArray).size ≤ 1000000 := by rw [Lib.size_eq]; exact hs
    have HL := Lib.hid (fun w2 (h : Below W.heap.size W w2) => tokens_any ⟨(textT x).toArray⟩ w2 hsz (HE.out.below h HE.out.size))
    rw [show (⟨(textT x).toArray⟩ : ByteArray).data.toList = textT x from rfl] at HL
    have HLE := Lib.hid (show (tokL (textT x)).length ≤ 10000000 by have := @toks_len2 (textT x); unfold sizeT at hs; omega)
    have HLE2 := Lib.hid (show (toksT x).length ≤ 10000000 by have := toks_count x; omega)
    by_cases hK : tokE (textT x) = 0
    · rw [check_good hF hK]
      rw [hK] at HL
      have hTL : tokL (textT x) = toks (textT x) := by unfold tokL; rw [if_pos hK]
      rw [hTL] at HL HLE
      generalize (⟨(textT x).toArray⟩ : ByteArray) = TX at *
      generalize toks (textT x) = E1 at *
      generalize toksT x = E2 at *
      clear hK hTL hF
      by_cases hd : E1 = E2
      · have hdd : decide (E1 = E2) = true := decide_eq_true hd
        rw [hdd]
        go_enter Tryz.func12, Tryz.ntmps12
        go_wp2_with fail
        refine hfo.mono ?_
        rintro e w2 ⟨rfl, h2⟩
        have HB2 := Lib.hid (gcall HB.out h2)
        have hN2 := (h2.block _ (Array.getElem?_eq_some_iff.1 HN.out).1).trans HN.out
        obtain ⟨d0, d1, d2, d3⟩ := box4 hN2
        have HN2 := Lib.hid hN2
        clear h2 hN2 c0 c1 c2 c3 hfo
        go_wp2_with fail
        refine (HT.out w2 HB2.out).mono ?_
        rintro e w3 ⟨rfl, h3⟩
        have HB3 := Lib.hid (HB2.out.trans (h3.mono HB2.out.size))
        have HN3 := Lib.hid ((h3.block _ (Array.getElem?_eq_some_iff.1 HN2.out).1).trans HN2.out)
        clear h3 d0 d1 d2 d3
        go_wp2_with fail
        refine (HL.out w3 HB3.out).mono ?_
        rintro e w4 ⟨v1, rfl, hT1, h4⟩
        have HB4 := Lib.hid (HB3.out.trans (h4.mono HB3.out.size))
        have hN4 := (h4.block _ (Array.getElem?_eq_some_iff.1 HN3.out).1).trans HN3.out
        obtain ⟨d0, d1, d2, d3⟩ := box4 hN4
        have HT1 := Lib.hid hT1
        clear h4 hN4 hT1
        go_wp2_with fail
        refine (HG.out w4 HB4.out).mono ?_
        rintro e w5 ⟨v2, rfl, hT2, h5⟩
        have hq := equal_any _ _ v1 v2 E1 E2 w5 (HT1.out.below h5) hT2 HLE.out HLE2.out
        rw [hdd] at hq
        have HB5 := Lib.hid (HB4.out.trans (h5.mono HB4.out.size))
        clear h5 hT2 d0 d1 d2 d3
        go_wp2_with fail
        refine hq.mono ?_
        rintro e w6 ⟨rfl, h6⟩
        have HB6 := Lib.hid (HB5.out.trans (h6.mono HB5.out.size))
        clear h6 hq
        go_wp2
        go_ret
        exact ⟨rfl, HB6.out⟩
      · have hdd : decide (E1 = E2) = false := decide_eq_false hd
        rw [hdd]
        go_enter Tryz.func12, Tryz.ntmps12
        go_wp2_with fail
        refine hfo.mono ?_
        rintro e w2 ⟨rfl, h2⟩
        have HB2 := Lib.hid (gcall HB.out h2)
        have hN2 := (h2.block _ (Array.getElem?_eq_some_iff.1 HN.out).1).trans HN.out
        obtain ⟨d0, d1, d2, d3⟩ := box4 hN2
        have HN2 := Lib.hid hN2
        clear h2 hN2 c0 c1 c2 c3 hfo
        go_wp2_with fail
        refine (HT.out w2 HB2.out).mono ?_
        rintro e w3 ⟨rfl, h3⟩
        have HB3 := Lib.hid (HB2.out.trans (h3.mono HB2.out.size))
        have HN3 := Lib.hid ((h3.block _ (Array.getElem?_eq_some_iff.1 HN2.out).1).trans HN2.out)
        clear h3 d0 d1 d2 d3
        go_wp2_with fail
        refine (HL.out w3 HB3.out).mono ?_
        rintro e w4 ⟨v1, rfl, hT1, h4⟩
        have HB4 := Lib.hid (HB3.out.trans (h4.mono HB3.out.size))
        have hN4 := (h4.block _ (Array.getElem?_eq_some_iff.1 HN3.out).1).trans HN3.out
        obtain ⟨d0, d1, d2, d3⟩ := box4 hN4
        have HT1 := Lib.hid hT1
        clear h4 hN4 hT1
        go_wp2_with fail
        refine (HG.out w4 HB4.out).mono ?_
        rintro e w5 ⟨v2, rfl, hT2, h5⟩
        have hq := equal_any _ _ v1 v2 E1 E2 w5 (HT1.out.below h5) hT2 HLE.out HLE2.out
        rw [hdd] at hq
        have HB5 := Lib.hid (HB4.out.trans (h5.mono HB4.out.size))
        clear h5 hT2 d0 d1 d2 d3
        go_wp2_with fail
        refine hq.mono ?_
        rintro e w6 ⟨rfl, h6⟩
        have HB6 := Lib.hid (HB5.out.trans (h6.mono HB5.out.size))
        clear h6 hq
        go_wp2
        go_ret
        exact ⟨rfl, HB6.out⟩
    · rw [check_err hK]
      have hne : (tokE (textT x) != 0) = true := by rw [bne_iff_ne]; exact hK
      generalize tokE (textT x) = KE at *
      generalize tokL (textT x) = E1 at *
      generalize (⟨(textT x).toArray⟩ : ByteArray) = TX at *
      clear hF hK
      go_enter Tryz.func12, Tryz.ntmps12
      go_wp2_with fail
      refine hfo.mono ?_
      rintro e w2 ⟨rfl, h2⟩
      have HB2 := Lib.hid (gcall HB.out h2)
      have hN2 := (h2.block _ (Array.getElem?_eq_some_iff.1 HN.out).1).trans HN.out
      obtain ⟨d0, d1, d2, d3⟩ := box4 hN2
      have HN2 := Lib.hid hN2
      clear h2 hN2 c0 c1 c2 c3 hfo
      go_wp2_with fail
      refine (HT.out w2 HB2.out).mono ?_
      rintro e w3 ⟨rfl, h3⟩
      have HB3 := Lib.hid (HB2.out.trans (h3.mono HB2.out.size))
      have HN3 := Lib.hid ((h3.block _ (Array.getElem?_eq_some_iff.1 HN2.out).1).trans HN2.out)
      clear h3 d0 d1 d2 d3
      go_wp2_with fail
      refine (HL.out w3 HB3.out).mono ?_
      rintro e w4 ⟨v1, rfl, hT1, h4⟩
      have HB4 := Lib.hid (HB3.out.trans (h4.mono HB3.out.size))
      have hN4 := (h4.block _ (Array.getElem?_eq_some_iff.1 HN3.out).1).trans HN3.out
      obtain ⟨d0, d1, d2, d3⟩ := box4 hN4
      have HT1 := Lib.hid hT1
      clear h4 hN4 hT1
      go_wp2
      go_ret
      exact ⟨rfl, HB4.out⟩
end Go.Proofs.YtingfomfibhnhaaGreatDoor
