/-
  The document's Do.
-/
import Derived.Test.YtfedmhccbfhcbaaGreatDoorXM
import Derived.Test.YtfedmhccbfhcbaaGreatDoorRF
namespace Go.Proofs.YtfedmhccbfhcbaaGreatDoor
open Go.RowKit Go.Shelf

set_option maxRecDepth 100000 in
set_option maxHeartbeats 16000000 in
theorem rdo_any (s x : ByteArray) (f t : Int) (w : World) (hs : s.size ≤ 900000) (hx : x.size ≤ 100000) (hE : Env w) : Calls Tryz.prog 7 #[.string s, edV f t x] w (DoEnd s.data.toList x.data.toList f t w) := by
  have hb1 : Below w.heap.size w (w.alloc (.cells #[.int .i64 f, .int .i64 t, .string x] 25)) := galloc2 (Below.refl _ _) (Nat.le_refl _) _
  have hn1 := heap_alloc_new w (.cells #[.int .i64 f, .int .i64 t, .string x] 25)
  have hz1 : (w.alloc (.cells #[.int .i64 f, .int .i64 t, .string x] 25)).heap.size = w.heap.size + 1 := by simp
  generalize hw1 : w.alloc (.cells #[.int .i64 f, .int .i64 t, .string x] 25) = w1 at *
  have HB1 := Lib.hid hb1
  have HN1 := Lib.hid hn1
  have HE := Lib.hid hE
  have htk := rtokens_any s w1 (by omega) (HE.out.below hb1 HE.out.size)
  unfold TokEnd at htk
  obtain ⟨K, hK⟩ : ∃ K, tokE s.data.toList = K := ⟨_, rfl⟩
  rw [hK] at htk
  unfold DoEnd edV bl
  have hls : s.data.toList.length = s.size := (Lib.size_eq s).symm
  by_cases hK0 : K = 0
  · subst hK0
    have e1 : doE s.data.toList x.data.toList f t = edE s.data.toList x.data.toList f t := by unfold doE; rw [if_pos hK]
    have e2 : doX s.data.toList x.data.toList f t = edX s.data.toList x.data.toList f t := by unfold doX; rw [if_pos hK]
    rw [e1, e2]
    clear e1 e2 hb1 hn1 hE
    go_enter Tryz.func7, Tryz.ntmps7
    go_wp2_with fail
    refine htk.mono ?_
    rintro e w2 ⟨v, rfl, hT, hb2⟩
    have HB2 := Lib.hid (HB1.out.trans (hb2.mono HB1.out.size))
    have HN2 := Lib.hid ((hb2.block w.heap.size (Array.getElem?_eq_some_iff.1 HN1.out).1).trans HN1.out)
    have a0 : w2.cell? ⟨w.heap.size, 0, none⟩ = some (.int .i64 f) := by rw [cellH HN2.out]; rfl
    have a1 : w2.cell? ⟨w.heap.size, 1, none⟩ = some (.int .i64 t) := by rw [cellH HN2.out]; rfl
    have hn3 := heap_alloc_new w2 (.cells #[.int .i64 0, .int .i64 0] 23)
    have hb3 : Below w2.heap.size w2 (w2.alloc (.cells #[.int .i64 0, .int .i64 0] 23)) := galloc2 (Below.refl _ _) (Nat.le_refl _) _
    generalize hw3 : w2.alloc (.cells #[.int .i64 0, .int .i64 0] 23) = w3 at *
    have HB3 := Lib.hid (HB2.out.trans (hb3.mono HB2.out.size))
    have HN3 := Lib.hid ((hb3.block w.heap.size (Array.getElem?_eq_some_iff.1 HN2.out).1).trans HN2.out)
    have z0 : w3.cell? ⟨w2.heap.size, 0, none⟩ = some (.int .i64 0) := by rw [cellH hn3]; rfl
    have z1 : w3.cell? ⟨w2.heap.size, 1, none⟩ = some (.int .i64 0) := by rw [cellH hn3]; rfl
    have zf : ∀ o, w3.frozen? ⟨w2.heap.size, o, none⟩ = false := fun o => Lib.frozen_of_heap hn3 o
    have HM4 := Lib.hid (box_set2 hn3 (.int .i64 f) (.int .i64 t))
    have HN4 := Lib.hid ((box_far2 (x := .int .i64 f) (y := .int .i64 t) (show w2.heap.size ≠ w.heap.size by have := (Array.getElem?_eq_some_iff.1 HN2.out).1; omega) w3).trans HN3.out)
    have HB4 := Lib.hid (below_set2 (x := .int .i64 f) (y := .int .i64 t) HB3.out HB2.out.size)
    have far1 : ∀ (W : World) (o1 o2 : Nat) (x : Value), (W.setCell ⟨w2.heap.size, o1, none⟩ x).cell? ⟨w.heap.size, o2, none⟩ = W.cell? ⟨w.heap.size, o2, none⟩ := fun W o1 o2 x => set_far W _ _ _ _ _ (by have := (Array.getElem?_eq_some_iff.1 HN2.out).1; omega)
    have c2 : w3.cell? ⟨w.heap.size, 2, none⟩ = some (.string x) := by rw [cellH HN3.out]; rfl
    clear hT hb2 hn3 hb3 hw1
    by_cases hq : isSp f t s.size = true
    · have hsp := hq
      unfold isSp at hsp
      simp only [Bool.and_eq_true, decide_eq_true_eq] at hsp
      obtain ⟨qq1, qq2, qq3⟩ := hsp
      obtain ⟨fn, rfl⟩ : ∃ fn : Nat, f = fn := ⟨f.toNat, by omega⟩
      obtain ⟨tn, rfl⟩ : ∃ tn : Nat, t = tn := ⟨t.toNat, by omega⟩
      have h1 : fn ≤ tn := by omega
      have h2 : tn ≤ s.size := by omega
      have HKE : Hid (edE s.data.toList x.data.toList fn tn = tokE (edL s.data.toList x.data.toList fn tn)) := Lib.hid (by
        unfold edE; rw [hls, hq, if_pos rfl]; rfl)
      have HEX : Hid (edX s.data.toList x.data.toList fn tn = if tokE (edL s.data.toList x.data.toList fn tn) = 0 then edL s.data.toList x.data.toList fn tn else []) := Lib.hid (by
        unfold edX; rw [HKE.out]; rfl)
      obtain ⟨T, hT⟩ : ∃ T : ByteArray, s.extract 0 fn ++ x ++ s.extract tn s.size = T := ⟨_, rfl⟩
      have hTl : edL s.data.toList x.data.toList fn tn = T.data.toList := by
        rw [← hT, Utf.data_append, Utf.data_append, Utf.extract_list, ext_list, List.drop_zero]
        unfold edL
        rw [List.append_assoc]
      have hTz : T.size ≤ 1000000 := by
        have hxs : x.data.toList.length = x.size := (Lib.size_eq x).symm
        rw [Lib.size_eq, ← hTl, edL_len h1 (by rw [hls]; exact h2), hls, hxs]; omega
      rw [hTl] at HKE HEX
      have htk2 := fun W hE => rtokens_any T W hTz hE
      unfold TokEnd at htk2
      obtain ⟨K2, hK2⟩ : ∃ K2, tokE T.data.toList = K2 := ⟨_, rfl⟩
      rw [hK2] at HKE HEX htk2
      have g1 : ¬ (fn : Int) < 0 := by omega
      have g2 : ¬ (tn : Int) < (fn : Int) := by omega
      have g3 : ¬ (s.size : Int) < (tn : Int) := by omega
      have g1' : decide ((fn : Int) < 0) = false := decide_eq_false g1
      have g2' : decide ((tn : Int) < (fn : Int)) = false := decide_eq_false g2
      have g3' : decide ((s.size : Int) < (tn : Int)) = false := decide_eq_false g3
      have g2n : decide (tn < fn) = false := by rw [decide_eq_false]; omega
      have g3n : decide (s.size < tn) = false := by rw [decide_eq_false]; omega
      have h0f : (0 : Int) ≤ (fn : Int) := by omega
      have h0t : (0 : Int) ≤ (tn : Int) := by omega
      have hfs : (fn : Int) ≤ (s.size : Int) := by omega
      have hts : (tn : Int) ≤ (s.size : Int) := by omega
      have HTT := Lib.hid hT
      clear hq qq1 qq2 qq3 hTz hTl hK2 hT h1 h2 hls hK
      go_wp2_with fail
      go_quiet (fail)
      have HB5 := Lib.hid (HB4.out.trans ((drewN_below _ nq).mono HB4.out.size))
      clear z0 z1 zf far1 c2 a0 a1
      generalize ((w3.setCell ⟨w2.heap.size, 0, none⟩ (.int .i64 fn)).setCell ⟨w2.heap.size, 1, none⟩ (.int .i64 tn)).drewN nq = w5 at *
      go_wp2_with fail
      rw [HTT.out]
      refine (htk2 w5 (HE.out.below HB5.out HE.out.size)).mono ?_
      rintro e w6 ⟨v6, rfl, hT6, hb6⟩
      have HB6 := Lib.hid (HB5.out.trans (hb6.mono HB5.out.size))
      clear hT6 hb6
      by_cases h20 : K2 = 0
      · subst h20
        rw [if_pos rfl] at HEX
        go_wp2_with fail
        go_ret2
        exact ⟨by rw [HKE.out, HEX.out, (ba_of T rfl).symm]; rfl, HB6.out⟩
      · have q2 : ((K2 : Int) != 0) = true := by rw [bne_iff_ne]; exact h20
        rw [if_neg h20] at HEX
        clear h20
        go_wp2_with fail
        go_ret2
        exact ⟨by rw [HKE.out, HEX.out]; rfl, HB6.out⟩
    · have hqf : isSp f t s.size = false := by simpa using hq
      have HKE : Hid (edE s.data.toList x.data.toList f t = 1) := Lib.hid (by unfold edE; rw [hls, hqf]; rfl)
      have HEX : Hid (edX s.data.toList x.data.toList f t = []) := Lib.hid (by unfold edX; rw [HKE.out]; rfl)
      have h3 : f < 0 ∨ (¬ f < 0 ∧ t < f) ∨ (¬ f < 0 ∧ ¬ t < f ∧ (s.size : Int) < t) := by
        apply Classical.byContradiction
        intro h
        apply hq
        unfold isSp
        simp only [Bool.and_eq_true, decide_eq_true_eq]
        omega
      clear hq hqf hls hK
      rcases h3 with h3 | ⟨h3, h4⟩ | ⟨h3, h4, h5⟩
      · go_wp2_with fail
        go_ret2
        exact ⟨by rw [HKE.out, HEX.out]; rfl, HB4.out⟩
      · have h3' : decide (f < 0) = false := decide_eq_false h3
        go_wp2_with fail
        go_ret2
        exact ⟨by rw [HKE.out, HEX.out]; rfl, HB4.out⟩
      · have h3' : decide (f < 0) = false := decide_eq_false h3
        have h4' : decide (t < f) = false := decide_eq_false h4
        go_wp2_with fail
        go_ret2
        exact ⟨by rw [HKE.out, HEX.out]; rfl, HB4.out⟩
  · have e1 : doE s.data.toList x.data.toList f t = K := by unfold doE; rw [hK, if_neg hK0]
    have e2 : doX s.data.toList x.data.toList f t = [] := by unfold doX; rw [hK, if_neg hK0]
    have q : ((K : Int) != 0) = true := by rw [bne_iff_ne]; exact hK0
    rw [e1, e2]
    clear hK0 e1 e2 hK hb1 hn1 hE
    go_enter Tryz.func7, Tryz.ntmps7
    go_wp2_with fail
    refine htk.mono ?_
    rintro e w2 ⟨v, rfl, hT, hb2⟩
    go_wp2_with fail
    go_ret2
    exact ⟨rfl, HB1.out.trans (hb2.mono HB1.out.size)⟩
end Go.Proofs.YtfedmhccbfhcbaaGreatDoor
