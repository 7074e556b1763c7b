/-
  RelexBack: the walk.
-/
import Derived.Test.YtfedmhccbfhcbaaDoorXQ
namespace Go.Proofs.YtfedmhccbfhcbaaDoor
open Go.RowKit Go.Shelf

set_option maxRecDepth 100000 in
set_option maxHeartbeats 16000000 in
theorem back_walk (s x : ByteArray) (f t : Int) (w : World) (hm : s.size ≤ maxLen) (hE : Env w) : Calls Tryd.prog 6 #[.string s, edV f t x] w (LawEnd w) := by
  unfold maxLen at hm
  have HE := Lib.hid hE
  have hb1 : Below w.heap.size w (w.alloc (.cells #[.int .i64 f, .int .i64 t, .string x] 25)) := galloc2 (Below.refl _ _) (Nat.le_refl _) _
  have hn1 := heap_alloc_new w (.cells #[.int .i64 f, .int .i64 t, .string x] 25)
  have hz1 : (w.alloc (.cells #[.int .i64 f, .int .i64 t, .string x] 25)).heap.size = w.heap.size + 1 := by simp
  generalize hw1 : w.alloc (.cells #[.int .i64 f, .int .i64 t, .string x] 25) = w1 at *
  have HB1 := Lib.hid hb1
  have HN1 := Lib.hid hn1
  have HZ1 := Lib.hid hz1
  have b2 : w1.cell? ⟨w.heap.size, 2, none⟩ = some (.string x) := by rw [cellH hn1]; rfl
  have haw := awake_any w1 (hE.below hb1 hE.size)
  clear hb1 hn1 hE hz1
  unfold edV
  by_cases h8 : 3000 < s.size
  · have h8' : decide ((3000 : Int) < (s.size : Int)) = true := by rw [decide_eq_true]; omega
    go_enter Tryd.func6, Tryd.ntmps6
    go_wp2_with fail
    refine haw.mono ?_
    rintro e w2 ⟨rfl, hb2⟩
    go_wp2_with fail
    go_ret
    exact ⟨rfl, HB1.out.trans (hb2.mono HB1.out.size)⟩
  · have h8' : decide ((3000 : Int) < (s.size : Int)) = false := by rw [decide_eq_false]; omega
    by_cases h9 : 3000 < x.size
    · have h9' : decide ((3000 : Int) < (x.size : Int)) = true := by rw [decide_eq_true]; omega
      go_enter Tryd.func6, Tryd.ntmps6
      go_wp2_with fail
      refine haw.mono ?_
      rintro e w2 ⟨rfl, hb2⟩
      go_wp2_with fail
      go_ret
      exact ⟨rfl, HB1.out.trans (hb2.mono HB1.out.size)⟩
    · have h9' : decide ((3000 : Int) < (x.size : Int)) = false := by rw [decide_eq_false]; omega
      go_enter Tryd.func6, Tryd.ntmps6
      go_wp2_with fail
      refine haw.mono ?_
      rintro e w2 ⟨rfl, hb2⟩
      have HB2 := Lib.hid (HB1.out.trans (hb2.mono HB1.out.size))
      have HN2 := Lib.hid ((hb2.block w.heap.size (by have := HZ1.out; omega)).trans HN1.out)
      have b0 : w2.cell? ⟨w.heap.size, 0, none⟩ = some (.int .i64 f) := by rw [cellH HN2.out]; rfl
      have b1 : w2.cell? ⟨w.heap.size, 1, none⟩ = some (.int .i64 t) := by rw [cellH HN2.out]; rfl
      have b2 : w2.cell? ⟨w.heap.size, 2, none⟩ = some (.string x) := by rw [cellH HN2.out]; rfl
      clear haw hb2 hw1
      have hzs : s.size ≤ 3000 := by omega
      have hzx : x.size ≤ 3000 := by omega
      clear h8 h9 h8' h9'
      have hdo := do_any s x f t w2 (by omega) (by omega) (HE.out.below HB2.out HE.out.size)
      unfold DoEnd edV bl at hdo
      by_cases hee : doE s.data.toList x.data.toList f t = 0
      · obtain ⟨_, hsp, _, _, _⟩ := do_good hee
        unfold isSp at hsp
        simp only [Bool.and_eq_true, decide_eq_true_eq] at hsp
        obtain ⟨qq1, qq2, qq3⟩ := hsp
        obtain ⟨fn, rfl⟩ : ∃ fn : Nat, f = fn := ⟨f.toNat, by omega⟩
        obtain ⟨tn, rfl⟩ : ∃ tn : Nat, t = tn := ⟨t.toNat, by omega⟩
        obtain ⟨hs0, h1, h2, hx0, _, _, hT0, _, _⟩ := back_good hee
        rw [← Lib.size_eq] at h2
        obtain ⟨y, hy⟩ : ∃ y, s.extract fn tn = y := ⟨_, rfl⟩
        have hyl : y.data.toList = (s.data.toList.drop fn).take (tn - fn) := by rw [← hy, Utf.extract_list, List.drop_take]
        have hyz : y.size ≤ 3000 := by rw [Lib.size_eq, hyl, List.length_take, List.length_drop, ← Lib.size_eq]; omega
        have hrow := back_row (y := y) hee hyl
        obtain ⟨hd1, hd2⟩ := back_do hee
        rw [← hyl, ← Lib.size_eq] at hd1 hd2
        rw [hee, hx0] at hdo
        obtain ⟨T, hT⟩ : ∃ T : ByteArray, edL s.data.toList x.data.toList fn tn = T.data.toList := ⟨⟨(edL s.data.toList x.data.toList fn tn).toArray⟩, rfl⟩
        have hTz : T.size ≤ 1000000 := by
          rw [Lib.size_eq, ← hT, edL_len h1 (by rw [← Lib.size_eq]; exact h2), ← Lib.size_eq, ← Lib.size_eq]; omega
        rw [hT] at hdo hd1 hd2 hT0
        rw [show (⟨T.data.toList.toArray⟩ : ByteArray) = T from (ba_of T rfl).symm] at hdo
        have hdo2 := fun W hE => do_any T y fn (fn + x.size) W hTz (by omega) hE
        unfold DoEnd edV bl at hdo2
        rw [hd1, hd2] at hdo2
        rw [show (⟨s.data.toList.toArray⟩ : ByteArray) = s from (ba_of s rfl).symm] at hdo2
        have hrw := fun W g (hg : EdsAt W (.slice (some ⟨g, 0, none⟩) 2 2) [⟨fn, tn, x⟩, ⟨fn, fn + x.size, y⟩]) hE => row_any s (.slice (some ⟨g, 0, none⟩) 2 2) [⟨fn, tn, x⟩, ⟨fn, fn + x.size, y⟩] W (by omega) hg (by intro e he; simp at he; rcases he with rfl | rfl <;> simp <;> omega) (by simp) hE
        unfold RowEnd at hrw
        rw [hrow] at hrw
        have hrt : rowT (s.data.toList, 0, 0) = toks s.data.toList := rfl
        rw [hrt] at hrw
        have htk := fun W hE => tokens_any s W (by omega) hE
        unfold TokEnd at htk
        rw [hs0, tokL_good hs0] at htk
        have hEl := toks_len s.data.toList
        rw [← Lib.size_eq] at hEl
        have HEL : Hid ((toks s.data.toList).length ≤ 10000) := Lib.hid (by omega)
        generalize toks s.data.toList = E at *
        obtain ⟨xz, hxz⟩ : ∃ xz, fn + x.size = xz := ⟨_, rfl⟩
        have hxz' : (fn : Int) + (x.size : Int) = (xz : Int) := by omega
        rw [hxz'] at hdo2 hrw
        have ux : IntKind.i64.wrap ((fn : Int) + (x.size : Int)) = (xz : Int) := by rw [IntWalk.i64_in _ (by omega)]; omega
        have h0f : (0 : Int) ≤ (fn : Int) := by omega
        have h0t : (0 : Int) ≤ (tn : Int) := by omega
        have hft : (fn : Int) ≤ (tn : Int) := by omega
        have hts : (tn : Int) ≤ (s.size : Int) := by omega
        clear hee hs0 hx0 hT0 hyl hyz hrow hd1 hd2 hT hTz hrt hEl qq1 qq2 qq3 h1 h2 hxz hxz'
        go_wp2_with fail
        refine hdo.mono ?_
        rintro e w3 ⟨rfl, hb3⟩
        have HB3 := Lib.hid (HB2.out.trans (hb3.mono HB2.out.size))
        have HN3 := Lib.hid ((hb3.block w.heap.size (Array.getElem?_eq_some_iff.1 HN2.out).1).trans HN2.out)
        have c0 : w3.cell? ⟨w.heap.size, 0, none⟩ = some (.int .i64 fn) := by rw [cellH HN3.out]; rfl
        have c1 : w3.cell? ⟨w.heap.size, 1, none⟩ = some (.int .i64 tn) := by rw [cellH HN3.out]; rfl
        have c2 : w3.cell? ⟨w.heap.size, 2, none⟩ = some (.string x) := by rw [cellH HN3.out]; rfl
        have hn4 := heap_alloc_new w3 (.cells #[.int .i64 0, .int .i64 0, .string ⟨#[]⟩] 25)
        have hb4 : Below w3.heap.size w3 (w3.alloc (.cells #[.int .i64 0, .int .i64 0, .string ⟨#[]⟩] 25)) := galloc2 (Below.refl _ _) (Nat.le_refl _) _
        have hlt3 : w.heap.size < w3.heap.size := (Array.getElem?_eq_some_iff.1 HN3.out).1
        have HN4 := Lib.hid ((hb4.block w.heap.size hlt3).trans HN3.out)
        have d0 : (w3.alloc (.cells #[.int .i64 0, .int .i64 0, .string ⟨#[]⟩] 25)).cell? ⟨w.heap.size, 0, none⟩ = some (.int .i64 fn) := by rw [cellH HN4.out]; rfl
        have d1 : (w3.alloc (.cells #[.int .i64 0, .int .i64 0, .string ⟨#[]⟩] 25)).cell? ⟨w.heap.size, 1, none⟩ = some (.int .i64 tn) := by rw [cellH HN4.out]; rfl
        have d2 : (w3.alloc (.cells #[.int .i64 0, .int .i64 0, .string ⟨#[]⟩] 25)).cell? ⟨w.heap.size, 2, none⟩ = some (.string x) := by rw [cellH HN4.out]; rfl
        have e0 : (w3.alloc (.cells #[.int .i64 0, .int .i64 0, .string ⟨#[]⟩] 25)).cell? ⟨w3.heap.size, 0, none⟩ = some (.int .i64 0) := by rw [cellH hn4]; rfl
        have e1 : (w3.alloc (.cells #[.int .i64 0, .int .i64 0, .string ⟨#[]⟩] 25)).cell? ⟨w3.heap.size, 1, none⟩ = some (.int .i64 0) := by rw [cellH hn4]; rfl
        have e2 : (w3.alloc (.cells #[.int .i64 0, .int .i64 0, .string ⟨#[]⟩] 25)).cell? ⟨w3.heap.size, 2, none⟩ = some (.string ⟨#[]⟩) := by rw [cellH hn4]; rfl
        have ef : ∀ o, (w3.alloc (.cells #[.int .i64 0, .int .i64 0, .string ⟨#[]⟩] 25)).frozen? ⟨w3.heap.size, o, none⟩ = false := fun o => Lib.frozen_of_heap hn4 o
        have HNN4 := Lib.hid hn4
        have HB4 := Lib.hid (HB3.out.trans (hb4.mono HB3.out.size))
        clear hdo hb3 b0 b1 b2 hn4 hb4 hlt3
        go_wp2_with fail
        go_region
        have hn5 := heap_alloc_new w3 (.cells #[.int .i64 fn, .int .i64 xz, .string y] 25)
        have hb5 : Below w3.heap.size w3 (w3.alloc (.cells #[.int .i64 fn, .int .i64 xz, .string y] 25)).drew := (galloc2 (Below.refl _ _) (Nat.le_refl _) _).drew
        replace hn5 : (w3.alloc (.cells #[.int .i64 fn, .int .i64 xz, .string y] 25)).drew.heap[w3.heap.size]? = some (.cells #[.int .i64 fn, .int .i64 xz, .string y] 25 (0, 0)) := hn5
        clear d0 d1 d2 e0 e1 e2 ef c0 c1 c2 HNN4 HB4 HN4
        generalize (w3.alloc (.cells #[.int .i64 fn, .int .i64 xz, .string y] 25)).drew = w5 at *
        have HB5 := Lib.hid (HB3.out.trans (hb5.mono HB3.out.size))
        have HN5 := Lib.hid ((hb5.block w.heap.size (Array.getElem?_eq_some_iff.1 HN3.out).1).trans HN3.out)
        have HM5 := Lib.hid hn5
        have c0 : w5.cell? ⟨w3.heap.size, 0, none⟩ = some (.int .i64 fn) := by rw [cellH hn5]; rfl
        have c1 : w5.cell? ⟨w3.heap.size, 1, none⟩ = some (.int .i64 xz) := by rw [cellH hn5]; rfl
        have c2 : w5.cell? ⟨w3.heap.size, 2, none⟩ = some (.string y) := by rw [cellH hn5]; rfl
        clear hn5 hb5
        go_wp2_with fail
        refine (hdo2 w5 (HE.out.below HB5.out HE.out.size)).mono ?_
        rintro e w6 ⟨rfl, hb6⟩
        have HB6 := Lib.hid (HB5.out.trans (hb6.mono HB5.out.size))
        have HN6 := Lib.hid ((hb6.block w.heap.size (Array.getElem?_eq_some_iff.1 HN5.out).1).trans HN5.out)
        have HM6 := Lib.hid ((hb6.block w3.heap.size (Array.getElem?_eq_some_iff.1 HM5.out).1).trans HM5.out)
        have f0 : w6.cell? ⟨w.heap.size, 0, none⟩ = some (.int .i64 fn) := by rw [cellH HN6.out]; rfl
        have f1 : w6.cell? ⟨w.heap.size, 1, none⟩ = some (.int .i64 tn) := by rw [cellH HN6.out]; rfl
        have f2 : w6.cell? ⟨w.heap.size, 2, none⟩ = some (.string x) := by rw [cellH HN6.out]; rfl
        have k0 : w6.cell? ⟨w3.heap.size, 0, none⟩ = some (.int .i64 fn) := by rw [cellH HM6.out]; rfl
        have k1 : w6.cell? ⟨w3.heap.size, 1, none⟩ = some (.int .i64 xz) := by rw [cellH HM6.out]; rfl
        have k2 : w6.cell? ⟨w3.heap.size, 2, none⟩ = some (.string y) := by rw [cellH HM6.out]; rfl
        have hn7 := heap_alloc_new w6 (.cells #[.int .i64 fn, .int .i64 tn, .string x, .int .i64 fn, .int .i64 xz, .string y] 25)
        have hb7 : Below w6.heap.size w6 (w6.alloc (.cells #[.int .i64 fn, .int .i64 tn, .string x, .int .i64 fn, .int .i64 xz, .string y] 25)) := galloc2 (Below.refl _ _) (Nat.le_refl _) _
        generalize hw7 : w6.alloc (.cells #[.int .i64 fn, .int .i64 tn, .string x, .int .i64 fn, .int .i64 xz, .string y] 25) = w7 at *
        have HB7 := Lib.hid (HB6.out.trans (hb7.mono HB6.out.size))
        have HED : Hid (EdsAt w7 (.slice (some ⟨w6.heap.size, 0, none⟩) 2 2) [⟨fn, tn, x⟩, ⟨fn, xz, y⟩]) := Lib.hid ⟨_, 2, rfl, by simp, .inr ⟨w6.heap.size, 0, rfl, fun i e hi => by
          match i, hi with
          | 0, hi => simp at hi; subst hi; exact ⟨by rw [cellH hn7]; rfl, by rw [cellH hn7]; rfl, by rw [cellH hn7]; rfl⟩
          | 1, hi => simp at hi; subst hi; exact ⟨by rw [cellH hn7]; rfl, by rw [cellH hn7]; rfl, by rw [cellH hn7]; rfl⟩⟩⟩
        clear hb6 hdo2 c0 c1 c2 hn7 hb7
        go_wp2_with fail
        refine (hrw w7 _ HED.out (HE.out.below HB7.out HE.out.size)).mono ?_
        rintro e w8 ⟨v8, rfl, hO8, hb8⟩
        obtain ⟨q8, c8, rfl⟩ := own_shape hO8
        have HB8 := Lib.hid (HB7.out.trans (hb8.mono HB7.out.size))
        have HO8 := Lib.hid hO8
        clear hb8 hO8 f0 f1 f2 k0 k1 k2 hw7
        go_wp2_with fail
        refine (htk w8 (HE.out.below HB8.out HE.out.size)).mono ?_
        rintro e w9 ⟨v9, rfl, hT9, hb9⟩
        obtain ⟨q9, c9, rfl⟩ := owns_shape hT9
        have HB9 := Lib.hid (HB8.out.trans (hb9.mono HB8.out.size))
        have hel := HEL.out
        have hsm := same_row _ _ E E w9 (HO8.out.below hb9).row hT9.row (by omega) (by omega)
        rw [show sameB E E = true from decide_eq_true rfl] at hsm
        clear hb9 hT9 htk
        go_wp2_with (go_at_call 13; refine hsm.mono ?_; rintro e w10 ⟨rfl, hm10⟩)
        go_ret
        exact ⟨rfl, HB9.out.trans ((drew_below hm10).mono HB9.out.size)⟩
      · have hq : ((doE s.data.toList x.data.toList f t : Int) != 0) = true := by rw [bne_iff_ne]; exact hee
        generalize doE s.data.toList x.data.toList f t = EE at *
        generalize (⟨(doX s.data.toList x.data.toList f t).toArray⟩ : ByteArray) = T at *
        clear hee
        go_wp2_with fail
        refine hdo.mono ?_
        rintro e w3 ⟨rfl, hb3⟩
        go_wp2_with fail
        go_ret
        exact ⟨rfl, HB2.out.trans (hb3.mono HB2.out.size)⟩
end Go.Proofs.YtfedmhccbfhcbaaDoor
