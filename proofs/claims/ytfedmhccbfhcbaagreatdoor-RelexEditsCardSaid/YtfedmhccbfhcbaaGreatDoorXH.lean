/-
  edit: the walk.
-/
import Derived.Test.YtfedmhccbfhcbaaGreatDoorXG
namespace Go.Proofs.YtfedmhccbfhcbaaGreatDoor
open Go.RowKit Go.Shelf

def EditEnd (s x : ByteArray) (f t : Int) (w : World) (e : Ending) (w' : World) : Prop := ∃ v, e = .returned (.tuple #[lxV ⟨(edX s.data.toList x.data.toList f t).toArray⟩ v, .int .i64 (edE s.data.toList x.data.toList f t)]) ∧ RowOwn w.heap.size w' v (if edE s.data.toList x.data.toList f t = 0 then toks (edX s.data.toList x.data.toList f t) else []) ∧ Below w.heap.size w w'
theorem edit_bad {s x : ByteArray} {f t : Int} {w : World} {K : Int} (hK : edE s.data.toList x.data.toList f t = K) (h0 : K ≠ 0) {w' : World} (hb : Below w.heap.size w w') : EditEnd s x f t w (.returned (.tuple #[lxV ⟨#[]⟩ (.slice none 0 0), .int .i64 K])) w' := by
  refine ⟨.slice none 0 0, ?_, ?_, hb⟩
  · unfold edX; rw [hK, if_neg h0]
  · rw [hK, if_neg h0]; exact .inl ⟨rfl, none, rfl⟩
set_option maxRecDepth 100000 in
set_option maxHeartbeats 16000000 in
theorem edit_any (s x : ByteArray) (v : Value) (f t : Int) (w : World) (hv : valB s.data.toList = true) (hs : s.size ≤ 65536) (hx : x.size ≤ 1000000) (hr : TokRow w v (toks s.data.toList)) (hE : Env w) : Calls Tryz.prog 19 #[lxV s v, edV f t x] w (EditEnd s x f t w) := by
  have hls : s.data.toList.length = s.size := (Lib.size_eq s).symm
  obtain ⟨i32, hi9, hz0, hz1, hz2⟩ := info_parts info32
  -- the three boxes
  have hb1 : Below w.heap.size w (w.alloc (.cells #[.string s, v] 46)) := galloc2 (Below.refl _ _) (Nat.le_refl _) _
  have hn1 := heap_alloc_new w (.cells #[.string s, v] 46)
  have hz1' : (w.alloc (.cells #[.string s, v] 46)).heap.size = w.heap.size + 1 := by simp
  generalize hw1 : w.alloc (.cells #[.string s, v] 46) = w1 at *
  have hb2 : Below w1.heap.size w1 (w1.alloc (.cells #[.int .i64 f, .int .i64 t, .string x] 25)) := galloc2 (Below.refl _ _) (Nat.le_refl _) _
  have hn2 := heap_alloc_new w1 (.cells #[.int .i64 f, .int .i64 t, .string x] 25)
  have hz2' : (w1.alloc (.cells #[.int .i64 f, .int .i64 t, .string x] 25)).heap.size = w1.heap.size + 1 := by simp
  generalize hw2 : w1.alloc (.cells #[.int .i64 f, .int .i64 t, .string x] 25) = w2 at *
  have hb3 : Below w2.heap.size w2 (w2.alloc (.cells #[.string ⟨#[]⟩, .slice none 0 0] 46)) := galloc2 (Below.refl _ _) (Nat.le_refl _) _
  have hn3 := heap_alloc_new w2 (.cells #[.string ⟨#[]⟩, .slice none 0 0] 46)
  have hz3' : (w2.alloc (.cells #[.string ⟨#[]⟩, .slice none 0 0] 46)).heap.size = w2.heap.size + 1 := by simp
  generalize hw3 : w2.alloc (.cells #[.string ⟨#[]⟩, .slice none 0 0] 46) = w3 at *
  have HB3 : Hid (Below w.heap.size w w3) := Lib.hid (hb1.trans ((hb2.mono (by omega)).trans (hb3.mono (by omega))))
  have HZ : Hid (w1.heap.size = w.heap.size + 1 ∧ w2.heap.size = w.heap.size + 2 ∧ w3.heap.size = w.heap.size + 3) := Lib.hid (by omega)
  have HN1 : Hid (w3.heap[w.heap.size]? = some (.cells #[.string s, v] 46 (0, 0))) := Lib.hid ((hb3.block _ (by omega)).trans ((hb2.block _ (by omega)).trans hn1))
  have HN2 : Hid (w3.heap[w1.heap.size]? = some (.cells #[.int .i64 f, .int .i64 t, .string x] 25 (0, 0))) := Lib.hid ((hb3.block _ (by omega)).trans hn2)
  have HN3 : Hid (w3.heap[w2.heap.size]? = some (.cells #[.string ⟨#[]⟩, .slice none 0 0] 46 (0, 0))) := Lib.hid hn3
  have HR := Lib.hid hr
  have HE := Lib.hid hE
  clear hb1 hb2 hb3 hn1 hn2 hn3 hz1' hz2' hz3' hr hE
  have a0 : w3.cell? ⟨w.heap.size, 0, none⟩ = some (.string s) := by rw [cellH HN1.out]; rfl
  have b0 : w3.cell? ⟨w1.heap.size, 0, none⟩ = some (.int .i64 f) := by rw [cellH HN2.out]; rfl
  have b1 : w3.cell? ⟨w1.heap.size, 1, none⟩ = some (.int .i64 t) := by rw [cellH HN2.out]; rfl
  have hsp := isSpan_any f t s.size w3
  cases hq : isSp f t s.size with
  | false =>
    have HK : Hid (edE s.data.toList x.data.toList f t = 1) := Lib.hid (by unfold edE; rw [hls, hq]; rfl)
    rw [hq] at hsp
    clear hq hls
    go_enter Tryz.func19, Tryz.ntmps19
    unfold lxV edV
    go_wp2_with fail
    unfold spV at hsp
    refine hsp.mono ?_
    rintro e w4 ⟨rfl, hb4⟩
    have HB4 := Lib.hid (HB3.out.trans (hb4.mono HB3.out.size))
    have HN34 := Lib.hid ((hb4.block w2.heap.size (by have := HZ.out; omega)).trans HN3.out)
    have p0 : w4.cell? ⟨w2.heap.size, 0, none⟩ = some (.string ⟨#[]⟩) := by rw [cellH HN34.out]; rfl
    have p1 : w4.cell? ⟨w2.heap.size, 1, none⟩ = some (.slice none 0 0) := by rw [cellH HN34.out]; rfl
    have pf : ∀ o, w4.frozen? ⟨w2.heap.size, o, none⟩ = false := fun o => Lib.frozen_of_heap HN34.out o
    clear hb4 hsp hw1 hw2 hw3
    go_wp2_with fail
    have kF := heap_setCell_same _ _ 1 _ _ (.slice none 0 0) (heap_setCell_same _ _ 0 _ _ (.string ⟨#[]⟩) HN34.out)
    have z0 := cellH kF 0
    have z1 := cellH kF 1
    refine bodyPost_ret (v := .tuple #[lxV ⟨#[]⟩ (.slice none 0 0), .int .i64 1]) (by simp at z0 z1; simp [results, Tryz.results19, go_sem, lxV, z0, z1]) rfl (edit_bad HK.out (by decide) ?_)
    exact (HB4.out.setCell (p := ⟨w2.heap.size, 0, none⟩) (by have := HZ.out; show w.heap.size ≤ w2.heap.size; omega) _).setCell (p := ⟨w2.heap.size, 1, none⟩) (by have := HZ.out; show w.heap.size ≤ w2.heap.size; omega) _
  | true =>
    have hq2 := hq
    unfold isSp at hq2
    simp only [Bool.and_eq_true, decide_eq_true_eq] at hq2
    obtain ⟨q1, q2, q3⟩ := hq2
    obtain ⟨fn, rfl⟩ : ∃ fn : Nat, f = fn := ⟨f.toNat, by omega⟩
    obtain ⟨tn, rfl⟩ : ∃ tn : Nat, t = tn := ⟨t.toNat, by omega⟩
    have h1 : fn ≤ tn := by omega
    have h2 : tn ≤ s.size := by omega
    have HKE : Hid (edE s.data.toList x.data.toList fn tn = tokE (edL s.data.toList x.data.toList fn tn)) := Lib.hid (by
      unfold edE; rw [hls, hq, if_pos rfl]; rfl)
    have het := edit_toks s.data.toList x.data.toList fn tn hv h1 (by omega)
    have hee := edit_err s.data.toList x.data.toList fn tn hv h1 (by omega)
    have hka := keep_at s.data.toList x.data.toList fn tn h1 (by omega)
    have hel := edL_len (s := s.data.toList) (x := x.data.toList) h1 (by omega)
    have HEX : Hid (edE s.data.toList x.data.toList fn tn = 0 → edX s.data.toList x.data.toList fn tn = edL s.data.toList x.data.toList fn tn) := Lib.hid (by
      intro h; unfold edX; rw [if_pos h]; rfl)
    have hflat := flatN_toks s.data.toList
    have hlen := toks_len s.data.toList
    rw [hls] at hflat hlen hel
    rw [hq] at hsp
    have hrep := fun W => replaced_any s fn tn x W (by omega) (by omega) h1 h2
    unfold RepEnd edV bl at hrep
    have hxs : x.data.toList.length = x.size := (Lib.size_eq x).symm
    rw [hxs] at hel
    generalize edL s.data.toList x.data.toList fn tn = L at *
    obtain ⟨T, rfl⟩ : ∃ T : ByteArray, L = T.data.toList := ⟨⟨L.toArray⟩, rfl⟩
    have hTT : (⟨T.data.toList.toArray⟩ : ByteArray) = T := (ba_of T rfl).symm
    rw [hTT] at hrep
    have hTs : T.data.toList.length = T.size := (Lib.size_eq T).symm
    rw [hTs] at hel hee hka
    unfold lxV edV
    unfold spV at hsp
    have hTl : T.size ≤ 1100000 := by omega
    clear hq hls q1 q2 q3 hxs hel
    go_enter Tryz.func19, Tryz.ntmps19
    go_wp2_with fail
    refine hsp.mono ?_
    rintro e w4 ⟨rfl, hb4⟩
    have HB4 := Lib.hid (HB3.out.trans (hb4.mono HB3.out.size))
    have HN14 := Lib.hid ((hb4.block w.heap.size (by have := HZ.out; omega)).trans HN1.out)
    have HN24 := Lib.hid ((hb4.block w1.heap.size (by have := HZ.out; omega)).trans HN2.out)
    have HN34 := Lib.hid ((hb4.block w2.heap.size (by have := HZ.out; omega)).trans HN3.out)
    have a0' : w4.cell? ⟨w.heap.size, 0, none⟩ = some (.string s) := by rw [cellH HN14.out]; rfl
    have b0' : w4.cell? ⟨w1.heap.size, 0, none⟩ = some (.int .i64 fn) := by rw [cellH HN24.out]; rfl
    have b1' : w4.cell? ⟨w1.heap.size, 1, none⟩ = some (.int .i64 tn) := by rw [cellH HN24.out]; rfl
    have b2' : w4.cell? ⟨w1.heap.size, 2, none⟩ = some (.string x) := by rw [cellH HN24.out]; rfl
    have HZ4 := Lib.hid hb4.size
    clear hb4 hsp hw1 hw2 hw3 a0 b0 b1
    go_wp2_with fail
    refine (hrep w4).mono ?_
    rintro e w5 ⟨rfl, hb5⟩
    have hz4 := HB4.out.size
    have hzz := HZ.out
    have hz43 := HZ4.out
    have HB5 := Lib.hid (HB4.out.trans (hb5.mono hz4))
    have HN15 := Lib.hid ((hb5.block w.heap.size (by omega)).trans HN14.out)
    have HN25 := Lib.hid ((hb5.block w1.heap.size (by omega)).trans HN24.out)
    have HN35 := Lib.hid ((hb5.block w2.heap.size (by omega)).trans HN34.out)
    have HZ5 := Lib.hid (Nat.le_trans HZ4.out hb5.size)
    clear hb5 hrep a0' b0' b1' b2' hz4 hzz hz43
    by_cases hbig : 65536 < T.size
    · have hbig' : (65536 : Int) < (T.size : Int) := by omega
      have HK : Hid (edE s.data.toList x.data.toList fn tn = 40) := Lib.hid (by rw [HKE.out]; unfold tokE; rw [if_pos (by omega)])
      have p0 : w5.cell? ⟨w2.heap.size, 0, none⟩ = some (.string ⟨#[]⟩) := by rw [cellH HN35.out]; rfl
      have p1 : w5.cell? ⟨w2.heap.size, 1, none⟩ = some (.slice none 0 0) := by rw [cellH HN35.out]; rfl
      have pf : ∀ o, w5.frozen? ⟨w2.heap.size, o, none⟩ = false := fun o => Lib.frozen_of_heap HN35.out o
      clear het hee hka hTT hTs hflat hlen
      go_wp2_with fail
      have kF := heap_setCell_same _ _ 1 _ _ (.slice none 0 0) (heap_setCell_same _ _ 0 _ _ (.string ⟨#[]⟩) HN35.out)
      have z0 := cellH kF 0
      have z1 := cellH kF 1
      refine bodyPost_ret (v := .tuple #[lxV ⟨#[]⟩ (.slice none 0 0), .int .i64 40]) (by simp at z0 z1; simp [results, Tryz.results19, go_sem, lxV, z0, z1]) rfl (edit_bad HK.out (by decide) ?_)
      exact (HB5.out.setCell (p := ⟨w2.heap.size, 0, none⟩) (by have := HZ.out; show w.heap.size ≤ w2.heap.size; omega) _).setCell (p := ⟨w2.heap.size, 1, none⟩) (by have := HZ.out; show w.heap.size ≤ w2.heap.size; omega) _
    · have hbig' : ¬ (65536 : Int) < (T.size : Int) := by omega
      have hTl' : T.size ≤ 65536 := by omega
      have hbe := before_any s v (toks s.data.toList) fn w5 (HR.out.below HB5.out) (by omega) (by omega) (by omega)
      obtain ⟨KN, hKN⟩ : ∃ KN, keepN fn (toks s.data.toList) = KN := ⟨_, rfl⟩
      obtain ⟨AT, hAT⟩ : ∃ AT, flatN ((toks s.data.toList).take KN) = AT := ⟨_, rfl⟩
      have hKNl := keepN_le (toks s.data.toList) fn
      unfold BefEnd at hbe
      rw [hKN] at hbe het hee hka hKNl
      rw [hAT] at hbe het hee hka
      have HKN := Lib.hid hKNl
      have hka1 := hka.1
      have HKA := Lib.hid hka.2
      have HKE2 : Hid (tokE (T.data.toList.drop AT) = tokE T.data.toList) := Lib.hid (hee (by omega))
      have hex : (T.extract AT T.size).data.toList = T.data.toList.drop AT := ext_list T AT
      have htk := fun W hE => tokens_any (T.extract AT T.size) W (by rw [ext_size]; omega) hE
      rw [hex, HKE2.out] at htk
      have HTO := Lib.hid het.1
      have hge : Hid (AT ≤ T.size) := Lib.hid hka1
      have g0 : (0 : Int) ≤ (AT : Int) := by omega
      have g1 : (AT : Int) ≤ (T.size : Int) := by omega
      obtain ⟨p, c, hvp, hcp⟩ : ∃ p c, v = .slice p (toks s.data.toList).length c ∧ (toks s.data.toList).length ≤ c := by obtain ⟨p, c, e1, e2, _⟩ := HR.out; exact ⟨p, c, e1, e2⟩
      subst hvp
      have a0 : w5.cell? ⟨w.heap.size, 0, none⟩ = some (.string s) := by rw [cellH HN15.out]; rfl
      have a1 : w5.cell? ⟨w.heap.size, 1, none⟩ = some (.slice p (toks s.data.toList).length c) := by rw [cellH HN15.out]; rfl
      have b0 : w5.cell? ⟨w1.heap.size, 0, none⟩ = some (.int .i64 fn) := by rw [cellH HN25.out]; rfl
      have HFL := Lib.hid hflat
      have HLE := Lib.hid hlen
      clear het hee hka hTT hflat hlen hKN hAT hKNl hka1 hex hcp
      unfold lxV at hbe
      go_wp2_with fail
      refine hbe.mono ?_
      rintro e w6 ⟨p', c', hpp, rfl, hb6⟩
      cases hpp
      have HZ6 : Hid (w5.heap.size ≤ w6.heap.size ∧ w3.heap.size ≤ w5.heap.size) := Lib.hid ⟨hb6.size, HZ5.out⟩
      have HB6 := Lib.hid (HB5.out.trans (hb6.mono HB5.out.size))
      have HN36 := Lib.hid ((hb6.block w2.heap.size (by have := HZ6.out; have := HZ.out; omega)).trans HN35.out)
      clear hb6 hbe a0 a1 b0
      go_wp2_with fail
      refine (htk w6 (HE.out.below HB6.out HE.out.size)).mono ?_
      rintro e w7 ⟨v7, rfl, hT7, hb7⟩
      have HB7 := Lib.hid (HB6.out.trans (hb7.mono HB6.out.size))
      have HN37 := Lib.hid ((hb7.block w2.heap.size (by have := HZ6.out; have := HZ.out; omega)).trans HN36.out)
      have HZ7 := Lib.hid hb7.size
      clear hb7 htk
      obtain ⟨K, hK⟩ : ∃ K, tokE T.data.toList = K := ⟨_, rfl⟩
      rw [hK]
      obtain ⟨q7, c7, rfl⟩ := owns_shape hT7
      have p0 : w7.cell? ⟨w2.heap.size, 0, none⟩ = some (.string ⟨#[]⟩) := by rw [cellH HN37.out]; rfl
      have p1 : w7.cell? ⟨w2.heap.size, 1, none⟩ = some (.slice none 0 0) := by rw [cellH HN37.out]; rfl
      have pf : ∀ o, w7.frozen? ⟨w2.heap.size, o, none⟩ = false := fun o => Lib.frozen_of_heap HN37.out o
      by_cases hK0 : K = 0
      · subst hK0
        have HK : Hid (edE s.data.toList x.data.toList fn tn = 0) := Lib.hid (by rw [HKE.out, hK])
        have hLL : tokL (T.data.toList.drop AT) = toks (T.data.toList.drop AT) := tokL_good (by rw [HKE2.out, hK])
        rw [hLL] at hT7 ⊢
        have hRl := toks_len (T.data.toList.drop AT)
        rw [List.length_drop, ← Lib.size_eq] at hRl
        have hR0 : toks (T.data.toList.drop AT) = [] → T.size ≤ AT := by
          intro h
          have := toks_join (T.data.toList.drop AT)
          rw [h] at this
          have := congrArg List.length this
          rw [List.length_drop, ← Lib.size_eq] at this
          simp at this; omega
        have HTO' := HTO.out
        have HTK : Hid (toks T.data.toList = (toks s.data.toList).take KN ++ toks (T.data.toList.drop AT)) := HTO
        clear HTO HTO' hLL
        generalize toks (T.data.toList.drop AT) = R at *
        by_cases hRn : R = []
        · have hKN0 : KN = 0 := by
            rcases HKA.out with h | h
            · exact h
            · have := hR0 hRn; omega
          subst hRn
          subst hKN0
          have HO8 : Hid (RowOwn w6.heap.size w7 (.slice p 0 0) (toks T.data.toList)) := Lib.hid (.inl ⟨HTK.out, p, rfl⟩)
          clear hT7 hRl hR0 hK
          go_wp2_with (at_builtin; refine Lib.wpList_append_run_sl w7 rfl _ _ 30 rfl (.slice p 0 0) (.slice q7 0 c7) rfl rfl (run_append_zero _ p q7 c7 w7) ?_)
          have HB78 := Lib.hid (Below.refl w7.heap.size w7)
          have HN38 := Lib.hid ((HB78.out.block w2.heap.size (by have := HZ6.out; have := HZ.out; have := HZ7.out; omega)).trans HN37.out)
          have HB8 := Lib.hid (HB7.out.trans (HB78.out.mono HB7.out.size))
          clear p0 p1 pf
          go_wp2_with fail
          refine (refer_own w6.heap.size _ (toks T.data.toList) T w7 HO8.out (toks_join _).symm (by have := toks_len T.data.toList; omega) (by have := HZ7.out; have := HB78.out.size; omega)).mono ?_
          rintro e w9 ⟨rfl, hO9, hb9⟩
          have HO9 := Lib.hid hO9
          have HB9 := Lib.hid (HB8.out.trans (hb9.mono (by have := HB6.out.size; omega)))
          have HN39 := Lib.hid ((hb9.block w2.heap.size (by have := HZ6.out; have := HZ.out; have := HZ7.out; omega)).trans HN38.out)
          have p0 : w9.cell? ⟨w2.heap.size, 0, none⟩ = some (.string ⟨#[]⟩) := by rw [cellH HN39.out]; rfl
          have p1 : w9.cell? ⟨w2.heap.size, 1, none⟩ = some (.slice none 0 0) := by rw [cellH HN39.out]; rfl
          have pf : ∀ o, w9.frozen? ⟨w2.heap.size, o, none⟩ = false := fun o => Lib.frozen_of_heap HN39.out o
          clear hO9 hb9
          go_wp2_with fail
          have kF := heap_setCell_same _ _ 1 _ _ (.slice p 0 0) (heap_setCell_same _ _ 0 _ _ (.string T) HN39.out)
          have z0 := cellH kF 0
          have z1 := cellH kF 1
          refine bodyPost_ret (v := .tuple #[lxV T (.slice p 0 0), .int .i64 0]) (by simp at z0 z1; simp [results, Tryz.results19, go_sem, lxV, z0, z1]) rfl ⟨.slice p 0 0, ?_, ?_, ?_⟩
          · rw [HEX.out HK.out, HK.out, (ba_of T rfl).symm]
          · rw [HK.out, if_pos rfl, HEX.out HK.out]
            exact ((HO9.out.set (b := w2.heap.size) (o := 0) (by have := HZ6.out; have := HZ.out; omega) _).set (b := w2.heap.size) (o := 1) (by have := HZ6.out; have := HZ.out; omega) _).base (by have := HB6.out.size; omega)
          · exact (HB9.out.setCell (p := ⟨w2.heap.size, 0, none⟩) (by have := HZ.out; show w.heap.size ≤ w2.heap.size; omega) _).setCell (p := ⟨w2.heap.size, 1, none⟩) (by have := HZ.out; show w.heap.size ≤ w2.heap.size; omega) _
        · have HR7 := Lib.hid (HR.out.below HB7.out)
          have HRl : Hid (1 ≤ R.length ∧ R.length ≤ 65536) := Lib.hid ⟨by cases R with | nil => exact absurd rfl hRn | cons _ _ => simp, by omega⟩
          have HT7 := Lib.hid hT7
          obtain ⟨g7, hg7⟩ : ∃ g7, q7 = some ⟨g7, 0, none⟩ := by
            rcases hT7.2 with ⟨e9, h9⟩ | ⟨g9, _, _, e9, _⟩
            · have := HRl.out; omega
            · cases e9; exact ⟨_, rfl⟩
          subst hg7
          have Fnone : p = none → KN = 0 ∧ KN = 0 := by
            intro hp
            obtain ⟨p9, c9, e9, _, h9⟩ := HR7.out
            rcases h9 with h9 | ⟨g9, o9, e8, _⟩
            · have := HKN.out; rw [h9] at this; simp at this; omega
            · cases e9; rw [e8] at hp; cases hp
          have Flo : (((toks s.data.toList).take KN).flatMap tokC).length = KN * 2 := by rw [flat_len, List.length_take, Nat.min_eq_left HKN.out]
          have Folds : ∀ b, p = some b → ∀ j u, (((toks s.data.toList).take KN).flatMap tokC)[j]? = some u → w7.cell? (b.add j) = some u := by
            intro b hb j u hj
            obtain ⟨p9, c9, e9, _, h9⟩ := HR7.out
            rcases h9 with h9 | ⟨g9, o9, e8, h9⟩
            · rw [h9] at hj; simp at hj
            · cases e9
              rw [e8] at hb
              cases hb
              refine flat_cells (fun i t hi => h9 i t ?_) j u hj
              by_cases hik : i < KN
              · rw [List.getElem?_take_of_lt hik] at hi; exact hi
              · rw [List.getElem?_eq_none (by rw [List.length_take]; omega)] at hi; cases hi
          have Fc : ∀ j u, (R.flatMap tokC)[j]? = some u → w7.cell? ((⟨g7, 0, none⟩ : Addr).add j) = some u := by
            obtain ⟨p9, c9, e9, _, h9⟩ := HT7.out.row
            rcases h9 with h9 | ⟨g9, o9, e8, h9⟩
            · exact absurd h9 hRn
            · cases e9
              cases e8
              exact flat_cells h9
          have F1c : ∀ u ∈ R.flatMap tokC, u.oneCell' = true := by
            intro u hu
            rw [List.mem_flatMap] at hu
            obtain ⟨a, _, ha⟩ := hu
            unfold tokC bl at ha
            simp at ha
            rcases ha with rfl | rfl <;> rfl
          have Fb := HRl.out
          have Fk := HKN.out
          have Fk2 := HLE.out
          clear hT7 hRl hR0 hK
          go_wp2_with (at_builtin; refine wpList_append_grows w7 rfl _ _ 30 rfl 39 i32 (.agg #[.int .u8 0, .string ⟨#[]⟩]) 2 24 und27 hi9 hz0 hz1 hz2 rfl (by decide) p KN KN (((toks s.data.toList).take KN).flatMap tokC) rfl Fnone Flo Folds ⟨g7, 0, none⟩ R.length c7 (R.flatMap tokC) rfl (flat_len R) Fc F1c (by omega) (by unfold maxLen; omega) (by omega) ?_)
          intro v8 w8 hown hgrow
          have HO8 : Hid (RowOwn w6.heap.size w8 v8 (toks T.data.toList)) := Lib.hid (.inr (owns_base (B := w7.heap.size) (by
            rw [HTK.out, List.length_append, List.length_take, Nat.min_eq_left HKN.out, List.flatMap_append]; exact hown) HZ7.out))
          have HB78 : Hid (Below w7.heap.size w7 w8) := Lib.hid ((Below.refl _ _).grown hgrow (Nat.le_refl _) (fun k h => by cases h))
          clear hown hgrow Fnone Flo Folds Fc F1c Fb Fk Fk2
          have HN38 := Lib.hid ((HB78.out.block w2.heap.size (by have := HZ6.out; have := HZ.out; have := HZ7.out; omega)).trans HN37.out)
          have HB8 := Lib.hid (HB7.out.trans (HB78.out.mono HB7.out.size))
          obtain ⟨q8, m8, c8, rfl⟩ : ∃ q m c, v8 = .slice q m c := by
            rcases HO8.out with ⟨_, p9, e9⟩ | h9
            · exact ⟨_, _, _, e9⟩
            · obtain ⟨_, _, e9⟩ := owns_shape h9; exact ⟨_, _, _, e9⟩
          clear p0 p1 pf
          go_wp2_with fail
          refine (refer_own w6.heap.size _ (toks T.data.toList) T w8 HO8.out (toks_join _).symm (by have := toks_len T.data.toList; omega) (by have := HZ7.out; have := HB78.out.size; omega)).mono ?_
          rintro e w9 ⟨rfl, hO9, hb9⟩
          have HO9 := Lib.hid hO9
          have HB9 := Lib.hid (HB8.out.trans (hb9.mono (by have := HB6.out.size; omega)))
          have HN39 := Lib.hid ((hb9.block w2.heap.size (by have := HZ6.out; have := HZ.out; have := HZ7.out; omega)).trans HN38.out)
          have p0 : w9.cell? ⟨w2.heap.size, 0, none⟩ = some (.string ⟨#[]⟩) := by rw [cellH HN39.out]; rfl
          have p1 : w9.cell? ⟨w2.heap.size, 1, none⟩ = some (.slice none 0 0) := by rw [cellH HN39.out]; rfl
          have pf : ∀ o, w9.frozen? ⟨w2.heap.size, o, none⟩ = false := fun o => Lib.frozen_of_heap HN39.out o
          clear hO9 hb9
          go_wp2_with fail
          have kF := heap_setCell_same _ _ 1 _ _ (.slice q8 m8 c8) (heap_setCell_same _ _ 0 _ _ (.string T) HN39.out)
          have z0 := cellH kF 0
          have z1 := cellH kF 1
          refine bodyPost_ret (v := .tuple #[lxV T (.slice q8 m8 c8), .int .i64 0]) (by simp at z0 z1; simp [results, Tryz.results19, go_sem, lxV, z0, z1]) rfl ⟨.slice q8 m8 c8, ?_, ?_, ?_⟩
          · rw [HEX.out HK.out, HK.out, (ba_of T rfl).symm]
          · rw [HK.out, if_pos rfl, HEX.out HK.out]
            exact ((HO9.out.set (b := w2.heap.size) (o := 0) (by have := HZ6.out; have := HZ.out; omega) _).set (b := w2.heap.size) (o := 1) (by have := HZ6.out; have := HZ.out; omega) _).base (by have := HB6.out.size; omega)
          · exact (HB9.out.setCell (p := ⟨w2.heap.size, 0, none⟩) (by have := HZ.out; show w.heap.size ≤ w2.heap.size; omega) _).setCell (p := ⟨w2.heap.size, 1, none⟩) (by have := HZ.out; show w.heap.size ≤ w2.heap.size; omega) _
      · have q : ((K : Int) != 0) = true := by rw [bne_iff_ne]; exact hK0
        have HK : Hid (edE s.data.toList x.data.toList fn tn = K) := Lib.hid (by rw [HKE.out, hK])
        have HK0 := Lib.hid hK0
        have hLL : tokL (T.data.toList.drop AT) = [] := tokL_bad (by rw [HKE2.out, hK]; exact hK0)
        rw [hLL] at hT7 ⊢
        clear hT7 hK hK0 hLL
        go_wp2_with fail
        have kF := heap_setCell_same _ _ 1 _ _ (.slice none 0 0) (heap_setCell_same _ _ 0 _ _ (.string ⟨#[]⟩) HN37.out)
        have z0 := cellH kF 0
        have z1 := cellH kF 1
        refine bodyPost_ret (v := .tuple #[lxV ⟨#[]⟩ (.slice none 0 0), .int .i64 K]) (by simp at z0 z1; simp [results, Tryz.results19, go_sem, lxV, z0, z1]) rfl (edit_bad HK.out HK0.out ?_)
        exact (HB7.out.setCell (p := ⟨w2.heap.size, 0, none⟩) (by have := HZ.out; show w.heap.size ≤ w2.heap.size; omega) _).setCell (p := ⟨w2.heap.size, 1, none⟩) (by have := HZ.out; show w.heap.size ≤ w2.heap.size; omega) _
end Go.Proofs.YtfedmhccbfhcbaaGreatDoor
