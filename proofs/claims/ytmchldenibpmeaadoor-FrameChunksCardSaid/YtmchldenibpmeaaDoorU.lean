/-
  FrameChunks.
-/
import Derived.Test.YtmchldenibpmeaaDoorV
namespace Go.Proofs.YtmchldenibpmeaaDoor
open Go.RowKit Go.Shelf

set_option maxRecDepth 100000 in
set_option maxHeartbeats 20000000 in
theorem frameChunks_walk (bv cv : Value) (b cuts : List UInt8) (w : World) (hT : Tab w ∧ 11 ≤ w.heap.size) (hb : BArg w bv b) (hc : BRowV w cv cuts) (hz : cuts.length ≤ 9223372036854775807) :
    Calls Tryd.prog 5 #[bv, cv] w fun e w' => e = .returned (.bool true) ∧ Below w.heap.size w w' := by
  have ha := awake_any w hT.1 hT.2
  obtain ⟨pb, cb, rfl⟩ := hb.shape
  obtain ⟨pc, cc, rfl⟩ := hc.shape
  have HBV := Lib.hid hb
  have HCV := Lib.hid hc
  obtain ⟨i41, hi, hz0, hz1, hz2⟩ := info_parts info41
  clear hb hc
  by_cases hbig : 6000 < b.length
  · have hbig' : (6000 : Int) < (b.length : Int) := by omega
    go_enter Tryd.func5, Tryd.ntmps5
    go_wp2_with fail
    refine ha.mono ?_
    rintro e w1 ⟨rfl, hb1⟩
    have B1 := Lib.hid hb1
    clear hb1 ha
    go_wp2_with fail
    go_ret
    exact ⟨rfl, B1.out⟩
  · have hbig' : ¬ (6000 : Int) < (b.length : Int) := by omega
    go_enter Tryd.func5, Tryd.ntmps5
    go_wp2_with fail
    refine ha.mono ?_
    rintro e w1 ⟨rfl, hb1⟩
    have B1 := Lib.hid hb1
    clear hb1 ha
    have hnew := new_any w1
    go_wp2_with fail
    refine hnew.mono ?_
    rintro e w2 ⟨rfl, ⟨hv2, r1, r2, r3, r4, r5⟩, hb2⟩
    have B2 := Lib.hid (B1.out.trans (hb2.mono B1.out.size))
    have hs1 := B1.out.size
    have hs2 := hb2.size
    have hf := feed_wide w1.heap.size w2 w1.heap.size .head [] (hT.1.below B2.out) (Nat.le_trans hT.2 hs1) hs2 hv2 ⟨r1, r2, r3, r4, r5⟩ _ b ((HBV.out.below B2.out).chunk) (by simp; omega)
    have hvlt : ∀ k, hv2.ownBlock = some k → w1.heap.size ≤ k := fun k e => (r2.lt k e).1
    clear r1 r2 r3 r5 hb2 hnew
    go_wp2_with fail
    refine hf.mono ?_
    rintro e w3 ⟨vw, hv3, rfl, hew, hrd3, hk3, _⟩
    rw [List.nil_append] at hew
    have B3 := Lib.hid (B2.out.trans ((hk3.below (Nat.le_refl _) hvlt hs2).mono hs1))
    have hs3 := B3.out.size
    have hfew := told_few b (by omega)
    generalize hEV : (runA .head b).2.1 = EV at *
    have HEW : Hid (EvsAt w2.heap.size w3 vw EV) := Lib.hid hew
    obtain ⟨pw, cw, rfl⟩ := evs_shape hew
    have HEV := Lib.hid hEV
    have hnew3 := new_any w3
    clear hew hrd3 hk3 hf hvlt hEV
    go_wp2_with fail
    refine hnew3.mono ?_
    rintro e w4 ⟨rfl, ⟨hv4, q1, q2, q3, q4, q5⟩, hb4⟩
    have B4 := Lib.hid hb4
    have HQ : Hid (Turn w3.heap.size b (.slice none 0 0) 0 w4) := Lib.hid ⟨hv4, [], by rw [List.take_zero, runA_nil], evs_none _ _, by rw [List.take_zero, runA_nil]; exact ⟨q1, q2, q3, q4, q5⟩, fun g e => by simp [Value.ownBlock] at e⟩
    clear hnew3 q1 q2 q3 q4 q5 hb4
    go_wp2_with fail
    go_loopw [8, 9, 10] (fun parts at' i wr => ∃ k j : Nat, at' = .int .i64 k ∧ i = .int .i64 j ∧ k ≤ b.length ∧ j ≤ cuts.length ∧ Hid (Turn w3.heap.size b parts k wr) ∧ Hid (Below w3.heap.size w3 wr)) (fun _ _ i _ => cuts.length - (intOf i).toNat)
    case atStart => exact ⟨0, 0, rfl, rfl, Nat.zero_le _, Nat.zero_le _, HQ, B4⟩
    case round =>
      clear HQ B4
      obtain ⟨k, j, rfl, rfl, hk, hj, HQ, HB⟩ := hrel
      have HBW : Hid (Below w.heap.size w wr) := Lib.hid (B3.out.trans (HB.out.mono hs3))
      have hsr := HB.out.size
      by_cases hx : j < cuts.length ∧ k < b.length
      · obtain ⟨hj1, hk1⟩ := hx
        have hj1' : (j : Int) < (cuts.length : Int) := by omega
        have hk1' : (k : Int) < (b.length : Int) := by omega
        rcases HBV.out with ⟨_, e⟩ | ⟨_, _, _, e⟩ | ⟨g, o, cap, e1, hcap, h3, hl⟩
        · subst e; exact absurd hk1 (Nat.not_lt_zero _)
        · subst e; exact absurd hk1 (Nat.not_lt_zero _)
        cases e1
        have HLr := Lib.hid (hl.below HBW.out)
        obtain ⟨gc, oc, rfl, hcc⟩ := HCV.out.cell hj1
        replace hcc := (HBW.out.cell (World.block_lt_of_cell? w _ hcc)).trans hcc
        generalize cuts.getD j 0 = c at *
        have hc8 := UInt8.toNat_lt c
        generalize c.toNat = n at *
        obtain ⟨hv, E, hE, hev, hrd, hdis⟩ := HQ.out
        have HE := Lib.hid hE
        have HEVP := Lib.hid hev
        have HRD := Lib.hid hrd
        have HD := Lib.hid hdis
        obtain ⟨pp, cp, rfl⟩ := evs_shape hev
        have hEl := told_few (b.take k) (by rw [List.length_take]; omega)
        rw [hE] at hEl
        clear hE hev hrd hdis hl HQ
        obtain ⟨t, ht⟩ : ∃ t : Nat, t = min (k + n) b.length := ⟨_, rfl⟩
        have hmin : min ((k : Int) + (n : Int)) (b.length : Int) = (t : Int) := by omega
        have hkt : k ≤ t := by omega
        have htb : t ≤ b.length := by omega
        clear ht
        have hch : Chunk2 wr (.slice (some ⟨g, o + k, none⟩) (t - k) (cb - k)) ((b.drop k).take (t - k)) := by
          have := chunk_lies (cap := cb - k) (lies_mid HLr.out k t htb)
          rw [mid_len htb] at this; exact this
        have hfeed := feed_next w3.heap.size wr w3.heap.size (b.take k) (hT.1.below HBW.out) (Nat.le_trans hT.2 hs3) hsr hv HRD.out _ _ hch (by rw [mid_len htb, List.length_take]; omega)
        rw [take_mid hkt, HE.out] at hfeed
        clear hch
        go_wp2_with fail
        try simp only [hmin, Int.toNat_natCast]
        refine hfeed.mono ?_
        rintro e w5 ⟨v, N, hv5, rfl, hN, hrun, hrd, hkept, hat⟩
        have B5 : Hid (Below w3.heap.size w3 w5) := Lib.hid (HB.out.trans (hkept.below (Nat.le_refl _) (fun k e => (HRD.out.o.lt k e).1) hsr))
        have hs5 := B5.out.size
        obtain ⟨hev5, hdis5⟩ := turn_feed HEVP.out HD.out hkept hat
        have HEV5 := Lib.hid hev5
        have HD5 := Lib.hid hdis5
        have HRD5 := Lib.hid hrd
        have HRUN := Lib.hid hrun
        have hNl := told_few (b.take t) (by rw [List.length_take]; omega)
        rw [hrun, List.length_append] at hNl
        obtain ⟨pn, cn, rfl⟩ := evs_shape hN
        clear hev5 hdis5 hrd hkept hat hrun hfeed HE HEVP HD HRD
        rcases hN.2 with ⟨hn, hn0⟩ | ⟨g5, cap5, cur5, hn, hg5, _⟩
        · have hN0 : N = [] := List.eq_nil_of_length_eq_zero hn0
          subst hN0
          cases hn
          clear hN
          go_wp2_with (at_builtin; refine wpList_append_own_none rfl _ _ 28 rfl w3.heap.size 41 i41 2 und28 hi _ _ _ rfl HEV5.out rfl ?_)
          go_wp2_with fail
          go_roundw
          case rel => exact ⟨t, j + 1, rfl, by go_num, htb, by omega, Lib.hid ⟨hv5, E, by rw [HRUN.out, List.append_nil], HEV5.out, HRD5.out, HD5.out⟩, B5⟩
          case measure => simp [intOf]; omega
        · cases hn
          have hcells := fun j u (hj : (N.flatMap evC)[j]? = some u) => World.ownsRow.cells hN rfl j u hj
          clear hN
          go_wp2_with (at_builtin; refine wpList_append_own_at _ rfl _ _ 28 rfl w3.heap.size 41 i41 (.agg #[.string ⟨#[]⟩, .int .i64 0]) 2 24 und28 hi hz0 hz1 hz2 rfl (by decide) _ _ _ rfl HEV5.out ⟨g5, 0, none⟩ N.length cn (N.flatMap evC) rfl ?c1 hcells ?c2 ?c3 ?c4 ?c5 ?_)
          case c1 => simpa using evC_len N
          case c2 => first | exact evC_one N | (intro u x hx hu; exact evC_two x u hu) | (intro u x y _ hu; exact evC_two (x, y) u hu)
          case c3 => unfold maxLen; omega
          case c4 => omega
          case c5 => exact hs5
          intro v7 w7 hown hgrow _ hat7
          have O7 : Hid (EvsAt w3.heap.size w7 v7 (E ++ N)) := Lib.hid (by unfold EvsAt; rw [List.length_append, List.flatMap_append]; exact hown)
          obtain ⟨hrd7, hdis7⟩ := turn_grow HRD5.out HD5.out hgrow hat7
          have HT7 : Hid (Turn w3.heap.size b v7 t w7) := Lib.hid ⟨hv5, _, HRUN.out, O7.out, hrd7, hdis7⟩
          have B7 : Hid (Below w3.heap.size w3 w7) := Lib.hid (B5.out.grown hgrow hs5 (fun k e => (HEV5.out.lt k e).1))
          clear hown hgrow hat7 hrd7 hdis7 hcells O7
          go_wp2_with fail
          go_roundw
          case rel => exact ⟨t, j + 1, rfl, by go_num, htb, by omega, HT7, B7⟩
          case measure => simp [intOf]; omega
      · have HX : Hid (k < b.length → j = cuts.length) := Lib.hid fun h => by omega
        obtain ⟨hv, E, hE, hev, hrd, hdis⟩ := HQ.out
        have HE := Lib.hid hE
        have HEVP := Lib.hid hev
        have HRD := Lib.hid hrd
        have HD := Lib.hid hdis
        obtain ⟨pp, cp, rfl⟩ := evs_shape hev
        clear hE hev hrd hdis HQ
        have hfeed := fun cvx (hch : Chunk2 wr cvx (b.drop k)) => feed_next w3.heap.size wr w3.heap.size (b.take k) (hT.1.below HBW.out) (Nat.le_trans hT.2 hs3) hsr hv HRD.out cvx (b.drop k) hch (by rw [List.length_drop, List.length_take]; omega)
        rw [List.take_append_drop, HE.out, HEV.out] at hfeed
        have HBr := Lib.hid (HBV.out.below HBW.out)
        have fin : ∀ (e : Ending) w5, (∃ v N hv', e = Ending.returned (.tuple #[v, .int .i64 0]) ∧ EvsAt wr.heap.size w5 v N ∧ EV = E ++ N ∧
            RdV w3.heap.size w5 w3.heap.size (runA .head b).2.2 (b.drop (runA .head b).1) hv' ∧ Kept w3.heap.size hv.ownBlock wr w5 ∧ ∀ k, hv'.ownBlock = some k → hv.ownBlock = some k ∨ wr.heap.size ≤ k) →
            ∃ v N, e = Ending.returned (.tuple #[v, .int .i64 0]) ∧ Hid (EvsAt wr.heap.size w5 v N) ∧ Hid (EV = E ++ N) ∧ Hid (EvsAt w3.heap.size w5 (.slice pp E.length cp) E) ∧ Hid (Below w3.heap.size w3 w5) := by
          rintro e w5 ⟨v, N, hv5, he, hN, hrun, _, hkept, hat⟩
          exact ⟨v, N, he, Lib.hid hN, Lib.hid hrun, Lib.hid (turn_feed HEVP.out HD.out hkept hat).1, Lib.hid (HB.out.trans (hkept.below (Nat.le_refl _) (fun k e => (HRD.out.o.lt k e).1) hsr))⟩
        rcases (by omega : j = cuts.length ∨ (j < cuts.length ∧ k = b.length)) with rfl | ⟨hj1, hkb⟩
        · have hx1 : ¬ (cuts.length : Int) < (cuts.length : Int) := by omega
          go_upto_region 18 with fail
          go_cut [6, 14] (fun e l wx => ∃ N pn cn, l = .slice pn N.length cn ∧ e = .int .i64 0 ∧ Hid (EvsAt wr.heap.size wx (.slice pn N.length cn) N) ∧ Hid (EV = E ++ N) ∧ Hid (EvsAt w3.heap.size wx (.slice pp E.length cp) E) ∧ Hid (Below w3.heap.size w3 wx))
          case first =>
            rcases HBr.out with ⟨e1, e2⟩ | ⟨ad, cap, e1, e2⟩ | ⟨g, o, cap, e1, hcap, h3, hl⟩
            · subst e2
              obtain rfl : k = 0 := by simpa using hk
              injection e1 with a1 a2 a3
              subst a1 a3
              simp only [List.length_nil]
              go_wp2_with fail
              refine (hfeed _ (.inl ⟨rfl, rfl⟩)).mono ?_
              intro e w5 h
              obtain ⟨v, N, rfl, f1, f2, f3, f4⟩ := fin e w5 h
              obtain ⟨pn, cn, rfl⟩ := evs_shape f1.out
              go_wp2_with fail
              go_meet
              case rel => exact ⟨N, pn, cn, rfl, rfl, f1, f2, f3, f4⟩
            · subst e2
              obtain rfl : k = 0 := by simpa using hk
              injection e1 with a1 a2 a3
              subst a1 a3
              simp only [List.length_nil]
              by_cases hck : cb = 0
              · subst hck
                go_wp2_with fail
                refine (hfeed _ (.inr ⟨_, _, rfl, fun j u hj => by simp at hj⟩)).mono ?_
                intro e w5 h
                obtain ⟨v, N, rfl, f1, f2, f3, f4⟩ := fin e w5 h
                obtain ⟨pn, cn, rfl⟩ := evs_shape f1.out
                go_wp2_with fail
                go_meet
                case rel => exact ⟨N, pn, cn, rfl, rfl, f1, f2, f3, f4⟩
              · have hq : (cb = 0) = False := eq_false hck
                go_wp2_with fail
                refine (hfeed _ (.inr ⟨_, _, rfl, fun j u hj => by simp at hj⟩)).mono ?_
                intro e w5 h
                obtain ⟨v, N, rfl, f1, f2, f3, f4⟩ := fin e w5 h
                obtain ⟨pn, cn, rfl⟩ := evs_shape f1.out
                go_wp2_with fail
                go_meet
                case rel => exact ⟨N, pn, cn, rfl, rfl, f1, f2, f3, f4⟩
            · cases e1
              have HL := Lib.hid hl
              clear hl
              by_cases hck : cb = k
              · have hq : (cb = k) = True := eq_true hck
                have hbk : b.length ≤ k := by omega
                clear hck
                go_wp2_with fail
                refine (hfeed _ (chunk_end0 hbk)).mono ?_
                intro e w5 h
                obtain ⟨v, N, rfl, f1, f2, f3, f4⟩ := fin e w5 h
                obtain ⟨pn, cn, rfl⟩ := evs_shape f1.out
                go_wp2_with fail
                go_meet
                case rel => exact ⟨N, pn, cn, rfl, rfl, f1, f2, f3, f4⟩
              · have hq : (cb = k) = False := eq_false hck
                clear hck
                go_wp2_with fail
                refine (hfeed _ (chunk_drop HL.out)).mono ?_
                intro e w5 h
                obtain ⟨v, N, rfl, f1, f2, f3, f4⟩ := fin e w5 h
                obtain ⟨pn, cn, rfl⟩ := evs_shape f1.out
                go_wp2_with fail
                go_meet
                case rel => exact ⟨N, pn, cn, rfl, rfl, f1, f2, f3, f4⟩
          case rest =>
            obtain ⟨N, pn, cn, rfl, rfl, HN, HRUN, HE5, B5⟩ := hcut
            have hs5 := B5.out.size
            have hNl : E.length + N.length ≤ 3000000 := by have := congrArg List.length HRUN.out; rw [List.length_append] at this; omega
            clear hfeed fin
            go_wp2_with (at_builtin; refine wpList_append_evs (by first | rfl | simp [go_sem, Region.wanted, yielded]) _ _ (by rfl) w3.heap.size wr.heap.size _ _ E N (by rfl) (by rfl) HE5.out HN.out hNl hs5 ?_)
            rw [← HRUN.out]
            intro v7 w7 hown hb7
            have O7 := Lib.hid hown
            have B7 := Lib.hid (B5.out.trans (hb7.mono (Nat.le_refl _)))
            clear hown hb7
            have hk1 := back_any _ w7 v7 EV O7.out (by omega)
            go_wp2_with fail
            refine hk1.mono ?_
            rintro e w8 ⟨r1, rfl, hr1, hb8⟩
            have B8 := Lib.hid (B7.out.trans (hb8.mono B7.out.size))
            have hk2 := back_any _ w8 _ EV (owns_below HEW.out B8.out) (by omega)
            have HR1 := Lib.hid hr1
            clear hk1 hr1 hb8
            go_wp2_with fail
            refine hk2.mono ?_
            rintro e w9 ⟨r2, rfl, hr2, hb9⟩
            have B9 := Lib.hid (B8.out.trans (hb9.mono B8.out.size))
            have hk3 := same_any _ _ w9 r1 r2 EV (owns_below HR1.out hb9) hr2 (by omega)
            clear hk2 hr2 hb9
            go_wp2_with fail
            refine hk3.mono ?_
            rintro e w10 ⟨rfl, hb10⟩
            have B10 := Lib.hid (B3.out.trans ((B9.out.trans (hb10.mono B9.out.size)).mono hs3))
            clear hk3 hb10
            go_wp2_with fail
            go_ret
            exact ⟨rfl, B10.out⟩
        · have hx1 : ¬ (k : Int) < (b.length : Int) := by omega
          have hx2 : (j : Int) < (cuts.length : Int) := by omega
          clear hkb
          go_upto_region 18 with fail
          go_cut [6, 14] (fun e l wx => ∃ N pn cn, l = .slice pn N.length cn ∧ e = .int .i64 0 ∧ Hid (EvsAt wr.heap.size wx (.slice pn N.length cn) N) ∧ Hid (EV = E ++ N) ∧ Hid (EvsAt w3.heap.size wx (.slice pp E.length cp) E) ∧ Hid (Below w3.heap.size w3 wx))
          case first =>
            rcases HBr.out with ⟨e1, e2⟩ | ⟨ad, cap, e1, e2⟩ | ⟨g, o, cap, e1, hcap, h3, hl⟩
            · subst e2
              obtain rfl : k = 0 := by simpa using hk
              injection e1 with a1 a2 a3
              subst a1 a3
              simp only [List.length_nil]
              go_wp2_with fail
              refine (hfeed _ (.inl ⟨rfl, rfl⟩)).mono ?_
              intro e w5 h
              obtain ⟨v, N, rfl, f1, f2, f3, f4⟩ := fin e w5 h
              obtain ⟨pn, cn, rfl⟩ := evs_shape f1.out
              go_wp2_with fail
              go_meet
              case rel => exact ⟨N, pn, cn, rfl, rfl, f1, f2, f3, f4⟩
            · subst e2
              obtain rfl : k = 0 := by simpa using hk
              injection e1 with a1 a2 a3
              subst a1 a3
              simp only [List.length_nil]
              by_cases hck : cb = 0
              · subst hck
                go_wp2_with fail
                refine (hfeed _ (.inr ⟨_, _, rfl, fun j u hj => by simp at hj⟩)).mono ?_
                intro e w5 h
                obtain ⟨v, N, rfl, f1, f2, f3, f4⟩ := fin e w5 h
                obtain ⟨pn, cn, rfl⟩ := evs_shape f1.out
                go_wp2_with fail
                go_meet
                case rel => exact ⟨N, pn, cn, rfl, rfl, f1, f2, f3, f4⟩
              · have hq : (cb = 0) = False := eq_false hck
                go_wp2_with fail
                refine (hfeed _ (.inr ⟨_, _, rfl, fun j u hj => by simp at hj⟩)).mono ?_
                intro e w5 h
                obtain ⟨v, N, rfl, f1, f2, f3, f4⟩ := fin e w5 h
                obtain ⟨pn, cn, rfl⟩ := evs_shape f1.out
                go_wp2_with fail
                go_meet
                case rel => exact ⟨N, pn, cn, rfl, rfl, f1, f2, f3, f4⟩
            · cases e1
              have HL := Lib.hid hl
              clear hl
              by_cases hck : cb = k
              · have hq : (cb = k) = True := eq_true hck
                have hbk : b.length ≤ k := by omega
                clear hck
                go_wp2_with fail
                refine (hfeed _ (chunk_end0 hbk)).mono ?_
                intro e w5 h
                obtain ⟨v, N, rfl, f1, f2, f3, f4⟩ := fin e w5 h
                obtain ⟨pn, cn, rfl⟩ := evs_shape f1.out
                go_wp2_with fail
                go_meet
                case rel => exact ⟨N, pn, cn, rfl, rfl, f1, f2, f3, f4⟩
              · have hq : (cb = k) = False := eq_false hck
                clear hck
                go_wp2_with fail
                refine (hfeed _ (chunk_drop HL.out)).mono ?_
                intro e w5 h
                obtain ⟨v, N, rfl, f1, f2, f3, f4⟩ := fin e w5 h
                obtain ⟨pn, cn, rfl⟩ := evs_shape f1.out
                go_wp2_with fail
                go_meet
                case rel => exact ⟨N, pn, cn, rfl, rfl, f1, f2, f3, f4⟩
          case rest =>
            obtain ⟨N, pn, cn, rfl, rfl, HN, HRUN, HE5, B5⟩ := hcut
            have hs5 := B5.out.size
            have hNl : E.length + N.length ≤ 3000000 := by have := congrArg List.length HRUN.out; rw [List.length_append] at this; omega
            clear hfeed fin
            go_wp2_with (at_builtin; refine wpList_append_evs (by first | rfl | simp [go_sem, Region.wanted, yielded]) _ _ (by rfl) w3.heap.size wr.heap.size _ _ E N (by rfl) (by rfl) HE5.out HN.out hNl hs5 ?_)
            rw [← HRUN.out]
            intro v7 w7 hown hb7
            have O7 := Lib.hid hown
            have B7 := Lib.hid (B5.out.trans (hb7.mono (Nat.le_refl _)))
            clear hown hb7
            have hk1 := back_any _ w7 v7 EV O7.out (by omega)
            go_wp2_with fail
            refine hk1.mono ?_
            rintro e w8 ⟨r1, rfl, hr1, hb8⟩
            have B8 := Lib.hid (B7.out.trans (hb8.mono B7.out.size))
            have hk2 := back_any _ w8 _ EV (owns_below HEW.out B8.out) (by omega)
            have HR1 := Lib.hid hr1
            clear hk1 hr1 hb8
            go_wp2_with fail
            refine hk2.mono ?_
            rintro e w9 ⟨r2, rfl, hr2, hb9⟩
            have B9 := Lib.hid (B8.out.trans (hb9.mono B8.out.size))
            have hk3 := same_any _ _ w9 r1 r2 EV (owns_below HR1.out hb9) hr2 (by omega)
            clear hk2 hr2 hb9
            go_wp2_with fail
            refine hk3.mono ?_
            rintro e w10 ⟨rfl, hb10⟩
            have B10 := Lib.hid (B3.out.trans ((B9.out.trans (hb10.mono B9.out.size)).mono hs3))
            clear hk3 hb10
            go_wp2_with fail
            go_ret
            exact ⟨rfl, B10.out⟩
end Go.Proofs.YtmchldenibpmeaaDoor
