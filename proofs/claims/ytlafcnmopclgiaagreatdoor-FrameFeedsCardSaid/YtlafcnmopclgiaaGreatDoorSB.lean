/-
  Feed, told closer still: what the reader held before lies where it lay; a copy's Feed; Copy.
-/
import Derived.Test.YtlafcnmopclgiaaGreatDoorSA
import Derived.BigRegion
namespace Go.Proofs.YtlafcnmopclgiaaGreatDoor
open Go.RowKit Go.Shelf

theorem Stays.of {B e n : Nat} {v : Value} {xs : List Value} {w : World} (h : w.ownsRow B e 1 v n xs) : Stays v xs w := fun _ hg j u hj => World.ownsRow.cells h hg j u hj
theorem Stays.set {b o : Nat} {v x : Value} {xs : List Value} {w : World} (h : Stays v xs w) (hb : v.ownBlock ≠ some b) : Stays v xs (w.setCell ⟨b, o, none⟩ x) := fun g hg j u hj => by
  have := h g hg j u hj
  rw [addr_add] at this ⊢
  exact (World.cell?_of_block (Below.heap_setCell w ⟨b, o, none⟩ x g (fun e => hb (by rw [← show g = b from e]; exact hg)))).trans this
theorem Stays.but {b : Nat} {v : Value} {xs : List Value} {w w' : World} (h : Stays v xs w) (hb : v.ownBlock ≠ some b) (hw : But b w w') : Stays v xs w' := fun g hg j u hj => by
  have := h g hg j u hj
  rw [addr_add] at this ⊢
  exact (World.cell?_of_block (hw.block g (World.block_lt_of_cell? w _ this) (fun e => hb (by rw [← e]; exact hg)))).trans this
def FeedEnd3 (B b : Nat) (m : Mode) (l : List UInt8) (hv : Value) (l0 : List UInt8) (w : World) (e : Ending) (w' : World) : Prop :=
  ∃ v hv', e = .returned (.tuple #[v, .int .i64 0]) ∧ EvsAt w.heap.size w' v (runA m l).2.1 ∧ RdV B w' b (runA m l).2.2 (l.drop (runA m l).1) hv' ∧ Kept b hv.ownBlock w w' ∧ (∀ k, hv'.ownBlock = some k → hv.ownBlock = some k ∨ w.heap.size ≤ k) ∧ Stays hv (l0.map byV) w'
set_option maxRecDepth 100000 in
set_option maxHeartbeats 4000000 in
theorem feed_keep (B : Nat) (w : World) (b : Nat) (m : Mode) (l : List UInt8) (hT : Tab w) (h11 : 11 ≤ B) (hBw : B ≤ w.heap.size) (hv : Value) (hR : RdV B w b m l hv) (cv : Value) (c : List UInt8) (hc : Chunk2 w cv c) (hz : l.length + c.length ≤ 1000000) :
    Calls Tryz.prog 8 #[.pointer (some ⟨b, 0, none⟩), cv] w (FeedEnd3 B b m (l ++ c) hv l w) := by
  have hmf := makeFunc_run
  have heq2 := eq_fn_nil
  obtain ⟨i5, hi, hz0, hz1, hz2⟩ := info_parts info5
  obtain ⟨hr, ho, hne, hBb, hnil⟩ := hR
  obtain ⟨f2, n2, hf2⟩ := fn_shape m
  have hbw := hr.lt
  have HR := Lib.hid hr
  have HO := Lib.hid ho
  obtain ⟨p0, cp0, rfl⟩ := owns_shape ho
  obtain ⟨x0, x1, xf⟩ := hr.cells
  rw [hf2] at x1
  clear hr ho
  unfold FeedEnd3
  go_enter Tryz.func8, Tryz.ntmps8
  go_upto_region 5 with fail
  go_cut [] (fun wx => ∃ hv1, Hid (RdV B wx b m (l ++ c) hv1) ∧ Hid (Kept b (Value.slice p0 l.length cp0).ownBlock w wx) ∧ Hid (∀ k, hv1.ownBlock = some k → (Value.slice p0 l.length cp0).ownBlock = some k ∨ w.heap.size ≤ k) ∧ Hid (Stays (Value.slice p0 l.length cp0) (l.map byV) wx))
  case first =>
    rcases hc with ⟨rfl, rfl⟩ | ⟨ad, cap, rfl, hcl⟩
    · go_wp2_with (at_builtin; refine wpList_append_own_none rfl _ _ 30 rfl B 5 i5 1 u31 hi _ _ _ rfl HO.out rfl ?_)
      go_wp2_with fail
      go_meet
      case rel => exact ⟨_, Lib.hid ⟨HR.out.set0 _, by rw [List.append_nil]; exact owns_set HO.out hne, hne, hBb, hnil⟩, Lib.hid ((Kept.refl b _ w).set 0 _), Lib.hid (fun k e => .inl e), Lib.hid ((Stays.of HO.out).set hne)⟩
    · go_wp2_with (at_builtin; refine wpList_append_keep _ rfl _ _ 30 rfl B 5 i5 (.int .u8 0) 1 1 u31 hi hz0 hz1 hz2 rfl (by decide) _ _ _ rfl HO.out ad c.length cap (c.map byV) rfl ?c1 hcl ?c2 ?c3 ?c4 ?c5 ?_)
      case c1 => simp
      case c2 => have := byV_one c; simpa using this
      case c3 => unfold maxLen; omega
      case c4 => omega
      case c5 => omega
      intro v' w1 hown hgrow hnl hat hst
      have HST := Lib.hid hst
      clear hst
      have hobw : ∀ k, (Value.slice p0 l.length cp0).ownBlock = some k → B ≤ k ∧ k < w.heap.size := fun k e => HO.out.lt k e
      have hr1 : RCell w1 b _ m := (hgrow.block b hbw (fun e => hne e.symm)).trans HR.out
      have hne1 : v'.ownBlock ≠ some b := fun e => by
        have h1 := (hown.lt b e).1
        rcases hown.2 with ⟨rfl, _⟩ | ⟨g1, cap1, cur1, rfl, _, h5, _⟩
        · simp [Value.ownBlock] at e
        · have e' : g1 = b := by simpa [Value.ownBlock] using e
          rw [e'] at h5
          have h6 : w1.heap[b]? = some (.cells #[Value.slice p0 l.length cp0, fnOf m] 48 (0, 0)) := hr1
          rw [h6] at h5
          cases h5
      obtain ⟨p1, cp1, rfl⟩ := owns_shape hown
      have H1 := Lib.hid hr1
      have O1 : Hid (w1.ownsRow B 5 1 (.slice p1 (l.length + c.length) cp1) (l ++ c).length ((l ++ c).map byV)) := Lib.hid (by rw [List.length_append, List.map_append]; exact hown)
      have B1 : Hid (Kept b (Value.slice p0 l.length cp0).ownBlock w w1) := Lib.hid (Kept.grown hgrow)
      have HAT : Hid (∀ k, (Value.slice p1 (l.length + c.length) cp1).ownBlock = some k → (Value.slice p0 l.length cp0).ownBlock = some k ∨ w.heap.size ≤ k) := Lib.hid fun k e => by
        rcases hat with h | h
        · rw [e] at h; exact .inl h.symm
        · rw [e] at h; cases h; exact .inr (Nat.le_refl _)
      have HNL : Hid (Value.slice p1 (l.length + c.length) cp1 = .slice none 0 0 → m = .head) := Lib.hid fun e => hnil (by obtain ⟨a1, a2, a3⟩ := (hnl.1 e).1; rw [a1, a2, a3]; rfl)
      obtain ⟨y0, y1, yf⟩ := hr1.cells
      clear hown hgrow hnl hr1 hat
      go_wp2_with fail
      go_meet
      case rel => exact ⟨_, Lib.hid ⟨H1.out.set0 _, owns_set O1.out hne1, hne1, hBb, HNL.out⟩, Lib.hid (B1.out.set 0 _), HAT, Lib.hid (HST.out.set hne)⟩
  case rest =>
    obtain ⟨hv, HRd, HBx, HAT, HST⟩ := hcut
    obtain ⟨hr, ho, hne2, _, hnil2⟩ := HRd.out
    have hTc := hT.low h11 (HBx.out.below hBb (fun k e => (HO.out.lt k e).1) hBw)
    have hBc := HBx.out.size
    have hLL : (l ++ c).length ≤ 1000000 := by rw [List.length_append]; exact hz
    clear hc HR HO x0 x1 xf
    obtain ⟨LC, hLC⟩ : ∃ x, l ++ c = x := ⟨_, rfl⟩
    rw [hLC] at ho hLL
    rcases owns_bytes ho with ⟨rfl, hl0⟩ | ⟨g, cap, rfl, hcap, hlies, hBg, hgw⟩
    · have hm := hnil2 rfl
      subst hm
      subst hl0
      have hd := divide_nil wc b hr
      go_wp2_with fail
      refine hd.mono ?_
      rintro e w3 ⟨rfl, hb3⟩
      have HB3 := Lib.hid hb3
      clear hb3 hd
      go_wp2_with fail
      go_ret2
      rw [hLC, runA_nil]
      exact ⟨.slice none 0 0, _, rfl, evs_none _ _, ⟨hr.below HB3.out, World.ownsRow_nil _ _ _ _, hne2, hBb, fun _ => rfl⟩, HBx.out.but (But.of HB3.out), HAT.out, HST.out.but hne (But.of HB3.out)⟩
    · have hgb : g ≠ b := fun e => hne2 (by rw [e]; rfl)
      have hd := divide_any wc hTc (by omega) b g cap m LC (by omega) hr hlies hgb hcap hLL
      have hUle := runA_used _ m LC (Nat.lt_succ_self _)
      obtain ⟨RR, hRR⟩ : ∃ x, runA m LC = x := ⟨_, rfl⟩
      rw [hRR] at hd hUle
      obtain ⟨U, EV, M2⟩ := RR
      simp only at hd hUle
      have HL := Lib.hid hlies
      have HOw := Lib.hid ho
      clear hlies ho hTc
      go_wp2_with fail
      refine hd.mono ?_
      rintro e w3 ⟨ve, rfl, hev, hr3, hbt⟩
      have HEV := Lib.hid hev
      have hs3 := hbt.size
      have HB3 : Hid (Kept b (Value.slice p0 l.length cp0).ownBlock w w3) := Lib.hid (HBx.out.but hbt)
      have HS3 := Lib.hid (HST.out.but hne hbt)
      have HL3 := Lib.hid (HL.out.but hbt hgb)
      have HO3 := Lib.hid (owns_but HOw.out hne2 hbt)
      obtain ⟨pe, cpe, rfl⟩ := evs_shape hev
      obtain ⟨y0, y1, yf⟩ := hr3.cells
      have hbw3 := hr3.lt
      clear hev hd hbt
      by_cases hU : U = 0
      · subst hU
        go_wp2_with fail
        go_ret2
        rw [hLC, hRR]
        exact ⟨_, _, rfl, owns_base HEV.out (by omega), ⟨hr3, by rw [List.drop_zero]; exact HO3.out, hne2, hBb, fun e => by cases e⟩, HB3.out, HAT.out, HS3.out⟩
      · have hU' : (0 : Int) < (U : Int) := by omega
        have hUi : (U : Int) ≤ (LC.length : Int) := by omega
        obtain ⟨o, h1, h2, h3⟩ := rest_slice g cap U LC hUle hcap w3 HL3.out
        have hcl := clone_any w3 g o (cap - U) (LC.drop U) h3 (by rw [List.length_drop]; omega)
        rw [← h1] at hcl
        clear h1 h2 h3
        by_cases hck : cap = U
        · have hq : (cap = U) = True := eq_true hck
          clear hck
          simp only [hq, if_true] at hcl
          go_wp2_with fail
          refine hcl.mono ?_
          rintro e w4 ⟨v4, rfl, ho4, hn4, hb4⟩
          obtain ⟨p4, cp4, hv4⟩ := owns_shape ho4
          rw [List.length_drop] at hv4
          subst hv4
          have HO4 := Lib.hid ho4
          have HB4 := Lib.hid hb4
          have hr4 := hr3.below hb4
          have HR4 := Lib.hid hr4
          obtain ⟨z0, z1, zf⟩ := hr4.cells
          have hbo : (Value.slice p4 (LC.length - U) cp4).ownBlock ≠ some b := fun e => by
            have := (HO4.out.lt b e).1; omega
          clear ho4 hb4 hr4
          go_wp2_with fail
          go_ret2
          rw [hLC, hRR]
          refine ⟨_, _, rfl, ?_, ⟨HR4.out.set0 _, owns_set (owns_base HO4.out (by omega)) hbo, hbo, hBb, fun e => absurd e hn4⟩, ?_, ?_, (HS3.out.but hne (But.of HB4.out)).set hne⟩
          · exact evs_keep HEV.out (by omega) fun g' hg _ => by
              rw [Below.heap_setCell _ ⟨b, 0, none⟩ _ _ (by simp; omega)]
              exact HB4.out.block g' (by omega)
          · exact (HB3.out.but (But.of HB4.out)).set 0 _
          · exact fun k e => .inr (by have := (HO4.out.lt k e).1; omega)
        · have hq : (cap = U) = False := eq_false hck
          clear hck
          simp only [hq, if_false] at hcl
          go_wp2_with fail
          refine hcl.mono ?_
          rintro e w4 ⟨v4, rfl, ho4, hn4, hb4⟩
          obtain ⟨p4, cp4, hv4⟩ := owns_shape ho4
          rw [List.length_drop] at hv4
          subst hv4
          have HO4 := Lib.hid ho4
          have HB4 := Lib.hid hb4
          have hr4 := hr3.below hb4
          have HR4 := Lib.hid hr4
          obtain ⟨z0, z1, zf⟩ := hr4.cells
          have hbo : (Value.slice p4 (LC.length - U) cp4).ownBlock ≠ some b := fun e => by
            have := (HO4.out.lt b e).1; omega
          clear ho4 hb4 hr4
          go_wp2_with fail
          go_ret2
          rw [hLC, hRR]
          refine ⟨_, _, rfl, ?_, ⟨HR4.out.set0 _, owns_set (owns_base HO4.out (by omega)) hbo, hbo, hBb, fun e => absurd e hn4⟩, ?_, ?_, (HS3.out.but hne (But.of HB4.out)).set hne⟩
          · exact evs_keep HEV.out (by omega) fun g' hg _ => by
              rw [Below.heap_setCell _ ⟨b, 0, none⟩ _ _ (by simp; omega)]
              exact HB4.out.block g' (by omega)
          · exact (HB3.out.but (But.of HB4.out)).set 0 _
          · exact fun k e => .inr (by have := (HO4.out.lt k e).1; omega)
end Go.Proofs.YtlafcnmopclgiaaGreatDoor
