/-
  A reader that is handed chunks: New, Feed.
-/
import Derived.Test.YtlafcnmopclgiaaGreatDoorI
import Derived.Test.YtlafcnmopclgiaaGreatDoorFB
namespace Go.Proofs.YtlafcnmopclgiaaGreatDoor
open Go.RowKit Go.Shelf

def byV (c : UInt8) : Value := .int .u8 c.toNat
theorem byV_get (l : List UInt8) (j : Nat) (h : j < l.length) : (l.map byV)[j]? = some (.int .u8 (l.getD j 0).toNat) := by
  rw [List.getElem?_map, List.getElem?_eq_getElem h, getD_get h]; rfl
theorem owns_bytes {B : Nat} {w : World} {v : Value} {l : List UInt8} (h : w.ownsRow B 5 1 v l.length (l.map byV)) :
    (v = .slice none 0 0 ∧ l = []) ∨ ∃ g cap, v = .slice (some ⟨g, 0, none⟩) l.length cap ∧ l.length ≤ cap ∧ Lies w g 0 l ∧ B ≤ g ∧ g < w.heap.size := by
  have hl := h.lt
  have hc := fun g (hg : v.ownBlock = some g) => World.ownsRow.cells h hg
  rcases h.2 with ⟨h2, h3⟩ | ⟨g, cap, cur, rfl, h4, h5, h6, _⟩
  · exact .inl ⟨h2, List.eq_nil_of_length_eq_zero h3⟩
  · refine .inr ⟨g, cap, rfl, h6, fun i hi => ?_, h4, (hl g rfl).2⟩
    have := hc g rfl i _ (byV_get l i hi)
    rw [addr_add] at this; exact this
theorem owns_set {B b e size n o : Nat} {v x : Value} {xs : List Value} {w : World} (h : w.ownsRow B e size v n xs) (hb : v.ownBlock ≠ some b) : (w.setCell ⟨b, o, none⟩ x).ownsRow B e size v n xs := by
  obtain ⟨h1, h2⟩ := h
  refine ⟨h1, ?_⟩
  rcases h2 with h2 | ⟨g, cap, cur, rfl, h4, h5, h6⟩
  · exact .inl h2
  · exact .inr ⟨g, cap, cur, rfl, h4, (Below.heap_setCell w ⟨b, o, none⟩ x g (fun e => hb (by rw [show g = b from e]; rfl))).trans h5, h6⟩
theorem owns_but {B b e size n : Nat} {v : Value} {xs : List Value} {w w' : World} (h : w.ownsRow B e size v n xs) (hb : v.ownBlock ≠ some b) (hw : But b w w') : w'.ownsRow B e size v n xs := by
  obtain ⟨h1, h2⟩ := h
  refine ⟨h1, ?_⟩
  rcases h2 with h2 | ⟨g, cap, cur, rfl, h4, h5, h6⟩
  · exact .inl h2
  · exact .inr ⟨g, cap, cur, rfl, h4, (hw.block g (Array.getElem?_eq_some_iff.1 h5).1 (fun e => hb (by rw [e]; rfl))).trans h5, h6⟩
/-- A reader lies at b, with what it holds, and its next operation; its memory is not below B. -/
def Rd (B : Nat) (w : World) (b : Nat) (m : Mode) (l : List UInt8) : Prop :=
  ∃ hv, RCell w b hv m ∧ w.ownsRow B 5 1 hv l.length (l.map byV) ∧ hv.ownBlock ≠ some b ∧ B ≤ b ∧ (hv = .slice none 0 0 → m = .head)
/-- A chunk, as it is handed in. -/
def Chunk (w : World) (v : Value) (c : List UInt8) : Prop := (v = .slice none 0 0 ∧ c = []) ∨ ∃ g o cap, v = .slice (some ⟨g, o, none⟩) c.length cap ∧ Lies w g o c
theorem info5 : (Tryz.prog.info? 5).map (fun i => (i.zero, i.size, i.bytes)) = some (some (.int .u8 0), 1, 1) := by kernel_rfl
theorem new_any (w : World) : Calls Tryz.prog 6 #[] w fun e w' => e = .returned (.pointer (some ⟨w.heap.size, 0, none⟩)) ∧ Rd w.heap.size w' w.heap.size .head [] ∧ Below w.heap.size w w' := by
  have hmf := makeFunc_run
  obtain ⟨A, hv⟩ : ∃ A, w.alloc (.cells #[.slice none 0 0, .func (.func 13) #[.agg #[.int .i64 0]] #[]] 48) = A := ⟨_, rfl⟩
  have hb : Below w.heap.size w A := by rw [← hv]; exact galloc2 (Below.refl _ _) (Nat.le_refl _) _
  have hR : RCell A w.heap.size (.slice none 0 0) .head := by rw [← hv]; exact heap_alloc_new w _
  go_enter Tryz.func6, Tryz.ntmps6
  go_wp2
  go_ret
  exact ⟨rfl, ⟨_, hR, World.ownsRow_nil _ _ _ _, by simp [Value.ownBlock], Nat.le_refl _, fun _ => rfl⟩, hb⟩
theorem clone_any (w : World) (g o c : Nat) (l : List UInt8) (h : Lies w g o l) (hz : l.length ≤ 1000000) :
    Calls Tryz.prog 15 #[.slice (some ⟨g, o, none⟩) l.length c] w fun e w' => ∃ v', e = .returned v' ∧ w'.ownsRow w.heap.size 5 1 v' l.length (l.map byV) ∧ v' ≠ .slice none 0 0 ∧ Below w.heap.size w w' := by
  have h2 := Tryz.bytes_Clone_at ⟨g, o, none⟩ l.length c (nums l) w (nums_len l) (by omega) (fun i hi => by rw [addr_add, nums_get]; exact h i hi)
  have e : (nums l).map (Value.int .u8) = l.map byV := by unfold nums byV; rw [List.map_map]; rfl
  rw [e] at h2; exact h2
theorem Tab.low {w w' : World} {B : Nat} (h : Tab w) (h11 : 11 ≤ B) (hb : Below B w w') : Tab w' := by
  obtain ⟨h3, ⟨ev, h4, h5⟩, m, h6⟩ := h
  refine ⟨?_, ⟨ev, ?_, h5⟩, m, ?_⟩
  · unfold Lib.TabIs World.var? at h3 ⊢
    rw [show Tryz.prog.globalNamed "internal/strconv.uint64pow10" = some 4 by kernel_rfl] at h3 ⊢
    simp only [Option.bind_some] at h3 ⊢
    rw [hb.block 4 (by omega)]
    exact h3
  · exact (World.cell?_of_block (w := w) (hb.block 8 (by omega))).trans h4
  · exact (World.cell?_of_block (w := w) (hb.block 0 (by omega))).trans h6
theorem owns_base {B B' e size n : Nat} {v : Value} {xs : List Value} {w : World} (h : w.ownsRow B' e size v n xs) (hB : B ≤ B') : w.ownsRow B e size v n xs := by
  obtain ⟨h1, h2⟩ := h
  refine ⟨h1, ?_⟩
  rcases h2 with h2 | ⟨g, cap, cur, h3, h4, h5⟩
  · exact .inl h2
  · exact .inr ⟨g, cap, cur, h3, Nat.le_trans hB h4, h5⟩
/-- What a Feed does to a reader. -/
def FeedEnd (B b : Nat) (m : Mode) (l : List UInt8) (w : World) (e : Ending) (w' : World) : Prop :=
  ∃ v, e = .returned (.tuple #[v, .int .i64 0]) ∧ EvsAt w.heap.size w' v (runA m l).2.1 ∧ Rd B w' b (runA m l).2.2 (l.drop (runA m l).1) ∧ Below B w w'
theorem runA_used (k : Nat) : ∀ (m : Mode) (l : List UInt8), 2 * l.length + rank m < k → (runA m l).1 ≤ l.length := by
  induction k with
  | zero => intro m l h; omega
  | succ k ih =>
    intro m l h
    have hu := op_used m l
    rw [runA_step]
    generalize op m l = x at hu
    obtain ⟨u, e, n⟩ := x
    cases n with
    | none => exact hu.1
    | some m2 =>
      have h2 := hu.2 m2 rfl
      have := ih m2 (l.drop u) (by rw [List.length_drop]; simp only at h2; omega)
      rw [List.length_drop] at this
      simp only at hu ⊢
      omega
theorem news_lies {w : World} {g o : Nat} {c : List UInt8} (h : Lies w g o c) : ∀ (j : Nat) u, (c.map byV)[j]? = some u → w.cell? ((⟨g, o, none⟩ : Addr).add j) = some u := by
  intro j u hj
  rcases Nat.lt_or_ge j c.length with g1 | g1
  · rw [byV_get c j g1] at hj
    rw [addr_add, h j g1]; exact hj
  · rw [List.getElem?_eq_none (by simpa using g1)] at hj; cases hj
theorem byV_one (l : List UInt8) : ∀ u ∈ l.map byV, u.oneCell' = true := by
  intro u hu
  obtain ⟨c, _, rfl⟩ := List.mem_map.1 hu
  rfl
set_option maxRecDepth 100000 in
set_option maxHeartbeats 4000000 in
theorem feed_any (B : Nat) (w : World) (b : Nat) (m : Mode) (l : List UInt8) (hT : Tab w) (h11 : 11 ≤ B) (hBw : B ≤ w.heap.size) (hR : Rd B w b m l) (cv : Value) (c : List UInt8) (hc : Chunk w cv c) (hz : l.length + c.length ≤ 1000000) :
    Calls Tryz.prog 8 #[.pointer (some ⟨b, 0, none⟩), cv] w (FeedEnd B b m (l ++ c) w) := by
  have hmf := makeFunc_run
  have heq2 := eq_fn_nil
  obtain ⟨i5, hi, hz0, hz1, hz2⟩ := info_parts info5
  obtain ⟨hv, hr, ho, hne, hBb, hnil⟩ := hR
  obtain ⟨f2, n2, hf2⟩ := fn_shape m
  have hbw := hr.lt
  have HR := Lib.hid hr
  have HO := Lib.hid ho
  obtain ⟨p0, cp0, rfl⟩ := owns_shape ho
  obtain ⟨x0, x1, xf⟩ := hr.cells
  rw [hf2] at x1
  clear hr ho
  unfold FeedEnd
  go_enter Tryz.func8, Tryz.ntmps8
  go_upto_region 5 with fail
  go_cut [] (fun wx => Hid (Rd B wx b m (l ++ c)) ∧ Hid (Below B w wx))
  case first =>
    rcases hc with ⟨rfl, rfl⟩ | ⟨g, o, cap, rfl, hcl⟩
    · go_wp2_with (at_builtin; refine wpList_append_own_none rfl _ _ 30 rfl B 5 i5 1 u31 hi _ _ _ rfl HO.out rfl ?_)
      go_wp2_with fail
      go_meet
      case rel => exact ⟨Lib.hid ⟨_, HR.out.set0 _, by rw [List.append_nil]; exact owns_set HO.out hne, hne, hBb, hnil⟩, Lib.hid ((Below.refl B w).setCell (p := ⟨b, 0, none⟩) hBb _)⟩
    · go_wp2_with (at_builtin; refine wpList_append_own _ rfl _ _ 30 rfl B 5 i5 (.int .u8 0) 1 1 u31 hi hz0 hz1 hz2 rfl (by decide) _ _ _ rfl HO.out ⟨g, o, none⟩ c.length cap (c.map byV) rfl ?c1 (news_lies hcl) ?c2 ?c3 ?c4 ?c5 ?_)
      case c1 => simp
      case c2 => have := byV_one c; simpa using this
      case c3 => unfold maxLen; omega
      case c4 => omega
      case c5 => omega
      intro v' w1 hown hgrow hnl
      have hobw : ∀ k, (Value.slice p0 l.length cp0).ownBlock = some k → B ≤ k ∧ k < w.heap.size := fun k e => HO.out.lt k e
      have hr1 : RCell w1 b _ m := (hgrow.block b hbw (fun e => hne e.symm)).trans HR.out
      have hne1 : v'.ownBlock ≠ some b := fun e => by
        have h1 := (hown.lt b e).1
        rcases hown.2 with ⟨rfl, _⟩ | ⟨g1, cap1, cur1, rfl, _, h5, _⟩
        · simp [Value.ownBlock] at e
        · have e' : g1 = b := by simpa [Value.ownBlock] using e
          rw [e'] at h5
          have h6 : w1.heap[b]? = some (.cells #[Value.slice p0 l.length cp0, fnOf m] 48 (0, 0)) := hr1
          rw [h6] at h5
          cases h5
      obtain ⟨p1, cp1, rfl⟩ := owns_shape hown
      have H1 := Lib.hid hr1
      have O1 : Hid (w1.ownsRow B 5 1 (.slice p1 (l.length + c.length) cp1) (l ++ c).length ((l ++ c).map byV)) := Lib.hid (by rw [List.length_append, List.map_append]; exact hown)
      have B1 : Hid (Below B w w1) := Lib.hid ((Below.refl B w).grown hgrow hBw (fun k e => (hobw k e).1))
      have HNL : Hid (Value.slice p1 (l.length + c.length) cp1 = .slice none 0 0 → m = .head) := Lib.hid fun e => hnil (by obtain ⟨a1, a2, a3⟩ := (hnl.1 e).1; rw [a1, a2, a3]; rfl)
      obtain ⟨y0, y1, yf⟩ := hr1.cells
      clear hown hgrow hnl hr1
      go_wp2_with fail
      go_meet
      case rel => exact ⟨Lib.hid ⟨_, H1.out.set0 _, owns_set O1.out hne1, hne1, hBb, HNL.out⟩, Lib.hid (B1.out.setCell (p := ⟨b, 0, none⟩) hBb _)⟩
  case rest =>
    obtain ⟨HRd, HBx⟩ := hcut
    obtain ⟨hv, hr, ho, hne2, _, hnil2⟩ := HRd.out
    have hTc := hT.low h11 HBx.out
    have hBc := HBx.out.size
    have hLL : (l ++ c).length ≤ 1000000 := by rw [List.length_append]; exact hz
    clear hc HR HO x0 x1 xf
    obtain ⟨LC, hLC⟩ : ∃ x, l ++ c = x := ⟨_, rfl⟩
    rw [hLC] at ho hLL
    rcases owns_bytes ho with ⟨rfl, hl0⟩ | ⟨g, cap, rfl, hcap, hlies, hBg, hgw⟩
    · have hm := hnil2 rfl
      subst hm
      subst hl0
      have hd := divide_nil wc b hr
      go_wp2_with fail
      refine hd.mono ?_
      rintro e w3 ⟨rfl, hb3⟩
      have HB3 := Lib.hid hb3
      clear hb3 hd
      go_wp2_with fail
      go_ret2
      rw [hLC, runA_nil]
      exact ⟨.slice none 0 0, rfl, evs_none _ _, ⟨_, hr.below HB3.out, World.ownsRow_nil _ _ _ _, hne2, hBb, fun _ => rfl⟩, HBx.out.trans (HB3.out.mono (by omega))⟩
    · have hgb : g ≠ b := fun e => hne2 (by rw [e]; rfl)
      have hd := divide_any wc hTc (by omega) b g cap m LC (by omega) hr hlies hgb hcap hLL
      have hUle := runA_used _ m LC (Nat.lt_succ_self _)
      obtain ⟨RR, hRR⟩ : ∃ x, runA m LC = x := ⟨_, rfl⟩
      rw [hRR] at hd hUle
      obtain ⟨U, EV, M2⟩ := RR
      simp only at hd hUle
      have HL := Lib.hid hlies
      have HOw := Lib.hid ho
      clear hlies ho hTc
      go_wp2_with fail
      refine hd.mono ?_
      rintro e w3 ⟨ve, rfl, hev, hr3, hbt⟩
      have HEV := Lib.hid hev
      have hs3 := hbt.size
      have HB3 : Hid (Below B w w3) := Lib.hid (HBx.out.trans (hbt.below hBb (by omega)))
      have HL3 := Lib.hid (HL.out.but hbt hgb)
      have HO3 := Lib.hid (owns_but HOw.out hne2 hbt)
      obtain ⟨pe, cpe, rfl⟩ := evs_shape hev
      obtain ⟨y0, y1, yf⟩ := hr3.cells
      have hbw3 := hr3.lt
      clear hev hd hbt
      by_cases hU : U = 0
      · subst hU
        go_wp2_with fail
        go_ret2
        rw [hLC, hRR]
        exact ⟨_, rfl, owns_base HEV.out (by omega), ⟨_, hr3, by rw [List.drop_zero]; exact HO3.out, hne2, hBb, fun e => by cases e⟩, HB3.out⟩
      · have hU' : (0 : Int) < (U : Int) := by omega
        have hUi : (U : Int) ≤ (LC.length : Int) := by omega
        obtain ⟨o, h1, h2, h3⟩ := rest_slice g cap U LC hUle hcap w3 HL3.out
        have hcl := clone_any w3 g o (cap - U) (LC.drop U) h3 (by rw [List.length_drop]; omega)
        rw [← h1] at hcl
        clear h1 h2 h3
        by_cases hck : cap = U
        · have hq : (cap = U) = True := eq_true hck
          clear hck
          simp only [hq, if_true] at hcl
          go_wp2_with fail
          refine hcl.mono ?_
          rintro e w4 ⟨v4, rfl, ho4, hn4, hb4⟩
          obtain ⟨p4, cp4, hv4⟩ := owns_shape ho4
          rw [List.length_drop] at hv4
          subst hv4
          have HO4 := Lib.hid ho4
          have HB4 := Lib.hid hb4
          have hr4 := hr3.below hb4
          have HR4 := Lib.hid hr4
          obtain ⟨z0, z1, zf⟩ := hr4.cells
          have hbo : (Value.slice p4 (LC.length - U) cp4).ownBlock ≠ some b := fun e => by
            have := (HO4.out.lt b e).1; omega
          clear ho4 hb4 hr4
          go_wp2_with fail
          go_ret2
          rw [hLC, hRR]
          refine ⟨_, rfl, ?_, ⟨_, HR4.out.set0 _, owns_set (owns_base HO4.out (by omega)) hbo, hbo, hBb, fun e => absurd e hn4⟩, ?_⟩
          · exact evs_keep HEV.out (by omega) fun g' hg _ => by
              rw [Below.heap_setCell _ ⟨b, 0, none⟩ _ _ (by simp; omega)]
              exact HB4.out.block g' (by omega)
          · exact ((HB3.out.trans (HB4.out.mono (by omega))).setCell (p := ⟨b, 0, none⟩) hBb _)
        · have hq : (cap = U) = False := eq_false hck
          clear hck
          simp only [hq, if_false] at hcl
          go_wp2_with fail
          refine hcl.mono ?_
          rintro e w4 ⟨v4, rfl, ho4, hn4, hb4⟩
          obtain ⟨p4, cp4, hv4⟩ := owns_shape ho4
          rw [List.length_drop] at hv4
          subst hv4
          have HO4 := Lib.hid ho4
          have HB4 := Lib.hid hb4
          have hr4 := hr3.below hb4
          have HR4 := Lib.hid hr4
          obtain ⟨z0, z1, zf⟩ := hr4.cells
          have hbo : (Value.slice p4 (LC.length - U) cp4).ownBlock ≠ some b := fun e => by
            have := (HO4.out.lt b e).1; omega
          clear ho4 hb4 hr4
          go_wp2_with fail
          go_ret2
          rw [hLC, hRR]
          refine ⟨_, rfl, ?_, ⟨_, HR4.out.set0 _, owns_set (owns_base HO4.out (by omega)) hbo, hbo, hBb, fun e => absurd e hn4⟩, ?_⟩
          · exact evs_keep HEV.out (by omega) fun g' hg _ => by
              rw [Below.heap_setCell _ ⟨b, 0, none⟩ _ _ (by simp; omega)]
              exact HB4.out.block g' (by omega)
          · exact ((HB3.out.trans (HB4.out.mono (by omega))).setCell (p := ⟨b, 0, none⟩) hBb _)
end Go.Proofs.YtlafcnmopclgiaaGreatDoor
