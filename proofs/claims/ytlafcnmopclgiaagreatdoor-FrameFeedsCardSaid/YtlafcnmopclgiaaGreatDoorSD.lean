/-
  A copy's Feed: its row may be another reader's.
-/
import Derived.Test.YtlafcnmopclgiaaGreatDoorSC
namespace Go.Proofs.YtlafcnmopclgiaaGreatDoor
open Go.RowKit Go.Shelf

theorem wpList_append_zero {P : Program} {w : World} {ops : Array Oper} {rest : List Oper} {o : Oper} {ac : Act} {Q : Exit → Act → World → Prop} (hgd : o.guard = none) (s x : Operand) (t : TypeId)
    (ho : o.op = .call { callee := .builtin .append, args := #[s, x], argTypes := #[t, t] })
    (e : TypeId) (i : TypeInfo) (ht : P.underlying t = some (.slice e)) (hi : P.info? e = some i)
    (p : Option Addr) (n cap : Nat) (hn : n ≤ cap) (hs : ac.eval s = .slice p n cap) (q : Option Addr) (c : Nat) (hx : ac.eval x = .slice q 0 c)
    (h : wpList P ops Q rest (ac.put o.dst (.slice p n cap)) w) : wpList P ops Q (o :: rest) ac w := by
  refine wpList_plain hgd fun K hK => ?_
  have hsrc : Src P i.size t (.slice q 0 c) 0 [] w := by
    cases q with
    | none => exact Src.ofNil w ht c
    | some ad => exact Src.ofSlice w ht ad 0 c [] (by simp) (fun j u hj => by simp at hj) (fun u hu => by cases hu)
  have hr := run_append_nothing (P := P) w t t o.type e i ht hi p n cap hn (.slice q 0 c) hsrc
  unfold Oper.wp execOp
  simp only [ho, resolve, invoke, builtin, Sem.run_bind, Sem.run_pure, Result.andThen_ok, List.map_toArray, List.map_cons, List.map_nil, hs, hx, hr]
  exact hK _ _ h
/-- What a copy holds. -/
def HeldC (w : World) (b : Nat) (m : Mode) (l : List UInt8) (hv : Value) : Prop := (hv = .slice none 0 0 ∧ l = [] ∧ m = .head) ∨ ∃ g cap, hv = .slice (some ⟨g, 0, none⟩) l.length cap ∧ l.length ≤ cap ∧ Lies w g 0 l ∧ g ≠ b
theorem Lies.set {w : World} {b g o x : Nat} {l : List UInt8} {v : Value} (h : Lies w g o l) (hg : g ≠ b) : Lies (w.setCell ⟨b, x, none⟩ v) g o l := fun i hi =>
  (World.cell?_of_block (Below.heap_setCell w ⟨b, x, none⟩ v g hg)).trans (h i hi)
theorem lies_cells {w : World} {g : Nat} {l : List UInt8} (h : Lies w g 0 l) : ∀ (j : Nat) u, (l.map byV)[j]? = some u → w.cell? ((⟨g, 0, none⟩ : Addr).add j) = some u := news_lies h
def FeedEnd4 (b : Nat) (m : Mode) (l : List UInt8) (w : World) (e : Ending) (w' : World) : Prop := ∃ v, e = .returned (.tuple #[v, .int .i64 0]) ∧ EvsAt w.heap.size w' v (runA m l).2.1 ∧ But b w w'
set_option maxRecDepth 100000 in
set_option maxHeartbeats 4000000 in
theorem feed_copy (w : World) (b : Nat) (m : Mode) (l : List UInt8) (hT : Tab w) (h11 : 11 ≤ b) (hv : Value) (hr : RCell w b hv m)
    (hh : (hv = .slice none 0 0 ∧ l = [] ∧ m = .head) ∨ ∃ g, hv = .slice (some ⟨g, 0, none⟩) l.length l.length ∧ Lies w g 0 l ∧ g ≠ b) (cv : Value) (c : List UInt8) (hc : Chunk2 w cv c) (hz : l.length + c.length ≤ 1000000) :
    Calls Tryz.prog 8 #[.pointer (some ⟨b, 0, none⟩), cv] w (FeedEnd4 b m (l ++ c) w) := by
  have hmf := makeFunc_run
  have heq2 := eq_fn_nil
  obtain ⟨i5, hi, hz0, hz1, hz2⟩ := info_parts info5
  obtain ⟨f2, n2, hf2⟩ := fn_shape m
  have hbw := hr.lt
  have hbw11 : 11 ≤ w.heap.size := by omega
  have HR := Lib.hid hr
  obtain ⟨x0, x1, xf⟩ := hr.cells
  rw [hf2] at x1
  clear hr
  unfold FeedEnd4
  go_enter Tryz.func8, Tryz.ntmps8
  go_upto_region 5 with fail
  go_cut [] (fun wx => ∃ hv1, Hid (RCell wx b hv1 m) ∧ Hid (HeldC wx b m (l ++ c) hv1) ∧ Hid (But b w wx))
  case first =>
    rcases hh with ⟨rfl, rfl, hm⟩ | ⟨g, rfl, hl, hgb⟩
    · rcases hc with ⟨rfl, rfl⟩ | ⟨ad, cap, rfl, hcl⟩
      · go_wp2_with (at_builtin; refine wpList_append_zero rfl _ _ 30 rfl 5 i5 u31 hi none 0 0 (Nat.le_refl _) rfl none 0 rfl ?_)
        go_wp2_with fail
        go_meet
        case rel => exact ⟨_, Lib.hid (HR.out.set0 _), Lib.hid (.inl ⟨rfl, rfl, hm⟩), Lib.hid (But.set _ _ _ _)⟩
      · have hown0 := World.ownsRow_nil w w.heap.size 5 1
        go_wp2_with (at_builtin; refine wpList_append_own_at _ rfl _ _ 30 rfl w.heap.size 5 i5 (.int .u8 0) 1 1 u31 hi hz0 hz1 hz2 rfl (by decide) _ _ _ rfl hown0 ad c.length cap (c.map byV) rfl ?c1 hcl ?c2 ?c3 ?c4 ?c5 ?_)
        case c1 => simp
        case c2 => have := byV_one c; simpa using this
        case c3 => unfold maxLen; simp at hz; omega
        case c4 => simp at hz; omega
        case c5 => exact Nat.le_refl _
        intro v' w1 hown hgrow _ _
        have hb1 : Below w.heap.size w w1 := (Below.refl w.heap.size w).grown hgrow (Nat.le_refl _) (fun k e => by simp [Value.ownBlock] at e)
        try simp only [List.nil_append, Nat.zero_add] at hown
        have hr1 := HR.out.below hb1
        obtain ⟨p1, cp1, rfl⟩ := owns_shape hown
        have hH : HeldC (w1.setCell ⟨b, 0, none⟩ (.slice p1 c.length cp1)) b m ([] ++ c) (.slice p1 c.length cp1) := by
          rcases owns_bytes hown with ⟨e1, e2⟩ | ⟨g, cap2, e1, h1, h2, h3, _⟩
          · exact .inl ⟨e1, by rw [e2]; rfl, hm⟩
          · have hgb : g ≠ b := by omega
            exact .inr ⟨g, cap2, e1, h1, h2.set hgb, hgb⟩
        have HH := Lib.hid hH
        have HR1 := Lib.hid hr1
        have HB1 := Lib.hid hb1
        obtain ⟨y0, y1, yf⟩ := hr1.cells
        clear hown hgrow hb1 hH hr1
        go_wp2_with fail
        go_meet
        case rel => exact ⟨_, Lib.hid (HR1.out.set0 _), HH, Lib.hid ((But.of HB1.out).trans (But.set _ _ _ _))⟩
    · by_cases hc0 : c = []
      · obtain ⟨q, cq, hq⟩ : ∃ q cq, cv = .slice q 0 cq := by
          rcases hc with ⟨rfl, _⟩ | ⟨ad, cap, rfl, _⟩
          · exact ⟨_, _, rfl⟩
          · subst hc0; exact ⟨_, _, rfl⟩
        subst hq
        subst hc0
        have hl2 := Lib.hid hl
        clear hc
        go_wp2_with (at_builtin; refine wpList_append_zero rfl _ _ 30 rfl 5 i5 u31 hi (some ⟨g, 0, none⟩) l.length l.length (Nat.le_refl _) rfl q cq rfl ?_)
        go_wp2_with fail
        go_meet
        case rel => exact ⟨_, Lib.hid (HR.out.set0 _), Lib.hid (.inr ⟨g, l.length, by rw [List.append_nil], by rw [List.append_nil]; exact Nat.le_refl _, by rw [List.append_nil]; exact hl2.out.set hgb, hgb⟩), Lib.hid (But.set _ _ _ _)⟩
      · rcases hc with ⟨_, e⟩ | ⟨ad, cap, rfl, hcl⟩
        · exact absurd e hc0
        · have hcp : 0 < c.length := List.length_pos_iff.2 hc0
          have hls := lies_cells hl
          go_wp2_with (at_builtin; refine wpList_append_move _ rfl _ _ 30 rfl 5 i5 (.int .u8 0) u31 hi hz0 hz1 hz2 rfl g l.length (l.map byV) rfl (by simp) hls ad c.length cap (c.map byV) rfl (by simp) hcp hcl hz ?_)
          intro v' w1 hown hnn hb1
          have hr1 := HR.out.below hb1
          obtain ⟨p1, cp1, rfl⟩ := owns_shape hown
          have hH : HeldC (w1.setCell ⟨b, 0, none⟩ (.slice p1 (l.length + c.length) cp1)) b m (l ++ c) (.slice p1 (l.length + c.length) cp1) := by
            have hown2 : w1.ownsRow w.heap.size 5 1 (.slice p1 (l.length + c.length) cp1) (l ++ c).length ((l ++ c).map byV) := by rw [List.length_append, List.map_append]; exact hown
            rcases owns_bytes hown2 with ⟨e1, e2⟩ | ⟨g, cap2, e1, h1, h2, h3, _⟩
            · exact absurd e1 hnn
            · have hgb : g ≠ b := by omega
              exact .inr ⟨g, cap2, e1, h1, h2.set hgb, hgb⟩
          have HH := Lib.hid hH
          have HR1 := Lib.hid hr1
          have HB1 := Lib.hid hb1
          obtain ⟨y0, y1, yf⟩ := hr1.cells
          clear hown hb1 hH hr1 hls hcl
          go_wp2_with fail
          go_meet
          case rel => exact ⟨_, Lib.hid (HR1.out.set0 _), HH, Lib.hid ((But.of HB1.out).trans (But.set _ _ _ _))⟩
  case rest =>
    obtain ⟨hv, HRd, HH, HBx⟩ := hcut
    have hr := HRd.out
    have hTc := hT.but HBx.out h11 hbw11
    have hBc := HBx.out.size
    have hLL : (l ++ c).length ≤ 1000000 := by rw [List.length_append]; exact hz
    have hh1 := HH.out
    clear hc HR x0 x1 xf hh HH
    obtain ⟨LC, hLC⟩ : ∃ x, l ++ c = x := ⟨_, rfl⟩
    rw [hLC] at hh1 hLL
    rcases hh1 with ⟨rfl, hl0, hm⟩ | ⟨g, cap, rfl, hcap, hlies, hgb⟩
    · subst hm
      subst hl0
      have hd := divide_nil wc b hr
      go_wp2_with fail
      refine hd.mono ?_
      rintro e w3 ⟨rfl, hb3⟩
      have HB3 := Lib.hid hb3
      clear hb3 hd
      go_wp2_with fail
      go_ret2
      rw [hLC, runA_nil]
      exact ⟨.slice none 0 0, rfl, evs_none _ _, HBx.out.trans (But.of HB3.out)⟩
    · have hd := divide_any wc hTc (by omega) b g cap m LC (by omega) hr hlies hgb hcap hLL
      have hUle := runA_used _ m LC (Nat.lt_succ_self _)
      obtain ⟨RR, hRR⟩ : ∃ x, runA m LC = x := ⟨_, rfl⟩
      rw [hRR] at hd hUle
      obtain ⟨U, EV, M2⟩ := RR
      simp only at hd hUle
      have HL := Lib.hid hlies
      clear hlies hTc
      go_wp2_with fail
      refine hd.mono ?_
      rintro e w3 ⟨ve, rfl, hev, hr3, hbt⟩
      have HEV := Lib.hid hev
      have hs3 := hbt.size
      have HB3 : Hid (But b w w3) := Lib.hid (HBx.out.trans hbt)
      have HL3 := Lib.hid (HL.out.but hbt hgb)
      obtain ⟨pe, cpe, rfl⟩ := evs_shape hev
      obtain ⟨y0, y1, yf⟩ := hr3.cells
      have hbw3 := hr3.lt
      clear hev hd hbt
      by_cases hU : U = 0
      · subst hU
        go_wp2_with fail
        go_ret2
        rw [hLC, hRR]
        exact ⟨_, rfl, owns_base HEV.out (by omega), HB3.out⟩
      · have hU' : (0 : Int) < (U : Int) := by omega
        have hUi : (U : Int) ≤ (LC.length : Int) := by omega
        obtain ⟨o, h1, h2, h3⟩ := rest_slice g cap U LC hUle hcap w3 HL3.out
        have hcl := clone_any w3 g o (cap - U) (LC.drop U) h3 (by rw [List.length_drop]; omega)
        rw [← h1] at hcl
        clear h1 h2 h3
        have HFin : Hid (∀ (w4 : World) v4 n4, w4.ownsRow w3.heap.size 5 1 v4 n4 ((LC.drop U).map byV) → Below w3.heap.size w3 w4 → EvsAt w.heap.size (w4.setCell ⟨b, 0, none⟩ v4) (.slice pe EV.length cpe) EV ∧ But b w (w4.setCell ⟨b, 0, none⟩ v4)) := Lib.hid fun w4 v4 n4 _ hb4 =>
          ⟨evs_keep HEV.out (by omega) fun g' hg _ => by
            rw [Below.heap_setCell _ ⟨b, 0, none⟩ _ _ (by simp; omega)]
            exact hb4.block g' (by omega), (HB3.out.trans (But.of hb4)).trans (But.set _ _ _ _)⟩
        by_cases hck : cap = U
        · have hq : (cap = U) = True := eq_true hck
          clear hck
          simp only [hq, if_true] at hcl
          go_wp2_with fail
          refine hcl.mono ?_
          rintro e w4 ⟨v4, rfl, ho4, hn4, hb4⟩
          obtain ⟨p4, cp4, hv4⟩ := owns_shape ho4
          rw [List.length_drop] at hv4
          subst hv4
          have HF := Lib.hid (HFin.out _ _ _ ho4 hb4)
          obtain ⟨z0, z1, zf⟩ := (hr3.below hb4).cells
          clear ho4 hb4 hcl HFin
          go_wp2_with fail
          go_ret2
          rw [hLC, hRR]
          exact ⟨_, rfl, HF.out.1, HF.out.2⟩
        · have hq : (cap = U) = False := eq_false hck
          clear hck
          simp only [hq, if_false] at hcl
          go_wp2_with fail
          refine hcl.mono ?_
          rintro e w4 ⟨v4, rfl, ho4, hn4, hb4⟩
          obtain ⟨p4, cp4, hv4⟩ := owns_shape ho4
          rw [List.length_drop] at hv4
          subst hv4
          have HF := Lib.hid (HFin.out _ _ _ ho4 hb4)
          obtain ⟨z0, z1, zf⟩ := (hr3.below hb4).cells
          clear ho4 hb4 hcl HFin
          go_wp2_with fail
          go_ret2
          rw [hLC, hRR]
          exact ⟨_, rfl, HF.out.1, HF.out.2⟩
end Go.Proofs.YtlafcnmopclgiaaGreatDoor
