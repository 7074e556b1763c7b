/-
  Feed, told closer: of what was there only the reader and its own row turn.
-/
import Derived.Test.YtlafcnmopclgiaaGreatDoorR
import Derived.Maps.AppendAt
namespace Go.Proofs.YtlafcnmopclgiaaGreatDoor
open Go.RowKit Go.Shelf

/-- A reader, with the value that it holds. -/
structure RdV (B : Nat) (w : World) (b : Nat) (m : Mode) (l : List UInt8) (hv : Value) : Prop where
  r : RCell w b hv m
  o : w.ownsRow B 5 1 hv l.length (l.map byV)
  ne : hv.ownBlock ≠ some b
  lo : B ≤ b
  nil : hv = .slice none 0 0 → m = .head
/-- Of what was there only b and the row r may have turned. -/
structure Kept (b : Nat) (r : Option Nat) (w w' : World) : Prop where
  os : w'.os = w.os
  tape : w'.tape = w.tape
  output : w'.output = w.output
  size : w.heap.size ≤ w'.heap.size
  block : ∀ k, k < w.heap.size → k ≠ b → some k ≠ r → w'.heap[k]? = w.heap[k]?
theorem Kept.refl (b : Nat) (r : Option Nat) (w : World) : Kept b r w w := ⟨rfl, rfl, rfl, Nat.le_refl _, fun _ _ _ _ => rfl⟩
theorem Kept.but {b : Nat} {r : Option Nat} {w x y : World} (h : Kept b r w x) (k : But b x y) : Kept b r w y :=
  ⟨k.os.trans h.os, k.tape.trans h.tape, k.output.trans h.output, Nat.le_trans h.size k.size, fun j hj h1 h2 => (k.block j (Nat.lt_of_lt_of_le hj h.size) h1).trans (h.block j hj h1 h2)⟩
theorem Kept.set {b : Nat} {r : Option Nat} {w x : World} (h : Kept b r w x) (o : Nat) (v : Value) : Kept b r w (x.setCell ⟨b, o, none⟩ v) :=
  ⟨h.os, h.tape, h.output, by have := h.size; simpa using this, fun j hj h1 h2 => (Below.heap_setCell x ⟨b, o, none⟩ v j h1).trans (h.block j hj h1 h2)⟩
theorem Kept.grown {b : Nat} {r : Option Nat} {w x : World} (h : w.grownBy x r) : Kept b r w x := ⟨h.os, h.tape, h.output, h.size, fun k hk _ h2 => h.block k hk h2⟩
theorem Kept.below {b B : Nat} {r : Option Nat} {w x : World} (h : Kept b r w x) (hb : B ≤ b) (hr : ∀ k, r = some k → B ≤ k) (hB : B ≤ w.heap.size) : Below B w x :=
  ⟨h.os, h.tape, h.output, h.size, fun k hk => h.block k (by omega) (by omega) (fun e => by have := hr k e.symm; omega)⟩
/-- A chunk, wherever it lies. -/
def Chunk2 (w : World) (v : Value) (c : List UInt8) : Prop := (v = .slice none 0 0 ∧ c = []) ∨ ∃ ad cap, v = .slice (some ad) c.length cap ∧ ∀ (j : Nat) u, (c.map byV)[j]? = some u → w.cell? (ad.add j) = some u
def FeedEnd2 (B b : Nat) (m : Mode) (l : List UInt8) (hv : Value) (w : World) (e : Ending) (w' : World) : Prop :=
  ∃ v hv', e = .returned (.tuple #[v, .int .i64 0]) ∧ EvsAt w.heap.size w' v (runA m l).2.1 ∧ RdV B w' b (runA m l).2.2 (l.drop (runA m l).1) hv' ∧ Kept b hv.ownBlock w w' ∧ ∀ k, hv'.ownBlock = some k → hv.ownBlock = some k ∨ w.heap.size ≤ k
set_option maxRecDepth 100000 in
set_option maxHeartbeats 4000000 in
theorem feed_wide (B : Nat) (w : World) (b : Nat) (m : Mode) (l : List UInt8) (hT : Tab w) (h11 : 11 ≤ B) (hBw : B ≤ w.heap.size) (hv : Value) (hR : RdV B w b m l hv) (cv : Value) (c : List UInt8) (hc : Chunk2 w cv c) (hz : l.length + c.length ≤ 1000000) :
    Calls Tryz.prog 8 #[.pointer (some ⟨b, 0, none⟩), cv] w (FeedEnd2 B b m (l ++ c) hv w) := by
  have hmf := makeFunc_run
  have heq2 := eq_fn_nil
  obtain ⟨i5, hi, hz0, hz1, hz2⟩ := info_parts info5
  obtain ⟨hr, ho, hne, hBb, hnil⟩ := hR
  obtain ⟨f2, n2, hf2⟩ := fn_shape m
  have hbw := hr.lt
  have HR := Lib.hid hr
  have HO := Lib.hid ho
  obtain ⟨p0, cp0, rfl⟩ := owns_shape ho
  obtain ⟨x0, x1, xf⟩ := hr.cells
  rw [hf2] at x1
  clear hr ho
  unfold FeedEnd2
  go_enter Tryz.func8, Tryz.ntmps8
  go_upto_region 5 with fail
  go_cut [] (fun wx => ∃ hv1, Hid (RdV B wx b m (l ++ c) hv1) ∧ Hid (Kept b (Value.slice p0 l.length cp0).ownBlock w wx) ∧ Hid (∀ k, hv1.ownBlock = some k → (Value.slice p0 l.length cp0).ownBlock = some k ∨ w.heap.size ≤ k))
  case first =>
    rcases hc with ⟨rfl, rfl⟩ | ⟨ad, cap, rfl, hcl⟩
    · go_wp2_with (at_builtin; refine wpList_append_own_none rfl _ _ 30 rfl B 5 i5 1 u31 hi _ _ _ rfl HO.out rfl ?_)
      go_wp2_with fail
      go_meet
      case rel => exact ⟨_, Lib.hid ⟨HR.out.set0 _, by rw [List.append_nil]; exact owns_set HO.out hne, hne, hBb, hnil⟩, Lib.hid ((Kept.refl b _ w).set 0 _), Lib.hid fun k e => .inl e⟩
    · go_wp2_with (at_builtin; refine wpList_append_own_at _ rfl _ _ 30 rfl B 5 i5 (.int .u8 0) 1 1 u31 hi hz0 hz1 hz2 rfl (by decide) _ _ _ rfl HO.out ad c.length cap (c.map byV) rfl ?c1 hcl ?c2 ?c3 ?c4 ?c5 ?_)
      case c1 => simp
      case c2 => have := byV_one c; simpa using this
      case c3 => unfold maxLen; omega
      case c4 => omega
      case c5 => omega
      intro v' w1 hown hgrow hnl hat
      have hobw : ∀ k, (Value.slice p0 l.length cp0).ownBlock = some k → B ≤ k ∧ k < w.heap.size := fun k e => HO.out.lt k e
      have hr1 : RCell w1 b _ m := (hgrow.block b hbw (fun e => hne e.symm)).trans HR.out
      have hne1 : v'.ownBlock ≠ some b := fun e => by
        have h1 := (hown.lt b e).1
        rcases hown.2 with ⟨rfl, _⟩ | ⟨g1, cap1, cur1, rfl, _, h5, _⟩
        · simp [Value.ownBlock] at e
        · have e' : g1 = b := by simpa [Value.ownBlock] using e
          rw [e'] at h5
          have h6 : w1.heap[b]? = some (.cells #[Value.slice p0 l.length cp0, fnOf m] 48 (0, 0)) := hr1
          rw [h6] at h5
          cases h5
      obtain ⟨p1, cp1, rfl⟩ := owns_shape hown
      have H1 := Lib.hid hr1
      have O1 : Hid (w1.ownsRow B 5 1 (.slice p1 (l.length + c.length) cp1) (l ++ c).length ((l ++ c).map byV)) := Lib.hid (by rw [List.length_append, List.map_append]; exact hown)
      have B1 : Hid (Kept b (Value.slice p0 l.length cp0).ownBlock w w1) := Lib.hid (Kept.grown hgrow)
      have HAT : Hid (∀ k, (Value.slice p1 (l.length + c.length) cp1).ownBlock = some k → (Value.slice p0 l.length cp0).ownBlock = some k ∨ w.heap.size ≤ k) := Lib.hid fun k e => by
        rcases hat with h | h
        · rw [e] at h; exact .inl h.symm
        · rw [e] at h; cases h; exact .inr (Nat.le_refl _)
      have HNL : Hid (Value.slice p1 (l.length + c.length) cp1 = .slice none 0 0 → m = .head) := Lib.hid fun e => hnil (by obtain ⟨a1, a2, a3⟩ := (hnl.1 e).1; rw [a1, a2, a3]; rfl)
      obtain ⟨y0, y1, yf⟩ := hr1.cells
      clear hown hgrow hnl hr1 hat
      go_wp2_with fail
      go_meet
      case rel => exact ⟨_, Lib.hid ⟨H1.out.set0 _, owns_set O1.out hne1, hne1, hBb, HNL.out⟩, Lib.hid (B1.out.set 0 _), HAT⟩
  case rest =>
    obtain ⟨hv, HRd, HBx, HAT⟩ := hcut
    obtain ⟨hr, ho, hne2, _, hnil2⟩ := HRd.out
    have hTc := hT.low h11 (HBx.out.below hBb (fun k e => (HO.out.lt k e).1) hBw)
    have hBc := HBx.out.size
    have hLL : (l ++ c).length ≤ 1000000 := by rw [List.length_append]; exact hz
    clear hc HR HO x0 x1 xf
    obtain ⟨LC, hLC⟩ : ∃ x, l ++ c = x := ⟨_, rfl⟩
    rw [hLC] at ho hLL
    rcases owns_bytes ho with ⟨rfl, hl0⟩ | ⟨g, cap, rfl, hcap, hlies, hBg, hgw⟩
    · have hm := hnil2 rfl
      subst hm
      subst hl0
      have hd := divide_nil wc b hr
      go_wp2_with fail
      refine hd.mono ?_
      rintro e w3 ⟨rfl, hb3⟩
      have HB3 := Lib.hid hb3
      clear hb3 hd
      go_wp2_with fail
      go_ret2
      rw [hLC, runA_nil]
      exact ⟨.slice none 0 0, _, rfl, evs_none _ _, ⟨hr.below HB3.out, World.ownsRow_nil _ _ _ _, hne2, hBb, fun _ => rfl⟩, HBx.out.but (But.of HB3.out), HAT.out⟩
    · have hgb : g ≠ b := fun e => hne2 (by rw [e]; rfl)
      have hd := divide_any wc hTc (by omega) b g cap m LC (by omega) hr hlies hgb hcap hLL
      have hUle := runA_used _ m LC (Nat.lt_succ_self _)
      obtain ⟨RR, hRR⟩ : ∃ x, runA m LC = x := ⟨_, rfl⟩
      rw [hRR] at hd hUle
      obtain ⟨U, EV, M2⟩ := RR
      simp only at hd hUle
      have HL := Lib.hid hlies
      have HOw := Lib.hid ho
      clear hlies ho hTc
      go_wp2_with fail
      refine hd.mono ?_
      rintro e w3 ⟨ve, rfl, hev, hr3, hbt⟩
      have HEV := Lib.hid hev
      have hs3 := hbt.size
      have HB3 : Hid (Kept b (Value.slice p0 l.length cp0).ownBlock w w3) := Lib.hid (HBx.out.but hbt)
      have HL3 := Lib.hid (HL.out.but hbt hgb)
      have HO3 := Lib.hid (owns_but HOw.out hne2 hbt)
      obtain ⟨pe, cpe, rfl⟩ := evs_shape hev
      obtain ⟨y0, y1, yf⟩ := hr3.cells
      have hbw3 := hr3.lt
      clear hev hd hbt
      by_cases hU : U = 0
      · subst hU
        go_wp2_with fail
        go_ret2
        rw [hLC, hRR]
        exact ⟨_, _, rfl, owns_base HEV.out (by omega), ⟨hr3, by rw [List.drop_zero]; exact HO3.out, hne2, hBb, fun e => by cases e⟩, HB3.out, HAT.out⟩
      · have hU' : (0 : Int) < (U : Int) := by omega
        have hUi : (U : Int) ≤ (LC.length : Int) := by omega
        obtain ⟨o, h1, h2, h3⟩ := rest_slice g cap U LC hUle hcap w3 HL3.out
        have hcl := clone_any w3 g o (cap - U) (LC.drop U) h3 (by rw [List.length_drop]; omega)
        rw [← h1] at hcl
        clear h1 h2 h3
        by_cases hck : cap = U
        · have hq : (cap = U) = True := eq_true hck
          clear hck
          simp only [hq, if_true] at hcl
          go_wp2_with fail
          refine hcl.mono ?_
          rintro e w4 ⟨v4, rfl, ho4, hn4, hb4⟩
          obtain ⟨p4, cp4, hv4⟩ := owns_shape ho4
          rw [List.length_drop] at hv4
          subst hv4
          have HO4 := Lib.hid ho4
          have HB4 := Lib.hid hb4
          have hr4 := hr3.below hb4
          have HR4 := Lib.hid hr4
          obtain ⟨z0, z1, zf⟩ := hr4.cells
          have hbo : (Value.slice p4 (LC.length - U) cp4).ownBlock ≠ some b := fun e => by
            have := (HO4.out.lt b e).1; omega
          clear ho4 hb4 hr4
          go_wp2_with fail
          go_ret2
          rw [hLC, hRR]
          refine ⟨_, _, rfl, ?_, ⟨HR4.out.set0 _, owns_set (owns_base HO4.out (by omega)) hbo, hbo, hBb, fun e => absurd e hn4⟩, ?_, ?_⟩
          · exact evs_keep HEV.out (by omega) fun g' hg _ => by
              rw [Below.heap_setCell _ ⟨b, 0, none⟩ _ _ (by simp; omega)]
              exact HB4.out.block g' (by omega)
          · exact (HB3.out.but (But.of HB4.out)).set 0 _
          · exact fun k e => .inr (by have := (HO4.out.lt k e).1; omega)
        · have hq : (cap = U) = False := eq_false hck
          clear hck
          simp only [hq, if_false] at hcl
          go_wp2_with fail
          refine hcl.mono ?_
          rintro e w4 ⟨v4, rfl, ho4, hn4, hb4⟩
          obtain ⟨p4, cp4, hv4⟩ := owns_shape ho4
          rw [List.length_drop] at hv4
          subst hv4
          have HO4 := Lib.hid ho4
          have HB4 := Lib.hid hb4
          have hr4 := hr3.below hb4
          have HR4 := Lib.hid hr4
          obtain ⟨z0, z1, zf⟩ := hr4.cells
          have hbo : (Value.slice p4 (LC.length - U) cp4).ownBlock ≠ some b := fun e => by
            have := (HO4.out.lt b e).1; omega
          clear ho4 hb4 hr4
          go_wp2_with fail
          go_ret2
          rw [hLC, hRR]
          refine ⟨_, _, rfl, ?_, ⟨HR4.out.set0 _, owns_set (owns_base HO4.out (by omega)) hbo, hbo, hBb, fun e => absurd e hn4⟩, ?_, ?_⟩
          · exact evs_keep HEV.out (by omega) fun g' hg _ => by
              rw [Below.heap_setCell _ ⟨b, 0, none⟩ _ _ (by simp; omega)]
              exact HB4.out.block g' (by omega)
          · exact (HB3.out.but (But.of HB4.out)).set 0 _
          · exact fun k e => .inr (by have := (HO4.out.lt k e).1; omega)
end Go.Proofs.YtlafcnmopclgiaaGreatDoor
