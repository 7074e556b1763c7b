/-
  divide: one operation after another, till more bytes are needed.
-/
import Derived.Test.YtlafcnmopclgiaaGreatDoorG
import Derived.Deep.DeepCutAuto
import Derived.Deep.CutRange
namespace Go.Proofs.YtlafcnmopclgiaaGreatDoor
open Go.RowKit Go.Shelf

/-- All that lay before is kept, but the block b. -/
structure But (b : Nat) (w w' : World) : Prop where
  os : w'.os = w.os
  tape : w'.tape = w.tape
  output : w'.output = w.output
  size : w.heap.size ≤ w'.heap.size
  block : ∀ k, k < w.heap.size → k ≠ b → w'.heap[k]? = w.heap[k]?
theorem But.refl (b : Nat) (w : World) : But b w w := ⟨rfl, rfl, rfl, Nat.le_refl _, fun _ _ _ => rfl⟩
theorem But.trans {b : Nat} {w x y : World} (h : But b w x) (k : But b x y) : But b w y :=
  ⟨k.os.trans h.os, k.tape.trans h.tape, k.output.trans h.output, Nat.le_trans h.size k.size, fun j hj hb => (k.block j (Nat.lt_of_lt_of_le hj h.size) hb).trans (h.block j hj hb)⟩
theorem But.of {b : Nat} {w w' : World} (h : Below w.heap.size w w') : But b w w' := ⟨h.os, h.tape, h.output, h.size, fun k hk _ => h.block k hk⟩
theorem But.set (b : Nat) (w : World) (o : Nat) (v : Value) : But b w (w.setCell ⟨b, o, none⟩ v) :=
  ⟨rfl, rfl, rfl, by simp [World.setCell], fun k _ hk => Below.heap_setCell w ⟨b, o, none⟩ v k hk⟩
theorem But.below {b n : Nat} {w w' : World} (h : But b w w') (hn : n ≤ b) (hz : n ≤ w.heap.size) : Below n w w' := ⟨h.os, h.tape, h.output, h.size, fun k hk => h.block k (by omega) (by omega)⟩
theorem Lies.but {w w' : World} {b g o : Nat} {l : List UInt8} (h : Lies w g o l) (hb : But b w w') (hg : g ≠ b) : Lies w' g o l := fun i hi =>
  (World.cell?_of_block (hb.block g (World.block_lt_of_cell? w _ (h i hi)) hg)).trans (h i hi)
theorem Tab.but {w w' : World} {b : Nat} (h : Tab w) (hb : But b w w') (h11 : 11 ≤ b) (hw : 11 ≤ w.heap.size) : Tab w' := by
  obtain ⟨h3, ⟨ev, h4, h5⟩, m, h6⟩ := h
  refine ⟨?_, ⟨ev, ?_, h5⟩, m, ?_⟩
  · unfold Lib.TabIs World.var? at h3 ⊢
    rw [show Tryz.prog.globalNamed "internal/strconv.uint64pow10" = some 4 by kernel_rfl] at h3 ⊢
    simp only [Option.bind_some] at h3 ⊢
    rw [hb.block 4 (by omega) (by omega)]
    exact h3
  · exact (World.cell?_of_block (w := w) (hb.block 8 (by omega) (by omega))).trans h4
  · exact (World.cell?_of_block (w := w) (hb.block 0 (by omega) (by omega))).trans h6
/-- A reader lies at b: the slice of what it holds, its next operation. -/
def RCell (w : World) (b : Nat) (hv : Value) (m : Mode) : Prop := w.heap[b]? = some (.cells #[hv, fnOf m] 48 (0, 0))
theorem RCell.cells {w : World} {b : Nat} {hv : Value} {m : Mode} (h : RCell w b hv m) : w.cell? ⟨b, 0, none⟩ = some hv ∧ w.cell? ⟨b, 1, none⟩ = some (fnOf m) ∧ ∀ o, w.frozen? ⟨b, o, none⟩ = false :=
  ⟨by rw [cellH h]; rfl, by rw [cellH h]; rfl, fun o => Lib.frozen_of_heap h o⟩
theorem RCell.lt {w : World} {b : Nat} {hv : Value} {m : Mode} (h : RCell w b hv m) : b < w.heap.size := (Array.getElem?_eq_some_iff.1 h).1
theorem RCell.below {w w' : World} {b : Nat} {hv : Value} {m : Mode} (h : RCell w b hv m) (hb : Below w.heap.size w w') : RCell w' b hv m := (hb.block b h.lt).trans h
theorem RCell.set1 {w : World} {b : Nat} {hv : Value} {m : Mode} (h : RCell w b hv m) (m2 : Mode) : RCell (w.setCell ⟨b, 1, none⟩ (fnOf m2)) b hv m2 := heap_setCell_same w b 1 _ _ _ h
theorem RCell.set0 {w : World} {b : Nat} {hv : Value} {m : Mode} (h : RCell w b hv m) (v : Value) : RCell (w.setCell ⟨b, 0, none⟩ v) b v m := heap_setCell_same w b 0 _ _ _ h
/-- A reader's place in its measure. -/
def rankW (b : Nat) (w : World) : Nat :=
  match w.cell? ⟨b, 1, none⟩ with
  | some (.func (.func 13) _ _) => 0
  | _ => 1
theorem rankW_at {w : World} {b : Nat} {hv : Value} {m : Mode} (h : RCell w b hv m) : rankW b w = rank m := by
  unfold rankW; rw [h.cells.2.1]
  cases m <;> rfl
theorem info41 : (Tryz.prog.info? 40).map (fun i => (i.zero, i.size, i.bytes)) = some (some (.agg #[.string ⟨#[]⟩, .int .i64 0]), 2, 24) := by kernel_rfl
/-- The same, for a value's parts. -/
def StepOut (U : Nat) (EV : List Ev) (F : Value) (w : World) (e : Ending) (w' : World) : Prop :=
  ∃ p cp, e = .returned (.agg #[.int .i64 U, .slice p EV.length cp, F]) ∧ EvsAt w.heap.size w' (.slice p EV.length cp) EV ∧ Below w.heap.size w w'
theorem StepEnd.out {m : Mode} {l : List UInt8} {w w' : World} {e : Ending} (h : StepEnd m l w e w') : StepOut (op m l).1 (op m l).2.1.toList (fnO (op m l).2.2) w e w' := by
  obtain ⟨v, rfl, h2, h3⟩ := h
  obtain ⟨p, cp, rfl⟩ := evs_shape h2
  exact ⟨p, cp, rfl, h2, h3⟩
theorem rest_slice (g cap k : Nat) (h : List UInt8) (hk : k ≤ h.length) (hc : h.length ≤ cap) (W : World) (hl : Lies W g 0 h) :
    ∃ o, (Value.slice (if cap = k then some ⟨g, 0, none⟩ else some ⟨g, k, none⟩) (h.length - k) (cap - k)) = .slice (some ⟨g, o, none⟩) (h.drop k).length (cap - k) ∧ (h.drop k).length ≤ cap - k ∧ Lies W g o (h.drop k) := by
  have hlen : (h.drop k).length = h.length - k := List.length_drop
  by_cases e : cap = k
  · rw [if_pos e]
    refine ⟨0, by rw [hlen], by omega, ?_⟩
    have : h.drop k = [] := List.drop_of_length_le (by omega)
    rw [this]
    intro i hi; exact absurd hi (Nat.not_lt_zero _)
  · rw [if_neg e]
    refine ⟨k, by rw [hlen], by omega, ?_⟩
    have := hl.drop k
    rw [Nat.zero_add] at this; exact this
theorem ops_head (g cap k : Nat) (h : List UInt8) (hk : k ≤ h.length) (hc : h.length ≤ cap) (hz : h.length ≤ 1000000) (W : World) (hT : Tab W) (hl : Lies W g 0 h) :
    Calls Tryz.prog 13 #[.agg #[.int .i64 0], .slice (if cap = k then some ⟨g, 0, none⟩ else some ⟨g, k, none⟩) (h.length - k) (cap - k)] W (StepOut (op .head (h.drop k)).1 (op .head (h.drop k)).2.1.toList (fnO (op .head (h.drop k)).2.2) W) := by
  obtain ⟨o, h1, h2, h3⟩ := rest_slice g cap k h hk hc W hl
  rw [h1]
  exact (head_any W hT g o (cap - k) (h.drop k) h3 h2 (by rw [List.length_drop]; omega)).mono fun e w' x => x.out
theorem ops_skip (g cap k : Nat) (h : List UInt8) (hk : k ≤ h.length) (hc : h.length ≤ cap) (hz : h.length ≤ 1000000) (W : World) (hT : Tab W) (hl : Lies W g 0 h) :
    Calls Tryz.prog 30 #[.agg #[.int .i64 0], .slice (if cap = k then some ⟨g, 0, none⟩ else some ⟨g, k, none⟩) (h.length - k) (cap - k)] W (StepOut (op .skip (h.drop k)).1 (op .skip (h.drop k)).2.1.toList (fnO (op .skip (h.drop k)).2.2) W) := by
  obtain ⟨o, h1, h2, h3⟩ := rest_slice g cap k h hk hc W hl
  rw [h1]
  exact (skip_any W hT g o (cap - k) (h.drop k) h3 h2 (by rw [List.length_drop]; omega)).mono fun e w' x => x.out
theorem ops_body (n : Nat) (g cap k : Nat) (h : List UInt8) (hk : k ≤ h.length) (hc : h.length ≤ cap) (W : World) (hl : Lies W g 0 h) :
    Calls Tryz.prog 21 #[.agg #[.int .i64 n], .slice (if cap = k then some ⟨g, 0, none⟩ else some ⟨g, k, none⟩) (h.length - k) (cap - k)] W (StepOut (op (.body n) (h.drop k)).1 (op (.body n) (h.drop k)).2.1.toList (fnO (op (.body n) (h.drop k)).2.2) W) := by
  obtain ⟨o, h1, h2, h3⟩ := rest_slice g cap k h hk hc W hl
  rw [h1]
  by_cases hn : (h.drop k).length < n
  · have e : op (.body n) (h.drop k) = (0, none, none) := by simp only [op, opBody]; rw [if_pos hn]
    rw [e]
    refine (body_wait W _ _ _ _ n rfl hn).mono ?_
    rintro e w' ⟨rfl, hb⟩
    exact ⟨none, 0, rfl, evs_none _ _, hb⟩
  · have e : op (.body n) (h.drop k) = (n, some ((h.drop k).take n, 0), some .head) := by simp only [op, opBody]; rw [if_neg hn]
    refine (body_take W g o (cap - k) (h.drop k) n h3 (by omega) h2).mono ?_
    rintro x w' ⟨v, rfl, h4, h5⟩
    have hs : StepEnd (.body n) (h.drop k) W (.returned (stepV n v (some .head))) w' := ⟨v, by rw [e], by rw [e]; exact h4, h5⟩
    exact hs.out
theorem fnO_cell (m : Option Mode) : (fnO m).oneCell' = true := by
  cases m with
  | none => rfl
  | some m => cases m <;> rfl
/-- Behind an operation's call: its answer lies in a box. -/
def CutRel (wr : World) (U : Nat) (EV : List Ev) (F : Value) (s6 : Value) (wx : World) : Prop :=
  ∃ X p cp, s6 = .pointer (some ⟨X, 0, none⟩) ∧ wr.heap.size ≤ X ∧ SBox wx X (.int .i64 U) (.slice p EV.length cp) F ∧ EvsAt wr.heap.size wx (.slice p EV.length cp) EV ∧ Below wr.heap.size wr wx
theorem keepD {W : World} {a : Addr} {v : Value} (h : W.cell? a = some v) : W.drew.cell? a = some v := h
theorem cut_new {wr w5 : World} {U : Nat} {EV : List Ev} {F : Value} {p : Option Addr} {cp : Nat} (he : EvsAt wr.heap.size w5 (.slice p EV.length cp) EV) (hb : Below wr.heap.size wr w5) :
    CutRel wr U EV F (.pointer (some ⟨w5.heap.size, 0, none⟩)) (w5.alloc (.cells #[.int .i64 U, .slice p EV.length cp, F] 56)) :=
  ⟨w5.heap.size, p, cp, rfl, hb.size, heap_alloc_new w5 _, World.ownsRow.alloc he _, galloc2 hb hb.size _⟩
theorem cut_old {wr w5 : World} {U : Nat} {EV : List Ev} {F : Value} {p : Option Addr} {cp X : Nat} {c0 c1 c2 : Value} (he : EvsAt (X + 1) w5 (.slice p EV.length cp) EV) (hb : Below wr.heap.size wr w5) (hX : wr.heap.size ≤ X) (hS : SBox w5 X c0 c1 c2) :
    CutRel wr U EV F (.pointer (some ⟨X, 0, none⟩)) (((w5.setCell ⟨X, 0, none⟩ (.int .i64 U)).setCell ⟨X, 1, none⟩ (.slice p EV.length cp)).setCell ⟨X, 2, none⟩ F) :=
  ⟨X, p, cp, rfl, hX, hS.set _ _ _, evs_keep he (by omega) (fun g hg _ => by
    rw [Below.heap_setCell _ ⟨X, 2, none⟩ _ _ (by simp; omega), Below.heap_setCell _ ⟨X, 1, none⟩ _ _ (by simp; omega), Below.heap_setCell _ ⟨X, 0, none⟩ _ _ (by simp; omega)]), set3_below hX hb⟩
theorem start_len (m : Mode) (h : List UInt8) : ([] : List Ev).length + 2 * (h.length - 0) + rank m ≤ 2 * h.length + 1 := by
  have : rank m ≤ 1 := by cases m <;> simp [rank]
  simp; omega
theorem alloc_size (wr : World) (o : Obj) : (wr.alloc o).drew.heap.size = wr.heap.size + 1 := by simp
theorem und28 : Tryz.prog.underlying 31 = some (.slice 40) := by kernel_rfl
theorem evC_len (l : List Ev) : (l.flatMap evC).length = l.length * 2 := by
  induction l with
  | nil => rfl
  | cons e l ih => rw [List.flatMap_cons, List.length_append, ih, List.length_cons]; show 2 + _ = _; omega
theorem evC_one (l : List Ev) : ∀ u ∈ l.flatMap evC, u.oneCell' = true := by
  intro u hu
  obtain ⟨e, _, he⟩ := List.mem_flatMap.1 hu
  unfold evC bl at he
  rcases List.mem_cons.1 he with rfl | he
  · rfl
  · rw [List.mem_singleton] at he; subst he; rfl
theorem evC_two (e : Ev) (u : Value) (h : u ∈ evC e) : u.oneCell' = true := by
  unfold evC bl at h
  rcases List.mem_cons.1 h with rfl | h
  · rfl
  · rw [List.mem_singleton] at h; subst h; rfl
theorem evs_set {B b : Nat} {w : World} {v x : Value} {o : Nat} {l : List Ev} (h : EvsAt B w v l) (hb : b < B) : EvsAt B (w.setCell ⟨b, o, none⟩ x) v l :=
  evs_keep h (Nat.le_refl _) fun g hg _ => Below.heap_setCell w ⟨b, o, none⟩ x g (by simp; omega)
theorem und50 : ∃ a b c, Tryz.prog.underlying 46 = some (.func a b c) := ⟨#[30], #[56], false, by kernel_rfl⟩
theorem eq_nil_nil (w : World) : (binOp .eql 46 .nilFunc .nilFunc).run Tryz.prog w = .ok (.bool true) w := by
  obtain ⟨a, b, c, hd⟩ := und50
  have h : ∀ d : Nat, (Op.equalIn (d + 1) 46 .nilFunc .nilFunc).run Tryz.prog w = .ok true w := fun d => by
    simp [Op.equalIn, run_underlying hd]
  have h2 : (Op.equal 46 .nilFunc .nilFunc).run Tryz.prog w = .ok true w := h 9999
  simp [binOp, h2]
theorem eq_fn_nil (w : World) (fn : Fn) (x y : Array Value) : (binOp .eql 46 (.func fn x y) .nilFunc).run Tryz.prog w = .ok (.bool false) w := by
  obtain ⟨a, b, c, hd⟩ := und50
  have h : ∀ d : Nat, (Op.equalIn (d + 1) 46 (.func fn x y) .nilFunc).run Tryz.prog w = .ok false w := fun d => by
    simp [Op.equalIn, run_underlying hd]
  have h2 : (Op.equal 46 (.func fn x y) .nilFunc).run Tryz.prog w = .ok false w := h 9999
  simp [binOp, h2]
theorem but_grown {b : Nat} {w wr wc w7 : World} {s5 : Value} (h1 : But b w wr) (h2 : Below wr.heap.size wr wc) (hg : wc.grownBy w7 s5.ownBlock) (hb5 : ∀ g5, s5.ownBlock = some g5 → w.heap.size ≤ g5 ∧ g5 < wr.heap.size) : But b w w7 := by
  have h3 := h1.trans (But.of h2)
  exact ⟨hg.os.trans h3.os, hg.tape.trans h3.tape, hg.output.trans h3.output, Nat.le_trans h3.size hg.size, fun k hk hkb => (hg.block k (Nat.lt_of_lt_of_le hk h3.size) (fun e => by have := (hb5 k e.symm).1; omega)).trans (h3.block k hk hkb)⟩
theorem fn_shape (m : Mode) : ∃ (f : Nat) (n : Int), fnOf m = .func (.func f) #[.agg #[.int .i64 n]] #[] := by
  cases m with
  | head => exact ⟨_, _, rfl⟩
  | body n => exact ⟨_, _, rfl⟩
  | skip => exact ⟨_, _, rfl⟩
set_option maxRecDepth 100000 in
set_option maxHeartbeats 4000000 in
theorem divide_any (w : World) (hT : Tab w) (hw11 : 11 ≤ w.heap.size) (b g cap : Nat) (m : Mode) (h : List UInt8) (hb11 : 11 ≤ b) (hR : RCell w b (.slice (some ⟨g, 0, none⟩) h.length cap) m) (hl : Lies w g 0 h) (hg : g ≠ b) (hc : h.length ≤ cap) (hz : h.length ≤ 1000000) :
    Calls Tryz.prog 14 #[.pointer (some ⟨b, 0, none⟩)] w fun e w' => ∃ v, e = .returned (.tuple #[.int .i64 (runA m h).1, v]) ∧ EvsAt w.heap.size w' v (runA m h).2.1 ∧ RCell w' b (.slice (some ⟨g, 0, none⟩) h.length cap) (runA m h).2.2 ∧ But b w w' := by
  obtain ⟨i41, hi, hz0, hz1, hz2⟩ := info_parts info41
  have HR := Lib.hid hR
  have HL := Lib.hid hl
  have HT := Lib.hid hT
  have hbl := hR.lt
  clear hR hl hT
  go_enter Tryz.func14, Tryz.ntmps14
  go_wp2_with fail
  go_loopw [4, 5] (fun u e wr => ∃ (k : Nat) (m1 : Mode) (E1 : List Ev), u = .int .i64 k ∧ k ≤ h.length ∧ Hid (EvsAt w.heap.size wr e E1) ∧ E1.length + 2 * (h.length - k) + rank m1 ≤ 2 * h.length + 1 ∧ Hid (RCell wr b (.slice (some ⟨g, 0, none⟩) h.length cap) m1) ∧ Hid (But b w wr) ∧ Hid (runA m h = (k + (runA m1 (h.drop k)).1, E1 ++ (runA m1 (h.drop k)).2.1, (runA m1 (h.drop k)).2.2))) (fun u _ wr => 2 * (h.length - (intOf u).toNat) + rankW b wr)
  case atStart => exact ⟨0, m, [], rfl, Nat.zero_le _, Lib.hid (evs_none _ _), start_len m h, HR, Lib.hid (But.refl _ _), Lib.hid (by simp)⟩
  case round =>
    obtain ⟨k, m1, E1, rfl, hk, HE, hE1, HR1, HB, HRun⟩ := hrel
    obtain ⟨x0, x1, xf⟩ := HR1.out.cells
    have hk0 : (k : Int) ≤ (h.length : Int) := by omega
    have heq1 := eq_nil_nil
    have heq2 := eq_fn_nil
    have hu := op_used m1 (h.drop k)
    have hst := runA_step m1 (h.drop k)
    have hbw : b < wr.heap.size := Nat.lt_of_lt_of_le hbl HB.out.size
    have hTr := Lib.hid (HT.out.but HB.out hb11 hw11)
    have hLr := Lib.hid (HL.out.but HB.out hg)
    cases m1 with
    | head =>
      have hop := fun W' (hW : Below wr.heap.size wr W') => ops_head g cap k h hk hc hz W' (hTr.out.below hW) (hLr.out.below hW)
      simp only [fnOf] at x1
      generalize op .head (h.drop k) = OPV at *
      obtain ⟨U, EV0, NX⟩ := OPV
      simp only at hop hu hst
      have HEV : Hid (EV0.toList.length ≤ 1) := Lib.hid (by cases EV0 <;> simp)
      generalize hEV : EV0.toList = EV at *
      have HST := Lib.hid hst
      have HU := Lib.hid hu
      have HEVE := Lib.hid hEV
      clear hst hu hEV
      cases NX with
      | none =>
        simp only [fnO] at hop
        go_wp2_with fail
        go_cut [6] from 7 to 35 (fun s6 wx => CutRel wr U EV .nilFunc s6 wx)
        case first =>
          by_cases hck : cap = k
          · have hq : (cap = k) = True := eq_true hck
            clear hck
            simp only [hq, if_true] at hop
            go_region_held3 (fun u => u.cell? ⟨b, 0, none⟩ = some (.slice (some ⟨g, 0, none⟩) h.length cap) ∧ u.cell? ⟨b, 1, none⟩ = some (.func (.func 13) #[.agg #[.int .i64 0]] #[])) (first | exact ⟨x0, x1⟩ | exact ⟨y0, y1⟩ | ((with_reducible (refine ⟨?_, ?_⟩ <;> (repeat' (first | assumption | refine keepD ?_ | refine keepA _ ?_ | refine (World.cell?_setCell_far _ _ _ _ ?_).trans ?_)))); done) | go_keep) (first | (go_at_call 13; (with_reducible refine Calls.mono (hop _ (Below.refl wr.heap.size wr).drew) ?_); rintro e w5 ⟨p, cp, rfl, hev, hb5⟩; have gg := (Below.refl wr.heap.size wr).drew.trans hb5; have y0 := (gg.cell (p := ⟨b, 0, none⟩) hbw).trans x0; have y1 := (gg.cell (p := ⟨b, 1, none⟩) hbw).trans x1; have nb : w5.heap.size ≠ b := (by have := gg.size; omega)) | (go_at_call 13; (with_reducible refine Calls.mono (hop _ ((Below.refl wr.heap.size wr).alloc (Nat.le_refl _) _).drew) ?_); rintro e w5 ⟨p, cp, rfl, hev, hb5⟩; have gg := ((Below.refl wr.heap.size wr).alloc (Nat.le_refl _) (.cells #[.int .i64 0, .slice none 0 0, .nilFunc] 56)).drew.trans (hb5.mono (by simp)); have y0 := (gg.cell (p := ⟨b, 0, none⟩) hbw).trans x0; have y1 := (gg.cell (p := ⟨b, 1, none⟩) hbw).trans x1; have nb : wr.heap.size ≠ b := (by omega); have hsb := SBox.below (w := (wr.alloc (.cells #[.int .i64 0, .slice none 0 0, .nilFunc] 56)).drew) (heap_alloc_new wr (.cells #[.int .i64 0, .slice none 0 0, .nilFunc] 56)) hb5; obtain ⟨q0, q1, q2, qf⟩ := hsb.cells))
            all_goals (go_wp2_with fail; go_meet)
            case rel => exact cut_new hev gg
            case rel => rw [alloc_size] at hev; exact cut_old hev gg (Nat.le_refl _) hsb
          · have hq : (cap = k) = False := eq_false hck
            clear hck
            simp only [hq, if_false] at hop
            go_region_held3 (fun u => u.cell? ⟨b, 0, none⟩ = some (.slice (some ⟨g, 0, none⟩) h.length cap) ∧ u.cell? ⟨b, 1, none⟩ = some (.func (.func 13) #[.agg #[.int .i64 0]] #[])) (first | exact ⟨x0, x1⟩ | exact ⟨y0, y1⟩ | ((with_reducible (refine ⟨?_, ?_⟩ <;> (repeat' (first | assumption | refine keepD ?_ | refine keepA _ ?_ | refine (World.cell?_setCell_far _ _ _ _ ?_).trans ?_)))); done) | go_keep) (first | (go_at_call 13; (with_reducible refine Calls.mono (hop _ (Below.refl wr.heap.size wr).drew) ?_); rintro e w5 ⟨p, cp, rfl, hev, hb5⟩; have gg := (Below.refl wr.heap.size wr).drew.trans hb5; have y0 := (gg.cell (p := ⟨b, 0, none⟩) hbw).trans x0; have y1 := (gg.cell (p := ⟨b, 1, none⟩) hbw).trans x1; have nb : w5.heap.size ≠ b := (by have := gg.size; omega)) | (go_at_call 13; (with_reducible refine Calls.mono (hop _ ((Below.refl wr.heap.size wr).alloc (Nat.le_refl _) _).drew) ?_); rintro e w5 ⟨p, cp, rfl, hev, hb5⟩; have gg := ((Below.refl wr.heap.size wr).alloc (Nat.le_refl _) (.cells #[.int .i64 0, .slice none 0 0, .nilFunc] 56)).drew.trans (hb5.mono (by simp)); have y0 := (gg.cell (p := ⟨b, 0, none⟩) hbw).trans x0; have y1 := (gg.cell (p := ⟨b, 1, none⟩) hbw).trans x1; have nb : wr.heap.size ≠ b := (by omega); have hsb := SBox.below (w := (wr.alloc (.cells #[.int .i64 0, .slice none 0 0, .nilFunc] 56)).drew) (heap_alloc_new wr (.cells #[.int .i64 0, .slice none 0 0, .nilFunc] 56)) hb5; obtain ⟨q0, q1, q2, qf⟩ := hsb.cells))
            all_goals (go_wp2_with fail; go_meet)
            case rel => exact cut_new hev gg
            case rel => rw [alloc_size] at hev; exact cut_old hev gg (Nat.le_refl _) hsb
        case rest =>
          obtain ⟨X, p, cp, rfl, hX, hS, hev, hb⟩ := hcut
          have HS := Lib.hid hS
          have HEV2 := Lib.hid hev
          have HBC := Lib.hid hb
          have O1 := Lib.hid (owns_below HE.out hb)
          obtain ⟨q0, q1, q2, qf⟩ := hS.cells
          have hUk : k + U ≤ h.length := by have := HU.out.1; rw [List.length_drop] at this; omega
          have hw : IntKind.i64.wrap ((k : Int) + (U : Int)) = ((k + U : Nat) : Int) := by rw [IntWalk.i64_in _ (by omega)]; omega
          have hb5 : ∀ g5, Value.ownBlock u5 = some g5 → w.heap.size ≤ g5 ∧ g5 < wr.heap.size := fun g5 e => HE.out.lt g5 e
          have hE1E : E1.length + EV.length ≤ 3000000 := by have := HEV.out; omega
          clear hb hS hop
          rcases hev.2 with ⟨hn, hn0⟩ | ⟨g5, cap5, cur5, hn, hg5, _⟩
          · have hEV0 : EV = [] := List.eq_nil_of_length_eq_zero hn0
            subst hEV0
            cases hn
            clear hev
            go_wp2_with (at_builtin; refine wpList_append_own_none rfl _ _ 31 rfl w.heap.size 40 i41 2 und28 hi _ _ _ rfl O1.out rfl ?_)
            go_wp2_with fail
            go_ret2
            have e1 : runA .head (h.drop k) = (U, [], .head) := by have e0 := HST.out; simp only [HEVE.out] at e0; exact e0
            have e2 : runA m h = (k + U, E1 ++ [], .head) := by rw [HRun.out, e1]
            exact ⟨u5, by rw [e2]; simp, by rw [e2]; exact (by rw [List.append_nil]; exact O1.out), by rw [e2]; exact (HR1.out.below HBC.out), (HB.out.trans (But.of HBC.out))⟩
          · cases hn
            have hcells := fun j u (hj : (EV.flatMap evC)[j]? = some u) => World.ownsRow.cells hev rfl j u hj
            clear hev
            go_wp2_with (at_builtin; refine wpList_append_own _ rfl _ _ 31 rfl w.heap.size 40 i41 (.agg #[.string ⟨#[]⟩, .int .i64 0]) 2 24 und28 hi hz0 hz1 hz2 rfl (by decide) _ _ _ rfl O1.out ⟨g5, 0, none⟩ EV.length cp (EV.flatMap evC) rfl ?c1 hcells ?c2 ?c3 ?c4 ?c5 ?_)
            case c1 => simpa using evC_len EV
            case c2 => intro u x y _ hu; exact evC_two (x, y) u hu
            case c3 => unfold maxLen; omega
            case c4 => omega
            case c5 => have := HB.out.size; have := HBC.out.size; omega
            intro v' w7 hown hgrow _
            have O7 : Hid (EvsAt w.heap.size w7 v' (E1 ++ EV)) := Lib.hid (by unfold EvsAt; rw [List.length_append, List.flatMap_append]; exact hown)
            have hXb : some X ≠ Value.ownBlock u5 := fun e => by have := (hb5 X e.symm).2; omega
            have hbb : some b ≠ Value.ownBlock u5 := fun e => by have := (hb5 b e.symm).1; omega
            have HS7 : Hid (SBox w7 X (.int .i64 U) (.slice (some ⟨g5, 0, none⟩) EV.length cp) .nilFunc) := Lib.hid ((hgrow.block X (Array.getElem?_eq_some_iff.1 HS.out).1 hXb).trans HS.out)
            have HR7 : Hid (RCell w7 b (.slice (some ⟨g, 0, none⟩) h.length cap) .head) := Lib.hid ((hgrow.block b (Nat.lt_of_lt_of_le hbw HBC.out.size) hbb).trans (HR1.out.below HBC.out))
            have HB7 : Hid (But b w w7) := Lib.hid (but_grown HB.out HBC.out hgrow hb5)
            obtain ⟨q0, q1, q2, qf⟩ := HS7.out.cells
            obtain ⟨x0, x1, xf⟩ := HR7.out.cells
            clear hown hgrow
            go_wp2_with fail
            go_ret2
            have e1 : runA .head (h.drop k) = (U, EV, .head) := by have e0 := HST.out; simp only [HEVE.out] at e0; exact e0
            have e2 : runA m h = (k + U, E1 ++ EV, .head) := by rw [HRun.out, e1]
            exact ⟨v', by rw [e2]; simp, by rw [e2]; exact O7.out, by rw [e2]; exact HR7.out, HB7.out⟩
      | some m2 =>
        obtain ⟨f2, n2, hf2⟩ := fn_shape m2
        simp only [fnO] at hop
        rw [hf2] at hop
        go_wp2_with fail
        go_cut [6] from 7 to 35 (fun s6 wx => CutRel wr U EV (.func (.func f2) #[.agg #[.int .i64 n2]] #[]) s6 wx)
        case first =>
          by_cases hck : cap = k
          · have hq : (cap = k) = True := eq_true hck
            clear hck
            simp only [hq, if_true] at hop
            go_region_held3 (fun u => u.cell? ⟨b, 0, none⟩ = some (.slice (some ⟨g, 0, none⟩) h.length cap) ∧ u.cell? ⟨b, 1, none⟩ = some (.func (.func 13) #[.agg #[.int .i64 0]] #[])) (first | exact ⟨x0, x1⟩ | exact ⟨y0, y1⟩ | ((with_reducible (refine ⟨?_, ?_⟩ <;> (repeat' (first | assumption | refine keepD ?_ | refine keepA _ ?_ | refine (World.cell?_setCell_far _ _ _ _ ?_).trans ?_)))); done) | go_keep) (first | (go_at_call 13; (with_reducible refine Calls.mono (hop _ (Below.refl wr.heap.size wr).drew) ?_); rintro e w5 ⟨p, cp, rfl, hev, hb5⟩; have gg := (Below.refl wr.heap.size wr).drew.trans hb5; have y0 := (gg.cell (p := ⟨b, 0, none⟩) hbw).trans x0; have y1 := (gg.cell (p := ⟨b, 1, none⟩) hbw).trans x1; have nb : w5.heap.size ≠ b := (by have := gg.size; omega)) | (go_at_call 13; (with_reducible refine Calls.mono (hop _ ((Below.refl wr.heap.size wr).alloc (Nat.le_refl _) _).drew) ?_); rintro e w5 ⟨p, cp, rfl, hev, hb5⟩; have gg := ((Below.refl wr.heap.size wr).alloc (Nat.le_refl _) (.cells #[.int .i64 0, .slice none 0 0, .nilFunc] 56)).drew.trans (hb5.mono (by simp)); have y0 := (gg.cell (p := ⟨b, 0, none⟩) hbw).trans x0; have y1 := (gg.cell (p := ⟨b, 1, none⟩) hbw).trans x1; have nb : wr.heap.size ≠ b := (by omega); have hsb := SBox.below (w := (wr.alloc (.cells #[.int .i64 0, .slice none 0 0, .nilFunc] 56)).drew) (heap_alloc_new wr (.cells #[.int .i64 0, .slice none 0 0, .nilFunc] 56)) hb5; obtain ⟨q0, q1, q2, qf⟩ := hsb.cells))
            all_goals (go_wp2_with fail; go_meet)
            case rel => exact cut_new hev gg
            case rel => rw [alloc_size] at hev; exact cut_old hev gg (Nat.le_refl _) hsb
          · have hq : (cap = k) = False := eq_false hck
            clear hck
            simp only [hq, if_false] at hop
            go_region_held3 (fun u => u.cell? ⟨b, 0, none⟩ = some (.slice (some ⟨g, 0, none⟩) h.length cap) ∧ u.cell? ⟨b, 1, none⟩ = some (.func (.func 13) #[.agg #[.int .i64 0]] #[])) (first | exact ⟨x0, x1⟩ | exact ⟨y0, y1⟩ | ((with_reducible (refine ⟨?_, ?_⟩ <;> (repeat' (first | assumption | refine keepD ?_ | refine keepA _ ?_ | refine (World.cell?_setCell_far _ _ _ _ ?_).trans ?_)))); done) | go_keep) (first | (go_at_call 13; (with_reducible refine Calls.mono (hop _ (Below.refl wr.heap.size wr).drew) ?_); rintro e w5 ⟨p, cp, rfl, hev, hb5⟩; have gg := (Below.refl wr.heap.size wr).drew.trans hb5; have y0 := (gg.cell (p := ⟨b, 0, none⟩) hbw).trans x0; have y1 := (gg.cell (p := ⟨b, 1, none⟩) hbw).trans x1; have nb : w5.heap.size ≠ b := (by have := gg.size; omega)) | (go_at_call 13; (with_reducible refine Calls.mono (hop _ ((Below.refl wr.heap.size wr).alloc (Nat.le_refl _) _).drew) ?_); rintro e w5 ⟨p, cp, rfl, hev, hb5⟩; have gg := ((Below.refl wr.heap.size wr).alloc (Nat.le_refl _) (.cells #[.int .i64 0, .slice none 0 0, .nilFunc] 56)).drew.trans (hb5.mono (by simp)); have y0 := (gg.cell (p := ⟨b, 0, none⟩) hbw).trans x0; have y1 := (gg.cell (p := ⟨b, 1, none⟩) hbw).trans x1; have nb : wr.heap.size ≠ b := (by omega); have hsb := SBox.below (w := (wr.alloc (.cells #[.int .i64 0, .slice none 0 0, .nilFunc] 56)).drew) (heap_alloc_new wr (.cells #[.int .i64 0, .slice none 0 0, .nilFunc] 56)) hb5; obtain ⟨q0, q1, q2, qf⟩ := hsb.cells))
            all_goals (go_wp2_with fail; go_meet)
            case rel => exact cut_new hev gg
            case rel => rw [alloc_size] at hev; exact cut_old hev gg (Nat.le_refl _) hsb
        case rest =>
          obtain ⟨X, p, cp, rfl, hX, hS, hev, hb⟩ := hcut
          have HS := Lib.hid hS
          have HEV2 := Lib.hid hev
          have HBC := Lib.hid hb
          have O1 := Lib.hid (owns_below HE.out hb)
          obtain ⟨q0, q1, q2, qf⟩ := hS.cells
          have hUk : k + U ≤ h.length := by have := HU.out.1; rw [List.length_drop] at this; omega
          have hw : IntKind.i64.wrap ((k : Int) + (U : Int)) = ((k + U : Nat) : Int) := by rw [IntWalk.i64_in _ (by omega)]; omega
          have hb5 : ∀ g5, Value.ownBlock u5 = some g5 → w.heap.size ≤ g5 ∧ g5 < wr.heap.size := fun g5 e => HE.out.lt g5 e
          have hE1E : E1.length + EV.length ≤ 3000000 := by have := HEV.out; omega
          clear hb hS hop
          rcases hev.2 with ⟨hn, hn0⟩ | ⟨g5, cap5, cur5, hn, hg5, _⟩
          · have hEV0 : EV = [] := List.eq_nil_of_length_eq_zero hn0
            subst hEV0
            cases hn
            clear hev
            obtain ⟨x0, x1, xf⟩ := RCell.cells (HR1.out.below HBC.out)
            go_wp2_with (at_builtin; refine wpList_append_own_none rfl _ _ 31 rfl w.heap.size 40 i41 2 und28 hi _ _ _ rfl O1.out rfl ?_)
            go_wp2_with fail
            have hrc : RCell ((wc).setCell ⟨b, 1, none⟩ (.func (.func f2) #[.agg #[.int .i64 n2]] #[])) b (.slice (some ⟨g, 0, none⟩) h.length cap) m2 := by
              have := RCell.set1 (HR1.out.below HBC.out) m2
              rw [hf2] at this; exact this
            have hu2 := HU.out.2 m2 rfl
            rw [List.length_drop] at hu2
            have r1 := rankW_at HR1.out
            have r2 := rankW_at hrc
            have e1 : runA .head (h.drop k) = (U + (runA m2 ((h.drop k).drop U)).1, [] ++ (runA m2 ((h.drop k).drop U)).2.1, (runA m2 ((h.drop k).drop U)).2.2) := by have e0 := HST.out; simp only [HEVE.out] at e0; exact e0
            have e2 : runA m h = (k + U + (runA m2 (h.drop (k + U))).1, (E1 ++ []) ++ (runA m2 (h.drop (k + U))).2.1, (runA m2 (h.drop (k + U))).2.2) := by
              rw [HRun.out, e1, List.drop_drop]; simp only [Nat.add_assoc, List.append_assoc]
            go_roundw
            case rel => exact ⟨k + U, m2, E1 ++ [], by go_num, hUk, Lib.hid (evs_set (show EvsAt w.heap.size wc u5 (E1 ++ []) from by rw [List.append_nil]; exact O1.out) hbl), (by have := HEV.out; simp only [List.length_append, List.length_nil] at *; omega), Lib.hid hrc, Lib.hid ((HB.out.trans (But.of HBC.out)).trans (But.set _ _ _ _)), Lib.hid e2⟩
            case measure => rw [r1, r2]; simp [intOf]; omega
          · cases hn
            have hcells := fun j u (hj : (EV.flatMap evC)[j]? = some u) => World.ownsRow.cells hev rfl j u hj
            clear hev
            go_wp2_with (at_builtin; refine wpList_append_own _ rfl _ _ 31 rfl w.heap.size 40 i41 (.agg #[.string ⟨#[]⟩, .int .i64 0]) 2 24 und28 hi hz0 hz1 hz2 rfl (by decide) _ _ _ rfl O1.out ⟨g5, 0, none⟩ EV.length cp (EV.flatMap evC) rfl ?c1 hcells ?c2 ?c3 ?c4 ?c5 ?_)
            case c1 => simpa using evC_len EV
            case c2 => intro u x y _ hu; exact evC_two (x, y) u hu
            case c3 => unfold maxLen; omega
            case c4 => omega
            case c5 => have := HB.out.size; have := HBC.out.size; omega
            intro v' w7 hown hgrow _
            have O7 : Hid (EvsAt w.heap.size w7 v' (E1 ++ EV)) := Lib.hid (by unfold EvsAt; rw [List.length_append, List.flatMap_append]; exact hown)
            have hXb : some X ≠ Value.ownBlock u5 := fun e => by have := (hb5 X e.symm).2; omega
            have hbb : some b ≠ Value.ownBlock u5 := fun e => by have := (hb5 b e.symm).1; omega
            have HS7 : Hid (SBox w7 X (.int .i64 U) (.slice (some ⟨g5, 0, none⟩) EV.length cp) (.func (.func f2) #[.agg #[.int .i64 n2]] #[])) := Lib.hid ((hgrow.block X (Array.getElem?_eq_some_iff.1 HS.out).1 hXb).trans HS.out)
            have HR7 : Hid (RCell w7 b (.slice (some ⟨g, 0, none⟩) h.length cap) .head) := Lib.hid ((hgrow.block b (Nat.lt_of_lt_of_le hbw HBC.out.size) hbb).trans (HR1.out.below HBC.out))
            have HB7 : Hid (But b w w7) := Lib.hid (but_grown HB.out HBC.out hgrow hb5)
            obtain ⟨q0, q1, q2, qf⟩ := HS7.out.cells
            obtain ⟨x0, x1, xf⟩ := HR7.out.cells
            clear hown hgrow
            obtain ⟨x0, x1, xf⟩ := RCell.cells HR7.out
            go_wp2_with fail
            have hrc : RCell ((w7).setCell ⟨b, 1, none⟩ (.func (.func f2) #[.agg #[.int .i64 n2]] #[])) b (.slice (some ⟨g, 0, none⟩) h.length cap) m2 := by
              have := RCell.set1 HR7.out m2
              rw [hf2] at this; exact this
            have hu2 := HU.out.2 m2 rfl
            rw [List.length_drop] at hu2
            have r1 := rankW_at HR1.out
            have r2 := rankW_at hrc
            have e1 : runA .head (h.drop k) = (U + (runA m2 ((h.drop k).drop U)).1, EV ++ (runA m2 ((h.drop k).drop U)).2.1, (runA m2 ((h.drop k).drop U)).2.2) := by have e0 := HST.out; simp only [HEVE.out] at e0; exact e0
            have e2 : runA m h = (k + U + (runA m2 (h.drop (k + U))).1, (E1 ++ EV) ++ (runA m2 (h.drop (k + U))).2.1, (runA m2 (h.drop (k + U))).2.2) := by
              rw [HRun.out, e1, List.drop_drop]; simp only [Nat.add_assoc, List.append_assoc]
            go_roundw
            case rel => exact ⟨k + U, m2, E1 ++ EV, by go_num, hUk, Lib.hid (evs_set O7.out hbl), (by have := HEV.out; simp only [List.length_append] at *; omega), Lib.hid hrc, Lib.hid (HB7.out.trans (But.set _ _ _ _)), Lib.hid e2⟩
            case measure => rw [r1, r2]; simp [intOf]; omega
    | body n =>
      have hop := fun W' (hW : Below wr.heap.size wr W') => ops_body n g cap k h hk hc W' (hLr.out.below hW)
      simp only [fnOf] at x1
      generalize op (.body n) (h.drop k) = OPV at *
      obtain ⟨U, EV0, NX⟩ := OPV
      simp only at hop hu hst
      have HEV : Hid (EV0.toList.length ≤ 1) := Lib.hid (by cases EV0 <;> simp)
      generalize hEV : EV0.toList = EV at *
      have HST := Lib.hid hst
      have HU := Lib.hid hu
      have HEVE := Lib.hid hEV
      clear hst hu hEV
      cases NX with
      | none =>
        simp only [fnO] at hop
        go_wp2_with fail
        go_cut [6] from 7 to 35 (fun s6 wx => CutRel wr U EV .nilFunc s6 wx)
        case first =>
          by_cases hck : cap = k
          · have hq : (cap = k) = True := eq_true hck
            clear hck
            simp only [hq, if_true] at hop
            go_region_held3 (fun u => u.cell? ⟨b, 0, none⟩ = some (.slice (some ⟨g, 0, none⟩) h.length cap) ∧ u.cell? ⟨b, 1, none⟩ = some (.func (.func 21) #[.agg #[.int .i64 n]] #[])) (first | exact ⟨x0, x1⟩ | exact ⟨y0, y1⟩ | ((with_reducible (refine ⟨?_, ?_⟩ <;> (repeat' (first | assumption | refine keepD ?_ | refine keepA _ ?_ | refine (World.cell?_setCell_far _ _ _ _ ?_).trans ?_)))); done) | go_keep) (first | (go_at_call 21; (with_reducible refine Calls.mono (hop _ (Below.refl wr.heap.size wr).drew) ?_); rintro e w5 ⟨p, cp, rfl, hev, hb5⟩; have gg := (Below.refl wr.heap.size wr).drew.trans hb5; have y0 := (gg.cell (p := ⟨b, 0, none⟩) hbw).trans x0; have y1 := (gg.cell (p := ⟨b, 1, none⟩) hbw).trans x1; have nb : w5.heap.size ≠ b := (by have := gg.size; omega)) | (go_at_call 21; (with_reducible refine Calls.mono (hop _ ((Below.refl wr.heap.size wr).alloc (Nat.le_refl _) _).drew) ?_); rintro e w5 ⟨p, cp, rfl, hev, hb5⟩; have gg := ((Below.refl wr.heap.size wr).alloc (Nat.le_refl _) (.cells #[.int .i64 0, .slice none 0 0, .nilFunc] 56)).drew.trans (hb5.mono (by simp)); have y0 := (gg.cell (p := ⟨b, 0, none⟩) hbw).trans x0; have y1 := (gg.cell (p := ⟨b, 1, none⟩) hbw).trans x1; have nb : wr.heap.size ≠ b := (by omega); have hsb := SBox.below (w := (wr.alloc (.cells #[.int .i64 0, .slice none 0 0, .nilFunc] 56)).drew) (heap_alloc_new wr (.cells #[.int .i64 0, .slice none 0 0, .nilFunc] 56)) hb5; obtain ⟨q0, q1, q2, qf⟩ := hsb.cells))
            all_goals (go_wp2_with fail; go_meet)
            case rel => exact cut_new hev gg
            case rel => rw [alloc_size] at hev; exact cut_old hev gg (Nat.le_refl _) hsb
          · have hq : (cap = k) = False := eq_false hck
            clear hck
            simp only [hq, if_false] at hop
            go_region_held3 (fun u => u.cell? ⟨b, 0, none⟩ = some (.slice (some ⟨g, 0, none⟩) h.length cap) ∧ u.cell? ⟨b, 1, none⟩ = some (.func (.func 21) #[.agg #[.int .i64 n]] #[])) (first | exact ⟨x0, x1⟩ | exact ⟨y0, y1⟩ | ((with_reducible (refine ⟨?_, ?_⟩ <;> (repeat' (first | assumption | refine keepD ?_ | refine keepA _ ?_ | refine (World.cell?_setCell_far _ _ _ _ ?_).trans ?_)))); done) | go_keep) (first | (go_at_call 21; (with_reducible refine Calls.mono (hop _ (Below.refl wr.heap.size wr).drew) ?_); rintro e w5 ⟨p, cp, rfl, hev, hb5⟩; have gg := (Below.refl wr.heap.size wr).drew.trans hb5; have y0 := (gg.cell (p := ⟨b, 0, none⟩) hbw).trans x0; have y1 := (gg.cell (p := ⟨b, 1, none⟩) hbw).trans x1; have nb : w5.heap.size ≠ b := (by have := gg.size; omega)) | (go_at_call 21; (with_reducible refine Calls.mono (hop _ ((Below.refl wr.heap.size wr).alloc (Nat.le_refl _) _).drew) ?_); rintro e w5 ⟨p, cp, rfl, hev, hb5⟩; have gg := ((Below.refl wr.heap.size wr).alloc (Nat.le_refl _) (.cells #[.int .i64 0, .slice none 0 0, .nilFunc] 56)).drew.trans (hb5.mono (by simp)); have y0 := (gg.cell (p := ⟨b, 0, none⟩) hbw).trans x0; have y1 := (gg.cell (p := ⟨b, 1, none⟩) hbw).trans x1; have nb : wr.heap.size ≠ b := (by omega); have hsb := SBox.below (w := (wr.alloc (.cells #[.int .i64 0, .slice none 0 0, .nilFunc] 56)).drew) (heap_alloc_new wr (.cells #[.int .i64 0, .slice none 0 0, .nilFunc] 56)) hb5; obtain ⟨q0, q1, q2, qf⟩ := hsb.cells))
            all_goals (go_wp2_with fail; go_meet)
            case rel => exact cut_new hev gg
            case rel => rw [alloc_size] at hev; exact cut_old hev gg (Nat.le_refl _) hsb
        case rest =>
          obtain ⟨X, p, cp, rfl, hX, hS, hev, hb⟩ := hcut
          have HS := Lib.hid hS
          have HEV2 := Lib.hid hev
          have HBC := Lib.hid hb
          have O1 := Lib.hid (owns_below HE.out hb)
          obtain ⟨q0, q1, q2, qf⟩ := hS.cells
          have hUk : k + U ≤ h.length := by have := HU.out.1; rw [List.length_drop] at this; omega
          have hw : IntKind.i64.wrap ((k : Int) + (U : Int)) = ((k + U : Nat) : Int) := by rw [IntWalk.i64_in _ (by omega)]; omega
          have hb5 : ∀ g5, Value.ownBlock u5 = some g5 → w.heap.size ≤ g5 ∧ g5 < wr.heap.size := fun g5 e => HE.out.lt g5 e
          have hE1E : E1.length + EV.length ≤ 3000000 := by have := HEV.out; omega
          clear hb hS hop
          rcases hev.2 with ⟨hn, hn0⟩ | ⟨g5, cap5, cur5, hn, hg5, _⟩
          · have hEV0 : EV = [] := List.eq_nil_of_length_eq_zero hn0
            subst hEV0
            cases hn
            clear hev
            go_wp2_with (at_builtin; refine wpList_append_own_none rfl _ _ 31 rfl w.heap.size 40 i41 2 und28 hi _ _ _ rfl O1.out rfl ?_)
            go_wp2_with fail
            go_ret2
            have e1 : runA (.body n) (h.drop k) = (U, [], (.body n)) := by have e0 := HST.out; simp only [HEVE.out] at e0; exact e0
            have e2 : runA m h = (k + U, E1 ++ [], (.body n)) := by rw [HRun.out, e1]
            exact ⟨u5, by rw [e2]; simp, by rw [e2]; exact (by rw [List.append_nil]; exact O1.out), by rw [e2]; exact (HR1.out.below HBC.out), (HB.out.trans (But.of HBC.out))⟩
          · cases hn
            have hcells := fun j u (hj : (EV.flatMap evC)[j]? = some u) => World.ownsRow.cells hev rfl j u hj
            clear hev
            go_wp2_with (at_builtin; refine wpList_append_own _ rfl _ _ 31 rfl w.heap.size 40 i41 (.agg #[.string ⟨#[]⟩, .int .i64 0]) 2 24 und28 hi hz0 hz1 hz2 rfl (by decide) _ _ _ rfl O1.out ⟨g5, 0, none⟩ EV.length cp (EV.flatMap evC) rfl ?c1 hcells ?c2 ?c3 ?c4 ?c5 ?_)
            case c1 => simpa using evC_len EV
            case c2 => intro u x y _ hu; exact evC_two (x, y) u hu
            case c3 => unfold maxLen; omega
            case c4 => omega
            case c5 => have := HB.out.size; have := HBC.out.size; omega
            intro v' w7 hown hgrow _
            have O7 : Hid (EvsAt w.heap.size w7 v' (E1 ++ EV)) := Lib.hid (by unfold EvsAt; rw [List.length_append, List.flatMap_append]; exact hown)
            have hXb : some X ≠ Value.ownBlock u5 := fun e => by have := (hb5 X e.symm).2; omega
            have hbb : some b ≠ Value.ownBlock u5 := fun e => by have := (hb5 b e.symm).1; omega
            have HS7 : Hid (SBox w7 X (.int .i64 U) (.slice (some ⟨g5, 0, none⟩) EV.length cp) .nilFunc) := Lib.hid ((hgrow.block X (Array.getElem?_eq_some_iff.1 HS.out).1 hXb).trans HS.out)
            have HR7 : Hid (RCell w7 b (.slice (some ⟨g, 0, none⟩) h.length cap) (.body n)) := Lib.hid ((hgrow.block b (Nat.lt_of_lt_of_le hbw HBC.out.size) hbb).trans (HR1.out.below HBC.out))
            have HB7 : Hid (But b w w7) := Lib.hid (but_grown HB.out HBC.out hgrow hb5)
            obtain ⟨q0, q1, q2, qf⟩ := HS7.out.cells
            obtain ⟨x0, x1, xf⟩ := HR7.out.cells
            clear hown hgrow
            go_wp2_with fail
            go_ret2
            have e1 : runA (.body n) (h.drop k) = (U, EV, (.body n)) := by have e0 := HST.out; simp only [HEVE.out] at e0; exact e0
            have e2 : runA m h = (k + U, E1 ++ EV, (.body n)) := by rw [HRun.out, e1]
            exact ⟨v', by rw [e2]; simp, by rw [e2]; exact O7.out, by rw [e2]; exact HR7.out, HB7.out⟩
      | some m2 =>
        obtain ⟨f2, n2, hf2⟩ := fn_shape m2
        simp only [fnO] at hop
        rw [hf2] at hop
        go_wp2_with fail
        go_cut [6] from 7 to 35 (fun s6 wx => CutRel wr U EV (.func (.func f2) #[.agg #[.int .i64 n2]] #[]) s6 wx)
        case first =>
          by_cases hck : cap = k
          · have hq : (cap = k) = True := eq_true hck
            clear hck
            simp only [hq, if_true] at hop
            go_region_held3 (fun u => u.cell? ⟨b, 0, none⟩ = some (.slice (some ⟨g, 0, none⟩) h.length cap) ∧ u.cell? ⟨b, 1, none⟩ = some (.func (.func 21) #[.agg #[.int .i64 n]] #[])) (first | exact ⟨x0, x1⟩ | exact ⟨y0, y1⟩ | ((with_reducible (refine ⟨?_, ?_⟩ <;> (repeat' (first | assumption | refine keepD ?_ | refine keepA _ ?_ | refine (World.cell?_setCell_far _ _ _ _ ?_).trans ?_)))); done) | go_keep) (first | (go_at_call 21; (with_reducible refine Calls.mono (hop _ (Below.refl wr.heap.size wr).drew) ?_); rintro e w5 ⟨p, cp, rfl, hev, hb5⟩; have gg := (Below.refl wr.heap.size wr).drew.trans hb5; have y0 := (gg.cell (p := ⟨b, 0, none⟩) hbw).trans x0; have y1 := (gg.cell (p := ⟨b, 1, none⟩) hbw).trans x1; have nb : w5.heap.size ≠ b := (by have := gg.size; omega)) | (go_at_call 21; (with_reducible refine Calls.mono (hop _ ((Below.refl wr.heap.size wr).alloc (Nat.le_refl _) _).drew) ?_); rintro e w5 ⟨p, cp, rfl, hev, hb5⟩; have gg := ((Below.refl wr.heap.size wr).alloc (Nat.le_refl _) (.cells #[.int .i64 0, .slice none 0 0, .nilFunc] 56)).drew.trans (hb5.mono (by simp)); have y0 := (gg.cell (p := ⟨b, 0, none⟩) hbw).trans x0; have y1 := (gg.cell (p := ⟨b, 1, none⟩) hbw).trans x1; have nb : wr.heap.size ≠ b := (by omega); have hsb := SBox.below (w := (wr.alloc (.cells #[.int .i64 0, .slice none 0 0, .nilFunc] 56)).drew) (heap_alloc_new wr (.cells #[.int .i64 0, .slice none 0 0, .nilFunc] 56)) hb5; obtain ⟨q0, q1, q2, qf⟩ := hsb.cells))
            all_goals (go_wp2_with fail; go_meet)
            case rel => exact cut_new hev gg
            case rel => rw [alloc_size] at hev; exact cut_old hev gg (Nat.le_refl _) hsb
          · have hq : (cap = k) = False := eq_false hck
            clear hck
            simp only [hq, if_false] at hop
            go_region_held3 (fun u => u.cell? ⟨b, 0, none⟩ = some (.slice (some ⟨g, 0, none⟩) h.length cap) ∧ u.cell? ⟨b, 1, none⟩ = some (.func (.func 21) #[.agg #[.int .i64 n]] #[])) (first | exact ⟨x0, x1⟩ | exact ⟨y0, y1⟩ | ((with_reducible (refine ⟨?_, ?_⟩ <;> (repeat' (first | assumption | refine keepD ?_ | refine keepA _ ?_ | refine (World.cell?_setCell_far _ _ _ _ ?_).trans ?_)))); done) | go_keep) (first | (go_at_call 21; (with_reducible refine Calls.mono (hop _ (Below.refl wr.heap.size wr).drew) ?_); rintro e w5 ⟨p, cp, rfl, hev, hb5⟩; have gg := (Below.refl wr.heap.size wr).drew.trans hb5; have y0 := (gg.cell (p := ⟨b, 0, none⟩) hbw).trans x0; have y1 := (gg.cell (p := ⟨b, 1, none⟩) hbw).trans x1; have nb : w5.heap.size ≠ b := (by have := gg.size; omega)) | (go_at_call 21; (with_reducible refine Calls.mono (hop _ ((Below.refl wr.heap.size wr).alloc (Nat.le_refl _) _).drew) ?_); rintro e w5 ⟨p, cp, rfl, hev, hb5⟩; have gg := ((Below.refl wr.heap.size wr).alloc (Nat.le_refl _) (.cells #[.int .i64 0, .slice none 0 0, .nilFunc] 56)).drew.trans (hb5.mono (by simp)); have y0 := (gg.cell (p := ⟨b, 0, none⟩) hbw).trans x0; have y1 := (gg.cell (p := ⟨b, 1, none⟩) hbw).trans x1; have nb : wr.heap.size ≠ b := (by omega); have hsb := SBox.below (w := (wr.alloc (.cells #[.int .i64 0, .slice none 0 0, .nilFunc] 56)).drew) (heap_alloc_new wr (.cells #[.int .i64 0, .slice none 0 0, .nilFunc] 56)) hb5; obtain ⟨q0, q1, q2, qf⟩ := hsb.cells))
            all_goals (go_wp2_with fail; go_meet)
            case rel => exact cut_new hev gg
            case rel => rw [alloc_size] at hev; exact cut_old hev gg (Nat.le_refl _) hsb
        case rest =>
          obtain ⟨X, p, cp, rfl, hX, hS, hev, hb⟩ := hcut
          have HS := Lib.hid hS
          have HEV2 := Lib.hid hev
          have HBC := Lib.hid hb
          have O1 := Lib.hid (owns_below HE.out hb)
          obtain ⟨q0, q1, q2, qf⟩ := hS.cells
          have hUk : k + U ≤ h.length := by have := HU.out.1; rw [List.length_drop] at this; omega
          have hw : IntKind.i64.wrap ((k : Int) + (U : Int)) = ((k + U : Nat) : Int) := by rw [IntWalk.i64_in _ (by omega)]; omega
          have hb5 : ∀ g5, Value.ownBlock u5 = some g5 → w.heap.size ≤ g5 ∧ g5 < wr.heap.size := fun g5 e => HE.out.lt g5 e
          have hE1E : E1.length + EV.length ≤ 3000000 := by have := HEV.out; omega
          clear hb hS hop
          rcases hev.2 with ⟨hn, hn0⟩ | ⟨g5, cap5, cur5, hn, hg5, _⟩
          · have hEV0 : EV = [] := List.eq_nil_of_length_eq_zero hn0
            subst hEV0
            cases hn
            clear hev
            obtain ⟨x0, x1, xf⟩ := RCell.cells (HR1.out.below HBC.out)
            go_wp2_with (at_builtin; refine wpList_append_own_none rfl _ _ 31 rfl w.heap.size 40 i41 2 und28 hi _ _ _ rfl O1.out rfl ?_)
            go_wp2_with fail
            have hrc : RCell ((wc).setCell ⟨b, 1, none⟩ (.func (.func f2) #[.agg #[.int .i64 n2]] #[])) b (.slice (some ⟨g, 0, none⟩) h.length cap) m2 := by
              have := RCell.set1 (HR1.out.below HBC.out) m2
              rw [hf2] at this; exact this
            have hu2 := HU.out.2 m2 rfl
            rw [List.length_drop] at hu2
            have r1 := rankW_at HR1.out
            have r2 := rankW_at hrc
            have e1 : runA (.body n) (h.drop k) = (U + (runA m2 ((h.drop k).drop U)).1, [] ++ (runA m2 ((h.drop k).drop U)).2.1, (runA m2 ((h.drop k).drop U)).2.2) := by have e0 := HST.out; simp only [HEVE.out] at e0; exact e0
            have e2 : runA m h = (k + U + (runA m2 (h.drop (k + U))).1, (E1 ++ []) ++ (runA m2 (h.drop (k + U))).2.1, (runA m2 (h.drop (k + U))).2.2) := by
              rw [HRun.out, e1, List.drop_drop]; simp only [Nat.add_assoc, List.append_assoc]
            go_roundw
            case rel => exact ⟨k + U, m2, E1 ++ [], by go_num, hUk, Lib.hid (evs_set (show EvsAt w.heap.size wc u5 (E1 ++ []) from by rw [List.append_nil]; exact O1.out) hbl), (by have := HEV.out; simp only [List.length_append, List.length_nil] at *; omega), Lib.hid hrc, Lib.hid ((HB.out.trans (But.of HBC.out)).trans (But.set _ _ _ _)), Lib.hid e2⟩
            case measure => rw [r1, r2]; simp [intOf]; omega
          · cases hn
            have hcells := fun j u (hj : (EV.flatMap evC)[j]? = some u) => World.ownsRow.cells hev rfl j u hj
            clear hev
            go_wp2_with (at_builtin; refine wpList_append_own _ rfl _ _ 31 rfl w.heap.size 40 i41 (.agg #[.string ⟨#[]⟩, .int .i64 0]) 2 24 und28 hi hz0 hz1 hz2 rfl (by decide) _ _ _ rfl O1.out ⟨g5, 0, none⟩ EV.length cp (EV.flatMap evC) rfl ?c1 hcells ?c2 ?c3 ?c4 ?c5 ?_)
            case c1 => simpa using evC_len EV
            case c2 => intro u x y _ hu; exact evC_two (x, y) u hu
            case c3 => unfold maxLen; omega
            case c4 => omega
            case c5 => have := HB.out.size; have := HBC.out.size; omega
            intro v' w7 hown hgrow _
            have O7 : Hid (EvsAt w.heap.size w7 v' (E1 ++ EV)) := Lib.hid (by unfold EvsAt; rw [List.length_append, List.flatMap_append]; exact hown)
            have hXb : some X ≠ Value.ownBlock u5 := fun e => by have := (hb5 X e.symm).2; omega
            have hbb : some b ≠ Value.ownBlock u5 := fun e => by have := (hb5 b e.symm).1; omega
            have HS7 : Hid (SBox w7 X (.int .i64 U) (.slice (some ⟨g5, 0, none⟩) EV.length cp) (.func (.func f2) #[.agg #[.int .i64 n2]] #[])) := Lib.hid ((hgrow.block X (Array.getElem?_eq_some_iff.1 HS.out).1 hXb).trans HS.out)
            have HR7 : Hid (RCell w7 b (.slice (some ⟨g, 0, none⟩) h.length cap) (.body n)) := Lib.hid ((hgrow.block b (Nat.lt_of_lt_of_le hbw HBC.out.size) hbb).trans (HR1.out.below HBC.out))
            have HB7 : Hid (But b w w7) := Lib.hid (but_grown HB.out HBC.out hgrow hb5)
            obtain ⟨q0, q1, q2, qf⟩ := HS7.out.cells
            obtain ⟨x0, x1, xf⟩ := HR7.out.cells
            clear hown hgrow
            obtain ⟨x0, x1, xf⟩ := RCell.cells HR7.out
            go_wp2_with fail
            have hrc : RCell ((w7).setCell ⟨b, 1, none⟩ (.func (.func f2) #[.agg #[.int .i64 n2]] #[])) b (.slice (some ⟨g, 0, none⟩) h.length cap) m2 := by
              have := RCell.set1 HR7.out m2
              rw [hf2] at this; exact this
            have hu2 := HU.out.2 m2 rfl
            rw [List.length_drop] at hu2
            have r1 := rankW_at HR1.out
            have r2 := rankW_at hrc
            have e1 : runA (.body n) (h.drop k) = (U + (runA m2 ((h.drop k).drop U)).1, EV ++ (runA m2 ((h.drop k).drop U)).2.1, (runA m2 ((h.drop k).drop U)).2.2) := by have e0 := HST.out; simp only [HEVE.out] at e0; exact e0
            have e2 : runA m h = (k + U + (runA m2 (h.drop (k + U))).1, (E1 ++ EV) ++ (runA m2 (h.drop (k + U))).2.1, (runA m2 (h.drop (k + U))).2.2) := by
              rw [HRun.out, e1, List.drop_drop]; simp only [Nat.add_assoc, List.append_assoc]
            go_roundw
            case rel => exact ⟨k + U, m2, E1 ++ EV, by go_num, hUk, Lib.hid (evs_set O7.out hbl), (by have := HEV.out; simp only [List.length_append] at *; omega), Lib.hid hrc, Lib.hid (HB7.out.trans (But.set _ _ _ _)), Lib.hid e2⟩
            case measure => rw [r1, r2]; simp [intOf]; omega
    | skip =>
      have hop := fun W' (hW : Below wr.heap.size wr W') => ops_skip g cap k h hk hc hz W' (hTr.out.below hW) (hLr.out.below hW)
      simp only [fnOf] at x1
      generalize op .skip (h.drop k) = OPV at *
      obtain ⟨U, EV0, NX⟩ := OPV
      simp only at hop hu hst
      have HEV : Hid (EV0.toList.length ≤ 1) := Lib.hid (by cases EV0 <;> simp)
      generalize hEV : EV0.toList = EV at *
      have HST := Lib.hid hst
      have HU := Lib.hid hu
      have HEVE := Lib.hid hEV
      clear hst hu hEV
      cases NX with
      | none =>
        simp only [fnO] at hop
        go_wp2_with fail
        go_cut [6] from 7 to 35 (fun s6 wx => CutRel wr U EV .nilFunc s6 wx)
        case first =>
          by_cases hck : cap = k
          · have hq : (cap = k) = True := eq_true hck
            clear hck
            simp only [hq, if_true] at hop
            go_region_held3 (fun u => u.cell? ⟨b, 0, none⟩ = some (.slice (some ⟨g, 0, none⟩) h.length cap) ∧ u.cell? ⟨b, 1, none⟩ = some (.func (.func 30) #[.agg #[.int .i64 0]] #[])) (first | exact ⟨x0, x1⟩ | exact ⟨y0, y1⟩ | ((with_reducible (refine ⟨?_, ?_⟩ <;> (repeat' (first | assumption | refine keepD ?_ | refine keepA _ ?_ | refine (World.cell?_setCell_far _ _ _ _ ?_).trans ?_)))); done) | go_keep) (first | (go_at_call 30; (with_reducible refine Calls.mono (hop _ (Below.refl wr.heap.size wr).drew) ?_); rintro e w5 ⟨p, cp, rfl, hev, hb5⟩; have gg := (Below.refl wr.heap.size wr).drew.trans hb5; have y0 := (gg.cell (p := ⟨b, 0, none⟩) hbw).trans x0; have y1 := (gg.cell (p := ⟨b, 1, none⟩) hbw).trans x1; have nb : w5.heap.size ≠ b := (by have := gg.size; omega)) | (go_at_call 30; (with_reducible refine Calls.mono (hop _ ((Below.refl wr.heap.size wr).alloc (Nat.le_refl _) _).drew) ?_); rintro e w5 ⟨p, cp, rfl, hev, hb5⟩; have gg := ((Below.refl wr.heap.size wr).alloc (Nat.le_refl _) (.cells #[.int .i64 0, .slice none 0 0, .nilFunc] 56)).drew.trans (hb5.mono (by simp)); have y0 := (gg.cell (p := ⟨b, 0, none⟩) hbw).trans x0; have y1 := (gg.cell (p := ⟨b, 1, none⟩) hbw).trans x1; have nb : wr.heap.size ≠ b := (by omega); have hsb := SBox.below (w := (wr.alloc (.cells #[.int .i64 0, .slice none 0 0, .nilFunc] 56)).drew) (heap_alloc_new wr (.cells #[.int .i64 0, .slice none 0 0, .nilFunc] 56)) hb5; obtain ⟨q0, q1, q2, qf⟩ := hsb.cells))
            all_goals (go_wp2_with fail; go_meet)
            case rel => exact cut_new hev gg
            case rel => rw [alloc_size] at hev; exact cut_old hev gg (Nat.le_refl _) hsb
          · have hq : (cap = k) = False := eq_false hck
            clear hck
            simp only [hq, if_false] at hop
            go_region_held3 (fun u => u.cell? ⟨b, 0, none⟩ = some (.slice (some ⟨g, 0, none⟩) h.length cap) ∧ u.cell? ⟨b, 1, none⟩ = some (.func (.func 30) #[.agg #[.int .i64 0]] #[])) (first | exact ⟨x0, x1⟩ | exact ⟨y0, y1⟩ | ((with_reducible (refine ⟨?_, ?_⟩ <;> (repeat' (first | assumption | refine keepD ?_ | refine keepA _ ?_ | refine (World.cell?_setCell_far _ _ _ _ ?_).trans ?_)))); done) | go_keep) (first | (go_at_call 30; (with_reducible refine Calls.mono (hop _ (Below.refl wr.heap.size wr).drew) ?_); rintro e w5 ⟨p, cp, rfl, hev, hb5⟩; have gg := (Below.refl wr.heap.size wr).drew.trans hb5; have y0 := (gg.cell (p := ⟨b, 0, none⟩) hbw).trans x0; have y1 := (gg.cell (p := ⟨b, 1, none⟩) hbw).trans x1; have nb : w5.heap.size ≠ b := (by have := gg.size; omega)) | (go_at_call 30; (with_reducible refine Calls.mono (hop _ ((Below.refl wr.heap.size wr).alloc (Nat.le_refl _) _).drew) ?_); rintro e w5 ⟨p, cp, rfl, hev, hb5⟩; have gg := ((Below.refl wr.heap.size wr).alloc (Nat.le_refl _) (.cells #[.int .i64 0, .slice none 0 0, .nilFunc] 56)).drew.trans (hb5.mono (by simp)); have y0 := (gg.cell (p := ⟨b, 0, none⟩) hbw).trans x0; have y1 := (gg.cell (p := ⟨b, 1, none⟩) hbw).trans x1; have nb : wr.heap.size ≠ b := (by omega); have hsb := SBox.below (w := (wr.alloc (.cells #[.int .i64 0, .slice none 0 0, .nilFunc] 56)).drew) (heap_alloc_new wr (.cells #[.int .i64 0, .slice none 0 0, .nilFunc] 56)) hb5; obtain ⟨q0, q1, q2, qf⟩ := hsb.cells))
            all_goals (go_wp2_with fail; go_meet)
            case rel => exact cut_new hev gg
            case rel => rw [alloc_size] at hev; exact cut_old hev gg (Nat.le_refl _) hsb
        case rest =>
          obtain ⟨X, p, cp, rfl, hX, hS, hev, hb⟩ := hcut
          have HS := Lib.hid hS
          have HEV2 := Lib.hid hev
          have HBC := Lib.hid hb
          have O1 := Lib.hid (owns_below HE.out hb)
          obtain ⟨q0, q1, q2, qf⟩ := hS.cells
          have hUk : k + U ≤ h.length := by have := HU.out.1; rw [List.length_drop] at this; omega
          have hw : IntKind.i64.wrap ((k : Int) + (U : Int)) = ((k + U : Nat) : Int) := by rw [IntWalk.i64_in _ (by omega)]; omega
          have hb5 : ∀ g5, Value.ownBlock u5 = some g5 → w.heap.size ≤ g5 ∧ g5 < wr.heap.size := fun g5 e => HE.out.lt g5 e
          have hE1E : E1.length + EV.length ≤ 3000000 := by have := HEV.out; omega
          clear hb hS hop
          rcases hev.2 with ⟨hn, hn0⟩ | ⟨g5, cap5, cur5, hn, hg5, _⟩
          · have hEV0 : EV = [] := List.eq_nil_of_length_eq_zero hn0
            subst hEV0
            cases hn
            clear hev
            go_wp2_with (at_builtin; refine wpList_append_own_none rfl _ _ 31 rfl w.heap.size 40 i41 2 und28 hi _ _ _ rfl O1.out rfl ?_)
            go_wp2_with fail
            go_ret2
            have e1 : runA .skip (h.drop k) = (U, [], .skip) := by have e0 := HST.out; simp only [HEVE.out] at e0; exact e0
            have e2 : runA m h = (k + U, E1 ++ [], .skip) := by rw [HRun.out, e1]
            exact ⟨u5, by rw [e2]; simp, by rw [e2]; exact (by rw [List.append_nil]; exact O1.out), by rw [e2]; exact (HR1.out.below HBC.out), (HB.out.trans (But.of HBC.out))⟩
          · cases hn
            have hcells := fun j u (hj : (EV.flatMap evC)[j]? = some u) => World.ownsRow.cells hev rfl j u hj
            clear hev
            go_wp2_with (at_builtin; refine wpList_append_own _ rfl _ _ 31 rfl w.heap.size 40 i41 (.agg #[.string ⟨#[]⟩, .int .i64 0]) 2 24 und28 hi hz0 hz1 hz2 rfl (by decide) _ _ _ rfl O1.out ⟨g5, 0, none⟩ EV.length cp (EV.flatMap evC) rfl ?c1 hcells ?c2 ?c3 ?c4 ?c5 ?_)
            case c1 => simpa using evC_len EV
            case c2 => intro u x y _ hu; exact evC_two (x, y) u hu
            case c3 => unfold maxLen; omega
            case c4 => omega
            case c5 => have := HB.out.size; have := HBC.out.size; omega
            intro v' w7 hown hgrow _
            have O7 : Hid (EvsAt w.heap.size w7 v' (E1 ++ EV)) := Lib.hid (by unfold EvsAt; rw [List.length_append, List.flatMap_append]; exact hown)
            have hXb : some X ≠ Value.ownBlock u5 := fun e => by have := (hb5 X e.symm).2; omega
            have hbb : some b ≠ Value.ownBlock u5 := fun e => by have := (hb5 b e.symm).1; omega
            have HS7 : Hid (SBox w7 X (.int .i64 U) (.slice (some ⟨g5, 0, none⟩) EV.length cp) .nilFunc) := Lib.hid ((hgrow.block X (Array.getElem?_eq_some_iff.1 HS.out).1 hXb).trans HS.out)
            have HR7 : Hid (RCell w7 b (.slice (some ⟨g, 0, none⟩) h.length cap) .skip) := Lib.hid ((hgrow.block b (Nat.lt_of_lt_of_le hbw HBC.out.size) hbb).trans (HR1.out.below HBC.out))
            have HB7 : Hid (But b w w7) := Lib.hid (but_grown HB.out HBC.out hgrow hb5)
            obtain ⟨q0, q1, q2, qf⟩ := HS7.out.cells
            obtain ⟨x0, x1, xf⟩ := HR7.out.cells
            clear hown hgrow
            go_wp2_with fail
            go_ret2
            have e1 : runA .skip (h.drop k) = (U, EV, .skip) := by have e0 := HST.out; simp only [HEVE.out] at e0; exact e0
            have e2 : runA m h = (k + U, E1 ++ EV, .skip) := by rw [HRun.out, e1]
            exact ⟨v', by rw [e2]; simp, by rw [e2]; exact O7.out, by rw [e2]; exact HR7.out, HB7.out⟩
      | some m2 =>
        obtain ⟨f2, n2, hf2⟩ := fn_shape m2
        simp only [fnO] at hop
        rw [hf2] at hop
        go_wp2_with fail
        go_cut [6] from 7 to 35 (fun s6 wx => CutRel wr U EV (.func (.func f2) #[.agg #[.int .i64 n2]] #[]) s6 wx)
        case first =>
          by_cases hck : cap = k
          · have hq : (cap = k) = True := eq_true hck
            clear hck
            simp only [hq, if_true] at hop
            go_region_held3 (fun u => u.cell? ⟨b, 0, none⟩ = some (.slice (some ⟨g, 0, none⟩) h.length cap) ∧ u.cell? ⟨b, 1, none⟩ = some (.func (.func 30) #[.agg #[.int .i64 0]] #[])) (first | exact ⟨x0, x1⟩ | exact ⟨y0, y1⟩ | ((with_reducible (refine ⟨?_, ?_⟩ <;> (repeat' (first | assumption | refine keepD ?_ | refine keepA _ ?_ | refine (World.cell?_setCell_far _ _ _ _ ?_).trans ?_)))); done) | go_keep) (first | (go_at_call 30; (with_reducible refine Calls.mono (hop _ (Below.refl wr.heap.size wr).drew) ?_); rintro e w5 ⟨p, cp, rfl, hev, hb5⟩; have gg := (Below.refl wr.heap.size wr).drew.trans hb5; have y0 := (gg.cell (p := ⟨b, 0, none⟩) hbw).trans x0; have y1 := (gg.cell (p := ⟨b, 1, none⟩) hbw).trans x1; have nb : w5.heap.size ≠ b := (by have := gg.size; omega)) | (go_at_call 30; (with_reducible refine Calls.mono (hop _ ((Below.refl wr.heap.size wr).alloc (Nat.le_refl _) _).drew) ?_); rintro e w5 ⟨p, cp, rfl, hev, hb5⟩; have gg := ((Below.refl wr.heap.size wr).alloc (Nat.le_refl _) (.cells #[.int .i64 0, .slice none 0 0, .nilFunc] 56)).drew.trans (hb5.mono (by simp)); have y0 := (gg.cell (p := ⟨b, 0, none⟩) hbw).trans x0; have y1 := (gg.cell (p := ⟨b, 1, none⟩) hbw).trans x1; have nb : wr.heap.size ≠ b := (by omega); have hsb := SBox.below (w := (wr.alloc (.cells #[.int .i64 0, .slice none 0 0, .nilFunc] 56)).drew) (heap_alloc_new wr (.cells #[.int .i64 0, .slice none 0 0, .nilFunc] 56)) hb5; obtain ⟨q0, q1, q2, qf⟩ := hsb.cells))
            all_goals (go_wp2_with fail; go_meet)
            case rel => exact cut_new hev gg
            case rel => rw [alloc_size] at hev; exact cut_old hev gg (Nat.le_refl _) hsb
          · have hq : (cap = k) = False := eq_false hck
            clear hck
            simp only [hq, if_false] at hop
            go_region_held3 (fun u => u.cell? ⟨b, 0, none⟩ = some (.slice (some ⟨g, 0, none⟩) h.length cap) ∧ u.cell? ⟨b, 1, none⟩ = some (.func (.func 30) #[.agg #[.int .i64 0]] #[])) (first | exact ⟨x0, x1⟩ | exact ⟨y0, y1⟩ | ((with_reducible (refine ⟨?_, ?_⟩ <;> (repeat' (first | assumption | refine keepD ?_ | refine keepA _ ?_ | refine (World.cell?_setCell_far _ _ _ _ ?_).trans ?_)))); done) | go_keep) (first | (go_at_call 30; (with_reducible refine Calls.mono (hop _ (Below.refl wr.heap.size wr).drew) ?_); rintro e w5 ⟨p, cp, rfl, hev, hb5⟩; have gg := (Below.refl wr.heap.size wr).drew.trans hb5; have y0 := (gg.cell (p := ⟨b, 0, none⟩) hbw).trans x0; have y1 := (gg.cell (p := ⟨b, 1, none⟩) hbw).trans x1; have nb : w5.heap.size ≠ b := (by have := gg.size; omega)) | (go_at_call 30; (with_reducible refine Calls.mono (hop _ ((Below.refl wr.heap.size wr).alloc (Nat.le_refl _) _).drew) ?_); rintro e w5 ⟨p, cp, rfl, hev, hb5⟩; have gg := ((Below.refl wr.heap.size wr).alloc (Nat.le_refl _) (.cells #[.int .i64 0, .slice none 0 0, .nilFunc] 56)).drew.trans (hb5.mono (by simp)); have y0 := (gg.cell (p := ⟨b, 0, none⟩) hbw).trans x0; have y1 := (gg.cell (p := ⟨b, 1, none⟩) hbw).trans x1; have nb : wr.heap.size ≠ b := (by omega); have hsb := SBox.below (w := (wr.alloc (.cells #[.int .i64 0, .slice none 0 0, .nilFunc] 56)).drew) (heap_alloc_new wr (.cells #[.int .i64 0, .slice none 0 0, .nilFunc] 56)) hb5; obtain ⟨q0, q1, q2, qf⟩ := hsb.cells))
            all_goals (go_wp2_with fail; go_meet)
            case rel => exact cut_new hev gg
            case rel => rw [alloc_size] at hev; exact cut_old hev gg (Nat.le_refl _) hsb
        case rest =>
          obtain ⟨X, p, cp, rfl, hX, hS, hev, hb⟩ := hcut
          have HS := Lib.hid hS
          have HEV2 := Lib.hid hev
          have HBC := Lib.hid hb
          have O1 := Lib.hid (owns_below HE.out hb)
          obtain ⟨q0, q1, q2, qf⟩ := hS.cells
          have hUk : k + U ≤ h.length := by have := HU.out.1; rw [List.length_drop] at this; omega
          have hw : IntKind.i64.wrap ((k : Int) + (U : Int)) = ((k + U : Nat) : Int) := by rw [IntWalk.i64_in _ (by omega)]; omega
          have hb5 : ∀ g5, Value.ownBlock u5 = some g5 → w.heap.size ≤ g5 ∧ g5 < wr.heap.size := fun g5 e => HE.out.lt g5 e
          have hE1E : E1.length + EV.length ≤ 3000000 := by have := HEV.out; omega
          clear hb hS hop
          rcases hev.2 with ⟨hn, hn0⟩ | ⟨g5, cap5, cur5, hn, hg5, _⟩
          · have hEV0 : EV = [] := List.eq_nil_of_length_eq_zero hn0
            subst hEV0
            cases hn
            clear hev
            obtain ⟨x0, x1, xf⟩ := RCell.cells (HR1.out.below HBC.out)
            go_wp2_with (at_builtin; refine wpList_append_own_none rfl _ _ 31 rfl w.heap.size 40 i41 2 und28 hi _ _ _ rfl O1.out rfl ?_)
            go_wp2_with fail
            have hrc : RCell ((wc).setCell ⟨b, 1, none⟩ (.func (.func f2) #[.agg #[.int .i64 n2]] #[])) b (.slice (some ⟨g, 0, none⟩) h.length cap) m2 := by
              have := RCell.set1 (HR1.out.below HBC.out) m2
              rw [hf2] at this; exact this
            have hu2 := HU.out.2 m2 rfl
            rw [List.length_drop] at hu2
            have r1 := rankW_at HR1.out
            have r2 := rankW_at hrc
            have e1 : runA .skip (h.drop k) = (U + (runA m2 ((h.drop k).drop U)).1, [] ++ (runA m2 ((h.drop k).drop U)).2.1, (runA m2 ((h.drop k).drop U)).2.2) := by have e0 := HST.out; simp only [HEVE.out] at e0; exact e0
            have e2 : runA m h = (k + U + (runA m2 (h.drop (k + U))).1, (E1 ++ []) ++ (runA m2 (h.drop (k + U))).2.1, (runA m2 (h.drop (k + U))).2.2) := by
              rw [HRun.out, e1, List.drop_drop]; simp only [Nat.add_assoc, List.append_assoc]
            go_roundw
            case rel => exact ⟨k + U, m2, E1 ++ [], by go_num, hUk, Lib.hid (evs_set (show EvsAt w.heap.size wc u5 (E1 ++ []) from by rw [List.append_nil]; exact O1.out) hbl), (by have := HEV.out; simp only [List.length_append, List.length_nil] at *; omega), Lib.hid hrc, Lib.hid ((HB.out.trans (But.of HBC.out)).trans (But.set _ _ _ _)), Lib.hid e2⟩
            case measure => rw [r1, r2]; simp [intOf]; omega
          · cases hn
            have hcells := fun j u (hj : (EV.flatMap evC)[j]? = some u) => World.ownsRow.cells hev rfl j u hj
            clear hev
            go_wp2_with (at_builtin; refine wpList_append_own _ rfl _ _ 31 rfl w.heap.size 40 i41 (.agg #[.string ⟨#[]⟩, .int .i64 0]) 2 24 und28 hi hz0 hz1 hz2 rfl (by decide) _ _ _ rfl O1.out ⟨g5, 0, none⟩ EV.length cp (EV.flatMap evC) rfl ?c1 hcells ?c2 ?c3 ?c4 ?c5 ?_)
            case c1 => simpa using evC_len EV
            case c2 => intro u x y _ hu; exact evC_two (x, y) u hu
            case c3 => unfold maxLen; omega
            case c4 => omega
            case c5 => have := HB.out.size; have := HBC.out.size; omega
            intro v' w7 hown hgrow _
            have O7 : Hid (EvsAt w.heap.size w7 v' (E1 ++ EV)) := Lib.hid (by unfold EvsAt; rw [List.length_append, List.flatMap_append]; exact hown)
            have hXb : some X ≠ Value.ownBlock u5 := fun e => by have := (hb5 X e.symm).2; omega
            have hbb : some b ≠ Value.ownBlock u5 := fun e => by have := (hb5 b e.symm).1; omega
            have HS7 : Hid (SBox w7 X (.int .i64 U) (.slice (some ⟨g5, 0, none⟩) EV.length cp) (.func (.func f2) #[.agg #[.int .i64 n2]] #[])) := Lib.hid ((hgrow.block X (Array.getElem?_eq_some_iff.1 HS.out).1 hXb).trans HS.out)
            have HR7 : Hid (RCell w7 b (.slice (some ⟨g, 0, none⟩) h.length cap) .skip) := Lib.hid ((hgrow.block b (Nat.lt_of_lt_of_le hbw HBC.out.size) hbb).trans (HR1.out.below HBC.out))
            have HB7 : Hid (But b w w7) := Lib.hid (but_grown HB.out HBC.out hgrow hb5)
            obtain ⟨q0, q1, q2, qf⟩ := HS7.out.cells
            obtain ⟨x0, x1, xf⟩ := HR7.out.cells
            clear hown hgrow
            obtain ⟨x0, x1, xf⟩ := RCell.cells HR7.out
            go_wp2_with fail
            have hrc : RCell ((w7).setCell ⟨b, 1, none⟩ (.func (.func f2) #[.agg #[.int .i64 n2]] #[])) b (.slice (some ⟨g, 0, none⟩) h.length cap) m2 := by
              have := RCell.set1 HR7.out m2
              rw [hf2] at this; exact this
            have hu2 := HU.out.2 m2 rfl
            rw [List.length_drop] at hu2
            have r1 := rankW_at HR1.out
            have r2 := rankW_at hrc
            have e1 : runA .skip (h.drop k) = (U + (runA m2 ((h.drop k).drop U)).1, EV ++ (runA m2 ((h.drop k).drop U)).2.1, (runA m2 ((h.drop k).drop U)).2.2) := by have e0 := HST.out; simp only [HEVE.out] at e0; exact e0
            have e2 : runA m h = (k + U + (runA m2 (h.drop (k + U))).1, (E1 ++ EV) ++ (runA m2 (h.drop (k + U))).2.1, (runA m2 (h.drop (k + U))).2.2) := by
              rw [HRun.out, e1, List.drop_drop]; simp only [Nat.add_assoc, List.append_assoc]
            go_roundw
            case rel => exact ⟨k + U, m2, E1 ++ EV, by go_num, hUk, Lib.hid (evs_set O7.out hbl), (by have := HEV.out; simp only [List.length_append] at *; omega), Lib.hid hrc, Lib.hid (HB7.out.trans (But.set _ _ _ _)), Lib.hid e2⟩
            case measure => rw [r1, r2]; simp [intOf]; omega
end Go.Proofs.YtlafcnmopclgiaaGreatDoor
