/-
  visit: a node's Leaves, one after another.
-/
import Derived.Test.YtingfomfibhnhaaGreatDoorMgGB
import Derived.RangeFuncNested
import Derived.RangeFuncBound
import Derived.RangeFuncCalls
import Derived.RangeFuncLeaves
import Derived.Shelf.Abstract
import Derived.Shelf.RegionOpen
import Derived.WalkKit
import Derived.OwnWalkIn
import Derived.TacticsInMore
import Derived.LoopNIn
import Derived.LoopIn
import Derived.Maps.AppendAt
import Derived.Sort.QuietIn
namespace Go.Proofs.YtingfomfibhnhaaGreatDoor
open Go.RowKit Go.Shelf
attribute [local go_sem] Oper.semAt_some

theorem und38 : Tryz.prog.underlying 38 = some (.slice 3) := by kernel_rfl
theorem info3 : (Tryz.prog.info? 3).map (fun i => (i.zero, i.size, i.bytes)) = some (some (.int .i64 0), 1, 8) := by kernel_rfl
theorem PathAt.same {D l B : Nat} {p : List Nat} {W W' : World} (h : PathAt D l B p W) (hk : ∀ k, k < W.heap.size → W'.heap[k]? = W.heap[k]?) : PathAt D l B p W' := by
  obtain ⟨pv, h1, h2⟩ := h
  exact ⟨pv, (hk B (Array.getElem?_eq_some_iff.1 h1).1).trans h1, row_keep h2 fun g cs hg hc => hk g (Array.getElem?_eq_some_iff.1 hc).1⟩
theorem grown_row {W W' : World} {v : Value} {D B n e : Nat} {xs : List Value} {cs : Array Value} {t : TypeId} {fz : Nat × Nat} (hg : W.grownBy W' v.ownBlock) (hr : W.ownsRow D e 1 v n xs) (hB : W.heap[B]? = some (.cells cs t fz)) (ht : t ≠ e) : W'.heap[B]? = some (.cells cs t fz) := by
  refine (hg.block B (Array.getElem?_eq_some_iff.1 hB).1 fun h => ?_).trans hB
  obtain ⟨_, h2⟩ := hr
  rcases h2 with ⟨h2, _⟩ | ⟨g, cap, cur, h3, h4, h5, _⟩
  · subst h2; cases h
  · subst h3
    simp only [Value.ownBlock, Option.some.injEq] at h
    subst h
    rw [hB] at h5; cases h5; exact ht rfl
theorem grown_os {n0 D n : Nat} {W W' : World} {v : Value} {xs : List Value} (hn : n0 ≤ D) (hg : W.grownBy W' v.ownBlock) (hr : W.ownsRow D 3 1 v n xs) : OsG n0 D W W' := by
  refine OsG.grown hn hg fun r e => ?_
  obtain ⟨_, h2⟩ := hr
  rcases h2 with ⟨h2, _⟩ | ⟨g, cap, cur, h3, h4, h5, _⟩
  · subst h2; cases e
  · subst h3
    simp only [Value.ownBlock, Option.some.injEq] at e
    subst e
    exact ⟨h4, cur, 3, _, h5, .inl rfl⟩
theorem path_grow {n0 D l B : Nat} {p : List Nat} {w1 w2 : World} {pp : Option Addr} {cp : Nat} {v2 : Value} (o : Obj) (hn0 : n0 ≤ D) (hDB : D ≤ B) (hB1 : w1.heap[B]? = some (.cells #[.slice pp p.length cp, .func (.yield l) #[] #[]] 88 (0, 0)))
    (hrow : w1.ownsRow D 3 1 (.slice pp p.length cp) p.length (ints p)) (hown2 : w2.ownsRow D 3 1 v2 (p.length + 1) (ints p ++ [.int .i64 0])) (hgrow2 : (w1.alloc o).grownBy w2 (Value.slice pp p.length cp).ownBlock) :
    ∃ g2 cap2, v2 = .slice (some ⟨g2, 0, none⟩) (p.length + 1) cap2 ∧ w2.cell? ⟨B, 0, none⟩ = some (.slice pp p.length cp) ∧ (∀ o, w2.frozen? ⟨B, o, none⟩ = false) ∧
      ∀ w3, w3 = w2.setCell ⟨B, 0, none⟩ (.slice (some ⟨g2, 0, none⟩) (p.length + 1) cap2) → OsG n0 D w1 w3 ∧ PathAt D l B (p ++ [0]) w3 := by
  obtain ⟨g2, cap2, rfl, hDg, hcap, cur2, hcur2⟩ := row_shape hown2
  have hB2 := grown_row hgrow2 (hrow.alloc o) (((galloc (Below.refl w1.heap.size w1) o).block B (Array.getElem?_eq_some_iff.1 hB1).1).trans hB1) (by decide)
  refine ⟨g2, cap2, rfl, by rw [cellH hB2]; rfl, fun o => Lib.frozen_of_heap hB2 o, ?_⟩
  rintro w3 rfl
  refine ⟨((OsG.alloc hn0 w1 o).trans (grown_os hn0 hgrow2 (hrow.alloc o))).trans (OsG.set hn0 w2 0 _ hB2 (.inr rfl) hDB), _, heap_setCell_same w2 B 0 _ _ _ hB2, ?_⟩
  rw [ints_snoc, List.length_append]
  refine row_keep hown2 fun g cs hg hc => heap_setCell_other w2 ⟨B, 0, none⟩ g _ (fun e => ?_)
  subst e
  rw [hB2] at hc; cases hc
theorem skip_same {F : Fence} {n : Nat} {P : Program} {ops : Array Oper} {C : World → Prop} {Q : Act → Prop} {a : Act} {o : Oper} {rest : List Oper} (ha : o.askedIn F P a C) (hw : Region.wanted o (yielded ops a.tmps) = false) (he : a.put o.dst undef = a) (h : wpQuietIn F n P ops C Q rest a) : wpQuietIn F n P ops C Q (o :: rest) a :=
  BigFrame.wpQuietIn_skip ha hw (by rw [he]; exact h)
set_option maxRecDepth 100000 in
set_option maxHeartbeats 8000000 in
theorem visit_one (l B D n0 : Nat) (xs : List (List Nat × T)) (J Jx : List (List Nat × T) → World → Prop) (hn0 : n0 ≤ D) (hDB : D ≤ B)
    (hJ : ∀ s A C, J s A → StG D A C → J s C) (hY : RoundsG Tryz.prog n0 D l xs J Jx)
    (k : Nat) (t : Tok) (ks : List T) (p : List Nat) (pre : List (List Nat × T)) (W : World) (pc : Option Addr) (cc : Nat) (vs : List Value)
    (hd : SlIn (· < n0) W (.slice pc ks.length cc) 4 ks.length vs) (hj : NsAt (· < n0) W ks vs) (hP : PathAt D l B p W) (h0 : J pre W)
    (hpre : pre ++ leavesT p (.mk k t ks) <+: xs) (hpl : p.length ≤ 1000000) (hkl : ks.length ≤ 1000000) (hDW : D ≤ W.heap.size)
    (HREC : Hid (∀ (i : Nat) x, ks[i]? = some x → ∀ (pre : List (List Nat × T)) (w : World) (cs : List Value), NAt (· < n0) w x cs → PathAt D l B (p ++ [i]) w → J pre w → pre ++ leavesT (p ++ [i]) x <+: xs → D ≤ w.heap.size → ∀ m,
      CallsIn Fence.wide m Tryz.prog 56 #[.pointer (some ⟨B, 0, none⟩), .agg cs.toArray] w (VisitEnd J Jx n0 D l B xs (p ++ [i]) x pre w))) :
    ∀ n, CallsIn Fence.wide n Tryz.prog 56 #[.pointer (some ⟨B, 0, none⟩), .agg #[.int .u8 k, .int .u8 t.1, .string ⟨t.2.toArray⟩, .slice pc ks.length cc]] W (VisitEnd J Jx n0 D l B xs p (.mk k t ks) pre W) := by
  intro n
  have hmx : Tryz.prog.follows .mixedOrders = true := by kernel_rfl
  have hdd : ∀ k : Nat, (Fence.wide.depth.isSome = true → 1 ≤ k) := fun k h => (by cases h)
  have hx0 : NAt (· < n0) W (.mk k t ks) [.int .u8 k, .int .u8 t.1, .string ⟨t.2.toArray⟩, .slice pc ks.length cc] := NAt.make hd hj
  obtain ⟨K, hK⟩ : ∃ K : Int, (k : Int) = K := ⟨_, rfl⟩
  obtain ⟨tk, htk⟩ : ∃ a : Int, (t.1 : Int) = a := ⟨_, rfl⟩
  obtain ⟨tx, htx⟩ : ∃ a : ByteArray, (⟨t.2.toArray⟩ : ByteArray) = a := ⟨_, rfl⟩
  rw [hK, htk, htx] at hx0 ⊢
  obtain ⟨w1, hw1⟩ : ∃ w1, W.alloc (.cells #[.int .u8 K, .int .u8 tk, .string tx, .slice pc ks.length cc] 27) = w1 := ⟨_, rfl⟩
  have hN1 : w1.heap[W.heap.size]? = some (.cells #[.int .u8 K, .int .u8 tk, .string tx, .slice pc ks.length cc] 27 (0, 0)) := by rw [← hw1]; exact World.alloc_heap_new W _
  have hz1 : w1.heap.size = W.heap.size + 1 := by rw [← hw1]; simp
  have o1 : OsG n0 D W w1 := by rw [← hw1]; exact OsG.alloc hn0 W _
  have hb1 : Below W.heap.size W w1 := by rw [← hw1]; exact galloc (Below.refl _ _) _
  have hJ1 : J pre w1 := hJ _ _ _ h0 o1.st
  have hP1 : PathAt D l B p w1 := hP.same fun k hk => hb1.block k hk
  obtain ⟨N, hN⟩ : ∃ N, W.heap.size = N := ⟨_, rfl⟩
  rw [hN] at hN1 hz1 hDW
  by_cases h2 : k = 2
  · have h2' : (K == 2) = true := by rw [← hK, h2]; rfl
    subst h2
    have HE : Hid (VisitEnd J Jx n0 D l B xs p (.mk 2 t ks) pre W (.returned (.bool true)) w1) := Lib.hid (.inl ⟨rfl, by unfold leavesT; rw [if_pos rfl, List.append_nil]; exact hJ1, hP1, o1.vi⟩)
    obtain ⟨c0, c1, c2, c3⟩ := box4 hN1
    clear hK hJ1 hP1 hN1 hx0 o1 hb1 hd hj hP hY hJ HREC h0
    refine callsIn_of_wp Tryz.func56 rfl trivial ?_ rfl
    simp only [Tryz.ntmps56, List.size_toArray, List.length_cons, List.length_nil, Nat.reduceAdd, Nat.reduceSub, Array.replicate_succ, Array.replicate_zero, List.push_toArray, List.append_toArray, List.nil_append, List.cons_append]
    gi_wp2
    go_ret
    exact HE.out
  · have h2' : (K == 2) = false := beq_eq_false_iff_ne.2 (by omega)
    obtain ⟨pv, hB1, hrow⟩ := hP1
    obtain ⟨pp, cp, rfl⟩ := owns_shape hrow
    obtain ⟨c0, c1, c2, c3⟩ := box4 hN1
    have cB0 : w1.cell? ⟨B, 0, none⟩ = some (.slice pp p.length cp) := by rw [cellH hB1]; rfl
    have cB1 : w1.cell? ⟨B, 1, none⟩ = some (.func (.yield l) #[] #[]) := by rw [cellH hB1]; rfl
    have fB : ∀ o, w1.frozen? ⟨B, o, none⟩ = false := fun o => Lib.frozen_of_heap hB1 o
    obtain ⟨i3, hi, hz0, hza, hzb⟩ := info_parts info3
    have hcn := cell_one_new w1 (.int .i64 0) 3
    rw [hz1] at hcn
    have HRW := Lib.hid hrow
    have HB1 := Lib.hid hB1
    have HN1 := Lib.hid hN1
    have HX0 := Lib.hid hx0
    have HO1 := Lib.hid o1
    have HJ1 := Lib.hid hJ1
    have HPR := Lib.hid hpre
    have HD := Lib.hid (hd.vi o1.vi)
    have HJS := Lib.hid (hj.vi o1.vi)
    have HHJ := Lib.hid hJ
    have HY := Lib.hid hY
    clear hrow hB1 hN1 hx0 o1 hJ1 hpre hd hj hJ hY hb1 hP h0
    refine callsIn_of_wp Tryz.func56 rfl trivial ?_ rfl
    simp only [Tryz.ntmps56, List.size_toArray, List.length_cons, List.length_nil, Nat.reduceAdd, Nat.reduceSub, Array.replicate_succ, Array.replicate_zero, List.push_toArray, List.append_toArray, List.nil_append, List.cons_append]
    gi_wp2_with (gi_at_builtin; refine wpListIn_append_own _ rfl _ _ 38 rfl D 3 i3 (.int .i64 0) 1 8 und38 hi hz0 hza hzb rfl (by decide) (.slice pp p.length cp) p.length (ints p) rfl (HRW.out.alloc _) ⟨N + 1, 0, none⟩ 1 1 [.int .i64 0] rfl rfl hcn (by simp [Value.oneCell']) (by unfold maxLen; omega) (by omega) (by simp; omega) ?_; intro v2 w2 hown2 hgrow2 _; obtain ⟨g2, cap2, rfl, cB2, fB2, hF⟩ := path_grow _ hn0 hDB HB1.out HRW.out hown2 hgrow2; obtain ⟨w3, hw3⟩ : ∃ w3, w2.setCell ⟨B, 0, none⟩ (.slice (some ⟨g2, 0, none⟩) (p.length + 1) cap2) = w3 := ⟨_, rfl⟩; obtain ⟨o3, hP3⟩ := hF w3 hw3.symm; have hN3 := (o3.vi.keep N (Nat.lt_of_lt_of_le (Nat.lt_succ_self N) (Nat.le_of_eq hz1.symm)) (.inr ⟨hDW, _, _, HN1.out⟩)).trans HN1.out; obtain ⟨d0, d1, d2, d3⟩ := box4 hN3; have HO3 := Lib.hid o3; have HP3 := Lib.hid hP3; clear hF o3 hP3 hN3 hown2 hgrow2)
    have HI0 : Hid (ViG n0 D w1 w3 ∧ J (pre ++ leavesL p 0 (ks.take 0)) w3 ∧ PathAt D l B (p ++ [0]) w3 ∧ D ≤ w3.heap.size) := Lib.hid ⟨HO3.out.vi, by rw [List.take_zero, leavesL, List.append_nil]; exact HHJ.out _ _ _ HJ1.out HO3.out.st, HP3.out, by have := HO3.out.vi.size; omega⟩
    clear c0 c1 c2 c3 cB0 cB1 fB cB2 fB2 hw3 hcn
    gi_loopw [6, 7, 28] (fun _ _ iv wr => ∃ i z : Nat, i ≤ ks.length ∧ iv = .int .i64 i ∧ Hid (ViG n0 D w1 wr ∧ J (pre ++ leavesL p 0 (ks.take i)) wr ∧ PathAt D l B (p ++ [z]) wr ∧ D ≤ wr.heap.size)) (fun _ _ iv _ => ks.length - (intOf iv).toNat)
    case atStart => exact ⟨0, 0, by omega, rfl, HI0⟩
    case round =>
      obtain ⟨i, z, hi, rfl, HI⟩ := hrel
      clear d0 d1 d2 d3 HI0
      obtain ⟨hvi, hJi, hPi, hDi⟩ := HI.out
      have hNr := (hvi.keep N (by omega) (.inr ⟨hDW, _, _, HN1.out⟩)).trans HN1.out
      obtain ⟨c0, c1, c2, c3⟩ := box4 hNr
      rcases Nat.lt_or_ge i ks.length with hlt | hge
      · have hlt' : (i : Int) < (ks.length : Int) := by omega
        have hwi : IntKind.i64.wrap ((i : Int) + 1) = ((i + 1 : Nat) : Int) := by rw [IntWalk.i64_in _ (by omega)]; omega
        obtain ⟨g1, o1, rfl, hx1⟩ := (HD.out.vi hvi).cellAt (by omega)
        have hu1 := List.getElem?_eq_getElem hlt
        obtain ⟨px, cx, hjx, m1, m2, m3, m4⟩ := (HJS.out.vi hvi).nth ks vs i _ hu1
        have hcall : ∀ (w : World), NAt (· < n0) w (ks[i]'hlt) (cellsN (ks[i]'hlt) px cx) → PathAt D l B (p ++ [i]) w → J (pre ++ leavesL p 0 (ks.take i)) w → D ≤ w.heap.size → CallsIn Fence.wide (n - 1) Tryz.prog 56 #[.pointer (some ⟨B, 0, none⟩), aggN (ks[i]'hlt) px cx] w (VisitEnd J Jx n0 D l B xs (p ++ [i]) (ks[i]'hlt) (pre ++ leavesL p 0 (ks.take i)) w) := fun w hN hP hJw hDw => HREC.out i _ hu1 _ w _ hN hP hJw (HPR.out |> fun h => by
          refine List.IsPrefix.trans ?_ h
          rw [List.append_assoc, List.prefix_append_right_inj]
          rw [leavesT_mk p t ks h2, leavesL_split p ks 0 (i + 1), leavesL_take p ks 0 i _ hu1, Nat.zero_add, List.append_assoc]
          exact List.prefix_append _ _) hDw (n - 1)
        have HLT : Hid (leavesL p 0 (ks.take (i + 1)) = leavesL p 0 (ks.take i) ++ leavesT (p ++ [i]) (ks[i]'hlt)) := Lib.hid (by rw [leavesL_take p ks 0 i _ hu1, Nat.zero_add])
        have HJX := Lib.hid hjx
        have HCALL := Lib.hid hcall
        clear hcall hjx hu1
        generalize ks[i]'hlt = x at *
        have k1 : wr.cell? ⟨g1, o1 + i * 4, none⟩ = some (.int .u8 (x.kind : Nat)) := hx1 _ _ m1
        have k2 : wr.cell? ⟨g1, o1 + i * 4 + 1, none⟩ = some (.int .u8 (x.tok.1 : Nat)) := hx1 _ _ m2
        have k3 : wr.cell? ⟨g1, o1 + i * 4 + 2, none⟩ = some (.string ⟨x.tok.2.toArray⟩) := hx1 _ _ m3
        have k4 : wr.cell? ⟨g1, o1 + i * 4 + 3, none⟩ = some (.slice px x.kids.length cx) := hx1 _ _ m4
        obtain ⟨pv, hBr, hrr⟩ := hPi
        rw [List.length_append] at hrr
        obtain ⟨g, cap, rfl, hDg, hcap, cur, hcur⟩ := row_shape hrr
        obtain ⟨w5, hw5⟩ : ∃ w5, wr.alloc (.cells #[.int .u8 (x.kind : Nat), .int .u8 (x.tok.1 : Nat), .string ⟨x.tok.2.toArray⟩, .slice px x.kids.length cx] 27) = w5 := ⟨_, rfl⟩
        have hb5 : Below wr.heap.size wr w5 := by rw [← hw5]; exact galloc (Below.refl _ _) _
        have hM5 : w5.heap[wr.heap.size]? = some (.cells #[.int .u8 (x.kind : Nat), .int .u8 (x.tok.1 : Nat), .string ⟨x.tok.2.toArray⟩, .slice px x.kids.length cx] 27 (0, 0)) := by rw [← hw5]; exact World.alloc_heap_new wr _
        have hB5 := (hb5.block B (Array.getElem?_eq_some_iff.1 hBr).1).trans hBr
        have hcur5 := (hb5.block g (Array.getElem?_eq_some_iff.1 hcur).1).trans hcur
        have e0 : w5.cell? ⟨B, 0, none⟩ = some (.slice (some ⟨g, 0, none⟩) (p.length + 1) cap) := by rw [cellH hB5]; rfl
        have hcs : p.length < cur.size := by
          obtain ⟨_, h⟩ := hrr
          rcases h with ⟨h, _⟩ | ⟨g', cap', cur', h3, _, h5, h6, _, h8, _⟩
          · cases h
          · cases h3; rw [hcur] at h5; cases h5; simp at h6; omega
        have e1 : ∃ v, w5.cell? ⟨g, p.length, none⟩ = some v := ⟨cur[p.length]'hcs, by rw [cellH hcur5]; exact Array.getElem?_eq_getElem hcs⟩
        obtain ⟨vz, e1⟩ := e1
        have e2 : ∀ o, w5.frozen? ⟨g, o, none⟩ = false := fun o => Lib.frozen_of_heap hcur5 o
        obtain ⟨w6, hw6⟩ : ∃ w6, w5.setCell ⟨g, p.length, none⟩ (.int .i64 i) = w6 := ⟨_, rfl⟩
        have o6 : OsG n0 D wr w6 := by rw [← hw6]; exact (OsG.below hb5).trans (OsG.set hn0 w5 _ _ hcur5 (.inl rfl) hDg)
        have hM6 := (o6 |> fun _ => (by rw [← hw6, heap_setCell_other w5 ⟨g, p.length, none⟩ wr.heap.size _ (fun e => by have e' : wr.heap.size = g := e; have := (Array.getElem?_eq_some_iff.1 hcur).1; omega)]; exact hM5 : w6.heap[wr.heap.size]? = some (.cells #[.int .u8 (x.kind : Nat), .int .u8 (x.tok.1 : Nat), .string ⟨x.tok.2.toArray⟩, .slice px x.kids.length cx] 27 (0, 0))))
        obtain ⟨q0, q1, q2, q3⟩ := box4 hM6
        have hP6 : PathAt D l B (p ++ [i]) w6 := by
          rw [← hw6]
          exact path_set hB5 (row_keep hrr fun g' cs _ hc => hb5.block g' (Array.getElem?_eq_some_iff.1 hc).1) i
        have hc6 := HCALL.out w6 (HJX.out.vi o6.vi) hP6 (HHJ.out _ _ _ hJi o6.st) (by have := o6.vi.size; omega)
        have HO6 : Hid (OsG n0 D wr w6) := Lib.hid o6
        dsimp only [aggN] at hc6
        clear hBr hrr hcur hb5 hM5 hB5 hcur5 o6 hM6 hP6 m1 m2 m3 m4 hx1 hvi hJi hNr
        generalize (x.kind : Int) = xk at *
        generalize (x.tok.1 : Int) = xt at *
        generalize (⟨x.tok.2.toArray⟩ : ByteArray) = xs' at *
        generalize x.kids.length = xl at *
        have HVI := Lib.hid HI.out.1
        clear HI
        gi_wp2_with fail
        refine ⟨trivial, hdd _, ?_⟩
        refine hc6.mono ?_
        rintro e w7 (⟨rfl, hJ7, hP7, hv7⟩ | ⟨rfl, q, hq, hx7⟩)
        · have HI7 : Hid (ViG n0 D w1 w7 ∧ J (pre ++ leavesL p 0 (ks.take (i + 1))) w7 ∧ PathAt D l B (p ++ [i]) w7 ∧ D ≤ w7.heap.size) := Lib.hid ⟨HVI.out.trans (HO6.out.vi.trans hv7), by rw [HLT.out, ← List.append_assoc]; exact hJ7, hP7, by have := HO6.out.vi.size; have := hv7.size; omega⟩
          clear hJ7 hP7 hv7 hc6 hw5 hw6 q0 q1 q2 q3 k1 k2 k3 k4 e0 e1 e2
          gi_wp2
          exact ⟨⟨i + 1, i, by omega, rfl, HI7⟩, by simp [intOf]; omega⟩
        · have HE : Hid (VisitEnd J Jx n0 D l B xs p (.mk k t ks) pre W (.returned (.bool false)) w7) := Lib.hid (.inr ⟨rfl, q, hq, hx7⟩)
          clear hx7 hc6 hw5 hw6 q0 q1 q2 q3 k1 k2 k3 k4 e0 e1 e2
          gi_wp2
          go_ret
          exact HE.out
      · obtain rfl : i = ks.length := by omega
        have hlt' : ¬ (ks.length : Int) < (ks.length : Int) := by omega
        rw [List.take_length] at hJi
        obtain ⟨pv, hBr, hrr⟩ := hPi
        rw [List.length_append] at hrr
        obtain ⟨g, cap, rfl, hDg, hcap, cur, hcur⟩ := row_shape hrr
        have e0 : wr.cell? ⟨B, 0, none⟩ = some (.slice (some ⟨g, 0, none⟩) (p.length + 1) cap) := by rw [cellH hBr]; rfl
        have e2 : ∀ o, wr.frozen? ⟨B, o, none⟩ = false := fun o => Lib.frozen_of_heap hBr o
        obtain ⟨w8, hw8⟩ : ∃ w8, wr.setCell ⟨B, 0, none⟩ (.slice (some ⟨g, 0, none⟩) p.length cap) = w8 := ⟨_, rfl⟩
        have o8 : OsG n0 D wr w8 := by rw [← hw8]; exact OsG.set hn0 wr _ _ hBr (.inr rfl) hDB
        have hB8 : w8.heap[B]? = some (.cells #[.slice (some ⟨g, 0, none⟩) p.length cap, .func (.yield l) #[] #[]] 88 (0, 0)) := by rw [← hw8]; exact heap_setCell_same wr B 0 _ _ _ hBr
        have hr8 : w8.ownsRow D 3 1 (.slice (some ⟨g, 0, none⟩) p.length cap) p.length (ints p) := by
          rw [← hw8]
          refine row_keep (path_cut hrr) fun g' cs hg hc => heap_setCell_other wr ⟨B, 0, none⟩ g' _ (fun e => ?_)
          subst e
          rw [hBr] at hc; cases hc
        have hN8 := (o8.vi.keep N (Array.getElem?_eq_some_iff.1 hNr).1 (.inr ⟨hDW, _, _, hNr⟩)).trans hNr
        have hJ8 := HHJ.out _ _ _ hJi o8.st
        have HV8 : Hid (ViG n0 D W w8) := Lib.hid (HO1.out.vi.trans (hvi.trans o8.vi))
        have hx8 : NAt (· < n0) w8 (.mk k t ks) (cellsN (.mk k t ks) pc cc) := by
          have := HX0.out.vi HV8.out
          rw [← hK, ← htk, ← htx] at this
          exact this
        obtain ⟨f0, f1, f2, f3⟩ := box4 hN8
        have f4 : w8.cell? ⟨B, 0, none⟩ = some (.slice (some ⟨g, 0, none⟩) p.length cap) := by rw [cellH hB8]; rfl
        have f5 : w8.cell? ⟨B, 1, none⟩ = some (.func (.yield l) #[] #[]) := by rw [cellH hB8]; rfl
        have HP8 : Hid (PathAt D l B p w8) := Lib.hid ⟨_, hB8, hr8⟩
        have hs1 : (p.length : Int) ≤ (cap : Int) := by omega
        by_cases h1 : k = 1
        · have h1' : (K != 1) = false := by rw [← hK, h1]; rfl
          have h1b : (K == 1) = true := by rw [← hK, h1]; rfl
          have hLV : leavesT p (.mk k t ks) = leavesL p 0 ks ++ [(p, .mk k t ks)] := by rw [leavesT_mk p t ks h2, if_pos h1]
          obtain ⟨wd, hwd⟩ : ∃ wd, w8.drew = wd := ⟨_, rfl⟩
          have hbd : Below w8.heap.size w8 wd := by rw [← hwd]; exact (Below.refl w8.heap.size w8).drew
          have od : OsG n0 D w8 wd := OsG.below hbd
          have hR := HY.out (n - 1) (pre ++ leavesL p 0 ks) (p, .mk k t ks) #[.slice (some ⟨g, 0, none⟩) p.length cap, aggN (.mk k t ks) pc cc] wd (HHJ.out _ _ _ hJ8 od.st) ⟨_, pc, cc, rfl, owns_below hr8 hbd, hx8.vi od.vi⟩ (by rw [List.append_assoc, ← hLV]; exact HPR.out)
          rw [List.append_assoc, ← hLV] at hR
          obtain ⟨fn, tmps, assign, body, hy, hRd⟩ := hR
          dsimp only [aggN, T.kind, T.tok, T.kids] at hy
          rw [hK, htk, htx] at hy
          have HPd : Hid (PathAt D l B p wd) := Lib.hid (HP8.out.same fun k hk => hbd.block k hk)
          have HVd : Hid (ViG n0 D W wd) := Lib.hid (HV8.out.trans od.vi)
          obtain ⟨r0, r1, r2, r3⟩ := box4 ((hbd.block N (Array.getElem?_eq_some_iff.1 hN8).1).trans hN8)
          have r4 : wd.cell? ⟨B, 0, none⟩ = some (.slice (some ⟨g, 0, none⟩) p.length cap) := by rw [cellH ((hbd.block B (Array.getElem?_eq_some_iff.1 hB8).1).trans hB8)]; rfl
          have r5 : wd.cell? ⟨B, 1, none⟩ = some (.func (.yield l) #[] #[]) := by rw [cellH ((hbd.block B (Array.getElem?_eq_some_iff.1 hB8).1).trans hB8)]; rfl
          clear hx8 hr8 hB8 hN8 hBr hrr hcur o8 hJ8 hJi hvi hNr HI hLV hbd od
          gi_wp2_with fail
          refine wpIn_region_any (by kernel_rfl) ?_
          change wpAnyIn _ _ _ _ _ _ _ _ _ (World.drew _)
          rw [hwd]
          refine wpAnyIn_take (i := 0) (v := ?_) rfl rfl (by kernel_rfl) (by kernel_rfl) (by kernel_rfl) (fun _ _ _ h => h) ⟨Or.inl ⟨by rfl, ?_⟩, fun _ => rfl⟩ ?_
          rotate_left 1
          · intro w; go_simp; with_reducible rfl
          go_simp
          refine wpAnyIn_ready (rs := [1]) (by kernel_rfl) (by simp) ?_
          refine AllReadyIn.cons rfl (fun K hK => ?_) AllReadyIn.nil
          go_simp
          refine hK _ _ ?_
          clear hK K
          refine wpAnyIn_take (i := 2) (v := ?_) rfl rfl (by kernel_rfl) (by kernel_rfl) (by kernel_rfl) (fun _ _ _ h => h) ⟨Or.inl ⟨by rfl, ?_⟩, fun _ => rfl⟩ ?_
          rotate_left 1
          · intro w; go_simp; with_reducible rfl
          go_simp
          refine wpAnyIn_take (i := 3) (v := ?_) rfl rfl (by kernel_rfl) (by kernel_rfl) (by kernel_rfl) (fun _ _ _ h => h) ⟨Or.inl ⟨by rfl, ?_⟩, fun _ => rfl⟩ ?_
          rotate_left 1
          · intro w; go_simp; with_reducible rfl
          go_simp
          refine wpAnyIn_take (i := 4) (v := ?_) rfl rfl (by kernel_rfl) (by kernel_rfl) (by kernel_rfl) (fun _ _ _ h => h) ⟨Or.inl ⟨by rfl, ?_⟩, fun _ => rfl⟩ ?_
          rotate_left 1
          · intro w; go_simp; with_reducible rfl
          go_simp
          refine wpAnyIn_take (i := 5) (v := ?_) rfl rfl (by kernel_rfl) (by kernel_rfl) (by kernel_rfl) (fun _ _ _ h => h) ⟨Or.inl ⟨by rfl, ?_⟩, fun _ => rfl⟩ ?_
          rotate_left 1
          · intro w; go_simp; with_reducible rfl
          go_simp
          refine wpAnyIn_take (i := 6) (v := ?_) rfl rfl (by kernel_rfl) (by kernel_rfl) (by kernel_rfl) (fun _ _ _ h => h) ⟨Or.inl ⟨by rfl, ?_⟩, fun _ => rfl⟩ ?_
          rotate_left 1
          · intro w; go_simp; with_reducible rfl
          go_simp
          refine wpAnyIn_take (i := 8) (v := ?_) rfl rfl (by kernel_rfl) (by kernel_rfl) (by kernel_rfl) (fun _ _ _ h => h) ⟨Or.inl ⟨by rfl, ?_⟩, fun _ => rfl⟩ ?_
          rotate_left 1
          · intro w; go_simp; with_reducible rfl
          go_simp
          refine wpAnyIn_take (i := 9) (v := ?_) rfl rfl (by kernel_rfl) (by kernel_rfl) (by kernel_rfl) (fun _ _ _ h => h) ⟨Or.inl ⟨by rfl, ?_⟩, fun _ => rfl⟩ ?_
          rotate_left 1
          · intro w; go_simp; with_reducible rfl
          go_simp
          refine wpAnyIn_take (i := 10) (v := ?_) rfl rfl (by kernel_rfl) (by kernel_rfl) (by kernel_rfl) (fun _ _ _ h => h) ⟨Or.inl ⟨by rfl, ?_⟩, fun _ => rfl⟩ ?_
          rotate_left 1
          · intro w; go_simp; with_reducible rfl
          go_simp
          refine wpAnyIn_ready (rs := [7, 11, 12]) (by kernel_rfl) (by simp) ?_
          refine AllReadyIn.cons rfl (fun K hK => ?_) ?_
          · go_simp
            refine hK _ _ ?_
            clear hK K
            refine wpAnyIn_ready (rs := [11, 12]) (by kernel_rfl) (by simp) ?_
            refine AllReadyIn.cons rfl (fun K hK => ?_) ?_
            · go_simp
              refine hK _ _ ?_
              clear hK K
              refine wpAnyIn_ready (rs := [12]) (by kernel_rfl) (by simp) ?_
              refine AllReadyIn.cons rfl (fun K hK => ?_) ?_
              · go_simp
                refine hK _ _ ?_
                clear hK K
                refine wpAnyIn_ready (rs := [13]) (by kernel_rfl) (by simp) ?_
                refine AllReadyIn.cons rfl (fun K hK => ?_) AllReadyIn.nil
                go_simp
                refine ⟨hdd _, ?_⟩
                refine hRd.mono ?_
                rintro e w9 (⟨rfl, hJ9, hk9⟩ | ⟨rfl, hJ9⟩)
                · have HE : Hid (VisitEnd J Jx n0 D l B xs p (.mk k t ks) pre W (.returned (.bool true)) w9) := Lib.hid (.inl ⟨rfl, hJ9, HPd.out.kp hk9 hDB, HVd.out.trans hk9.vi⟩)
                  clear hJ9 hk9 hRd hy
                  refine hK _ _ ?_
                  clear hK K
                  refine wpAnyIn_ready (rs := [14]) (by kernel_rfl) (by simp) ?_
                  refine AllReadyIn.cons rfl (fun K hK => ?_) AllReadyIn.nil
                  go_simp
                  refine hK _ _ ?_
                  clear hK K
                  refine wpAnyIn_ready (rs := [15]) (by kernel_rfl) (by simp) ?_
                  refine AllReadyIn.cons rfl (fun K hK => ?_) AllReadyIn.nil
                  go_simp
                  refine hK _ _ ?_
                  clear hK K
                  refine wpAnyIn_done (by kernel_rfl) ?_ _
                  gi_wp2
                  go_ret
                  exact HE.out
                · have HE : Hid (VisitEnd J Jx n0 D l B xs p (.mk k t ks) pre W (.returned (.bool false)) w9) := Lib.hid (.inr ⟨rfl, _, HPR.out, hJ9⟩)
                  clear hJ9 hRd hy
                  refine hK _ _ ?_
                  clear hK K
                  refine wpAnyIn_ready (rs := [14]) (by kernel_rfl) (by simp) ?_
                  refine AllReadyIn.cons rfl (fun K hK => ?_) AllReadyIn.nil
                  go_simp
                  refine hK _ _ ?_
                  clear hK K
                  refine wpAnyIn_ready (rs := [15]) (by kernel_rfl) (by simp) ?_
                  refine AllReadyIn.cons rfl (fun K hK => ?_) AllReadyIn.nil
                  go_simp
                  refine hK _ _ ?_
                  clear hK K
                  refine wpAnyIn_done (by kernel_rfl) ?_ _
                  gi_wp2
                  go_ret
                  exact HE.out
              exact AllReadyIn.nil
            refine AllReadyIn.cons rfl (fun K hK => ?_) ?_
            · go_simp
              refine hK _ _ ?_
              clear hK K
              refine wpAnyIn_ready (rs := [11]) (by kernel_rfl) (by simp) ?_
              refine AllReadyIn.cons rfl (fun K hK => ?_) ?_
              · go_simp
                refine hK _ _ ?_
                clear hK K
                refine wpAnyIn_ready (rs := [13]) (by kernel_rfl) (by simp) ?_
                refine AllReadyIn.cons rfl (fun K hK => ?_) AllReadyIn.nil
                go_simp
                refine ⟨hdd _, ?_⟩
                refine hRd.mono ?_
                rintro e w9 (⟨rfl, hJ9, hk9⟩ | ⟨rfl, hJ9⟩)
                · have HE : Hid (VisitEnd J Jx n0 D l B xs p (.mk k t ks) pre W (.returned (.bool true)) w9) := Lib.hid (.inl ⟨rfl, hJ9, HPd.out.kp hk9 hDB, HVd.out.trans hk9.vi⟩)
                  clear hJ9 hk9 hRd hy
                  refine hK _ _ ?_
                  clear hK K
                  refine wpAnyIn_ready (rs := [14]) (by kernel_rfl) (by simp) ?_
                  refine AllReadyIn.cons rfl (fun K hK => ?_) AllReadyIn.nil
                  go_simp
                  refine hK _ _ ?_
                  clear hK K
                  refine wpAnyIn_ready (rs := [15]) (by kernel_rfl) (by simp) ?_
                  refine AllReadyIn.cons rfl (fun K hK => ?_) AllReadyIn.nil
                  go_simp
                  refine hK _ _ ?_
                  clear hK K
                  refine wpAnyIn_done (by kernel_rfl) ?_ _
                  gi_wp2
                  go_ret
                  exact HE.out
                · have HE : Hid (VisitEnd J Jx n0 D l B xs p (.mk k t ks) pre W (.returned (.bool false)) w9) := Lib.hid (.inr ⟨rfl, _, HPR.out, hJ9⟩)
                  clear hJ9 hRd hy
                  refine hK _ _ ?_
                  clear hK K
                  refine wpAnyIn_ready (rs := [14]) (by kernel_rfl) (by simp) ?_
                  refine AllReadyIn.cons rfl (fun K hK => ?_) AllReadyIn.nil
                  go_simp
                  refine hK _ _ ?_
                  clear hK K
                  refine wpAnyIn_ready (rs := [15]) (by kernel_rfl) (by simp) ?_
                  refine AllReadyIn.cons rfl (fun K hK => ?_) AllReadyIn.nil
                  go_simp
                  refine hK _ _ ?_
                  clear hK K
                  refine wpAnyIn_done (by kernel_rfl) ?_ _
                  gi_wp2
                  go_ret
                  exact HE.out
              exact AllReadyIn.nil
            exact AllReadyIn.nil
          refine AllReadyIn.cons rfl (fun K hK => ?_) ?_
          · go_simp
            refine hK _ _ ?_
            clear hK K
            refine wpAnyIn_ready (rs := [7, 12]) (by kernel_rfl) (by simp) ?_
            refine AllReadyIn.cons rfl (fun K hK => ?_) ?_
            · go_simp
              refine hK _ _ ?_
              clear hK K
              refine wpAnyIn_ready (rs := [12]) (by kernel_rfl) (by simp) ?_
              refine AllReadyIn.cons rfl (fun K hK => ?_) ?_
              · go_simp
                refine hK _ _ ?_
                clear hK K
                refine wpAnyIn_ready (rs := [13]) (by kernel_rfl) (by simp) ?_
                refine AllReadyIn.cons rfl (fun K hK => ?_) AllReadyIn.nil
                go_simp
                refine ⟨hdd _, ?_⟩
                refine hRd.mono ?_
                rintro e w9 (⟨rfl, hJ9, hk9⟩ | ⟨rfl, hJ9⟩)
                · have HE : Hid (VisitEnd J Jx n0 D l B xs p (.mk k t ks) pre W (.returned (.bool true)) w9) := Lib.hid (.inl ⟨rfl, hJ9, HPd.out.kp hk9 hDB, HVd.out.trans hk9.vi⟩)
                  clear hJ9 hk9 hRd hy
                  refine hK _ _ ?_
                  clear hK K
                  refine wpAnyIn_ready (rs := [14]) (by kernel_rfl) (by simp) ?_
                  refine AllReadyIn.cons rfl (fun K hK => ?_) AllReadyIn.nil
                  go_simp
                  refine hK _ _ ?_
                  clear hK K
                  refine wpAnyIn_ready (rs := [15]) (by kernel_rfl) (by simp) ?_
                  refine AllReadyIn.cons rfl (fun K hK => ?_) AllReadyIn.nil
                  go_simp
                  refine hK _ _ ?_
                  clear hK K
                  refine wpAnyIn_done (by kernel_rfl) ?_ _
                  gi_wp2
                  go_ret
                  exact HE.out
                · have HE : Hid (VisitEnd J Jx n0 D l B xs p (.mk k t ks) pre W (.returned (.bool false)) w9) := Lib.hid (.inr ⟨rfl, _, HPR.out, hJ9⟩)
                  clear hJ9 hRd hy
                  refine hK _ _ ?_
                  clear hK K
                  refine wpAnyIn_ready (rs := [14]) (by kernel_rfl) (by simp) ?_
                  refine AllReadyIn.cons rfl (fun K hK => ?_) AllReadyIn.nil
                  go_simp
                  refine hK _ _ ?_
                  clear hK K
                  refine wpAnyIn_ready (rs := [15]) (by kernel_rfl) (by simp) ?_
                  refine AllReadyIn.cons rfl (fun K hK => ?_) AllReadyIn.nil
                  go_simp
                  refine hK _ _ ?_
                  clear hK K
                  refine wpAnyIn_done (by kernel_rfl) ?_ _
                  gi_wp2
                  go_ret
                  exact HE.out
              exact AllReadyIn.nil
            refine AllReadyIn.cons rfl (fun K hK => ?_) ?_
            · go_simp
              refine hK _ _ ?_
              clear hK K
              refine wpAnyIn_ready (rs := [7]) (by kernel_rfl) (by simp) ?_
              refine AllReadyIn.cons rfl (fun K hK => ?_) ?_
              · go_simp
                refine hK _ _ ?_
                clear hK K
                refine wpAnyIn_ready (rs := [13]) (by kernel_rfl) (by simp) ?_
                refine AllReadyIn.cons rfl (fun K hK => ?_) AllReadyIn.nil
                go_simp
                refine ⟨hdd _, ?_⟩
                refine hRd.mono ?_
                rintro e w9 (⟨rfl, hJ9, hk9⟩ | ⟨rfl, hJ9⟩)
                · have HE : Hid (VisitEnd J Jx n0 D l B xs p (.mk k t ks) pre W (.returned (.bool true)) w9) := Lib.hid (.inl ⟨rfl, hJ9, HPd.out.kp hk9 hDB, HVd.out.trans hk9.vi⟩)
                  clear hJ9 hk9 hRd hy
                  refine hK _ _ ?_
                  clear hK K
                  refine wpAnyIn_ready (rs := [14]) (by kernel_rfl) (by simp) ?_
                  refine AllReadyIn.cons rfl (fun K hK => ?_) AllReadyIn.nil
                  go_simp
                  refine hK _ _ ?_
                  clear hK K
                  refine wpAnyIn_ready (rs := [15]) (by kernel_rfl) (by simp) ?_
                  refine AllReadyIn.cons rfl (fun K hK => ?_) AllReadyIn.nil
                  go_simp
                  refine hK _ _ ?_
                  clear hK K
                  refine wpAnyIn_done (by kernel_rfl) ?_ _
                  gi_wp2
                  go_ret
                  exact HE.out
                · have HE : Hid (VisitEnd J Jx n0 D l B xs p (.mk k t ks) pre W (.returned (.bool false)) w9) := Lib.hid (.inr ⟨rfl, _, HPR.out, hJ9⟩)
                  clear hJ9 hRd hy
                  refine hK _ _ ?_
                  clear hK K
                  refine wpAnyIn_ready (rs := [14]) (by kernel_rfl) (by simp) ?_
                  refine AllReadyIn.cons rfl (fun K hK => ?_) AllReadyIn.nil
                  go_simp
                  refine hK _ _ ?_
                  clear hK K
                  refine wpAnyIn_ready (rs := [15]) (by kernel_rfl) (by simp) ?_
                  refine AllReadyIn.cons rfl (fun K hK => ?_) AllReadyIn.nil
                  go_simp
                  refine hK _ _ ?_
                  clear hK K
                  refine wpAnyIn_done (by kernel_rfl) ?_ _
                  gi_wp2
                  go_ret
                  exact HE.out
              exact AllReadyIn.nil
            exact AllReadyIn.nil
          refine AllReadyIn.cons rfl (fun K hK => ?_) ?_
          · go_simp
            refine hK _ _ ?_
            clear hK K
            refine wpAnyIn_ready (rs := [7, 11]) (by kernel_rfl) (by simp) ?_
            refine AllReadyIn.cons rfl (fun K hK => ?_) ?_
            · go_simp
              refine hK _ _ ?_
              clear hK K
              refine wpAnyIn_ready (rs := [11]) (by kernel_rfl) (by simp) ?_
              refine AllReadyIn.cons rfl (fun K hK => ?_) ?_
              · go_simp
                refine hK _ _ ?_
                clear hK K
                refine wpAnyIn_ready (rs := [13]) (by kernel_rfl) (by simp) ?_
                refine AllReadyIn.cons rfl (fun K hK => ?_) AllReadyIn.nil
                go_simp
                refine ⟨hdd _, ?_⟩
                refine hRd.mono ?_
                rintro e w9 (⟨rfl, hJ9, hk9⟩ | ⟨rfl, hJ9⟩)
                · have HE : Hid (VisitEnd J Jx n0 D l B xs p (.mk k t ks) pre W (.returned (.bool true)) w9) := Lib.hid (.inl ⟨rfl, hJ9, HPd.out.kp hk9 hDB, HVd.out.trans hk9.vi⟩)
                  clear hJ9 hk9 hRd hy
                  refine hK _ _ ?_
                  clear hK K
                  refine wpAnyIn_ready (rs := [14]) (by kernel_rfl) (by simp) ?_
                  refine AllReadyIn.cons rfl (fun K hK => ?_) AllReadyIn.nil
                  go_simp
                  refine hK _ _ ?_
                  clear hK K
                  refine wpAnyIn_ready (rs := [15]) (by kernel_rfl) (by simp) ?_
                  refine AllReadyIn.cons rfl (fun K hK => ?_) AllReadyIn.nil
                  go_simp
                  refine hK _ _ ?_
                  clear hK K
                  refine wpAnyIn_done (by kernel_rfl) ?_ _
                  gi_wp2
                  go_ret
                  exact HE.out
                · have HE : Hid (VisitEnd J Jx n0 D l B xs p (.mk k t ks) pre W (.returned (.bool false)) w9) := Lib.hid (.inr ⟨rfl, _, HPR.out, hJ9⟩)
                  clear hJ9 hRd hy
                  refine hK _ _ ?_
                  clear hK K
                  refine wpAnyIn_ready (rs := [14]) (by kernel_rfl) (by simp) ?_
                  refine AllReadyIn.cons rfl (fun K hK => ?_) AllReadyIn.nil
                  go_simp
                  refine hK _ _ ?_
                  clear hK K
                  refine wpAnyIn_ready (rs := [15]) (by kernel_rfl) (by simp) ?_
                  refine AllReadyIn.cons rfl (fun K hK => ?_) AllReadyIn.nil
                  go_simp
                  refine hK _ _ ?_
                  clear hK K
                  refine wpAnyIn_done (by kernel_rfl) ?_ _
                  gi_wp2
                  go_ret
                  exact HE.out
              exact AllReadyIn.nil
            refine AllReadyIn.cons rfl (fun K hK => ?_) ?_
            · go_simp
              refine hK _ _ ?_
              clear hK K
              refine wpAnyIn_ready (rs := [7]) (by kernel_rfl) (by simp) ?_
              refine AllReadyIn.cons rfl (fun K hK => ?_) ?_
              · go_simp
                refine hK _ _ ?_
                clear hK K
                refine wpAnyIn_ready (rs := [13]) (by kernel_rfl) (by simp) ?_
                refine AllReadyIn.cons rfl (fun K hK => ?_) AllReadyIn.nil
                go_simp
                refine ⟨hdd _, ?_⟩
                refine hRd.mono ?_
                rintro e w9 (⟨rfl, hJ9, hk9⟩ | ⟨rfl, hJ9⟩)
                · have HE : Hid (VisitEnd J Jx n0 D l B xs p (.mk k t ks) pre W (.returned (.bool true)) w9) := Lib.hid (.inl ⟨rfl, hJ9, HPd.out.kp hk9 hDB, HVd.out.trans hk9.vi⟩)
                  clear hJ9 hk9 hRd hy
                  refine hK _ _ ?_
                  clear hK K
                  refine wpAnyIn_ready (rs := [14]) (by kernel_rfl) (by simp) ?_
                  refine AllReadyIn.cons rfl (fun K hK => ?_) AllReadyIn.nil
                  go_simp
                  refine hK _ _ ?_
                  clear hK K
                  refine wpAnyIn_ready (rs := [15]) (by kernel_rfl) (by simp) ?_
                  refine AllReadyIn.cons rfl (fun K hK => ?_) AllReadyIn.nil
                  go_simp
                  refine hK _ _ ?_
                  clear hK K
                  refine wpAnyIn_done (by kernel_rfl) ?_ _
                  gi_wp2
                  go_ret
                  exact HE.out
                · have HE : Hid (VisitEnd J Jx n0 D l B xs p (.mk k t ks) pre W (.returned (.bool false)) w9) := Lib.hid (.inr ⟨rfl, _, HPR.out, hJ9⟩)
                  clear hJ9 hRd hy
                  refine hK _ _ ?_
                  clear hK K
                  refine wpAnyIn_ready (rs := [14]) (by kernel_rfl) (by simp) ?_
                  refine AllReadyIn.cons rfl (fun K hK => ?_) AllReadyIn.nil
                  go_simp
                  refine hK _ _ ?_
                  clear hK K
                  refine wpAnyIn_ready (rs := [15]) (by kernel_rfl) (by simp) ?_
                  refine AllReadyIn.cons rfl (fun K hK => ?_) AllReadyIn.nil
                  go_simp
                  refine hK _ _ ?_
                  clear hK K
                  refine wpAnyIn_done (by kernel_rfl) ?_ _
                  gi_wp2
                  go_ret
                  exact HE.out
              exact AllReadyIn.nil
            exact AllReadyIn.nil
          exact AllReadyIn.nil
        · have h1' : (K != 1) = true := by rw [← hK, bne_iff_ne]; omega
          have h1b : (K == 1) = false := by rw [← hK, beq_eq_false_iff_ne]; omega
          have HE : Hid (∀ m, VisitEnd J Jx n0 D l B xs p (.mk k t ks) pre W (.returned (.bool true)) (w8.drewN m)) := Lib.hid (fun m => .inl ⟨rfl, by rw [leavesT_mk p t ks h2, if_neg h1, List.append_nil]; exact HHJ.out _ _ _ hJ8 (OsG.below (n0 := n0) (drewN_below w8 m)).st, HP8.out.same fun k hk => (drewN_below w8 m).block k hk, HV8.out.trans (OsG.below (D := D) (drewN_below w8 m)).vi⟩)
          clear hx8 hr8 hB8 hN8 hBr hrr hcur o8 hJ8 hJi hvi hNr HI h1
          gi_wp2_with fail
          refine wpIn_region_quiet_lit rfl (by kernel_rfl) (by kernel_rfl) ?_
          repeat (gi_big_quiet_step (fail))
          refine skip_same (fun _ _ _ _ => trivial) rfl rfl ?_
          repeat (gi_big_quiet_step (fail))
          refine wpQuietIn_nil ?_
          intro _ hw'
          obtain ⟨nq, hw''⟩ := hw'
          subst hw''
          gi_wp2
          go_ret
          exact HE.out nq
end Go.Proofs.YtingfomfibhnhaaGreatDoor
