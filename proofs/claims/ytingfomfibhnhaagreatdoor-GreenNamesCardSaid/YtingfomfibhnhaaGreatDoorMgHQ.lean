/-
  copied: a tree in memory of its own.
-/
import Derived.Test.YtingfomfibhnhaaGreatDoorMgHP
import Derived.Test.YtingfomfibhnhaaGreatDoorMgGZ
import Derived.Deep.RegionHeldLaw
import Derived.Deep.DeepCutAuto
namespace Go.Proofs.YtingfomfibhnhaaGreatDoor
open Go.RowKit Go.Shelf Go.Maps

theorem keepD' {w : World} {a : Addr} {v : Value} (h : w.cell? a = some v) : w.drew.cell? a = some v := h
theorem keepA' {w : World} {a : Addr} {v : Value} (h : w.cell? a = some v) (o : Obj) : (w.alloc o).cell? a = some v := cell_in (galloc (Below.refl w.heap.size w) o) h
theorem keepS' {w : World} {N O k j : Nat} {u v : Value} (hne : N ≠ O) (h : w.cell? ⟨N, k, none⟩ = some v) : (w.setCell ⟨O, j, none⟩ u).cell? ⟨N, k, none⟩ = some v :=
  (World.cell?_of_block (a := ⟨N, k, none⟩) ((OnlyN.set O w j u).block N hne)).trans h
/-- The out tree's box, without Kids. -/
def CBox (w2 : World) (O : Nat) (a b c : Value) (w : World) : Prop :=
  Below w2.heap.size w2 w ∧ w2.heap.size ≤ O ∧ O < w.heap.size ∧ w.heap[O]? = some (.cells #[a, b, c, .slice none 0 0] 27 (0, 0))
theorem zero_c {w2 w3 : World} {cs : Array Value} (hb : Below ((w2.alloc (.cells cs 27)).drew).heap.size ((w2.alloc (.cells cs 27)).drew) w3) : w3.heap[w2.heap.size]? = some (.cells cs 27 (0, 0)) :=
  (hb.block w2.heap.size (by simp)).trans (World.alloc_heap_new w2 _)
theorem cbox_a {w2 w3 : World} {a b c : Value} (hb : Below w2.heap.size w2 w3) : CBox w2 w3.heap.size a b c (w3.alloc (.cells #[a, b, c, .slice none 0 0] 27)) :=
  ⟨galloc hb _, hb.size, by simp, World.alloc_heap_new w3 _⟩
theorem cbox_b {w2 w3 : World} {a b c z0 z1 z2 z3 : Value} {O : Nat} (hb : Below w2.heap.size w2 w3) (hO : w2.heap.size ≤ O) (hz : w3.heap[O]? = some (.cells #[z0, z1, z2, z3] 27 (0, 0))) :
    CBox w2 O a b c ((((w3.setCell ⟨O, 0, none⟩ a).setCell ⟨O, 1, none⟩ b).setCell ⟨O, 2, none⟩ c).setCell ⟨O, 3, none⟩ (.slice none 0 0)) := by
  have hbox := box_fourN hz a b c (.slice none 0 0)
  exact ⟨(((hb.setCell (p := ⟨O, 0, none⟩) hO _).setCell (p := ⟨O, 1, none⟩) hO _).setCell (p := ⟨O, 2, none⟩) hO _).setCell (p := ⟨O, 3, none⟩) hO _, hO, (Array.getElem?_eq_some_iff.1 hbox).1, hbox⟩
/-- What copied ends in. -/
def CopEnd (x : T) (W : World) (e : Ending) (w' : World) : Prop := ∃ (p : Option Addr) (c : Nat), e = .returned (aggN x p c) ∧ NIn w' W.heap.size w'.heap.size x (cellsN x p c) ∧ Below W.heap.size W w'
set_option maxHeartbeats 8000000 in
set_option maxRecDepth 100000 in
theorem copied_one (k : Nat) (t : Tok) (ls : List T) (W : World) (pd : Option Addr) (cd : Nat) (vs : List Value) (hll : ls.length ≤ 1000000) (htt : t.2.length ≤ 1000000000)
    (hd : SlIn AnyB W (.slice pd ls.length cd) 4 ls.length vs) (hj : NsAt AnyB W ls vs)
    (HREC : Hid (∀ (i : Nat) x, ls[i]? = some x → ∀ (w : World) (p : Option Addr) (c : Nat), NAt AnyB w x (cellsN x p c) → Calls Tryz.prog 34 #[aggN x p c] w (CopEnd x w))) :
    Calls Tryz.prog 34 #[.agg #[.int .u8 k, .int .u8 t.1, .string ⟨t.2.toArray⟩, .slice pd ls.length cd]] W (CopEnd (.mk k t ls) W) := by
  have HCL : Hid (∀ w, Calls Tryz.prog 44 #[.agg #[.int .u8 t.1, .string ⟨t.2.toArray⟩]] w fun e w' => e = .returned (.agg #[.int .u8 t.1, .string ⟨t.2.toArray⟩]) ∧ Below w.heap.size w w') := Lib.hid fun w => copiedToken_any t w htt
  obtain ⟨TX, hTX⟩ : ∃ TX : ByteArray, (⟨t.2.toArray⟩ : ByteArray) = TX := ⟨_, rfl⟩
  obtain ⟨K, hK⟩ : ∃ K : Int, (k : Int) = K := ⟨_, rfl⟩
  obtain ⟨TK, hTK⟩ : ∃ K : Int, (t.1 : Int) = K := ⟨_, rfl⟩
  rw [hTX, hTK] at HCL
  rw [hTX, hK, hTK]
  obtain ⟨w1, hw1⟩ : ∃ w1, W.alloc (.cells #[.int .u8 K, .int .u8 TK, .string TX, .slice pd ls.length cd] 27) = w1 := ⟨_, rfl⟩
  have hp1 : w1.heap[W.heap.size]? = some (.cells #[.int .u8 K, .int .u8 TK, .string TX, .slice pd ls.length cd] 27 (0, 0)) := by rw [← hw1]; exact World.alloc_heap_new W _
  have hb1 : Below W.heap.size W w1 := by rw [← hw1]; exact galloc (Below.refl _ _) _
  have hs1 : w1.heap.size = W.heap.size + 1 := by rw [← hw1]; simp
  obtain ⟨w2, hw2⟩ : ∃ w2, w1.alloc (.cells #[.int .u8 0, .int .u8 0, .string ⟨#[]⟩, .slice none 0 0] 27) = w2 := ⟨_, rfl⟩
  have hp2 : w2.heap[w1.heap.size]? = some (.cells #[.int .u8 0, .int .u8 0, .string ⟨#[]⟩, .slice none 0 0] 27 (0, 0)) := by rw [← hw2]; exact World.alloc_heap_new w1 _
  have hb2 : Below w1.heap.size w1 w2 := by rw [← hw2]; exact galloc (Below.refl _ _) _
  have hs2 : w2.heap.size = W.heap.size + 2 := by rw [← hw2]; simp [hs1]
  have hbW : Below W.heap.size W w2 := gcall hb1 hb2 (by omega)
  obtain ⟨N, hN⟩ : ∃ N, W.heap.size = N := ⟨_, rfl⟩
  obtain ⟨R, hR⟩ : ∃ R, w1.heap.size = R := ⟨_, rfl⟩
  have hq1 : w1.heap[N]? = some (.cells #[.int .u8 K, .int .u8 TK, .string TX, .slice pd ls.length cd] 27 (0, 0)) := by rw [← hN]; exact hp1
  have hq2 : w2.heap[N]? = some (.cells #[.int .u8 K, .int .u8 TK, .string TX, .slice pd ls.length cd] 27 (0, 0)) := (hb2.block _ (by omega)).trans hq1
  rw [hR] at hp2
  obtain ⟨d0, d1, d2, d3⟩ := box4 hq2
  have HN := Lib.hid hN
  have HRe := Lib.hid hR
  have HS1 := Lib.hid hs1
  have HS2 := Lib.hid hs2
  have HQ2 := Lib.hid hq2
  have HP2 := Lib.hid hp2
  have HBW := Lib.hid hbW
  have HD := Lib.hid hd
  have HJ := Lib.hid hj
  have HL2 := Lib.hid hll
  have HKK := Lib.hid (And.intro hTX (And.intro hK hTK))
  clear hp1 hb1 hs1 hp2 hb2 hs2 hbW hq1 hq2 hd hj hll htt hTX hK hTK
  go_enter Tryz.func34, Tryz.ntmps34
  go_upto_region 1 with fail
  have hNl : N < w2.heap.size := by have := HS2.out; have := HN.out; omega
  go_cut [3] (fun ov wx => ∃ O : Nat, ov = .pointer (some ⟨O, 0, none⟩) ∧ Hid (CBox w2 O (.int .u8 K) (.int .u8 TK) (.string TX) wx))
  case first => as_aux_lemma =>
    have n1 : N ≠ w2.heap.size := by omega
    have HCA := Lib.hid (HCL.out w2.drew)
    have HCB := Lib.hid (fun o => HCL.out (w2.alloc o).drew)
    have g1A : ∀ w3, Below w2.drew.heap.size w2.drew w3 → Below w2.heap.size w2 w3 := fun w3 h => gcall (Below.refl w2.heap.size w2).drew h (Nat.le_refl _)
    have g2A : ∀ o w3, Below (w2.alloc o).drew.heap.size (w2.alloc o).drew w3 → Below w2.heap.size w2 w3 := fun o w3 h => gcall (galloc (Below.refl w2.heap.size w2) o).drew h (by simp)
    have dd0 : w2.drew.cell? ⟨N, 0, none⟩ = some (.int .u8 K) := d0
    have dd1 : w2.drew.cell? ⟨N, 1, none⟩ = some (.int .u8 TK) := d1
    have dd2 : w2.drew.cell? ⟨N, 2, none⟩ = some (.string TX) := d2
    clear hw1 hw2 HREC HCL
    go_region_held3 (fun u => u.cell? ⟨N, 0, none⟩ = some (.int .u8 K) ∧ u.cell? ⟨N, 1, none⟩ = some (.int .u8 TK) ∧ u.cell? ⟨N, 2, none⟩ = some (.string TX)) (first | exact ⟨d0, d1, d2⟩ | ((with_reducible (refine ⟨?_, ?_, ?_⟩ <;> (repeat' (first | assumption | refine keepD' ?_ | refine keepA' ?_ _ | refine keepS' n1 ?_)))); done) | go_keep) (first
      | (go_at_call 44; (with_reducible refine Calls.mono (HCB.out _) ?_); rintro e w3 ⟨rfl, hb3⟩; have hZ := zero_c hb3; obtain ⟨q0, q1, q2, q3⟩ := box4 hZ; have qf : ∀ o, w3.frozen? ⟨w2.heap.size, o, none⟩ = false := fun o => Lib.frozen_of_heap hZ o; have HZ := Lib.hid hZ; have HB3 := Lib.hid (g2A _ _ hb3); have y0 := cell_in HB3.out d0; have y1 := cell_in HB3.out d1; have y2 := cell_in HB3.out d2; clear hZ hb3)
      | (go_at_call 44; (with_reducible refine Calls.mono HCA.out ?_); rintro e w3 ⟨rfl, hb3⟩; have HB3 := Lib.hid (g1A _ hb3); have y0 := cell_in HB3.out d0; have y1 := cell_in HB3.out d1; have y2 := cell_in HB3.out d2; clear hb3))
    all_goals go_wp2
    all_goals go_meet
    all_goals first
      | exact ⟨_, rfl, Lib.hid (cbox_b HB3.out (Nat.le_refl _) HZ.out)⟩
      | exact ⟨_, rfl, Lib.hid (cbox_a HB3.out)⟩
  obtain ⟨O, rfl, HC0⟩ := hcut
  have HOl : Hid (O < wc.heap.size ∧ R < O ∧ N < R ∧ W.heap.size ≤ N ∧ w2.heap.size ≤ O ∧ R < w2.heap.size) := Lib.hid (by
    have := HS1.out; have := HS2.out; have := HN.out; have := HRe.out; have := HC0.out.2.1; have := HC0.out.2.2.1; omega)
  have hNc : wc.heap[N]? = some (.cells #[.int .u8 K, .int .u8 TK, .string TX, .slice pd ls.length cd] 27 (0, 0)) := (HC0.out.1.block N hNl).trans HQ2.out
  have hRc : wc.heap[R]? = some (.cells #[.int .u8 0, .int .u8 0, .string ⟨#[]⟩, .slice none 0 0] 27 (0, 0)) := (HC0.out.1.block R HOl.out.2.2.2.2.2).trans HP2.out
  have HBC : Hid (Below W.heap.size W wc) := Lib.hid (gcall HBW.out HC0.out.1)
  have e3 : wc.cell? ⟨N, 3, none⟩ = some (.slice pd ls.length cd) := by rw [cellH hNc]; rfl
  have HNC := Lib.hid hNc
  have HRC := Lib.hid hRc
  clear d0 d1 d2 d3 hNc hRc hw1 hw2
  rcases Nat.eq_zero_or_pos ls.length with h0 | h0
  · have hN0 : NIn wc (R + 1) wc.heap.size (.mk k t ls) (cellsN (.mk k t ls) none 0) := by
      have hl : ls = [] := List.eq_nil_of_length_eq_zero h0
      rw [hl]
      unfold NIn
      exact ⟨none, 0, [], rfl, .inl ⟨rfl, rfl, rfl, rfl⟩⟩
    obtain ⟨x0, x1, x2, x3⟩ := box4 HC0.out.2.2.2
    obtain ⟨q0, q1, q2, q3⟩ := box4 HRC.out
    have qf : ∀ o, wc.frozen? ⟨R, o, none⟩ = false := fun o => Lib.frozen_of_heap HRC.out o
    have hWR : W.heap.size ≤ R := by have := HOl.out; omega
    have hE := copied_end (a := .int .u8 K) (b := .int .u8 TK) (c := .string TX) (k := k) (t := t) (ls := ls) (p := none) (cc := 0) (lo := R + 1) HBC.out hWR (Nat.lt_succ_self R) hN0 HRC.out
    have HE := Lib.hid hE
    have hgt : decide ((0 : Int) < (ls.length : Int)) = false := decide_eq_false (by omega)
    have hgtn : decide (0 < ls.length) = false := decide_eq_false (by omega)
    have hgt' : ¬ (0 : Int) < (ls.length : Int) := by omega
    have H0 := Lib.hid h0
    rw [h0] at HE
    clear h0 hE HREC hN0
    go_wp2_with fail
    go_loopw [24] (fun iv wr => iv = .int .i64 0 ∧ wc = wr) (fun _ _ => 0)
    case atStart => exact ⟨rfl, rfl⟩
    case round =>
      obtain ⟨rfl, rfl⟩ := hrel
      go_wp2
      obtain ⟨c0, c1, c2, c3⟩ := box4 HE.out.2.2
      refine bodyPost_ret (v := .agg #[.int .u8 K, .int .u8 TK, .string TX, .slice none 0 0]) (by simp [results, Tryz.results34, go_sem, c0, c1, c2, c3]) rfl ⟨none, 0, ?_, ?_, ?_⟩
      · dsimp only [aggN, T.kind, T.tok, T.kids]; rw [HKK.out.1, HKK.out.2.1, HKK.out.2.2, H0.out]
      · have h := HE.out.1
        first | exact h | (dsimp only [cellsN, T.kids] at h ⊢; rw [H0.out] at h ⊢; exact h)
      · exact HE.out.2.1
  · obtain ⟨i27, hi27, hz0, hz1, hz2⟩ := info_parts info27
    have hgt : decide ((0 : Int) < (ls.length : Int)) = true := decide_eq_true (by omega)
    have hgtn : decide (0 < ls.length) = true := decide_eq_true h0
    go_wp2_with (at_make; refine wpList_make_full _ rfl _ _ 23 rfl wc.heap.size 27 i27 (.agg #[.int .u8 0, .int .u8 0, .string ⟨#[]⟩, .slice none 0 0]) 4 und23 hi27 hz0 hz1 .i64 .i64 ls.length ls.length ls.length rfl rfl rfl rfl (by rw [hz2]; have := HL2.out; omega) (by have := HL2.out; unfold maxLen; omega) (Nat.le_refl _) ?_; intro wm hown hgrow; have hOm := (hgrow.block O HOl.out.1 (by simp)).trans HC0.out.2.2.2; have hNm := (hgrow.block N (by have := HOl.out; omega) (by simp)).trans HNC.out; obtain ⟨_, _, _, x3⟩ := box4 hOm; have xf : ∀ o, wm.frozen? ⟨O, o, none⟩ = false := fun o => Lib.frozen_of_heap hOm o; have y3 : ∀ v, (wm.setCell ⟨O, 3, none⟩ v).cell? ⟨N, 3, none⟩ = some (.slice pd ls.length cd) := fun v => keepS' (by have := HOl.out; omega) (by rw [cellH hNm]; rfl); have HOM := Lib.hid hOm; have HNM := Lib.hid hNm; have HOW := Lib.hid hown; have HGR := Lib.hid hgrow; clear hOm hNm hown hgrow)
    obtain ⟨G, hG⟩ : ∃ G, wc.heap.size = G := ⟨_, rfl⟩
    obtain ⟨wo, hwo⟩ : ∃ wo, wm.setCell ⟨O, 3, none⟩ (.slice (some ⟨wc.heap.size, 0, none⟩) ls.length ls.length) = wo := ⟨_, rfl⟩
    rw [hwo]
    have HG : Hid (wc.heap.size = G) := Lib.hid hG
    have hGO : G ≠ O := by have := HOl.out; omega
    have hOnly : OnlyN O wm wo := by rw [← hwo]; exact OnlyN.set _ _ _ _
    have HOo : Hid (wo.heap[O]? = some (.cells #[.int .u8 K, .int .u8 TK, .string TX, .slice (some ⟨G, 0, none⟩) ls.length ls.length] 27 (0, 0))) := Lib.hid (by rw [← hwo, ← hG]; exact heap_setCell_same _ _ 3 _ _ _ HOM.out)
    have HNo : Hid (wo.heap[N]? = some (.cells #[.int .u8 K, .int .u8 TK, .string TX, .slice pd ls.length cd] 27 (0, 0))) := Lib.hid ((hOnly.block N (by have := HOl.out; omega)).trans HNM.out)
    have HRo : Hid (wo.heap[R]? = some (.cells #[.int .u8 0, .int .u8 0, .string ⟨#[]⟩, .slice none 0 0] 27 (0, 0))) := Lib.hid ((hOnly.block R (by have := HOl.out; omega)).trans ((HGR.out.block R (by have := HOl.out; omega) (by simp)).trans HRC.out))
    have HBo : Hid (Below W.heap.size W wo) := Lib.hid (by
      have h := HBC.out
      have hg := HGR.out
      have hx := HOl.out
      exact ⟨hOnly.os.trans (hg.os.trans h.os), hOnly.tape.trans (hg.tape.trans h.tape), hOnly.output.trans (hg.output.trans h.output), by rw [hOnly.size]; exact Nat.le_trans h.size hg.size, fun k hk => (hOnly.block k (by omega)).trans ((hg.block k (by omega) (by simp)).trans (h.block k hk))⟩)
    have HK0 : Hid (KInv wo G ls.length [] wo) := Lib.hid (by
      have h := HOW.out
      rw [hG] at h
      exact kinv_first h h0 (hOnly.block G hGO))
    have HGl : Hid (G < wo.heap.size) := Lib.hid (by
      obtain ⟨_, vs, h, _⟩ := HK0.out
      exact (Array.getElem?_eq_some_iff.1 h).1)
    rw [hG]
    clear hwo hG hOnly HOM HNM HOW HGR y3 xf x3 e3
    go_loopw [24] (fun iv wr => ∃ i : Nat, i ≤ ls.length ∧ iv = .int .i64 i ∧ Hid (KInv wo G ls.length (ls.take i) wr)) (fun iv _ => ls.length - (intOf iv).toNat)
    case atStart => exact ⟨0, by omega, rfl, HK0⟩
    case round =>
      obtain ⟨i, hi, rfl, HI⟩ := hrel
      have hbI := HI.out.1
      have htl : (ls.take i).length = i := by rw [List.length_take]; omega
      have hOr0 : wr.heap[O]? = some (.cells #[.int .u8 K, .int .u8 TK, .string TX, .slice (some ⟨G, 0, none⟩) ls.length ls.length] 27 (0, 0)) := (hbI.block O (Array.getElem?_eq_some_iff.1 HOo.out).1 (fun e => hGO e.symm)).trans HOo.out
      obtain ⟨z0, z1, z2, z3⟩ := box4 hOr0
      rcases Nat.lt_or_ge i ls.length with hlt | hge
      · have hlt' : (i : Int) < (ls.length : Int) := by omega
        have hlt1 : decide ((i : Int) < (ls.length : Int)) = true := decide_eq_true hlt'
        have hwi : IntKind.i64.wrap ((i : Int) + 1) = ((i + 1 : Nat) : Int) := by rw [IntWalk.i64_in _ (by have := HL2.out; omega)]; omega
        obtain ⟨g1, o1, rfl, hx1⟩ := HD.out.cellAt (by omega)
        have hu1 := List.getElem?_eq_getElem hlt
        obtain ⟨pf, cf, hjx, m1, m2, m3, m4⟩ := HJ.out.nth ls vs i _ hu1
        have hGW : W.heap.size ≤ G := by have := HG.out; have := HOl.out; omega
        have hBr : Below W.heap.size W wr := ⟨hbI.os.trans HBo.out.os, hbI.tape.trans HBo.out.tape, hbI.output.trans HBo.out.output, Nat.le_trans HBo.out.size hbI.size, fun k hk => (hbI.block k (by have := HBo.out.size; omega) (by omega)).trans (HBo.out.block k hk)⟩
        have k1 : wr.cell? ⟨g1, o1 + i * 4, none⟩ = some (.int .u8 (ls[i]'hlt).kind) := cell_in hBr (hx1 _ _ m1)
        have k2 : wr.cell? ⟨g1, o1 + i * 4 + 1, none⟩ = some (.int .u8 (ls[i]'hlt).tok.1) := cell_in hBr (hx1 _ _ m2)
        have k3 : wr.cell? ⟨g1, o1 + i * 4 + 2, none⟩ = some (.string ⟨(ls[i]'hlt).tok.2.toArray⟩) := cell_in hBr (hx1 _ _ m3)
        have k4 : wr.cell? ⟨g1, o1 + i * 4 + 3, none⟩ = some (.slice pf (ls[i]'hlt).kids.length cf) := cell_in hBr (hx1 _ _ m4)
        have hcall0 := HREC.out i _ hu1
        have hNAx := hjx.below hBr
        have HT : Hid (ls.take (i + 1) = ls.take i ++ [ls[i]'hlt]) := Lib.hid (by rw [List.take_add_one, List.getElem?_eq_getElem hlt]; rfl)
        obtain ⟨x, hx⟩ : ∃ x, ls[i]'hlt = x := ⟨_, rfl⟩
        rw [hx] at k1 k2 k3 k4 hcall0 HT hNAx
        obtain ⟨v1, hv1⟩ : ∃ v : Int, (x.kind : Int) = v := ⟨_, rfl⟩
        obtain ⟨v2, hv2⟩ : ∃ v : Int, (x.tok.1 : Int) = v := ⟨_, rfl⟩
        obtain ⟨v3, hv3⟩ : ∃ v : ByteArray, (⟨x.tok.2.toArray⟩ : ByteArray) = v := ⟨_, rfl⟩
        obtain ⟨v4, hv4⟩ : ∃ v : Nat, x.kids.length = v := ⟨_, rfl⟩
        obtain ⟨wb, hwb⟩ : ∃ wb, wr.alloc (.cells #[.int .u8 v1, .int .u8 v2, .string v3, .slice pf v4 cf] 27) = wb := ⟨_, rfl⟩
        have hnb : wb.heap[wr.heap.size]? = some (.cells #[.int .u8 v1, .int .u8 v2, .string v3, .slice pf v4 cf] 27 (0, 0)) := by rw [← hwb]; exact World.alloc_heap_new wr _
        have hbb : Below wr.heap.size wr wb := by rw [← hwb]; exact galloc (Below.refl _ _) _
        have hcall : Calls Tryz.prog 34 #[.agg #[.int .u8 v1, .int .u8 v2, .string v3, .slice pf v4 cf]] wb.drew (fun e w' => ∃ (p : Option Addr) (c : Nat), e = .returned (.agg #[.int .u8 v1, .int .u8 v2, .string v3, .slice p v4 c]) ∧ NIn w' wb.drew.heap.size w'.heap.size x [.int .u8 v1, .int .u8 v2, .string v3, .slice p v4 c] ∧ Below wb.drew.heap.size wb.drew w') := by
          have hnx := NAt.below (NAt.below hNAx hbb) (Below.refl wb.heap.size wb).drew
          rw [← hv1, ← hv2, ← hv3, ← hv4]
          exact hcall0 wb.drew pf cf hnx
        rw [hv1] at k1
        rw [hv2] at k2
        rw [hv3] at k3
        rw [hv4] at k4
        have hOr : O < wr.heap.size := (Array.getElem?_eq_some_iff.1 hOr0).1
        have hOb : O < wb.heap.size := Nat.lt_of_lt_of_le hOr hbb.size
        have zb3 : wb.cell? ⟨O, 3, none⟩ = some (.slice (some ⟨G, 0, none⟩) ls.length ls.length) := (hbb.cell (p := ⟨O, 3, none⟩) hOr).trans z3
        obtain ⟨y0, y1, y2, y3⟩ := box4 hnb
        have hbd : Below wr.heap.size wr wb.drew := hbb.drew
        have HCF := Lib.hid (fun (w5 : World) (h : Below wb.drew.heap.size wb.drew w5) => And.intro ((h.cell (p := ⟨O, 3, none⟩) hOb).trans zb3) (kinv_cells HI.out HGl.out htl hlt (gcall hbd h hbb.size)))
        have HSTEP := Lib.hid (fun (w5 : World) (p q u y : Value) (h : Below wb.drew.heap.size wb.drew w5) (hn : NIn w5 wb.drew.heap.size w5.heap.size x [p, q, u, y]) => kinv_step HI.out HGl.out htl hlt (gcall hbd h hbb.size) hbb.size h.size hn)
        have HC1 := Lib.hid hcall
        have zbd : wb.drew.cell? ⟨O, 3, none⟩ = some (.slice (some ⟨G, 0, none⟩) ls.length ls.length) := zb3
        clear HI hbI hx1 hu1 hjx m1 m2 m3 m4 hBr hcall hcall0 hNAx hx hv1 hv2 hv3 hv4 hnb hbb hbd hOr0 z0 z1 z2
        go_wp2_with fail
        go_region_law (first
          | (go_simp; go_at_call 34; with_reducible (refine Calls.mono HC1.out ?_); rintro e w5 ⟨p5, c5p, rfl, hj5, hb5⟩; obtain ⟨c5, r0, r1, r2, r3, rf⟩ := HCF.out w5 hb5; have HFIN := Lib.hid (HSTEP.out w5 _ _ _ _ hb5 hj5); clear hj5 hb5))
        all_goals (clear HC1 HCF HREC HSTEP)
        all_goals (rw [← HT.out] at HFIN)
        all_goals go_wp2
        all_goals exact ⟨⟨i + 1, by omega, rfl, HFIN⟩, by simp [intOf]; omega⟩
      · obtain rfl : i = ls.length := by omega
        have hlt' : ¬ (ls.length : Int) < (ls.length : Int) := by omega
        have hlt1 : decide ((ls.length : Int) < (ls.length : Int)) = false := decide_eq_false hlt'
        rw [List.take_length] at HI
        have hGW : R < G := by have := HG.out; have := HOl.out; omega
        have hWR : W.heap.size ≤ R := by have := HOl.out; omega
        have hRr := (hbI.block R (Array.getElem?_eq_some_iff.1 HRo.out).1 (by omega)).trans HRo.out
        have hBr : Below W.heap.size W wr := ⟨hbI.os.trans HBo.out.os, hbI.tape.trans HBo.out.tape, hbI.output.trans HBo.out.output, Nat.le_trans HBo.out.size hbI.size, fun k hk => (hbI.block k (by have := HBo.out.size; omega) (by omega)).trans (HBo.out.block k hk)⟩
        have hE := copied_end (a := .int .u8 K) (b := .int .u8 TK) (c := .string TX) hBr hWR hGW (kinv_tree (k := k) (t := t) HI.out HGl.out) hRr
        obtain ⟨q0, q1, q2, q3⟩ := box4 hRr
        have qf : ∀ o, wr.frozen? ⟨R, o, none⟩ = false := fun o => Lib.frozen_of_heap hRr o
        have HE := Lib.hid hE
        clear hE hRr hBr HI hbI HREC hOr0
        go_wp2
        obtain ⟨c0, c1, c2, c3⟩ := box4 HE.out.2.2
        refine bodyPost_ret (v := .agg #[.int .u8 K, .int .u8 TK, .string TX, .slice (some ⟨G, 0, none⟩) ls.length ls.length]) (by simp [results, Tryz.results34, go_sem, c0, c1, c2, c3]) rfl ⟨some ⟨G, 0, none⟩, ls.length, ?_, ?_, ?_⟩
        · dsimp only [aggN, T.kind, T.tok, T.kids]; rw [HKK.out.1, HKK.out.2.1, HKK.out.2.2]
        · exact HE.out.1
        · exact HE.out.2.1
end Go.Proofs.YtingfomfibhnhaaGreatDoor
