/-
  split: the cut lies in the right side.
-/
import Derived.Test.YtbmcgmnmmnileaaH
import Derived.Outline
namespace Go.Proofs.Ytbmcgmnmmnileaa
open Go.RowKit Go.Shelf

theorem set4_at {w : World} {n : Nat} {u0 u1 u2 u3 : Value} {T : TypeId} {fr : Nat × Nat} (x0 x1 x2 x3 : Value) (h : w.heap[n]? = some (.cells #[u0, u1, u2, u3] T fr)) : (set4 w n x0 x1 x2 x3).heap[n]? = some (.cells #[x0, x1, x2, x3] T fr) := by
  simp [set4, World.setCell, Array.getElem?_modify, h]

set_option maxRecDepth 100000 in
set_option maxHeartbeats 4000000 in
theorem split_right (w : World) (b : Nat) (l r : T) (k : Nat) (B : Prop) (hA : At w b (.cat l r)) (ho : (T.cat l r).Ok) (h0 : l.size < k) (h1 : k < l.size + r.size) (hs : l.size + r.size ≤ 100000)
    (ih : ∀ W br, At W br r → Calls Try.prog 29 #[.pointer (some ⟨br, 0, none⟩), .int .i64 ((k - l.size : Nat) : Int)] W (Cuts W r.text (k - l.size) B)) :
    Calls Try.prog 29 #[.pointer (some ⟨b, 0, none⟩), .int .i64 k] w (Cuts w (T.cat l r).text k B) := by
  obtain ⟨c0, _, _⟩ := hA.cells
  obtain ⟨bl, br, c3, c4, c5, hl, hr⟩ := hA.cat
  obtain ⟨l0, _, _⟩ := hl.cells
  have pr := ho.2.1.pos
  have c0' : w.cell? ⟨b, 0, none⟩ = some (.int .i64 ((l.size + r.size : Nat) : Int)) := c0
  have hne : ((k : Int) == 0) = false := by rw [beq_eq_false_iff_ne]; omega
  have hn2 : ((k : Int) == ((l.size + r.size : Nat) : Int)) = false := by rw [beq_eq_false_iff_ne]; omega
  have hz := At.lt hA
  have hle : (l.size : Int) < (k : Int) := by omega
  have hwr : IntKind.i64.wrap ((k : Int) - (l.size : Int)) = (k : Int) - (l.size : Int) := IntWalk.i64_in _ (by omega)
  rw [show ((k - l.size : Nat) : Int) = (k : Int) - (l.size : Int) by omega] at ih
  obtain ⟨W0, hW0⟩ : ∃ W, w.alloc (.cells #[.pointer none, .string ⟨#[]⟩, .string ⟨#[]⟩, .pointer none] 61) = W := ⟨_, rfl⟩
  have hB0 : Below w.heap.size w W0 := by rw [← hW0]; exact (Below.refl _ _).alloc (Nat.le_refl _) _
  have hp := isPiece_cat W0 b l r (hA.below (Nat.le_refl _) hB0)
  have hi := fun W (hW : Below W0.heap.size W0 W) => ih W br ((hr.below (Nat.le_refl _) hB0).below (Nat.le_refl _) hW)
  have hr0 := Lib.hid (hl.below (Nat.le_refl _) hB0)
  have q0 : W0.cell? ⟨w.heap.size, 0, none⟩ = some (.pointer none) := by rw [← hW0]; simp
  have q1 : W0.cell? ⟨w.heap.size, 1, none⟩ = some (.string ⟨#[]⟩) := by rw [← hW0]; simp
  have q2 : W0.cell? ⟨w.heap.size, 2, none⟩ = some (.string ⟨#[]⟩) := by rw [← hW0]; simp
  have q3 : W0.cell? ⟨w.heap.size, 3, none⟩ = some (.pointer none) := by rw [← hW0]; simp
  have g0 : W0.frozen? ⟨w.heap.size, 0, none⟩ = false := by rw [← hW0]; simp
  have g1 : W0.frozen? ⟨w.heap.size, 1, none⟩ = false := by rw [← hW0]; simp
  have g2 : W0.frozen? ⟨w.heap.size, 2, none⟩ = false := by rw [← hW0]; simp
  have g3 : W0.frozen? ⟨w.heap.size, 3, none⟩ = false := by rw [← hW0]; simp
  have e0 := keepB (hB0) c0'
  have e4 := keepB (hB0) c4
  have e5 := keepB (hB0) c5
  have m0 := keepB (hB0) l0
  have hRO : Hid (W0.heap[w.heap.size]? = some (.cells #[.pointer none, .string ⟨#[]⟩, .string ⟨#[]⟩, .pointer none] 61 (0, 0))) := Lib.hid (by rw [← hW0]; exact World.alloc_heap_new w _)
  have zR0 : w.heap.size < W0.heap.size := World.block_lt_of_cell? W0 ⟨w.heap.size, 0, none⟩ q0
  have zR : w.heap.size < W0.heap.size := World.block_lt_of_cell? W0 ⟨w.heap.size, 0, none⟩ q0
  have HO := Lib.hid ho
  have HSZ := Lib.hid hs
  have HLS := Lib.hid (T.size_text l)
  clear hA c0 c3 c4 c5 l0 c0' hl hr ih ho hs
  generalize hll : l.size + r.size = n at *
  have Q := Lib.hid hll
  clear hll
  go_enter Try.func29, Try.ntmps29
  go_wp2_with fail
  refine hp.mono ?_
  rintro e w1 ⟨rfl, rfl⟩
  clear hp
  go_wp2
  clear hW0
  have nb0 : W0.heap.size ≠ b := by have := World.block_lt_of_cell? W0 ⟨b, 5, none⟩ e5; simp at this; omega
  have nl0 : W0.heap.size ≠ bl := by have := World.block_lt_of_cell? W0 ⟨bl, 0, none⟩ m0; simp at this; omega
  have zb0 : b < W0.heap.size := World.block_lt_of_cell? W0 ⟨b, 5, none⟩ e5
  have zl0 : bl < W0.heap.size := World.block_lt_of_cell? W0 ⟨bl, 0, none⟩ m0
  go_region_held3 (fun x => x.cell? ⟨b, 5, none⟩ = some (.pointer (some ⟨br, 0, none⟩)) ∧ x.cell? ⟨b, 4, none⟩ = some (.pointer (some ⟨bl, 0, none⟩)) ∧ x.cell? ⟨bl, 0, none⟩ = some (.int .i64 l.size)) (first | exact ⟨e5, e4, m0⟩ | exact ⟨s5, s4, s0⟩ | go_keep) (first | (go_at_call 29; (with_reducible refine Calls.mono (hi _ (Below.refl _ _).drew) ?_); rintro e w1 ⟨u, v, lo, ro, ha, ta, rfl, hu, hv, ou, ov, hx, hk, hbd, hB1⟩; obtain ⟨pu, rfl⟩ := hu.ptr; obtain ⟨pv, rfl⟩ := hv.ptr; have s5 := (hB1.cell (p := ⟨b, 5, none⟩) zb0).trans e5; have s4 := (hB1.cell (p := ⟨b, 4, none⟩) zb0).trans e4; have s0 := (hB1.cell (p := ⟨bl, 0, none⟩) zl0).trans m0) | (go_at_call 29; (with_reducible refine Calls.mono (hi _ ((Below.refl _ _).alloc (Nat.le_refl _) _).drew) ?_); rintro e w1 ⟨u, v, lo, ro, ha, ta, rfl, hu, hv, ou, ov, hx, hk, hbd, hB1⟩; obtain ⟨pu, rfl⟩ := hu.ptr; obtain ⟨pv, rfl⟩ := hv.ptr; have s5 := (hB1.cell (p := ⟨b, 5, none⟩) (by simp; omega)).trans ((World.cell?_alloc_some W0 ⟨b, 5, none⟩ _ (by rw [e5]; rfl)).trans e5); have s4 := (hB1.cell (p := ⟨b, 4, none⟩) (by simp; omega)).trans ((World.cell?_alloc_some W0 ⟨b, 4, none⟩ _ (by rw [e4]; rfl)).trans e4); have s0 := (hB1.cell (p := ⟨bl, 0, none⟩) (by simp; omega)).trans ((World.cell?_alloc_some W0 ⟨bl, 0, none⟩ _ (by rw [m0]; rfl)).trans m0); have d0 := (hB1.cell (p := ⟨W0.heap.size, 0, none⟩) (by simp)).trans (show ((W0.alloc (.cells #[.pointer none, .string ⟨#[]⟩, .string ⟨#[]⟩, .pointer none] 61)).drew).cell? ⟨W0.heap.size, 0, none⟩ = some (.pointer none) by simp); have u0 := (hB1.frozen (p := ⟨W0.heap.size, 0, none⟩) (by simp)).trans (show ((W0.alloc (.cells #[.pointer none, .string ⟨#[]⟩, .string ⟨#[]⟩, .pointer none] 61)).drew).frozen? ⟨W0.heap.size, 0, none⟩ = false by simp); have d1 := (hB1.cell (p := ⟨W0.heap.size, 1, none⟩) (by simp)).trans (show ((W0.alloc (.cells #[.pointer none, .string ⟨#[]⟩, .string ⟨#[]⟩, .pointer none] 61)).drew).cell? ⟨W0.heap.size, 1, none⟩ = some (.string ⟨#[]⟩) by simp); have u1 := (hB1.frozen (p := ⟨W0.heap.size, 1, none⟩) (by simp)).trans (show ((W0.alloc (.cells #[.pointer none, .string ⟨#[]⟩, .string ⟨#[]⟩, .pointer none] 61)).drew).frozen? ⟨W0.heap.size, 1, none⟩ = false by simp); have d2 := (hB1.cell (p := ⟨W0.heap.size, 2, none⟩) (by simp)).trans (show ((W0.alloc (.cells #[.pointer none, .string ⟨#[]⟩, .string ⟨#[]⟩, .pointer none] 61)).drew).cell? ⟨W0.heap.size, 2, none⟩ = some (.string ⟨#[]⟩) by simp); have u2 := (hB1.frozen (p := ⟨W0.heap.size, 2, none⟩) (by simp)).trans (show ((W0.alloc (.cells #[.pointer none, .string ⟨#[]⟩, .string ⟨#[]⟩, .pointer none] 61)).drew).frozen? ⟨W0.heap.size, 2, none⟩ = false by simp); have d3 := (hB1.cell (p := ⟨W0.heap.size, 3, none⟩) (by simp)).trans (show ((W0.alloc (.cells #[.pointer none, .string ⟨#[]⟩, .string ⟨#[]⟩, .pointer none] 61)).drew).cell? ⟨W0.heap.size, 3, none⟩ = some (.pointer none) by simp); have u3 := (hB1.frozen (p := ⟨W0.heap.size, 3, none⟩) (by simp)).trans (show ((W0.alloc (.cells #[.pointer none, .string ⟨#[]⟩, .string ⟨#[]⟩, .pointer none] 61)).drew).frozen? ⟨W0.heap.size, 3, none⟩ = false by simp)))
  · have gA : Below w1.heap.size w1 (w1.alloc (.cells #[.pointer pu, .string ha, .string ta, .pointer pv] 61)) := (Below.refl _ _).alloc (Nat.le_refl _) _
    have zz := hB1.size
    have zd : W0.drew.heap.size = W0.heap.size := rfl
    have FC : (w1.alloc (.cells #[.pointer pu, .string ha, .string ta, .pointer pv] 61)).heap[w1.heap.size]? = some (.cells #[.pointer pu, .string ha, .string ta, .pointer pv] 61 (0, 0)) := World.alloc_heap_new w1 _
    have FR : (w1.alloc (.cells #[.pointer pu, .string ha, .string ta, .pointer pv] 61)).heap[w.heap.size]? = some (.cells #[.pointer none, .string ⟨#[]⟩, .string ⟨#[]⟩, .pointer none] 61 (0, 0)) := (gA.block w.heap.size (by omega)).trans ((hB1.block w.heap.size (by omega)).trans hRO.out)
    have BB : Below w.heap.size w (w1.alloc (.cells #[.pointer pu, .string ha, .string ta, .pointer pv] 61)) := hB0.trans (((Below.refl _ _).drew.trans (hB1.mono (Nat.le_of_eq zd.symm))).mono hB0.size |>.trans (gA.mono (by omega)))
    have zRC : w.heap.size < w1.heap.size := by omega
    have AU := Lib.hid (hu.below (Nat.le_refl _) gA)
    have AV := Lib.hid (hv.below (Nat.le_refl _) gA)
    have AL := Lib.hid ((hr0.out.below (Nat.le_refl _) ((Below.refl _ _).drew.trans (hB1.mono (Nat.le_of_eq zd.symm)))).below (Nat.le_refl _) gA)
    have x4 := keepB gA s4
    clear hi hr0 q0 q1 q2 q3 g0 g1 g2 g3 e0 e4 e5 m0 hRO hB0 hB1 zR0 zR zz zd s5 s4 s0 hu hv nb0 nl0 zb0 zl0 gA
    generalize w1.alloc (.cells #[.pointer pu, .string ha, .string ta, .pointer pv] 61) = W2 at *
    generalize w1.heap.size = C at *
    have HX := Lib.hid hx
    have HK := Lib.hid hk
    have HBD := Lib.hid hbd
    clear hx hk hbd
    have zC : C < W2.heap.size := (Array.getElem?_eq_some_iff.1 FC).1
    have zR2 : w.heap.size < W2.heap.size := (Array.getElem?_eq_some_iff.1 FR).1
    have nCb : C ≠ b := by omega
    have nCR : C ≠ w.heap.size := by omega
    have x0 : W2.cell? ⟨C, 0, none⟩ = some (.pointer pu) := by rw [cellH FC]; rfl
    have x1 : W2.cell? ⟨C, 1, none⟩ = some (.string ha) := by rw [cellH FC]; rfl
    have x2 : W2.cell? ⟨C, 2, none⟩ = some (.string ta) := by rw [cellH FC]; rfl
    have x3 : W2.cell? ⟨C, 3, none⟩ = some (.pointer pv) := by rw [cellH FC]; rfl
    have y0 : W2.frozen? ⟨C, 0, none⟩ = false := Lib.frozen_of_heap FC 0
    have q0 : W2.cell? ⟨w.heap.size, 0, none⟩ = some (.pointer none) := by rw [cellH FR]; rfl
    have q1 : W2.cell? ⟨w.heap.size, 1, none⟩ = some (.string ⟨#[]⟩) := by rw [cellH FR]; rfl
    have q2 : W2.cell? ⟨w.heap.size, 2, none⟩ = some (.string ⟨#[]⟩) := by rw [cellH FR]; rfl
    have q3 : W2.cell? ⟨w.heap.size, 3, none⟩ = some (.pointer none) := by rw [cellH FR]; rfl
    have g0 : W2.frozen? ⟨w.heap.size, 0, none⟩ = false := Lib.frozen_of_heap FR 0
    have g1 : W2.frozen? ⟨w.heap.size, 1, none⟩ = false := Lib.frozen_of_heap FR 1
    have g2 : W2.frozen? ⟨w.heap.size, 2, none⟩ = false := Lib.frozen_of_heap FR 2
    have g3 : W2.frozen? ⟨w.heap.size, 3, none⟩ = false := Lib.frozen_of_heap FR 3
    have HFC := Lib.hid FC
    have HFR := Lib.hid FR
    have HBB := Lib.hid BB
    have cj := fun W (hW : Below W2.heap.size W2 W) => join_any W (.pointer (some ⟨bl, 0, none⟩)) (.pointer pu) (some l) lo ⟨bl, rfl, AL.out.below (Nat.le_refl _) hW⟩ (AU.out.below (Nat.le_refl _) hW) HO.out.1 ou (by
      have a1 := congrArg List.length HX.out
      have a2 := T.size_text r
      have a3 := HSZ.out
      have a4 := Q.out
      have a5 := HLS.out
      simp only [List.length_append] at a1
      show l.text.length + (textO lo).length ≤ _
      omega)
    clear FC FR BB
    go_wp2
    go_region_with (go_at_call 42; refine Calls.mono (cj _ (by first | exact (Below.refl _ _).drew | exact Below.refl _ _)) ?_; rintro e w4 ⟨z, o, rfl, kz, ko, kx, hb4⟩; obtain ⟨pz, rfl⟩ := kz.ptr; have s3 := (hb4.cell (p := ⟨C, 0, none⟩) zC).trans x0; have s6 := (hb4.frozen (p := ⟨C, 0, none⟩) zC).trans y0)
    all_goals
      have n0 : (w4.setCell ⟨C, 0, none⟩ (.pointer pz)).cell? ⟨C, 0, none⟩ = some (.pointer pz) := World.cell?_setCell_same _ _ _ s3
      have n1 : (w4.setCell ⟨C, 0, none⟩ (.pointer pz)).cell? ⟨C, 1, none⟩ = some (.string ha) := (World.cell?_setCell_other _ _ _ _ (by simp)).trans ((hb4.cell (p := ⟨C, 1, none⟩) zC).trans x1)
      have n2 : (w4.setCell ⟨C, 0, none⟩ (.pointer pz)).cell? ⟨C, 2, none⟩ = some (.string ta) := (World.cell?_setCell_other _ _ _ _ (by simp)).trans ((hb4.cell (p := ⟨C, 2, none⟩) zC).trans x2)
      have n3 : (w4.setCell ⟨C, 0, none⟩ (.pointer pz)).cell? ⟨C, 3, none⟩ = some (.pointer pv) := (World.cell?_setCell_other _ _ _ _ (by simp)).trans ((hb4.cell (p := ⟨C, 3, none⟩) zC).trans x3)
      have r0 : (w4.setCell ⟨C, 0, none⟩ (.pointer pz)).cell? ⟨w.heap.size, 0, none⟩ = some (.pointer none) := (World.cell?_setCell_far _ _ _ _ nCR).trans ((hb4.cell (p := ⟨w.heap.size, 0, none⟩) zR2).trans q0)
      have r1 : (w4.setCell ⟨C, 0, none⟩ (.pointer pz)).cell? ⟨w.heap.size, 1, none⟩ = some (.string ⟨#[]⟩) := (World.cell?_setCell_far _ _ _ _ nCR).trans ((hb4.cell (p := ⟨w.heap.size, 1, none⟩) zR2).trans q1)
      have r2 : (w4.setCell ⟨C, 0, none⟩ (.pointer pz)).cell? ⟨w.heap.size, 2, none⟩ = some (.string ⟨#[]⟩) := (World.cell?_setCell_far _ _ _ _ nCR).trans ((hb4.cell (p := ⟨w.heap.size, 2, none⟩) zR2).trans q2)
      have r3 : (w4.setCell ⟨C, 0, none⟩ (.pointer pz)).cell? ⟨w.heap.size, 3, none⟩ = some (.pointer none) := (World.cell?_setCell_far _ _ _ _ nCR).trans ((hb4.cell (p := ⟨w.heap.size, 3, none⟩) zR2).trans q3)
      have v0 := (hb4.frozen (p := ⟨w.heap.size, 0, none⟩) zR2).trans g0
      have v1 := (hb4.frozen (p := ⟨w.heap.size, 1, none⟩) zR2).trans g1
      have v2 := (hb4.frozen (p := ⟨w.heap.size, 2, none⟩) zR2).trans g2
      have v3 := (hb4.frozen (p := ⟨w.heap.size, 3, none⟩) zR2).trans g3
      obtain ⟨t0, t1, t2, t3⟩ := put_four (.pointer pz) (.string ha) (.string ta) (.pointer pv) r0 r1 r2 r3
      have hC4 : w4.heap[C]? = some (.cells #[.pointer pu, .string ha, .string ta, .pointer pv] 61 (0, 0)) := (hb4.block C zC).trans HFC.out
      have hR5 : (w4.setCell ⟨C, 0, none⟩ (.pointer pz)).heap[w.heap.size]? = some (.cells #[.pointer none, .string ⟨#[]⟩, .string ⟨#[]⟩, .pointer none] 61 (0, 0)) := (Below.heap_setCell _ _ _ w.heap.size (fun e => nCR e.symm)).trans ((hb4.block w.heap.size zR2).trans HFR.out)
      have hBE : Below w.heap.size w (w4.setCell ⟨C, 0, none⟩ (.pointer pz)) := (HBB.out.trans ((Below.refl _ _).drew.trans (hb4.mono (Nat.le_of_lt zR2)))).setCell (p := ⟨C, 0, none⟩) (Nat.le_of_lt zRC) _
      have FV := Lib.hid ((((AV.out.below (Nat.le_refl _) (Below.refl _ _).drew).below (w' := w4) (Nat.le_refl _) hb4).but hC4 (w' := w4.setCell ⟨C, 0, none⟩ (.pointer pz)) fun k hk => Below.heap_setCell _ _ _ k hk).but hR5 (set4_heap _ w.heap.size (.pointer pz) (.string ha) (.string ta) (.pointer pv)))
      have FZ := Lib.hid ((kz.but hC4 (w' := w4.setCell ⟨C, 0, none⟩ (.pointer pz)) fun k hk => Below.heap_setCell _ _ _ k hk).but hR5 (set4_heap _ w.heap.size (.pointer pz) (.string ha) (.string ta) (.pointer pv)))
      have FB := Lib.hid (below_set4 hBE w.heap.size (Nat.le_refl _) (.pointer pz) (.string ha) (.string ta) (.pointer pv))
      clear hR5 hBE hC4
      unfold set4 at t0 t1 t2 t3 FV FZ FB
      go_wp2
      refine bodyPost_ret (v := .agg #[.pointer pz, .string ha, .string ta, .pointer pv]) (by simp [results, Try.f29, go_sem, t0, t1, t2, t3]) rfl ?_
      exact ⟨_, _, o, ro, ha, ta, rfl, FZ.out, FV.out, ko, ov, by show l.text ++ r.text = _; rw [HX.out, kx]; simp only [List.append_assoc]; rfl, by
        have a1 := HK.out
        have a2 := HLS.out
        have a3 : (textO o).length = l.text.length + (textO lo).length := by rw [kx, List.length_append]; rfl
        omega, HBD.out, FB.out⟩
  · rename_i hHeldZ
    have zd : (W0.alloc (.cells #[.pointer none, .string ⟨#[]⟩, .string ⟨#[]⟩, .pointer none] 61)).drew.heap.size = W0.heap.size + 1 := by simp
    have zz := hB1.size
    have gA : Below W0.heap.size W0 (W0.alloc (.cells #[.pointer none, .string ⟨#[]⟩, .string ⟨#[]⟩, .pointer none] 61)).drew := ((Below.refl _ _).alloc (Nat.le_refl _) _).drew
    have gB : Below W0.heap.size W0 w1 := gA.trans (hB1.mono (by omega))
    have FZ : w1.heap[W0.heap.size]? = some (.cells #[.pointer none, .string ⟨#[]⟩, .string ⟨#[]⟩, .pointer none] 61 (0, 0)) := (hB1.block W0.heap.size (by omega)).trans (World.alloc_heap_new W0 _)
    have FC := set4_at (.pointer pu) (.string ha) (.string ta) (.pointer pv) FZ
    have ks := set4_heap w1 W0.heap.size (.pointer pu) (.string ha) (.string ta) (.pointer pv)
    have FR : (set4 w1 W0.heap.size (.pointer pu) (.string ha) (.string ta) (.pointer pv)).heap[w.heap.size]? = some (.cells #[.pointer none, .string ⟨#[]⟩, .string ⟨#[]⟩, .pointer none] 61 (0, 0)) := (ks w.heap.size (by omega)).trans ((gB.block w.heap.size (by omega)).trans hRO.out)
    have BB : Below w.heap.size w (set4 w1 W0.heap.size (.pointer pu) (.string ha) (.string ta) (.pointer pv)) := below_set4 (hB0.trans (gB.mono hB0.size)) _ (by omega) _ _ _ _
    have zRC : w.heap.size < W0.heap.size := by omega
    have AU := Lib.hid (hu.but FZ ks)
    have AV := Lib.hid (hv.but FZ ks)
    have AL := Lib.hid ((hr0.out.below (Nat.le_refl _) gB).but FZ ks)
    have x4 : (set4 w1 W0.heap.size (.pointer pu) (.string ha) (.string ta) (.pointer pv)).cell? ⟨b, 4, none⟩ = some (.pointer (some ⟨bl, 0, none⟩)) := hHeldZ.2.1
    clear hHeldZ hi hr0 q0 q1 q2 q3 g0 g1 g2 g3 e0 e4 e5 m0 hRO hB0 hB1 zR0 zR zz zd s5 s4 s0 hu hv nb0 nl0 zb0 zl0 gA gB FZ ks d0 d1 d2 d3 u0 u1 u2 u3
    change Exit.then _ _ _ _ (set4 w1 W0.heap.size (.pointer pu) (.string ha) (.string ta) (.pointer pv))
    generalize set4 w1 W0.heap.size (.pointer pu) (.string ha) (.string ta) (.pointer pv) = W2 at *
    generalize W0.heap.size = C at *
    have HX := Lib.hid hx
    have HK := Lib.hid hk
    have HBD := Lib.hid hbd
    clear hx hk hbd
    have zC : C < W2.heap.size := (Array.getElem?_eq_some_iff.1 FC).1
    have zR2 : w.heap.size < W2.heap.size := (Array.getElem?_eq_some_iff.1 FR).1
    have nCb : C ≠ b := by omega
    have nCR : C ≠ w.heap.size := by omega
    have x0 : W2.cell? ⟨C, 0, none⟩ = some (.pointer pu) := by rw [cellH FC]; rfl
    have x1 : W2.cell? ⟨C, 1, none⟩ = some (.string ha) := by rw [cellH FC]; rfl
    have x2 : W2.cell? ⟨C, 2, none⟩ = some (.string ta) := by rw [cellH FC]; rfl
    have x3 : W2.cell? ⟨C, 3, none⟩ = some (.pointer pv) := by rw [cellH FC]; rfl
    have y0 : W2.frozen? ⟨C, 0, none⟩ = false := Lib.frozen_of_heap FC 0
    have q0 : W2.cell? ⟨w.heap.size, 0, none⟩ = some (.pointer none) := by rw [cellH FR]; rfl
    have q1 : W2.cell? ⟨w.heap.size, 1, none⟩ = some (.string ⟨#[]⟩) := by rw [cellH FR]; rfl
    have q2 : W2.cell? ⟨w.heap.size, 2, none⟩ = some (.string ⟨#[]⟩) := by rw [cellH FR]; rfl
    have q3 : W2.cell? ⟨w.heap.size, 3, none⟩ = some (.pointer none) := by rw [cellH FR]; rfl
    have g0 : W2.frozen? ⟨w.heap.size, 0, none⟩ = false := Lib.frozen_of_heap FR 0
    have g1 : W2.frozen? ⟨w.heap.size, 1, none⟩ = false := Lib.frozen_of_heap FR 1
    have g2 : W2.frozen? ⟨w.heap.size, 2, none⟩ = false := Lib.frozen_of_heap FR 2
    have g3 : W2.frozen? ⟨w.heap.size, 3, none⟩ = false := Lib.frozen_of_heap FR 3
    have HFC := Lib.hid FC
    have HFR := Lib.hid FR
    have HBB := Lib.hid BB
    have cj := fun W (hW : Below W2.heap.size W2 W) => join_any W (.pointer (some ⟨bl, 0, none⟩)) (.pointer pu) (some l) lo ⟨bl, rfl, AL.out.below (Nat.le_refl _) hW⟩ (AU.out.below (Nat.le_refl _) hW) HO.out.1 ou (by
      have a1 := congrArg List.length HX.out
      have a2 := T.size_text r
      have a3 := HSZ.out
      have a4 := Q.out
      have a5 := HLS.out
      simp only [List.length_append] at a1
      show l.text.length + (textO lo).length ≤ _
      omega)
    clear FC FR BB
    go_wp2
    go_region_with (go_at_call 42; refine Calls.mono (cj _ (by first | exact (Below.refl _ _).drew | exact Below.refl _ _)) ?_; rintro e w4 ⟨z, o, rfl, kz, ko, kx, hb4⟩; obtain ⟨pz, rfl⟩ := kz.ptr; have s3 := (hb4.cell (p := ⟨C, 0, none⟩) zC).trans x0; have s6 := (hb4.frozen (p := ⟨C, 0, none⟩) zC).trans y0)
    all_goals
      have n0 : (w4.setCell ⟨C, 0, none⟩ (.pointer pz)).cell? ⟨C, 0, none⟩ = some (.pointer pz) := World.cell?_setCell_same _ _ _ s3
      have n1 : (w4.setCell ⟨C, 0, none⟩ (.pointer pz)).cell? ⟨C, 1, none⟩ = some (.string ha) := (World.cell?_setCell_other _ _ _ _ (by simp)).trans ((hb4.cell (p := ⟨C, 1, none⟩) zC).trans x1)
      have n2 : (w4.setCell ⟨C, 0, none⟩ (.pointer pz)).cell? ⟨C, 2, none⟩ = some (.string ta) := (World.cell?_setCell_other _ _ _ _ (by simp)).trans ((hb4.cell (p := ⟨C, 2, none⟩) zC).trans x2)
      have n3 : (w4.setCell ⟨C, 0, none⟩ (.pointer pz)).cell? ⟨C, 3, none⟩ = some (.pointer pv) := (World.cell?_setCell_other _ _ _ _ (by simp)).trans ((hb4.cell (p := ⟨C, 3, none⟩) zC).trans x3)
      have r0 : (w4.setCell ⟨C, 0, none⟩ (.pointer pz)).cell? ⟨w.heap.size, 0, none⟩ = some (.pointer none) := (World.cell?_setCell_far _ _ _ _ nCR).trans ((hb4.cell (p := ⟨w.heap.size, 0, none⟩) zR2).trans q0)
      have r1 : (w4.setCell ⟨C, 0, none⟩ (.pointer pz)).cell? ⟨w.heap.size, 1, none⟩ = some (.string ⟨#[]⟩) := (World.cell?_setCell_far _ _ _ _ nCR).trans ((hb4.cell (p := ⟨w.heap.size, 1, none⟩) zR2).trans q1)
      have r2 : (w4.setCell ⟨C, 0, none⟩ (.pointer pz)).cell? ⟨w.heap.size, 2, none⟩ = some (.string ⟨#[]⟩) := (World.cell?_setCell_far _ _ _ _ nCR).trans ((hb4.cell (p := ⟨w.heap.size, 2, none⟩) zR2).trans q2)
      have r3 : (w4.setCell ⟨C, 0, none⟩ (.pointer pz)).cell? ⟨w.heap.size, 3, none⟩ = some (.pointer none) := (World.cell?_setCell_far _ _ _ _ nCR).trans ((hb4.cell (p := ⟨w.heap.size, 3, none⟩) zR2).trans q3)
      have v0 := (hb4.frozen (p := ⟨w.heap.size, 0, none⟩) zR2).trans g0
      have v1 := (hb4.frozen (p := ⟨w.heap.size, 1, none⟩) zR2).trans g1
      have v2 := (hb4.frozen (p := ⟨w.heap.size, 2, none⟩) zR2).trans g2
      have v3 := (hb4.frozen (p := ⟨w.heap.size, 3, none⟩) zR2).trans g3
      obtain ⟨t0, t1, t2, t3⟩ := put_four (.pointer pz) (.string ha) (.string ta) (.pointer pv) r0 r1 r2 r3
      have hC4 : w4.heap[C]? = some (.cells #[.pointer pu, .string ha, .string ta, .pointer pv] 61 (0, 0)) := (hb4.block C zC).trans HFC.out
      have hR5 : (w4.setCell ⟨C, 0, none⟩ (.pointer pz)).heap[w.heap.size]? = some (.cells #[.pointer none, .string ⟨#[]⟩, .string ⟨#[]⟩, .pointer none] 61 (0, 0)) := (Below.heap_setCell _ _ _ w.heap.size (fun e => nCR e.symm)).trans ((hb4.block w.heap.size zR2).trans HFR.out)
      have hBE : Below w.heap.size w (w4.setCell ⟨C, 0, none⟩ (.pointer pz)) := (HBB.out.trans ((Below.refl _ _).drew.trans (hb4.mono (Nat.le_of_lt zR2)))).setCell (p := ⟨C, 0, none⟩) (Nat.le_of_lt zRC) _
      have FV := Lib.hid ((((AV.out.below (Nat.le_refl _) (Below.refl _ _).drew).below (w' := w4) (Nat.le_refl _) hb4).but hC4 (w' := w4.setCell ⟨C, 0, none⟩ (.pointer pz)) fun k hk => Below.heap_setCell _ _ _ k hk).but hR5 (set4_heap _ w.heap.size (.pointer pz) (.string ha) (.string ta) (.pointer pv)))
      have FZ := Lib.hid ((kz.but hC4 (w' := w4.setCell ⟨C, 0, none⟩ (.pointer pz)) fun k hk => Below.heap_setCell _ _ _ k hk).but hR5 (set4_heap _ w.heap.size (.pointer pz) (.string ha) (.string ta) (.pointer pv)))
      have FB := Lib.hid (below_set4 hBE w.heap.size (Nat.le_refl _) (.pointer pz) (.string ha) (.string ta) (.pointer pv))
      clear hR5 hBE hC4
      unfold set4 at t0 t1 t2 t3 FV FZ FB
      go_wp2
      refine bodyPost_ret (v := .agg #[.pointer pz, .string ha, .string ta, .pointer pv]) (by simp [results, Try.f29, go_sem, t0, t1, t2, t3]) rfl ?_
      exact ⟨_, _, o, ro, ha, ta, rfl, FZ.out, FV.out, ko, ov, by show l.text ++ r.text = _; rw [HX.out, kx]; simp only [List.append_assoc]; rfl, by
        have a1 := HK.out
        have a2 := HLS.out
        have a3 : (textO o).length = l.text.length + (textO lo).length := by rw [kx, List.length_append]; rfl
        omega, HBD.out, FB.out⟩
end Go.Proofs.Ytbmcgmnmmnileaa
