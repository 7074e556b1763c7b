/-
  split: the cut lies in the left side, or in the right one.
-/
import Derived.Test.YtbmcgmnmmnileaaG
import Derived.Deep.RegionWith
import Derived.Outline
namespace Go.Proofs.Ytbmcgmnmmnileaa
open Go.RowKit Go.Shelf

theorem keepB {W w' : World} (hb : Below W.heap.size W w') {a : Addr} {v : Value} (h : W.cell? a = some v) : w'.cell? a = some v := (hb.cell (World.block_lt_of_cell? W a h)).trans h
theorem keepA {W : World} (o : Obj) {a : Addr} {v : Value} (h : W.cell? a = some v) : (W.alloc o).cell? a = some v := (World.cell?_alloc_some W a o (by rw [h]; rfl)).trans h
theorem keepF {W w' : World} {b o : Nat} (hb : Below W.heap.size W w') (hlt : b < W.heap.size) (h : W.frozen? ⟨b, o, none⟩ = false) : w'.frozen? ⟨b, o, none⟩ = false := (hb.frozen (p := ⟨b, o, none⟩) hlt).trans h
theorem AtO.ptr {w : World} {v : Value} {o : Option T} (h : AtO w v o) : ∃ p, v = .pointer p := by
  cases o with
  | none => exact ⟨none, h⟩
  | some t => obtain ⟨b, h, _⟩ := h; exact ⟨_, h⟩

theorem At.but {w w' : World} {R : Nat} {cs : Array Value} {fr : Nat × Nat} (hR : w.heap[R]? = some (.cells cs 61 fr)) (hk : ∀ k, k ≠ R → w'.heap[k]? = w.heap[k]?) : ∀ {t : T} {b : Nat}, At w b t → At w' b t
  | .leaf s, b, h => (hk b (fun e => by
      subst e
      have h' : w.heap[b]? = some (.cells (leafC s) 76 (0, 0)) := h
      rw [hR] at h'
      injection h' with h'
      injection h' with _ h2 _
      exact absurd h2 (by decide))).trans h
  | .cat l r, b, ⟨bl, br, h, hl, hr⟩ => ⟨bl, br, (hk b (fun e => by
      subst e
      rw [hR] at h
      injection h with h'
      injection h' with _ h2 _
      exact absurd h2 (by decide))).trans h, At.but hR hk hl, At.but hR hk hr⟩
theorem AtO.but {w w' : World} {R : Nat} {cs : Array Value} {fr : Nat × Nat} (hR : w.heap[R]? = some (.cells cs 61 fr)) (hk : ∀ k, k ≠ R → w'.heap[k]? = w.heap[k]?) {v : Value} : ∀ {o : Option T}, AtO w v o → AtO w' v o
  | none, h => h
  | some _, ⟨b, h, ht⟩ => ⟨b, h, ht.but hR hk⟩
theorem set4_heap (w : World) (n : Nat) (x0 x1 x2 x3 : Value) (k : Nat) (h : k ≠ n) : (set4 w n x0 x1 x2 x3).heap[k]? = w.heap[k]? := by
  unfold set4
  rw [Below.heap_setCell _ _ _ k h, Below.heap_setCell _ _ _ k h, Below.heap_setCell _ _ _ k h, Below.heap_setCell _ _ _ k h]

set_option maxRecDepth 100000 in
set_option maxHeartbeats 4000000 in
theorem split_left (w : World) (b : Nat) (l r : T) (k : Nat) (B : Prop) (hA : At w b (.cat l r)) (ho : (T.cat l r).Ok) (h0 : 0 < k) (h1 : k ≤ l.size) (hs : l.size + r.size ≤ 100000)
    (ih : ∀ W bl, At W bl l → Calls Try.prog 29 #[.pointer (some ⟨bl, 0, none⟩), .int .i64 k] W (Cuts W l.text k B)) :
    Calls Try.prog 29 #[.pointer (some ⟨b, 0, none⟩), .int .i64 k] w (Cuts w (T.cat l r).text k B) := by
  obtain ⟨c0, _, _⟩ := hA.cells
  obtain ⟨bl, br, c3, c4, c5, hl, hr⟩ := hA.cat
  obtain ⟨l0, _, _⟩ := hl.cells
  have pr := ho.2.1.pos
  have c0' : w.cell? ⟨b, 0, none⟩ = some (.int .i64 ((l.size + r.size : Nat) : Int)) := c0
  have hne : ((k : Int) == 0) = false := by rw [beq_eq_false_iff_ne]; omega
  have hn2 : ((k : Int) == ((l.size + r.size : Nat) : Int)) = false := by rw [beq_eq_false_iff_ne]; omega
  have hz := At.lt hA
  have hle : (k : Int) ≤ (l.size : Int) := by omega
  obtain ⟨W0, hW0⟩ : ∃ W, w.alloc (.cells #[.pointer none, .string ⟨#[]⟩, .string ⟨#[]⟩, .pointer none] 61) = W := ⟨_, rfl⟩
  have hB0 : Below w.heap.size w W0 := by rw [← hW0]; exact (Below.refl _ _).alloc (Nat.le_refl _) _
  have hp := isPiece_cat W0 b l r (hA.below (Nat.le_refl _) hB0)
  have hi := ih W0 bl (hl.below (Nat.le_refl _) hB0)
  have hr0 := Lib.hid (hr.below (Nat.le_refl _) hB0)
  have q0 : W0.cell? ⟨w.heap.size, 0, none⟩ = some (.pointer none) := by rw [← hW0]; simp
  have q1 : W0.cell? ⟨w.heap.size, 1, none⟩ = some (.string ⟨#[]⟩) := by rw [← hW0]; simp
  have q2 : W0.cell? ⟨w.heap.size, 2, none⟩ = some (.string ⟨#[]⟩) := by rw [← hW0]; simp
  have q3 : W0.cell? ⟨w.heap.size, 3, none⟩ = some (.pointer none) := by rw [← hW0]; simp
  have g0 : W0.frozen? ⟨w.heap.size, 0, none⟩ = false := by rw [← hW0]; simp
  have g1 : W0.frozen? ⟨w.heap.size, 1, none⟩ = false := by rw [← hW0]; simp
  have g2 : W0.frozen? ⟨w.heap.size, 2, none⟩ = false := by rw [← hW0]; simp
  have g3 : W0.frozen? ⟨w.heap.size, 3, none⟩ = false := by rw [← hW0]; simp
  have e0 := keepB (hB0) c0'
  have e4 := keepB (hB0) c4
  have e5 := keepB (hB0) c5
  have m0 := keepB (hB0) l0
  have hRO : Hid (W0.heap[w.heap.size]? = some (.cells #[.pointer none, .string ⟨#[]⟩, .string ⟨#[]⟩, .pointer none] 61 (0, 0))) := Lib.hid (by rw [← hW0]; exact World.alloc_heap_new w _)
  have zR0 : w.heap.size < W0.heap.size := World.block_lt_of_cell? W0 ⟨w.heap.size, 0, none⟩ q0
  have zR : w.heap.size < W0.heap.size := World.block_lt_of_cell? W0 ⟨w.heap.size, 0, none⟩ q0
  have HO := Lib.hid ho
  have HSZ := Lib.hid hs
  have HLS := Lib.hid (T.size_text l)
  clear hA c0 c3 c4 c5 l0 c0' hl hr ih ho hs
  generalize hll : l.size + r.size = n at *
  have Q := Lib.hid hll
  clear hll
  go_enter Try.func29, Try.ntmps29
  go_wp2_with fail
  refine hp.mono ?_
  rintro e w1 ⟨rfl, rfl⟩
  clear hp
  go_wp2_with fail
  clear hW0
  refine Calls.mono hi ?_
  rintro e w1 ⟨u, v, lo, ro, ha, ta, rfl, hu, hv, ou, ov, hx, hk, hbd, hB1⟩
  clear hi
  obtain ⟨pu, rfl⟩ := hu.ptr
  obtain ⟨pv, rfl⟩ := hv.ptr
  replace q0 := keepB hB1 q0
  replace q1 := keepB hB1 q1
  replace q2 := keepB hB1 q2
  replace q3 := keepB hB1 q3
  replace g0 := keepF hB1 zR g0
  replace g1 := keepF hB1 zR g1
  replace g2 := keepF hB1 zR g2
  replace g3 := keepF hB1 zR g3
  replace e5 := keepB hB1 e5
  have hr1 := Lib.hid (hr0.out.below (Nat.le_refl _) hB1)
  have HU := Lib.hid hu
  have HV := Lib.hid hv
  have HX := Lib.hid hx
  have HK := Lib.hid hk
  have HBD := Lib.hid hbd
  replace zR : w.heap.size < w1.heap.size := Nat.lt_of_lt_of_le zR hB1.size
  clear hu hv hx hk hbd hr0 e0 e4 m0
  obtain ⟨W2, hW2⟩ : ∃ W, w1.alloc (.cells #[.pointer pu, .string ha, .string ta, .pointer pv] 61) = W := ⟨_, rfl⟩
  have hCO : Hid (W2.heap[w1.heap.size]? = some (.cells #[.pointer pu, .string ha, .string ta, .pointer pv] 61 (0, 0))) := Lib.hid (by rw [← hW2]; exact World.alloc_heap_new w1 _)
  have gA : Below w1.heap.size w1 W2 := by rw [← hW2]; exact (Below.refl _ _).alloc (Nat.le_refl _) _
  replace q0 := keepB gA q0
  replace q1 := keepB gA q1
  replace q2 := keepB gA q2
  replace q3 := keepB gA q3
  replace g0 := keepF gA zR g0
  replace g1 := keepF gA zR g1
  replace g2 := keepF gA zR g2
  replace g3 := keepF gA zR g3
  replace e5 := keepB gA e5
  have x0 : W2.cell? ⟨w1.heap.size, 0, none⟩ = some (.pointer pu) := by rw [← hW2]; simp
  have x1 : W2.cell? ⟨w1.heap.size, 1, none⟩ = some (.string ha) := by rw [← hW2]; simp
  have x2 : W2.cell? ⟨w1.heap.size, 2, none⟩ = some (.string ta) := by rw [← hW2]; simp
  have x3 : W2.cell? ⟨w1.heap.size, 3, none⟩ = some (.pointer pv) := by rw [← hW2]; simp
  have y3 : W2.frozen? ⟨w1.heap.size, 3, none⟩ = false := by rw [← hW2]; simp
  have zC : w1.heap.size < W2.heap.size := World.block_lt_of_cell? W2 ⟨w1.heap.size, 0, none⟩ x0
  have zb : b < W2.heap.size := World.block_lt_of_cell? W2 ⟨b, 5, none⟩ e5
  have zR2 : w.heap.size < W2.heap.size := Nat.lt_of_lt_of_le zR gA.size
  have nCb : w1.heap.size ≠ b := by omega
  have nCR : w1.heap.size ≠ w.heap.size := by omega
  have cj := fun W (hW : Below W2.heap.size W2 W) => join_any W (.pointer pv) (.pointer (some ⟨br, 0, none⟩)) ro (some r) ((HV.out.below (Nat.le_refl _) gA).below (Nat.le_refl _) hW) ⟨br, rfl, (hr1.out.below (Nat.le_refl _) gA).below (Nat.le_refl _) hW⟩ ov HO.out.2.1 (by
    have a1 := congrArg List.length HX.out
    have a2 := T.size_text r
    have a3 := HSZ.out
    have a4 := Q.out
    have a5 := HLS.out
    simp only [List.length_append] at a1
    show (textO ro).length + r.text.length ≤ _
    omega)
  have HB2 := Lib.hid (hB0.trans ((hB1.mono hB0.size).trans (gA.mono (Nat.le_trans hB0.size hB1.size))))
  go_wp2
  clear hW2
  generalize hC : w1.heap.size = C at *
  go_region_with (go_at_call 42; refine Calls.mono (cj _ (by first | exact (Below.refl _ _).drew | exact Below.refl _ _)) ?_; rintro e w4 ⟨z, o, rfl, kz, ko, kx, hb4⟩; obtain ⟨pz, rfl⟩ := kz.ptr; have s3 := (hb4.cell (p := ⟨C, 3, none⟩) zC).trans x3; have s6 := (hb4.frozen (p := ⟨C, 3, none⟩) zC).trans y3)
  all_goals
    have n0 : (w4.setCell ⟨C, 3, none⟩ (.pointer pz)).cell? ⟨C, 0, none⟩ = some (.pointer pu) := (World.cell?_setCell_other _ _ _ _ (by simp)).trans ((hb4.cell (p := ⟨C, 0, none⟩) zC).trans x0)
    have n1 : (w4.setCell ⟨C, 3, none⟩ (.pointer pz)).cell? ⟨C, 1, none⟩ = some (.string ha) := (World.cell?_setCell_other _ _ _ _ (by simp)).trans ((hb4.cell (p := ⟨C, 1, none⟩) zC).trans x1)
    have n2 : (w4.setCell ⟨C, 3, none⟩ (.pointer pz)).cell? ⟨C, 2, none⟩ = some (.string ta) := (World.cell?_setCell_other _ _ _ _ (by simp)).trans ((hb4.cell (p := ⟨C, 2, none⟩) zC).trans x2)
    have n3 : (w4.setCell ⟨C, 3, none⟩ (.pointer pz)).cell? ⟨C, 3, none⟩ = some (.pointer pz) := World.cell?_setCell_same _ _ _ s3
    have r0 : (w4.setCell ⟨C, 3, none⟩ (.pointer pz)).cell? ⟨w.heap.size, 0, none⟩ = some (.pointer none) := (World.cell?_setCell_far _ _ _ _ nCR).trans ((hb4.cell (p := ⟨w.heap.size, 0, none⟩) zR2).trans q0)
    have r1 : (w4.setCell ⟨C, 3, none⟩ (.pointer pz)).cell? ⟨w.heap.size, 1, none⟩ = some (.string ⟨#[]⟩) := (World.cell?_setCell_far _ _ _ _ nCR).trans ((hb4.cell (p := ⟨w.heap.size, 1, none⟩) zR2).trans q1)
    have r2 : (w4.setCell ⟨C, 3, none⟩ (.pointer pz)).cell? ⟨w.heap.size, 2, none⟩ = some (.string ⟨#[]⟩) := (World.cell?_setCell_far _ _ _ _ nCR).trans ((hb4.cell (p := ⟨w.heap.size, 2, none⟩) zR2).trans q2)
    have r3 : (w4.setCell ⟨C, 3, none⟩ (.pointer pz)).cell? ⟨w.heap.size, 3, none⟩ = some (.pointer none) := (World.cell?_setCell_far _ _ _ _ nCR).trans ((hb4.cell (p := ⟨w.heap.size, 3, none⟩) zR2).trans q3)
    have v0 := (hb4.frozen (p := ⟨w.heap.size, 0, none⟩) zR2).trans g0
    have v1 := (hb4.frozen (p := ⟨w.heap.size, 1, none⟩) zR2).trans g1
    have v2 := (hb4.frozen (p := ⟨w.heap.size, 2, none⟩) zR2).trans g2
    have v3 := (hb4.frozen (p := ⟨w.heap.size, 3, none⟩) zR2).trans g3
    obtain ⟨t0, t1, t2, t3⟩ := put_four (.pointer pu) (.string ha) (.string ta) (.pointer pz) r0 r1 r2 r3
    have hB5 : Below C w1 (w4.setCell ⟨C, 3, none⟩ (.pointer pz)) := (gA.drew.trans (hb4.mono (Nat.le_of_lt zC))).setCell (p := ⟨C, 3, none⟩) (Nat.le_refl _) _
    have hC4 : w4.heap[C]? = some (.cells #[.pointer pu, .string ha, .string ta, .pointer pv] 61 (0, 0)) := (hb4.block C zC).trans hCO.out
    have hR5 : (w4.setCell ⟨C, 3, none⟩ (.pointer pz)).heap[w.heap.size]? = some (.cells #[.pointer none, .string ⟨#[]⟩, .string ⟨#[]⟩, .pointer none] 61 (0, 0)) := (hB5.block w.heap.size zR).trans ((hB1.block w.heap.size zR0).trans hRO.out)
    have hBE : Below w.heap.size w (w4.setCell ⟨C, 3, none⟩ (.pointer pz)) := hB0.trans ((hB1.mono hB0.size).trans (hB5.mono (Nat.le_of_lt zR)))
    have FU := Lib.hid ((HU.out.below (Nat.le_of_eq hC) hB5).but hR5 (set4_heap _ w.heap.size (.pointer pu) (.string ha) (.string ta) (.pointer pz)))
    have FZ := Lib.hid ((kz.but hC4 (w' := w4.setCell ⟨C, 3, none⟩ (.pointer pz)) fun k hk => Below.heap_setCell _ _ _ k hk).but hR5 (set4_heap _ w.heap.size (.pointer pu) (.string ha) (.string ta) (.pointer pz)))
    have FB := Lib.hid (below_set4 hBE w.heap.size (Nat.le_refl _) (.pointer pu) (.string ha) (.string ta) (.pointer pz))
    clear hB5 hR5 hBE hC4
    unfold set4 at t0 t1 t2 t3 FU FZ FB
    go_wp2
    refine bodyPost_ret (v := .agg #[.pointer pu, .string ha, .string ta, .pointer pz]) (by simp [results, Try.f29, go_sem, t0, t1, t2, t3]) rfl ?_
    exact ⟨_, _, lo, o, ha, ta, rfl, FU.out, FZ.out, ou, ko, by show l.text ++ r.text = _; rw [HX.out, kx]; simp only [List.append_assoc]; rfl, HK.out, HBD.out, FB.out⟩
end Go.Proofs.Ytbmcgmnmmnileaa
