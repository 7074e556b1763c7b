/-
  Tokens: the Leaves' tokens, one behind the other.
-/
import Derived.Test.YtingfomfibhnhaaGreatDoorMgGZ
namespace Go.Proofs.YtingfomfibhnhaaGreatDoor
open Go.RowKit Go.Shelf
attribute [local go_sem] Oper.semAt_some

theorem KpG.kept {n0 D b e : Nat} {A B : World} (he : e ≠ 3 ∧ e ≠ 88 ∧ e ≠ 27) (hb : Below n0 A B) (ho : Lib.OthersKept e (some b) A B) (h2 : b < D) : KpG n0 D A B :=
  ⟨hb.os, hb.tape, hb.output, hb.size, fun k hk hp => by
    rcases hp with hp | ⟨hp, cs, t, fz, h, ht⟩
    · exact hb.block k hp
    · refine (ho k _ h (fun e => ?_) (fun c fz' e' => ?_)).trans h.symm
      · simp only [Option.some.injEq] at e; omega
      · cases e'; rcases ht with ht | ht | ht
        · exact he.1 ht
        · exact he.2.1 ht
        · exact he.2.2 ht⟩
theorem keeps_kept {D b e : Nat} {A B : World} (hs : A.heap.size ≤ B.heap.size) (ho : Lib.OthersKept e (some b) A B) (h2 : b < D) : KeepsFrom D A B :=
  ⟨hs, fun k _ hD hk hc => ho k _ hk (fun e => by simp only [Option.some.injEq] at e; omega) (fun c fz e => by subst e; cases hc)⟩
theorem others_below {e b : Nat} {A B : World} (h : Below A.heap.size A B) : Lib.OthersKept e (some b) A B := fun k _ hk _ _ => (h.block k (Array.getElem?_eq_some_iff.1 hk).1).trans hk
theorem toks_keep {n0 : Nat} {v : Value} {E : List Tok} {A B : World} (h : ToksAt n0 A v E) (hk : ∀ g cs, n0 ≤ g → A.heap[g]? = some (.cells cs 25 (0, 0)) → B.heap[g]? = A.heap[g]?) : ToksAt n0 B v E := by
  obtain ⟨h1, h2⟩ := h
  refine ⟨h1, ?_⟩
  rcases h2 with h2 | ⟨g, cap, cur, h3, h4, h5, h6⟩
  · exact .inl h2
  · exact .inr ⟨g, cap, cur, h3, h4, (hk g cur h4 h5).trans h5, h6⟩
theorem toks_ke {n0 D : Nat} {v : Value} {E : List Tok} {A B : World} (h : ToksAt n0 A v E) (hk : KeI D A B) : ToksAt n0 B v E :=
  toks_keep h fun g cs _ hc => hk.keep g (Array.getElem?_eq_some_iff.1 hc).1 (.inr ⟨cs, 25, _, hc, by decide⟩)
theorem opIn_append {F : Fence} {n : Nat} {P : Program} {o : Oper} {a : Act} {w w' : World} {K : Act → World → Prop} {Q : Exit → Act → World → Prop} {s x : Operand} {t : TypeId} {v u v' : Value}
    (hop : o.op = Op.call { callee := Callee.builtin Builtin.append, args := #[s, x], argTypes := #[t, t] }) (hs : a.eval s = v) (hx : a.eval x = u) (hrun : (Builtin.append_ #[t, t] o.type #[v, u]).run P w = .ok v' w') (hK : K (a.put o.dst v') w') : o.wpIn F n P a w K Q := by
  unfold Oper.wpIn
  refine ⟨?_, ?_⟩
  · simp [Oper.about, hop, resolve, Target.leads, Sem.run_pure]
  · rw [Oper.semAt_plain F _ _ (by rw [hop]; intro c hc'; cases hc')]
    simp [execOp, hop, resolve, invoke, builtin, hs, hx, hrun, Result.andThen]
    exact hK
theorem tok_app {n0 b : Nat} {V w5 : World} {E : List Tok} {t : Tok} {v : Value} (hb5 : Below V.heap.size V w5) (hbox : V.heap[b]? = some (.cells #[v] 51 (0, 0))) (hrow : ToksAt n0 V v E) (hn0 : n0 ≤ b) (hlen : E.length + 1 ≤ 1000000) :
    ∃ p' c' w7, (Builtin.append_ #[51, 51] 51 #[v, .slice (some ⟨w5.heap.size, 0, none⟩) 1 1]).run Tryz.prog (w5.alloc (.cells #[.int .u8 t.1, .string ⟨t.2.toArray⟩] 25)) = .ok (.slice p' (E.length + 1) c') w7 ∧
      w5.cell? ⟨b, 0, none⟩ = some v ∧ (w5.alloc (.cells #[.int .u8 t.1, .string ⟨t.2.toArray⟩] 25)).cell? ⟨b, 0, none⟩ = some v ∧ w7.cell? ⟨b, 0, none⟩ = some v ∧ (∀ o, w7.frozen? ⟨b, o, none⟩ = false) ∧
      Hid ((w7.setCell ⟨b, 0, none⟩ (.slice p' (E.length + 1) c')).heap[b]? = some (.cells #[.slice p' (E.length + 1) c'] 51 (0, 0)) ∧ ToksAt n0 (w7.setCell ⟨b, 0, none⟩ (.slice p' (E.length + 1) c')) (.slice p' (E.length + 1) c') (E ++ [t]) ∧
        Below n0 V (w7.setCell ⟨b, 0, none⟩ (.slice p' (E.length + 1) c')) ∧ Lib.OthersKept 25 (some b) V (w7.setCell ⟨b, 0, none⟩ (.slice p' (E.length + 1) c'))) := by
  have hbV := (Array.getElem?_eq_some_iff.1 hbox).1
  have hb6 : Below V.heap.size V (w5.alloc (.cells #[.int .u8 t.1, .string ⟨t.2.toArray⟩] 25)) := galloc hb5 _
  have hr6 : (w5.alloc (.cells #[.int .u8 t.1, .string ⟨t.2.toArray⟩] 25)).ownsRow n0 25 2 v E.length (E.flatMap tokC) := hrow.below hb6
  obtain ⟨i25, hi, hz0, hz1, hz2⟩ := info_parts info32
  obtain ⟨v', w7, hrun, hown, hgrow, _⟩ := run_append_own (P := Tryz.prog) (w := w5.alloc (.cells #[.int .u8 t.1, .string ⟨t.2.toArray⟩] 25)) n0 51 51 25 i25 (.agg #[.int .u8 0, .string ⟨#[]⟩]) 2 24 und26 hi hz0 hz1 hz2 rfl (by decide)
    v E.length (E.flatMap tokC) hr6 ⟨w5.heap.size, 0, none⟩ 1 1 [.int .u8 t.1, .string ⟨t.2.toArray⟩] rfl (World.news_of_block (heap_alloc_new w5 _)) (by intro u hu; simp at hu; rcases hu with rfl | rfl <;> rfl) (by unfold maxLen; omega) (by omega) (by have := hb6.size; omega)
  obtain ⟨p', c', rfl⟩ := owns_shape hown
  have hT6 : ∀ k, v.ownBlock = some k → n0 ≤ k ∧ ∃ cs fz, (w5.alloc (.cells #[.int .u8 t.1, .string ⟨t.2.toArray⟩] 25)).heap[k]? = some (.cells cs 25 fz) := fun k hk => by
    rcases hr6.2 with ⟨hv, _⟩ | ⟨g, cap, cur, hv, hg, hc, _⟩
    · rw [hv] at hk; cases hk
    · rw [hv] at hk; injection hk with hk; subst hk; exact ⟨hg, _, _, hc⟩
  have hB6 := (hb6.block b hbV).trans hbox
  have hB7 : w7.heap[b]? = some (.cells #[v] 51 (0, 0)) := (hgrow.block b (Array.getElem?_eq_some_iff.1 hB6).1 (fun e => by
    obtain ⟨_, cs, fz, h⟩ := hT6 b e.symm
    rw [hB6] at h; cases h)).trans hB6
  refine ⟨p', c', w7, hrun, by rw [cellH ((hb5.block b hbV).trans hbox)]; rfl, by rw [cellH hB6]; rfl, by rw [cellH hB7]; rfl, fun o => Lib.frozen_of_heap hB7 o, Lib.hid ⟨heap_setCell_same w7 b 0 _ _ _ hB7, ?_, ?_, ?_⟩⟩
  · have h2 : ToksAt n0 w7 (.slice p' (E.length + 1) c') (E ++ [t]) := by
      unfold ToksAt; rw [List.length_append, List.flatMap_append]
      simpa [tokC, bl] using hown
    exact toks_keep h2 fun g cs _ hc => heap_setCell_other w7 ⟨b, 0, none⟩ g _ (fun e => by
      have e' : g = b := e
      subst e'; rw [hB7] at hc; cases hc)
  · exact ((hb6.mono (by omega : n0 ≤ V.heap.size)).grown hgrow (by have := hb6.size; omega) (fun k hk => (hT6 k hk).1)).setCell (p := ⟨b, 0, none⟩) hn0 _
  · intro k o hk hkb hn
    have h6 := (hb6.block k (Array.getElem?_eq_some_iff.1 hk).1).trans hk
    have h7 := (hgrow.block k (Array.getElem?_eq_some_iff.1 h6).1 (fun e => by
      obtain ⟨_, cs, fz, h⟩ := hT6 k e.symm
      rw [h6] at h; exact hn cs fz (Option.some.inj h))).trans h6
    exact (heap_setCell_other w7 ⟨b, 0, none⟩ k _ (fun e => hkb (by rw [show k = b from e]))).trans h7
def ToksEnd (E : List Tok) (w : World) (e : Ending) (w' : World) : Prop := ∃ v, e = .returned v ∧ ToksAt w.heap.size w' v E ∧ Below w.heap.size w w'
def toksL (l : List (List Nat × T)) : List Tok := l.flatMap leafTok
theorem toksL_yes (l : List (List Nat × T)) (y : List Nat × T) (h : emptyT y.2.tok = true) : toksL (l ++ [y]) = toksL l := by simp [toksL, leafTok, h]
theorem toksL_no (l : List (List Nat × T)) (y : List Nat × T) (h : emptyT y.2.tok = false) : toksL (l ++ [y]) = toksL l ++ [y.2.tok] := by simp [toksL, leafTok, h]
theorem toksL_all (x : T) (p : List Nat) : toksL (leavesT p x) = toksT x := leaves_toks p x
theorem toksL_pre {l m : List (List Nat × T)} (h : l <+: m) : (toksL l).length ≤ (toksL m).length := by
  obtain ⟨r, rfl⟩ := h
  simp [toksL]
mutual
theorem toks_count : ∀ x : T, (toksT x).length ≤ countT x
  | .mk k t ks => by
    unfold toksT countT
    have := toks_counts ks
    by_cases h2 : k = 2
    · rw [if_pos h2]; simp
    · rw [if_neg h2, List.length_append]
      split <;> simp <;> omega
theorem toks_counts : ∀ l : List T, (toksLT l).length ≤ countTs l
  | [] => by unfold toksLT; simp
  | x :: r => by
    unfold toksLT countTs
    rw [List.length_append]
    have := toks_count x
    have := toks_counts r
    omega
end
set_option maxRecDepth 100000 in
set_option maxHeartbeats 8000000 in
theorem gtokens_any (x : T) (p : Option Addr) (c : Nat) (W : World) (hx : NAt AnyB W x (cellsN x p c)) (hc : countT x ≤ 100000) (hz : sizeT x ≤ 1000000000) : Calls Tryz.prog 25 #[aggN x p c] W (ToksEnd (toksT x) W) := by
  refine (callsIn_wide (n := 3)).1 ?_
  refine callsIn_of_wp_marks Tryz.func25 rfl trivial ?_ rfl
  simp only [Tryz.ntmps25, List.size_toArray, List.length_cons, List.length_nil, Nat.reduceAdd, Nat.reduceSub, Array.replicate_succ, Array.replicate_zero, List.push_toArray, List.append_toArray, List.nil_append, List.cons_append]
  gi_wp2_with (refine ⟨trivial, ?_⟩; gi_at_call 38; refine (callsIn_wide.2 (leaves_any x p c _)).mono ?_; rintro e w' ⟨rfl, rfl⟩)
  have hbx := World.alloc_heap_new ((W.alloc (.cells #[.int .u8 x.kind, .int .u8 x.tok.1, .string ⟨x.tok.2.toArray⟩, .slice p x.kids.length c] 27)).alloc (.cells #[.slice none 0 0] 51)) (.cells #[.int .u8 x.kind, .int .u8 x.tok.1, .string ⟨x.tok.2.toArray⟩, .slice p x.kids.length c] 27)
  have hbi := World.alloc_heap_new (W.alloc (.cells #[.int .u8 x.kind, .int .u8 x.tok.1, .string ⟨x.tok.2.toArray⟩, .slice p x.kids.length c] 27)) (.cells #[.slice none 0 0] 51)
  have hbw : Below W.heap.size W (((W.alloc (.cells #[.int .u8 x.kind, .int .u8 x.tok.1, .string ⟨x.tok.2.toArray⟩, .slice p x.kids.length c] 27)).alloc (.cells #[.slice none 0 0] 51)).alloc (.cells #[.int .u8 x.kind, .int .u8 x.tok.1, .string ⟨x.tok.2.toArray⟩, .slice p x.kids.length c] 27)) := galloc (galloc (galloc (Below.refl _ _) _) _) _
  rw [World.size_alloc, World.size_alloc] at hbx
  rw [World.size_alloc] at hbi
  have hbi3 := (galloc (Below.refl _ ((W.alloc (.cells #[.int .u8 x.kind, .int .u8 x.tok.1, .string ⟨x.tok.2.toArray⟩, .slice p x.kids.length c] 27)).alloc (.cells #[.slice none 0 0] 51))) (.cells #[.int .u8 x.kind, .int .u8 x.tok.1, .string ⟨x.tok.2.toArray⟩, .slice p x.kids.length c] 27)).block (W.heap.size + 1) (by simp)
  have hz3 : (((W.alloc (.cells #[.int .u8 x.kind, .int .u8 x.tok.1, .string ⟨x.tok.2.toArray⟩, .slice p x.kids.length c] 27)).alloc (.cells #[.slice none 0 0] 51)).alloc (.cells #[.int .u8 x.kind, .int .u8 x.tok.1, .string ⟨x.tok.2.toArray⟩, .slice p x.kids.length c] 27)).heap.size = W.heap.size + 3 := by simp
  generalize (((W.alloc (.cells #[.int .u8 x.kind, .int .u8 x.tok.1, .string ⟨x.tok.2.toArray⟩, .slice p x.kids.length c] 27)).alloc (.cells #[.slice none 0 0] 51)).alloc (.cells #[.int .u8 x.kind, .int .u8 x.tok.1, .string ⟨x.tok.2.toArray⟩, .slice p x.kids.length c] 27)) = w3 at *
  refine range_green (D := W.heap.size + 3) (n0 := W.heap.size) (x := x) (p := p) (c := c) hz3 rfl rfl (by omega) (by omega) hbx (NAt.world ⟨hbw.size, fun k hk _ => hbw.block k hk⟩ _ _ (NAt.mono (fun k hk _ => hk) _ _ hx))
    (fun pre V => (∃ v, V.heap[W.heap.size + 1]? = some (.cells #[v] 51 (0, 0)) ∧ ToksAt W.heap.size V v (toksL pre)) ∧ Below W.heap.size W V) (fun _ _ _ => False)
    (fun s A B h k => by
      obtain ⟨⟨v, h1, h2⟩, h3⟩ := h
      exact ⟨⟨v, (k.keep _ (Array.getElem?_eq_some_iff.1 h1).1 (.inl (by omega))).trans h1, toks_ke h2 k⟩, below_ke h3 (by omega) h3.size k⟩) (fun _ _ _ _ _ h _ _ => h) ⟨⟨_, hbi3.trans hbi, World.ownsRow_nil _ _ _ _⟩, hbw⟩
    (fun Bx pv y py cy => { tmps := #[aggN x p c, .pointer (some ⟨W.heap.size, 0, none⟩), .slice none 0 0, .pointer (some ⟨W.heap.size + 1, 0, none⟩), undef, .pointer (some ⟨Bx, 0, none⟩), aggN x p c, .func (.func 55) #[] #[.pointer (some ⟨W.heap.size + 1 + 1, 0, none⟩)], pv, aggN y py cy, undef, undef, undef, undef, undef, undef, undef, undef, undef, undef, undef], defers := [] }) ?assign ?body ?done ?stop
  case assign =>
    intro l m y pv py cy V K hK
    gi_wp2
    exact hK
  case body =>
    rintro l m pre y pv py cy Bx V hl hl2 ⟨⟨v, hb, hr⟩, hBe⟩ hpre hBx hbox hrow hn
    have hmx : Tryz.prog.follows .mixedOrders = true := by kernel_rfl
    have hdd : ∀ k : Nat, ((Fence.wide.inRound l).depth.isSome = true → 1 ≤ k) := fun k h => (by cases h)
    have hle := toksL_pre hpre
    have hle2 := lenL_pre hpre
    rw [lenL_snoc, lenL_all] at hle2
    rw [toksL_all] at hle
    have hcn := toks_count x
    obtain ⟨d0, d1, d2, d3⟩ := box4 hbox
    obtain ⟨pr, cr, rfl⟩ := owns_shape hr
    have hem := isEmpty_any y.2.tok V
    cases hE : emptyT y.2.tok with
    | true =>
      rw [hE] at hem
      have HS := Lib.hid (toksL_yes pre y hE)
      have HB := Lib.hid hb
      have HR := Lib.hid hr
      have HBe := Lib.hid hBe
      clear hb hr hBe hle hle2 hbox hrow hn hpre hE hcn
      gi_wp2_with (refine ⟨trivial, hdd _, ?_⟩; gi_at_call 43; refine (CallsIn.inRound l (callsIn_wide.2 hem)).mono ?_; rintro e V2 ⟨rfl, h1⟩)
      refine ⟨keeps_below h1, KpG.below h1, ⟨_, (h1.block _ (Array.getElem?_eq_some_iff.1 HB.out).1).trans HB.out, by rw [HS.out]; exact HR.out.below h1⟩, HBe.out.trans (h1.mono HBe.out.size)⟩
    | false =>
      rw [hE] at hem
      rw [toksL_no pre y hE, List.length_append] at hle
      simp only [List.length_singleton] at hle
      have HS := Lib.hid (toksL_no pre y hE)
      have HB := Lib.hid hb
      have HR := Lib.hid hr
      have HBe := Lib.hid hBe
      have HX := Lib.hid hbox
      have HCT := Lib.hid (fun w => copiedToken_any y.2.tok w (by omega))
      have HLE := Lib.hid (show (toksL pre).length + 1 ≤ 1000000 by omega)
      clear hb hr hBe hle hle2 hbox hrow hn hpre hE hcn
      gi_wp2_with (refine ⟨trivial, hdd _, ?_⟩; gi_at_call 43; refine (CallsIn.inRound l (callsIn_wide.2 hem)).mono ?_; rintro e V2 ⟨rfl, h1⟩)
      have hb2 := (h1.block _ (Array.getElem?_eq_some_iff.1 HB.out).1).trans HB.out
      have hx2 := (h1.block _ (Array.getElem?_eq_some_iff.1 HX.out).1).trans HX.out
      have b0 : V2.cell? ⟨W.heap.size + 1, 0, none⟩ = some (.slice pr (toksL pre).length cr) := by rw [cellH hb2]; rfl
      obtain ⟨g0, g1, g2, g3⟩ := box4 hx2
      have HT5 := Lib.hid (fun (w5 : World) (h5 : Below V2.drew.heap.size V2.drew w5) => tok_app (n0 := W.heap.size) (t := y.2.tok) (((Below.refl V2.heap.size V2).drew).trans h5) hb2 (HR.out.below h1) (by omega) HLE.out)
      have HB1 := Lib.hid h1
      clear h1 hb2 hx2 hem d0 d1 d2 d3
      refine wpIn_region_any hmx ?_
      change wpAnyIn _ _ _ _ _ _ _ _ _ (World.drew _)
      refine wpAnyIn_ready (rs := [0, 1]) (by kernel_rfl) (by simp) ?_
      refine AllReadyIn.cons rfl (fun K hK => ?_) ?_
      · go_simp
        refine hK _ _ ?_
        clear hK K
        refine wpAnyIn_ready (rs := [1]) (by kernel_rfl) (by simp) ?_
        refine AllReadyIn.cons rfl (fun K hK => ?_) AllReadyIn.nil
        go_simp
        refine hK _ _ ?_
        clear hK K
        refine wpAnyIn_ready (rs := [2]) (by kernel_rfl) (by simp) ?_
        refine AllReadyIn.cons rfl (fun K hK => ?_) AllReadyIn.nil
        go_simp
        refine hK _ _ ?_
        clear hK K
        refine wpAnyIn_ready (rs := [3]) (by kernel_rfl) (by simp) ?_
        refine AllReadyIn.cons rfl (fun K hK => ?_) AllReadyIn.nil
        go_simp
        refine ⟨trivial, fun h => (by cases h), ?_⟩
        refine (CallsIn.inRound l (callsIn_wide.2 (HCT.out _))).mono ?_
        rintro e w5 ⟨rfl, hb5⟩
        obtain ⟨p7, c7, w7, hrun, a5, a6, a7, f7, HF⟩ := HT5.out w5 hb5
        clear hb5
        refine hK _ _ ?_
        clear hK K
        refine wpAnyIn_ready (rs := [4]) (by kernel_rfl) (by simp) ?_
        refine AllReadyIn.cons rfl (fun K hK => ?_) AllReadyIn.nil
        go_simp
        refine hK _ _ ?_
        clear hK K
        refine wpAnyIn_ready (rs := [5]) (by kernel_rfl) (by simp) ?_
        refine BigFrame.allReadyIn_want rfl rfl (fun K hK => ?_) AllReadyIn.nil
        refine opIn_append rfl rfl rfl hrun ?_
        refine hK _ _ ?_
        clear hK K
        refine wpAnyIn_ready (rs := [6]) (by kernel_rfl) (by simp) ?_
        refine AllReadyIn.cons rfl (fun K hK => ?_) AllReadyIn.nil
        go_simp
        refine hK _ _ ?_
        clear hK K
        refine wpAnyIn_done (by kernel_rfl) ?_ _
        gi_wp2
        exact ⟨keeps_kept (Nat.le_trans HB1.out.size HF.out.2.2.1.size) (others_below HB1.out |>.trans HF.out.2.2.2) (by omega), (KpG.below HB1.out).trans (KpG.kept (by decide) HF.out.2.2.1 HF.out.2.2.2 (by omega)), ⟨_, HF.out.1, by rw [HS.out]; exact HF.out.2.1⟩, (HBe.out.trans (HB1.out.mono HBe.out.size)).trans HF.out.2.2.1⟩
      refine AllReadyIn.cons rfl (fun K hK => ?_) AllReadyIn.nil
      go_simp
      refine hK _ _ ?_
      clear hK K
      refine wpAnyIn_ready (rs := [0, 2]) (by kernel_rfl) (by simp) ?_
      refine AllReadyIn.cons rfl (fun K hK => ?_) ?_
      · go_simp
        refine hK _ _ ?_
        clear hK K
        refine wpAnyIn_ready (rs := [2]) (by kernel_rfl) (by simp) ?_
        refine AllReadyIn.cons rfl (fun K hK => ?_) AllReadyIn.nil
        go_simp
        refine hK _ _ ?_
        clear hK K
        refine wpAnyIn_ready (rs := [3]) (by kernel_rfl) (by simp) ?_
        refine AllReadyIn.cons rfl (fun K hK => ?_) AllReadyIn.nil
        go_simp
        refine ⟨trivial, fun h => (by cases h), ?_⟩
        refine (CallsIn.inRound l (callsIn_wide.2 (HCT.out _))).mono ?_
        rintro e w5 ⟨rfl, hb5⟩
        obtain ⟨p7, c7, w7, hrun, a5, a6, a7, f7, HF⟩ := HT5.out w5 hb5
        clear hb5
        refine hK _ _ ?_
        clear hK K
        refine wpAnyIn_ready (rs := [4]) (by kernel_rfl) (by simp) ?_
        refine AllReadyIn.cons rfl (fun K hK => ?_) AllReadyIn.nil
        go_simp
        refine hK _ _ ?_
        clear hK K
        refine wpAnyIn_ready (rs := [5]) (by kernel_rfl) (by simp) ?_
        refine BigFrame.allReadyIn_want rfl rfl (fun K hK => ?_) AllReadyIn.nil
        refine opIn_append rfl rfl rfl hrun ?_
        refine hK _ _ ?_
        clear hK K
        refine wpAnyIn_ready (rs := [6]) (by kernel_rfl) (by simp) ?_
        refine AllReadyIn.cons rfl (fun K hK => ?_) AllReadyIn.nil
        go_simp
        refine hK _ _ ?_
        clear hK K
        refine wpAnyIn_done (by kernel_rfl) ?_ _
        gi_wp2
        exact ⟨keeps_kept (Nat.le_trans HB1.out.size HF.out.2.2.1.size) (others_below HB1.out |>.trans HF.out.2.2.2) (by omega), (KpG.below HB1.out).trans (KpG.kept (by decide) HF.out.2.2.1 HF.out.2.2.2 (by omega)), ⟨_, HF.out.1, by rw [HS.out]; exact HF.out.2.1⟩, (HBe.out.trans (HB1.out.mono HBe.out.size)).trans HF.out.2.2.1⟩
      refine AllReadyIn.cons rfl (fun K hK => ?_) AllReadyIn.nil
      go_simp
      refine hK _ _ ?_
      clear hK K
      refine wpAnyIn_ready (rs := [0, 3]) (by kernel_rfl) (by simp) ?_
      refine AllReadyIn.cons rfl (fun K hK => ?_) ?_
      · go_simp
        refine hK _ _ ?_
        clear hK K
        refine wpAnyIn_ready (rs := [3]) (by kernel_rfl) (by simp) ?_
        refine AllReadyIn.cons rfl (fun K hK => ?_) AllReadyIn.nil
        go_simp
        refine ⟨trivial, fun h => (by cases h), ?_⟩
        refine (CallsIn.inRound l (callsIn_wide.2 (HCT.out _))).mono ?_
        rintro e w5 ⟨rfl, hb5⟩
        obtain ⟨p7, c7, w7, hrun, a5, a6, a7, f7, HF⟩ := HT5.out w5 hb5
        clear hb5
        refine hK _ _ ?_
        clear hK K
        refine wpAnyIn_ready (rs := [4]) (by kernel_rfl) (by simp) ?_
        refine AllReadyIn.cons rfl (fun K hK => ?_) AllReadyIn.nil
        go_simp
        refine hK _ _ ?_
        clear hK K
        refine wpAnyIn_ready (rs := [5]) (by kernel_rfl) (by simp) ?_
        refine BigFrame.allReadyIn_want rfl rfl (fun K hK => ?_) AllReadyIn.nil
        refine opIn_append rfl rfl rfl hrun ?_
        refine hK _ _ ?_
        clear hK K
        refine wpAnyIn_ready (rs := [6]) (by kernel_rfl) (by simp) ?_
        refine AllReadyIn.cons rfl (fun K hK => ?_) AllReadyIn.nil
        go_simp
        refine hK _ _ ?_
        clear hK K
        refine wpAnyIn_done (by kernel_rfl) ?_ _
        gi_wp2
        exact ⟨keeps_kept (Nat.le_trans HB1.out.size HF.out.2.2.1.size) (others_below HB1.out |>.trans HF.out.2.2.2) (by omega), (KpG.below HB1.out).trans (KpG.kept (by decide) HF.out.2.2.1 HF.out.2.2.2 (by omega)), ⟨_, HF.out.1, by rw [HS.out]; exact HF.out.2.1⟩, (HBe.out.trans (HB1.out.mono HBe.out.size)).trans HF.out.2.2.1⟩
      refine AllReadyIn.cons rfl (fun K hK => ?_) AllReadyIn.nil
      go_simp
      refine ⟨trivial, fun h => (by cases h), ?_⟩
      refine (CallsIn.inRound l (callsIn_wide.2 (HCT.out _))).mono ?_
      rintro e w5 ⟨rfl, hb5⟩
      obtain ⟨p7, c7, w7, hrun, a5, a6, a7, f7, HF⟩ := HT5.out w5 hb5
      clear hb5
      refine hK _ _ ?_
      clear hK K
      refine wpAnyIn_ready (rs := [0, 4]) (by kernel_rfl) (by simp) ?_
      refine AllReadyIn.cons rfl (fun K hK => ?_) ?_
      · go_simp
        refine hK _ _ ?_
        clear hK K
        refine wpAnyIn_ready (rs := [4]) (by kernel_rfl) (by simp) ?_
        refine AllReadyIn.cons rfl (fun K hK => ?_) AllReadyIn.nil
        go_simp
        refine hK _ _ ?_
        clear hK K
        refine wpAnyIn_ready (rs := [5]) (by kernel_rfl) (by simp) ?_
        refine BigFrame.allReadyIn_want rfl rfl (fun K hK => ?_) AllReadyIn.nil
        refine opIn_append rfl rfl rfl hrun ?_
        refine hK _ _ ?_
        clear hK K
        refine wpAnyIn_ready (rs := [6]) (by kernel_rfl) (by simp) ?_
        refine AllReadyIn.cons rfl (fun K hK => ?_) AllReadyIn.nil
        go_simp
        refine hK _ _ ?_
        clear hK K
        refine wpAnyIn_done (by kernel_rfl) ?_ _
        gi_wp2
        exact ⟨keeps_kept (Nat.le_trans HB1.out.size HF.out.2.2.1.size) (others_below HB1.out |>.trans HF.out.2.2.2) (by omega), (KpG.below HB1.out).trans (KpG.kept (by decide) HF.out.2.2.1 HF.out.2.2.2 (by omega)), ⟨_, HF.out.1, by rw [HS.out]; exact HF.out.2.1⟩, (HBe.out.trans (HB1.out.mono HBe.out.size)).trans HF.out.2.2.1⟩
      refine AllReadyIn.cons rfl (fun K hK => ?_) AllReadyIn.nil
      go_simp
      refine hK _ _ ?_
      clear hK K
      refine wpAnyIn_ready (rs := [0]) (by kernel_rfl) (by simp) ?_
      refine AllReadyIn.cons rfl (fun K hK => ?_) AllReadyIn.nil
      go_simp
      refine hK _ _ ?_
      clear hK K
      refine wpAnyIn_ready (rs := [5]) (by kernel_rfl) (by simp) ?_
      refine BigFrame.allReadyIn_want rfl rfl (fun K hK => ?_) AllReadyIn.nil
      refine opIn_append rfl rfl rfl hrun ?_
      refine hK _ _ ?_
      clear hK K
      refine wpAnyIn_ready (rs := [6]) (by kernel_rfl) (by simp) ?_
      refine AllReadyIn.cons rfl (fun K hK => ?_) AllReadyIn.nil
      go_simp
      refine hK _ _ ?_
      clear hK K
      refine wpAnyIn_done (by kernel_rfl) ?_ _
      gi_wp2
      exact ⟨keeps_kept (Nat.le_trans HB1.out.size HF.out.2.2.1.size) (others_below HB1.out |>.trans HF.out.2.2.2) (by omega), (KpG.below HB1.out).trans (KpG.kept (by decide) HF.out.2.2.1 HF.out.2.2.2 (by omega)), ⟨_, HF.out.1, by rw [HS.out]; exact HF.out.2.1⟩, (HBe.out.trans (HB1.out.mono HBe.out.size)).trans HF.out.2.2.1⟩
  case done =>
    rintro E V hE ⟨⟨v, hb, hr⟩, hBe⟩ hK
    obtain ⟨pr, cr, rfl⟩ := owns_shape hr
    have b0 : V.cell? ⟨W.heap.size + 1, 0, none⟩ = some (.slice pr (toksL (leavesT [] x)).length cr) := by rw [cellH hb]; rfl
    gi_wp2
    refine ⟨by simp, .inl ⟨_, _, rfl, run_takeDeferred hK, ?_⟩⟩
    refine ⟨_, results_tmp rfl _ _ _, .slice pr (toksL (leavesT [] x)).length cr, rfl, ?_, hBe.trans (belowK_b (w := W) (Nat.le_refl _) V E _ _ (by omega) hK rfl rfl)⟩
    rw [← toksL_all x []]
    exact toks_keep hr fun g cs _ hc => World.putObj_heap_other (fun e => by subst e; rw [hK] at hc; cases hc)
  case stop =>
    rintro E c' pre V _ _ h _
    exact h.elim
end Go.Proofs.YtingfomfibhnhaaGreatDoor
