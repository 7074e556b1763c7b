/-
  Text: the Leaves' texts, put together.
-/
import Derived.Test.YtingfomfibhnhaaGreatDoorMgGW
import Derived.Lib.OthersKept
namespace Go.Proofs.YtingfomfibhnhaaGreatDoor
open Go.RowKit Go.Shelf
attribute [local go_sem] Oper.semAt_some

theorem others_set (b : Nat) (w : World) (o : Nat) (v : Value) : Lib.OthersKept 5 (some b) w (w.setCell ⟨b, o, none⟩ v) := fun k ob hk hb _ => (heap_setCell_other w ⟨b, o, none⟩ k v (fun e => hb (by rw [e]))).trans hk
set_option maxHeartbeats 2000000 in
set_option maxRecDepth 100000 in
theorem write_keep (B b : Nat) (bs : List Value) (s : ByteArray) (w : World) (h : Lib.IsBuilder 73 5 B b bs w) (hlen : bs.length + s.size ≤ 140737488355328) (hBw : B ≤ w.heap.size) :
    Calls Tryz.prog 41 #[.pointer (some ⟨b, 0, none⟩), .string s] w fun e w' => e = .returned (.tuple #[.int .i64 s.size, .nilIface]) ∧ Lib.IsBuilder 73 5 B b (bs ++ Lib.strCells s) w' ∧ Below B w w' ∧ Lib.OthersKept 5 (some b) w w' := by
  obtain ⟨i0, hi, hz0, hz1, hz2⟩ := info_parts Tryz.Builder_Extra_169.infoByte
  have t37 : Tryz.prog.underlying 71 = some (.slice 5) := by kernel_rfl
  have t9 : Tryz.prog.underlying 9 = some .string := by kernel_rfl
  have hc : Calls Tryz.prog 57 #[.pointer (some ⟨b, 0, none⟩)] w fun e w' => e = .returned (.tuple #[]) ∧ Lib.BuilderAt 73 5 B b (.pointer (some ⟨b, 0, none⟩)) bs w' ∧ Below B w w' ∧ Lib.OthersKept 5 (some b) w w' := by
    rcases h with h | h
    · refine (check_fresh b w h.cell0 h.shape h.frozen0).mono ?_
      rintro e w' ⟨h1, rfl⟩
      exact ⟨h1, h.used _, (Below.refl B w).setCell (p := ⟨b, 0, none⟩) h.1 _, others_set b w 0 _⟩
    · refine (check_used b w h.cell0).mono ?_
      rintro e w' ⟨h1, rfl⟩
      exact ⟨h1, h, Below.refl B _, Lib.OthersKept.refl _ _ _⟩
  clear h
  go_enter Tryz.func41, Tryz.ntmps41
  go_wp2_with fail
  refine hc.mono ?_
  rintro e w1 ⟨rfl, h, hb1, hk1⟩
  have HK1 := Lib.hid hk1
  clear hk1
  obtain ⟨hB, v, hbk, hown, hne⟩ := h
  have HT5 : Hid (∀ k, v.ownBlock = some k → ∃ cs fz, w1.heap[k]? = some (.cells cs 5 fz)) := Lib.hid (by
    intro k hk
    rcases hown.2 with ⟨hv, _⟩ | ⟨g, cap, cur, hv, _, hg, _⟩
    · rw [hv] at hk; cases hk
    · rw [hv] at hk; injection hk with hk; subst hk; exact ⟨_, _, hg⟩)
  have HB1 := Lib.hid hb1
  have hs1 := hb1.size
  clear hb1 hc
  have c0 : w1.cell? ⟨b, 0, none⟩ = some (.pointer (some ⟨b, 0, none⟩)) := by rw [Lib.cell_of_heap hbk]; rfl
  have c1 : w1.cell? ⟨b, 1, none⟩ = some v := by rw [Lib.cell_of_heap hbk]; rfl
  go_wp2_with (at_builtin; refine Lib.wpList_append_own_string _ rfl _ _ 71 9 rfl B 5 i0 t37 t9 hi hz0 hz1 hz2 _ _ _ rfl hown s rfl ?c3 ?c4 ?c5 ?_)
  case c3 => unfold maxLen; omega
  case c4 => omega
  case c5 => omega
  intro v' w2 hown' hgrow _
  have hlt : b < w1.heap.size := (Array.getElem?_eq_some_iff.1 hbk).1
  have hb2 : w2.heap[b]? = some (.cells #[.pointer (some ⟨b, 0, none⟩), v] 73 (0, 0)) := by
    rw [hgrow.block b hlt (fun e => hne e.symm)]
    exact hbk
  have d0 : w2.cell? ⟨b, 0, none⟩ = some (.pointer (some ⟨b, 0, none⟩)) := by rw [Lib.cell_of_heap hb2]; rfl
  have d1 : w2.cell? ⟨b, 1, none⟩ = some v := by rw [Lib.cell_of_heap hb2]; rfl
  have f1 : w2.frozen? ⟨b, 1, none⟩ = false := Lib.frozen_of_heap hb2 1
  obtain ⟨ao, n', cap, rfl⟩ : ∃ ao n' cap, v' = .slice ao n' cap := by
    rcases hown'.2 with ⟨hv, _⟩ | ⟨g, cap, cur, hv, _⟩
    · exact ⟨_, _, _, hv⟩
    · exact ⟨_, _, _, hv⟩
  go_wp2
  refine bodyPost_ret (v := .tuple #[.int .i64 s.size, .nilIface]) (by simp [results, Tryz.f41, go_sem]) rfl ?_
  refine ⟨rfl, .inr ?_, ?_⟩
  · exact Lib.BuilderAt.put (T := 73) (e := 5) hB hb2 (bs' := bs ++ Lib.strCells s) (by simpa [Lib.strCells_length] using hown') (by decide)
  · refine ⟨(HB1.out.grown hgrow (by omega) (fun k hk => (hown.lt k hk).1)).setCell (p := ⟨b, 1, none⟩) hB _, ?_⟩
    refine HK1.out.trans (Lib.OthersKept.trans (c := w2) ?_ (others_set b w2 1 _))
    intro k o hk _ hn
    refine (hgrow.block k (Array.getElem?_eq_some_iff.1 hk).1 (fun e => ?_)).trans hk
    obtain ⟨cs, fz, h5⟩ := HT5.out k e.symm
    rw [hk] at h5
    exact hn cs fz (Option.some.inj h5)
theorem KpG.others {n0 D b : Nat} {A B : World} (hb : Below n0 A B) (ho : Lib.OthersKept 5 (some b) A B) (h2 : b < D) : KpG n0 D A B :=
  ⟨hb.os, hb.tape, hb.output, hb.size, fun k hk hp => by
    rcases hp with hp | ⟨hp, cs, t, fz, h, ht⟩
    · exact hb.block k hp
    · refine (ho k _ h (fun e => ?_) (fun c fz' e => ?_)).trans h.symm
      · simp only [Option.some.injEq] at e; omega
      · cases e; rcases ht with ht | ht | ht <;> cases ht⟩
theorem keeps_others {D b : Nat} {A B : World} (hs : A.heap.size ≤ B.heap.size) (ho : Lib.OthersKept 5 (some b) A B) (h2 : b < D) : KeepsFrom D A B :=
  ⟨hs, fun k o hD hk hc => ho k o hk (fun e => by simp only [Option.some.injEq] at e; omega) (fun c fz e => by subst e; cases hc)⟩
theorem builder_ke {n0 D b : Nat} {bs : List Value} {A B : World} (h : Lib.IsBuilder 73 5 n0 b bs A) (hb : b < D) (hk : KeI D A B) : Lib.IsBuilder 73 5 n0 b bs B := by
  have go : ∀ p, Lib.BuilderAt 73 5 n0 b p bs A → Lib.BuilderAt 73 5 n0 b p bs B := fun p h => by
    obtain ⟨hB, v, hbk, hown, hne⟩ := h
    refine ⟨hB, v, (hk.keep b (Array.getElem?_eq_some_iff.1 hbk).1 (.inl hb)).trans hbk, row_keep hown fun g cs _ hc => hk.keep g (Array.getElem?_eq_some_iff.1 hc).1 (.inr ⟨cs, 5, _, hc, by decide⟩), hne⟩
  rcases h with h | h
  · exact .inl (go _ h)
  · exact .inr (go _ h)
def BytesEnd (l : List UInt8) (w : World) (e : Ending) (w' : World) : Prop := e = .returned (.string ⟨l.toArray⟩) ∧ Below w.heap.size w w'
def texts (l : List (List Nat × T)) : List UInt8 := l.flatMap leafText
theorem texts_snoc (l : List (List Nat × T)) (y : List Nat × T) : texts (l ++ [y]) = texts l ++ y.2.tok.2 := by simp [texts, leafText]
theorem texts_all (x : T) (p : List Nat) : texts (leavesT p x) = textT x := leaves_text p x
set_option maxRecDepth 100000 in
set_option maxHeartbeats 4000000 in
theorem text_any (x : T) (p : Option Addr) (c : Nat) (W : World) (hx : NAt AnyB W x (cellsN x p c)) (hc : countT x ≤ 1000000) (hz : sizeT x ≤ 1000000000) : Calls Tryz.prog 22 #[aggN x p c] W (BytesEnd (textT x) W) := by
  refine (callsIn_wide (n := 3)).1 ?_
  refine callsIn_of_wp_marks Tryz.func22 rfl trivial ?_ rfl
  simp only [Tryz.ntmps22, List.size_toArray, List.length_cons, List.length_nil, Nat.reduceAdd, Nat.reduceSub, Array.replicate_succ, Array.replicate_zero, List.push_toArray, List.append_toArray, List.nil_append, List.cons_append]
  gi_wp2_with (refine ⟨trivial, ?_⟩; gi_at_call 38; refine (callsIn_wide.2 (leaves_any x p c _)).mono ?_; rintro e w' ⟨rfl, rfl⟩)
  have hbx := World.alloc_heap_new ((W.alloc (.cells #[.int .u8 x.kind, .int .u8 x.tok.1, .string ⟨x.tok.2.toArray⟩, .slice p x.kids.length c] 27)).alloc (.cells #[.pointer none, .slice none 0 0] 73)) (.cells #[.int .u8 x.kind, .int .u8 x.tok.1, .string ⟨x.tok.2.toArray⟩, .slice p x.kids.length c] 27)
  have hbi := builder_new (W.alloc (.cells #[.int .u8 x.kind, .int .u8 x.tok.1, .string ⟨x.tok.2.toArray⟩, .slice p x.kids.length c] 27))
  have hbw : Below W.heap.size W (((W.alloc (.cells #[.int .u8 x.kind, .int .u8 x.tok.1, .string ⟨x.tok.2.toArray⟩, .slice p x.kids.length c] 27)).alloc (.cells #[.pointer none, .slice none 0 0] 73)).alloc (.cells #[.int .u8 x.kind, .int .u8 x.tok.1, .string ⟨x.tok.2.toArray⟩, .slice p x.kids.length c] 27)) := galloc (galloc (galloc (Below.refl _ _) _) _) _
  rw [World.size_alloc, World.size_alloc] at hbx
  rw [World.size_alloc] at hbi
  have hbi3 := builder_alloc hbi (.cells #[.int .u8 x.kind, .int .u8 x.tok.1, .string ⟨x.tok.2.toArray⟩, .slice p x.kids.length c] 27)
  have hz3 : (((W.alloc (.cells #[.int .u8 x.kind, .int .u8 x.tok.1, .string ⟨x.tok.2.toArray⟩, .slice p x.kids.length c] 27)).alloc (.cells #[.pointer none, .slice none 0 0] 73)).alloc (.cells #[.int .u8 x.kind, .int .u8 x.tok.1, .string ⟨x.tok.2.toArray⟩, .slice p x.kids.length c] 27)).heap.size = W.heap.size + 3 := by simp
  generalize (((W.alloc (.cells #[.int .u8 x.kind, .int .u8 x.tok.1, .string ⟨x.tok.2.toArray⟩, .slice p x.kids.length c] 27)).alloc (.cells #[.pointer none, .slice none 0 0] 73)).alloc (.cells #[.int .u8 x.kind, .int .u8 x.tok.1, .string ⟨x.tok.2.toArray⟩, .slice p x.kids.length c] 27)) = w3 at *
  have hbase : ∀ {bs : List Value} {V : World}, Lib.IsBuilder 73 5 (W.heap.size + 1) (W.heap.size + 1) bs V → Lib.IsBuilder 73 5 W.heap.size (W.heap.size + 1) bs V := fun {bs V} h => by
    rcases h with ⟨hB, v, hbk, hown, hne⟩ | ⟨hB, v, hbk, hown, hne⟩
    · exact .inl ⟨by omega, v, hbk, owns_base hown (by omega), hne⟩
    · exact .inr ⟨by omega, v, hbk, owns_base hown (by omega), hne⟩
  refine range_green (D := W.heap.size + 3) (n0 := W.heap.size) (x := x) (p := p) (c := c) hz3 rfl rfl (by omega) hc hbx (NAt.world ⟨hbw.size, fun k hk _ => hbw.block k hk⟩ _ _ (NAt.mono (fun k hk _ => hk) _ _ hx))
    (fun pre V => Lib.IsBuilder 73 5 W.heap.size (W.heap.size + 1) (Lib.byteCells (texts pre)) V ∧ Below W.heap.size W V) (fun _ _ _ => False) (fun s A B h k => ⟨builder_ke h.1 (by omega) k, below_ke h.2 (by omega) h.2.size k⟩) (fun _ _ _ _ _ h _ _ => h) ⟨hbase hbi3, hbw⟩
    (fun Bx pv y py cy => { tmps := #[aggN x p c, .pointer (some ⟨W.heap.size, 0, none⟩), .string ⟨#[]⟩, .pointer (some ⟨W.heap.size + 1, 0, none⟩), undef, .pointer (some ⟨Bx, 0, none⟩), aggN x p c, .func (.func 55) #[] #[.pointer (some ⟨W.heap.size + 1 + 1, 0, none⟩)], pv, aggN y py cy, undef, undef, undef, undef, undef], defers := [] }) ?assign ?body ?done ?stop
  case assign =>
    intro l m y pv py cy V K hK
    gi_wp2
    exact hK
  case body =>
    rintro l m pre y pv py cy Bx V hl hl2 ⟨hb, hBe⟩ hpre hBx hbox hrow hn
    have hle := lenL_pre hpre
    rw [lenL_snoc, lenL_all] at hle
    obtain ⟨d0, d1, d2, d3⟩ := box4 hbox
    have hlt : (Lib.byteCells (texts pre)).length = lenL pre := by unfold Lib.byteCells; rw [List.length_map]; rfl
    have hl3 : (⟨y.2.tok.2.toArray⟩ : ByteArray).size = y.2.tok.2.length := by rw [Lib.size_eq]
    have hwk := write_keep W.heap.size (W.heap.size + 1) _ ⟨y.2.tok.2.toArray⟩ V hb (by omega) hBe.size
    have HBe := Lib.hid hBe
    have HS := Lib.hid (texts_snoc pre y)
    clear hb hBe hle hbox hrow hn hpre hlt hl3 hbase
    gi_wp2_with (refine ⟨trivial, fun h => (by cases h), ?_⟩; gi_at_call 41; refine (CallsIn.inRound l (callsIn_wide.2 hwk)).mono ?_; rintro e V2 ⟨rfl, h1, h2, h3⟩)
    refine ⟨keeps_others h2.size h3 (by omega), KpG.others h2 h3 (by omega), ?_, HBe.out.trans h2⟩
    rw [HS.out]; unfold Lib.byteCells at *; rw [List.map_append]; exact h1
  case done =>
    rintro E V hE ⟨hb, hBe⟩ hK
    have hs := Tryz.Builder_String_any_k W.heap.size (W.heap.size + 1) (texts (leavesT [] x)) V (Lib.IsBuilderF.of hb) hBe.size
    rw [texts_all] at hs
    clear hbase
    gi_wp2_with (refine ⟨trivial, ?_⟩; gi_at_call 42; refine (callsIn_wide.2 hs).mono ?_; rintro e V2 ⟨rfl, _, h2, h3⟩)
    have hK2 := h3 E _ hK (fun e => by simp only [Option.some.injEq] at e; omega) (fun c fz e => by cases e)
    refine ⟨by simp, .inl ⟨_, _, rfl, run_takeDeferred hK2, ?_⟩⟩
    exact ⟨_, results_tmp rfl _ _ _, rfl, (hBe.trans h2).trans (belowK_b (w := W) (Nat.le_refl _) V2 E _ _ (by omega) hK2 rfl rfl)⟩
  case stop =>
    rintro E c' pre V _ _ h _
    exact h.elim
end Go.Proofs.YtingfomfibhnhaaGreatDoor
