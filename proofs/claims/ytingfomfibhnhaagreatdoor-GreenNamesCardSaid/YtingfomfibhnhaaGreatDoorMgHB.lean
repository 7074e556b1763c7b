/-
  own: the own span of a node that begins at a byte.
-/
import Derived.Test.YtingfomfibhnhaaGreatDoorMgHA
namespace Go.Proofs.YtingfomfibhnhaaGreatDoor
open Go.RowKit Go.Shelf
attribute [local go_sem] Oper.semAt_some

def stepsO (from0 : Nat) (l : List (List Nat × T)) : Option (Nat × Nat) × Nat := (l.map (·.2.tok)).foldl ownStep (none, from0)
theorem stepsO_snoc (from0 : Nat) (l : List (List Nat × T)) (y : List Nat × T) : stepsO from0 (l ++ [y]) = ownStep (stepsO from0 l) y.2.tok := by simp [stepsO]
theorem stepsO_end (from0 : Nat) (l : List (List Nat × T)) : (stepsO from0 l).2 = from0 + lenL l := by
  unfold stepsO
  have : ∀ (m : List (List Nat × T)) (s : Option (Nat × Nat) × Nat), ((m.map (·.2.tok)).foldl ownStep s).2 = s.2 + lenL m := by
    intro m
    induction m with
    | nil => intro s; simp [lenL]
    | cons y m ih =>
      intro s
      simp only [List.map_cons, List.foldl_cons]
      rw [ih]
      have : (ownStep s y.2.tok).2 = s.2 + y.2.tok.2.length := by unfold ownStep; split <;> rfl
      rw [this]
      simp [lenL, leafText]; omega
  exact this l _
def foundO : Option (Nat × Nat) → Bool
  | none => false
  | some _ => true
def spanO : Option (Nat × Nat) → Nat × Nat
  | none => (0, 0)
  | some s => s
/-- The three boxes that own writes. -/
def OwnAt (b : Nat) (s : Option (Nat × Nat) × Nat) (V : World) : Prop :=
  V.heap[b]? = some (.cells #[.int .i64 (spanO s.1).1, .int .i64 (spanO s.1).2] 40 (0, 0)) ∧ V.heap[b + 1]? = some (.cells #[.bool (foundO s.1)] 4 (0, 0)) ∧ V.heap[b + 1 + 1]? = some (.cells #[.int .i64 s.2] 3 (0, 0))
theorem OwnAt.same {b : Nat} {s : Option (Nat × Nat) × Nat} {V V' : World} (h : OwnAt b s V) (hk : ∀ k, k < V.heap.size → (k = b ∨ k = b + 1 ∨ k = b + 1 + 1) → V'.heap[k]? = V.heap[k]?) : OwnAt b s V' :=
  ⟨(hk _ (Array.getElem?_eq_some_iff.1 h.1).1 (.inl rfl)).trans h.1, (hk _ (Array.getElem?_eq_some_iff.1 h.2.1).1 (.inr (.inl rfl))).trans h.2.1, (hk _ (Array.getElem?_eq_some_iff.1 h.2.2).1 (.inr (.inr rfl))).trans h.2.2⟩
theorem OwnAt.cells {b : Nat} {s : Option (Nat × Nat) × Nat} {V : World} (h : OwnAt b s V) : V.cell? ⟨b, 0, none⟩ = some (.int .i64 (spanO s.1).1) ∧ V.cell? ⟨b, 1, none⟩ = some (.int .i64 (spanO s.1).2) ∧ V.cell? ⟨b + 1, 0, none⟩ = some (.bool (foundO s.1)) ∧ V.cell? ⟨b + 1 + 1, 0, none⟩ = some (.int .i64 s.2) ∧
    (∀ o, V.frozen? ⟨b, o, none⟩ = false) ∧ (∀ o, V.frozen? ⟨b + 1, o, none⟩ = false) ∧ (∀ o, V.frozen? ⟨b + 1 + 1, o, none⟩ = false) :=
  ⟨by rw [cellH h.1]; rfl, by rw [cellH h.1]; rfl, by rw [cellH h.2.1]; rfl, by rw [cellH h.2.2]; rfl, fun o => Lib.frozen_of_heap h.1 o, fun o => Lib.frozen_of_heap h.2.1 o, fun o => Lib.frozen_of_heap h.2.2 o⟩
/-- A step that writes these boxes alone. -/
structure OwnStep (n0 b : Nat) (A B : World) : Prop where
  os : B.os = A.os
  tape : B.tape = A.tape
  output : B.output = A.output
  size : A.heap.size ≤ B.heap.size
  keep : ∀ k, k < A.heap.size → ¬ (k = b ∨ k = b + 1 ∨ k = b + 1 + 1) → B.heap[k]? = A.heap[k]?
theorem OwnStep.below {n0 b : Nat} {A B : World} (h : Below A.heap.size A B) : OwnStep n0 b A B := ⟨h.os, h.tape, h.output, h.size, fun k hk _ => h.block k hk⟩
theorem OwnStep.set {n0 b k : Nat} (A : World) (o : Nat) (v : Value) (hk : k = b ∨ k = b + 1 ∨ k = b + 1 + 1) : OwnStep n0 b A (A.setCell ⟨k, o, none⟩ v) :=
  ⟨rfl, rfl, rfl, by simp, fun j _ hn => heap_setCell_other A ⟨k, o, none⟩ j v (fun e => hn (by rw [show j = k from e]; exact hk))⟩
theorem OwnStep.trans {n0 b : Nat} {A B C : World} (h : OwnStep n0 b A B) (h2 : OwnStep n0 b B C) : OwnStep n0 b A C :=
  ⟨h2.os.trans h.os, h2.tape.trans h.tape, h2.output.trans h.output, Nat.le_trans h.size h2.size, fun k hk hn => (h2.keep k (Nat.lt_of_lt_of_le hk h.size) hn).trans (h.keep k hk hn)⟩
theorem OwnStep.all {n0 D b : Nat} {A B : World} (h : OwnStep n0 b A B) (h1 : n0 ≤ b) (h2 : b + 1 + 1 < D) (hA : n0 ≤ A.heap.size) : KeepsFrom D A B ∧ KpG n0 D A B ∧ Below n0 A B :=
  ⟨⟨h.size, fun k o hD hk _ => (h.keep k (Array.getElem?_eq_some_iff.1 hk).1 (by omega)).trans hk⟩, ⟨h.os, h.tape, h.output, h.size, fun k hk hp => h.keep k hk (by omega)⟩, ⟨h.os, h.tape, h.output, h.size, fun k hk => h.keep k (by omega) (by omega)⟩⟩
theorem old_alloc {W : World} {k : Nat} {o : Obj} (o' : Obj) (h : W.heap[k]? = some o) : (W.alloc o').heap[k]? = some o := ((galloc (Below.refl W.heap.size W) o').block k (Array.getElem?_eq_some_iff.1 h).1).trans h
theorem OwnAt.first {b E1 : Nat} {V : World} (h : OwnAt b (none, E1) V) (e : Nat) : OwnAt b (some (e, E1), E1) (((V.setCell ⟨b + 1, 0, none⟩ (.bool true)).setCell ⟨b, 0, none⟩ (.int .i64 e)).setCell ⟨b, 1, none⟩ (.int .i64 E1)) := by
  obtain ⟨h1, h2, h3⟩ := h
  have o : ∀ (A : World) (k j o : Nat) (v : Value), k ≠ j → (A.setCell ⟨j, o, none⟩ v).heap[k]? = A.heap[k]? := fun A k j o v hk => heap_setCell_other A ⟨j, o, none⟩ k v hk
  have h1' := (o V b (b + 1) 0 (.bool true) (by omega)).trans h1
  refine ⟨heap_setCell_same _ _ 1 _ _ _ (heap_setCell_same _ _ 0 _ _ _ h1'), ?_, ?_⟩
  · exact (o _ (b + 1) b 1 _ (by omega)).trans ((o _ (b + 1) b 0 _ (by omega)).trans (heap_setCell_same V _ 0 _ _ _ h2))
  · exact (o _ (b + 1 + 1) b 1 _ (by omega)).trans ((o _ (b + 1 + 1) b 0 _ (by omega)).trans ((o _ (b + 1 + 1) (b + 1) 0 _ (by omega)).trans h3))
theorem OwnAt.more {b sa sb E1 : Nat} {V : World} (h : OwnAt b (some (sa, sb), E1) V) : OwnAt b (some (sa, E1), E1) (V.setCell ⟨b, 1, none⟩ (.int .i64 E1)) := by
  obtain ⟨h1, h2, h3⟩ := h
  exact ⟨heap_setCell_same _ _ 1 _ _ _ h1, (heap_setCell_other V ⟨b, 1, none⟩ _ _ (by show b + 1 ≠ b; omega)).trans h2, (heap_setCell_other V ⟨b, 1, none⟩ _ _ (by show b + 1 + 1 ≠ b; omega)).trans h3⟩
theorem own_start (W : World) (o1 o6 : Obj) (e : Nat) (w6 : World) (h6 : w6 = (((((W.alloc o1).alloc (.cells #[.int .i64 0, .int .i64 0] 40)).alloc (.cells #[.int .i64 0, .int .i64 0] 40)).alloc (.cells #[.bool false] 4)).alloc (.cells #[.int .i64 e] 3)).alloc o6) :
    OwnAt (W.heap.size + 1 + 1) (none, e) w6 ∧ w6.heap[W.heap.size + 1]? = some (.cells #[.int .i64 0, .int .i64 0] 40 (0, 0)) ∧ w6.heap[W.heap.size + 1 + 1 + 1 + 1 + 1]? = some o6 ∧ Below W.heap.size W w6 ∧ w6.heap.size = W.heap.size + 6 := by
  obtain ⟨w1, hw1⟩ : ∃ w, W.alloc o1 = w := ⟨_, rfl⟩
  have z1 : w1.heap.size = W.heap.size + 1 := by rw [← hw1]; simp
  have b1 : Below W.heap.size W w1 := by rw [← hw1]; exact galloc (Below.refl _ _) _
  rw [hw1] at h6
  obtain ⟨w2, hw2⟩ : ∃ w, w1.alloc (.cells #[.int .i64 0, .int .i64 0] 40) = w := ⟨_, rfl⟩
  have n2 := World.alloc_heap_new w1 (.cells #[.int .i64 0, .int .i64 0] 40)
  have z2 : w2.heap.size = W.heap.size + 1 + 1 := by rw [← hw2]; simp; omega
  have b2 : Below W.heap.size W w2 := by rw [← hw2]; exact galloc b1 _
  rw [hw2] at h6 n2
  obtain ⟨w3, hw3⟩ : ∃ w, w2.alloc (.cells #[.int .i64 0, .int .i64 0] 40) = w := ⟨_, rfl⟩
  have n3 := World.alloc_heap_new w2 (.cells #[.int .i64 0, .int .i64 0] 40)
  have z3 : w3.heap.size = W.heap.size + 1 + 1 + 1 := by rw [← hw3]; simp; omega
  have b3 : Below W.heap.size W w3 := by rw [← hw3]; exact galloc b2 _
  replace n2 := old_alloc (.cells #[.int .i64 0, .int .i64 0] 40) n2
  rw [hw3] at h6 n2 n3
  obtain ⟨w4, hw4⟩ : ∃ w, w3.alloc (.cells #[.bool false] 4) = w := ⟨_, rfl⟩
  have n4 := World.alloc_heap_new w3 (.cells #[.bool false] 4)
  have z4 : w4.heap.size = W.heap.size + 1 + 1 + 1 + 1 := by rw [← hw4]; simp; omega
  have b4 : Below W.heap.size W w4 := by rw [← hw4]; exact galloc b3 _
  replace n2 := old_alloc (.cells #[.bool false] 4) n2
  replace n3 := old_alloc (.cells #[.bool false] 4) n3
  rw [hw4] at h6 n2 n3 n4
  obtain ⟨w5, hw5⟩ : ∃ w, w4.alloc (.cells #[.int .i64 e] 3) = w := ⟨_, rfl⟩
  have n5 := World.alloc_heap_new w4 (.cells #[.int .i64 e] 3)
  have z5 : w5.heap.size = W.heap.size + 1 + 1 + 1 + 1 + 1 := by rw [← hw5]; simp; omega
  have b5 : Below W.heap.size W w5 := by rw [← hw5]; exact galloc b4 _
  replace n2 := old_alloc (.cells #[.int .i64 e] 3) n2
  replace n3 := old_alloc (.cells #[.int .i64 e] 3) n3
  replace n4 := old_alloc (.cells #[.int .i64 e] 3) n4
  rw [hw5] at h6 n2 n3 n4 n5
  have n6 := World.alloc_heap_new w5 o6
  replace n2 := old_alloc o6 n2
  replace n3 := old_alloc o6 n3
  replace n4 := old_alloc o6 n4
  replace n5 := old_alloc o6 n5
  have b6 : Below W.heap.size W (w5.alloc o6) := galloc b5 _
  have z6 : (w5.alloc o6).heap.size = W.heap.size + 6 := by simp; omega
  subst h6
  rw [z1] at n2
  rw [z2] at n3
  rw [z3] at n4
  rw [z4] at n5
  rw [z5] at n6
  exact ⟨⟨n3, n4, n5⟩, n2, n6, b6, z6⟩
set_option maxRecDepth 100000 in
set_option maxHeartbeats 8000000 in
theorem own_any (x : T) (p : Option Addr) (c : Nat) (from0 : Nat) (W : World) (hx : NAt AnyB W x (cellsN x p c)) (hc : countT x ≤ 1000000) (hz : from0 + sizeT x ≤ 1000000000) : Calls Tryz.prog 37 #[aggN x p c, .int .i64 from0] W fun e w' => e = .returned (.agg #[.int .i64 (ownR from0 (leafToks x)).1, .int .i64 (ownR from0 (leafToks x)).2]) ∧ Below W.heap.size W w' := by
  have hRR : ownR from0 (leafToks x) = (stepsO from0 (leavesT [] x)).1.getD ((stepsO from0 (leavesT [] x)).2, (stepsO from0 (leavesT [] x)).2) := rfl
  rw [hRR]
  obtain ⟨⟨so0, e0⟩, hso⟩ : ∃ s, stepsO from0 (leavesT [] x) = s := ⟨_, rfl⟩
  rw [hso]
  have HF0 := Lib.hid hso
  clear hRR hso
  refine (callsIn_wide (n := 3)).1 ?_
  refine callsIn_of_wp_marks Tryz.func37 rfl trivial ?_ rfl
  simp only [Tryz.ntmps37, List.size_toArray, List.length_cons, List.length_nil, Nat.reduceAdd, Nat.reduceSub, Array.replicate_succ, Array.replicate_zero, List.push_toArray, List.append_toArray, List.nil_append, List.cons_append]
  gi_wp2_with (refine ⟨trivial, ?_⟩; gi_at_call 38; refine (callsIn_wide.2 (leaves_any x p c _)).mono ?_; rintro e w' ⟨rfl, rfl⟩)
  obtain ⟨hO, hR, hbx, hbw, hz3⟩ := own_start W (.cells #[.int .u8 x.kind, .int .u8 x.tok.1, .string ⟨x.tok.2.toArray⟩, .slice p x.kids.length c] 27) (.cells #[.int .u8 x.kind, .int .u8 x.tok.1, .string ⟨x.tok.2.toArray⟩, .slice p x.kids.length c] 27) from0 _ rfl
  generalize ((((((W.alloc (.cells #[.int .u8 x.kind, .int .u8 x.tok.1, .string ⟨x.tok.2.toArray⟩, .slice p x.kids.length c] 27)).alloc (.cells #[.int .i64 0, .int .i64 0] 40)).alloc (.cells #[.int .i64 0, .int .i64 0] 40)).alloc (.cells #[.bool false] 4)).alloc (.cells #[.int .i64 (from0 : Nat)] 3)).alloc (.cells #[.int .u8 x.kind, .int .u8 x.tok.1, .string ⟨x.tok.2.toArray⟩, .slice p x.kids.length c] 27)) = w3 at *
  refine range_green (D := W.heap.size + 6) (n0 := W.heap.size) (x := x) (p := p) (c := c) hz3 rfl rfl (by omega) hc hbx (NAt.world ⟨hbw.size, fun k hk _ => hbw.block k hk⟩ _ _ (NAt.mono (fun k hk _ => hk) _ _ hx))
    (fun pre V => OwnAt (W.heap.size + 1 + 1) (stepsO from0 pre) V ∧ V.heap[W.heap.size + 1]? = some (.cells #[.int .i64 0, .int .i64 0] 40 (0, 0)) ∧ Below W.heap.size W V) (fun _ _ _ => False)
    (fun s A B h k => ⟨h.1.same fun j hj hb => k.keep j hj (.inl (by omega)), (k.keep _ (Array.getElem?_eq_some_iff.1 h.2.1).1 (.inl (by omega))).trans h.2.1, below_ke h.2.2 (by omega) h.2.2.size k⟩) (fun _ _ _ _ _ h _ _ => h) ⟨hO, hR, hbw⟩
    (fun Bx pv y py cy => { tmps := #[aggN x p c, .int .i64 (from0 : Nat), .pointer (some ⟨W.heap.size, 0, none⟩), undef, .pointer (some ⟨W.heap.size + 1, 0, none⟩), .pointer (some ⟨W.heap.size + 1 + 1, 0, none⟩), .pointer (some ⟨W.heap.size + 1 + 1 + 1, 0, none⟩), .pointer (some ⟨W.heap.size + 1 + 1 + 1 + 1, 0, none⟩), undef, .pointer (some ⟨Bx, 0, none⟩), undef, .int .i64 (from0 : Nat), aggN x p c, .func (.func 55) #[] #[.pointer (some ⟨W.heap.size + 1 + 1 + 1 + 1 + 1, 0, none⟩)], pv, aggN y py cy, undef, undef, undef, undef, undef, undef, undef, undef, undef, undef, undef, undef, undef, undef, undef, undef, undef, undef, undef, undef, undef, undef, undef, undef, undef, undef, undef], defers := [] }) ?assign ?body ?done ?stop
  case assign =>
    intro l m y pv py cy V K hK
    gi_wp2
    exact hK
  case body =>
    rintro l m pre y pv py cy Bx V hl hl2 ⟨ha, hr, hBe⟩ hpre hBx hbox hrow hn
    have hle2 := lenL_pre hpre
    rw [lenL_snoc, lenL_all] at hle2
    have hse := stepsO_end from0 pre
    have hsn := stepsO_snoc from0 pre y
    obtain ⟨⟨so, e⟩, hso⟩ : ∃ s, stepsO from0 pre = s := ⟨_, rfl⟩
    rw [hso] at ha hse hsn
    obtain ⟨E1, hE1⟩ : ∃ E1, e + y.2.tok.2.length = E1 := ⟨_, rfl⟩
    have hwr : IntKind.i64.wrap ((e : Int) + (y.2.tok.2.length : Int)) = (E1 : Int) := by rw [IntWalk.i64_in _ (by simp at hse; omega)]; omega
    have hwr2 : wrap64 ((e : Int) + (y.2.tok.2.length : Int)) = (E1 : Int) := by rw [IntWalk.wrap64_in _ (by simp at hse; omega)]; omega
    obtain ⟨c0, c1, c2, c3, f0, f1, f2⟩ := ha.cells
    obtain ⟨d0, d1, d2, d3⟩ := box4 hbox
    obtain ⟨V1, hV1⟩ : ∃ V1, V.setCell ⟨W.heap.size + 1 + 1 + 1 + 1, 0, none⟩ (.int .i64 E1) = V1 := ⟨_, rfl⟩
    have st1 : OwnStep W.heap.size (W.heap.size + 1 + 1) V V1 := by rw [← hV1]; exact OwnStep.set V 0 _ (.inr (.inr rfl))
    have hx1 : V1.heap[Bx]? = some (boxN y.2 py cy) := (st1.keep Bx (Array.getElem?_eq_some_iff.1 hbox).1 (by omega)).trans hbox
    have ha1 : OwnAt (W.heap.size + 1 + 1) (so, E1) V1 := by
      rw [← hV1]
      exact ⟨(heap_setCell_other V ⟨W.heap.size + 1 + 1 + 1 + 1, 0, none⟩ _ _ (by show W.heap.size + 1 + 1 ≠ W.heap.size + 1 + 1 + 1 + 1; omega)).trans ha.1, (heap_setCell_other V ⟨W.heap.size + 1 + 1 + 1 + 1, 0, none⟩ _ _ (by show W.heap.size + 1 + 1 + 1 ≠ W.heap.size + 1 + 1 + 1 + 1; omega)).trans ha.2.1, heap_setCell_same V _ 0 _ _ _ ha.2.2⟩
    obtain ⟨g0, g1, g2, g3, g4, g5, g6⟩ := ha1.cells
    obtain ⟨q0, q1, q2, q3⟩ := box4 hx1
    have HM := Lib.hid (fun w => isEmpty_any y.2.tok w)
    have HA := Lib.hid (fun w => ahead_any y.2.tok w)
    have HR := Lib.hid hr
    have HBe := Lib.hid hBe
    have HS1 := Lib.hid st1
    have HEND : Hid (∀ (a : Act) V', OwnStep W.heap.size (W.heap.size + 1 + 1) V V' → OwnAt (W.heap.size + 1 + 1) (stepsO from0 (pre ++ [y])) V' → leftBy (W.heap.size + 6) (KpG W.heap.size (W.heap.size + 6)) (fun pre V => OwnAt (W.heap.size + 1 + 1) (stepsO from0 pre) V ∧ V.heap[W.heap.size + 1]? = some (.cells #[.int .i64 0, .int .i64 0] 40 (0, 0)) ∧ Below W.heap.size W V) (fun _ _ _ => False) (pre ++ [y]) V .normal a V') := Lib.hid (fun a V' h1 h2 => by
      obtain ⟨z1, z2, z3⟩ := h1.all (D := W.heap.size + 6) (by omega) (by omega) HBe.out.size
      exact ⟨z1, z2, h2, (h1.keep _ (Array.getElem?_eq_some_iff.1 HR.out).1 (by omega)).trans HR.out, HBe.out.trans z3⟩)
    rw [hsn] at HEND
    unfold ownStep at HEND
    dsimp only at HEND
    rw [hE1] at HEND
    have HX1 := Lib.hid hx1
    clear hr hBe st1 hle2 hse hsn hso hbox hrow hn hpre hE1 ha
    cases hE : emptyT y.2.tok with
    | true =>
      rw [hE] at HM HEND
      simp only [Bool.true_or, if_true] at HEND
      gi_wp2_with (refine ⟨trivial, fun h => (by cases h), ?_⟩; gi_at_call 43; refine (CallsIn.inRound l (callsIn_wide.2 (HM.out _))).mono ?_; rintro e V2 ⟨rfl, h1⟩; have k1 := ha1.same (fun k hk _ => h1.block k hk); obtain ⟨s0, s1, s2, s3, s4, s5, s6⟩ := k1.cells; have hx2 := (h1.block Bx (Array.getElem?_eq_some_iff.1 hx1).1).trans hx1; obtain ⟨t0, t1, t2, t3⟩ := box4 hx2)
      refine ⟨trivial, ?_⟩
      gi_wp2
      exact HEND.out _ _ (HS1.out.trans (OwnStep.below h1)) k1
    | false =>
      rw [hE] at HM HEND
      cases hA : aheadK y.2.tok with
      | true =>
        rw [hA] at HA HEND
        simp only [Bool.or_true, if_true] at HEND
        gi_wp2_with (first | (refine ⟨trivial, fun h => (by cases h), ?_⟩; gi_at_call 43; refine (CallsIn.inRound l (callsIn_wide.2 (HM.out _))).mono ?_; rintro e V2 ⟨rfl, h1⟩; have k1 := ha1.same (fun k hk _ => h1.block k hk); obtain ⟨s0, s1, s2, s3, s4, s5, s6⟩ := k1.cells; have hx2 := (h1.block Bx (Array.getElem?_eq_some_iff.1 hx1).1).trans hx1; obtain ⟨t0, t1, t2, t3⟩ := box4 hx2) | (refine ⟨trivial, fun h => (by cases h), ?_⟩; gi_at_call 48; refine (CallsIn.inRound l (callsIn_wide.2 (HA.out _))).mono ?_; rintro e V3 ⟨rfl, h2⟩; have k2 := k1.same (fun k hk _ => h2.block k hk); obtain ⟨r0, r1, r2, r3, r4, r5, r6⟩ := k2.cells))
        exact HEND.out _ _ (HS1.out.trans (OwnStep.below (h1.trans (h2.mono h1.size)))) k2
      | false =>
        rw [hA] at HA HEND
        simp only [Bool.or_self, Bool.false_eq_true, if_false] at HEND
        cases so with
        | none =>
          simp only [foundO, spanO, Option.map_none, Option.getD_none] at *
          gi_wp2_with (first | (refine ⟨trivial, fun h => (by cases h), ?_⟩; gi_at_call 43; refine (CallsIn.inRound l (callsIn_wide.2 (HM.out _))).mono ?_; rintro e V2 ⟨rfl, h1⟩; have k1 := ha1.same (fun k hk _ => h1.block k hk); obtain ⟨s0, s1, s2, s3, s4, s5, s6⟩ := k1.cells; have hx2 := (h1.block Bx (Array.getElem?_eq_some_iff.1 hx1).1).trans hx1; obtain ⟨t0, t1, t2, t3⟩ := box4 hx2) | (refine ⟨trivial, fun h => (by cases h), ?_⟩; gi_at_call 48; refine (CallsIn.inRound l (callsIn_wide.2 (HA.out _))).mono ?_; rintro e V3 ⟨rfl, h2⟩; have k2 := k1.same (fun k hk _ => h2.block k hk); obtain ⟨r0, r1, r2, r3, r4, r5, r6⟩ := k2.cells))
          exact HEND.out _ _ ((((HS1.out.trans (OwnStep.below (h1.trans (h2.mono h1.size)))).trans (OwnStep.set _ 0 _ (.inr (.inl rfl)))).trans (OwnStep.set _ 0 _ (.inl rfl))).trans (OwnStep.set _ 1 _ (.inl rfl))) (OwnAt.first k2 e)
        | some ab =>
          obtain ⟨sa, sb⟩ := ab
          simp only [foundO, spanO, Option.map_some, Option.getD_some] at *
          gi_wp2_with (first | (refine ⟨trivial, fun h => (by cases h), ?_⟩; gi_at_call 43; refine (CallsIn.inRound l (callsIn_wide.2 (HM.out _))).mono ?_; rintro e V2 ⟨rfl, h1⟩; have k1 := ha1.same (fun k hk _ => h1.block k hk); obtain ⟨s0, s1, s2, s3, s4, s5, s6⟩ := k1.cells; have hx2 := (h1.block Bx (Array.getElem?_eq_some_iff.1 hx1).1).trans hx1; obtain ⟨t0, t1, t2, t3⟩ := box4 hx2) | (refine ⟨trivial, fun h => (by cases h), ?_⟩; gi_at_call 48; refine (CallsIn.inRound l (callsIn_wide.2 (HA.out _))).mono ?_; rintro e V3 ⟨rfl, h2⟩; have k2 := k1.same (fun k hk _ => h2.block k hk); obtain ⟨r0, r1, r2, r3, r4, r5, r6⟩ := k2.cells))
          exact HEND.out _ _ ((HS1.out.trans (OwnStep.below (h1.trans (h2.mono h1.size)))).trans (OwnStep.set _ 1 _ (.inl rfl))) (OwnAt.more k2)
  case done =>
    rintro E V hE ⟨ha, hr, hBe⟩ hK
    have hse := stepsO_end from0 (leavesT [] x)
    rw [HF0.out] at ha
    obtain ⟨c0, c1, c2, c3, f0, f1, f2⟩ := ha.cells
    have r0 : V.cell? ⟨W.heap.size + 1, 0, none⟩ = some (.int .i64 0) := by rw [cellH hr]; rfl
    have r1 : V.cell? ⟨W.heap.size + 1, 1, none⟩ = some (.int .i64 0) := by rw [cellH hr]; rfl
    have rf : ∀ o, V.frozen? ⟨W.heap.size + 1, o, none⟩ = false := fun o => Lib.frozen_of_heap hr o
    have hfin : ∀ a b : Int, ∃ V', (V.setCell ⟨W.heap.size + 1, 0, none⟩ (.int .i64 a)).setCell ⟨W.heap.size + 1, 1, none⟩ (.int .i64 b) = V' ∧ V'.heap[E]? = some (.deferred (some [])) ∧ V'.heap[W.heap.size + 1]? = some (.cells #[.int .i64 a, .int .i64 b] 40 (0, 0)) ∧ Below W.heap.size W V' := fun a b =>
      ⟨_, rfl, ((heap_setCell_other _ ⟨W.heap.size + 1, 1, none⟩ E _ (by show E ≠ W.heap.size + 1; omega)).trans (heap_setCell_other _ ⟨W.heap.size + 1, 0, none⟩ E _ (by show E ≠ W.heap.size + 1; omega))).trans hK,
        heap_setCell_same _ _ 1 _ _ _ (heap_setCell_same V _ 0 _ _ _ hr), (hBe.setCell (p := ⟨W.heap.size + 1, 0, none⟩) (by show W.heap.size ≤ W.heap.size + 1; omega) _).setCell (p := ⟨W.heap.size + 1, 1, none⟩) (by show W.heap.size ≤ W.heap.size + 1; omega) _⟩
    cases so0 with
    | none =>
      simp only [foundO, spanO] at *
      obtain ⟨V', hV', hK2, hR2, hB2⟩ := hfin e0 e0
      have HF := Lib.hid (And.intro hK2 (And.intro hR2 hB2))
      clear hfin hK2 hR2 hB2 hr hBe ha
      gi_wp2
      refine ⟨by simp, .inl ⟨_, _, rfl, run_takeDeferred HF.out.1, ?_⟩⟩
      have z0 := cell_kept (show V'.cell? ⟨W.heap.size + 1, 0, none⟩ = some (.int .i64 e0) by rw [cellH HF.out.2.1]; rfl) (grownBy_putObj' V' E (.deferred none)) (fun r e => by cases e; exact ⟨_, HF.out.1, rfl⟩)
      have z1 := cell_kept (show V'.cell? ⟨W.heap.size + 1, 1, none⟩ = some (.int .i64 e0) by rw [cellH HF.out.2.1]; rfl) (grownBy_putObj' V' E (.deferred none)) (fun r e => by cases e; exact ⟨_, HF.out.1, rfl⟩)
      exact ⟨.agg #[.int .i64 e0, .int .i64 e0], by simp [results, Tryz.results37, go_sem, z0, z1], rfl, HF.out.2.2.trans (belowK_b (w := W) (Nat.le_refl _) V' E _ _ (by omega) HF.out.1 rfl rfl)⟩
    | some ab =>
      obtain ⟨sa, sb⟩ := ab
      simp only [foundO, spanO] at *
      obtain ⟨V', hV', hK2, hR2, hB2⟩ := hfin sa sb
      have HF := Lib.hid (And.intro hK2 (And.intro hR2 hB2))
      clear hfin hK2 hR2 hB2 hr hBe ha
      gi_wp2
      refine ⟨by simp, .inl ⟨_, _, rfl, run_takeDeferred HF.out.1, ?_⟩⟩
      have z0 := cell_kept (show V'.cell? ⟨W.heap.size + 1, 0, none⟩ = some (.int .i64 sa) by rw [cellH HF.out.2.1]; rfl) (grownBy_putObj' V' E (.deferred none)) (fun r e => by cases e; exact ⟨_, HF.out.1, rfl⟩)
      have z1 := cell_kept (show V'.cell? ⟨W.heap.size + 1, 1, none⟩ = some (.int .i64 sb) by rw [cellH HF.out.2.1]; rfl) (grownBy_putObj' V' E (.deferred none)) (fun r e => by cases e; exact ⟨_, HF.out.1, rfl⟩)
      exact ⟨.agg #[.int .i64 sa, .int .i64 sb], by simp [results, Tryz.results37, go_sem, z0, z1], rfl, HF.out.2.2.trans (belowK_b (w := W) (Nat.le_refl _) V' E _ _ (by omega) HF.out.1 rfl rfl)⟩
  case stop =>
    rintro E c' pre V _ _ h _
    exact h.elim
end Go.Proofs.YtingfomfibhnhaaGreatDoor
