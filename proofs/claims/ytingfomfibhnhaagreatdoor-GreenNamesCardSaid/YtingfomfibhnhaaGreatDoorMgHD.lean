/-
  Full, Own: a node's spans.
-/
import Derived.Test.YtingfomfibhnhaaGreatDoorMgHC
import Derived.Test.YtingfomfibhnhaaGreatDoorMgHB
namespace Go.Proofs.YtingfomfibhnhaaGreatDoor
open Go.RowKit Go.Shelf

theorem show_le : ∀ (l : List Int) (x z : T), atT x l = some z → (showT x l).1 + sizeT (showT x l).2 ≤ sizeT x ∧ countT (showT x l).2 ≤ countT x
  | [], x, z, _ => by unfold showT; simp
  | i :: r, x, z, h => by
    by_cases hk : x.kind = 2
    · rw [show_miss x _ hk]; simp
    · obtain ⟨j, rfl, hj, h2⟩ := atT_valid h
      have h3 := show_le r _ z h2
      have h4 := text_len x j _ hk (List.getElem?_eq_getElem hj)
      have h5 := count_kid hj
      rw [show_in x j r hk hj]
      constructor
      · show (textL (x.kids.take j)).length + (showT (x.kids[j]'hj) r).1 + sizeT (showT (x.kids[j]'hj) r).2 ≤ _
        omega
      · show countT (showT (x.kids[j]'hj) r).2 ≤ _
        omega
def SpanEnd (s : Nat × Nat × Nat) (w : World) (e : Ending) (w' : World) : Prop := e = .returned (.tuple #[.agg #[.int .i64 s.1, .int .i64 s.2.1], .int .i64 s.2.2]) ∧ Below w.heap.size w w'
def fullA (x : T) (l : List Int) : Nat × Nat × Nat := match atT x l with
  | none => (0, 0, 5)
  | some _ => ((fullT x l).1, (fullT x l).2, 0)
def ownA (x : T) (l : List Int) : Nat × Nat × Nat := match atT x l with
  | none => (0, 0, 5)
  | some _ => ((ownT x l).1, (ownT x l).2, 0)
theorem fullA_none {x : T} {l : List Int} (h : atT x l = none) : fullA x l = (0, 0, 5) := by unfold fullA; rw [h]
theorem fullA_some {x z : T} {l : List Int} (h : atT x l = some z) : fullA x l = ((fullT x l).1, (fullT x l).2, 0) := by unfold fullA; rw [h]
theorem ownA_none {x : T} {l : List Int} (h : atT x l = none) : ownA x l = (0, 0, 5) := by unfold ownA; rw [h]
theorem ownA_some {x z : T} {l : List Int} (h : atT x l = some z) : ownA x l = ((ownT x l).1, (ownT x l).2, 0) := by unfold ownA; rw [h]
theorem span_put {w : World} {N : Nat} {cs : Array Value} {a b : Value} {t : TypeId} (h : w.heap[N]? = some (.cells cs t (0, 0))) (hs : cs.size = 2) :
    ((w.setCell ⟨N, 0, none⟩ a).setCell ⟨N, 1, none⟩ b).heap[N]? = some (.cells #[a, b] t (0, 0)) := by
  have := heap_setCell_same _ _ 1 _ _ b (heap_setCell_same w N 0 cs t a h)
  rw [this]
  obtain ⟨l⟩ := cs
  match l, hs with
  | [p, q], _ => rfl
set_option maxRecDepth 100000 in
set_option maxHeartbeats 4000000 in
theorem full_any (x : T) (l : List Int) (W : World) (p : Option Addr) (c : Nat) (v : Value) (hx : NAt AnyB W x (cellsN x p c)) (hl : PaAt W v l) (hlen : l.length ≤ 1000000) (hc : countT x ≤ 100000) (hs : sizeT x ≤ 100000000) :
    Calls Tryz.prog 15 #[aggN x p c, v] W (SpanEnd (fullA x l) W) := by
  have hl' := hl
  obtain ⟨_, pl, cl, rfl, _⟩ := hl'
  obtain ⟨w1, hw1⟩ : ∃ w, W.alloc (.cells #[.int .u8 x.kind, .int .u8 x.tok.1, .string ⟨x.tok.2.toArray⟩, .slice p x.kids.length c] 27) = w := ⟨_, rfl⟩
  have n1 : w1.heap[W.heap.size]? = some (boxN x p c) := by rw [← hw1]; exact World.alloc_heap_new W _
  have b1 : Below W.heap.size W w1 := by rw [← hw1]; exact galloc (Below.refl _ _) _
  have z1 : w1.heap.size = W.heap.size + 1 := by rw [← hw1]; simp
  obtain ⟨w2, hw2⟩ : ∃ w, w1.alloc (.cells #[.int .i64 0, .int .i64 0] 40) = w := ⟨_, rfl⟩
  have n2 : w2.heap[W.heap.size + 1]? = some (.cells #[.int .i64 0, .int .i64 0] 40 (0, 0)) := by rw [← hw2, ← z1]; exact World.alloc_heap_new w1 _
  have n12 : w2.heap[W.heap.size]? = some (boxN x p c) := by rw [← hw2]; exact ((galloc (Below.refl w1.heap.size w1) _).block _ (by omega)).trans n1
  have b2 : Below W.heap.size W w2 := by rw [← hw2]; exact galloc b1 _
  have hr := reach_any x l w2 W.heap.size 0 p c (.slice pl l.length cl) (box4 n12) (hx.below b2) (hl.below b2) hlen
  have HR := Lib.hid hr
  have HB := Lib.hid b2
  have HL := Lib.hid (hl.below b2)
  have HX := Lib.hid (hx.below b2)
  obtain ⟨c0, c1, c2, c3⟩ := box4 n12
  have HN1 := Lib.hid n12
  have HN2 := Lib.hid n2
  have r0 : w2.cell? ⟨W.heap.size + 1, 0, none⟩ = some (.int .i64 0) := by rw [cellH n2]; rfl
  have r1 : w2.cell? ⟨W.heap.size + 1, 1, none⟩ = some (.int .i64 0) := by rw [cellH n2]; rfl
  have rf : ∀ o, w2.frozen? ⟨W.heap.size + 1, o, none⟩ = false := fun o => Lib.frozen_of_heap n2 o
  clear hl hx hr b2 n12 n2 b1 n1
  cases hat : atT x l with
  | none =>
    rw [fullA_none hat]
    have HR2 : Hid (Calls Tryz.prog 33 #[.pointer (some ⟨W.heap.size, 0, none⟩), .slice pl l.length cl] w2 fun e w' => w' = w2 ∧ e = .returned (.pointer none)) := Lib.hid (HR.out.mono fun e w' ⟨h1, h2⟩ => ⟨h1, by
      rcases h2 with ⟨h3, _⟩ | ⟨y, g, o, p, c, h3, h4, _⟩
      · exact h3
      · rw [hat] at h4; cases h4⟩)
    obtain ⟨V, hV⟩ : ∃ V, (w2.setCell ⟨W.heap.size + 1, 0, none⟩ (.int .i64 0)).setCell ⟨W.heap.size + 1, 1, none⟩ (.int .i64 0) = V := ⟨_, rfl⟩
    have hVR : V.heap[W.heap.size + 1]? = some (.cells #[.int .i64 0, .int .i64 0] 40 (0, 0)) := by rw [← hV]; exact span_put HN2.out rfl
    have HVB : Hid (Below W.heap.size W V) := Lib.hid (by rw [← hV]; exact (HB.out.setCell (p := ⟨W.heap.size + 1, 0, none⟩) (by show W.heap.size ≤ W.heap.size + 1; omega) _).setCell (p := ⟨W.heap.size + 1, 1, none⟩) (by show W.heap.size ≤ W.heap.size + 1; omega) _)
    have v0 : V.cell? ⟨W.heap.size + 1, 0, none⟩ = some (.int .i64 0) := by rw [cellH hVR]; rfl
    have v1 : V.cell? ⟨W.heap.size + 1, 1, none⟩ = some (.int .i64 0) := by rw [cellH hVR]; rfl
    clear hVR hat HR HL HX
    go_enter Tryz.func15, Tryz.ntmps15
    go_wp2_with fail
    refine HR2.out.mono ?_
    rintro e w' ⟨rfl, rfl⟩
    go_wp2
    exact bodyPost_ret (v := .tuple #[.agg #[.int .i64 0, .int .i64 0], .int .i64 5]) (by simp [results, Tryz.results15, go_sem, v0, v1]) rfl ⟨rfl, HVB.out⟩
  | some z =>
    rw [fullA_some hat]
    obtain ⟨A, Bq, hAB⟩ : ∃ A Bq, fullT x l = (A, Bq) := ⟨_, _, rfl⟩
    rw [hAB]
    obtain ⟨hle1, hle2⟩ := show_le l x z hat
    have HR2 : Hid (Calls Tryz.prog 33 #[.pointer (some ⟨W.heap.size, 0, none⟩), .slice pl l.length cl] w2 fun e w' => w' = w2 ∧ ∃ g o, e = .returned (.pointer (some ⟨g, o, none⟩))) := Lib.hid (HR.out.mono fun e w' ⟨h1, h2⟩ => ⟨h1, by
      rcases h2 with ⟨_, h3⟩ | ⟨y, g, o, p, c, h3, _⟩
      · rw [hat] at h3; cases h3
      · exact ⟨g, o, h3⟩⟩)
    have HS := Lib.hid (shown_any x l w2 p c (.slice pl l.length cl) z HX.out HL.out hlen hat hc hs)
    obtain ⟨S1, S2, hS⟩ : ∃ S1 S2, showT x l = (S1, S2) := ⟨_, _, rfl⟩
    rw [hS] at HS hle1 hle2
    dsimp only at HS hle1 hle2
    have HAB := Lib.hid hAB
    have HSS := Lib.hid hS
    clear HR HL HX hat hAB hS
    go_enter Tryz.func15, Tryz.ntmps15
    go_wp2_with fail
    refine HR2.out.mono ?_
    rintro e w' ⟨rfl, g, o, rfl⟩
    go_wp2_with fail
    refine HS.out.mono ?_
    rintro e w4 ⟨ps, cs, rfl, hN4, h4⟩
    obtain ⟨w5, hw5⟩ : ∃ w, w4.alloc (.cells #[.int .u8 S2.kind, .int .u8 S2.tok.1, .string ⟨S2.tok.2.toArray⟩, .slice ps S2.kids.length cs] 27) = w := ⟨_, rfl⟩
    have n5 : w5.heap[w4.heap.size]? = some (boxN S2 ps cs) := by rw [← hw5]; exact World.alloc_heap_new w4 _
    have b5 : Below w4.heap.size w4 w5 := by rw [← hw5]; exact galloc (Below.refl _ _) _
    obtain ⟨q0, q1, q2, q3⟩ := box4 n5
    have HB5 := Lib.hid (HB.out.trans ((h4.trans (b5.mono h4.size)).mono HB.out.size))
    have HN5 : Hid (w5.heap[W.heap.size + 1]? = some (.cells #[.int .i64 0, .int .i64 0] 40 (0, 0))) := Lib.hid (((h4.trans (b5.mono h4.size)).block _ (Array.getElem?_eq_some_iff.1 HN2.out).1).trans HN2.out)
    have hA : S1 = A ∧ S1 + sizeT S2 = Bq := by
      have h := HAB.out
      unfold fullT at h
      rw [HSS.out] at h
      exact ⟨congrArg Prod.fst h, congrArg Prod.snd h⟩
    have hcall := size_any S2 ps cs w5 (hN4.below b5) (by omega) (by omega)
    obtain ⟨hA1, hA2⟩ := hA
    subst hA1
    have hwr : IntKind.i64.wrap ((S1 : Int) + (sizeT S2 : Int)) = (Bq : Int) := by rw [IntWalk.i64_in _ (by omega)]; omega
    have hwr2 : wrap64 ((S1 : Int) + (sizeT S2 : Int)) = (Bq : Int) := by rw [IntWalk.wrap64_in _ (by omega)]; omega
    clear hA2 hle1 hle2
    clear h4 b5 n5 hN4 c0 c1 c2 c3 r0 r1 rf
    go_wp2_with fail
    refine hcall.mono ?_
    rintro e w6 ⟨rfl, h6⟩
    have HN6 : Hid (w6.heap[W.heap.size + 1]? = some (.cells #[.int .i64 0, .int .i64 0] 40 (0, 0))) := Lib.hid ((h6.block _ (Array.getElem?_eq_some_iff.1 HN5.out).1).trans HN5.out)
    have r0 : w6.cell? ⟨W.heap.size + 1, 0, none⟩ = some (.int .i64 0) := by rw [cellH HN6.out]; rfl
    have r1 : w6.cell? ⟨W.heap.size + 1, 1, none⟩ = some (.int .i64 0) := by rw [cellH HN6.out]; rfl
    have rf : ∀ o, w6.frozen? ⟨W.heap.size + 1, o, none⟩ = false := fun o => Lib.frozen_of_heap HN6.out o
    obtain ⟨V, hV⟩ : ∃ V, (w6.setCell ⟨W.heap.size + 1, 0, none⟩ (.int .i64 S1)).setCell ⟨W.heap.size + 1, 1, none⟩ (.int .i64 Bq) = V := ⟨_, rfl⟩
    have hVR : V.heap[W.heap.size + 1]? = some (.cells #[.int .i64 S1, .int .i64 Bq] 40 (0, 0)) := by rw [← hV]; exact span_put HN6.out rfl
    have HVB : Hid (Below W.heap.size W V) := Lib.hid (by rw [← hV]; exact ((HB5.out.trans (h6.mono HB5.out.size)).setCell (p := ⟨W.heap.size + 1, 0, none⟩) (by show W.heap.size ≤ W.heap.size + 1; omega) _).setCell (p := ⟨W.heap.size + 1, 1, none⟩) (by show W.heap.size ≤ W.heap.size + 1; omega) _)
    have v0 : V.cell? ⟨W.heap.size + 1, 0, none⟩ = some (.int .i64 S1) := by rw [cellH hVR]; rfl
    have v1 : V.cell? ⟨W.heap.size + 1, 1, none⟩ = some (.int .i64 Bq) := by rw [cellH hVR]; rfl
    clear hVR h6 hcall q0 q1 q2 q3
    go_wp2
    exact bodyPost_ret (v := .tuple #[.agg #[.int .i64 S1, .int .i64 Bq], .int .i64 0]) (by simp [results, Tryz.results15, go_sem, v0, v1]) rfl ⟨rfl, HVB.out⟩
set_option maxRecDepth 100000 in
set_option maxHeartbeats 4000000 in
theorem gown_any (x : T) (l : List Int) (W : World) (p : Option Addr) (c : Nat) (v : Value) (hx : NAt AnyB W x (cellsN x p c)) (hl : PaAt W v l) (hlen : l.length ≤ 1000000) (hc : countT x ≤ 100000) (hs : sizeT x ≤ 100000000) :
    Calls Tryz.prog 16 #[aggN x p c, v] W (SpanEnd (ownA x l) W) := by
  have hl' := hl
  obtain ⟨_, pl, cl, rfl, _⟩ := hl'
  obtain ⟨w1, hw1⟩ : ∃ w, W.alloc (.cells #[.int .u8 x.kind, .int .u8 x.tok.1, .string ⟨x.tok.2.toArray⟩, .slice p x.kids.length c] 27) = w := ⟨_, rfl⟩
  have n1 : w1.heap[W.heap.size]? = some (boxN x p c) := by rw [← hw1]; exact World.alloc_heap_new W _
  have b1 : Below W.heap.size W w1 := by rw [← hw1]; exact galloc (Below.refl _ _) _
  have z1 : w1.heap.size = W.heap.size + 1 := by rw [← hw1]; simp
  obtain ⟨w2, hw2⟩ : ∃ w, w1.alloc (.cells #[.int .i64 0, .int .i64 0] 40) = w := ⟨_, rfl⟩
  have n2 : w2.heap[W.heap.size + 1]? = some (.cells #[.int .i64 0, .int .i64 0] 40 (0, 0)) := by rw [← hw2, ← z1]; exact World.alloc_heap_new w1 _
  have n12 : w2.heap[W.heap.size]? = some (boxN x p c) := by rw [← hw2]; exact ((galloc (Below.refl w1.heap.size w1) _).block _ (by omega)).trans n1
  have b2 : Below W.heap.size W w2 := by rw [← hw2]; exact galloc b1 _
  have hr := reach_any x l w2 W.heap.size 0 p c (.slice pl l.length cl) (box4 n12) (hx.below b2) (hl.below b2) hlen
  have HR := Lib.hid hr
  have HB := Lib.hid b2
  have HL := Lib.hid (hl.below b2)
  have HX := Lib.hid (hx.below b2)
  obtain ⟨c0, c1, c2, c3⟩ := box4 n12
  have HN1 := Lib.hid n12
  have HN2 := Lib.hid n2
  have r0 : w2.cell? ⟨W.heap.size + 1, 0, none⟩ = some (.int .i64 0) := by rw [cellH n2]; rfl
  have r1 : w2.cell? ⟨W.heap.size + 1, 1, none⟩ = some (.int .i64 0) := by rw [cellH n2]; rfl
  have rf : ∀ o, w2.frozen? ⟨W.heap.size + 1, o, none⟩ = false := fun o => Lib.frozen_of_heap n2 o
  clear hl hx hr b2 n12 n2 b1 n1
  cases hat : atT x l with
  | none =>
    rw [ownA_none hat]
    have HR2 : Hid (Calls Tryz.prog 33 #[.pointer (some ⟨W.heap.size, 0, none⟩), .slice pl l.length cl] w2 fun e w' => w' = w2 ∧ e = .returned (.pointer none)) := Lib.hid (HR.out.mono fun e w' ⟨h1, h2⟩ => ⟨h1, by
      rcases h2 with ⟨h3, _⟩ | ⟨y, g, o, p, c, h3, h4, _⟩
      · exact h3
      · rw [hat] at h4; cases h4⟩)
    obtain ⟨V, hV⟩ : ∃ V, (w2.setCell ⟨W.heap.size + 1, 0, none⟩ (.int .i64 0)).setCell ⟨W.heap.size + 1, 1, none⟩ (.int .i64 0) = V := ⟨_, rfl⟩
    have hVR : V.heap[W.heap.size + 1]? = some (.cells #[.int .i64 0, .int .i64 0] 40 (0, 0)) := by rw [← hV]; exact span_put HN2.out rfl
    have HVB : Hid (Below W.heap.size W V) := Lib.hid (by rw [← hV]; exact (HB.out.setCell (p := ⟨W.heap.size + 1, 0, none⟩) (by show W.heap.size ≤ W.heap.size + 1; omega) _).setCell (p := ⟨W.heap.size + 1, 1, none⟩) (by show W.heap.size ≤ W.heap.size + 1; omega) _)
    have v0 : V.cell? ⟨W.heap.size + 1, 0, none⟩ = some (.int .i64 0) := by rw [cellH hVR]; rfl
    have v1 : V.cell? ⟨W.heap.size + 1, 1, none⟩ = some (.int .i64 0) := by rw [cellH hVR]; rfl
    clear hVR hat HR HL HX
    go_enter Tryz.func16, Tryz.ntmps16
    go_wp2_with fail
    refine HR2.out.mono ?_
    rintro e w' ⟨rfl, rfl⟩
    go_wp2
    exact bodyPost_ret (v := .tuple #[.agg #[.int .i64 0, .int .i64 0], .int .i64 5]) (by simp [results, Tryz.results16, go_sem, v0, v1]) rfl ⟨rfl, HVB.out⟩
  | some z =>
    rw [ownA_some hat]
    obtain ⟨A, Bq, hAB⟩ : ∃ A Bq, ownT x l = (A, Bq) := ⟨_, _, rfl⟩
    rw [hAB]
    obtain ⟨hle1, hle2⟩ := show_le l x z hat
    have HR2 : Hid (Calls Tryz.prog 33 #[.pointer (some ⟨W.heap.size, 0, none⟩), .slice pl l.length cl] w2 fun e w' => w' = w2 ∧ ∃ g o, e = .returned (.pointer (some ⟨g, o, none⟩))) := Lib.hid (HR.out.mono fun e w' ⟨h1, h2⟩ => ⟨h1, by
      rcases h2 with ⟨_, h3⟩ | ⟨y, g, o, p, c, h3, _⟩
      · rw [hat] at h3; cases h3
      · exact ⟨g, o, h3⟩⟩)
    have HS := Lib.hid (shown_any x l w2 p c (.slice pl l.length cl) z HX.out HL.out hlen hat hc hs)
    obtain ⟨S1, S2, hS⟩ : ∃ S1 S2, showT x l = (S1, S2) := ⟨_, _, rfl⟩
    rw [hS] at HS hle1 hle2
    dsimp only at HS hle1 hle2
    have HAB := Lib.hid hAB
    have HSS := Lib.hid hS
    clear HR HL HX hat hAB hS
    go_enter Tryz.func16, Tryz.ntmps16
    go_wp2_with fail
    refine HR2.out.mono ?_
    rintro e w' ⟨rfl, g, o, rfl⟩
    go_wp2_with fail
    refine HS.out.mono ?_
    rintro e w4 ⟨ps, cs, rfl, hN4, h4⟩
    obtain ⟨w5, hw5⟩ : ∃ w, w4.alloc (.cells #[.int .u8 S2.kind, .int .u8 S2.tok.1, .string ⟨S2.tok.2.toArray⟩, .slice ps S2.kids.length cs] 27) = w := ⟨_, rfl⟩
    have n5 : w5.heap[w4.heap.size]? = some (boxN S2 ps cs) := by rw [← hw5]; exact World.alloc_heap_new w4 _
    have b5 : Below w4.heap.size w4 w5 := by rw [← hw5]; exact galloc (Below.refl _ _) _
    obtain ⟨q0, q1, q2, q3⟩ := box4 n5
    have HB5 := Lib.hid (HB.out.trans ((h4.trans (b5.mono h4.size)).mono HB.out.size))
    have HN5 : Hid (w5.heap[W.heap.size + 1]? = some (.cells #[.int .i64 0, .int .i64 0] 40 (0, 0))) := Lib.hid (((h4.trans (b5.mono h4.size)).block _ (Array.getElem?_eq_some_iff.1 HN2.out).1).trans HN2.out)
    have hA : (ownR S1 (leafToks S2)).1 = A ∧ (ownR S1 (leafToks S2)).2 = Bq := by
      have h := HAB.out
      unfold ownT at h
      rw [HSS.out] at h
      exact ⟨congrArg Prod.fst h, congrArg Prod.snd h⟩
    have hcall := own_any S2 ps cs S1 w5 (hN4.below b5) (by omega) (by omega)
    rw [hA.1, hA.2] at hcall
    clear hA hle1 hle2
    clear h4 b5 n5 hN4 c0 c1 c2 c3 r0 r1 rf
    go_wp2_with fail
    refine hcall.mono ?_
    rintro e w6 ⟨rfl, h6⟩
    have HN6 : Hid (w6.heap[W.heap.size + 1]? = some (.cells #[.int .i64 0, .int .i64 0] 40 (0, 0))) := Lib.hid ((h6.block _ (Array.getElem?_eq_some_iff.1 HN5.out).1).trans HN5.out)
    have r0 : w6.cell? ⟨W.heap.size + 1, 0, none⟩ = some (.int .i64 0) := by rw [cellH HN6.out]; rfl
    have r1 : w6.cell? ⟨W.heap.size + 1, 1, none⟩ = some (.int .i64 0) := by rw [cellH HN6.out]; rfl
    have rf : ∀ o, w6.frozen? ⟨W.heap.size + 1, o, none⟩ = false := fun o => Lib.frozen_of_heap HN6.out o
    obtain ⟨V, hV⟩ : ∃ V, (w6.setCell ⟨W.heap.size + 1, 0, none⟩ (.int .i64 A)).setCell ⟨W.heap.size + 1, 1, none⟩ (.int .i64 Bq) = V := ⟨_, rfl⟩
    have hVR : V.heap[W.heap.size + 1]? = some (.cells #[.int .i64 A, .int .i64 Bq] 40 (0, 0)) := by rw [← hV]; exact span_put HN6.out rfl
    have HVB : Hid (Below W.heap.size W V) := Lib.hid (by rw [← hV]; exact ((HB5.out.trans (h6.mono HB5.out.size)).setCell (p := ⟨W.heap.size + 1, 0, none⟩) (by show W.heap.size ≤ W.heap.size + 1; omega) _).setCell (p := ⟨W.heap.size + 1, 1, none⟩) (by show W.heap.size ≤ W.heap.size + 1; omega) _)
    have v0 : V.cell? ⟨W.heap.size + 1, 0, none⟩ = some (.int .i64 A) := by rw [cellH hVR]; rfl
    have v1 : V.cell? ⟨W.heap.size + 1, 1, none⟩ = some (.int .i64 Bq) := by rw [cellH hVR]; rfl
    clear hVR h6 hcall q0 q1 q2 q3
    go_wp2
    exact bodyPost_ret (v := .tuple #[.agg #[.int .i64 A, .int .i64 Bq], .int .i64 0]) (by simp [results, Tryz.results16, go_sem, v0, v1]) rfl ⟨rfl, HVB.out⟩
end Go.Proofs.YtingfomfibhnhaaGreatDoor
