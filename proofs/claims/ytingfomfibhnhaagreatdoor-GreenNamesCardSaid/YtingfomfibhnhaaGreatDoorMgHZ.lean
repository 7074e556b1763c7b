/-
  Put.
-/
import Derived.Test.YtingfomfibhnhaaGreatDoorMgHU
import Derived.Test.YtingfomfibhnhaaGreatDoorMgGZ
namespace Go.Proofs.YtingfomfibhnhaaGreatDoor
open Go.RowKit Go.Shelf Go.Maps

theorem NodeAt.below {W W' : World} {g o : Nat} {x : T} {p : Option Addr} {c : Nat} (h : NodeAt W g o x p c) (hb : Below W.heap.size W W') : NodeAt W' g o x p c :=
  ⟨cell_in hb h.1, cell_in hb h.2.1, cell_in hb h.2.2.1, cell_in hb h.2.2.2⟩
theorem Plc.below {W W' : World} (hb : Below W.heap.size W W') : ∀ (l : List Int) (x : T) (p : Option Addr) (g0 o0 g o : Nat), Plc W x p l g0 o0 g o → Plc W' x p l g0 o0 g o
  | [], x, p, g0, o0, g, o, h => by unfold Plc at h ⊢; exact h
  | i :: l, x, p, g0, o0, g, o, h => by
    unfold Plc at h ⊢
    obtain ⟨j, hj, g1, o1, p1, c1, e1, e2, e3, e4⟩ := h
    exact ⟨j, hj, g1, o1, p1, c1, e1, e2, e3.below hb, Plc.below hb l _ _ _ _ _ _ e4⟩
/-- The row in which the place lies. -/
theorem place_row {w : World} {g o : Nat} : ∀ (l : List Int) (x : T) (i : Int) (lo hi : Nat) (p : Option Addr) (c G O : Nat), NIn w lo hi x (cellsN x p c) → Plc w x p (i :: l) G O g o →
    (lo ≤ g ∧ g < hi) ∧ ∃ v1 a v2 : List Value, a.length = 4 ∧ o = v1.length ∧ w.heap[g]? = some (.cells (v1 ++ (a ++ v2)).toArray 27 (0, 0))
  | l, .mk k t ks, i, lo, hi, p, c, G, O, hN, hP => by
    unfold Plc at hP
    obtain ⟨j, hj, g1, o1, p1, c1, rfl, rfl, hnode, hP⟩ := hP
    have hj : j < ks.length := hj
    unfold NIn at hN
    obtain ⟨p2, c2, vs, he, hN⟩ := hN
    simp only [cellsN, T.kind, T.tok, T.kids, List.cons.injEq, Value.slice.injEq, true_and, and_true] at he
    obtain ⟨rfl, rfl⟩ := he
    rcases hN with ⟨rfl, _⟩ | ⟨g2, hp2, rfl, e3, e4, e5, e6⟩
    · exact absurd hj (by simp)
    simp only [Option.some.injEq, Addr.mk.injEq, and_true] at hp2
    obtain ⟨rfl, rfl⟩ := hp2
    simp only [kids_mk] at hnode hP
    obtain ⟨v1, a, v2, m1, m2, rfl, f1, f2, f3, f4, f5, f6, f7⟩ := e6.part ks _ _ j vs hj
    obtain ⟨p3, c3, rfl⟩ := f6.four
    have hpc : p3 = p1 ∧ c3 = c1 := by
      have h3 := hnode.2.2.2
      rw [cellH e5, List.getElem?_toArray, List.getElem?_append_right (by omega)] at h3
      rw [show 0 + j * 4 + 3 - v1.length = 3 by omega] at h3
      simp only [cellsN, List.cons_append, List.getElem?_cons_succ, List.getElem?_cons_zero, Option.some.injEq, Value.slice.injEq, true_and] at h3
      exact h3
    obtain ⟨rfl, rfl⟩ := hpc
    cases l with
    | nil =>
      unfold Plc at hP
      obtain ⟨rfl, rfl⟩ := hP
      exact ⟨⟨e3, e4⟩, v1, _, v2, rfl, by omega, e5⟩
    | cons i2 l2 =>
      obtain ⟨⟨h1, h2⟩, h3⟩ := place_row l2 (ks[j]'hj) i2 m1 m2 p3 c3 g1 (0 + j * 4) f6 hP
      exact ⟨⟨by omega, by omega⟩, h3⟩
abbrev put4 (w : World) (g o : Nat) (a b c d : Value) : World := (((w.setCell ⟨g, o, none⟩ a).setCell ⟨g, o + 1, none⟩ b).setCell ⟨g, o + 2, none⟩ c).setCell ⟨g, o + 3, none⟩ d
theorem put4_row {w : World} {g o : Nat} {a b c d : Value} {v1 q v2 : List Value} (hq : q.length = 4) (ho : o = v1.length) (h : w.heap[g]? = some (.cells (v1 ++ (q ++ v2)).toArray 27 (0, 0))) :
    (put4 w g o a b c d).heap[g]? = some (.cells (v1 ++ ([a, b, c, d] ++ v2)).toArray 27 (0, 0)) := by
  match q, hq with
  | [q0, q1, q2, q3], _ =>
    have h6 := heap_setCell_same _ _ (o + 3) _ _ d (heap_setCell_same _ _ (o + 2) _ _ c (heap_setCell_same _ _ (o + 1) _ _ b (heap_setCell_same _ _ o _ _ a h)))
    show (put4 w g o a b c d).heap[g]? = _
    rw [h6]
    simp only [List.setIfInBounds_toArray, List.cons_append, List.nil_append]
    rw [set_at4 _ _ _ _ _ _ _ _ _ _ _ ho.symm]
theorem put4_other {w : World} {g o : Nat} (a b c d : Value) (k : Nat) (hk : k ≠ g) : (put4 w g o a b c d).heap[k]? = w.heap[k]? := by
  unfold put4
  rw [heap_setCell_other _ ⟨g, o + 3, none⟩ k d hk, heap_setCell_other _ ⟨g, o + 2, none⟩ k c hk, heap_setCell_other _ ⟨g, o + 1, none⟩ k b hk, heap_setCell_other _ ⟨g, o, none⟩ k a hk]
theorem put4_size {w : World} {g o : Nat} (a b c d : Value) : (put4 w g o a b c d).heap.size = w.heap.size := by unfold put4; simp
theorem put4_below {w0 w : World} {n g o : Nat} (h : Below n w0 w) (hg : n ≤ g) (a b c d : Value) : Below n w0 (put4 w g o a b c d) :=
  (((h.setCell (p := ⟨g, o, none⟩) hg _).setCell (p := ⟨g, o + 1, none⟩) hg _).setCell (p := ⟨g, o + 2, none⟩) hg _).setCell (p := ⟨g, o + 3, none⟩) hg _
/-- What stands once four cells are written at the place. -/
theorem put_place {V : World} {x m : T} {l : List Int} {lo GB g o hm : Nat} {p p9 : Option Addr} {c c9 : Nat}
    (hbox : V.heap[GB]? = some (boxN x p c)) (hN : NIn V lo GB x (cellsN x p c)) (hlo : lo ≤ GB) (hP : Plc V x p l GB 0 g o) (hM : NIn V hm V.heap.size m (cellsN m p9 c9)) (hmg : GB < hm) :
    ((∀ o, V.frozen? ⟨g, o, none⟩ = false) ∧ lo ≤ g) ∧ ∃ (P : Option Addr) (C : Nat), (put4 V g o (.int .u8 m.kind) (.int .u8 m.tok.1) (.string ⟨m.tok.2.toArray⟩) (.slice p9 m.kids.length c9)).heap[GB]? = some (boxN (putT x l m) P C) ∧
      NAt (fun k => lo ≤ k) (put4 V g o (.int .u8 m.kind) (.int .u8 m.tok.1) (.string ⟨m.tok.2.toArray⟩) (.slice p9 m.kids.length c9)) (putT x l m) (cellsN (putT x l m) P C) := by
  have hGB : GB < V.heap.size := (Array.getElem?_eq_some_iff.1 hbox).1
  cases l with
  | nil =>
    unfold Plc at hP
    obtain ⟨rfl, rfl⟩ := hP
    refine ⟨⟨fun o => Lib.frozen_of_heap hbox o, hlo⟩, p9, c9, ?_, ?_⟩
    · exact box_put hbox rfl
    · have e : putT x [] m = m := by unfold putT; rfl
      rw [e]
      exact NAt.mono (fun k _ h => by have := h.1; show lo ≤ k; omega) _ _ (NIn.at _ _ _ _ (NIn.world _ _ _ _ (fun k h1 h2 => put4_other _ _ _ _ k (by omega)) hM))
  | cons i l =>
    obtain ⟨⟨h1, h2⟩, v1, a, v2, h3, h4, h5⟩ := place_row l x i lo GB p c GB 0 hN hP
    have hMA : NAt (fun k => lo ≤ k) (put4 V g o (.int .u8 m.kind) (.int .u8 m.tok.1) (.string ⟨m.tok.2.toArray⟩) (.slice p9 m.kids.length c9)) m (cellsN m p9 c9) :=
      NAt.mono (fun k _ h => by have := h.1; show lo ≤ k; omega) _ _ (NIn.at _ _ _ _ (NIn.world _ _ _ _ (fun k h1 h2 => put4_other _ _ _ _ k (by omega)) hM))
    have hd := put_deep (w := V) (g := g) (o := o) hMA (fun k hk hkg => put4_other _ _ _ _ k hkg) (fun v1 a v2 ha hb ho => put4_row ha ho hb) l x i lo GB p c GB 0 (Nat.le_of_lt hGB) (Nat.le_refl _) hN hP
    refine ⟨⟨fun o => Lib.frozen_of_heap h5 o, h1⟩, p, c, ?_, ?_⟩
    · rw [put4_other _ _ _ _ GB (by omega), hbox]
      obtain ⟨k, t, ks⟩ := x
      unfold Plc at hP
      obtain ⟨j, hj, _, _, _, _, rfl, _⟩ := hP
      rw [putT_in k t ks j l m hj]
      simp only [boxN, T.kind, T.tok, T.kids, List.length_set]
    · obtain ⟨k, t, ks⟩ := x
      unfold Plc at hP
      obtain ⟨j, hj, _, _, _, _, rfl, _⟩ := hP
      have e := hd.2
      rw [putT_in k t ks j l m hj] at e ⊢
      simp only [cellsN, T.kind, T.tok, T.kids, List.length_set] at e ⊢
      exact e
/-- What Put ends in. -/
def PutEnd (W : World) (r : Option T) (e : Ending) (w' : World) : Prop := Below W.heap.size W w' ∧
  ((r = none ∧ e = .returned (.tuple #[zeroA, .int .i64 5])) ∨ ∃ (z : T) (p : Option Addr) (c : Nat), r = some z ∧ e = .returned (.tuple #[aggN z p c, .int .i64 0]) ∧ NAt (fun k => W.heap.size ≤ k) w' z (cellsN z p c))
def putR (x : T) (l : List Int) (m : T) : Option T := match atT x l with
  | none => none
  | some _ => some (putT x l m)
/-- All that is asked once the four cells are written. -/
def PutFin (W : World) (R GB : Nat) (z m : T) (w : World) (g o : Nat) (p9 : Option Addr) (c9 : Nat) : Prop :=
  Below W.heap.size W (put4 w g o (.int .u8 m.kind) (.int .u8 m.tok.1) (.string ⟨m.tok.2.toArray⟩) (.slice p9 m.kids.length c9)) ∧
  (put4 w g o (.int .u8 m.kind) (.int .u8 m.tok.1) (.string ⟨m.tok.2.toArray⟩) (.slice p9 m.kids.length c9)).heap[R]? = some (.cells #[.int .u8 0, .int .u8 0, .string ⟨#[]⟩, .slice none 0 0] 27 (0, 0)) ∧
  ∃ (P : Option Addr) (C : Nat), (put4 w g o (.int .u8 m.kind) (.int .u8 m.tok.1) (.string ⟨m.tok.2.toArray⟩) (.slice p9 m.kids.length c9)).heap[GB]? = some (boxN z P C) ∧
      NAt (fun k => R < k) (put4 w g o (.int .u8 m.kind) (.int .u8 m.tok.1) (.string ⟨m.tok.2.toArray⟩) (.slice p9 m.kids.length c9)) z (cellsN z P C)
def PutCells (w : World) (g o : Nat) : Prop := ∃ q0 q1 q2 q3, w.cell? ⟨g, o, none⟩ = some q0 ∧ w.cell? ⟨g, o + 1, none⟩ = some q1 ∧ w.cell? ⟨g, o + 2, none⟩ = some q2 ∧ w.cell? ⟨g, o + 3, none⟩ = some q3
set_option maxRecDepth 100000 in
set_option maxHeartbeats 8000000 in
theorem Put_any (x m : T) (l : List Int) (W : World) (p p2 : Option Addr) (c c2 : Nat) (v : Value) (hx : NAt AnyB W x (cellsN x p c)) (hm : NAt AnyB W m (cellsN m p2 c2)) (hl : PaAt W v l) (hlen : l.length ≤ 1000000) (hcx : countT x ≤ 1000000 ∧ shortT x) (hcm : countT m ≤ 1000000 ∧ shortT m) :
    Calls Tryz.prog 17 #[aggN x p c, v, aggN m p2 c2] W (PutEnd W (putR x l m)) := by
  have hl' := hl
  obtain ⟨_, pl, cl, rfl, _⟩ := hl'
  obtain ⟨w1, hw1⟩ : ∃ w, W.alloc (.cells #[.int .u8 x.kind, .int .u8 x.tok.1, .string ⟨x.tok.2.toArray⟩, .slice p x.kids.length c] 27) = w := ⟨_, rfl⟩
  have n1 : w1.heap[W.heap.size]? = some (boxN x p c) := by rw [← hw1]; exact World.alloc_heap_new W _
  have b1 : Below W.heap.size W w1 := by rw [← hw1]; exact galloc (Below.refl _ _) _
  have z1 : w1.heap.size = W.heap.size + 1 := by rw [← hw1]; simp
  obtain ⟨w2, hw2⟩ : ∃ w, w1.alloc (.cells #[.int .u8 m.kind, .int .u8 m.tok.1, .string ⟨m.tok.2.toArray⟩, .slice p2 m.kids.length c2] 27) = w := ⟨_, rfl⟩
  have n2 : w2.heap[W.heap.size + 1]? = some (boxN m p2 c2) := by rw [← hw2, ← z1]; exact World.alloc_heap_new w1 _
  have b12 : Below w1.heap.size w1 w2 := by rw [← hw2]; exact galloc (Below.refl _ _) _
  have z2 : w2.heap.size = W.heap.size + 2 := by rw [← hw2]; simp [z1]
  obtain ⟨w3, hw3⟩ : ∃ w, w2.alloc (.cells #[.int .u8 0, .int .u8 0, .string ⟨#[]⟩, .slice none 0 0] 27) = w := ⟨_, rfl⟩
  have n3 : w3.heap[W.heap.size + 2]? = some (.cells #[.int .u8 0, .int .u8 0, .string ⟨#[]⟩, .slice none 0 0] 27 (0, 0)) := by rw [← hw3, ← z2]; exact World.alloc_heap_new w2 _
  have b23 : Below w2.heap.size w2 w3 := by rw [← hw3]; exact galloc (Below.refl _ _) _
  have z3 : w3.heap.size = W.heap.size + 3 := by rw [← hw3]; simp [z2]
  have n31 : w3.heap[W.heap.size]? = some (boxN x p c) := (b23.block _ (by omega)).trans ((b12.block _ (by omega)).trans n1)
  have n32 : w3.heap[W.heap.size + 1]? = some (boxN m p2 c2) := (b23.block _ (by omega)).trans n2
  have b2 : Below W.heap.size W w2 := gcall b1 b12
  have b3 : Below W.heap.size W w3 := gcall b2 b23
  have hr := reach_any x l w3 W.heap.size 0 p c (.slice pl l.length cl) (box4 n31) (hx.below b3) (hl.below b3) hlen
  have HX3 := Lib.hid (hx.below b3)
  have HM3 := Lib.hid (hm.below b3)
  have HL3 := Lib.hid (hl.below b3)
  have HR := Lib.hid hr
  have HB := Lib.hid b3
  have HN31 := Lib.hid n31
  have HN32 := Lib.hid n32
  have HN3 := Lib.hid n3
  have HZ3 := Lib.hid z3
  clear hl hx hm hr b3 b2 n31 n32 n1 n2 b1 b12 b23 z3
  obtain ⟨r0, r1, r2, r3⟩ := box4 n3
  have rf : ∀ o, w3.frozen? ⟨W.heap.size + 2, o, none⟩ = false := fun o => Lib.frozen_of_heap n3 o
  clear n3
  cases hat : atT x l with
  | none =>
    have hp : putR x l m = none := by unfold putR; rw [hat]
    rw [hp]
    have HR2 : Hid (Calls Tryz.prog 33 #[.pointer (some ⟨W.heap.size, 0, none⟩), .slice pl l.length cl] w3 fun e w' => w' = w3 ∧ e = .returned (.pointer none)) := Lib.hid (HR.out.mono fun e w' ⟨h1, h2⟩ => ⟨h1, by
      rcases h2 with ⟨h3, _⟩ | ⟨y, g, o, p, c, h3, h4, _⟩
      · exact h3
      · rw [hat] at h4; cases h4⟩)
    have hbox := box_put (a := .int .u8 0) (b := .int .u8 0) (c := .string ⟨#[]⟩) (d := .slice none 0 0) HN3.out rfl
    have hbl := put_below HB.out (show W.heap.size ≤ W.heap.size + 2 by omega) (.int .u8 0) (.int .u8 0) (.string ⟨#[]⟩) (.slice none 0 0)
    have HE := Lib.hid (And.intro hbox hbl)
    clear hat HR hp hbox hbl
    go_enter Tryz.func17, Tryz.ntmps17
    go_wp2_with fail
    refine HR2.out.mono ?_
    rintro e w' ⟨rfl, rfl⟩
    go_wp2
    obtain ⟨c0, c1, c2, c3⟩ := box4 HE.out.1
    exact bodyPost_ret (v := .tuple #[zeroA, .int .i64 5]) (by simp [results, Tryz.results17, go_sem, c0, c1, c2, c3]) rfl ⟨HE.out.2, .inl ⟨rfl, rfl⟩⟩
  | some z =>
    have hp : putR x l m = some (putT x l m) := by unfold putR; rw [hat]
    rw [hp]
    have HR2 : Hid (Calls Tryz.prog 33 #[.pointer (some ⟨W.heap.size, 0, none⟩), .slice pl l.length cl] w3 fun e w' => w' = w3 ∧ ∃ g o, e = .returned (.pointer (some ⟨g, o, none⟩))) := Lib.hid (HR.out.mono fun e w' ⟨h1, h2⟩ => ⟨h1, by
      rcases h2 with ⟨_, h3⟩ | ⟨y, g, o, p, c, h3, h4, h5, h6⟩
      · rw [hat] at h3; cases h3
      · exact ⟨g, o, h3⟩⟩)
    have HAT := Lib.hid hat
    have hcp := copied_any x p c w3 HX3.out hcx.1 hcx.2
    obtain ⟨a0, a1, a2, a3⟩ := box4 HN31.out
    clear hat HR hp hcx
    go_enter Tryz.func17, Tryz.ntmps17
    go_wp2_with fail
    refine HR2.out.mono ?_
    rintro e w' ⟨rfl, g0, o0, rfl⟩
    go_wp2_with fail
    refine hcp.mono ?_
    rintro e w5 ⟨p5, c5, rfl, hN5, hb5⟩
    obtain ⟨V, hV⟩ : ∃ V, w5.alloc (.cells #[.int .u8 x.kind, .int .u8 x.tok.1, .string ⟨x.tok.2.toArray⟩, .slice p5 x.kids.length c5] 27) = V := ⟨_, rfl⟩
    have nV : V.heap[w5.heap.size]? = some (boxN x p5 c5) := by rw [← hV]; exact World.alloc_heap_new w5 _
    have bV : Below w5.heap.size w5 V := by rw [← hV]; exact galloc (Below.refl _ _) _
    have zV : V.heap.size = w5.heap.size + 1 := by rw [← hV]; simp
    obtain ⟨GB, hGB⟩ : ∃ GB, w5.heap.size = GB := ⟨_, rfl⟩
    have b3V : Below w'.heap.size w' V := gcall hb5 bV
    rw [hGB] at nV zV
    have hNV : NIn V w'.heap.size GB x (cellsN x p5 c5) := by
      rw [← hGB]
      exact NIn.world _ _ _ _ (fun k h1 h2 => bV.block k h2) hN5
    have hmV := HM3.out.below b3V
    have hlV := HL3.out.below b3V
    have hboxM : V.heap[W.heap.size + 1]? = some (boxN m p2 c2) := (b3V.block _ (by have := HZ3.out; omega)).trans HN32.out
    have hboxR : V.heap[W.heap.size + 2]? = some (.cells #[.int .u8 0, .int .u8 0, .string ⟨#[]⟩, .slice none 0 0] 27 (0, 0)) := (b3V.block _ (by have := HZ3.out; omega)).trans HN3.out
    have hloG : w'.heap.size ≤ GB := by rw [← hGB]; exact hb5.size
    have hdb : Below V.heap.size V V.drew := (Below.refl _ _).drew
    have hxN : NAt AnyB V x (cellsN x p5 c5) := (NIn.at _ _ _ _ hNV).any
    have hWV : Below W.heap.size W V := gcall HB.out b3V
    have hz3 := HZ3.out
    have FIN : ∀ (wc : World) (g o : Nat) (p9 : Option Addr) (c9 : Nat), Below V.heap.size V wc → Plc wc x p5 l GB 0 g o → NIn wc V.heap.size wc.heap.size m (cellsN m p9 c9) →
        Hid (PutFin W (W.heap.size + 2) GB (putT x l m) m wc g o p9 c9) ∧ ∀ o, wc.frozen? ⟨g, o, none⟩ = false := by
      intro wc g o p9 c9 hb hP hM
      have hbx : wc.heap[GB]? = some (boxN x p5 c5) := (hb.block GB (by omega)).trans nV
      have hNc : NIn wc w'.heap.size GB x (cellsN x p5 c5) := NIn.world _ _ _ _ (fun k h1 h2 => hb.block k (by omega)) hNV
      obtain ⟨⟨h1, h2⟩, P, C, h3, h4⟩ := put_place hbx hNc hloG hP hM (by omega)
      refine ⟨Lib.hid ⟨put4_below (gcall hWV hb) (by omega) _ _ _ _, ?_, P, C, h3, NAt.mono (fun k _ (h : w'.heap.size ≤ k) => by show W.heap.size + 2 < k; omega) _ _ h4⟩, h1⟩
      rw [put4_other _ _ _ _ _ (by omega)]
      exact (hb.block _ (by omega)).trans hboxR
    have hnode : ∀ (wc : World), Below V.heap.size V wc → Calls Tryz.prog 33 #[.pointer (some ⟨GB, 0, none⟩), .slice pl l.length cl] wc fun e w'' => w'' = wc ∧ ∃ g o, e = .returned (.pointer (some ⟨g, o, none⟩)) ∧ PutCells wc g o ∧ Plc wc x p5 l GB 0 g o := by
      intro wc hb
      have hbx : wc.heap[GB]? = some (boxN x p5 c5) := (hb.block GB (by omega)).trans nV
      refine (place_any x l wc GB 0 p5 c5 (.slice pl l.length cl) (box4 hbx) (hxN.below hb) (hlV.below hb) hlen).mono ?_
      rintro e w'' ⟨h1, h2⟩
      refine ⟨h1, ?_⟩
      rcases h2 with ⟨_, h3⟩ | ⟨y, g, o, p, c, h3, h4, h5, h6, h7⟩
      · rw [HAT.out] at h3; cases h3
      · exact ⟨g, o, h3, ⟨_, _, _, _, h5⟩, h7⟩
    have hcop : Calls Tryz.prog 34 #[.agg #[.int .u8 m.kind, .int .u8 m.tok.1, .string ⟨m.tok.2.toArray⟩, .slice p2 m.kids.length c2]] V.drew fun e wc => ∃ p9 c9, e = .returned (.agg #[.int .u8 m.kind, .int .u8 m.tok.1, .string ⟨m.tok.2.toArray⟩, .slice p9 m.kids.length c9]) ∧ NIn wc V.heap.size wc.heap.size m (cellsN m p9 c9) ∧ Below V.heap.size V wc := by
      refine (copied_any m p2 c2 V.drew (hmV.below hdb) hcm.1 hcm.2).mono ?_
      rintro e wc ⟨p9, c9, h1, h2, h3⟩
      exact ⟨p9, c9, h1, h2, hdb.trans h3⟩
    have hr1 : Calls Tryz.prog 33 #[.pointer (some ⟨GB, 0, none⟩), .slice pl l.length cl] V.drew fun e w'' => w'' = V.drew ∧ ∃ g o, e = .returned (.pointer (some ⟨g, o, none⟩)) ∧ Hid (PutCells V.drew g o ∧ Plc V.drew x p5 l GB 0 g o) :=
      (hnode V.drew hdb).mono fun e w'' ⟨h1, g, o, h2, h3, h4⟩ => ⟨h1, g, o, h2, Lib.hid ⟨h3, h4⟩⟩
    have hc1 : Calls Tryz.prog 34 #[.agg #[.int .u8 m.kind, .int .u8 m.tok.1, .string ⟨m.tok.2.toArray⟩, .slice p2 m.kids.length c2]] V.drew fun e wc => ∃ p9 c9, e = .returned (.agg #[.int .u8 m.kind, .int .u8 m.tok.1, .string ⟨m.tok.2.toArray⟩, .slice p9 m.kids.length c9]) ∧ Hid (Below V.heap.size V wc ∧ NIn wc V.heap.size wc.heap.size m (cellsN m p9 c9)) :=
      hcop.mono fun e wc ⟨p9, c9, h1, h2, h3⟩ => ⟨p9, c9, h1, Lib.hid ⟨h3, h2⟩⟩
    have hc2 : ∀ g o, Hid (PutCells V.drew g o ∧ Plc V.drew x p5 l GB 0 g o) → Calls Tryz.prog 34 #[.agg #[.int .u8 m.kind, .int .u8 m.tok.1, .string ⟨m.tok.2.toArray⟩, .slice p2 m.kids.length c2]] V.drew fun e wc => ∃ p9 c9, e = .returned (.agg #[.int .u8 m.kind, .int .u8 m.tok.1, .string ⟨m.tok.2.toArray⟩, .slice p9 m.kids.length c9]) ∧
        ∃ q0 q1 q2 q3, wc.cell? ⟨g, o, none⟩ = some q0 ∧ wc.cell? ⟨g, o + 1, none⟩ = some q1 ∧ wc.cell? ⟨g, o + 2, none⟩ = some q2 ∧ wc.cell? ⟨g, o + 3, none⟩ = some q3 ∧ (∀ o, wc.frozen? ⟨g, o, none⟩ = false) ∧ Hid (PutFin W (W.heap.size + 2) GB (putT x l m) m wc g o p9 c9) := by
      intro g o hG
      obtain ⟨⟨q0, q1, q2, q3, h0, h1, h2, h3⟩, hP⟩ := hG.out
      refine hcop.mono ?_
      rintro e wc ⟨p9, c9, h4, h5, h6⟩
      have h6d : Below V.drew.heap.size V.drew wc := ⟨h6.os.trans hdb.os.symm, h6.tape.trans hdb.tape.symm, h6.output.trans hdb.output.symm, h6.size, h6.block⟩
      obtain ⟨f1, f2⟩ := FIN wc g o p9 c9 h6 (Plc.below h6d _ _ _ _ _ _ _ hP) h5
      exact ⟨p9, c9, h4, q0, q1, q2, q3, cell_in h6d h0, cell_in h6d h1, cell_in h6d h2, cell_in h6d h3, f2, f1⟩
    have hr2 : ∀ (wc : World) p9 c9, Hid (Below V.heap.size V wc ∧ NIn wc V.heap.size wc.heap.size m (cellsN m p9 c9)) → Calls Tryz.prog 33 #[.pointer (some ⟨GB, 0, none⟩), .slice pl l.length cl] wc fun e w'' => w'' = wc ∧ ∃ g o, e = .returned (.pointer (some ⟨g, o, none⟩)) ∧
        ∃ q0 q1 q2 q3, wc.cell? ⟨g, o, none⟩ = some q0 ∧ wc.cell? ⟨g, o + 1, none⟩ = some q1 ∧ wc.cell? ⟨g, o + 2, none⟩ = some q2 ∧ wc.cell? ⟨g, o + 3, none⟩ = some q3 ∧ (∀ o, wc.frozen? ⟨g, o, none⟩ = false) ∧ Hid (PutFin W (W.heap.size + 2) GB (putT x l m) m wc g o p9 c9) := by
      intro wc p9 c9 hG
      refine (hnode wc hG.out.1).mono ?_
      rintro e w'' ⟨h1, g, o, h2, ⟨q0, q1, q2, q3, h3, h4, h5, h6⟩, h7⟩
      obtain ⟨f1, f2⟩ := FIN wc g o p9 c9 hG.out.1 h7 hG.out.2
      exact ⟨h1, g, o, h2, q0, q1, q2, q3, h3, h4, h5, h6, f2, f1⟩
    obtain ⟨b0, b1, b2, b3⟩ := box4 hboxM
    clear hcp hN5 hb5 nV bV zV b3V hNV hmV hlV hboxM hboxR hloG hdb hxN hWV hz3 FIN hnode hcop HR2 a0 a1 a2 a3 r0 r1 r2 r3 rf hcm
    go_wp2_with fail
    go_region_with (first
      | (go_at_call 33; (with_reducible refine Calls.mono hr1 ?_); rintro e wA ⟨rfl, g, o, rfl, HG⟩)
      | (go_at_call 34; (with_reducible refine Calls.mono (hc2 _ _ HG) ?_); rintro e wc ⟨p9, c9, rfl, q0, q1, q2, q3, t0, t1, t2, t3, tf, HF⟩)
      | (go_at_call 34; (with_reducible refine Calls.mono hc1 ?_); rintro e wc ⟨p9, c9, rfl, HC⟩)
      | (go_at_call 33; (with_reducible refine Calls.mono (hr2 _ _ _ HC) ?_); rintro e wA ⟨rfl, g, o, rfl, q0, q1, q2, q3, t0, t1, t2, t3, tf, HF⟩))
    all_goals
      obtain ⟨HF1, HF2, P, C, HF3, HF4⟩ := HF.out
      dsimp only [put4] at HF1 HF2 HF3 HF4
      generalize (((wc.setCell ⟨g, o, none⟩ (.int .u8 m.kind)).setCell ⟨g, o + 1, none⟩ (.int .u8 m.tok.1)).setCell ⟨g, o + 2, none⟩ (.string ⟨m.tok.2.toArray⟩)).setCell ⟨g, o + 3, none⟩ (.slice p9 m.kids.length c9) = wp at *
      obtain ⟨e0, e1, e2, e3⟩ := box4 HF3
      obtain ⟨r0, r1, r2, r3⟩ := box4 HF2
      have rf : ∀ o, wp.frozen? ⟨W.heap.size + 2, o, none⟩ = false := fun o => Lib.frozen_of_heap HF2 o
      have hbox := box_put (a := .int .u8 (putT x l m).kind) (b := .int .u8 (putT x l m).tok.1) (c := .string ⟨(putT x l m).tok.2.toArray⟩) (d := .slice P (putT x l m).kids.length C) HF2 rfl
      have hbl := put_below HF1 (show W.heap.size ≤ W.heap.size + 2 by omega) (.int .u8 (putT x l m).kind) (.int .u8 (putT x l m).tok.1) (.string ⟨(putT x l m).tok.2.toArray⟩) (.slice P (putT x l m).kids.length C)
      have hna : NAt (fun k => W.heap.size ≤ k) ((((wp.setCell ⟨W.heap.size + 2, 0, none⟩ (.int .u8 (putT x l m).kind)).setCell ⟨W.heap.size + 2, 1, none⟩ (.int .u8 (putT x l m).tok.1)).setCell ⟨W.heap.size + 2, 2, none⟩ (.string ⟨(putT x l m).tok.2.toArray⟩)).setCell ⟨W.heap.size + 2, 3, none⟩ (.slice P (putT x l m).kids.length C)) (putT x l m) (cellsN (putT x l m) P C) :=
        NAt.mono (fun k _ (h : W.heap.size + 2 < k) => by show W.heap.size ≤ k; omega) _ _ (NAt.world ⟨by simp, fun k _ hk => put_other _ _ _ _ k (by have : W.heap.size + 2 < k := hk; omega)⟩ _ _ HF4)
      have HE := Lib.hid (And.intro hbox (And.intro hbl hna))
      clear hbox hbl hna HF HF1 HF2 HF3 HF4 hr1 hc1 hc2 hr2 t0 t1 t2 t3 tf b0 b1 b2 b3
      generalize putT x l m = z9 at *
      go_wp2
      obtain ⟨c0, c1, c2, c3⟩ := box4 HE.out.1
      exact bodyPost_ret (v := .tuple #[aggN z9 P C, .int .i64 0]) (by simp [results, Tryz.results17, go_sem, c0, c1, c2, c3]) rfl ⟨HE.out.2.1, .inr ⟨z9, P, C, rfl, rfl, HE.out.2.2⟩⟩
end Go.Proofs.YtingfomfibhnhaaGreatDoor
