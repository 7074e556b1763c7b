/-
  reach, with the place that it finds; four cells put there.
-/
import Derived.Test.YtingfomfibhnhaaGreatDoorMgHT
namespace Go.Proofs.YtingfomfibhnhaaGreatDoor
open Go.RowKit Go.Shelf Go.Maps

/-- From a node, whose four cells lie at the one place, a path leads to the other. -/
def Plc (W : World) : T → Option Addr → List Int → Nat → Nat → Nat → Nat → Prop
  | _, _, [], g0, o0, g, o => g = g0 ∧ o = o0
  | x, p, i :: l, _, _, g, o => ∃ (j : Nat) (hj : j < x.kids.length) (g1 o1 : Nat) (p1 : Option Addr) (c1 : Nat), i = (j : Int) ∧ p = some ⟨g1, o1, none⟩ ∧ NodeAt W g1 (o1 + j * 4) (x.kids[j]'hj) p1 c1 ∧ Plc W (x.kids[j]'hj) p1 l g1 (o1 + j * 4) g o
def PlaceEnd (x : T) (p0 : Option Addr) (l : List Int) (g0 o0 : Nat) (w : World) (e : Ending) (w' : World) : Prop := w' = w ∧ ((e = .returned (.pointer none) ∧ atT x l = none) ∨ ∃ y g o p c, e = .returned (.pointer (some ⟨g, o, none⟩)) ∧ atT x l = some y ∧ NodeAt w g o y p c ∧ NAt AnyB w y (cellsN y p c) ∧ Plc w x p0 l g0 o0 g o)
set_option maxRecDepth 100000 in
set_option maxHeartbeats 4000000 in
theorem place_any (x : T) (l : List Int) (W : World) (g0 o0 : Nat) (p0 : Option Addr) (c : Nat) (v : Value) (hn : NodeAt W g0 o0 x p0 c) (hx : NAt AnyB W x (cellsN x p0 c)) (hl : PaAt W v l) (hlen : l.length ≤ 1000000) :
    Calls Tryz.prog 33 #[.pointer (some ⟨g0, o0, none⟩), v] W (PlaceEnd x p0 l g0 o0 W) := by
  have hl' := hl
  obtain ⟨_, pl, cl, rfl, _⟩ := hl'
  have HI0 : Hid (NodeAt W g0 o0 x p0 c ∧ NAt AnyB W x (cellsN x p0 c) ∧ atT x l = atT x (l.drop 0) ∧ ∀ a b, Plc W x p0 (l.drop 0) g0 o0 a b → Plc W x p0 l g0 o0 a b) := Lib.hid ⟨hn, hx, rfl, fun a b h => h⟩
  have HL := Lib.hid hl
  clear hl hn hx
  go_enter Tryz.func33, Tryz.ntmps33
  go_wp2_with fail
  go_loopw [0, 6, 9] (fun t0 _ iv wr => ∃ (k : Nat) (y : T) (g o : Nat) (p : Option Addr) (c : Nat), k ≤ l.length ∧ iv = .int .i64 k ∧ t0 = .pointer (some ⟨g, o, none⟩) ∧ W = wr ∧ Hid (NodeAt W g o y p c ∧ NAt AnyB W y (cellsN y p c) ∧ atT x l = atT y (l.drop k) ∧ ∀ a b, Plc W y p (l.drop k) g o a b → Plc W x p0 l g0 o0 a b)) (fun _ _ iv _ => l.length - (intOf iv).toNat)
  case atStart => exact ⟨0, x, g0, o0, p0, c, by omega, rfl, rfl, rfl, HI0⟩
  case round =>
    clear HI0
    obtain ⟨k, y, g, o, p, c, hk, rfl, rfl, rfl, HI⟩ := hrel
    rcases Nat.lt_or_ge k l.length with hlt | hge
    · have hlt' : (k : Int) < (l.length : Int) := by omega
      have hwi : IntKind.i64.wrap ((k : Int) + 1) = ((k + 1 : Nat) : Int) := by rw [IntWalk.i64_in _ (by omega)]; omega
      obtain ⟨gl, ol, rfl, hcl⟩ := HL.out.cellAt (by omega)
      have hu := List.getElem?_eq_getElem hlt
      have e0 : W.cell? ⟨gl, ol + k, none⟩ = some (.int .i64 (l[k]'hlt)) := hcl k _ (by rw [List.getElem?_map, hu]; rfl)
      have hdr : l.drop k = l[k]'hlt :: l.drop (k + 1) := List.drop_eq_getElem_cons hlt
      have n3 := HI.out.1.2.2.2
      have hI3 := HI.out.2.2.1
      have hI4 := HI.out.2.2.2
      rw [hdr] at hI3 hI4
      generalize l[k]'hlt = i at *
      clear hu hcl hdr
      by_cases hneg : i < 0
      · have HE : Hid (atT x l = none) := Lib.hid (by rw [hI3, atT_neg y i _ hneg])
        clear hI3 hI4
        go_wp2
        go_ret
        exact ⟨rfl, .inl ⟨rfl, HE.out⟩⟩
      · obtain ⟨j, rfl⟩ := Int.eq_ofNat_of_zero_le (by omega : 0 ≤ i)
        have hneg' : ¬ (j : Int) < 0 := hneg
        rcases Nat.lt_or_ge j y.kids.length with hj | hj
        · have hj1 : ¬ (y.kids.length : Int) ≤ (j : Int) := by omega
          have hj2 : (j : Int) < (y.kids.length : Int) := by omega
          rw [atT_in y j _ hj] at hI3
          obtain ⟨g1, o1, p1, c1, rfl, hn1, hx1⟩ := node_kid HI.out.2.1 j hj
          have hI5 : ∀ a b, Plc W (y.kids[j]'hj) p1 (l.drop (k + 1)) g1 (o1 + j * 4) a b → Plc W x p0 l g0 o0 a b := fun a b h => hI4 a b ⟨j, hj, g1, o1, p1, c1, rfl, rfl, hn1, h⟩
          have HI2 := Lib.hid (And.intro hn1 (And.intro hx1 (And.intro hI3 hI5)))
          clear hI3 hI4 hI5 HI hn1 hx1
          go_wp2
          exact ⟨⟨k + 1, _, _, _, _, _, by omega, rfl, rfl, trivial, HI2⟩, by simp [intOf]; omega⟩
        · have hj1 : (y.kids.length : Int) ≤ (j : Int) := by omega
          have HE : Hid (atT x l = none) := Lib.hid (by rw [hI3, atT_far y j _ hj])
          clear hI3 hI4
          go_wp2
          go_ret
          exact ⟨rfl, .inl ⟨rfl, HE.out⟩⟩
    · obtain rfl : k = l.length := by omega
      have hlt' : ¬ (l.length : Int) < (l.length : Int) := by omega
      have hI := HI.out
      rw [List.drop_length] at hI
      have HE := Lib.hid (show atT x l = some y ∧ NodeAt W g o y p c ∧ NAt AnyB W y (cellsN y p c) ∧ Plc W x p0 l g0 o0 g o from ⟨by rw [hI.2.2.1]; rfl, hI.1, hI.2.1, hI.2.2.2 g o ⟨rfl, rfl⟩⟩)
      clear hI HI
      go_wp2
      go_ret
      exact ⟨rfl, .inr ⟨y, g, o, p, c, rfl, HE.out⟩⟩
/-- A row parted at one of its elements. -/
theorem NsIn.part {W : World} : ∀ (l : List T) (lo hi j : Nat) (cs : List Value) (hj : j < l.length), NsIn W lo hi l cs → ∃ (v1 a v2 : List Value) (m1 m2 : Nat), cs = v1 ++ (a ++ v2) ∧ v1.length = j * 4 ∧ lo ≤ m1 ∧ m1 ≤ m2 ∧ m2 ≤ hi ∧ NsIn W lo m1 (l.take j) v1 ∧ NIn W m1 m2 (l[j]'hj) a ∧ NsIn W m2 hi (l.drop (j + 1)) v2
  | [], lo, hi, j, cs, hj, _ => absurd hj (by simp)
  | x :: r, lo, hi, 0, cs, _, h => by
    unfold NsIn at h
    obtain ⟨a, q, mid, rfl, e1, e2, e3, e4⟩ := h
    exact ⟨[], a, q, lo, mid, rfl, rfl, Nat.le_refl _, e1, e2, by unfold NsIn; rfl, e3, e4⟩
  | x :: r, lo, hi, j + 1, cs, hj, h => by
    unfold NsIn at h
    obtain ⟨a, q, mid, rfl, e1, e2, e3, e4⟩ := h
    obtain ⟨v1, b, v2, m1, m2, rfl, f1, f2, f3, f4, f5, f6, f7⟩ := NsIn.part r mid hi j q (by simpa using hj) e4
    obtain ⟨p, c, rfl⟩ := e3.four
    refine ⟨cellsN x p c ++ v1, b, v2, m1, m2, by simp, by simp [cellsN, f1]; omega, by omega, f3, f4, ?_, f6, f7⟩
    rw [List.take_succ_cons]
    unfold NsIn
    exact ⟨_, v1, mid, rfl, e1, f2, e3, f5⟩
theorem NsAt.join {S : Nat → Prop} {W : World} : ∀ (l r : List T) (v u : List Value), NsAt S W l v → NsAt S W r u → NsAt S W (l ++ r) (v ++ u)
  | [], r, v, u, h, h2 => by unfold NsAt at h; subst h; exact h2
  | x :: l, r, v, u, h, h2 => by
    unfold NsAt at h
    obtain ⟨a, q, rfl, e1, e2⟩ := h
    rw [List.cons_append, List.append_assoc]
    unfold NsAt
    exact ⟨a, q ++ u, rfl, e1, NsAt.join l r q u e2 h2⟩
theorem kids_mk (k : Nat) (t : Tok) (ks : List T) : T.kids (.mk k t ks) = ks := rfl
theorem putT_in (k : Nat) (t : Tok) (ks : List T) (j : Nat) (l : List Int) (m : T) (hj : j < ks.length) : putT (.mk k t ks) ((j : Int) :: l) m = .mk k t (ks.set j (putT (ks[j]'hj) l m)) := by
  conv => lhs; unfold putT
  rw [Int.toNat_natCast, List.getElem?_eq_getElem hj]
theorem cellsN_inj {x : T} {p p' : Option Addr} {c c' : Nat} (h : cellsN x p c = cellsN x p' c') : p = p' ∧ c = c' := by
  simp only [cellsN, List.cons.injEq, Value.slice.injEq, true_and, and_true] at h
  exact h
/-- Four cells written at a path's place make the tree with the other one put there. -/
theorem put_deep {w w' : World} {m : T} {M : List Value} {g o L : Nat} (hM : NAt (fun k => L ≤ k) w' m M) (hk : ∀ k, k < w.heap.size → k ≠ g → w'.heap[k]? = w.heap[k]?)
    (hg : ∀ v1 a v2 : List Value, a.length = 4 → w.heap[g]? = some (.cells (v1 ++ (a ++ v2)).toArray 27 (0, 0)) → o = v1.length → w'.heap[g]? = some (.cells (v1 ++ (M ++ v2)).toArray 27 (0, 0))) :
    ∀ (l : List Int) (x : T) (i : Int) (lo hi : Nat) (p : Option Addr) (c G O : Nat), hi ≤ w.heap.size → L ≤ lo → NIn w lo hi x (cellsN x p c) → Plc w x p (i :: l) G O g o → (lo ≤ g ∧ g < hi) ∧ NAt (fun k => L ≤ k) w' (putT x (i :: l) m) (cellsN x p c)
  | l, .mk k t ks, i, lo, hi, p, c, G, O, hh, hLl, hN, hP => by
    unfold Plc at hP
    obtain ⟨j, hj, g1, o1, p1, c1, rfl, rfl, hnode, hP⟩ := hP
    have hj : j < ks.length := hj
    unfold NIn at hN
    obtain ⟨p2, c2, vs, he, hN⟩ := hN
    simp only [cellsN, T.kind, T.tok, T.kids, List.cons.injEq, Value.slice.injEq, true_and, and_true] at he
    obtain ⟨rfl, rfl⟩ := he
    rcases hN with ⟨rfl, _⟩ | ⟨g2, hp2, rfl, e3, e4, e5, e6⟩
    · exact absurd hj (by simp)
    simp only [Option.some.injEq, Addr.mk.injEq, and_true] at hp2
    obtain ⟨rfl, rfl⟩ := hp2
    simp only [kids_mk] at hnode hP
    obtain ⟨v1, a, v2, m1, m2, rfl, f1, f2, f3, f4, f5, f6, f7⟩ := e6.part ks _ _ j vs hj
    obtain ⟨p3, c3, rfl⟩ := f6.four
    have hpc : p3 = p1 ∧ c3 = c1 := by
      have h3 := hnode.2.2.2
      rw [cellH e5, List.getElem?_toArray, List.getElem?_append_right (by omega)] at h3
      rw [show 0 + j * 4 + 3 - v1.length = 3 by omega] at h3
      simp only [cellsN, List.cons_append, List.getElem?_cons_succ, List.getElem?_cons_zero, Option.some.injEq, Value.slice.injEq, true_and] at h3
      exact h3
    obtain ⟨rfl, rfl⟩ := hpc
    have hlen := NsIn.len ks _ _ _ e6
    have hputk : T.kids (putT (.mk k t ks) ((j : Int) :: l) m) = ks.set j (putT (ks[j]'hj) l m) := by rw [putT_in k t ks j l m hj]; rfl
    have hset : ks.set j (putT (ks[j]'hj) l m) = ks.take j ++ (putT (ks[j]'hj) l m :: ks.drop (j + 1)) := by rw [List.set_eq_take_append_cons_drop, if_pos hj]
    have finish : ∀ (b : List Value), g1 < w'.heap.size → w'.heap[g1]? = some (.cells (v1 ++ (b ++ v2)).toArray 27 (0, 0)) → (∀ q, g1 < q → q < m1 → q ≠ g) → (∀ q, m2 ≤ q → q < hi → q ≠ g) → NAt (fun k => L ≤ k) w' (putT (ks[j]'hj) l m) b →
        NAt (fun k => L ≤ k) w' (putT (.mk k t ks) ((j : Int) :: l) m) [.int .u8 k, .int .u8 t.1, .string ⟨t.2.toArray⟩, .slice (some ⟨g1, 0, none⟩) ks.length ks.length] := fun b hgw hb hq1 hq2 hz => by
      rw [putT_in k t ks j l m hj]
      obtain ⟨pb, cb, rfl⟩ := hz.four
      have hl2 : (ks.set j (putT (ks[j]'hj) l m)).length = ks.length := List.length_set ..
      rw [← hl2]
      refine NAt.make (k := k) (t := t) (ks := ks.set j (putT (ks[j]'hj) l m)) (vs := v1 ++ (cellsN (putT (ks[j]'hj) l m) pb cb ++ v2)) ?_ ?_
      · refine ⟨?_, some ⟨g1, 0, none⟩, _, rfl, Nat.le_refl _, .inr ⟨g1, 0, rfl, (by show L ≤ g1; omega), hgw, fun q u hq => by rw [Nat.zero_add, cellH hb, List.getElem?_toArray]; exact hq⟩⟩
        rw [hl2]
        simp only [List.length_append, cellsN, List.length_cons, List.length_nil] at hlen ⊢
        omega
      · rw [hset]
        refine NsAt.join _ _ _ _ ?_ ?_
        · exact NsAt.mono (fun q _ h => by have := h.1; show L ≤ q; omega) _ _ (NsIn.at _ _ _ _ (NsIn.world _ _ _ _ (fun q h1 h2 => hk q (by omega) (hq1 q (by omega) h2)) f5))
        · unfold NsAt
          exact ⟨_, v2, rfl, hz, NsAt.mono (fun q _ h => by have := h.1; show L ≤ q; omega) _ _ (NsIn.at _ _ _ _ (NsIn.world _ _ _ _ (fun q h1 h2 => hk q (by omega) (hq2 q h1 h2)) f7))⟩
    cases l with
    | nil =>
      unfold Plc at hP
      obtain ⟨rfl, rfl⟩ := hP
      have hb := hg v1 _ v2 rfl e5 (by omega)
      exact ⟨⟨e3, e4⟩, finish M (Array.getElem?_eq_some_iff.1 hb).1 hb (fun q h1 _ => by omega) (fun q h1 h2 => by omega) hM⟩
    | cons i2 l2 =>
      obtain ⟨⟨h1, h2⟩, h3⟩ := put_deep hM hk hg l2 (ks[j]'hj) i2 m1 m2 p3 c3 g1 (0 + j * 4) (by omega) (by omega) f6 hP
      have hb := (hk g1 (by omega) (by omega)).trans e5
      exact ⟨⟨by omega, by omega⟩, finish _ (Array.getElem?_eq_some_iff.1 hb).1 hb (fun q _ h4 => by omega) (fun q h4 _ => by omega) h3⟩
end Go.Proofs.YtingfomfibhnhaaGreatDoor
