/-
  reach: the place of a path's node; shown: what the text has of it.
-/
import Derived.Test.YtingfomfibhnhaaGreatDoorMgGW
namespace Go.Proofs.YtingfomfibhnhaaGreatDoor
open Go.RowKit Go.Shelf

/-- A path, as it is handed on. -/
def PaAt (W : World) (v : Value) (l : List Int) : Prop := SlIn AnyB W v 1 l.length (l.map fun i => .int .i64 i)
theorem PaAt.below {W W' : World} {v : Value} {l : List Int} (h : PaAt W v l) (hb : Below W.heap.size W W') : PaAt W' v l := h.world ⟨hb.size, fun k hk _ => hb.block k hk⟩
/-- A node's four cells. -/
def NodeAt (W : World) (g o : Nat) (x : T) (p : Option Addr) (c : Nat) : Prop := W.cell? ⟨g, o, none⟩ = some (.int .u8 x.kind) ∧ W.cell? ⟨g, o + 1, none⟩ = some (.int .u8 x.tok.1) ∧ W.cell? ⟨g, o + 2, none⟩ = some (.string ⟨x.tok.2.toArray⟩) ∧ W.cell? ⟨g, o + 3, none⟩ = some (.slice p x.kids.length c)
def ReachEnd (x : T) (l : List Int) (w : World) (e : Ending) (w' : World) : Prop := w' = w ∧ ((e = .returned (.pointer none) ∧ atT x l = none) ∨ ∃ y g o p c, e = .returned (.pointer (some ⟨g, o, none⟩)) ∧ atT x l = some y ∧ NodeAt w g o y p c ∧ NAt AnyB w y (cellsN y p c))
theorem atT_neg (y : T) (i : Int) (r : List Int) (h : i < 0) : atT y (i :: r) = none := by unfold atT; rw [if_pos h]
theorem atT_far (y : T) (j : Nat) (r : List Int) (h : y.kids.length ≤ j) : atT y ((j : Int) :: r) = none := by
  unfold atT; rw [if_neg (by omega), Int.toNat_natCast, List.getElem?_eq_none h]
theorem atT_in (y : T) (j : Nat) (r : List Int) (h : j < y.kids.length) : atT y ((j : Int) :: r) = atT (y.kids[j]'h) r := by
  conv => lhs; unfold atT
  rw [if_neg (by omega), Int.toNat_natCast, List.getElem?_eq_getElem h]
theorem node_kid {S : Nat → Prop} {W : World} {y : T} {p : Option Addr} {c : Nat} (hx : NAt S W y (cellsN y p c)) (j : Nat) (hj : j < y.kids.length) :
    ∃ g1 o1 p1 c1, p = some ⟨g1, o1, none⟩ ∧ NodeAt W g1 (o1 + j * 4) (y.kids[j]'hj) p1 c1 ∧ NAt S W (y.kids[j]'hj) (cellsN (y.kids[j]'hj) p1 c1) := by
  obtain ⟨vs, h1, h2⟩ := hx.parts
  obtain ⟨g1, o1, rfl, hc⟩ := h1.cellAt (by omega)
  obtain ⟨p1, c1, h3, m1, m2, m3, m4⟩ := h2.nth y.kids vs j _ (List.getElem?_eq_getElem hj)
  exact ⟨g1, o1, p1, c1, rfl, ⟨hc _ _ m1, hc _ _ m2, hc _ _ m3, hc _ _ m4⟩, h3⟩
set_option maxRecDepth 100000 in
set_option maxHeartbeats 4000000 in
theorem reach_any (x : T) (l : List Int) (W : World) (g o : Nat) (p : Option Addr) (c : Nat) (v : Value) (hn : NodeAt W g o x p c) (hx : NAt AnyB W x (cellsN x p c)) (hl : PaAt W v l) (hlen : l.length ≤ 1000000) :
    Calls Tryz.prog 33 #[.pointer (some ⟨g, o, none⟩), v] W (ReachEnd x l W) := by
  have hl' := hl
  obtain ⟨_, pl, cl, rfl, _⟩ := hl'
  have HI0 : Hid (NodeAt W g o x p c ∧ NAt AnyB W x (cellsN x p c) ∧ atT x l = atT x (l.drop 0)) := Lib.hid ⟨hn, hx, rfl⟩
  have HL := Lib.hid hl
  clear hl hn hx
  go_enter Tryz.func33, Tryz.ntmps33
  go_wp2_with fail
  go_loopw [0, 6, 9] (fun t0 _ iv wr => ∃ (k : Nat) (y : T) (g o : Nat) (p : Option Addr) (c : Nat), k ≤ l.length ∧ iv = .int .i64 k ∧ t0 = .pointer (some ⟨g, o, none⟩) ∧ W = wr ∧ Hid (NodeAt W g o y p c ∧ NAt AnyB W y (cellsN y p c) ∧ atT x l = atT y (l.drop k))) (fun _ _ iv _ => l.length - (intOf iv).toNat)
  case atStart => exact ⟨0, x, g, o, p, c, by omega, rfl, rfl, rfl, HI0⟩
  case round =>
    clear HI0
    obtain ⟨k, y, g, o, p, c, hk, rfl, rfl, rfl, HI⟩ := hrel
    rcases Nat.lt_or_ge k l.length with hlt | hge
    · have hlt' : (k : Int) < (l.length : Int) := by omega
      have hwi : IntKind.i64.wrap ((k : Int) + 1) = ((k + 1 : Nat) : Int) := by rw [IntWalk.i64_in _ (by omega)]; omega
      obtain ⟨gl, ol, rfl, hcl⟩ := HL.out.cellAt (by omega)
      have hu := List.getElem?_eq_getElem hlt
      have e0 : W.cell? ⟨gl, ol + k, none⟩ = some (.int .i64 (l[k]'hlt)) := hcl k _ (by rw [List.getElem?_map, hu]; rfl)
      have hdr : l.drop k = l[k]'hlt :: l.drop (k + 1) := List.drop_eq_getElem_cons hlt
      have n3 := HI.out.1.2.2.2
      have hI3 := HI.out.2.2
      rw [hdr] at hI3
      generalize l[k]'hlt = i at *
      clear hu hcl hdr
      by_cases hneg : i < 0
      · have HE : Hid (atT x l = none) := Lib.hid (by rw [hI3, atT_neg y i _ hneg])
        clear hI3
        go_wp2
        go_ret
        exact ⟨rfl, .inl ⟨rfl, HE.out⟩⟩
      · obtain ⟨j, rfl⟩ := Int.eq_ofNat_of_zero_le (by omega : 0 ≤ i)
        have hneg' : ¬ (j : Int) < 0 := hneg
        rcases Nat.lt_or_ge j y.kids.length with hj | hj
        · have hj1 : ¬ (y.kids.length : Int) ≤ (j : Int) := by omega
          have hj2 : (j : Int) < (y.kids.length : Int) := by omega
          rw [atT_in y j _ hj] at hI3
          obtain ⟨g1, o1, p1, c1, rfl, hn1, hx1⟩ := node_kid HI.out.2.1 j hj
          have HI2 := Lib.hid (And.intro hn1 (And.intro hx1 hI3))
          clear hI3 HI hn1 hx1
          go_wp2
          exact ⟨⟨k + 1, _, _, _, _, _, by omega, rfl, rfl, trivial, HI2⟩, by simp [intOf]; omega⟩
        · have hj1 : (y.kids.length : Int) ≤ (j : Int) := by omega
          have HE : Hid (atT x l = none) := Lib.hid (by rw [hI3, atT_far y j _ hj])
          clear hI3
          go_wp2
          go_ret
          exact ⟨rfl, .inl ⟨rfl, HE.out⟩⟩
    · obtain rfl : k = l.length := by omega
      have hlt' : ¬ (l.length : Int) < (l.length : Int) := by omega
      have HE : Hid (ReachEnd x l W (.returned (.pointer (some ⟨g, o, none⟩))) W) := Lib.hid (by
        refine ⟨rfl, .inr ⟨y, g, o, p, c, rfl, ?_, HI.out.1, HI.out.2.1⟩⟩
        rw [HI.out.2.2, List.drop_length]
        unfold atT; rfl)
      clear HI
      go_wp2
      go_ret
      exact HE.out
theorem NsAt.take {S : Nat → Prop} {W : World} : ∀ (js : List T) (vs : List Value) (n : Nat), NsAt S W js vs → NsAt S W (js.take n) (vs.take (n * 4))
  | [], vs, n, h => by unfold NsAt at h; subst h; simp [NsAt]
  | j :: js, vs, 0, h => by simp [NsAt]
  | j :: js, vs, n + 1, h => by
    unfold NsAt at h
    obtain ⟨a, r, rfl, h1, h2⟩ := h
    obtain ⟨p, c, rfl⟩ := h1.four
    rw [List.take_succ_cons]
    unfold NsAt
    refine ⟨_, r.take (n * 4), ?_, h1, NsAt.take js r n h2⟩
    rw [show (n + 1) * 4 = 4 + n * 4 by omega, List.take_add]
    simp
theorem SlIn.take {S : Nat → Prop} {W : World} {g o n cap k size : Nat} {xs : List Value} (h : SlIn S W (.slice (some ⟨g, o, none⟩) n cap) size n xs) (hk : k ≤ n) (h0 : 0 < n) : SlIn S W (.slice (some ⟨g, o, none⟩) k cap) size k (xs.take (k * size)) := by
  obtain ⟨h1, p, c, h2, h3, h4⟩ := h
  cases h2
  refine ⟨?_, _, cap, rfl, by omega, ?_⟩
  · rw [List.length_take, h1]; exact Nat.min_eq_left (Nat.mul_le_mul_right _ hk)
  · rcases h4 with h4 | ⟨g', o', h5, h6, h7, h8⟩
    · omega
    · cases h5
      refine .inr ⟨g, o, rfl, h6, h7, fun j u hj => h8 j u ?_⟩
      rw [List.getElem?_take] at hj
      split at hj
      · exact hj
      · cases hj
theorem box_put {w : World} {N : Nat} {cs : Array Value} {a b c d : Value} {t : TypeId} (h : w.heap[N]? = some (.cells cs t (0, 0))) (hs : cs.size = 4) :
    ((((w.setCell ⟨N, 0, none⟩ a).setCell ⟨N, 1, none⟩ b).setCell ⟨N, 2, none⟩ c).setCell ⟨N, 3, none⟩ d).heap[N]? = some (.cells #[a, b, c, d] t (0, 0)) := by
  have := heap_setCell_same _ _ 3 _ _ d (heap_setCell_same _ _ 2 _ _ c (heap_setCell_same _ _ 1 _ _ b (heap_setCell_same w N 0 cs t a h)))
  rw [this]
  obtain ⟨l⟩ := cs
  match l, hs with
  | [p, q, r, s], _ => rfl
theorem put_below {w0 w : World} {n N : Nat} (h : Below n w0 w) (hN : n ≤ N) (a b c d : Value) : Below n w0 ((((w.setCell ⟨N, 0, none⟩ a).setCell ⟨N, 1, none⟩ b).setCell ⟨N, 2, none⟩ c).setCell ⟨N, 3, none⟩ d) :=
  (((h.setCell (p := ⟨N, 0, none⟩) hN _).setCell (p := ⟨N, 1, none⟩) hN _).setCell (p := ⟨N, 2, none⟩) hN _).setCell (p := ⟨N, 3, none⟩) hN _
theorem put_other {w : World} {N : Nat} (a b c d : Value) (k : Nat) (hk : k ≠ N) : ((((w.setCell ⟨N, 0, none⟩ a).setCell ⟨N, 1, none⟩ b).setCell ⟨N, 2, none⟩ c).setCell ⟨N, 3, none⟩ d).heap[k]? = w.heap[k]? := by
  rw [heap_setCell_other _ ⟨N, 3, none⟩ k d hk, heap_setCell_other _ ⟨N, 2, none⟩ k c hk, heap_setCell_other _ ⟨N, 1, none⟩ k b hk, heap_setCell_other _ ⟨N, 0, none⟩ k a hk]
theorem textT_mk {k : Nat} (t : Tok) (ks : List T) (h : k ≠ 2) : textT (.mk k t ks) = textL ks ++ (if k = 1 then t.2 else []) := by rw [textT, if_neg h]
theorem textL_cons (x : T) (r : List T) : textL (x :: r) = textT x ++ textL r := by rw [textL]
theorem countT_mk (k : Nat) (t : Tok) (ks : List T) : countT (.mk k t ks) = 1 + countTs ks := by rw [countT]
mutual
theorem text_len : ∀ (x : T) (i : Nat) (z : T), x.kind ≠ 2 → x.kids[i]? = some z → (textL (x.kids.take i)).length + sizeT z ≤ sizeT x
  | .mk k t ks, i, z, hk, hz => by
    have h := congrArg List.length (textL_split ks i z hz)
    have e : sizeT (.mk k t ks) = (textL ks).length + (if k = 1 then t.2 else []).length := by unfold sizeT; rw [textT_mk t ks (show k ≠ 2 from hk), List.length_append]
    rw [e]
    simp only [List.length_append] at h
    show (textL (ks.take i)).length + (textT z).length ≤ _
    omega
theorem textL_split : ∀ (l : List T) (i : Nat) (z : T), l[i]? = some z → textL l = textL (l.take i) ++ (textT z ++ textL (l.drop (i + 1)))
  | [], i, z, h => by simp at h
  | y :: r, 0, z, h => by
    simp at h; subst h
    simp [textL]
  | y :: r, i + 1, z, h => by
    simp at h
    have := textL_split r i z h
    rw [List.take_succ_cons, List.drop_succ_cons, textL_cons, textL_cons, this, List.append_assoc]
end
theorem show_in (y : T) (j : Nat) (r : List Int) (hk : y.kind ≠ 2) (h : j < y.kids.length) : showT y ((j : Int) :: r) = ((textL (y.kids.take j)).length + (showT (y.kids[j]'h) r).1, (showT (y.kids[j]'h) r).2) := by
  conv => lhs; unfold showT
  rw [if_neg hk, Int.toNat_natCast, List.getElem?_eq_getElem h]
theorem show_miss (y : T) (l : List Int) (hk : y.kind = 2) : showT y l = (0, y) := by
  cases l with
  | nil => rfl
  | cons i r => unfold showT; rw [if_pos hk]
theorem atT_valid {y z : T} {i : Int} {r : List Int} (h : atT y (i :: r) = some z) : ∃ j : Nat, i = j ∧ ∃ hj : j < y.kids.length, atT (y.kids[j]'hj) r = some z := by
  by_cases hi : i < 0
  · rw [atT_neg y i r hi] at h; cases h
  · obtain ⟨j, rfl⟩ := Int.eq_ofNat_of_zero_le (by omega : 0 ≤ i)
    rcases Nat.lt_or_ge j y.kids.length with hj | hj
    · exact ⟨j, rfl, hj, by rw [atT_in y j r hj] at h; exact h⟩
    · rw [atT_far y j r hj] at h; cases h
theorem counts_take : ∀ (l : List T) (i : Nat), countTs (l.take i) ≤ countTs l
  | [], i => by simp [countTs]
  | y :: r, 0 => by simp [countTs]
  | y :: r, i + 1 => by
    rw [List.take_succ_cons]
    unfold countTs
    have := counts_take r i
    omega
theorem count_kid {y : T} {j : Nat} (hj : j < y.kids.length) : countT (y.kids[j]'hj) ≤ countT y ∧ countTs (y.kids.take j) + 1 ≤ countT y := by
  obtain ⟨k, t, ks⟩ := y
  have h1 := counts_at ks j _ (List.getElem?_eq_getElem hj)
  have h2 := counts_take ks j
  rw [countT_mk]
  exact ⟨Nat.le_trans h1 (by omega), by show countTs (ks.take j) + 1 ≤ _; omega⟩
/-- The whole of what shown answers. -/
def ShownEnd (y : T) (a : Nat) (w : World) (e : Ending) (w' : World) : Prop := ∃ p c, e = .returned (.tuple #[aggN y p c, .int .i64 a]) ∧ NAt AnyB w' y (cellsN y p c) ∧ Below w.heap.size w w'
set_option maxRecDepth 100000 in
set_option maxHeartbeats 8000000 in
theorem shown_any (x : T) (l : List Int) (W : World) (p : Option Addr) (c : Nat) (v : Value) (z : T) (hx : NAt AnyB W x (cellsN x p c)) (hl : PaAt W v l) (hlen : l.length ≤ 1000000) (hz : atT x l = some z) (hc : countT x ≤ 100000) (hs : sizeT x ≤ 100000000) :
    Calls Tryz.prog 35 #[aggN x p c, v] W (ShownEnd (showT x l).2 (showT x l).1 W) := by
  have hl' := hl
  obtain ⟨_, pl, cl, rfl, _⟩ := hl'
  obtain ⟨S, hS⟩ : ∃ s, showT x l = s := ⟨_, rfl⟩
  rw [hS]
  obtain ⟨w1, hw1⟩ : ∃ w, W.alloc (.cells #[.int .u8 x.kind, .int .u8 x.tok.1, .string ⟨x.tok.2.toArray⟩, .slice p x.kids.length c] 27) = w := ⟨_, rfl⟩
  have n1 : w1.heap[W.heap.size]? = some (boxN x p c) := by rw [← hw1]; exact World.alloc_heap_new W _
  have b1 : Below W.heap.size W w1 := by rw [← hw1]; exact galloc (Below.refl _ _) _
  have z1 : w1.heap.size = W.heap.size + 1 := by rw [← hw1]; simp
  obtain ⟨w2, hw2⟩ : ∃ w, w1.alloc (.cells #[.int .u8 0, .int .u8 0, .string ⟨#[]⟩, .slice none 0 0] 27) = w := ⟨_, rfl⟩
  have n2 : w2.heap[W.heap.size + 1]? = some (.cells #[.int .u8 0, .int .u8 0, .string ⟨#[]⟩, .slice none 0 0] 27 (0, 0)) := by rw [← hw2, ← z1]; exact World.alloc_heap_new w1 _
  have n12 : w2.heap[W.heap.size]? = some (boxN x p c) := by rw [← hw2]; exact ((galloc (Below.refl w1.heap.size w1) _).block _ (by omega)).trans n1
  have b2 : Below W.heap.size W w2 := by rw [← hw2]; exact galloc b1 _
  have HI0 : Hid (w2.heap[W.heap.size]? = some (boxN x p c) ∧ w2.heap[W.heap.size + 1]? = some (.cells #[.int .u8 0, .int .u8 0, .string ⟨#[]⟩, .slice none 0 0] 27 (0, 0)) ∧ Below W.heap.size W w2 ∧ NAt (· < W.heap.size) w2 x (cellsN x p c) ∧ S = (0 + (showT x (l.drop 0)).1, (showT x (l.drop 0)).2) ∧ atT x (l.drop 0) = some z ∧ countT x ≤ 100000 ∧ 0 + sizeT x ≤ 100000000) :=
    Lib.hid ⟨n12, n2, b2, NAt.world ⟨b2.size, fun k hk _ => b2.block k hk⟩ _ _ (NAt.mono (fun k hk _ => hk) _ _ hx), by rw [← hS, Nat.zero_add]; rfl, hz, hc, by omega⟩
  have HL := Lib.hid hl
  clear hl hx hS hz hs hc n1 n2 n12 b1 b2
  go_enter Tryz.func35, Tryz.ntmps35
  go_wp2_with fail
  go_loopw [5, 7, 10] (fun av _ iv wr => ∃ (k a : Nat) (y : T) (p : Option Addr) (c : Nat), k ≤ l.length ∧ iv = .int .i64 k ∧ av = .int .i64 a ∧ Hid (wr.heap[W.heap.size]? = some (boxN y p c) ∧ wr.heap[W.heap.size + 1]? = some (.cells #[.int .u8 0, .int .u8 0, .string ⟨#[]⟩, .slice none 0 0] 27 (0, 0)) ∧ Below W.heap.size W wr ∧ NAt (· < W.heap.size) wr y (cellsN y p c) ∧ S = (a + (showT y (l.drop k)).1, (showT y (l.drop k)).2) ∧ atT y (l.drop k) = some z ∧ countT y ≤ 100000 ∧ a + sizeT y ≤ 100000000)) (fun _ _ iv _ => l.length - (intOf iv).toNat)
  case atStart => exact ⟨0, 0, x, p, c, by omega, rfl, rfl, HI0⟩
  case round =>
    clear HI0
    obtain ⟨k, a, y, p, c, hk, rfl, rfl, HI⟩ := hrel
    obtain ⟨hN, hR, hB, hY, hS, hA, hC, hZ⟩ := HI.out
    obtain ⟨cc0, cc1, cc2, cc3⟩ := box4 hN
    have cf : ∀ o, wr.frozen? ⟨W.heap.size, o, none⟩ = false := fun o => Lib.frozen_of_heap hN o
    obtain ⟨r0, r1, r2, r3⟩ := box4 hR
    have rf : ∀ o, wr.frozen? ⟨W.heap.size + 1, o, none⟩ = false := fun o => Lib.frozen_of_heap hR o
    obtain ⟨VE, hVE⟩ : ∃ V', ((((wr.setCell ⟨W.heap.size + 1, 0, none⟩ (.int .u8 y.kind)).setCell ⟨W.heap.size + 1, 1, none⟩ (.int .u8 y.tok.1)).setCell ⟨W.heap.size + 1, 2, none⟩ (.string ⟨y.tok.2.toArray⟩)).setCell ⟨W.heap.size + 1, 3, none⟩ (.slice p y.kids.length c)) = V' := ⟨_, rfl⟩
    have hVR : VE.heap[W.heap.size + 1]? = some (boxN y p c) := by rw [← hVE]; exact box_put hR rfl
    have hVB : Below W.heap.size W VE := by rw [← hVE]; exact put_below hB (by omega) _ _ _ _
    have hVN : NAt AnyB VE y (cellsN y p c) := by
      rw [← hVE]
      exact (NAt.world ⟨by simp, fun k _ hk => put_other _ _ _ _ k (by have : k < W.heap.size := hk; omega)⟩ _ _ hY).any
    have HVE := Lib.hid (And.intro hVR (And.intro hVN hVB))
    clear hVR hVN hVB
    have hfin : ∀ b : Nat, S = (b, y) → ShownEnd S.2 S.1 W (.returned (.tuple #[aggN y p c, .int .i64 b])) VE := fun b hb => by
      subst hb
      exact ⟨p, c, rfl, HVE.out.2.1, HVE.out.2.2⟩
    obtain ⟨v0, v1, v2, v3⟩ := box4 HVE.out.1
    rcases Nat.lt_or_ge k l.length with hlt | hge
    · have hlt' : (k : Int) < (l.length : Int) := by omega
      have hwi : IntKind.i64.wrap ((k : Int) + 1) = ((k + 1 : Nat) : Int) := by rw [IntWalk.i64_in _ (by omega)]; omega
      obtain ⟨gl, ol, rfl, hcl⟩ := (HL.out.below hB).cellAt (by omega)
      have hu := List.getElem?_eq_getElem hlt
      have e0 : wr.cell? ⟨gl, ol + k, none⟩ = some (.int .i64 (l[k]'hlt)) := hcl k _ (by rw [List.getElem?_map, hu]; rfl)
      have hdr : l.drop k = l[k]'hlt :: l.drop (k + 1) := List.drop_eq_getElem_cons hlt
      rw [hdr] at hS hA
      generalize l[k]'hlt = i at *
      clear hu hcl hdr
      by_cases hk2 : y.kind = 2
      · have hk2' : ((y.kind : Int) == 2) = true := by rw [hk2]; rfl
        have HE := Lib.hid (hfin a (by rw [hS, show_miss y _ hk2, Nat.add_zero]))
        clear hfin hS hA HI hN hR hB hY hk2
        go_wp2_with fail
        refine bodyPost_ret (v := .tuple #[aggN y p c, .int .i64 a]) (by simp [results, Tryz.results35, go_sem, v0, v1, v2, v3]) rfl HE.out
      · have hk2' : ((y.kind : Int) == 2) = false := beq_eq_false_iff_ne.2 (by omega)
        obtain ⟨j, rfl, hj, hA2⟩ := atT_valid hA
        have hjl : (j : Int) ≤ (y.kids.length : Int) := by omega
        have hj2 : (j : Int) < (y.kids.length : Int) := by omega
        have htl := text_len y j _ hk2 (List.getElem?_eq_getElem hj)
        have hck := count_kid hj
        rw [show_in y j _ hk2 hj] at hS
        obtain ⟨vs, hsl, hns⟩ := hY.parts
        have hjc : (j : Int) ≤ (c : Int) := by
          obtain ⟨_, _, c', h2, h3, _⟩ := hsl
          cases h2; omega
        obtain ⟨g1, o1, p1, c1, rfl, hn1, hx1⟩ := node_kid hY j hj
        obtain ⟨k1, k2, k3, k4⟩ := hn1
        have hlk : (y.kids.take j).length = j := by rw [List.length_take]; omega
        have hsl2 := hsl.take (k := j) (by omega) (by omega)
        have hq : NAt AnyB wr (.mk 0 (0, []) (y.kids.take j)) [.int .u8 (0 : Nat), .int .u8 (0 : Nat), .string ⟨([] : List UInt8).toArray⟩, .slice (some ⟨g1, o1, none⟩) (y.kids.take j).length c] :=
          (NAt.make (t := (0, [])) (k := 0) (by rw [hlk]; exact hsl2) (NsAt.take _ _ j hns)).any
        obtain ⟨m, hm⟩ : ∃ m, (textL (y.kids.take j)).length = m := ⟨_, rfl⟩
        have hsz : sizeT (.mk 0 (0, []) (y.kids.take j)) = m := by unfold sizeT; rw [textT_mk _ _ (by decide)]; simp [hm]
        have hcall := size_any (.mk 0 (0, []) (y.kids.take j)) (some ⟨g1, o1, none⟩) c wr hq (by rw [countT_mk]; omega) (by rw [hsz]; omega)
        rw [hsz] at hcall
        have hcall2 : Calls Tryz.prog 36 #[.agg #[.int .u8 0, .int .u8 0, .string ⟨#[]⟩, .slice (some ⟨g1, o1, none⟩) j c]] wr (IntEnd m wr) := by
          have e : aggN (.mk 0 (0, []) (y.kids.take j)) (some ⟨g1, o1, none⟩) c = .agg #[.int .u8 0, .int .u8 0, .string ⟨#[]⟩, .slice (some ⟨g1, o1, none⟩) j c] := by
            show Value.agg #[.int .u8 ((0 : Nat) : Int), .int .u8 ((0 : Nat) : Int), .string ⟨([] : List UInt8).toArray⟩, .slice _ (y.kids.take j).length c] = _
            rw [hlk]; rfl
          rw [← e]; exact hcall
        have hwa : IntKind.i64.wrap ((a : Int) + (m : Int)) = ((a + m : Nat) : Int) := by rw [IntWalk.i64_in _ (by omega)]; omega
        rw [hm] at hS
        have HS := Lib.hid hS
        have HA2 := Lib.hid hA2
        have HX1 := Lib.hid hx1
        have HB := Lib.hid hB
        have HN := Lib.hid hN
        have HR := Lib.hid hR
        have HZ := Lib.hid (show a + m + sizeT (y.kids[j]'hj) ≤ 100000000 by omega)
        have HC := Lib.hid (show countT (y.kids[j]'hj) ≤ 100000 by omega)
        obtain ⟨A1, hA1⟩ : ∃ A1, a + m = A1 := ⟨_, rfl⟩
        rw [hA1] at hwa HZ
        have HA1 := Lib.hid hA1
        clear hS hA hA2 hx1 hB hN hR hY HI hfin hVE HVE v0 v1 v2 v3 hsl hns hsl2 hq hsz hcall htl hck hm hlk hC hZ hA1
        generalize y.kids[j]'hj = z1 at *
        clear r0 r1 r2 r3 rf
        go_wp2_with fail
        refine hcall2.mono ?_
        rintro e w5 ⟨rfl, h5⟩
        have kk1 := cell_in h5 k1
        have kk2 := cell_in h5 k2
        have kk3 := cell_in h5 k3
        have kk4 := cell_in h5 k4
        have hN5 := (h5.block _ (Array.getElem?_eq_some_iff.1 HN.out).1).trans HN.out
        obtain ⟨w0, w1', w2', w3'⟩ := box4 hN5
        have wf : ∀ o, w5.frozen? ⟨W.heap.size, o, none⟩ = false := fun o => Lib.frozen_of_heap hN5 o
        obtain ⟨V6, hV6⟩ : ∃ V', ((((w5.setCell ⟨W.heap.size, 0, none⟩ (.int .u8 z1.kind)).setCell ⟨W.heap.size, 1, none⟩ (.int .u8 z1.tok.1)).setCell ⟨W.heap.size, 2, none⟩ (.string ⟨z1.tok.2.toArray⟩)).setCell ⟨W.heap.size, 3, none⟩ (.slice p1 z1.kids.length c1)) = V' := ⟨_, rfl⟩
        have HI6 : Hid (V6.heap[W.heap.size]? = some (boxN z1 p1 c1) ∧ V6.heap[W.heap.size + 1]? = some (.cells #[.int .u8 0, .int .u8 0, .string ⟨#[]⟩, .slice none 0 0] 27 (0, 0)) ∧ Below W.heap.size W V6 ∧ NAt (· < W.heap.size) V6 z1 (cellsN z1 p1 c1) ∧ S = (A1 + (showT z1 (l.drop (k + 1))).1, (showT z1 (l.drop (k + 1))).2) ∧ atT z1 (l.drop (k + 1)) = some z ∧ countT z1 ≤ 100000 ∧ A1 + sizeT z1 ≤ 100000000) := Lib.hid (by
          rw [← hV6]
          refine ⟨box_put hN5 rfl, (put_other _ _ _ _ _ (by omega)).trans ((h5.block _ (Array.getElem?_eq_some_iff.1 HR.out).1).trans HR.out), put_below (HB.out.trans (h5.mono HB.out.size)) (Nat.le_refl _) _ _ _ _, ?_, ?_, HA2.out, HC.out, HZ.out⟩
          · exact NAt.world ⟨by simp, fun k _ hk => put_other _ _ _ _ k (by have : k < W.heap.size := hk; omega)⟩ _ _ (NAt.world ⟨h5.size, fun k hk _ => h5.block k hk⟩ _ _ HX1.out)
          · rw [HS.out, ← HA1.out]; simp; omega)
        clear h5 hcall2 hN5 cc0 cc1 cc2 cc3 cf k1 k2 k3 k4 e0
        go_wp2
        exact ⟨⟨k + 1, A1, z1, p1, _, by omega, rfl, rfl, HI6⟩, by simp [intOf]; omega⟩
    · obtain rfl : k = l.length := by omega
      have hlt' : ¬ (l.length : Int) < (l.length : Int) := by omega
      have HE := Lib.hid (hfin a (by rw [hS, List.drop_length]; unfold showT; rw [Nat.add_zero]))
      clear hfin hS hA HI hN hR hB hY
      go_wp2_with fail
      refine bodyPost_ret (v := .tuple #[aggN y p c, .int .i64 a]) (by simp [results, Tryz.results35, go_sem, v0, v1, v2, v3]) rfl HE.out
end Go.Proofs.YtingfomfibhnhaaGreatDoor
