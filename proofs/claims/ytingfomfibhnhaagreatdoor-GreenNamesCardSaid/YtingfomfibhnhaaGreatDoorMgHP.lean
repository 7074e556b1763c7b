/-
  A tree whose rows lie apart: each part's rows in an interval of blocks of its own.
  A row of Kids that is being filled.
-/
import Derived.Test.YtingfomfibhnhaaGreatDoorMgHN
namespace Go.Proofs.YtingfomfibhnhaaGreatDoor
open Go.RowKit Go.Shelf Go.Maps

mutual
/-- A node whose rows lie in blocks from lo to below hi, each part's by themselves. -/
def NIn (W : World) (lo hi : Nat) : T → List Value → Prop
  | .mk k t ks, cs => ∃ (p : Option Addr) (c : Nat) (vs : List Value), cs = [.int .u8 k, .int .u8 t.1, .string ⟨t.2.toArray⟩, .slice p ks.length c] ∧ ((ks = [] ∧ vs = [] ∧ p = none ∧ c = 0) ∨ ∃ g, p = some ⟨g, 0, none⟩ ∧ c = ks.length ∧ lo ≤ g ∧ g < hi ∧ W.heap[g]? = some (.cells vs.toArray 27 (0, 0)) ∧ NsIn W (g + 1) hi ks vs)
def NsIn (W : World) (lo hi : Nat) : List T → List Value → Prop
  | [], vs => vs = []
  | x :: r, vs => ∃ (a q : List Value) (mid : Nat), vs = a ++ q ∧ lo ≤ mid ∧ mid ≤ hi ∧ NIn W lo mid x a ∧ NsIn W mid hi r q
end
mutual
theorem NIn.mono {W : World} : ∀ (x : T) (lo hi lo' hi' : Nat) (cs : List Value), lo' ≤ lo → hi ≤ hi' → NIn W lo hi x cs → NIn W lo' hi' x cs
  | .mk k t ks, lo, hi, lo', hi', cs, h1, h2, h => by
    unfold NIn at h ⊢
    obtain ⟨p, c, vs, rfl, h | ⟨g, e1, e2, e3, e4, e5, e6⟩⟩ := h
    · exact ⟨p, c, vs, rfl, .inl h⟩
    · exact ⟨p, c, vs, rfl, .inr ⟨g, e1, e2, by omega, by omega, e5, NsIn.mono ks _ _ _ _ vs (Nat.le_refl _) h2 e6⟩⟩
theorem NsIn.mono {W : World} : ∀ (l : List T) (lo hi lo' hi' : Nat) (cs : List Value), lo' ≤ lo → hi ≤ hi' → NsIn W lo hi l cs → NsIn W lo' hi' l cs
  | [], _, _, _, _, _, _, _, h => by unfold NsIn at h ⊢; exact h
  | x :: r, lo, hi, lo', hi', cs, h1, h2, h => by
    unfold NsIn at h ⊢
    obtain ⟨a, q, mid, rfl, e1, e2, e3, e4⟩ := h
    exact ⟨a, q, mid, rfl, by omega, by omega, NIn.mono x _ _ _ _ a h1 (Nat.le_refl _) e3, NsIn.mono r _ _ _ _ q (Nat.le_refl _) h2 e4⟩
end
mutual
theorem NIn.world {W W' : World} : ∀ (x : T) (lo hi : Nat) (cs : List Value), (∀ k, lo ≤ k → k < hi → W'.heap[k]? = W.heap[k]?) → NIn W lo hi x cs → NIn W' lo hi x cs
  | .mk k t ks, lo, hi, cs, hw, h => by
    unfold NIn at h ⊢
    obtain ⟨p, c, vs, rfl, h | ⟨g, e1, e2, e3, e4, e5, e6⟩⟩ := h
    · exact ⟨p, c, vs, rfl, .inl h⟩
    · exact ⟨p, c, vs, rfl, .inr ⟨g, e1, e2, e3, e4, (hw g e3 e4).trans e5, NsIn.world ks _ _ vs (fun k h1 h2 => hw k (by omega) h2) e6⟩⟩
theorem NsIn.world {W W' : World} : ∀ (l : List T) (lo hi : Nat) (cs : List Value), (∀ k, lo ≤ k → k < hi → W'.heap[k]? = W.heap[k]?) → NsIn W lo hi l cs → NsIn W' lo hi l cs
  | [], _, _, _, _, h => by unfold NsIn at h ⊢; exact h
  | x :: r, lo, hi, cs, hw, h => by
    unfold NsIn at h ⊢
    obtain ⟨a, q, mid, rfl, e1, e2, e3, e4⟩ := h
    exact ⟨a, q, mid, rfl, e1, e2, NIn.world x _ _ a (fun k h1 h2 => hw k h1 (by omega)) e3, NsIn.world r _ _ q (fun k h1 h2 => hw k (by omega) h2) e4⟩
end
theorem NsIn.snoc {W : World} {x : T} {a : List Value} {mid hi : Nat} (hx : NIn W mid hi x a) (hm : mid ≤ hi) : ∀ (l : List T) (lo : Nat) (cs : List Value), lo ≤ mid → NsIn W lo mid l cs → NsIn W lo hi (l ++ [x]) (cs ++ a)
  | [], lo, cs, hl, h => by
    unfold NsIn at h
    subst h
    rw [List.nil_append, List.nil_append]
    unfold NsIn NsIn
    exact ⟨a, [], hi, (List.append_nil a).symm, by omega, Nat.le_refl _, NIn.mono x _ _ _ _ a hl (Nat.le_refl _) hx, rfl⟩
  | y :: r, lo, cs, hl, h => by
    unfold NsIn at h
    obtain ⟨b, q, m, rfl, e1, e2, e3, e4⟩ := h
    rw [List.cons_append, List.append_assoc]
    unfold NsIn
    exact ⟨b, q ++ a, m, rfl, e1, by omega, e3, NsIn.snoc hx hm r m q e2 e4⟩
theorem NIn.four {W : World} {lo hi : Nat} {x : T} {cs : List Value} (h : NIn W lo hi x cs) : ∃ (p : Option Addr) (c : Nat), cs = cellsN x p c := by
  obtain ⟨k, t, ks⟩ := x
  unfold NIn at h
  obtain ⟨p, c, vs, rfl, _⟩ := h
  exact ⟨p, c, rfl⟩
theorem NsIn.len {W : World} : ∀ (l : List T) (lo hi : Nat) (cs : List Value), NsIn W lo hi l cs → cs.length = l.length * 4
  | [], _, _, _, h => by unfold NsIn at h; subst h; rfl
  | x :: r, lo, hi, cs, h => by
    unfold NsIn at h
    obtain ⟨a, q, mid, rfl, e1, e2, e3, e4⟩ := h
    obtain ⟨p, c, rfl⟩ := e3.four
    have := NsIn.len r mid hi q e4
    simp only [cellsN, List.cons_append, List.nil_append, List.length_cons]
    omega
mutual
/-- Such a node is a node in memory. -/
theorem NIn.at {W : World} : ∀ (x : T) (lo hi : Nat) (cs : List Value), NIn W lo hi x cs → NAt (fun g => lo ≤ g ∧ g < hi) W x cs
  | .mk k t ks, lo, hi, cs, h => by
    unfold NIn at h
    obtain ⟨p, c, vs, rfl, ⟨rfl, rfl, rfl, rfl⟩ | ⟨g, rfl, rfl, e3, e4, e5, e6⟩⟩ := h
    · exact NAt.make (k := k) (t := t) (ks := []) (vs := []) (SlIn.nil _ _ _) (by unfold NsAt; rfl)
    · have hl := NsIn.len ks _ _ vs e6
      refine NAt.make (k := k) (t := t) (ks := ks) (vs := vs) ?_ ?_
      · exact ⟨by rw [hl], some ⟨g, 0, none⟩, ks.length, rfl, Nat.le_refl _, by
          by_cases h0 : ks.length = 0
          · exact .inl h0
          · exact .inr ⟨g, 0, rfl, ⟨e3, e4⟩, (Array.getElem?_eq_some_iff.1 e5).1, fun j u hj => by rw [Nat.zero_add, cellH e5, List.getElem?_toArray]; exact hj⟩⟩
      · exact NsAt.mono (fun i _ h => ⟨by have := h.1; omega, h.2⟩) ks vs (NsIn.at ks _ _ vs e6)
theorem NsIn.at {W : World} : ∀ (l : List T) (lo hi : Nat) (cs : List Value), NsIn W lo hi l cs → NsAt (fun g => lo ≤ g ∧ g < hi) W l cs
  | [], _, _, _, h => by unfold NsIn at h; unfold NsAt; exact h
  | x :: r, lo, hi, cs, h => by
    unfold NsIn at h
    obtain ⟨a, q, mid, rfl, e1, e2, e3, e4⟩ := h
    unfold NsAt
    exact ⟨a, q, rfl, NAt.mono (fun i _ h => ⟨h.1, by have := h.2; omega⟩) x a (NIn.at x _ _ a e3), NsAt.mono (fun i _ h => ⟨by have := h.1; omega, h.2⟩) r q (NsIn.at r _ _ q e4)⟩
end
end Go.Proofs.YtingfomfibhnhaaGreatDoor
namespace Go.Proofs.YtingfomfibhnhaaGreatDoor
open Go.RowKit Go.Shelf Go.Maps

abbrev zeroN : List Value := [.int .u8 0, .int .u8 0, .string ⟨#[]⟩, .slice none 0 0]
def zerosN : Nat → List Value
  | 0 => []
  | n + 1 => zeroN ++ zerosN n
theorem zerosN_len : ∀ n, (zerosN n).length = n * 4
  | 0 => rfl
  | n + 1 => by unfold zerosN; rw [List.length_append, zerosN_len n]; simp; omega
theorem set_at4 (vs r : List Value) (a b c d p q u y : Value) (n : Nat) (hn : vs.length = n) :
    ((((vs ++ (a :: b :: c :: d :: r)).set n p).set (n + 1) q).set (n + 2) u).set (n + 3) y = vs ++ (p :: q :: u :: y :: r) := by
  subst hn
  rw [List.set_append_right _ _ (Nat.le_refl _), Nat.sub_self, List.set_cons_zero, List.set_append_right _ _ (by omega), List.set_append_right _ _ (by omega), List.set_append_right _ _ (by omega)]
  rw [show vs.length + 1 - vs.length = 1 by omega, show vs.length + 2 - vs.length = 2 by omega, show vs.length + 3 - vs.length = 3 by omega]
  rfl
/-- The row of Kids in block g, filled so far. -/
def KInv (w0 : World) (g n : Nat) (js : List T) (wr : World) : Prop :=
  ButN g w0 wr ∧ ∃ vs, wr.heap[g]? = some (.cells (vs ++ zerosN (n - js.length)).toArray 27 (0, 0)) ∧ NsIn wr (g + 1) wr.heap.size js vs
theorem kinv_step {w0 wr w5 : World} {g n m i : Nat} {js : List T} {x : T} {p q u y : Value} (h : KInv w0 g n js wr) (hg : g < w0.heap.size) (hi : js.length = i) (hn : i < n)
    (hb : Below wr.heap.size wr w5) (hm : wr.heap.size ≤ m) (hm2 : m ≤ w5.heap.size) (hx : NIn w5 m w5.heap.size x [p, q, u, y]) :
    KInv w0 g n (js ++ [x]) ((((w5.setCell ⟨g, i * 4, none⟩ p).setCell ⟨g, i * 4 + 1, none⟩ q).setCell ⟨g, i * 4 + 2, none⟩ u).setCell ⟨g, i * 4 + 3, none⟩ y) := by
  subst hi
  obtain ⟨h1, vs, h2, h3⟩ := h
  have hgr : g < wr.heap.size := Nat.lt_of_lt_of_le hg h1.size
  have hl := NsIn.len js _ _ vs h3
  obtain ⟨d, hd⟩ : ∃ d, n - js.length = d + 1 := ⟨n - js.length - 1, by omega⟩
  have hd2 : n - (js ++ [x]).length = d := by rw [List.length_append, List.length_singleton]; omega
  have h5 := (hb.block g hgr).trans h2
  rw [hd] at h5
  have h6 := heap_setCell_same _ _ (js.length * 4 + 3) _ _ y (heap_setCell_same _ _ (js.length * 4 + 2) _ _ u (heap_setCell_same _ _ (js.length * 4 + 1) _ _ q (heap_setCell_same _ _ (js.length * 4) _ _ p h5)))
  have hsz : ((((w5.setCell ⟨g, js.length * 4, none⟩ p).setCell ⟨g, js.length * 4 + 1, none⟩ q).setCell ⟨g, js.length * 4 + 2, none⟩ u).setCell ⟨g, js.length * 4 + 3, none⟩ y).heap.size = w5.heap.size := by
    rw [(OnlyN.set g _ _ _).size, (OnlyN.set g _ _ _).size, (OnlyN.set g _ _ _).size, (OnlyN.set g _ _ _).size]
  have ho : ∀ k, k ≠ g → ((((w5.setCell ⟨g, js.length * 4, none⟩ p).setCell ⟨g, js.length * 4 + 1, none⟩ q).setCell ⟨g, js.length * 4 + 2, none⟩ u).setCell ⟨g, js.length * 4 + 3, none⟩ y).heap[k]? = w5.heap[k]? := fun k hk => by
    rw [(OnlyN.set g _ _ _).block k hk, (OnlyN.set g _ _ _).block k hk, (OnlyN.set g _ _ _).block k hk, (OnlyN.set g _ _ _).block k hk]
  have hB : ButN g w0 ((((w5.setCell ⟨g, js.length * 4, none⟩ p).setCell ⟨g, js.length * 4 + 1, none⟩ q).setCell ⟨g, js.length * 4 + 2, none⟩ u).setCell ⟨g, js.length * 4 + 3, none⟩ y) :=
    ((((h1.trans (ButN.of hb)).trans (ButN.set _ _ _ _)).trans (ButN.set _ _ _ _)).trans (ButN.set _ _ _ _)).trans (ButN.set _ _ _ _)
  generalize (((w5.setCell ⟨g, js.length * 4, none⟩ p).setCell ⟨g, js.length * 4 + 1, none⟩ q).setCell ⟨g, js.length * 4 + 2, none⟩ u).setCell ⟨g, js.length * 4 + 3, none⟩ y = wf at *
  refine ⟨hB, vs ++ [p, q, u, y], ?_, ?_⟩
  · rw [h6, hd2]
    simp only [List.setIfInBounds_toArray, zerosN, zeroN, List.cons_append, List.nil_append]
    rw [set_at4 _ _ _ _ _ _ _ _ _ _ _ hl, List.append_assoc]
    rfl
  · rw [hsz]
    refine NsIn.snoc (mid := m) ?_ hm2 js (g + 1) vs (by omega) ?_
    · exact NIn.world x _ _ _ (fun k hk _ => ho k (by omega)) hx
    · exact NsIn.mono js _ _ _ _ vs (Nat.le_refl _) hm (NsIn.world js _ _ vs (fun k h1' h2' => (ho k (by omega)).trans (hb.block k h2')) h3)
theorem zerosN_get : ∀ n j, j < n * 4 → (zerosN n)[j]? = zeroN[j % 4]?
  | 0, j, h => by omega
  | n + 1, j, h => by
    unfold zerosN
    rcases Nat.lt_or_ge j 4 with h4 | h4
    · rw [List.getElem?_append_left (by simpa using h4), Nat.mod_eq_of_lt h4]
    · rw [List.getElem?_append_right (by simpa using h4)]
      have := zerosN_get n (j - 4) (by omega)
      rw [show zeroN.length = 4 from rfl, this, show (j - 4) % 4 = j % 4 by omega]
theorem made_kids (n : Nat) : (madeCells (Value.agg #[.int .u8 0, .int .u8 0, .string ⟨#[]⟩, .slice none 0 0]).cells (n * 4)).toList = zerosN n := by
  have e : (Value.agg #[.int .u8 0, .int .u8 0, .string ⟨#[]⟩, .slice none 0 0]).cells = #[.int .u8 0, .int .u8 0, .string ⟨#[]⟩, .slice none 0 0] := rfl
  rw [e]
  apply List.ext_getElem?
  intro j
  rcases Nat.lt_or_ge j (n * 4) with h | h
  · rw [zerosN_get n j h]
    have h4 : j % 4 = 0 ∨ j % 4 = 1 ∨ j % 4 = 2 ∨ j % 4 = 3 := by omega
    rcases h4 with h4 | h4 | h4 | h4 <;> simp [madeCells, h, h4]
  · rw [List.getElem?_eq_none (by simp [madeCells]; exact h), List.getElem?_eq_none (by rw [zerosN_len]; exact h)]
/-- The row that make lays. -/
theorem kinv_first {wm wo : World} {g n B : Nat} (hown : wm.ownsRow B 27 4 (.slice (some ⟨g, 0, none⟩) n n) n (madeCells (Value.agg #[.int .u8 0, .int .u8 0, .string ⟨#[]⟩, .slice none 0 0]).cells (n * 4)).toList) (hn : 0 < n) (hw : wo.heap[g]? = wm.heap[g]?) : KInv wo g n [] wo := by
  refine ⟨ButN.refl _ _, [], ?_, by unfold NsIn; rfl⟩
  rw [hw, List.nil_append, List.length_nil, Nat.sub_zero]
  rw [made_kids] at hown
  rcases hown.2 with ⟨h1, h2⟩ | ⟨g', cap, cur, hv, h4, h5, h6⟩
  · omega
  · have he : g' = g ∧ cap = n := by
      injection hv with e1 e2 e3
      injection e1 with e1
      injection e1 with e1 _ _
      exact ⟨e1.symm, e3.symm⟩
    obtain ⟨rfl, rfl⟩ := he
    obtain ⟨_, _, hc, ht⟩ := h6
    rw [h5, ← ht, List.take_of_length_le (by rw [Array.length_toList, hc]; exact Nat.le_refl _)]
/-- The four cells that are filled next. -/
theorem kinv_cells {w0 wr w5 : World} {g n i : Nat} {js : List T} (h : KInv w0 g n js wr) (hg : g < w0.heap.size) (hi : js.length = i) (hn : i < n) (hb : Below wr.heap.size wr w5) :
    w5.cell? ⟨g, i * 4, none⟩ = some (.int .u8 0) ∧ w5.cell? ⟨g, i * 4 + 1, none⟩ = some (.int .u8 0) ∧ w5.cell? ⟨g, i * 4 + 2, none⟩ = some (.string ⟨#[]⟩) ∧ w5.cell? ⟨g, i * 4 + 3, none⟩ = some (.slice none 0 0) ∧ ∀ o, w5.frozen? ⟨g, o, none⟩ = false := by
  subst hi
  obtain ⟨h1, vs, h2, h3⟩ := h
  have hl := NsIn.len js _ _ vs h3
  obtain ⟨d, hd⟩ : ∃ d, n - js.length = d + 1 := ⟨n - js.length - 1, by omega⟩
  rw [hd] at h2
  have h5 := (hb.block g (Nat.lt_of_lt_of_le hg h1.size)).trans h2
  have key : ∀ j, j < 4 → w5.cell? ⟨g, js.length * 4 + j, none⟩ = zeroN[j]? := fun j hj => by
    rw [cellH h5, List.getElem?_toArray, List.getElem?_append_right (by omega), hl, Nat.add_sub_cancel_left, zerosN, List.getElem?_append_left (by simpa using hj)]
  exact ⟨key 0 (by omega), key 1 (by omega), key 2 (by omega), key 3 (by omega), fun o => Lib.frozen_of_heap h5 o⟩
/-- The out tree, told: its box R. -/
theorem copied_end {W wr : World} {k : Nat} {t : Tok} {ls : List T} {R lo : Nat} {a b c z0 z1 z2 z3 : Value} {p : Option Addr} {cc : Nat} (hBr : Below W.heap.size W wr) (hWR : W.heap.size ≤ R) (hlo : R < lo)
    (hN : NIn wr lo wr.heap.size (.mk k t ls) (cellsN (.mk k t ls) p cc)) (hR : wr.heap[R]? = some (.cells #[z0, z1, z2, z3] 27 (0, 0))) :
    NIn ((((wr.setCell ⟨R, 0, none⟩ a).setCell ⟨R, 1, none⟩ b).setCell ⟨R, 2, none⟩ c).setCell ⟨R, 3, none⟩ (.slice p ls.length cc)) W.heap.size ((((wr.setCell ⟨R, 0, none⟩ a).setCell ⟨R, 1, none⟩ b).setCell ⟨R, 2, none⟩ c).setCell ⟨R, 3, none⟩ (.slice p ls.length cc)).heap.size (.mk k t ls) (cellsN (.mk k t ls) p cc) ∧
    Below W.heap.size W ((((wr.setCell ⟨R, 0, none⟩ a).setCell ⟨R, 1, none⟩ b).setCell ⟨R, 2, none⟩ c).setCell ⟨R, 3, none⟩ (.slice p ls.length cc)) ∧
    ((((wr.setCell ⟨R, 0, none⟩ a).setCell ⟨R, 1, none⟩ b).setCell ⟨R, 2, none⟩ c).setCell ⟨R, 3, none⟩ (.slice p ls.length cc)).heap[R]? = some (.cells #[a, b, c, .slice p ls.length cc] 27 (0, 0)) := by
  have hBf := (((hBr.setCell (p := ⟨R, 0, none⟩) hWR a).setCell (p := ⟨R, 1, none⟩) hWR b).setCell (p := ⟨R, 2, none⟩) hWR c).setCell (p := ⟨R, 3, none⟩) hWR (.slice p ls.length cc)
  have hbox := box_fourN hR a b c (.slice p ls.length cc)
  have o : ∀ i, i ≠ R → ((((wr.setCell ⟨R, 0, none⟩ a).setCell ⟨R, 1, none⟩ b).setCell ⟨R, 2, none⟩ c).setCell ⟨R, 3, none⟩ (.slice p ls.length cc)).heap[i]? = wr.heap[i]? := fun i hk => by
    rw [(OnlyN.set R _ 3 _).block i hk, (OnlyN.set R _ 2 _).block i hk, (OnlyN.set R _ 1 _).block i hk, (OnlyN.set R _ 0 _).block i hk]
  have sz : ((((wr.setCell ⟨R, 0, none⟩ a).setCell ⟨R, 1, none⟩ b).setCell ⟨R, 2, none⟩ c).setCell ⟨R, 3, none⟩ (.slice p ls.length cc)).heap.size = wr.heap.size := by
    rw [(OnlyN.set R _ 3 _).size, (OnlyN.set R _ 2 _).size, (OnlyN.set R _ 1 _).size, (OnlyN.set R _ 0 _).size]
  generalize (((wr.setCell ⟨R, 0, none⟩ a).setCell ⟨R, 1, none⟩ b).setCell ⟨R, 2, none⟩ c).setCell ⟨R, 3, none⟩ (.slice p ls.length cc) = wf at *
  refine ⟨?_, hBf, hbox⟩
  rw [sz]
  exact NIn.mono _ lo _ _ _ _ (by omega) (Nat.le_refl _) (NIn.world _ _ _ _ (fun i h1 h2 => o i (by omega)) hN)
theorem kinv_tree {w0 wr : World} {g : Nat} {k : Nat} {t : Tok} {ls : List T} (h : KInv w0 g ls.length ls wr) (hg : g < w0.heap.size) : NIn wr g wr.heap.size (.mk k t ls) (cellsN (.mk k t ls) (some ⟨g, 0, none⟩) ls.length) := by
  obtain ⟨h1, vs, h2, h3⟩ := h
  rw [Nat.sub_self, zerosN, List.append_nil] at h2
  unfold NIn
  exact ⟨_, _, vs, rfl, .inr ⟨g, rfl, rfl, Nat.le_refl _, Nat.lt_of_lt_of_le hg h1.size, h2, h3⟩⟩
end Go.Proofs.YtingfomfibhnhaaGreatDoor
