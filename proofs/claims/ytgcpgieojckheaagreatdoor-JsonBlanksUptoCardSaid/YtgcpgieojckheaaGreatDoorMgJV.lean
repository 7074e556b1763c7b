/-
  Values in memory: a value's four cells say a J; its blocks are among S.
  The value's contract; an Array's element.
-/
import Derived.Test.YtgcpgieojckheaaGreatDoorMgJB
import Derived.Test.YtgcpgieojckheaaGreatDoorMgJH
import Derived.Laws.AppendOwn
import Derived.Deep.AppendLies
import Derived.Deep.RegionLaw
namespace Go.Proofs.YtgcpgieojckheaaGreatDoor.Json
open Go.RowKit Go.Shelf

/-- A slice of n elements of so many cells each: these cells, in a block of S. -/
def SlIn (S : Nat → Prop) (W : World) (v : Value) (size n : Nat) (xs : List Value) : Prop :=
  xs.length = n * size ∧ ∃ p cap, v = .slice p n cap ∧ n ≤ cap ∧ (n = 0 ∨ ∃ g o, p = some ⟨g, o, none⟩ ∧ S g ∧ g < W.heap.size ∧ ∀ (j : Nat) u, xs[j]? = some u → W.cell? ⟨g, o + j, none⟩ = some u)
theorem SlIn.mono {S S' : Nat → Prop} {W : World} {v : Value} {size n : Nat} {xs : List Value} (h : SlIn S W v size n xs) (hs : ∀ k, k < W.heap.size → S k → S' k) : SlIn S' W v size n xs := by
  obtain ⟨h1, p, cap, h2, h3, h4⟩ := h
  refine ⟨h1, p, cap, h2, h3, ?_⟩
  rcases h4 with h4 | ⟨g, o, h5, h6, h7, h8⟩
  · exact .inl h4
  · exact .inr ⟨g, o, h5, hs g h7 h6, h7, h8⟩
/-- What S says stays. -/
def Stays (S : Nat → Prop) (W W' : World) : Prop := W.heap.size ≤ W'.heap.size ∧ ∀ k, k < W.heap.size → S k → W'.heap[k]? = W.heap[k]?
theorem SlIn.world {S : Nat → Prop} {W W' : World} {v : Value} {size n : Nat} {xs : List Value} (h : SlIn S W v size n xs) (hs : Stays S W W') : SlIn S W' v size n xs := by
  obtain ⟨h1, p, cap, h2, h3, h4⟩ := h
  refine ⟨h1, p, cap, h2, h3, ?_⟩
  rcases h4 with h4 | ⟨g, o, h5, h6, h7, h8⟩
  · exact .inl h4
  · exact .inr ⟨g, o, h5, h6, Nat.lt_of_lt_of_le h7 hs.1, fun j u hj => (World.cell?_of_block (hs.2 g h7 h6)).trans (h8 j u hj)⟩
theorem SlIn.nil (S : Nat → Prop) (W : World) (size : Nat) : SlIn S W (.slice none 0 0) size 0 [] := ⟨by simp, none, 0, rfl, Nat.le_refl _, .inl rfl⟩
theorem SlIn.of_owns {S : Nat → Prop} {W : World} {B e size n : Nat} {v : Value} {xs : List Value} (h : W.ownsRow B e size v n xs) (hs : ∀ g, v.ownBlock = some g → S g) : SlIn S W v size n xs := by
  refine ⟨h.1, ?_⟩
  have hl := h.lt
  have hc := fun g (hg : v.ownBlock = some g) => World.ownsRow.cells h hg
  rcases h.2 with ⟨rfl, rfl⟩ | ⟨g, cap, cur, rfl, h2, h3, h4, h5, h6, h7⟩
  · exact ⟨none, 0, rfl, Nat.le_refl _, .inl rfl⟩
  · refine ⟨_, cap, rfl, h4, .inr ⟨g, 0, rfl, hs g rfl, (hl g rfl).2, fun j u hj => ?_⟩⟩
    have := hc g rfl j u hj
    have e : (⟨g, 0, none⟩ : Addr).add j = ⟨g, 0 + j, none⟩ := by rw [Nat.zero_add]; unfold Addr.add; split <;> simp_all
    rw [e] at this
    exact this
mutual
/-- These four cells say this value. -/
def JAt (S : Nat → Prop) (W : World) : J → List Value → Prop
  | .mk k t ns ls, cs => ∃ c d vs, cs = [.int .u8 k, bl t, c, d] ∧ SlIn S W c 1 ns.length (ns.map bl) ∧ SlIn S W d 4 ls.length vs ∧ JsAt S W ls vs
def JsAt (S : Nat → Prop) (W : World) : List J → List Value → Prop
  | [], vs => vs = []
  | j :: js, vs => ∃ a r, vs = a ++ r ∧ JAt S W j a ∧ JsAt S W js r
end
mutual
theorem JAt.mono {S S' : Nat → Prop} {W : World} (hs : ∀ k, k < W.heap.size → S k → S' k) : ∀ (j : J) (cs : List Value), JAt S W j cs → JAt S' W j cs
  | .mk k t ns ls, cs, h => by
    unfold JAt at h ⊢
    obtain ⟨c, d, vs, h1, h2, h3, h4⟩ := h
    exact ⟨c, d, vs, h1, h2.mono hs, h3.mono hs, JsAt.mono hs ls vs h4⟩
theorem JsAt.mono {S S' : Nat → Prop} {W : World} (hs : ∀ k, k < W.heap.size → S k → S' k) : ∀ (js : List J) (vs : List Value), JsAt S W js vs → JsAt S' W js vs
  | [], vs, h => by unfold JsAt at h ⊢; exact h
  | j :: js, vs, h => by
    unfold JsAt at h ⊢
    obtain ⟨a, r, h1, h2, h3⟩ := h
    exact ⟨a, r, h1, JAt.mono hs j a h2, JsAt.mono hs js r h3⟩
end
mutual
theorem JAt.world {S : Nat → Prop} {W W' : World} (hs : Stays S W W') : ∀ (j : J) (cs : List Value), JAt S W j cs → JAt S W' j cs
  | .mk k t ns ls, cs, h => by
    unfold JAt at h ⊢
    obtain ⟨c, d, vs, h1, h2, h3, h4⟩ := h
    exact ⟨c, d, vs, h1, h2.world hs, h3.world hs, JsAt.world hs ls vs h4⟩
theorem JsAt.world {S : Nat → Prop} {W W' : World} (hs : Stays S W W') : ∀ (js : List J) (vs : List Value), JsAt S W js vs → JsAt S W' js vs
  | [], vs, h => by unfold JsAt at h ⊢; exact h
  | j :: js, vs, h => by
    unfold JsAt at h ⊢
    obtain ⟨a, r, h1, h2, h3⟩ := h
    exact ⟨a, r, h1, JAt.world hs j a h2, JsAt.world hs js r h3⟩
end
theorem JsAt.snoc {S : Nat → Prop} {W : World} {j : J} {a : List Value} (hj : JAt S W j a) : ∀ (js : List J) (vs : List Value), JsAt S W js vs → JsAt S W (js ++ [j]) (vs ++ a)
  | [], vs, h => by
    unfold JsAt at h; subst h
    show JsAt S W [j] ([] ++ a)
    unfold JsAt; exact ⟨a, [], by simp, hj, by unfold JsAt; rfl⟩
  | i :: js, vs, h => by
    unfold JsAt at h
    obtain ⟨b, r, h1, h2, h3⟩ := h
    show JsAt S W (i :: (js ++ [j])) (vs ++ a)
    unfold JsAt
    exact ⟨b, r ++ a, by rw [h1, List.append_assoc], h2, JsAt.snoc hj js r h3⟩
theorem JAt.four {S : Nat → Prop} {W : World} {j : J} {cs : List Value} (h : JAt S W j cs) : ∃ a b c d, cs = [a, b, c, d] := by
  cases j
  unfold JAt at h
  obtain ⟨c, d, vs, h1, _⟩ := h
  exact ⟨_, _, c, d, h1⟩
/-- A value, as it is handed on. -/
def JVal (S : Nat → Prop) (W : World) (j : J) (v : Value) : Prop := ∃ a b c d, v = .agg #[a, b, c, d] ∧ JAt S W j [a, b, c, d]
theorem JVal.leaf (S : Nat → Prop) (W : World) (k : Nat) (t : List UInt8) : JVal S W (.mk k t [] []) (leafV k (bl t)) := by
  refine ⟨_, _, _, _, rfl, ?_⟩
  unfold JAt
  exact ⟨_, _, [], rfl, SlIn.nil _ _ _, SlIn.nil _ _ _, by unfold JsAt; rfl⟩
end Go.Proofs.YtgcpgieojckheaaGreatDoor.Json
namespace Go.Proofs.YtgcpgieojckheaaGreatDoor.Json
open Go.RowKit Go.Shelf

def TabsJ (W : World) : Prop := Tab0 W ∧ Tab W ∧ Lib.Utf8Tabs 6 7 W
theorem TabsJ.but {W w : World} {b : Nat} (h : TabsJ W) (hb : But b W w) (b8 : 8 ≤ b) (hz : 8 ≤ W.heap.size) : TabsJ w :=
  ⟨h.1.but hb (by omega), tab_but h.2.1 hb (by omega) (by omega), but_tabs h.2.2 hb b8 hz⟩
/-- What a value's reading ends in. -/
def ValEnd (W : World) (b : Nat) (s : ByteArray) (x y : Nat) : Got J → Ending → World → Prop
  | .ok (j, r, n), e, w' => ∃ k v, x ≤ k ∧ k ≤ s.size ∧ r = s.data.toList.drop k ∧ e = .returned v ∧ JVal (fun g => W.heap.size ≤ g) w' j v ∧ PAt w' b s k y n ∧ But b W w'
  | .error c, e, w' => Bad c b W e w'
theorem info47 : (Tryz.prog.info? 47).map (fun i => (i.zero, i.size, i.bytes)) = some (some (.agg #[.int .u8 0, .string ⟨#[]⟩, .slice none 0 0, .slice none 0 0]), 4, 72) := by kernel_rfl
theorem u45 : Tryz.prog.underlying 45 = some (.slice 47) := by kernel_rfl
theorem own_set {w : World} {B : Nat} {e : TypeId} {size n g cap : Nat} {xs : List Value} (h : w.ownsRow B e size (.slice (some ⟨g, 0, none⟩) n cap) n xs) (j : Nat) (u : Value) :
    (w.setCell ⟨g, j, none⟩ u).ownsRow B e size (.slice (some ⟨g, 0, none⟩) n cap) n (xs.set j u) := by
  refine ⟨by rw [List.length_set]; exact h.1, ?_⟩
  rcases h.2 with ⟨h1, _⟩ | ⟨g', cap', cur, hv, h2, h3, h4, h5, h6, h7⟩
  · cases h1
  · cases hv
    refine .inr ⟨g, cap, cur.setIfInBounds j u, rfl, h2, heap_setCell_same w g j _ _ _ h3, h4, h5, by simpa using h6, ?_⟩
    rw [Array.toList_setIfInBounds, List.take_set, h7]
/-- A list that is read: what it has so far. -/
def LstAt (W : World) (b P J B k : Nat) (ns : List (List UInt8)) (js : List Json.J) (w : World) : Prop :=
  But b W w ∧ (P ≠ b ∧ W.heap.size ≤ J) ∧ P < J ∧ J < B ∧ B ≤ w.heap.size ∧ w.heap[P]? = some (.cells #[.pointer (some ⟨b, 0, none⟩)] 87 (0, 0)) ∧
  ∃ nv lv xs, w.heap[J]? = some (.cells #[.int .u8 k, .string ⟨#[]⟩, nv, lv] 47 (0, 0)) ∧ w.ownsRow B 9 1 nv ns.length (ns.map bl) ∧ w.ownsRow B 47 4 lv js.length xs ∧
    JsAt (fun g => B ≤ g ∧ lv.ownBlock ≠ some g ∧ nv.ownBlock ≠ some g) w js xs
theorem own_four {w : World} {B g cap n : Nat} {xs : List Value} {p q u v : Value} (h : w.ownsRow B 47 4 (.slice (some ⟨g, 0, none⟩) (n + 1) cap) (n + 1) (xs ++ [p, q, u, v])) (hx : xs.length = n * 4) :
    w.cell? ⟨g, n * 4, none⟩ = some p ∧ w.cell? ⟨g, n * 4 + 1, none⟩ = some q ∧ w.cell? ⟨g, n * 4 + 2, none⟩ = some u ∧ w.cell? ⟨g, n * 4 + 3, none⟩ = some v ∧ ∀ j, w.frozen? ⟨g, j, none⟩ = false := by
  have hc : ∀ (j : Nat) t, (xs ++ [p, q, u, v])[j]? = some t → w.cell? ⟨g, j, none⟩ = some t := fun j t hj => by
    have := World.ownsRow.cells h rfl j t hj
    have e : (⟨g, 0, none⟩ : Addr).add j = ⟨g, j, none⟩ := by unfold Addr.add; split <;> simp_all
    rw [e] at this
    exact this
  refine ⟨hc _ _ ?_, hc _ _ ?_, hc _ _ ?_, hc _ _ ?_, ?_⟩
  · rw [List.getElem?_append_right (by omega), show n * 4 - xs.length = 0 by omega]; rfl
  · rw [List.getElem?_append_right (by omega), show n * 4 + 1 - xs.length = 1 by omega]; rfl
  · rw [List.getElem?_append_right (by omega), show n * 4 + 2 - xs.length = 2 by omega]; rfl
  · rw [List.getElem?_append_right (by omega), show n * 4 + 3 - xs.length = 3 by omega]; rfl
  · intro j
    rcases h.2 with ⟨h1, _⟩ | ⟨g', cap', cur, hv, h2, h3, _⟩
    · cases h1
    · cases hv; exact Lib.frozen_of_heap h3 j
theorem cell_but {w w' : World} {b k o : Nat} {v : Value} (hb : But b w w') (h1 : k < w.heap.size) (h2 : k ≠ b) (hc : w.cell? ⟨k, o, none⟩ = some v) : w'.cell? ⟨k, o, none⟩ = some v :=
  (World.cell?_of_block (a := ⟨k, o, none⟩) (hb.block k h1 h2)).trans hc
theorem own_but {w w' : World} {b B : Nat} {e : TypeId} {size n : Nat} {v : Value} {xs : List Value} (h : w.ownsRow B e size v n xs) (hb : But b w w') (hB : b < B) : w'.ownsRow B e size v n xs := by
  refine ⟨h.1, ?_⟩
  rcases h.2 with h2 | ⟨g, cap, cur, rfl, h4, h5, h6⟩
  · exact .inl h2
  · exact .inr ⟨g, cap, cur, rfl, h4, (hb.block g (Array.getElem?_eq_some_iff.1 h5).1 (by omega)).trans h5, h6⟩
def zeroL : List Value := [.int .u8 0, .string ⟨#[]⟩, .slice none 0 0, .slice none 0 0]
theorem zero_one : ∀ u ∈ zeroL, u.oneCell' = true := by intro u hu; simp [zeroL] at hu; rcases hu with rfl | rfl | rfl | rfl <;> simp [Value.oneCell']
theorem zero_news {w : World} {k : Nat} (h : w.heap[k]? = some (.cells #[.int .u8 0, .string ⟨#[]⟩, .slice none 0 0, .slice none 0 0] 47)) : ∀ (j : Nat) u, zeroL[j]? = some u → w.cell? ((⟨k, 0, none⟩ : Addr).add j) = some u :=
  World.news_of_block h
theorem own_far {w : World} {B J g cap n : Nat} {xs : List Value} (h : w.ownsRow B 47 4 (.slice (some ⟨g, 0, none⟩) (n + 1) cap) (n + 1) xs) (hJ : J < B) : J ≠ g := fun e => by
  have := (h.lt g rfl).1; omega
/-- The list's block, told for an append to a row of its own. -/
def JFar (J : Nat) (cs : Array Value) (row : Option Nat) (w : World) : Prop := w.heap[J]? = some (.cells cs 47 (0, 0)) ∧ some J ≠ row
theorem heap_grown {J : Nat} {cs : Array Value} {row : Option Nat} {w w' : World} (hg : w.grownBy w' row) (h : JFar J cs row w) : w'.heap[J]? = some (.cells cs 47 (0, 0)) :=
  (hg.block J (Array.getElem?_eq_some_iff.1 h.1).1 h.2).trans h.1
theorem cell_grown {J : Nat} {p q u v : Value} {row : Option Nat} {w w' : World} (hg : w.grownBy w' row) (h : JFar J #[p, q, u, v] row w) : w'.cell? ⟨J, 3, none⟩ = some v := by
  rw [Lib.cell_of_heap (heap_grown hg h)]; rfl
theorem cellJ {J : Nat} {p q u v : Value} {row : Option Nat} {w : World} (h : JFar J #[p, q, u, v] row w) : w.cell? ⟨J, 3, none⟩ = some v := by
  rw [Lib.cell_of_heap h.1]; rfl
theorem froz_grown {J : Nat} {cs : Array Value} {row : Option Nat} {w w' : World} (hg : w.grownBy w' row) (h : JFar J cs row w) : w'.frozen? ⟨J, 3, none⟩ = false := Lib.frozen_of_heap (heap_grown hg h) 3
theorem val_ok {W : World} {b : Nat} {s : ByteArray} {x y n : Nat} {j : Json.J} {r : List UInt8} {e : Ending} {w' : World} (h : ValEnd W b s x y (.ok (j, r, n)) e w') :
    ∃ (k kd : Nat) (tx : ByteArray) (pc : Option Addr) (nc cc : Nat) (pd : Option Addr) (nd cd : Nat), x ≤ k ∧ k ≤ s.size ∧ r = s.data.toList.drop k ∧ e = .returned (.agg #[.int .u8 kd, .string tx, .slice pc nc cc, .slice pd nd cd]) ∧
      JAt (fun g => W.heap.size ≤ g) w' j [.int .u8 kd, .string tx, .slice pc nc cc, .slice pd nd cd] ∧ PAt w' b s k y n ∧ But b W w' := by
  obtain ⟨k, v, h1, h2, h3, h4, ⟨va, vb, vc, vd, rfl, h5⟩, h6, h7⟩ := h
  cases j with
  | mk kk tt ns ls =>
    have h5' := h5
    unfold JAt at h5
    obtain ⟨c, d, vs, he, ⟨_, pc, cc, hc, _⟩, ⟨_, pd, cd, hd, _⟩, _⟩ := h5
    simp only [List.cons.injEq, and_true] at he
    obtain ⟨rfl, rfl, rfl, rfl⟩ := he
    subst hc hd
    exact ⟨k, kk, ⟨tt.toArray⟩, pc, _, cc, pd, _, cd, h1, h2, h3, h4, h5', h6, h7⟩
theorem LstAt.form {w : World} {B size n : Nat} {e : TypeId} {v : Value} {xs : List Value} (h : w.ownsRow B e size v n xs) : ∃ po co, v = .slice po n co := by
  rcases h.2 with ⟨h1, h2⟩ | ⟨g, cap, cur, h1, _⟩
  · subst h2; exact ⟨none, 0, h1⟩
  · exact ⟨_, cap, h1⟩
/-- A list whose row has grown by an element that is still being stored. -/
def Mid (W : World) (b P J B K : Nat) (s : ByteArray) (k y z : Nat) (nv : Value) (ns : List (List UInt8)) (g n cap : Nat) (js : List Json.J) (vs : List Value) (jl : Value) (row : List Value) (w0 w : World) : Prop :=
  ((P ≠ b ∧ W.heap.size ≤ J) ∧ P < J ∧ J < B ∧ B ≤ w.heap.size ∧ b < W.heap.size ∧ B ≤ g ∧ nv.ownBlock ≠ some g) ∧
  PAt w b s k y z ∧ But b W w ∧ w.heap[P]? = some (.cells #[.pointer (some ⟨b, 0, none⟩)] 87 (0, 0)) ∧ w.heap[J]? = some (.cells #[.int .u8 K, .string ⟨#[]⟩, nv, jl] 47 (0, 0)) ∧
  w.ownsRow B 9 1 nv ns.length (ns.map bl) ∧ w.ownsRow B 47 4 (.slice (some ⟨g, 0, none⟩) (n + 1) cap) (n + 1) row ∧
  JsAt (fun i => B ≤ i ∧ (Value.slice (some ⟨g, 0, none⟩) (n + 1) cap).ownBlock ≠ some i ∧ nv.ownBlock ≠ some i) w js vs ∧
  ∀ i, i < B → i ≠ b → i ≠ J → w.heap[i]? = w0.heap[i]?
theorem Mid.setg {W : World} {b P J B K : Nat} {s : ByteArray} {k y z : Nat} {nv : Value} {ns : List (List UInt8)} {g n cap : Nat} {js : List Json.J} {vs : List Value} {jl : Value} {row : List Value} {w0 w : World}
    (h : Mid W b P J B K s k y z nv ns g n cap js vs jl row w0 w) (j : Nat) (u : Value) : Mid W b P J B K s k y z nv ns g n cap js vs jl (row.set j u) w0 (w.setCell ⟨g, j, none⟩ u) := by
  obtain ⟨⟨a1, a2, a3, a4, a5, a6, a7⟩, h1, h2, h3, h4, h5, h6, h7, h8⟩ := h
  have ho := Only.set g w j u
  refine ⟨⟨a1, a2, a3, by rw [ho.size]; exact a4, a5, a6, a7⟩, h1.other (by omega), h2.fresh (by omega), (ho.block P (by omega)).trans h3, (ho.block J (by omega)).trans h4, ownsRow_setCell_other h5 a7 u, own_set h6 j u, ?_, fun i h9 h10 h11 => (ho.block i (by omega)).trans (h8 i h9 h10 h11)⟩
  exact JsAt.world ⟨Nat.le_of_eq ho.size.symm, fun i _ hi => ho.block i (fun e => hi.2.1 (by rw [e]; rfl))⟩ js vs h7
theorem Mid.setJ {W : World} {b P J B K : Nat} {s : ByteArray} {k y z : Nat} {nv : Value} {ns : List (List UInt8)} {g n cap : Nat} {js : List Json.J} {vs : List Value} {jl : Value} {row : List Value} {w0 w : World}
    (h : Mid W b P J B K s k y z nv ns g n cap js vs jl row w0 w) (u : Value) : Mid W b P J B K s k y z nv ns g n cap js vs u row w0 (w.setCell ⟨J, 3, none⟩ u) := by
  obtain ⟨⟨a1, a2, a3, a4, a5, a6, a7⟩, h1, h2, h3, h4, h5, h6, h7, h8⟩ := h
  have ho := Only.set J w 3 u
  have hJ : ∀ i, some i = some J → i = J := fun i e => by cases e; rfl
  refine ⟨⟨a1, a2, a3, by rw [ho.size]; exact a4, a5, a6, a7⟩, h1.other (by omega), h2.fresh (by omega), (ho.block P (by omega)).trans h3, heap_setCell_same w J 3 _ _ _ h4, ownsRow_setCell_other h5 (fun e => by have := (h5.lt J e).1; omega) u, ownsRow_setCell_other h6 (fun e => by have := (h6.lt J e).1; omega) u, ?_, fun i h9 h10 h11 => (ho.block i h11).trans (h8 i h9 h10 h11)⟩
  exact JsAt.world ⟨Nat.le_of_eq ho.size.symm, fun i _ hi => ho.block i (fun e => by have := hi.1; omega)⟩ js vs h7
theorem set_four {xs : List Value} {n : Nat} {p q u v a b c d : Value} (hx : xs.length = n * 4) : ((((xs ++ [p, q, u, v]).set (n * 4) a).set (n * 4 + 1) b).set (n * 4 + 2) c).set (n * 4 + 3) d = xs ++ [a, b, c, d] := by
  rw [← hx]
  simp
theorem Mid.end {W : World} {b P J B K : Nat} {s : ByteArray} {k y z : Nat} {nv : Value} {ns : List (List UInt8)} {g cap : Nat} {js : List Json.J} {j : Json.J} {vs : List Value} {w0 w : World}
    (h : Mid W b P J B K s k y z nv ns g js.length cap (js ++ [j]) vs (.slice (some ⟨g, 0, none⟩) (js.length + 1) cap) vs w0 w) : PAt w b s k y z ∧ LstAt W b P J B K ns (js ++ [j]) w ∧ ∀ i, i < B → i ≠ b → i ≠ J → w.heap[i]? = w0.heap[i]? := by
  obtain ⟨⟨a1, a2, a3, a4, a5, a6, a7⟩, h1, h2, h3, h4, h5, h6, h7, h8⟩ := h
  refine ⟨h1, ⟨h2, a1, a2, a3, a4, h3, nv, _, vs, h4, h5, ?_, h7⟩, h8⟩
  rw [List.length_append]; exact h6
theorem own_kind {w : World} {B : Nat} {e : TypeId} {size n : Nat} {v : Value} {xs : List Value} (h : w.ownsRow B e size v n xs) : ∀ g, v.ownBlock = some g → ∃ c fz, w.heap[g]? = some (.cells c e fz) := by
  intro g hg
  rcases h.2 with ⟨rfl, _⟩ | ⟨g', cap, cur, rfl, _, h3, _⟩
  · simp [Value.ownBlock] at hg
  · have e : g' = g := by simpa [Value.ownBlock] using hg
    exact ⟨cur, (0, 0), by rw [← e]; exact h3⟩
theorem Mid.mk' {W : World} {b P J B K : Nat} {s : ByteArray} {k y z : Nat} {nv lv : Value} {ns : List (List UInt8)} {g cap : Nat} {js : List Json.J} {xs : List Value} {j : Json.J} {four news : List Value} {w wx w2 : World}
    (hbut : But b W w) (hWP : P ≠ b ∧ W.heap.size ≤ J) (hPJ : P < J) (hJB : J < B) (hBw : B ≤ w.heap.size) (hbW : b < W.heap.size) (hhP : w.heap[P]? = some (.cells #[.pointer (some ⟨b, 0, none⟩)] 87 (0, 0)))
    (hhJ : w.heap[J]? = some (.cells #[.int .u8 K, .string ⟨#[]⟩, nv, lv] 47 (0, 0))) (hown1 : w.ownsRow B 9 1 nv ns.length (ns.map bl)) (hown2 : w.ownsRow B 47 4 lv js.length xs)
    (hjs : JsAt (fun g => B ≤ g ∧ lv.ownBlock ≠ some g ∧ nv.ownBlock ≠ some g) w js xs)
    (hbx : But b w wx) (hP : PAt wx b s k y z) (hj : JAt (fun g => w.heap.size ≤ g) wx j four)
    (hgrow : wx.grownBy w2 lv.ownBlock) (hown3 : w2.ownsRow B 47 4 (.slice (some ⟨g, 0, none⟩) (js.length + 1) cap) (js.length + 1) (xs ++ news)) (hat : lv.ownBlock = some g ∨ g = wx.heap.size) :
    Mid W b P J B K s k y z nv ns g js.length cap (js ++ [j]) (xs ++ four) lv (xs ++ news) w w2 := by
  have hsz := hbx.size
  have hbl := hown2.lt
  have hnl := hown1.lt
  have hkind : ∀ i, nv.ownBlock = some i → lv.ownBlock ≠ some i := fun i h1 h2 => by
    obtain ⟨c1, f1, e1⟩ := own_kind hown1 i h1
    obtain ⟨c2, f2, e2⟩ := own_kind hown2 i h2
    rw [e1] at e2; injection e2 with e2; cases e2
  have hnw : wx.ownsRow B 9 1 nv ns.length (ns.map bl) := own_but hown1 hbx (by omega)
  have hn2 : w2.ownsRow B 9 1 nv ns.length (ns.map bl) := hnw.kept hgrow (by
    cases hq : nv.ownBlock with
    | none => exact .inl rfl
    | some i => exact .inr (fun e => hkind i hq e.symm))
  have hgB : B ≤ g := (hown3.lt g rfl).1
  have hng : nv.ownBlock ≠ some g := fun e => by
    rcases hat with h | h
    · exact hkind g e h
    · have := (hnl g e).2; omega
  have far : ∀ i, i < B → some i ≠ lv.ownBlock := fun i hi e => by have := (hbl i e.symm).1; omega
  have key : ∀ i, i < wx.heap.size → lv.ownBlock ≠ some i → (Value.slice (some ⟨g, 0, none⟩) (js.length + 1) cap).ownBlock ≠ some i := fun i hi h e => by
    have e : g = i := by simpa [Value.ownBlock] using e
    rcases hat with h' | h'
    · exact h (by rw [h', e])
    · omega
  have hB2 : But b W w2 := by
    have hb := hbut.trans hbx
    have := hbut.size
    exact ⟨hgrow.os.trans hb.os, hgrow.tape.trans hb.tape, hgrow.output.trans hb.output, Nat.le_trans hb.size hgrow.size, fun i hi hib => (hgrow.block i (by omega) (far i (by omega))).trans (hb.block i hi hib)⟩
  refine ⟨⟨hWP, hPJ, hJB, by have := hgrow.size; omega, hbW, hgB, hng⟩, (hgrow.block b (by omega) (far b (by omega))).trans hP, hB2, (hgrow.block P (by omega) (far P (by omega))).trans ((hbx.block P (by omega) (by omega)).trans hhP), (hgrow.block J (by omega) (far J (by omega))).trans ((hbx.block J (by omega) (by omega)).trans hhJ), hn2, hown3, ?_, fun i h9 h10 h11 => (hgrow.block i (by omega) (far i h9)).trans (hbx.block i (by omega) h10)⟩
  have st : Stays (fun i => (B ≤ i ∧ lv.ownBlock ≠ some i ∧ nv.ownBlock ≠ some i) ∧ (Value.slice (some ⟨g, 0, none⟩) (js.length + 1) cap).ownBlock ≠ some i) wx w2 := ⟨hgrow.size, fun i hi h => hgrow.block i hi (fun e => h.1.2.1 e.symm)⟩
  refine JsAt.snoc ?_ js xs ?_
  · refine JAt.mono (S := fun i => (B ≤ i ∧ lv.ownBlock ≠ some i ∧ nv.ownBlock ≠ some i) ∧ (Value.slice (some ⟨g, 0, none⟩) (js.length + 1) cap).ownBlock ≠ some i) (fun i _ h => ⟨h.1.1, h.2, h.1.2.2⟩) j four ?_
    refine JAt.world st j four (JAt.mono (fun i hi h => ?_) j four hj)
    have h1 : lv.ownBlock ≠ some i := fun e => by have := (hbl i e).2; have h : w.heap.size ≤ i := h; omega
    have h2 : nv.ownBlock ≠ some i := fun e => by have := (hnl i e).2; have h : w.heap.size ≤ i := h; omega
    exact ⟨⟨Nat.le_trans hBw h, h1, h2⟩, key i hi h1⟩
  · refine JsAt.mono (S := fun i => (B ≤ i ∧ lv.ownBlock ≠ some i ∧ nv.ownBlock ≠ some i) ∧ (Value.slice (some ⟨g, 0, none⟩) (js.length + 1) cap).ownBlock ≠ some i) (fun i _ h => ⟨h.1.1, h.2, h.1.2.2⟩) js xs ?_
    refine JsAt.world st js xs (JsAt.mono (fun i hi h => ⟨h, key i hi h.2.1⟩) js xs (JsAt.world ⟨hsz, fun i hi h => hbx.block i hi (by have := h.1; omega)⟩ js xs hjs))
set_option maxRecDepth 100000 in
set_option maxHeartbeats 16000000 in
theorem arr_ok (W : World) (b P J B : Nat) (js : List Json.J) (w : World) (s : ByteArray) (x y z : Nat) (j : Json.J) (r : List UInt8) (n2 : Nat)
    (hL : LstAt W b P J B 6 [] js w) (hP : PAt w b s x y z) (hT : TabsJ w) (hb8 : 8 ≤ b) (hbW : b < W.heap.size) (h8 : 8 ≤ w.heap.size) (hn : js.length < 1000000)
    (hV : ∀ w, PAt w b s x y z → TabsJ w → Calls Tryz.prog 93 #[.pointer (some ⟨b, 0, none⟩)] w (ValEnd w b s x y (.ok (j, r, n2)))) :
    Calls Tryz.prog 183 #[.pointer (some ⟨J, 0, none⟩), .pointer (some ⟨P, 0, none⟩)] w fun e w' => ∃ k, x ≤ k ∧ k ≤ s.size ∧ r = s.data.toList.drop k ∧ e = .returned NoVal ∧ PAt w' b s k y n2 ∧ LstAt W b P J B 6 [] (js ++ [j]) w' ∧ ∀ i, i < B → i ≠ b → i ≠ J → w'.heap[i]? = w.heap[i]? := by
  obtain ⟨hbut, hWP, hPJ, hJB, hBw, hhP, nv, lv, xs, hhJ, hown1, hown2, hjs⟩ := hL
  have cP : w.cell? ⟨P, 0, none⟩ = some (.pointer (some ⟨b, 0, none⟩)) := by rw [Lib.cell_of_heap hhP]; rfl
  have cJ : w.cell? ⟨J, 3, none⟩ = some lv := by rw [Lib.cell_of_heap hhJ]; rfl
  have fJ : w.frozen? ⟨J, 3, none⟩ = false := Lib.frozen_of_heap hhJ 3
  obtain ⟨i47, hi, hz0, hz1, hz2⟩ := info_parts info47
  obtain ⟨po, co, rfl⟩ := LstAt.form hown2
  have hblt := hP.lt
  have hJlt : J < w.heap.size := by omega
  have hPlt : P < w.heap.size := by omega
  have hbB0 : b < B := by omega
  have hPb : P ≠ b := fun e => by rw [e] at hhP; rw [hP] at hhP; cases hhP
  have hJb : J ≠ b := fun e => by rw [e] at hhJ; rw [hP] at hhJ; cases hhJ
  have hP8 : TabsJ w := hT
  obtain ⟨o, ho⟩ : ∃ o, Obj.cells #[.int .u8 0, .string ⟨#[]⟩, .slice none 0 0, .slice none 0 0] 47 = o := ⟨_, rfl⟩
  have hbA : Below w.heap.size w w.drew := (Below.refl w.heap.size w).drew
  have hbB : Below w.heap.size w ((w.alloc o).drew) := ((Below.refl w.heap.size w).alloc (Nat.le_refl _) o).drew
  have hJA : J < w.drew.heap.size := hJlt
  have hJB2 : J < ((w.alloc o).drew).heap.size := Nat.lt_of_lt_of_le hJlt hbB.size
  have hPA : P < w.drew.heap.size := hPlt
  have hPB2 : P < ((w.alloc o).drew).heap.size := Nat.lt_of_lt_of_le hPlt hbB.size
  have dJA : w.drew.cell? ⟨J, 3, none⟩ = some (.slice po js.length co) := (hbA.cell (p := ⟨J, 3, none⟩) hJlt).trans cJ
  have dJB : ((w.alloc o).drew).cell? ⟨J, 3, none⟩ = some (.slice po js.length co) := (hbB.cell (p := ⟨J, 3, none⟩) hJlt).trans cJ
  have dPB : ((w.alloc o).drew).cell? ⟨P, 0, none⟩ = some (.pointer (some ⟨b, 0, none⟩)) := (hbB.cell (p := ⟨P, 0, none⟩) hPlt).trans cP
  have Wf1 : ∀ {w1}, But b w.drew w1 → (w1.alloc o).ownsRow B 47 4 (.slice po js.length co) js.length xs := fun h => own_but hown2 (((But.of hbA).trans h).trans (But.of (galloc (Below.refl _ _) o))) (by omega)
  have Wf2 : ∀ {w1}, But b ((w.alloc o).drew) w1 → w1.ownsRow B 47 4 (.slice po js.length co) js.length xs := fun h => own_but hown2 ((But.of hbB).trans h) (by omega)
  have hxl : xs.length = js.length * 4 := hown2.1
  have hJrow : some J ≠ (Value.slice po js.length co).ownBlock := fun e => by have := (hown2.lt J e.symm).1; omega
  have Jf1 : ∀ {w1}, But b w.drew w1 → JFar J #[.int .u8 6, .string ⟨#[]⟩, nv, .slice po js.length co] (Value.slice po js.length co).ownBlock (w1.alloc o) := fun h => ⟨((((But.of hbA).trans h).trans (But.of (galloc (Below.refl _ _) o))).block J hJlt hJb).trans hhJ, hJrow⟩
  have Jf2 : ∀ {w1}, But b ((w.alloc o).drew) w1 → JFar J #[.int .u8 6, .string ⟨#[]⟩, nv, .slice po js.length co] (Value.slice po js.length co).ownBlock w1 := fun h => ⟨(((But.of hbB).trans h).block J hJlt hJb).trans hhJ, hJrow⟩
  have Nf1 : ∀ w1 : World, ∀ (j : Nat) u, zeroL[j]? = some u → (w1.alloc o).cell? ((⟨w1.heap.size, 0, none⟩ : Addr).add j) = some u := fun w1 => zero_news (by rw [← ho]; exact heap_alloc_new w1 _)
  have Nf2 : ∀ {w1}, But b ((w.alloc o).drew) w1 → ∀ (j : Nat) u, zeroL[j]? = some u → w1.cell? ((⟨w.heap.size, 0, none⟩ : Addr).add j) = some u := fun h => zero_news ((h.block w.heap.size (by simp) (by omega)).trans (by rw [← ho]; exact heap_alloc_new w _))
  have Sf1 : ∀ {w1}, But b w.drew w1 → B ≤ (w1.alloc o).heap.size := fun h => by have := h.size; simp at this ⊢; omega
  have Sf2 : ∀ {w1}, But b ((w.alloc o).drew) w1 → B ≤ w1.heap.size := fun h => by have := h.size; simp at this ⊢; omega
  have Bf1 : ∀ {w1}, But b w.drew w1 → But b w (w1.alloc o) := fun h => ((But.of hbA).trans h).trans (But.of (galloc (Below.refl _ _) o))
  have Bf2 : ∀ {w1}, But b ((w.alloc o).drew) w1 → But b w w1 := fun h => (But.of hbB).trans h
  have Ef1 : ∀ {w1 : World} {four}, But b w.drew w1 → JAt (fun g => w.drew.heap.size ≤ g) w1 j four → JAt (fun g => w.heap.size ≤ g) (w1.alloc o) j four := fun {w1} {_} _ h => JAt.world ⟨by simp, fun i hi _ => (galloc (Below.refl w1.heap.size w1) o).block i hi⟩ j _ h
  have Ef2 : ∀ {w1 : World} {four}, But b ((w.alloc o).drew) w1 → JAt (fun g => ((w.alloc o).drew).heap.size ≤ g) w1 j four → JAt (fun g => w.heap.size ≤ g) w1 j four := fun _ h => JAt.mono (fun i _ hi => by simp at hi; omega) j _ h
  have HHP := Lib.hid hhP
  have HHJ := Lib.hid hhJ
  have HJS := Lib.hid hjs
  have HO2 := Lib.hid hown2
  have HO1 := Lib.hid hown1
  have HB := Lib.hid hbut
  have HBA := Lib.hid hbA
  have HBB := Lib.hid hbB
  have HP := Lib.hid hP
  have HPA := Lib.hid (hP.below hbA)
  have HPB := Lib.hid (hP.below hbB)
  have HTA : Hid (TabsJ w.drew) := Lib.hid (hT.but (But.of hbA) hb8 h8)
  have HTB : Hid (TabsJ ((w.alloc o).drew)) := Lib.hid (hT.but (But.of hbB) hb8 h8)
  clear hbut hjs hown1 hown2 hP hT hP8 hbA hbB
  go_enter Tryz.func183, Tryz.ntmps183
  go_wp2_with fail
  have hm1 : js.length + 1 ≤ maxLen := by unfold maxLen; omega
  have hm2 : (js.length + 1) * 72 ≤ 140737488355328 := by omega
  have hidx : (js.length : Int) < (js.length : Int) + 1 := by omega
  go_region_law (first
    | (refine step_append_lies _ (by rfl) _ _ _ (by rfl) B 47 i47 (.agg #[.int .u8 0, .string ⟨#[]⟩, .slice none 0 0, .slice none 0 0]) 4 72 u45 hi hz0 hz1 hz2 rfl (by decide) (.slice po js.length co) js.length xs (by rfl) HW.out ⟨w1.heap.size, 0, none⟩ 1 1 zeroL (by rfl) rfl HN.out zero_one (by decide) hm1 hm2 HS.out _ rfl ?_; intro g1 cap1 w2 hown3 hgrow hat hlt1; obtain ⟨d0, d1, d2, d3, df⟩ := own_four hown3 hxl; have hne1 := own_far hown3 hJB; have cJ2 := cell_grown hgrow HO3.out; have fJ2 := froz_grown hgrow HO3.out; have HM := Lib.hid (Mid.mk' HB.out hWP hPJ hJB hBw hbW HHP.out HHJ.out HO1.out HO2.out HJS.out HBX.out HPX.out HJX.out hgrow hown3 hat))
    | (refine step_append_lies _ (by rfl) _ _ _ (by rfl) B 47 i47 (.agg #[.int .u8 0, .string ⟨#[]⟩, .slice none 0 0, .slice none 0 0]) 4 72 u45 hi hz0 hz1 hz2 rfl (by decide) (.slice po js.length co) js.length xs (by rfl) HW.out ⟨w.heap.size, 0, none⟩ 1 1 zeroL (by rfl) rfl HN.out zero_one (by decide) hm1 hm2 HS.out _ rfl ?_; intro g1 cap1 w2 hown3 hgrow hat hlt1; obtain ⟨d0, d1, d2, d3, df⟩ := own_four hown3 hxl; have hne1 := own_far hown3 hJB; have cJ2 := cell_grown hgrow HO3.out; have fJ2 := froz_grown hgrow HO3.out; have HM := Lib.hid (Mid.mk' HB.out hWP hPJ hJB hBw hbW HHP.out HHJ.out HO1.out HO2.out HJS.out HBX.out HPX.out HJX.out hgrow hown3 hat))
    | (go_simp; go_at_call 93; with_reducible (refine Calls.mono (hV w.drew HPA.out HTA.out) ?_); intro e w1 he; obtain ⟨k, kd, tx, pc, nc, cc, pd, nd, cd, hxk, hks, hr, rfl, hjv, hP1, hb1⟩ := val_ok he; have cJ1 := cell_but hb1 hJA hJb dJA; have HW := Lib.hid (Wf1 hb1); have HO3 := Lib.hid (Jf1 hb1); have cJ1b := cellJ HO3.out;  have HN := Lib.hid (Nf1 w1); have HS := Lib.hid (Sf1 hb1); have HBX := Lib.hid (Bf1 hb1); have HPX : Hid (PAt (w1.alloc o) b s k y n2) := Lib.hid (hP1.below (galloc (Below.refl _ _) o)); have HJX := Lib.hid (Ef1 hb1 hjv))
    | (go_simp; (try rw [ho]); go_at_call 93; with_reducible (refine Calls.mono (hV ((w.alloc o).drew) HPB.out HTB.out) ?_); intro e w1 he; obtain ⟨k, kd, tx, pc, nc, cc, pd, nd, cd, hxk, hks, hr, rfl, hjv, hP1, hb1⟩ := val_ok he; have cJ1 := cell_but hb1 hJB2 hJb dJB; have HW := Lib.hid (Wf2 hb1); have HO3 := Lib.hid (Jf2 hb1);  have HN := Lib.hid (Nf2 hb1); have HS := Lib.hid (Sf2 hb1); have HBX := Lib.hid (Bf2 hb1); have HPX := Lib.hid hP1; have HJX := Lib.hid (Ef2 hb1 hjv)))
  all_goals go_end0
  all_goals (clear hV Wf1 Wf2 Nf1 Nf2 Sf1 Sf2 Jf1 Jf2 Bf1 Bf2 Ef1 Ef2)
  all_goals first
    | (have hz := ((((HM.out.setg (js.length * 4) (.int .u8 kd)).setg (js.length * 4 + 1) (.string tx)).setg (js.length * 4 + 2) (.slice pc nc cc)).setg (js.length * 4 + 3) (.slice pd nd cd)).setJ (.slice (some ⟨g1, 0, none⟩) (js.length + 1) cap1); unfold zeroL at hz; rw [set_four hxl] at hz; have he := hz.end; clear hz; refine ⟨k, hxk, hks, hr, rfl, ?_⟩; with_reducible exact he)
    | (have hz := ((((HM.out.setJ (.slice (some ⟨g1, 0, none⟩) (js.length + 1) cap1)).setg (js.length * 4) (.int .u8 kd)).setg (js.length * 4 + 1) (.string tx)).setg (js.length * 4 + 2) (.slice pc nc cc)).setg (js.length * 4 + 3) (.slice pd nd cd); unfold zeroL at hz; rw [set_four hxl] at hz; have he := hz.end; clear hz; refine ⟨k, hxk, hks, hr, rfl, ?_⟩; with_reducible exact he)
end Go.Proofs.YtgcpgieojckheaaGreatDoor.Json
