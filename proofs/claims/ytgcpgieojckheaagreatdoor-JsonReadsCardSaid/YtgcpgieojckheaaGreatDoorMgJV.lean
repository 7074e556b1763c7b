/-
  Values in memory: a value's four cells say a J; its blocks are among S.
-/
import Derived.Test.YtgcpgieojckheaaGreatDoorMgJB
import Derived.Test.YtgcpgieojckheaaGreatDoorMgJL
import Derived.Laws.AppendOwn
namespace Go.Proofs.YtgcpgieojckheaaGreatDoor.Json
open Go.RowKit Go.Shelf

/-- A slice of n elements of so many cells each: these cells, in a block of S. -/
def SlIn (S : Nat → Prop) (W : World) (v : Value) (size n : Nat) (xs : List Value) : Prop :=
  xs.length = n * size ∧ ∃ p cap, v = .slice p n cap ∧ n ≤ cap ∧ (n = 0 ∨ ∃ g o, p = some ⟨g, o, none⟩ ∧ S g ∧ g < W.heap.size ∧ ∀ (j : Nat) u, xs[j]? = some u → W.cell? ⟨g, o + j, none⟩ = some u)
theorem SlIn.mono {S S' : Nat → Prop} {W : World} {v : Value} {size n : Nat} {xs : List Value} (h : SlIn S W v size n xs) (hs : ∀ k, k < W.heap.size → S k → S' k) : SlIn S' W v size n xs := by
  obtain ⟨h1, p, cap, h2, h3, h4⟩ := h
  refine ⟨h1, p, cap, h2, h3, ?_⟩
  rcases h4 with h4 | ⟨g, o, h5, h6, h7, h8⟩
  · exact .inl h4
  · exact .inr ⟨g, o, h5, hs g h7 h6, h7, h8⟩
/-- What S says stays. -/
def Stays (S : Nat → Prop) (W W' : World) : Prop := W.heap.size ≤ W'.heap.size ∧ ∀ k, k < W.heap.size → S k → W'.heap[k]? = W.heap[k]?
theorem SlIn.world {S : Nat → Prop} {W W' : World} {v : Value} {size n : Nat} {xs : List Value} (h : SlIn S W v size n xs) (hs : Stays S W W') : SlIn S W' v size n xs := by
  obtain ⟨h1, p, cap, h2, h3, h4⟩ := h
  refine ⟨h1, p, cap, h2, h3, ?_⟩
  rcases h4 with h4 | ⟨g, o, h5, h6, h7, h8⟩
  · exact .inl h4
  · exact .inr ⟨g, o, h5, h6, Nat.lt_of_lt_of_le h7 hs.1, fun j u hj => (World.cell?_of_block (hs.2 g h7 h6)).trans (h8 j u hj)⟩
theorem SlIn.nil (S : Nat → Prop) (W : World) (size : Nat) : SlIn S W (.slice none 0 0) size 0 [] := ⟨by simp, none, 0, rfl, Nat.le_refl _, .inl rfl⟩
theorem SlIn.of_owns {S : Nat → Prop} {W : World} {B e size n : Nat} {v : Value} {xs : List Value} (h : W.ownsRow B e size v n xs) (hs : ∀ g, v.ownBlock = some g → S g) : SlIn S W v size n xs := by
  refine ⟨h.1, ?_⟩
  have hl := h.lt
  have hc := fun g (hg : v.ownBlock = some g) => World.ownsRow.cells h hg
  rcases h.2 with ⟨rfl, rfl⟩ | ⟨g, cap, cur, rfl, h2, h3, h4, h5, h6, h7⟩
  · exact ⟨none, 0, rfl, Nat.le_refl _, .inl rfl⟩
  · refine ⟨_, cap, rfl, h4, .inr ⟨g, 0, rfl, hs g rfl, (hl g rfl).2, fun j u hj => ?_⟩⟩
    have := hc g rfl j u hj
    have e : (⟨g, 0, none⟩ : Addr).add j = ⟨g, 0 + j, none⟩ := by rw [Nat.zero_add]; unfold Addr.add; split <;> simp_all
    rw [e] at this
    exact this
mutual
/-- These four cells say this value. -/
def JAt (S : Nat → Prop) (W : World) : J → List Value → Prop
  | .mk k t ns ls, cs => ∃ c d vs, cs = [.int .u8 k, bl t, c, d] ∧ SlIn S W c 1 ns.length (ns.map bl) ∧ SlIn S W d 4 ls.length vs ∧ JsAt S W ls vs
def JsAt (S : Nat → Prop) (W : World) : List J → List Value → Prop
  | [], vs => vs = []
  | j :: js, vs => ∃ a r, vs = a ++ r ∧ JAt S W j a ∧ JsAt S W js r
end
mutual
theorem JAt.mono {S S' : Nat → Prop} {W : World} (hs : ∀ k, k < W.heap.size → S k → S' k) : ∀ (j : J) (cs : List Value), JAt S W j cs → JAt S' W j cs
  | .mk k t ns ls, cs, h => by
    unfold JAt at h ⊢
    obtain ⟨c, d, vs, h1, h2, h3, h4⟩ := h
    exact ⟨c, d, vs, h1, h2.mono hs, h3.mono hs, JsAt.mono hs ls vs h4⟩
theorem JsAt.mono {S S' : Nat → Prop} {W : World} (hs : ∀ k, k < W.heap.size → S k → S' k) : ∀ (js : List J) (vs : List Value), JsAt S W js vs → JsAt S' W js vs
  | [], vs, h => by unfold JsAt at h ⊢; exact h
  | j :: js, vs, h => by
    unfold JsAt at h ⊢
    obtain ⟨a, r, h1, h2, h3⟩ := h
    exact ⟨a, r, h1, JAt.mono hs j a h2, JsAt.mono hs js r h3⟩
end
mutual
theorem JAt.world {S : Nat → Prop} {W W' : World} (hs : Stays S W W') : ∀ (j : J) (cs : List Value), JAt S W j cs → JAt S W' j cs
  | .mk k t ns ls, cs, h => by
    unfold JAt at h ⊢
    obtain ⟨c, d, vs, h1, h2, h3, h4⟩ := h
    exact ⟨c, d, vs, h1, h2.world hs, h3.world hs, JsAt.world hs ls vs h4⟩
theorem JsAt.world {S : Nat → Prop} {W W' : World} (hs : Stays S W W') : ∀ (js : List J) (vs : List Value), JsAt S W js vs → JsAt S W' js vs
  | [], vs, h => by unfold JsAt at h ⊢; exact h
  | j :: js, vs, h => by
    unfold JsAt at h ⊢
    obtain ⟨a, r, h1, h2, h3⟩ := h
    exact ⟨a, r, h1, JAt.world hs j a h2, JsAt.world hs js r h3⟩
end
theorem JsAt.snoc {S : Nat → Prop} {W : World} {j : J} {a : List Value} (hj : JAt S W j a) : ∀ (js : List J) (vs : List Value), JsAt S W js vs → JsAt S W (js ++ [j]) (vs ++ a)
  | [], vs, h => by
    unfold JsAt at h; subst h
    show JsAt S W [j] ([] ++ a)
    unfold JsAt; exact ⟨a, [], by simp, hj, by unfold JsAt; rfl⟩
  | i :: js, vs, h => by
    unfold JsAt at h
    obtain ⟨b, r, h1, h2, h3⟩ := h
    show JsAt S W (i :: (js ++ [j])) (vs ++ a)
    unfold JsAt
    exact ⟨b, r ++ a, by rw [h1, List.append_assoc], h2, JsAt.snoc hj js r h3⟩
theorem JAt.four {S : Nat → Prop} {W : World} {j : J} {cs : List Value} (h : JAt S W j cs) : ∃ a b c d, cs = [a, b, c, d] := by
  cases j
  unfold JAt at h
  obtain ⟨c, d, vs, h1, _⟩ := h
  exact ⟨_, _, c, d, h1⟩
/-- A value, as it is handed on. -/
def JVal (S : Nat → Prop) (W : World) (j : J) (v : Value) : Prop := ∃ a b c d, v = .agg #[a, b, c, d] ∧ JAt S W j [a, b, c, d]
theorem JVal.leaf (S : Nat → Prop) (W : World) (k : Nat) (t : List UInt8) : JVal S W (.mk k t [] []) (leafV k (bl t)) := by
  refine ⟨_, _, _, _, rfl, ?_⟩
  unfold JAt
  exact ⟨_, _, [], rfl, SlIn.nil _ _ _, SlIn.nil _ _ _, by unfold JsAt; rfl⟩
end Go.Proofs.YtgcpgieojckheaaGreatDoor.Json
