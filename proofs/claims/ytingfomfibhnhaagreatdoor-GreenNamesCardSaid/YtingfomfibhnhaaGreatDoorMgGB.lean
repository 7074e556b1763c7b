/-
  Trees in memory: a node's four cells say a T; its blocks are among S.
  A range over a function whose iterator keeps its place in cells of its own: the law.
  What the iterator's own steps turn, what a round keeps; the path in memory.
-/
import Derived.Test.YtingfomfibhnhaaGreatDoorMgGA
import Derived.Laws.AppendOwn
import Derived.RangeFuncNested
import Derived.RangeFuncBound
import Derived.RangeFuncCalls
import Derived.Below
namespace Go.Proofs.YtingfomfibhnhaaGreatDoor
open Go.RowKit Go.Shelf

/-- A slice of n elements of so many cells each: these cells, in a block of S. -/
def SlIn (S : Nat → Prop) (W : World) (v : Value) (size n : Nat) (xs : List Value) : Prop :=
  xs.length = n * size ∧ ∃ p cap, v = .slice p n cap ∧ n ≤ cap ∧ (n = 0 ∨ ∃ g o, p = some ⟨g, o, none⟩ ∧ S g ∧ g < W.heap.size ∧ ∀ (j : Nat) u, xs[j]? = some u → W.cell? ⟨g, o + j, none⟩ = some u)
theorem SlIn.mono {S S' : Nat → Prop} {W : World} {v : Value} {size n : Nat} {xs : List Value} (h : SlIn S W v size n xs) (hs : ∀ k, k < W.heap.size → S k → S' k) : SlIn S' W v size n xs := by
  obtain ⟨h1, p, cap, h2, h3, h4⟩ := h
  refine ⟨h1, p, cap, h2, h3, ?_⟩
  rcases h4 with h4 | ⟨g, o, h5, h6, h7, h8⟩
  · exact .inl h4
  · exact .inr ⟨g, o, h5, hs g h7 h6, h7, h8⟩
/-- What S says stays. -/
def Stays (S : Nat → Prop) (W W' : World) : Prop := W.heap.size ≤ W'.heap.size ∧ ∀ k, k < W.heap.size → S k → W'.heap[k]? = W.heap[k]?
theorem SlIn.world {S : Nat → Prop} {W W' : World} {v : Value} {size n : Nat} {xs : List Value} (h : SlIn S W v size n xs) (hs : Stays S W W') : SlIn S W' v size n xs := by
  obtain ⟨h1, p, cap, h2, h3, h4⟩ := h
  refine ⟨h1, p, cap, h2, h3, ?_⟩
  rcases h4 with h4 | ⟨g, o, h5, h6, h7, h8⟩
  · exact .inl h4
  · exact .inr ⟨g, o, h5, h6, Nat.lt_of_lt_of_le h7 hs.1, fun j u hj => (World.cell?_of_block (hs.2 g h7 h6)).trans (h8 j u hj)⟩
theorem SlIn.nil (S : Nat → Prop) (W : World) (size : Nat) : SlIn S W (.slice none 0 0) size 0 [] := ⟨by simp, none, 0, rfl, Nat.le_refl _, .inl rfl⟩
theorem SlIn.of_owns {S : Nat → Prop} {W : World} {B e size n : Nat} {v : Value} {xs : List Value} (h : W.ownsRow B e size v n xs) (hs : ∀ g, v.ownBlock = some g → S g) : SlIn S W v size n xs := by
  refine ⟨h.1, ?_⟩
  have hl := h.lt
  have hc := fun g (hg : v.ownBlock = some g) => World.ownsRow.cells h hg
  rcases h.2 with ⟨rfl, rfl⟩ | ⟨g, cap, cur, rfl, h2, h3, h4, h5, h6, h7⟩
  · exact ⟨none, 0, rfl, Nat.le_refl _, .inl rfl⟩
  · refine ⟨_, cap, rfl, h4, .inr ⟨g, 0, rfl, hs g rfl, (hl g rfl).2, fun j u hj => ?_⟩⟩
    have := hc g rfl j u hj
    have e : (⟨g, 0, none⟩ : Addr).add j = ⟨g, 0 + j, none⟩ := by rw [Nat.zero_add]; unfold Addr.add; split <;> simp_all
    rw [e] at this
    exact this
theorem SlIn.cellAt {S : Nat → Prop} {W : World} {p : Option Addr} {m cap size n : Nat} {xs : List Value} (h : SlIn S W (.slice p m cap) size n xs) (hn : 0 < n) : ∃ g o, p = some ⟨g, o, none⟩ ∧ ∀ (j : Nat) u, xs[j]? = some u → W.cell? ⟨g, o + j, none⟩ = some u := by
  obtain ⟨_, p2, cap2, h2, _, h4⟩ := h
  cases h2
  rcases h4 with h4 | ⟨g, o, h5, _, _, h8⟩
  · omega
  · exact ⟨g, o, h5, h8⟩
mutual
/-- These four cells say this node. -/
def NAt (S : Nat → Prop) (W : World) : T → List Value → Prop
  | .mk k t ks, cs => ∃ d vs, cs = [.int .u8 k, .int .u8 t.1, bl t.2, d] ∧ SlIn S W d 4 ks.length vs ∧ NsAt S W ks vs
def NsAt (S : Nat → Prop) (W : World) : List T → List Value → Prop
  | [], vs => vs = []
  | j :: js, vs => ∃ a r, vs = a ++ r ∧ NAt S W j a ∧ NsAt S W js r
end
mutual
theorem NAt.mono {S S' : Nat → Prop} {W : World} (hs : ∀ k, k < W.heap.size → S k → S' k) : ∀ (j : T) (cs : List Value), NAt S W j cs → NAt S' W j cs
  | .mk k t ks, cs, h => by
    unfold NAt at h ⊢
    obtain ⟨d, vs, h1, h2, h3⟩ := h
    exact ⟨d, vs, h1, h2.mono hs, NsAt.mono hs ks vs h3⟩
theorem NsAt.mono {S S' : Nat → Prop} {W : World} (hs : ∀ k, k < W.heap.size → S k → S' k) : ∀ (js : List T) (vs : List Value), NsAt S W js vs → NsAt S' W js vs
  | [], vs, h => by unfold NsAt at h ⊢; exact h
  | j :: js, vs, h => by
    unfold NsAt at h ⊢
    obtain ⟨a, r, h1, h2, h3⟩ := h
    exact ⟨a, r, h1, NAt.mono hs j a h2, NsAt.mono hs js r h3⟩
end
mutual
theorem NAt.world {S : Nat → Prop} {W W' : World} (hs : Stays S W W') : ∀ (j : T) (cs : List Value), NAt S W j cs → NAt S W' j cs
  | .mk k t ks, cs, h => by
    unfold NAt at h ⊢
    obtain ⟨d, vs, h1, h2, h3⟩ := h
    exact ⟨d, vs, h1, h2.world hs, NsAt.world hs ks vs h3⟩
theorem NsAt.world {S : Nat → Prop} {W W' : World} (hs : Stays S W W') : ∀ (js : List T) (vs : List Value), NsAt S W js vs → NsAt S W' js vs
  | [], vs, h => by unfold NsAt at h ⊢; exact h
  | j :: js, vs, h => by
    unfold NsAt at h ⊢
    obtain ⟨a, r, h1, h2, h3⟩ := h
    exact ⟨a, r, h1, NAt.world hs j a h2, NsAt.world hs js r h3⟩
end
theorem NsAt.snoc {S : Nat → Prop} {W : World} {j : T} {a : List Value} (hj : NAt S W j a) : ∀ (js : List T) (vs : List Value), NsAt S W js vs → NsAt S W (js ++ [j]) (vs ++ a)
  | [], vs, h => by
    unfold NsAt at h; subst h
    show NsAt S W [j] ([] ++ a)
    unfold NsAt; exact ⟨a, [], by simp, hj, by unfold NsAt; rfl⟩
  | i :: js, vs, h => by
    unfold NsAt at h
    obtain ⟨b, r, h1, h2, h3⟩ := h
    show NsAt S W (i :: (js ++ [j])) (vs ++ a)
    unfold NsAt
    exact ⟨b, r ++ a, by rw [h1, List.append_assoc], h2, NsAt.snoc hj js r h3⟩
/-- Anywhere. -/
abbrev AnyB : Nat → Prop := fun _ => True
theorem NAt.any {S : Nat → Prop} {W : World} {j : T} {cs : List Value} (h : NAt S W j cs) : NAt AnyB W j cs := NAt.mono (fun _ _ _ => trivial) j cs h
theorem NAt.below {W W' : World} {j : T} {cs : List Value} (h : NAt AnyB W j cs) (hb : Below W.heap.size W W') : NAt AnyB W' j cs := NAt.world ⟨hb.size, fun k hk _ => hb.block k hk⟩ j cs h
/-- Its form: the cells. -/
theorem NAt.form {S : Nat → Prop} {W : World} {k : Nat} {t : Tok} {ks : List T} {cs : List Value} (h : NAt S W (.mk k t ks) cs) :
    ∃ (p : Option Addr) (c : Nat) (vs : List Value), cs = [.int .u8 k, .int .u8 t.1, .string ⟨t.2.toArray⟩, .slice p ks.length c] ∧ SlIn S W (.slice p ks.length c) 4 ks.length vs ∧ NsAt S W ks vs := by
  unfold NAt at h
  obtain ⟨d, vs, rfl, h1, h2⟩ := h
  have h1' := h1
  obtain ⟨_, p, c, rfl, _⟩ := h1
  exact ⟨p, c, vs, rfl, h1', h2⟩
theorem NAt.make {S : Nat → Prop} {W : World} {k : Nat} {t : Tok} {ks : List T} {p : Option Addr} {c : Nat} {vs : List Value} (h1 : SlIn S W (.slice p ks.length c) 4 ks.length vs) (h2 : NsAt S W ks vs) :
    NAt S W (.mk k t ks) [.int .u8 k, .int .u8 t.1, .string ⟨t.2.toArray⟩, .slice p ks.length c] := by
  unfold NAt; exact ⟨_, vs, rfl, h1, h2⟩
theorem NAt.four {S : Nat → Prop} {W : World} {x : T} {cs : List Value} (h : NAt S W x cs) : ∃ (p : Option Addr) (c : Nat), cs = [.int .u8 x.kind, .int .u8 x.tok.1, .string ⟨x.tok.2.toArray⟩, .slice p x.kids.length c] := by
  obtain ⟨k, t, ks⟩ := x
  obtain ⟨p, c, vs, rfl, _, _⟩ := h.form
  exact ⟨p, c, rfl⟩
theorem NsAt.nth {S : Nat → Prop} {W : World} : ∀ (js : List T) (vs : List Value) (i : Nat) (j : T), NsAt S W js vs → js[i]? = some j →
    ∃ (p : Option Addr) (c : Nat), NAt S W j [.int .u8 j.kind, .int .u8 j.tok.1, .string ⟨j.tok.2.toArray⟩, .slice p j.kids.length c] ∧
      vs[i * 4]? = some (.int .u8 j.kind) ∧ vs[i * 4 + 1]? = some (.int .u8 j.tok.1) ∧ vs[i * 4 + 2]? = some (.string ⟨j.tok.2.toArray⟩) ∧ vs[i * 4 + 3]? = some (.slice p j.kids.length c)
  | [], vs, i, j, _, h => by simp at h
  | x :: r, vs, 0, j, hj, h => by
    simp at h; subst h
    unfold NsAt at hj
    obtain ⟨a, q, rfl, h1, _⟩ := hj
    obtain ⟨p, c, rfl⟩ := h1.four
    exact ⟨p, c, h1, rfl, rfl, rfl, rfl⟩
  | x :: r, vs, i + 1, j, hj, h => by
    simp at h
    unfold NsAt at hj
    obtain ⟨a, q, rfl, h1, h2⟩ := hj
    obtain ⟨p0, c0, rfl⟩ := h1.four
    obtain ⟨p, c, h3, g1, g2, g3, g4⟩ := NsAt.nth r q i j h2 h
    have e : ∀ (z : List Value) m, z.length = 4 → (z ++ q)[(i + 1) * 4 + m]? = q[i * 4 + m]? := fun z m hz => by
      rw [List.getElem?_append_right (by omega)]
      congr 1
      omega
    exact ⟨p, c, h3, (e _ 0 rfl).trans g1, (e _ 1 rfl).trans g2, (e _ 2 rfl).trans g3, (e _ 3 rfl).trans g4⟩
theorem NsAt.len {S : Nat → Prop} {W : World} : ∀ (js : List T) (vs : List Value), NsAt S W js vs → vs.length = js.length * 4
  | [], vs, h => by unfold NsAt at h; subst h; rfl
  | j :: js, vs, h => by
    unfold NsAt at h
    obtain ⟨a, r, rfl, h1, h2⟩ := h
    obtain ⟨p, c, rfl⟩ := h1.four
    have := NsAt.len js r h2
    simp only [List.length_append, List.length_cons, List.length_nil]; omega
theorem cell_in {W w : World} {p : Addr} {v : Value} (hb : Below W.heap.size W w) (h : W.cell? p = some v) : w.cell? p = some v := (hb.cell (World.block_lt_of_cell? W p h)).trans h
theorem galloc {w0 w : World} (h : Below w0.heap.size w0 w) (o : Obj) : Below w0.heap.size w0 (w.alloc o) := h.alloc h.size o
theorem gcall {w0 w w' : World} {n : Nat} (h : Below n w0 w) (hb : Below w.heap.size w w') (hn : n ≤ w.heap.size := by exact Below.size ‹_›) : Below n w0 w' := h.trans (hb.mono hn)
theorem box4 {W : World} {N : Nat} {a b c d : Value} (h : W.heap[N]? = some (.cells #[a, b, c, d] 27 (0, 0))) : W.cell? ⟨N, 0, none⟩ = some a ∧ W.cell? ⟨N, 1, none⟩ = some b ∧ W.cell? ⟨N, 2, none⟩ = some c ∧ W.cell? ⟨N, 3, none⟩ = some d :=
  ⟨by rw [cellH h]; rfl, by rw [cellH h]; rfl, by rw [cellH h]; rfl, by rw [cellH h]; rfl⟩
/-- A node's box. -/
abbrev boxN (x : T) (p : Option Addr) (c : Nat) : Obj := .cells #[.int .u8 x.kind, .int .u8 x.tok.1, .string ⟨x.tok.2.toArray⟩, .slice p x.kids.length c] 27 (0, 0)
/-- A node, as it is handed on. -/
abbrev aggN (x : T) (p : Option Addr) (c : Nat) : Value := .agg #[.int .u8 x.kind, .int .u8 x.tok.1, .string ⟨x.tok.2.toArray⟩, .slice p x.kids.length c]
abbrev cellsN (x : T) (p : Option Addr) (c : Nat) : List Value := [.int .u8 x.kind, .int .u8 x.tok.1, .string ⟨x.tok.2.toArray⟩, .slice p x.kids.length c]
theorem NAt.parts {S : Nat → Prop} {W : World} {x : T} {p : Option Addr} {c : Nat} (h : NAt S W x (cellsN x p c)) : ∃ vs, SlIn S W (.slice p x.kids.length c) 4 x.kids.length vs ∧ NsAt S W x.kids vs := by
  obtain ⟨k, t, ks⟩ := x
  unfold NAt at h
  obtain ⟨d, vs, h0, h1, h2⟩ := h
  simp only [List.cons.injEq] at h0
  obtain ⟨_, _, _, rfl, _⟩ := h0
  exact ⟨vs, h1, h2⟩
end Go.Proofs.YtingfomfibhnhaaGreatDoor
namespace Go.Proofs.YtingfomfibhnhaaGreatDoor
open Go.RowKit

/-- Where no depth is asked the figures are all one. -/
theorem round_deep {m m' : Nat} {P : Program} {l : Nat} {f : FuncId} {tmps : Array Value} {assign body : Code} {w : World} {R : Ending → World → Prop}
    (h : RoundIn Fence.wide m P l f tmps assign body w R) : RoundIn Fence.wide m' P l f tmps assign body w R :=
  ⟨h.1, fun c cs _ => h.2 c cs (fun d hd => by cases hd)⟩
theorem yield_deep {m m' : Nat} {P : Program} {l : Nat} {args : Array Value} {W : World} {R : Ending → World → Prop}
    (h : YieldAt Fence.wide m P l args W R) : YieldAt Fence.wide m' P l args W R := by
  obtain ⟨fn, tmps, assign, body, hy, hR⟩ := h
  exact ⟨fn, tmps, assign, body, hy, round_deep hR⟩

/-- What an iterator is told of a round: what is handed on (Enc), what goes on (Kp), what an invariant abides (St). -/
def Seq {α : Type} (P : Program) (gf : Nat) (lb : Array Value) (Enc : α → Array Value → World → Prop) (St Kp : World → World → Prop) (xs : List α) (W : World) : Prop :=
  ∀ (l : Nat) (J Jx : List α → World → Prop), (∀ s A B, J s A → St A B → J s B) →
    (∀ m pre x args W1, J pre W1 → Enc x args W1 → (pre ++ [x]) <+: xs → YieldAt Fence.wide m P l args W1 fun e W' =>
      (e = .returned (.bool true) ∧ J (pre ++ [x]) W' ∧ Kp W1 W') ∨ (e = .returned (.bool false) ∧ Jx (pre ++ [x]) W')) →
    J [] W →
    ∀ n, CallsIn Fence.wide n P gf (#[.func (.yield l) #[] #[]] ++ lb) W fun e W' => (∃ v, e = .returned v) ∧ (J xs W' ∨ ∃ pre, pre <+: xs ∧ Jx pre W')

/-- How a round's body may be left. -/
def leftBy {α : Type} (D : Nat) (Kp : World → World → Prop) (I : List α → World → Prop) (Ix : Code → List α → World → Prop) (s : List α) (W : World) : Exit → Act → World → Prop
  | .normal, _, W' => KeepsFrom D W W' ∧ Kp W W' ∧ I s W'
  | .ret, _, W' => KeepsFrom D W W' ∧ Ix .ret s W'
  | .exit i, _, W' => KeepsFrom D W W' ∧ Ix (.exit i) s W'
  | .goto t, _, W' => KeepsFrom D W W' ∧ Ix (.goto t) s W'
  | .panic _, _, _ => False
  | .outgrown, _, _ => False

variable {n : Nat} {P : Program}

theorem range_own {α : Type} {g : Operand} {ps : Array Tmp} {assign body : Code} {Q : Exit → Act → World → Prop} {a : Act} {w : World} {gf : Nat} {lb : Array Value}
    (hg : a.eval g = .func (.func gf) #[] lb) (eg : ∀ args w, (callFunc gf args).run P w = .ok (.enter gf args) w)
    (Enc : α → Array Value → World → Prop) (St Kp : World → World → Prop) (xs : List α) (hps : ∀ x args W, Enc x args W → args.size = ps.size)
    (hSt : ∀ A B, St A B → KeepsFrom w.heap.size A B)
    (hKt : ∀ A B C, Kp A B → Kp B C → Kp A C) (hKb : ∀ (W : World) (l : Nat) (o o' : Obj), w.heap.size ≤ l → W.heap[l]? = some o → o.isCells = false → Kp W (W.putObj l o'))
    (I : List α → World → Prop) (Ix : Code → List α → World → Prop)
    (hI : OwnFrom w.heap.size I) (hIx : ∀ c, OwnFrom w.heap.size (Ix c)) (hIS : ∀ s A B, I s A → St A B → I s B)
    (hseq : ∀ W1, Below w.heap.size w W1 → W1.heap.size = w.heap.size + 2 → Seq P gf lb Enc St Kp xs W1)
    (h0 : I [] w) (Ax : α → Array Value → Act → World → Prop) (hAx : ∀ x args a', OwnFrom w.heap.size (fun (_ : Unit) W => Ax x args a' W))
    (hassign : ∀ (l m : Nat) (pre : List α) (x : α) (args : Array Value) (W : World) (K : Act → World → Prop), w.heap.size < l → l < W.heap.size → I pre W → Enc x args W → (pre ++ [x]) <+: xs →
      (∀ a' W', KeepsFrom w.heap.size W W' → Kp W W' → I pre W' → Ax x args a' W' → K a' W') →
      assign.wpIn (Fence.wide.inRound l) m P (Exit.then K (fun _ _ _ => False)) { tmps := (ps.zip args).foldl (fun t (p, v) => t.setIfInBounds p v) a.tmps, defers := [] } W)
    (hbody : ∀ (l m : Nat) (pre : List α) (x : α) (args : Array Value) (a' : Act) (W : World), w.heap.size < l → l < W.heap.size → I pre W → Ax x args a' W → (pre ++ [x]) <+: xs →
      body.wpIn (Fence.wide.inRound l) m P (leftBy w.heap.size Kp I Ix (pre ++ [x]) W) a' W)
    (hdone : ∀ (E : Nat) (W : World), w.heap.size ≤ E → I xs W → W.heap[E]? = some (.deferred (some [])) → Q .normal { a with defers := { target := .collected E, args := #[] } :: a.defers } W)
    (hstop : ∀ (E : Nat) (c : Code) (pre : List α) (W : World), w.heap.size ≤ E → pre <+: xs → Ix c pre W → W.heap[E]? = some (.deferred (some [])) → c.wpIn Fence.wide n P Q { a with defers := { target := .collected E, args := #[] } :: a.defers } W) :
    (Code.rangeFunc g ps assign body).wpIn Fence.wide n P Q a w := by
  refine wpIn_rangeFunc ?_
  intro fn hfn
  obtain ⟨D, hD⟩ : ∃ D, w.heap.size = D := ⟨_, rfl⟩
  obtain ⟨rec, hrec⟩ : ∃ rec : LoopState → Option Code → Loop, rec = fun st pe => { state := st, pending := pe, fn, tmps := a.tmps, params := ps, assign, body, defers := D } := ⟨_, rfl⟩
  obtain ⟨W1, hW1⟩ : ∃ W1, (w.alloc (.deferred (some []))).alloc (.loop (rec .ready none)) = W1 := ⟨_, rfl⟩
  have hz1 : W1.heap.size = D + 2 := by rw [← hW1]; simp; omega
  have hb1 : Below D w W1 := by
    rw [← hW1, ← hD]; exact ((Below.refl _ w).alloc (Nat.le_refl _) _).alloc (by simp) _
  have hL1 : W1.heap[D + 1]? = some (.loop (rec .ready none)) := by
    have h := World.alloc_heap_new (w.alloc (.deferred (some []))) (.loop (rec .ready none))
    rw [World.size_alloc, hD] at h; rw [← hW1]; exact h
  have hK1 : W1.heap[D]? = some (.deferred (some [])) := by
    rw [← hW1, ← hD]; exact (Below.heap_alloc _ _ _ (by simp)).trans (World.alloc_heap_new w _)
  have hI1 : I [] W1 := by rw [← hW1]; exact hI.alloc _ (hI.alloc _ h0)
  rw [hD] at hSt hKb hI hIx hseq hAx hassign hbody hdone hstop
  refine ⟨D + 1, [{ target := .collected D, args := #[] }], W1, { target := .fn (.func gf) lb, args := #[.func (.yield (D + 1)) #[] #[]] }, W1, gf,
    #[.func (.yield (D + 1)) #[] #[]] ++ lb, W1, ?_, ?_, ?_, ?_, fun h => (by cases h), ?_⟩
  · rw [← hW1, hrec, ← hD]; exact run_enterLoop_outer _ _ _ _ _
  · simp only [resolve, hg]
    simp [go_sem]
  · intro f' hf'; simp [Target.leads] at hf'; subst hf'; trivial
  · simp [invoke, go_sem, eg]
  refine (hseq W1 hb1 hz1 (D + 1)
    (fun s W => I s W ∧ W.heap[D + 1]? = some (.loop (rec .ready none)) ∧ W.heap[D]? = some (.deferred (some [])))
    (fun s W => ∃ c, Ix c s W ∧ W.heap[D + 1]? = some (.loop (rec .done (some c))) ∧ W.heap[D]? = some (.deferred (some [])))
    (fun s A B h st => ⟨hIS s A B h.1 st, (hSt A B st).same _ _ (by omega) h.2.1 rfl, (hSt A B st).same _ _ (Nat.le_refl _) h.2.2 rfl⟩)
    ?_ ⟨hI1, hL1, hK1⟩ _).mono ?_
  · rintro m pre x args W ⟨hi, hl, hk⟩ henc hpre
    have hlt : D + 1 < W.heap.size := (Array.getElem?_eq_some_iff.1 hl).1
    have hy := run_yield (P := P) (args := args) hl (by rw [hrec]; exact hps x args W henc)
    rw [hrec] at hy
    refine ⟨fn, _, assign, body, hy, roundIn_of_wpIn hfn (hassign _ m pre x args W _ (by omega) hlt hi henc hpre ?_)⟩
    clear hy
    intro a' V hkf hkp hia hax
    have hlV := hkf.same _ _ (by omega) hl rfl
    have hkV := hkf.same _ _ (Nat.le_refl _) hk rfl
    have hltV : D + 1 < V.heap.size := (Array.getElem?_eq_some_iff.1 hlV).1
    refine ⟨_, run_beginRound hlV (by rw [hrec]), ?_⟩
    obtain ⟨V2, hV2⟩ : ∃ V2, V.putObj (D + 1) (.loop { rec .ready none with state := .busy }) = V2 := ⟨_, rfl⟩
    have hl2 : V2.heap[D + 1]? = some (.loop { rec .ready none with state := .busy }) := by rw [← hV2]; exact World.putObj_heap_same hltV
    have hk2 : V2.heap[D]? = some (.deferred (some [])) := by rw [← hV2]; exact (World.putObj_heap_other (by omega)).trans hkV
    have hkp2 : Kp V V2 := by rw [← hV2]; exact hKb _ _ _ _ (by omega) hlV rfl
    have hi2 : I pre V2 := by rw [← hV2]; exact hI.putObj _ hia (by omega) hlV rfl
    have hax2 : Ax x args a' V2 := by rw [← hV2]; exact (hAx x args a').putObj (s := ()) _ hax (by omega) hlV rfl
    rw [hV2]
    refine wpIn_mono (hbody _ m pre x args a' V2 (by omega) (Array.getElem?_eq_some_iff.1 hl2).1 hi2 hax2 hpre) ?_
    have fin : ∀ (jump : Option Code) (U : World), KeepsFrom D V2 U →
        (Instr.endRound (D + 1) jump).run P U = .ok (.bool jump.isNone) (U.putObj (D + 1) (.loop (rec (if jump.isNone then .ready else .done) jump))) ∧
        (∃ o, U.heap[D + 1]? = some o ∧ o.isCells = false) ∧
        (U.putObj (D + 1) (.loop (rec (if jump.isNone then .ready else .done) jump))).heap[D + 1]? = some (.loop (rec (if jump.isNone then .ready else .done) jump)) ∧
        (U.putObj (D + 1) (.loop (rec (if jump.isNone then .ready else .done) jump))).heap[D]? = some (.deferred (some [])) := fun jump U hu => by
      have h3 := hu.same _ _ (by omega) hl2 rfl
      have h4 := run_endRound (P := P) jump h3
      refine ⟨?_, ⟨_, h3, rfl⟩, World.putObj_heap_same (Array.getElem?_eq_some_iff.1 h3).1, (World.putObj_heap_other (by omega)).trans (hu.same _ _ (Nat.le_refl _) hk2 rfl)⟩
      rw [hrec] at h4 ⊢; exact h4
    have out : ∀ (c : Code) (U : World), KeepsFrom D V2 U → Ix c (pre ++ [x]) U → ∃ v U', (Instr.endRound (D + 1) (some c)).run P U = .ok v U' ∧
        ((Ending.returned v = .returned (.bool true) ∧ (I (pre ++ [x]) U' ∧ U'.heap[D + 1]? = some (.loop (rec .ready none)) ∧ U'.heap[D]? = some (.deferred (some []))) ∧ Kp W U') ∨
         (Ending.returned v = .returned (.bool false) ∧ ∃ c, Ix c (pre ++ [x]) U' ∧ U'.heap[D + 1]? = some (.loop (rec .done (some c))) ∧ U'.heap[D]? = some (.deferred (some [])))) := fun c U hu hx => by
      obtain ⟨hr, ⟨o, ho, hoc⟩, h1, h2⟩ := fin (some c) U hu
      exact ⟨_, _, hr, .inr ⟨rfl, c, (hIx c).putObj _ hx (by omega) ho hoc, h1, h2⟩⟩
    rintro e a3 U hp
    cases e with
    | normal =>
      obtain ⟨hu, hkp3, hi3⟩ := hp
      obtain ⟨hr, ⟨o, ho, hoc⟩, h1, h2⟩ := fin none U hu
      exact ⟨_, _, hr, .inl ⟨rfl, ⟨hI.putObj _ hi3 (by omega) ho hoc, h1, h2⟩, hKt _ _ _ hkp (hKt _ _ _ hkp2 (hKt _ _ _ hkp3 (hKb _ _ _ _ (by omega) ho hoc)))⟩⟩
    | ret => exact out .ret U hp.1 hp.2
    | exit i => exact out (.exit i) U hp.1 hp.2
    | goto t => exact out (.goto t) U hp.1 hp.2
    | panic c => exact hp.elim
    | outgrown => exact hp.elim
  · rintro e W2 ⟨⟨v, rfl⟩, (⟨hi, hl, hk⟩ | ⟨pre, hpre, c, hi, hl, hk⟩)⟩
    · have h4 := run_endLoop (P := P) hl (by rw [hrec]; simp)
      rw [hrec] at h4
      exact ⟨none, _, h4, hdone D _ (Nat.le_refl _) (hI.putObj _ hi (by omega) hl rfl) ((World.putObj_heap_other (by omega)).trans hk)⟩
    · have h4 := run_endLoop (P := P) hl (by rw [hrec]; simp)
      rw [hrec] at h4
      exact ⟨some c, _, h4, hstop D c pre _ (Nat.le_refl _) hpre ((hIx c).putObj _ hi (by omega) hl rfl) ((World.putObj_heap_other (by omega)).trans hk)⟩
end Go.Proofs.YtingfomfibhnhaaGreatDoor
namespace Go.Proofs.YtingfomfibhnhaaGreatDoor
open Go.RowKit Go.Shelf

/-- A block that the iterator may write over. -/
def FreeG (W : World) (k : Nat) : Prop := ∃ cs t fz, W.heap[k]? = some (.cells cs t fz) ∧ (t = 3 ∨ t = 88 ∨ t = 27)
/-- A world's step in which the blocks that say so (p) are kept. -/
structure StepG (p : World → Nat → Prop) (A B : World) : Prop where
  os : B.os = A.os
  tape : B.tape = A.tape
  output : B.output = A.output
  size : A.heap.size ≤ B.heap.size
  keep : ∀ k, k < A.heap.size → p A k → B.heap[k]? = A.heap[k]?
/-- The iterator's own steps: behind D no block is turned but those of its types. -/
abbrev StG (D : Nat) := StepG fun A k => k < D ∨ ¬ FreeG A k
/-- What a round keeps. -/
abbrev KpG (n0 D : Nat) := StepG fun A k => k < n0 ∨ (D ≤ k ∧ FreeG A k)
/-- What a visit keeps. -/
abbrev ViG (n0 D : Nat) := StepG fun A k => k < n0 ∨ (D ≤ k ∧ ∃ cs fz, A.heap[k]? = some (.cells cs 27 fz))
theorem StepG.refl (p : World → Nat → Prop) (A : World) : StepG p A A := ⟨rfl, rfl, rfl, Nat.le_refl _, fun _ _ _ => rfl⟩
theorem StepG.mono {p q : World → Nat → Prop} {A B : World} (h : StepG p A B) (hq : ∀ k, q A k → p A k) : StepG q A B := ⟨h.os, h.tape, h.output, h.size, fun k hk hp => h.keep k hk (hq k hp)⟩
theorem StepG.trans {p : World → Nat → Prop} {A B C : World} (h : StepG p A B) (h2 : StepG p B C) (hp : ∀ k, p A k → B.heap[k]? = A.heap[k]? → p B k) : StepG p A C :=
  ⟨h2.os.trans h.os, h2.tape.trans h.tape, h2.output.trans h.output, Nat.le_trans h.size h2.size, fun k hk hpk => by
    have e := h.keep k hk hpk
    exact (h2.keep k (Nat.lt_of_lt_of_le hk h.size) (hp k hpk e)).trans e⟩
theorem free_same {A B : World} {k : Nat} (e : B.heap[k]? = A.heap[k]?) : FreeG B k ↔ FreeG A k := by unfold FreeG; rw [e]
theorem StG.trans {D : Nat} {A B C : World} (h : StG D A B) (h2 : StG D B C) : StG D A C := StepG.trans h h2 fun _ hk e => hk.imp id fun h1 h3 => h1 ((free_same e).1 h3)
theorem KpG.trans {n0 D : Nat} {A B C : World} (h : KpG n0 D A B) (h2 : KpG n0 D B C) : KpG n0 D A C := StepG.trans h h2 fun _ hk e => hk.imp id fun h1 => ⟨h1.1, (free_same e).2 h1.2⟩
theorem ViG.trans {n0 D : Nat} {A B C : World} (h : ViG n0 D A B) (h2 : ViG n0 D B C) : ViG n0 D A C := StepG.trans h h2 fun _ hk e => hk.imp id fun h1 => ⟨h1.1, by rw [e]; exact h1.2⟩
theorem KpG.vi {n0 D : Nat} {A B : World} (h : KpG n0 D A B) : ViG n0 D A B := h.mono fun _ hk => hk.imp id fun ⟨h1, cs, fz, h2⟩ => ⟨h1, cs, 27, fz, h2, .inr (.inr rfl)⟩
theorem ViG.below {n0 D : Nat} {A B : World} (h : ViG n0 D A B) (hn : n0 ≤ A.heap.size) : Below n0 A B := ⟨h.os, h.tape, h.output, h.size, fun k hk => h.keep k (by omega) (.inl hk)⟩
/-- A step of the iterator's own. -/
structure OsG (n0 D : Nat) (A B : World) : Prop where
  st : StG D A B
  vi : ViG n0 D A B
theorem OsG.refl (n0 D : Nat) (A : World) : OsG n0 D A A := ⟨StepG.refl _ _, StepG.refl _ _⟩
theorem OsG.trans {n0 D : Nat} {A B C : World} (h : OsG n0 D A B) (h2 : OsG n0 D B C) : OsG n0 D A C := ⟨h.st.trans h2.st, h.vi.trans h2.vi⟩
theorem OsG.grown {n0 D : Nat} {A B : World} {row : Option Nat} (hn : n0 ≤ D) (hg : A.grownBy B row) (hr : ∀ r, row = some r → D ≤ r ∧ ∃ cs t fz, A.heap[r]? = some (.cells cs t fz) ∧ (t = 3 ∨ t = 88)) : OsG n0 D A B := by
  refine ⟨⟨hg.os, hg.tape, hg.output, hg.size, fun k hk hp => hg.block k hk fun e => ?_⟩, ⟨hg.os, hg.tape, hg.output, hg.size, fun k hk hp => hg.block k hk fun e => ?_⟩⟩
  · obtain ⟨h1, cs, t, fz, h2, h3⟩ := hr k e.symm
    rcases hp with hp | hp
    · omega
    · exact hp ⟨cs, t, fz, h2, h3.imp id .inl⟩
  · obtain ⟨h1, cs, t, fz, h2, h3⟩ := hr k e.symm
    rcases hp with hp | ⟨_, cs2, fz2, hp⟩
    · omega
    · rw [h2] at hp; cases hp; rcases h3 with h3 | h3 <;> cases h3
theorem OsG.alloc {n0 D : Nat} (hn : n0 ≤ D) (A : World) (o : Obj) : OsG n0 D A (A.alloc o) := OsG.grown hn (World.grownBy_alloc A o none) (fun r e => by cases e)
theorem grown_set (W : World) (b o : Nat) (v : Value) : W.grownBy (W.setCell ⟨b, o, none⟩ v) (some b) :=
  ⟨rfl, rfl, rfl, by simp, fun k _ hk => heap_setCell_other W ⟨b, o, none⟩ k v (fun e => hk (by rw [e]))⟩
theorem OsG.set {n0 D : Nat} (hn : n0 ≤ D) (A : World) {b : Nat} (o : Nat) (v : Value) {cs : Array Value} {t : TypeId} {fz : Nat × Nat} (h : A.heap[b]? = some (.cells cs t fz)) (ht : t = 3 ∨ t = 88) (hb : D ≤ b) : OsG n0 D A (A.setCell ⟨b, o, none⟩ v) :=
  OsG.grown hn (grown_set A b o v) (fun r e => by cases e; exact ⟨hb, cs, t, fz, h, ht⟩)
theorem OsG.below {n0 D : Nat} {A B : World} (h : Below A.heap.size A B) : OsG n0 D A B := ⟨⟨h.os, h.tape, h.output, h.size, fun k hk _ => h.block k hk⟩, ⟨h.os, h.tape, h.output, h.size, fun k hk _ => h.block k hk⟩⟩

/-! ### the path -/
abbrev ints (p : List Nat) : List Value := p.map fun i => .int .i64 (i : Nat)
/-- The walk's box at B, with a path of its own and what is called of each Leaf. -/
def PathAt (D l B : Nat) (p : List Nat) (W : World) : Prop := ∃ pv, W.heap[B]? = some (.cells #[pv, .func (.yield l) #[] #[]] 88 (0, 0)) ∧ W.ownsRow D 3 1 pv p.length (ints p)
theorem row_keep {D n e : Nat} {v : Value} {xs : List Value} {W W' : World} (h : W.ownsRow D e 1 v n xs) (hk : ∀ g cs, D ≤ g → W.heap[g]? = some (.cells cs e (0, 0)) → W'.heap[g]? = W.heap[g]?) : W'.ownsRow D e 1 v n xs := by
  obtain ⟨h1, h2⟩ := h
  refine ⟨h1, ?_⟩
  rcases h2 with h2 | ⟨g, cap, cur, h3, h4, h5, h6⟩
  · exact .inl h2
  · exact .inr ⟨g, cap, cur, h3, h4, (hk g cur h4 h5).trans h5, h6⟩
theorem PathAt.kp {n0 D l B : Nat} {p : List Nat} {W W' : World} (h : PathAt D l B p W) (hk : KpG n0 D W W') (hB : D ≤ B) : PathAt D l B p W' := by
  obtain ⟨pv, h1, h2⟩ := h
  refine ⟨pv, (hk.keep B (Array.getElem?_eq_some_iff.1 h1).1 (.inr ⟨hB, _, 88, _, h1, .inr (.inl rfl)⟩)).trans h1, row_keep h2 fun g cs hg hc => ?_⟩
  exact hk.keep g (Array.getElem?_eq_some_iff.1 hc).1 (.inr ⟨hg, cs, 3, _, hc, .inl rfl⟩)
/-- What a round is handed. -/
def EncG (n0 D : Nat) (x : List Nat × T) (args : Array Value) (W : World) : Prop := ∃ pv p c, args = #[pv, aggN x.2 p c] ∧ W.ownsRow D 3 1 pv x.1.length (ints x.1) ∧ NAt (· < n0) W x.2 (cellsN x.2 p c)
theorem NAt.vi {n0 D : Nat} {W W' : World} {x : T} {cs : List Value} (h : NAt (· < n0) W x cs) (hv : ViG n0 D W W') : NAt (· < n0) W' x cs := NAt.world ⟨hv.size, fun k hk h0 => hv.keep k hk (.inl h0)⟩ x cs h
theorem NsAt.vi {n0 D : Nat} {W W' : World} {x : List T} {cs : List Value} (h : NsAt (· < n0) W x cs) (hv : ViG n0 D W W') : NsAt (· < n0) W' x cs := NsAt.world ⟨hv.size, fun k hk h0 => hv.keep k hk (.inl h0)⟩ x cs h
theorem SlIn.vi {n0 D : Nat} {W W' : World} {v : Value} {size n : Nat} {cs : List Value} (h : SlIn (· < n0) W v size n cs) (hv : ViG n0 D W W') : SlIn (· < n0) W' v size n cs := h.world ⟨hv.size, fun k hk h0 => hv.keep k hk (.inl h0)⟩
/-- The rounds of an iterator over a tree's Leaves. -/
def RoundsG (P : Program) (n0 D l : Nat) (xs : List (List Nat × T)) (J Jx : List (List Nat × T) → World → Prop) : Prop :=
  ∀ m pre x args W1, J pre W1 → EncG n0 D x args W1 → (pre ++ [x]) <+: xs → YieldAt Fence.wide m P l args W1 fun e W' =>
    (e = .returned (.bool true) ∧ J (pre ++ [x]) W' ∧ KpG n0 D W1 W') ∨ (e = .returned (.bool false) ∧ Jx (pre ++ [x]) W')
def VisitEnd (J Jx : List (List Nat × T) → World → Prop) (n0 D l B : Nat) (xs : List (List Nat × T)) (p : List Nat) (x : T) (pre : List (List Nat × T)) (W : World) (e : Ending) (W' : World) : Prop :=
  (e = .returned (.bool true) ∧ J (pre ++ leavesT p x) W' ∧ PathAt D l B p W' ∧ ViG n0 D W W') ∨ (e = .returned (.bool false) ∧ ∃ q, q <+: xs ∧ Jx q W')
/-- The path, a step longer and a step shorter. -/
theorem ints_snoc (p : List Nat) (i : Nat) : ints (p ++ [i]) = ints p ++ [.int .i64 i] := by simp [ints]
theorem path_set {D l B : Nat} {p : List Nat} {z : Nat} {W : World} {g cap : Nat} (hB : W.heap[B]? = some (.cells #[.slice (some ⟨g, 0, none⟩) (p.length + 1) cap, .func (.yield l) #[] #[]] 88 (0, 0)))
    (hr : W.ownsRow D 3 1 (.slice (some ⟨g, 0, none⟩) (p.length + 1) cap) (p.length + 1) (ints (p ++ [z]))) (i : Nat) : PathAt D l B (p ++ [i]) (W.setCell ⟨g, p.length, none⟩ (.int .i64 i)) := by
  obtain ⟨h1, h2⟩ := hr
  rcases h2 with ⟨h2, _⟩ | ⟨g', cap', cur, h3, h4, h5, h6, h7, h8, h9⟩
  · cases h2
  · cases h3
    have hgB : B ≠ g := fun e => by subst e; rw [hB] at h5; cases h5
    refine ⟨_, (heap_setCell_other W ⟨g, p.length, none⟩ B _ hgB).trans hB, by simp [ints], .inr ⟨g, cap, cur.setIfInBounds p.length (.int .i64 i), by simp, h4, ?_, by simpa using h6, h7, by simpa using h8, ?_⟩⟩
    · exact heap_setCell_same W g p.length cur 3 _ h5
    · rw [ints_snoc] at h9 ⊢
      have hl : (ints p).length = p.length := by simp [ints]
      have hc : p.length < cur.size := by simp at h6 h8; omega
      have h9' : cur.toList.take (p.length + 1) = ints p ++ [.int .i64 z] := by simpa using h9
      have e : (cur.setIfInBounds p.length (.int .i64 i)).toList = cur.toList.set p.length (.int .i64 i) := by simp
      rw [e]
      have : ((p ++ [i]).length * 1) = p.length + 1 := by simp
      rw [this, List.take_set, h9', ← hl, List.set_append_right _ _ (Nat.le_refl _)]
      simp
theorem path_cut {D : Nat} {p : List Nat} {z : Nat} {W : World} {g cap : Nat}
    (hr : W.ownsRow D 3 1 (.slice (some ⟨g, 0, none⟩) (p.length + 1) cap) (p.length + 1) (ints (p ++ [z]))) : W.ownsRow D 3 1 (.slice (some ⟨g, 0, none⟩) p.length cap) p.length (ints p) := by
  obtain ⟨h1, h2⟩ := hr
  rcases h2 with ⟨h2, _⟩ | ⟨g', cap', cur, h3, h4, h5, h6, h7, h8, h9⟩
  · cases h2
  · cases h3
    refine ⟨by simp [ints], .inr ⟨g, cap, cur, rfl, h4, h5, by omega, h7, h8, ?_⟩⟩
    rw [ints_snoc] at h9
    have h9' : cur.toList.take (p.length + 1) = ints p ++ [.int .i64 z] := by simpa using h9
    have := congrArg (List.take p.length) h9'
    rw [List.take_take, Nat.min_eq_left (by omega)] at this
    rw [Nat.mul_one, this]
    simp [ints]
theorem row_shape {D n e : Nat} {v : Value} {xs : List Value} {W : World} (h : W.ownsRow D e 1 v (n + 1) xs) : ∃ g cap, v = .slice (some ⟨g, 0, none⟩) (n + 1) cap ∧ D ≤ g ∧ n + 1 ≤ cap ∧ ∃ cur, W.heap[g]? = some (.cells cur e (0, 0)) := by
  obtain ⟨_, h2⟩ := h
  rcases h2 with ⟨_, h2⟩ | ⟨g, cap, cur, h3, h4, h5, h6, _⟩
  · cases h2
  · exact ⟨g, cap, h3, h4, h6, cur, h5⟩
theorem leavesT_mk (p : List Nat) {k : Nat} (t : Tok) (ks : List T) (h : k ≠ 2) : leavesT p (.mk k t ks) = leavesL p 0 ks ++ (if k = 1 then [(p, .mk k t ks)] else []) := by rw [leavesT, if_neg h]
theorem leavesL_cons (p : List Nat) (i : Nat) (x : T) (r : List T) : leavesL p i (x :: r) = leavesT (p ++ [i]) x ++ leavesL p (i + 1) r := by rw [leavesL]
theorem leavesL_take (p : List Nat) : ∀ (l : List T) (i0 i : Nat) (x : T), l[i]? = some x → leavesL p i0 (l.take (i + 1)) = leavesL p i0 (l.take i) ++ leavesT (p ++ [i0 + i]) x
  | [], _, i, x, h => by simp at h
  | y :: r, i0, 0, x, h => by
    simp at h; subst h
    simp [leavesL]
  | y :: r, i0, i + 1, x, h => by
    simp at h
    have := leavesL_take p r (i0 + 1) i x h
    rw [List.take_succ_cons, List.take_succ_cons, leavesL_cons, leavesL_cons, this, List.append_assoc, show i0 + 1 + i = i0 + (i + 1) by omega]
theorem leavesL_split (p : List Nat) : ∀ (l : List T) (i0 i : Nat), leavesL p i0 l = leavesL p i0 (l.take i) ++ leavesL p (i0 + i) (l.drop i)
  | [], i0, i => by simp [leavesL]
  | y :: r, i0, 0 => by simp [leavesL]
  | y :: r, i0, i + 1 => by
    rw [List.take_succ_cons, List.drop_succ_cons, leavesL_cons, leavesL_cons, leavesL_split p r (i0 + 1) i, List.append_assoc, show i0 + 1 + i = i0 + (i + 1) by omega]
end Go.Proofs.YtingfomfibhnhaaGreatDoor
