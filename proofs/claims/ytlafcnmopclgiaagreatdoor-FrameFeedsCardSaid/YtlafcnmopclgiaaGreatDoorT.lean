/-
  Feed after Feed: what is told hangs on the bytes alone.
-/
import Derived.Test.YtlafcnmopclgiaaGreatDoorS
namespace Go.Proofs.YtlafcnmopclgiaaGreatDoor
open Go.RowKit Go.Shelf

theorem runA_few (k : Nat) : ∀ (m : Mode) (l : List UInt8), 2 * l.length + rank m < k → (runA m l).2.1.length ≤ 2 * l.length + rank m + 1 := by
  induction k with
  | zero => intro m l h; omega
  | succ k ih =>
    intro m l h
    have hu := op_used m l
    rw [runA_step]
    generalize op m l = x at hu
    obtain ⟨u, e, n⟩ := x
    have he : e.toList.length ≤ 1 := by cases e <;> simp
    cases n with
    | none => simp only; omega
    | some m2 =>
      have h2 := hu.2 m2 rfl
      simp only at h2 hu
      have := ih m2 (l.drop u) (by rw [List.length_drop]; omega)
      rw [List.length_drop] at this
      simp only [List.length_append]
      omega
theorem told_few (a : List UInt8) (h : a.length ≤ 1000000) : (runA .head a).2.1.length ≤ 2000002 := by
  have := runA_few _ .head a (Nat.lt_succ_self _)
  have e : rank .head = 0 := rfl
  omega
theorem run_next (a c : List UInt8) : (runA .head (a ++ c)).2.1 = (runA .head a).2.1 ++ (runA (runA .head a).2.2 (a.drop (runA .head a).1 ++ c)).2.1 ∧
    (runA .head (a ++ c)).2.2 = (runA (runA .head a).2.2 (a.drop (runA .head a).1 ++ c)).2.2 ∧
    (a ++ c).drop (runA .head (a ++ c)).1 = (a.drop (runA .head a).1 ++ c).drop (runA (runA .head a).2.2 (a.drop (runA .head a).1 ++ c)).1 := by
  have h := run_append _ .head a c (Nat.lt_succ_self _)
  have hu := runA_used _ .head a (Nat.lt_succ_self _)
  rw [h]
  refine ⟨rfl, rfl, ?_⟩
  simp only
  rw [← List.drop_drop, List.drop_append_of_le_length hu]
theorem feed_next (B : Nat) (w : World) (b : Nat) (a : List UInt8) (hT : Tab w) (h11 : 11 ≤ B) (hBw : B ≤ w.heap.size) (hv : Value) (hR : RdV B w b (runA .head a).2.2 (a.drop (runA .head a).1) hv) (cv : Value) (c : List UInt8) (hc : Chunk2 w cv c) (hz : a.length + c.length ≤ 1000000) :
    Calls Tryz.prog 8 #[.pointer (some ⟨b, 0, none⟩), cv] w fun e w' => ∃ v N hv', e = .returned (.tuple #[v, .int .i64 0]) ∧ EvsAt w.heap.size w' v N ∧ (runA .head (a ++ c)).2.1 = (runA .head a).2.1 ++ N ∧
      RdV B w' b (runA .head (a ++ c)).2.2 ((a ++ c).drop (runA .head (a ++ c)).1) hv' ∧ Kept b hv.ownBlock w w' ∧ ∀ k, hv'.ownBlock = some k → hv.ownBlock = some k ∨ w.heap.size ≤ k := by
  obtain ⟨e1, e2, e3⟩ := run_next a c
  refine (feed_wide B w b _ _ hT h11 hBw hv hR cv c hc (by rw [List.length_drop]; omega)).mono ?_
  rintro e w' ⟨v, hv', he, h1, h2, h3, h4⟩
  rw [← e2, ← e3] at h2
  exact ⟨v, _, hv', he, h1, e1, h2, h3, h4⟩
/-- A row of bytes, as an argument that is cut. -/
def BArg (w : World) (v : Value) (l : List UInt8) : Prop :=
  (v = .slice none 0 0 ∧ l = []) ∨ (∃ ad cap, v = .slice (some ad) 0 cap ∧ l = []) ∨ ∃ g o cap, v = .slice (some ⟨g, o, none⟩) l.length cap ∧ l.length ≤ cap ∧ 0 < l.length ∧ Lies w g o l
theorem BArg.below {w w' : World} {v : Value} {l : List UInt8} (h : BArg w v l) (hb : Below w.heap.size w w') : BArg w' v l := by
  rcases h with h | h | ⟨g, o, cap, h1, h2, h3, h4⟩
  · exact .inl h
  · exact .inr (.inl h)
  · exact .inr (.inr ⟨g, o, cap, h1, h2, h3, h4.below hb⟩)
theorem BArg.shape {w : World} {v : Value} {l : List UInt8} (h : BArg w v l) : ∃ p cap, v = .slice p l.length cap := by
  rcases h with ⟨rfl, rfl⟩ | ⟨ad, cap, rfl, rfl⟩ | ⟨g, o, cap, h1, _⟩
  · exact ⟨_, _, rfl⟩
  · exact ⟨_, _, rfl⟩
  · exact ⟨_, cap, h1⟩
theorem chunk_lies {w : World} {g o cap : Nat} {l : List UInt8} (h : Lies w g o l) : Chunk2 w (.slice (some ⟨g, o, none⟩) l.length cap) l := .inr ⟨_, cap, rfl, news_lies h⟩
theorem BArg.chunk {w : World} {v : Value} {l : List UInt8} (h : BArg w v l) : Chunk2 w v l := by
  rcases h with h | ⟨ad, cap, rfl, rfl⟩ | ⟨g, o, cap, rfl, _, _, h4⟩
  · exact .inl h
  · exact .inr ⟨ad, cap, rfl, fun j u hj => by simp at hj⟩
  · exact chunk_lies h4
theorem lies_mid {w : World} {g o : Nat} {l : List UInt8} (h : Lies w g o l) (k t : Nat) (ht : t ≤ l.length) : Lies w g (o + k) ((l.drop k).take (t - k)) := by
  intro i hi
  rw [List.length_take, List.length_drop] at hi
  have := h (k + i) (by omega)
  rw [← Nat.add_assoc] at this
  rw [this, List.getD_eq_getElem?_getD, List.getD_eq_getElem?_getD, List.getElem?_take_of_lt (by omega), List.getElem?_drop]
theorem mid_len {l : List UInt8} {k t : Nat} (ht : t ≤ l.length) : ((l.drop k).take (t - k)).length = t - k := by
  rw [List.length_take, List.length_drop]; omega
theorem take_mid {l : List UInt8} {k t : Nat} (hk : k ≤ t) : l.take k ++ (l.drop k).take (t - k) = l.take t := by
  have : t = k + (t - k) := by omega
  rw [this, List.take_add]
  simp
/-- The loop over the cuts. -/
def Turn (A : Nat) (b : List UInt8) (parts : Value) (k : Nat) (wr : World) : Prop :=
  ∃ hv E, (runA .head (b.take k)).2.1 = E ∧ EvsAt A wr parts E ∧ RdV A wr A (runA .head (b.take k)).2.2 ((b.take k).drop (runA .head (b.take k)).1) hv ∧ ∀ g, parts.ownBlock = some g → g ≠ A ∧ hv.ownBlock ≠ some g
theorem own_keep {B e size n : Nat} {v : Value} {xs : List Value} {w w' : World} (h : w.ownsRow B e size v n xs) (hk : ∀ g, v.ownBlock = some g → w'.heap[g]? = w.heap[g]?) : w'.ownsRow B e size v n xs := by
  obtain ⟨h1, h2⟩ := h
  refine ⟨h1, ?_⟩
  rcases h2 with h2 | ⟨g, cap, cur, rfl, h4, h5, h6⟩
  · exact .inl h2
  · exact .inr ⟨g, cap, cur, rfl, h4, (hk g rfl).trans h5, h6⟩
theorem RdV.keep {B b : Nat} {m : Mode} {l : List UInt8} {hv : Value} {w w' : World} (h : RdV B w b m l hv) (hb : w'.heap[b]? = w.heap[b]?) (ho : ∀ g, hv.ownBlock = some g → w'.heap[g]? = w.heap[g]?) : RdV B w' b m l hv :=
  ⟨hb.trans h.r, own_keep h.o ho, h.ne, h.lo, h.nil⟩
theorem turn_feed {A : Nat} {parts hv hv' : Value} {E : List Ev} {wr w5 : World} (hev : EvsAt A wr parts E) (hdis : ∀ g, parts.ownBlock = some g → g ≠ A ∧ hv.ownBlock ≠ some g) (hk : Kept A hv.ownBlock wr w5)
    (hat : ∀ k, hv'.ownBlock = some k → hv.ownBlock = some k ∨ wr.heap.size ≤ k) : EvsAt A w5 parts E ∧ ∀ g, parts.ownBlock = some g → g ≠ A ∧ hv'.ownBlock ≠ some g := by
  refine ⟨own_keep hev fun g e => ?_, fun g e => ⟨(hdis g e).1, fun e2 => ?_⟩⟩
  · exact hk.block g (hev.lt g e).2 (hdis g e).1 (fun e2 => (hdis g e).2 e2.symm)
  · rcases hat g e2 with h | h
    · exact (hdis g e).2 h
    · have := (hev.lt g e).2; omega
theorem turn_grow {A : Nat} {parts v' hv : Value} {m : Mode} {l : List UInt8} {w5 w7 : World} (hrd : RdV A w5 A m l hv) (hdis : ∀ g, parts.ownBlock = some g → g ≠ A ∧ hv.ownBlock ≠ some g) (hgrow : w5.grownBy w7 parts.ownBlock)
    (hat : v'.ownBlock = parts.ownBlock ∨ v'.ownBlock = some w5.heap.size) : RdV A w7 A m l hv ∧ ∀ g, v'.ownBlock = some g → g ≠ A ∧ hv.ownBlock ≠ some g := by
  have hA := hrd.r.lt
  refine ⟨hrd.keep (hgrow.block A hA (fun e => (hdis A e.symm).1 rfl)) (fun g e => hgrow.block g (hrd.o.lt g e).2 (fun e2 => (hdis g e2.symm).2 e)), fun g e => ?_⟩
  rcases hat with h | h
  · rw [e] at h; exact hdis g h.symm
  · rw [e] at h
    cases h
    exact ⟨by omega, fun e2 => by have := (hrd.o.lt _ e2).2; omega⟩
theorem lies_drop {w : World} {g o : Nat} {l : List UInt8} (h : Lies w g o l) (k : Nat) : Lies w g (o + k) (l.drop k) := by
  intro i hi
  rw [List.length_drop] at hi
  have := h (k + i) (by omega)
  rw [← Nat.add_assoc] at this
  rw [this, List.getD_eq_getElem?_getD, List.getD_eq_getElem?_getD, List.getElem?_drop]
theorem chunk_drop {w : World} {g o cap k : Nat} {l : List UInt8} (h : Lies w g o l) : Chunk2 w (.slice (some ⟨g, o + k, none⟩) (l.length - k) cap) (l.drop k) := by
  have := chunk_lies (cap := cap) (lies_drop h k)
  rw [List.length_drop] at this; exact this
theorem chunk_end {w : World} {ad : Addr} {cap k : Nat} {l : List UInt8} (h : l.length ≤ k) : Chunk2 w (.slice (some ad) (l.length - k) cap) (l.drop k) := by
  rw [List.drop_eq_nil_of_le h]
  exact .inr ⟨ad, cap, by rw [show l.length - k = ([] : List UInt8).length from by simp; omega], fun j u hj => by simp at hj⟩
theorem chunk_end0 {w : World} {ad : Addr} {cap k : Nat} {l : List UInt8} (h : l.length ≤ k) : Chunk2 w (.slice (some ad) 0 cap) (l.drop k) := by
  rw [List.drop_eq_nil_of_le h]
  exact .inr ⟨ad, cap, rfl, fun j u hj => by simp at hj⟩
end Go.Proofs.YtlafcnmopclgiaaGreatDoor
