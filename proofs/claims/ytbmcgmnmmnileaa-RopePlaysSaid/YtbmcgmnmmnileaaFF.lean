/-
  The ropes of a play, in two rows of the call's own.
-/
import Derived.Test.YtbmcgmnmmnileaaEE
import Derived.Deep.AppendLies
namespace Go.Proofs.Ytbmcgmnmmnileaa
open Go.RowKit Go.Shelf

def ptr (b : Nat) : Value := .pointer (some ⟨b, 0, none⟩)
/-- So many ropes, and the texts that they must have; none is longer than lim. -/
structure Plays (w : World) (B : Nat) (va vt : Value) (bs : List Nat) (ts : List ByteArray) (lim : Nat) : Prop where
  len : ts.length = bs.length
  pos : 0 < bs.length
  own1 : w.ownsRow B 23 1 va bs.length (bs.map ptr)
  own2 : w.ownsRow B 42 1 vt bs.length (ts.map .string)
  rp : ∀ (j : Nat) b t, bs[j]? = some b → ts[j]? = some t → Rp w b t.data.toList
  small : ∀ t ∈ ts, t.size ≤ lim

theorem owns_below {w w' : World} {B n0 e size n : Nat} {v : Value} {xs : List Value} (h : w.ownsRow B e size v n xs) (hb : Below n0 w w') (hn : w.heap.size ≤ n0) : w'.ownsRow B e size v n xs := by
  refine ⟨h.1, ?_⟩
  rcases h.2 with hx | ⟨g, cap, cur, hv, hg, hc, rest⟩
  · exact .inl hx
  · refine .inr ⟨g, cap, cur, hv, hg, ?_, rest⟩
    have hlt : g < w.heap.size := by
      rcases Nat.lt_or_ge g w.heap.size with hlt | hge
      · exact hlt
      · rw [Array.getElem?_eq_none hge] at hc; cases hc
    rw [hb.block g (by omega)]; exact hc
theorem Plays.below {w w' : World} {B n0 : Nat} {va vt : Value} {bs : List Nat} {ts : List ByteArray} {lim : Nat} (h : Plays w B va vt bs ts lim) (hb : Below n0 w w') (hn : w.heap.size ≤ n0) : Plays w' B va vt bs ts lim :=
  ⟨h.len, h.pos, owns_below h.own1 hb hn, owns_below h.own2 hb hn, fun j b t h1 h2 => (h.rp j b t h1 h2).below hn hb, h.small⟩
theorem Plays.more {w : World} {B : Nat} {va vt : Value} {bs : List Nat} {ts : List ByteArray} {lim lim2 : Nat} (h : Plays w B va vt bs ts lim) (hl : lim ≤ lim2) : Plays w B va vt bs ts lim2 :=
  ⟨h.len, h.pos, h.own1, h.own2, h.rp, fun t ht => Nat.le_trans (h.small t ht) hl⟩
/-- What a round asks of rope k. -/
theorem Plays.at {w : World} {B : Nat} {va vt : Value} {bs : List Nat} {ts : List ByteArray} {lim : Nat} (h : Plays w B va vt bs ts lim) (k : Nat) (hk : k < bs.length) :
    ∃ b t, bs[k]? = some b ∧ ts[k]? = some t ∧ Rp w b t.data.toList ∧ t.size ≤ lim := by
  have hk2 : k < ts.length := by rw [h.len]; exact hk
  refine ⟨bs[k], ts[k], List.getElem?_eq_getElem hk, List.getElem?_eq_getElem hk2, ?_, h.small _ (List.getElem_mem _)⟩
  exact h.rp k _ _ (List.getElem?_eq_getElem hk) (List.getElem?_eq_getElem hk2)
/-- The rows' form, and their cells. -/
theorem Plays.form {w : World} {B : Nat} {va vt : Value} {bs : List Nat} {ts : List ByteArray} {lim : Nat} (h : Plays w B va vt bs ts lim) :
    ∃ g1 c1 g2 c2, va = .slice (some ⟨g1, 0, none⟩) bs.length c1 ∧ vt = .slice (some ⟨g2, 0, none⟩) bs.length c2 ∧ B ≤ g1 ∧ g1 < w.heap.size ∧ B ≤ g2 ∧ g2 < w.heap.size ∧ g1 ≠ g2 ∧ bs.length ≤ c1 ∧ c1 ≤ maxLen ∧ bs.length ≤ c2 ∧ c2 ≤ maxLen ∧
      (∀ (j : Nat) b, bs[j]? = some b → w.cell? ⟨g1, j, none⟩ = some (ptr b)) ∧ (∀ (j : Nat) t, ts[j]? = some t → w.cell? ⟨g2, j, none⟩ = some (.string t)) := by
  have hp := h.pos
  rcases h.own1.2 with hx | ⟨g1, c1, cur1, rfl, hg1, hc1, a1, a2, a3, a4⟩
  · exact absurd hx.2 (by omega)
  rcases h.own2.2 with hx | ⟨g2, c2, cur2, rfl, hg2, hc2, b1, b2, b3, b4⟩
  · exact absurd hx.2 (by omega)
  have lt : ∀ {g : Nat} {o : Obj}, w.heap[g]? = some o → g < w.heap.size := fun {g o} hc => by
    rcases Nat.lt_or_ge g w.heap.size with hlt | hge
    · exact hlt
    · rw [Array.getElem?_eq_none hge] at hc; cases hc
  refine ⟨g1, c1, g2, c2, rfl, rfl, hg1, lt hc1, hg2, lt hc2, ?_, a1, a2, b1, b2, fun j b hj => ?_, fun j t hj => ?_⟩
  · rintro rfl
    rw [hc1] at hc2
    simp at hc2
  · have := h.own1.cells (g := g1) rfl j (ptr b) (by rw [List.getElem?_map, hj]; rfl)
    rw [Go.WideShapes.add_plain] at this
    simpa using this
  · have := h.own2.cells (g := g2) rfl j (.string t) (by rw [List.getElem?_map, hj]; rfl)
    rw [Go.WideShapes.add_plain] at this
    simpa using this

/-- All blocks but those of the two rows' types are as they were. -/
def KeepR (w W : World) : Prop := ∀ (k : Nat) (cs : Array Value) (t : TypeId) (fr : Nat × Nat), w.heap[k]? = some (.cells cs t fr) → t ≠ 23 → t ≠ 42 → W.heap[k]? = some (.cells cs t fr)
theorem KeepR.trans {w W V : World} (h : KeepR w W) (h2 : KeepR W V) : KeepR w V := fun k cs t fr a b c => h2 k cs t fr (h k cs t fr a b c) b c
theorem KeepR.alloc (w : World) (o : Obj) : KeepR w (w.alloc o) := fun k _ _ _ a _ _ => (Below.heap_alloc w o k (Array.getElem?_eq_some_iff.1 a).1).trans a
theorem KeepR.grown {w w' : World} {B e n : Nat} {v : Value} {xs : List Value} (h : w.ownsRow B e 1 v n xs) (he : e = 23 ∨ e = 42) (hg : w.grownBy w' v.ownBlock) : KeepR w w' := fun k cs t fr a b c => by
  refine (hg.block k (Array.getElem?_eq_some_iff.1 a).1 (fun e => ?_)).trans a
  rcases h.2 with ⟨rfl, _⟩ | ⟨g, cap, cur, rfl, _, hc, _⟩
  · cases e
  · have : k = g := by simpa [Value.ownBlock] using e
    subst this
    rw [hc] at a
    injection a with a
    injection a with _ a2 _
    rcases he with rfl | rfl
    · exact b a2.symm
    · exact c a2.symm
theorem At.keepR {w W : World} (hk : KeepR w W) : ∀ {t : T} {b : Nat}, At w b t → At W b t
  | .leaf _, _, h => hk _ _ _ _ h (by decide) (by decide)
  | .cat _ _, _, ⟨bl, br, h, hl, hr⟩ => ⟨bl, br, hk _ _ _ _ h (by decide) (by decide), At.keepR hk hl, At.keepR hk hr⟩
theorem Rp.keepR {w W : World} (hk : KeepR w W) {b : Nat} {l : List UInt8} (h : Rp w b l) : Rp W b l := by
  obtain ⟨o, ⟨p, h1, h2, h3⟩, h4⟩ := h
  refine ⟨o, ⟨p, hk _ _ _ _ h1 (by decide) (by decide), ?_, h3⟩, h4⟩
  cases o with
  | none => exact h2
  | some t => obtain ⟨q, e, h2⟩ := h2; exact ⟨q, e, h2.keepR hk⟩
/-- The one row has got its rope, the other one not yet its text. -/
structure Half (w : World) (B : Nat) (va vt : Value) (bs : List Nat) (ts : List ByteArray) (b : Nat) (t : ByteArray) (lim : Nat) : Prop where
  len : ts.length = bs.length
  own1 : w.ownsRow B 23 1 va (bs.length + 1) ((bs ++ [b]).map ptr)
  own2 : w.ownsRow B 42 1 vt bs.length (ts.map .string)
  rp : ∀ (j : Nat) b t, bs[j]? = some b → ts[j]? = some t → Rp w b t.data.toList
  last : Rp w b t.data.toList
  small : ∀ t ∈ ts, t.size ≤ lim
theorem Plays.half {w w' : World} {B : Nat} {va va' vt : Value} {bs : List Nat} {ts : List ByteArray} {lim b : Nat} {t : ByteArray} (h : Plays w B va vt bs ts lim) (hR : Rp w b t.data.toList) (o : Obj)
    (hg : (w.alloc o).grownBy w' va.ownBlock) (hown : w'.ownsRow B 23 1 va' (bs.length + 1) (bs.map ptr ++ [ptr b])) : Half w' B va' vt bs ts b t lim := by
  obtain ⟨g1, c1, g2, c2, e1, e2, _, _, _, _, hne, _⟩ := h.form
  have hk : KeepR w w' := (KeepR.alloc w o).trans (KeepR.grown (h.own1.alloc o) (.inl rfl) hg)
  refine ⟨h.len, by simpa using hown, ?_, fun j b t h1 h2 => (h.rp j b t h1 h2).keepR hk, hR.keepR hk, h.small⟩
  refine (h.own2.alloc o).kept hg (.inr ?_)
  rw [e1, e2]
  intro e
  simp [Value.ownBlock] at e
  exact hne e.symm
theorem Half.below {w w' : World} {B n0 : Nat} {va vt : Value} {bs : List Nat} {ts : List ByteArray} {b : Nat} {t : ByteArray} {lim : Nat} (h : Half w B va vt bs ts b t lim) (hb : Below n0 w w') (hn : w.heap.size ≤ n0) : Half w' B va vt bs ts b t lim :=
  ⟨h.len, owns_below h.own1 hb hn, owns_below h.own2 hb hn, fun j b t h1 h2 => (h.rp j b t h1 h2).below hn hb, h.last.below hn hb, h.small⟩
theorem Half.full {w w' : World} {B : Nat} {va vt vt' : Value} {bs : List Nat} {ts : List ByteArray} {lim lim2 b : Nat} {t : ByteArray} (h : Half w B va vt bs ts b t lim) (o : Obj)
    (hg : (w.alloc o).grownBy w' vt.ownBlock) (hown : w'.ownsRow B 42 1 vt' (bs.length + 1) (ts.map .string ++ [.string t])) (hl : lim ≤ lim2) (ht : t.size ≤ lim2) : Plays w' B va vt' (bs ++ [b]) (ts ++ [t]) lim2 := by
  have hk : KeepR w w' := (KeepR.alloc w o).trans (KeepR.grown (h.own2.alloc o) (.inr rfl) hg)
  have hlen : (bs ++ [b]).length = bs.length + 1 := by simp
  refine ⟨by simp [h.len], by simp, ?_, by rw [hlen]; simpa using hown, fun j b' t' h1 h2 => ?_, fun t' ht' => ?_⟩
  · rw [hlen]
    refine (h.own1.alloc o).kept hg ?_
    rcases h.own1.2 with ⟨_, hx⟩ | ⟨g1, c1, cur1, e1, _, hc1, _⟩
    · omega
    · rcases h.own2.2 with ⟨e2, _⟩ | ⟨g2, c2, cur2, e2, _, hc2, _⟩
      · refine .inr ?_
        rw [e1, e2]; simp [Value.ownBlock]
      · refine .inr ?_
        rw [e1, e2]
        intro e
        have : g1 = g2 := by simpa [Value.ownBlock] using e
        subst this
        rw [hc1] at hc2
        simp at hc2
  · rcases Nat.lt_trichotomy j bs.length with hj | hj | hj
    · rw [List.getElem?_append_left hj] at h1
      rw [List.getElem?_append_left (by rw [h.len]; exact hj)] at h2
      exact (h.rp j b' t' h1 h2).keepR hk
    · rw [List.getElem?_append_right (by omega), hj, Nat.sub_self] at h1
      rw [List.getElem?_append_right (by rw [h.len]; omega), h.len, hj, Nat.sub_self] at h2
      simp at h1 h2
      subst h1 h2
      exact h.last.keepR hk
    · rw [List.getElem?_eq_none (by simp; omega)] at h1
      cases h1
  · rcases List.mem_append.1 ht' with g | g
    · exact Nat.le_trans (h.small _ g) hl
    · simp at g; subst g; exact ht
theorem StepsAt.below {w w' : World} {g off n B : Nat} {f : Nat → Step} (h : StepsAt w g off n f) (hb : Below B w w') (hg : g < B) : StepsAt w' g off n f := fun i hi => by
  obtain ⟨c0, c1, c2, c3, c4, c5⟩ := h i hi
  have k := fun o => hb.cell (p := ⟨g, o, none⟩) hg
  exact ⟨(k _).trans c0, (k _).trans c1, (k _).trans c2, (k _).trans c3, (k _).trans c4, (k _).trans c5⟩
end Go.Proofs.Ytbmcgmnmmnileaa
