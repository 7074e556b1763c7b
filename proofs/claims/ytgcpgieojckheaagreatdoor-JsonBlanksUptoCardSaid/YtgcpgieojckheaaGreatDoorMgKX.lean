/-
  Rows that have grown; a value's four cells.
-/
import Derived.Test.YtgcpgieojckheaaGreatDoorMgJP5
import Derived.Test.YtgcpgieojckheaaGreatDoorMgJV
import Derived.Maps.AppendAt
namespace Go.Proofs.YtgcpgieojckheaaGreatDoor.Json
open Go.RowKit Go.Shelf Go.Maps

theorem But.grownB {b : Nat} {W w w' : World} {row : Option Nat} (h : But b W w) (hg : w.grownBy w' row) (hr : ∀ g, row = some g → W.heap.size ≤ g) : But b W w' :=
  ⟨hg.os.trans h.os, hg.tape.trans h.tape, hg.output.trans h.output, Nat.le_trans h.size hg.size, fun k hk hkb => (hg.block k (Nat.lt_of_lt_of_le hk h.size) (fun e => by have := hr k e.symm; omega)).trans (h.block k hk hkb)⟩
theorem und45 : Tryz.prog.underlying 45 = some (.slice 47) := u45
/-- A row of values that has grown by one. -/
theorem rows_snoc {b B : Nat} {nv lv v' : Value} {ns : List (List UInt8)} {js : List Json.J} {j : Json.J} {xs four : List Value} {w wx w2 : World} {o : Obj}
    (hown1 : w.ownsRow B 9 1 nv ns.length (ns.map bl)) (hown2 : w.ownsRow B 47 4 lv js.length xs) (hjs : JsAt (fun g => B ≤ g ∧ lv.ownBlock ≠ some g ∧ nv.ownBlock ≠ some g) w js xs) (hBw : B ≤ w.heap.size) (hbB : b < B)
    (hbx : But b w wx) (hj : JAt (fun g => w.heap.size ≤ g) wx j four)
    (hgrow : (wx.alloc o).grownBy w2 lv.ownBlock) (_hown3 : w2.ownsRow B 47 4 v' (js.length + 1) (xs ++ four)) (hat : v'.ownBlock = lv.ownBlock ∨ v'.ownBlock = some (wx.heap.size + 1)) :
    w2.ownsRow B 9 1 nv ns.length (ns.map bl) ∧ JsAt (fun g => B ≤ g ∧ v'.ownBlock ≠ some g ∧ nv.ownBlock ≠ some g) w2 (js ++ [j]) (xs ++ four) := by
  have hsz := hbx.size
  have hbl := hown2.lt
  have hnl := hown1.lt
  have hb0 := galloc (Below.refl wx.heap.size wx) o
  have hs0 : (wx.alloc o).heap.size = wx.heap.size + 1 := by simp
  have hkind : ∀ i, nv.ownBlock = some i → lv.ownBlock ≠ some i := fun i h1 h2 => by
    obtain ⟨c1, f1, e1⟩ := own_kind hown1 i h1
    obtain ⟨c2, f2, e2⟩ := own_kind hown2 i h2
    rw [e1] at e2; injection e2 with e2; cases e2
  have hnw : (wx.alloc o).ownsRow B 9 1 nv ns.length (ns.map bl) := own_but (own_but hown1 hbx hbB) (But.of (b := b) hb0) hbB
  have hn2 : w2.ownsRow B 9 1 nv ns.length (ns.map bl) := hnw.kept hgrow (by
    cases hq : nv.ownBlock with
    | none => exact .inl rfl
    | some i => exact .inr (fun e => hkind i hq e.symm))
  have key : ∀ i, i < wx.heap.size → lv.ownBlock ≠ some i → v'.ownBlock ≠ some i := fun i hi h e => by
    rcases hat with h' | h'
    · exact h (by rw [← h', e])
    · rw [h'] at e; have := Option.some.inj e; omega
  have st : Stays (fun i => (B ≤ i ∧ lv.ownBlock ≠ some i ∧ nv.ownBlock ≠ some i) ∧ v'.ownBlock ≠ some i) wx w2 :=
    ⟨by have := hgrow.size; omega, fun i hi h => (hgrow.block i (by omega) (fun e => h.1.2.1 e.symm)).trans (hb0.block i hi)⟩
  refine ⟨hn2, JsAt.snoc ?_ js xs ?_⟩
  · refine JAt.mono (S := fun i => (B ≤ i ∧ lv.ownBlock ≠ some i ∧ nv.ownBlock ≠ some i) ∧ v'.ownBlock ≠ some i) (fun i _ h => ⟨h.1.1, h.2, h.1.2.2⟩) j four ?_
    refine JAt.world st j four (JAt.mono (fun i hi h => ?_) j four hj)
    have h : w.heap.size ≤ i := h
    have h1 : lv.ownBlock ≠ some i := fun e => by have := (hbl i e).2; omega
    have h2 : nv.ownBlock ≠ some i := fun e => by have := (hnl i e).2; omega
    exact ⟨⟨Nat.le_trans hBw h, h1, h2⟩, key i hi h1⟩
  · refine JsAt.mono (S := fun i => (B ≤ i ∧ lv.ownBlock ≠ some i ∧ nv.ownBlock ≠ some i) ∧ v'.ownBlock ≠ some i) (fun i _ h => ⟨h.1.1, h.2, h.1.2.2⟩) js xs ?_
    refine JsAt.world st js xs (JsAt.mono (fun i hi h => ⟨h, key i hi h.2.1⟩) js xs (JsAt.world ⟨hsz, fun i hi h => hbx.block i hi (by have := h.1; omega)⟩ js xs hjs))
theorem jval_four {S : Nat → Prop} {w : World} {j : Json.J} {v : Value} (h : JVal S w j v) : ∃ (kd : Nat) (tx : ByteArray) (pc : Option Addr) (nc cc : Nat) (pd : Option Addr) (nd cd : Nat), v = .agg #[.int .u8 kd, .string tx, .slice pc nc cc, .slice pd nd cd] ∧ JAt S w j [.int .u8 kd, .string tx, .slice pc nc cc, .slice pd nd cd] := by
  obtain ⟨va, vb, vc, vd, rfl, hj⟩ := h
  cases j with
  | mk kk tt ns ls =>
    have hj' := hj
    unfold JAt at hj
    obtain ⟨c, d, vs, he, ⟨_, pc, cc, hc, _⟩, ⟨_, pd, cd, hd, _⟩, _⟩ := hj
    simp only [List.cons.injEq, and_true] at he
    obtain ⟨rfl, rfl, rfl, rfl⟩ := he
    subst hc hd
    exact ⟨kk, ⟨tt.toArray⟩, pc, _, cc, pd, _, cd, rfl, hj'⟩
end Go.Proofs.YtgcpgieojckheaaGreatDoor.Json
