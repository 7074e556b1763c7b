/-
  read; an append to a row that is full.
-/
import Derived.Test.YtfedmhccbfhcbaaGreatDoorXE
import Derived.ArgAppend
import Derived.Lib.SlFresh
namespace Go.Proofs.YtfedmhccbfhcbaaGreatDoor
open Go.RowKit Go.Shelf

theorem ToksAt.set {B b o : Nat} {w : World} {v : Value} {E : List Tok} (h : ToksAt B w v E) (hb : b < B) (x : Value) : ToksAt B (w.setCell ⟨b, o, none⟩ x) v E := by
  obtain ⟨h1, h2⟩ := h
  refine ⟨h1, ?_⟩
  rcases h2 with h2 | ⟨g, cap, cur, h3, h4, h5, h6, h7, h8, h9⟩
  · exact .inl h2
  · exact .inr ⟨g, cap, cur, h3, h4, (heap_setCell_other w ⟨b, o, none⟩ g x (by show g ≠ b; omega)).trans h5, h6, h7, h8, h9⟩
def okS (K : Int) (s : ByteArray) : ByteArray := if K = 0 then s else ⟨#[]⟩
def ReadEnd (s : ByteArray) (w : World) (e : Ending) (w' : World) : Prop := ∃ v, e = .returned (.tuple #[lxV (okS (tokE s.data.toList) s) v, .int .i64 (tokE s.data.toList)]) ∧ ToksAt w.heap.size w' v (tokL s.data.toList) ∧ Below w.heap.size w w'
theorem tokE_cases (l : List UInt8) : tokE l = 0 ∨ tokE l = 40 ∨ tokE l = 4 := by
  unfold tokE; split
  · exact .inr (.inl rfl)
  · split
    · exact .inl rfl
    · exact .inr (.inr rfl)
theorem tokL_bad {l : List UInt8} (h : tokE l ≠ 0) : tokL l = [] := by unfold tokL; rw [if_neg h]
theorem tokL_good {l : List UInt8} (h : tokE l = 0) : tokL l = toks l := by unfold tokL; rw [if_pos h]
set_option maxRecDepth 100000 in
set_option maxHeartbeats 4000000 in
theorem read_any (s : ByteArray) (w : World) (hz : s.size ≤ 1000000) (hE : Env w) : Calls Tryz.prog 18 #[.string s] w (ReadEnd s w) := by
  have ba : Below w.heap.size w (w.alloc (.cells #[.string ⟨#[]⟩, .slice none 0 0] 46)) := galloc2 (Below.refl _ _) (Nat.le_refl _) _
  have hc := tokens_any s (w.alloc (.cells #[.string ⟨#[]⟩, .slice none 0 0] 46)) hz (hE.below ba hE.size)
  have hz1 : (w.alloc (.cells #[.string ⟨#[]⟩, .slice none 0 0] 46)).heap.size = w.heap.size + 1 := by simp
  have hn := heap_alloc_new w (.cells #[.string ⟨#[]⟩, .slice none 0 0] 46)
  have HL : Hid (tokE s.data.toList ≠ 0 → tokL s.data.toList = []) := Lib.hid tokL_bad
  have hend : ∀ (K : Int) (E : List Tok), tokE s.data.toList = K → tokL s.data.toList = E → ∀ e w', (∃ v, e = .returned (.tuple #[lxV (okS K s) v, .int .i64 K]) ∧ ToksAt w.heap.size w' v E ∧ Below w.heap.size w w') → ReadEnd s w e w' := by
    rintro K E rfl rfl e w' h; exact h
  replace hend := hend _ _ rfl rfl
  refine Calls.mono ?_ hend
  clear hend
  generalize tokE s.data.toList = K at *
  generalize tokL s.data.toList = E at *
  clear hE
  generalize hv : w.alloc (.cells #[.string ⟨#[]⟩, .slice none 0 0] 46) = v0 at *
  have HA := Lib.hid ba
  have HZ := Lib.hid hz1
  have HN := Lib.hid hn
  clear ba hz1 hn
  by_cases hK : K = 0
  · subst hK
    clear HL
    have hok : okS 0 s = s := rfl
    rw [hok]
    go_enter Tryz.func18, Tryz.ntmps18
    go_wp2_with fail
    refine hc.mono ?_
    rintro e w1 ⟨v, rfl, hT, hb⟩
    have HT := Lib.hid hT
    have HB := Lib.hid (HA.out.trans (hb.mono HA.out.size))
    have hN1 : w1.heap[w.heap.size]? = some (.cells #[.string ⟨#[]⟩, .slice none 0 0] 46 (0, 0)) := (hb.block _ (by have := HZ.out; omega)).trans HN.out
    have HN1 := Lib.hid hN1
    have p0 : w1.cell? ⟨w.heap.size, 0, none⟩ = some (.string ⟨#[]⟩) := by rw [cellH hN1]; rfl
    have p1 : w1.cell? ⟨w.heap.size, 1, none⟩ = some (.slice none 0 0) := by rw [cellH hN1]; rfl
    have pf : ∀ o, w1.frozen? ⟨w.heap.size, o, none⟩ = false := fun o => Lib.frozen_of_heap hN1 o
    obtain ⟨po, co, rfl⟩ := owns_shape hT
    clear hT hb hN1 hc hv
    go_wp2_with fail
    have kF := heap_setCell_same _ _ 1 _ _ (.slice po E.length co) (heap_setCell_same _ _ 0 _ _ (.string s) HN1.out)
    have z0 := cellH kF 0
    have z1 := cellH kF 1
    refine bodyPost_ret (v := .tuple #[lxV s (.slice po E.length co), .int .i64 0]) (by simp at z0 z1; simp [results, Tryz.results18, go_sem, lxV, z0, z1]) rfl ⟨_, rfl, ?_, ?_⟩
    · exact owns_base ((HT.out.set (b := w.heap.size) (o := 0) (by have := HZ.out; omega) _).set (b := w.heap.size) (o := 1) (by have := HZ.out; omega) _) (by have := HZ.out; omega)
    · exact (HB.out.setCell (p := ⟨w.heap.size, 0, none⟩) (Nat.le_refl _) _).setCell (p := ⟨w.heap.size, 1, none⟩) (Nat.le_refl _) _
  · have hok : okS K s = ⟨#[]⟩ := if_neg hK
    rw [hok]
    have hEn := HL.out hK
    subst hEn
    have q : ((K : Int) != 0) = true := by rw [bne_iff_ne]; exact hK
    clear HL hok hK
    go_enter Tryz.func18, Tryz.ntmps18
    go_wp2_with fail
    refine hc.mono ?_
    rintro e w1 ⟨v, rfl, hT, hb⟩
    have HB := Lib.hid (HA.out.trans (hb.mono HA.out.size))
    have hN1 : w1.heap[w.heap.size]? = some (.cells #[.string ⟨#[]⟩, .slice none 0 0] 46 (0, 0)) := (hb.block _ (by have := HZ.out; omega)).trans HN.out
    have HN1 := Lib.hid hN1
    have p0 : w1.cell? ⟨w.heap.size, 0, none⟩ = some (.string ⟨#[]⟩) := by rw [cellH hN1]; rfl
    have p1 : w1.cell? ⟨w.heap.size, 1, none⟩ = some (.slice none 0 0) := by rw [cellH hN1]; rfl
    have pf : ∀ o, w1.frozen? ⟨w.heap.size, o, none⟩ = false := fun o => Lib.frozen_of_heap hN1 o
    obtain ⟨po, co, rfl⟩ := owns_shape hT
    clear hT hb hN1 hc hv
    go_wp2_with fail
    have kF := heap_setCell_same _ _ 1 _ _ (.slice none 0 0) (heap_setCell_same _ _ 0 _ _ (.string ⟨#[]⟩) HN1.out)
    have z0 := cellH kF 0
    have z1 := cellH kF 1
    refine bodyPost_ret (v := .tuple #[lxV ⟨#[]⟩ (.slice none 0 0), .int .i64 K]) (by simp at z0 z1; simp [results, Tryz.results18, go_sem, lxV, z0, z1]) rfl ⟨_, rfl, World.ownsRow_nil _ _ _ _, ?_⟩
    exact (HB.out.setCell (p := ⟨w.heap.size, 0, none⟩) (Nat.le_refl _) _).setCell (p := ⟨w.heap.size, 1, none⟩) (Nat.le_refl _) _
end Go.Proofs.YtfedmhccbfhcbaaGreatDoor
