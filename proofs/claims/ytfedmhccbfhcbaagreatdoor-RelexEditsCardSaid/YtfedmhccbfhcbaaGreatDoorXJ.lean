/-
  Do, Relex.
-/
import Derived.Test.YtfedmhccbfhcbaaGreatDoorXI
namespace Go.Proofs.YtfedmhccbfhcbaaGreatDoor
open Go.RowKit Go.Shelf

theorem own_shape {B : Nat} {w : World} {v : Value} {E : List Tok} (h : RowOwn B w v E) : ∃ q c, v = .slice q E.length c := by
  rcases h with ⟨rfl, p9, e9⟩ | h9
  · exact ⟨_, _, e9⟩
  · exact owns_shape h9
def DoEnd (s x : List UInt8) (f t : Int) (w : World) (e : Ending) (w' : World) : Prop := e = .returned (.tuple #[bl (doX s x f t), .int .i64 (doE s x f t)]) ∧ Below w.heap.size w w'
set_option maxRecDepth 100000 in
set_option maxHeartbeats 16000000 in
theorem do_any (s x : ByteArray) (f t : Int) (w : World) (hs : s.size ≤ 1000000) (hx : x.size ≤ 1000000) (hE : Env w) : Calls Tryz.prog 6 #[.string s, edV f t x] w (DoEnd s.data.toList x.data.toList f t w) := by
  have hb1 : Below w.heap.size w (w.alloc (.cells #[.int .i64 f, .int .i64 t, .string x] 25)) := galloc2 (Below.refl _ _) (Nat.le_refl _) _
  have hn1 := heap_alloc_new w (.cells #[.int .i64 f, .int .i64 t, .string x] 25)
  generalize hw1 : w.alloc (.cells #[.int .i64 f, .int .i64 t, .string x] 25) = w1 at *
  have HB1 := Lib.hid hb1
  have b0 : w1.cell? ⟨w.heap.size, 0, none⟩ = some (.int .i64 f) := by rw [cellH hn1]; rfl
  have b1 : w1.cell? ⟨w.heap.size, 1, none⟩ = some (.int .i64 t) := by rw [cellH hn1]; rfl
  have b2 : w1.cell? ⟨w.heap.size, 2, none⟩ = some (.string x) := by rw [cellH hn1]; rfl
  have hed := edited_any s x f t w1 hs hx (hE.below hb1 hE.size)
  unfold EdtEnd lxV edV at hed
  unfold DoEnd edV
  generalize doE s.data.toList x.data.toList f t = EE at *
  generalize doL s.data.toList x.data.toList f t = D at *
  generalize tokL s.data.toList = E at *
  generalize okS (tokE s.data.toList) s = S at *
  unfold bl
  generalize (⟨(doX s.data.toList x.data.toList f t).toArray⟩ : ByteArray) = T at *
  clear hb1 hn1 hE
  go_enter Tryz.func6, Tryz.ntmps6
  go_wp2_with fail
  refine hed.mono ?_
  rintro e w4 ⟨v1, v2, rfl, hT, hO, hb4⟩
  obtain ⟨q1, c1, rfl⟩ := owns_shape hT
  obtain ⟨q2, c2, rfl⟩ := own_shape hO
  have HB4 := Lib.hid (HB1.out.trans (hb4.mono HB1.out.size))
  clear hed hT hO hb4 hw1 b0 b1 b2
  have hb5 : Below w4.heap.size w4 (w4.alloc (.cells #[.string ⟨#[]⟩, .slice none 0 0] 46)) := galloc2 (Below.refl _ _) (Nat.le_refl _) _
  have hn5 := heap_alloc_new w4 (.cells #[.string ⟨#[]⟩, .slice none 0 0] 46)
  have hz5 : (w4.alloc (.cells #[.string ⟨#[]⟩, .slice none 0 0] 46)).heap.size = w4.heap.size + 1 := by simp
  generalize hw5 : w4.alloc (.cells #[.string ⟨#[]⟩, .slice none 0 0] 46) = w5 at *
  have hb6 : Below w5.heap.size w5 (w5.alloc (.cells #[.string ⟨#[]⟩, .slice none 0 0] 46)) := galloc2 (Below.refl _ _) (Nat.le_refl _) _
  have hn6 := heap_alloc_new w5 (.cells #[.string ⟨#[]⟩, .slice none 0 0] 46)
  generalize hw6 : w5.alloc (.cells #[.string ⟨#[]⟩, .slice none 0 0] 46) = w6 at *
  have HN56 := Lib.hid ((hb6.block w4.heap.size (by omega)).trans hn5)
  have HN6 := Lib.hid hn6
  have HZ5 := Lib.hid hz5
  have HB6 := Lib.hid (HB4.out.trans ((hb5.mono HB4.out.size).trans (hb6.mono (by have := HB4.out.size; omega))))
  have p0 : w6.cell? ⟨w4.heap.size, 0, none⟩ = some (.string ⟨#[]⟩) := by rw [cellH HN56.out]; rfl
  have p1 : w6.cell? ⟨w4.heap.size, 1, none⟩ = some (.slice none 0 0) := by rw [cellH HN56.out]; rfl
  have pf : ∀ o, w6.frozen? ⟨w4.heap.size, o, none⟩ = false := fun o => Lib.frozen_of_heap HN56.out o
  have r0 : w6.cell? ⟨w5.heap.size, 0, none⟩ = some (.string ⟨#[]⟩) := by rw [cellH HN6.out]; rfl
  have r1 : w6.cell? ⟨w5.heap.size, 1, none⟩ = some (.slice none 0 0) := by rw [cellH HN6.out]; rfl
  have rf : ∀ o, w6.frozen? ⟨w5.heap.size, o, none⟩ = false := fun o => Lib.frozen_of_heap HN6.out o
  have hne : w4.heap.size ≠ w5.heap.size := by omega
  have far1 : ∀ (W : World) (o1 o2 : Nat) (x : Value), (W.setCell ⟨w4.heap.size, o1, none⟩ x).cell? ⟨w5.heap.size, o2, none⟩ = W.cell? ⟨w5.heap.size, o2, none⟩ := fun W o1 o2 x => set_far W _ _ _ _ _ hne
  have far2 : ∀ (W : World) (o1 o2 : Nat) (x : Value), (W.setCell ⟨w4.heap.size, o1, none⟩ x).frozen? ⟨w5.heap.size, o2, none⟩ = W.frozen? ⟨w5.heap.size, o2, none⟩ := fun W o1 o2 x => set_far_fz W _ _ _ _ _ hne
  clear hne hb5 hn5 hb6 hn6 hz5
  go_wp2_with fail
  go_ret2
  exact ⟨rfl, below_set2 (below_set2 HB6.out HB4.out.size) (by have := HB4.out.size; have := HZ5.out; omega)⟩
def kepA (s x : List UInt8) (f t : Int) : Nat := if doE s x f t = 0 then aheadN (tokL s) (doL s x f t) else 0
def kepB (s x : List UInt8) (f t : Int) : Nat := if doE s x f t = 0 then behN (tokL s) (doL s x f t) else 0
def RlxEnd (s x : List UInt8) (f t : Int) (w : World) (e : Ending) (w' : World) : Prop := ∃ v, e = .returned (.tuple #[v, .agg #[.int .i64 (kepA s x f t), .int .i64 (kepB s x f t)], .int .i64 (doE s x f t)]) ∧ RowOwn w.heap.size w' v (doL s x f t) ∧ Below w.heap.size w w'
theorem tokL_len (l : List UInt8) : (tokL l).length ≤ l.length := by
  unfold tokL; split
  · exact toks_len l
  · exact Nat.zero_le _
theorem doL_len {s x : List UInt8} {f t : Int} : (doL s x f t).length ≤ 65536 := by
  unfold doL
  split
  · rename_i h
    unfold doE at h
    unfold doX
    by_cases h1 : tokE s = 0
    · rw [if_pos h1] at h ⊢
      have h9 := toks_len (edX s x f t)
      have h2 : (edX s x f t).length ≤ 65536 := by
        unfold edX; rw [if_pos h]
        unfold edE at h
        split at h
        · exact (tokE_zero h).1
        · cases h
      omega
    · rw [if_neg h1]; exact Nat.zero_le _
  · exact Nat.zero_le _
set_option maxRecDepth 100000 in
set_option maxHeartbeats 16000000 in
theorem relex_any (s x : ByteArray) (f t : Int) (w : World) (hs : s.size ≤ 1000000) (hx : x.size ≤ 1000000) (hE : Env w) : Calls Tryz.prog 8 #[.string s, edV f t x] w (RlxEnd s.data.toList x.data.toList f t w) := by
  have hb1 : Below w.heap.size w (w.alloc (.cells #[.int .i64 f, .int .i64 t, .string x] 25)) := galloc2 (Below.refl _ _) (Nat.le_refl _) _
  have hn1 := heap_alloc_new w (.cells #[.int .i64 f, .int .i64 t, .string x] 25)
  have hz1 : (w.alloc (.cells #[.int .i64 f, .int .i64 t, .string x] 25)).heap.size = w.heap.size + 1 := by simp
  generalize hw1 : w.alloc (.cells #[.int .i64 f, .int .i64 t, .string x] 25) = w1 at *
  have hb2 : Below w1.heap.size w1 (w1.alloc (.cells #[.int .i64 0, .int .i64 0] 32)) := galloc2 (Below.refl _ _) (Nat.le_refl _) _
  have hn2 := heap_alloc_new w1 (.cells #[.int .i64 0, .int .i64 0] 32)
  have hz2 : (w1.alloc (.cells #[.int .i64 0, .int .i64 0] 32)).heap.size = w1.heap.size + 1 := by simp
  generalize hw2 : w1.alloc (.cells #[.int .i64 0, .int .i64 0] 32) = w2 at *
  have HB2 := Lib.hid (hb1.trans (hb2.mono (by omega)))
  have hn1' := (hb2.block _ (by omega)).trans hn1
  have HN2 := Lib.hid hn2
  have HZ2 : Hid (w1.heap.size = w.heap.size + 1 ∧ w2.heap.size = w.heap.size + 2) := Lib.hid (by omega)
  have b0 : w2.cell? ⟨w.heap.size, 0, none⟩ = some (.int .i64 f) := by rw [cellH hn1']; rfl
  have b1 : w2.cell? ⟨w.heap.size, 1, none⟩ = some (.int .i64 t) := by rw [cellH hn1']; rfl
  have b2 : w2.cell? ⟨w.heap.size, 2, none⟩ = some (.string x) := by rw [cellH hn1']; rfl
  have hed := edited_any s x f t w2 hs hx (hE.below HB2.out hE.size)
  have hel := tokL_len s.data.toList
  rw [← Lib.size_eq] at hel
  have HEL : Hid ((tokL s.data.toList).length ≤ 10000000) := Lib.hid (by omega)
  have HDL : Hid ((doL s.data.toList x.data.toList f t).length ≤ 65536) := Lib.hid doL_len
  have HA : Hid (kepA s.data.toList x.data.toList f t = if doE s.data.toList x.data.toList f t = 0 then aheadN (tokL s.data.toList) (doL s.data.toList x.data.toList f t) else 0) := Lib.hid rfl
  have HBH : Hid (kepB s.data.toList x.data.toList f t = if doE s.data.toList x.data.toList f t = 0 then behN (tokL s.data.toList) (doL s.data.toList x.data.toList f t) else 0) := Lib.hid rfl
  unfold EdtEnd lxV edV at hed
  unfold edV
  have HEND : Hid (∀ v w', RowOwn w.heap.size w' v (doL s.data.toList x.data.toList f t) → Below w.heap.size w w' → RlxEnd s.data.toList x.data.toList f t w (.returned (.tuple #[v, .agg #[.int .i64 (kepA s.data.toList x.data.toList f t), .int .i64 (kepB s.data.toList x.data.toList f t)], .int .i64 (doE s.data.toList x.data.toList f t)])) w') := Lib.hid (fun v w' h1 h2 => ⟨v, rfl, h1, h2⟩)
  have HDN : Hid (doE s.data.toList x.data.toList f t ≠ 0 → doL s.data.toList x.data.toList f t = []) := Lib.hid (fun h => by unfold doL; rw [if_neg h])
  generalize kepA s.data.toList x.data.toList f t = KA at *
  generalize kepB s.data.toList x.data.toList f t = KB at *
  generalize doE s.data.toList x.data.toList f t = EE at *
  generalize doL s.data.toList x.data.toList f t = D at *
  generalize tokL s.data.toList = E at *
  generalize okS (tokE s.data.toList) s = S at *
  generalize (⟨(doX s.data.toList x.data.toList f t).toArray⟩ : ByteArray) = T at *
  clear hb1 hn1 hE hb2 hn2 hz1 hz2 hn1' hel
  by_cases hee : EE = 0
  · subst hee
    have HA' := HA.out
    have HB' := HBH.out
    rw [if_pos rfl] at HA' HB'
    subst HA'
    subst HB'
    clear HA HBH HDN
    go_enter Tryz.func8, Tryz.ntmps8
    go_wp2_with fail
    refine hed.mono ?_
    rintro e w4 ⟨v1, v2, rfl, hT, hO, hb4⟩
    obtain ⟨q1, c1, rfl⟩ := owns_shape hT
    obtain ⟨q2, c2, rfl⟩ := own_shape hO
    have HB4 := Lib.hid (HB2.out.trans (hb4.mono HB2.out.size))
    have HN24 := Lib.hid ((hb4.block w1.heap.size (by have := HZ2.out; omega)).trans HN2.out)
    have HZ4 := Lib.hid hb4.size
    clear hed hb4 hw1 hw2 b0 b1 b2
    have hb5 : Below w4.heap.size w4 (w4.alloc (.cells #[.string ⟨#[]⟩, .slice none 0 0] 46)) := galloc2 (Below.refl _ _) (Nat.le_refl _) _
    have hn5 := heap_alloc_new w4 (.cells #[.string ⟨#[]⟩, .slice none 0 0] 46)
    have hz5 : (w4.alloc (.cells #[.string ⟨#[]⟩, .slice none 0 0] 46)).heap.size = w4.heap.size + 1 := by simp
    generalize hw5 : w4.alloc (.cells #[.string ⟨#[]⟩, .slice none 0 0] 46) = w5 at *
    have hb6 : Below w5.heap.size w5 (w5.alloc (.cells #[.string ⟨#[]⟩, .slice none 0 0] 46)) := galloc2 (Below.refl _ _) (Nat.le_refl _) _
    have hn6 := heap_alloc_new w5 (.cells #[.string ⟨#[]⟩, .slice none 0 0] 46)
    generalize hw6 : w5.alloc (.cells #[.string ⟨#[]⟩, .slice none 0 0] 46) = w6 at *
    have HN56 := Lib.hid ((hb6.block w4.heap.size (by omega)).trans hn5)
    have HN26 := Lib.hid ((hb6.block w1.heap.size (by have := HZ2.out; have := HZ4.out; omega)).trans ((hb5.block w1.heap.size (by have := HZ2.out; have := HZ4.out; omega)).trans HN24.out))
    have HN6 := Lib.hid hn6
    have HZ5 := Lib.hid hz5
    have HB6 := Lib.hid (HB4.out.trans ((hb5.mono HB4.out.size).trans (hb6.mono (by have := HB4.out.size; omega))))
    have hT6 := (hT.below hb5).below hb6
    have hO6 := (hO.below hb5).below hb6
    have p0 : w6.cell? ⟨w4.heap.size, 0, none⟩ = some (.string ⟨#[]⟩) := by rw [cellH HN56.out]; rfl
    have p1 : w6.cell? ⟨w4.heap.size, 1, none⟩ = some (.slice none 0 0) := by rw [cellH HN56.out]; rfl
    have pf : ∀ o, w6.frozen? ⟨w4.heap.size, o, none⟩ = false := fun o => Lib.frozen_of_heap HN56.out o
    have r0 : w6.cell? ⟨w5.heap.size, 0, none⟩ = some (.string ⟨#[]⟩) := by rw [cellH HN6.out]; rfl
    have r1 : w6.cell? ⟨w5.heap.size, 1, none⟩ = some (.slice none 0 0) := by rw [cellH HN6.out]; rfl
    have rf : ∀ o, w6.frozen? ⟨w5.heap.size, o, none⟩ = false := fun o => Lib.frozen_of_heap HN6.out o
    have s0 : w6.cell? ⟨w1.heap.size, 0, none⟩ = some (.int .i64 0) := by rw [cellH HN26.out]; rfl
    have s1 : w6.cell? ⟨w1.heap.size, 1, none⟩ = some (.int .i64 0) := by rw [cellH HN26.out]; rfl
    have sf : ∀ o, w6.frozen? ⟨w1.heap.size, o, none⟩ = false := fun o => Lib.frozen_of_heap HN26.out o
    have hne : w4.heap.size ≠ w5.heap.size := by omega
    have hne2 : w5.heap.size ≠ w4.heap.size := by omega
    have hne3 : w4.heap.size ≠ w1.heap.size := by have := HZ2.out; have := HZ4.out; omega
    have hne4 : w5.heap.size ≠ w1.heap.size := by have := HZ2.out; have := HZ4.out; omega
    have far1 : ∀ (W : World) (o1 o2 : Nat) (x : Value), (W.setCell ⟨w4.heap.size, o1, none⟩ x).cell? ⟨w5.heap.size, o2, none⟩ = W.cell? ⟨w5.heap.size, o2, none⟩ := fun W o1 o2 x => set_far W _ _ _ _ _ hne
    have far2 : ∀ (W : World) (o1 o2 : Nat) (x : Value), (W.setCell ⟨w4.heap.size, o1, none⟩ x).frozen? ⟨w5.heap.size, o2, none⟩ = W.frozen? ⟨w5.heap.size, o2, none⟩ := fun W o1 o2 x => set_far_fz W _ _ _ _ _ hne
    have far3 : ∀ (W : World) (o1 o2 : Nat) (x : Value), (W.setCell ⟨w5.heap.size, o1, none⟩ x).cell? ⟨w4.heap.size, o2, none⟩ = W.cell? ⟨w4.heap.size, o2, none⟩ := fun W o1 o2 x => set_far W _ _ _ _ _ hne2
    have far4 : ∀ (W : World) (o1 o2 : Nat) (x : Value), (W.setCell ⟨w4.heap.size, o1, none⟩ x).cell? ⟨w1.heap.size, o2, none⟩ = W.cell? ⟨w1.heap.size, o2, none⟩ := fun W o1 o2 x => set_far W _ _ _ _ _ hne3
    have far5 : ∀ (W : World) (o1 o2 : Nat) (x : Value), (W.setCell ⟨w5.heap.size, o1, none⟩ x).cell? ⟨w1.heap.size, o2, none⟩ = W.cell? ⟨w1.heap.size, o2, none⟩ := fun W o1 o2 x => set_far W _ _ _ _ _ hne4
    have far6 : ∀ (W : World) (o1 o2 : Nat) (x : Value), (W.setCell ⟨w4.heap.size, o1, none⟩ x).frozen? ⟨w1.heap.size, o2, none⟩ = W.frozen? ⟨w1.heap.size, o2, none⟩ := fun W o1 o2 x => set_far_fz W _ _ _ _ _ hne3
    have far7 : ∀ (W : World) (o1 o2 : Nat) (x : Value), (W.setCell ⟨w5.heap.size, o1, none⟩ x).frozen? ⟨w1.heap.size, o2, none⟩ = W.frozen? ⟨w1.heap.size, o2, none⟩ := fun W o1 o2 x => set_far_fz W _ _ _ _ _ hne4
    have HT6 := Lib.hid hT6
    have HO6 := Lib.hid hO6
    have HT4 := Lib.hid hT
    have HO4 := Lib.hid hO
    have HB46 := Lib.hid (hb5.trans (hb6.mono (by omega)))
    clear hne hne2 hne3 hne4 hb5 hn5 hb6 hn6 hz5 hT hO hT6 hO6 HT6 HO6
    go_wp2_with fail
    have HN57 := Lib.hid (box_set2 ((box_far2 (x := .string S) (y := .slice q1 E.length c1) (show w4.heap.size ≠ w5.heap.size by have := HZ5.out; omega) w6).trans HN6.out) (.string T) (.slice q2 D.length c2))
    have HN27 := Lib.hid ((box_far2 (x := .string T) (y := .slice q2 D.length c2) (show w5.heap.size ≠ w1.heap.size by have := HZ2.out; have := HZ4.out; have := HZ5.out; omega) ((w6.setCell ⟨w4.heap.size, 0, none⟩ (.string S)).setCell ⟨w4.heap.size, 1, none⟩ (.slice q1 E.length c1))).trans ((box_far2 (x := .string S) (y := .slice q1 E.length c1) (show w4.heap.size ≠ w1.heap.size by have := HZ2.out; have := HZ4.out; omega) w6).trans HN26.out))
    have HB7 := Lib.hid (below_set2 (x := .string T) (y := .slice q2 D.length c2) (below_set2 (x := .string S) (y := .slice q1 E.length c1) HB6.out HB4.out.size) (show w.heap.size ≤ w5.heap.size by have := HB4.out.size; have := HZ5.out; omega))
    have HB47 := Lib.hid (below_set2 (x := .string T) (y := .slice q2 D.length c2) (below_set2 (x := .string S) (y := .slice q1 E.length c1) HB46.out (Nat.le_refl _)) (show w4.heap.size ≤ w5.heap.size by have := HZ5.out; omega))
    clear far1 far2 far3 far4 far5 far6 far7 p0 p1 pf r0 r1 rf s0 s1 sf
    generalize ((((w6.setCell ⟨w4.heap.size, 0, none⟩ (.string S)).setCell ⟨w4.heap.size, 1, none⟩ (.slice q1 E.length c1)).setCell ⟨w5.heap.size, 0, none⟩ (.string T)).setCell ⟨w5.heap.size, 1, none⟩ (.slice q2 D.length c2)) = w7 at *
    have HO7 := Lib.hid (HO4.out.below HB47.out)
    refine (common_any _ _ E D w7 (HT4.out.below HB47.out).row HO7.out.row HEL.out (by have := HDL.out; omega)).mono ?_
    rintro e w8 ⟨rfl, hb8⟩
    have HB8 := Lib.hid (HB7.out.trans (hb8.mono HB7.out.size))
    have HO8 := Lib.hid (HO7.out.below hb8)
    have hz7 := HB47.out.size
    have HN58 := (hb8.block w5.heap.size (Array.getElem?_eq_some_iff.1 HN57.out).1).trans HN57.out
    have HN28 := Lib.hid ((hb8.block w1.heap.size (Array.getElem?_eq_some_iff.1 HN27.out).1).trans HN27.out)
    have r1 : w8.cell? ⟨w5.heap.size, 1, none⟩ = some (.slice q2 D.length c2) := by rw [cellH HN58]; rfl
    have s0 : w8.cell? ⟨w1.heap.size, 0, none⟩ = some (.int .i64 0) := by rw [cellH HN28.out]; rfl
    have s1 : w8.cell? ⟨w1.heap.size, 1, none⟩ = some (.int .i64 0) := by rw [cellH HN28.out]; rfl
    have sf : ∀ o, w8.frozen? ⟨w1.heap.size, o, none⟩ = false := fun o => Lib.frozen_of_heap HN28.out o
    clear hb8 hz7 HN58
    obtain ⟨A, hA⟩ : ∃ A : Int, ((aheadN E D : Nat) : Int) = A := ⟨_, rfl⟩
    obtain ⟨B, hB⟩ : ∃ B : Int, ((behN E D : Nat) : Int) = B := ⟨_, rfl⟩
    rw [hA, hB]
    have HAA := Lib.hid hA
    have HBB := Lib.hid hB
    clear hA hB
    go_wp2_with fail
    have kF := box_set2 HN28.out (.int .i64 A) (.int .i64 B)
    have z0 := cellH kF 0
    have z1 := cellH kF 1
    refine bodyPost_ret (v := .tuple #[.slice q2 D.length c2, .agg #[.int .i64 A, .int .i64 B], .int .i64 0]) (by simp at z0 z1; simp [results, Tryz.results8, go_sem, z0, z1]) rfl ?_
    rw [← HAA.out, ← HBB.out]
    exact HEND.out _ _ (((HO8.out.set (b := w1.heap.size) (o := 0) (by have := HZ2.out; omega) _).set (b := w1.heap.size) (o := 1) (by have := HZ2.out; omega) _).base (by have := HZ2.out; omega)) (below_set2 HB8.out (by have := HZ2.out; omega))
  · have HDD := HDN.out hee
    subst HDD
    have HA' := HA.out
    have HB' := HBH.out
    rw [if_neg hee] at HA' HB'
    subst HA'
    subst HB'
    have q : ((EE : Int) != 0) = true := by rw [bne_iff_ne]; exact hee
    clear HA HBH HDN hee
    go_enter Tryz.func8, Tryz.ntmps8
    go_wp2_with fail
    refine hed.mono ?_
    rintro e w4 ⟨v1, v2, rfl, hT, hO, hb4⟩
    obtain ⟨q1, c1, rfl⟩ := owns_shape hT
    obtain ⟨q2, c2, rfl⟩ := own_shape hO
    have HB4 := Lib.hid (HB2.out.trans (hb4.mono HB2.out.size))
    have HN24 := Lib.hid ((hb4.block w1.heap.size (by have := HZ2.out; omega)).trans HN2.out)
    have HZ4 := Lib.hid hb4.size
    clear hed hb4 hw1 hw2 b0 b1 b2
    have hb5 : Below w4.heap.size w4 (w4.alloc (.cells #[.string ⟨#[]⟩, .slice none 0 0] 46)) := galloc2 (Below.refl _ _) (Nat.le_refl _) _
    have hn5 := heap_alloc_new w4 (.cells #[.string ⟨#[]⟩, .slice none 0 0] 46)
    have hz5 : (w4.alloc (.cells #[.string ⟨#[]⟩, .slice none 0 0] 46)).heap.size = w4.heap.size + 1 := by simp
    generalize hw5 : w4.alloc (.cells #[.string ⟨#[]⟩, .slice none 0 0] 46) = w5 at *
    have hb6 : Below w5.heap.size w5 (w5.alloc (.cells #[.string ⟨#[]⟩, .slice none 0 0] 46)) := galloc2 (Below.refl _ _) (Nat.le_refl _) _
    have hn6 := heap_alloc_new w5 (.cells #[.string ⟨#[]⟩, .slice none 0 0] 46)
    generalize hw6 : w5.alloc (.cells #[.string ⟨#[]⟩, .slice none 0 0] 46) = w6 at *
    have HN56 := Lib.hid ((hb6.block w4.heap.size (by omega)).trans hn5)
    have HN26 := Lib.hid ((hb6.block w1.heap.size (by have := HZ2.out; have := HZ4.out; omega)).trans ((hb5.block w1.heap.size (by have := HZ2.out; have := HZ4.out; omega)).trans HN24.out))
    have HN6 := Lib.hid hn6
    have HZ5 := Lib.hid hz5
    have HB6 := Lib.hid (HB4.out.trans ((hb5.mono HB4.out.size).trans (hb6.mono (by have := HB4.out.size; omega))))
    have hT6 := (hT.below hb5).below hb6
    have hO6 := (hO.below hb5).below hb6
    have p0 : w6.cell? ⟨w4.heap.size, 0, none⟩ = some (.string ⟨#[]⟩) := by rw [cellH HN56.out]; rfl
    have p1 : w6.cell? ⟨w4.heap.size, 1, none⟩ = some (.slice none 0 0) := by rw [cellH HN56.out]; rfl
    have pf : ∀ o, w6.frozen? ⟨w4.heap.size, o, none⟩ = false := fun o => Lib.frozen_of_heap HN56.out o
    have r0 : w6.cell? ⟨w5.heap.size, 0, none⟩ = some (.string ⟨#[]⟩) := by rw [cellH HN6.out]; rfl
    have r1 : w6.cell? ⟨w5.heap.size, 1, none⟩ = some (.slice none 0 0) := by rw [cellH HN6.out]; rfl
    have rf : ∀ o, w6.frozen? ⟨w5.heap.size, o, none⟩ = false := fun o => Lib.frozen_of_heap HN6.out o
    have s0 : w6.cell? ⟨w1.heap.size, 0, none⟩ = some (.int .i64 0) := by rw [cellH HN26.out]; rfl
    have s1 : w6.cell? ⟨w1.heap.size, 1, none⟩ = some (.int .i64 0) := by rw [cellH HN26.out]; rfl
    have sf : ∀ o, w6.frozen? ⟨w1.heap.size, o, none⟩ = false := fun o => Lib.frozen_of_heap HN26.out o
    have hne : w4.heap.size ≠ w5.heap.size := by omega
    have hne2 : w5.heap.size ≠ w4.heap.size := by omega
    have hne3 : w4.heap.size ≠ w1.heap.size := by have := HZ2.out; have := HZ4.out; omega
    have hne4 : w5.heap.size ≠ w1.heap.size := by have := HZ2.out; have := HZ4.out; omega
    have far1 : ∀ (W : World) (o1 o2 : Nat) (x : Value), (W.setCell ⟨w4.heap.size, o1, none⟩ x).cell? ⟨w5.heap.size, o2, none⟩ = W.cell? ⟨w5.heap.size, o2, none⟩ := fun W o1 o2 x => set_far W _ _ _ _ _ hne
    have far2 : ∀ (W : World) (o1 o2 : Nat) (x : Value), (W.setCell ⟨w4.heap.size, o1, none⟩ x).frozen? ⟨w5.heap.size, o2, none⟩ = W.frozen? ⟨w5.heap.size, o2, none⟩ := fun W o1 o2 x => set_far_fz W _ _ _ _ _ hne
    have far3 : ∀ (W : World) (o1 o2 : Nat) (x : Value), (W.setCell ⟨w5.heap.size, o1, none⟩ x).cell? ⟨w4.heap.size, o2, none⟩ = W.cell? ⟨w4.heap.size, o2, none⟩ := fun W o1 o2 x => set_far W _ _ _ _ _ hne2
    have far4 : ∀ (W : World) (o1 o2 : Nat) (x : Value), (W.setCell ⟨w4.heap.size, o1, none⟩ x).cell? ⟨w1.heap.size, o2, none⟩ = W.cell? ⟨w1.heap.size, o2, none⟩ := fun W o1 o2 x => set_far W _ _ _ _ _ hne3
    have far5 : ∀ (W : World) (o1 o2 : Nat) (x : Value), (W.setCell ⟨w5.heap.size, o1, none⟩ x).cell? ⟨w1.heap.size, o2, none⟩ = W.cell? ⟨w1.heap.size, o2, none⟩ := fun W o1 o2 x => set_far W _ _ _ _ _ hne4
    have far6 : ∀ (W : World) (o1 o2 : Nat) (x : Value), (W.setCell ⟨w4.heap.size, o1, none⟩ x).frozen? ⟨w1.heap.size, o2, none⟩ = W.frozen? ⟨w1.heap.size, o2, none⟩ := fun W o1 o2 x => set_far_fz W _ _ _ _ _ hne3
    have far7 : ∀ (W : World) (o1 o2 : Nat) (x : Value), (W.setCell ⟨w5.heap.size, o1, none⟩ x).frozen? ⟨w1.heap.size, o2, none⟩ = W.frozen? ⟨w1.heap.size, o2, none⟩ := fun W o1 o2 x => set_far_fz W _ _ _ _ _ hne4
    have HT6 := Lib.hid hT6
    have HO6 := Lib.hid hO6
    have HT4 := Lib.hid hT
    have HO4 := Lib.hid hO
    have HB46 := Lib.hid (hb5.trans (hb6.mono (by omega)))
    clear hne hne2 hne3 hne4 hb5 hn5 hb6 hn6 hz5 hT hO hT6 hO6 HT6 HO6
    go_wp2_with fail
    have HN27 := Lib.hid ((box_far2 (x := .string T) (y := .slice q2 0 c2) (show w5.heap.size ≠ w1.heap.size by have := HZ2.out; have := HZ4.out; have := HZ5.out; omega) ((w6.setCell ⟨w4.heap.size, 0, none⟩ (.string S)).setCell ⟨w4.heap.size, 1, none⟩ (.slice q1 E.length c1))).trans ((box_far2 (x := .string S) (y := .slice q1 E.length c1) (show w4.heap.size ≠ w1.heap.size by have := HZ2.out; have := HZ4.out; omega) w6).trans HN26.out))
    have kF := box_set2 HN27.out (.int .i64 0) (.int .i64 0)
    have z0 := cellH kF 0
    have z1 := cellH kF 1
    have HB7 := Lib.hid (below_set2 (x := .string T) (y := .slice q2 0 c2) (below_set2 (x := .string S) (y := .slice q1 E.length c1) HB6.out HB4.out.size) (show w.heap.size ≤ w5.heap.size by have := HB4.out.size; have := HZ5.out; omega))
    have HB9 := below_set2 (x := .int .i64 0) (y := .int .i64 0) HB7.out (show w.heap.size ≤ w1.heap.size by have := HZ2.out; omega)
    clear far1 far2 far3 far4 far5 far6 far7 p0 p1 pf r0 r1 rf s0 s1 sf
    generalize ((((((w6.setCell ⟨w4.heap.size, 0, none⟩ (.string S)).setCell ⟨w4.heap.size, 1, none⟩ (.slice q1 E.length c1)).setCell ⟨w5.heap.size, 0, none⟩ (.string T)).setCell ⟨w5.heap.size, 1, none⟩ (.slice q2 0 c2)).setCell ⟨w1.heap.size, 0, none⟩ (.int .i64 0)).setCell ⟨w1.heap.size, 1, none⟩ (.int .i64 0)) = w9 at *
    refine bodyPost_ret (v := .tuple #[.slice none 0 0, .agg #[.int .i64 0, .int .i64 0], .int .i64 EE]) (by simp at z0 z1; simp [results, Tryz.results8, go_sem, z0, z1]) rfl ?_
    exact HEND.out _ _ (.inl ⟨rfl, none, rfl⟩) HB9
end Go.Proofs.YtfedmhccbfhcbaaGreatDoor
