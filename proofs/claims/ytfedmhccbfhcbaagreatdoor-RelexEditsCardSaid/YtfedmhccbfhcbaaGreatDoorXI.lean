/-
  edited.
-/
import Derived.Test.YtfedmhccbfhcbaaGreatDoorXH
namespace Go.Proofs.YtfedmhccbfhcbaaGreatDoor
open Go.RowKit Go.Shelf

/-- What Do answers. -/
def doE (s x : List UInt8) (f t : Int) : Int := if tokE s = 0 then edE s x f t else tokE s
def doX (s x : List UInt8) (f t : Int) : List UInt8 := if tokE s = 0 then edX s x f t else []
def doL (s x : List UInt8) (f t : Int) : List Tok := if doE s x f t = 0 then toks (doX s x f t) else []
def EdtEnd (s x : ByteArray) (f t : Int) (w : World) (e : Ending) (w' : World) : Prop := ∃ v1 v2, e = .returned (.tuple #[lxV (okS (tokE s.data.toList) s) v1, lxV ⟨(doX s.data.toList x.data.toList f t).toArray⟩ v2, .int .i64 (doE s.data.toList x.data.toList f t)]) ∧ ToksAt w.heap.size w' v1 (tokL s.data.toList) ∧ RowOwn w.heap.size w' v2 (doL s.data.toList x.data.toList f t) ∧ Below w.heap.size w w'
theorem edited_bad {s x : ByteArray} {f t : Int} {w : World} {K : Int} (hK : tokE s.data.toList = K) (h0 : K ≠ 0) {w' : World} (hb : Below w.heap.size w w') : EdtEnd s x f t w (.returned (.tuple #[lxV ⟨#[]⟩ (.slice none 0 0), lxV ⟨#[]⟩ (.slice none 0 0), .int .i64 K])) w' := by
  have e1 : doE s.data.toList x.data.toList f t = K := by unfold doE; rw [hK, if_neg h0]
  refine ⟨.slice none 0 0, .slice none 0 0, ?_, ?_, ?_, hb⟩
  · rw [e1]; unfold doX okS; rw [hK, if_neg h0, if_neg h0]
  · rw [tokL_bad (by rw [hK]; exact h0)]; exact World.ownsRow_nil _ _ _ _
  · unfold doL; rw [e1, if_neg h0]; exact .inl ⟨rfl, none, rfl⟩
theorem set_far (W : World) (a b o1 o2 : Nat) (x : Value) (h : a ≠ b) : (W.setCell ⟨a, o1, none⟩ x).cell? ⟨b, o2, none⟩ = W.cell? ⟨b, o2, none⟩ := by
  unfold World.cell?
  rw [show (W.setCell ⟨a, o1, none⟩ x).heap[(⟨b, o2, none⟩ : Addr).block]? = W.heap[(⟨b, o2, none⟩ : Addr).block]? from heap_setCell_other W ⟨a, o1, none⟩ b x (by show b ≠ a; omega)]
theorem set_far_fz (W : World) (a b o1 o2 : Nat) (x : Value) (h : a ≠ b) : (W.setCell ⟨a, o1, none⟩ x).frozen? ⟨b, o2, none⟩ = W.frozen? ⟨b, o2, none⟩ := by
  unfold World.frozen?
  rw [show (W.setCell ⟨a, o1, none⟩ x).heap[(⟨b, o2, none⟩ : Addr).block]? = W.heap[(⟨b, o2, none⟩ : Addr).block]? from heap_setCell_other W ⟨a, o1, none⟩ b x (by show b ≠ a; omega)]
theorem box_set2 {W : World} {b : Nat} {u v : Value} {T : TypeId} (h : W.heap[b]? = some (.cells #[u, v] T (0, 0))) (x y : Value) : ((W.setCell ⟨b, 0, none⟩ x).setCell ⟨b, 1, none⟩ y).heap[b]? = some (.cells #[x, y] T (0, 0)) :=
  heap_setCell_same _ _ 1 _ _ y (heap_setCell_same _ _ 0 _ _ x h)
theorem box_far2 {a b : Nat} {x y : Value} (h : a ≠ b) (W : World) : ((W.setCell ⟨a, 0, none⟩ x).setCell ⟨a, 1, none⟩ y).heap[b]? = W.heap[b]? :=
  (heap_setCell_other _ ⟨a, 1, none⟩ b y (by show b ≠ a; omega)).trans (heap_setCell_other _ ⟨a, 0, none⟩ b x (by show b ≠ a; omega))
theorem below_set2 {n b : Nat} {w W : World} {x y : Value} (h : Below n w W) (hn : n ≤ b) : Below n w ((W.setCell ⟨b, 0, none⟩ x).setCell ⟨b, 1, none⟩ y) :=
  (h.setCell (p := ⟨b, 0, none⟩) hn _).setCell (p := ⟨b, 1, none⟩) hn _
set_option maxRecDepth 100000 in
set_option maxHeartbeats 16000000 in
theorem edited_any (s x : ByteArray) (f t : Int) (w : World) (hs : s.size ≤ 1000000) (hx : x.size ≤ 1000000) (hE : Env w) : Calls Tryz.prog 13 #[.string s, edV f t x] w (EdtEnd s x f t w) := by
  have hb1 : Below w.heap.size w (w.alloc (.cells #[.int .i64 f, .int .i64 t, .string x] 25)) := galloc2 (Below.refl _ _) (Nat.le_refl _) _
  have hn1 := heap_alloc_new w (.cells #[.int .i64 f, .int .i64 t, .string x] 25)
  have hz1' : (w.alloc (.cells #[.int .i64 f, .int .i64 t, .string x] 25)).heap.size = w.heap.size + 1 := by simp
  generalize hw1 : w.alloc (.cells #[.int .i64 f, .int .i64 t, .string x] 25) = w1 at *
  have hb2 : Below w1.heap.size w1 (w1.alloc (.cells #[.string ⟨#[]⟩, .slice none 0 0] 46)) := galloc2 (Below.refl _ _) (Nat.le_refl _) _
  have hn2 := heap_alloc_new w1 (.cells #[.string ⟨#[]⟩, .slice none 0 0] 46)
  have hz2' : (w1.alloc (.cells #[.string ⟨#[]⟩, .slice none 0 0] 46)).heap.size = w1.heap.size + 1 := by simp
  generalize hw2 : w1.alloc (.cells #[.string ⟨#[]⟩, .slice none 0 0] 46) = w2 at *
  have hb3 : Below w2.heap.size w2 (w2.alloc (.cells #[.string ⟨#[]⟩, .slice none 0 0] 46)) := galloc2 (Below.refl _ _) (Nat.le_refl _) _
  have hn3 := heap_alloc_new w2 (.cells #[.string ⟨#[]⟩, .slice none 0 0] 46)
  have hz3' : (w2.alloc (.cells #[.string ⟨#[]⟩, .slice none 0 0] 46)).heap.size = w2.heap.size + 1 := by simp
  generalize hw3 : w2.alloc (.cells #[.string ⟨#[]⟩, .slice none 0 0] 46) = w3 at *
  have HB3 : Hid (Below w.heap.size w w3) := Lib.hid (hb1.trans ((hb2.mono (by omega)).trans (hb3.mono (by omega))))
  have HZ : Hid (w1.heap.size = w.heap.size + 1 ∧ w2.heap.size = w.heap.size + 2 ∧ w3.heap.size = w.heap.size + 3) := Lib.hid (by omega)
  have HN1 : Hid (w3.heap[w.heap.size]? = some (.cells #[.int .i64 f, .int .i64 t, .string x] 25 (0, 0))) := Lib.hid ((hb3.block _ (by omega)).trans ((hb2.block _ (by omega)).trans hn1))
  have HN2 : Hid (w3.heap[w1.heap.size]? = some (.cells #[.string ⟨#[]⟩, .slice none 0 0] 46 (0, 0))) := Lib.hid ((hb3.block _ (by omega)).trans hn2)
  have HN3 : Hid (w3.heap[w2.heap.size]? = some (.cells #[.string ⟨#[]⟩, .slice none 0 0] 46 (0, 0))) := Lib.hid hn3
  have HE := Lib.hid hE
  clear hb1 hb2 hb3 hn1 hn2 hn3 hz1' hz2' hz3' hE
  have hrd := read_any s w3 hs (HE.out.below HB3.out HE.out.size)
  unfold ReadEnd at hrd
  obtain ⟨K, hK⟩ : ∃ K, tokE s.data.toList = K := ⟨_, rfl⟩
  rw [hK] at hrd
  have HK := Lib.hid hK
  clear hK
  by_cases hK0 : K = 0
  · subst hK0
    obtain ⟨hs6, hval⟩ := tokE_zero HK.out
    rw [← Lib.size_eq] at hs6
    have hok : okS 0 s = s := rfl
    rw [hok, tokL_good HK.out] at hrd
    unfold edV
    go_enter Tryz.func13, Tryz.ntmps13
    go_wp2_with fail
    refine hrd.mono ?_
    rintro e w4 ⟨v4, rfl, hT4, hb4⟩
    obtain ⟨q4, c4, rfl⟩ := owns_shape hT4
    have HT4 := Lib.hid hT4
    have HB4 := Lib.hid (HB3.out.trans (hb4.mono HB3.out.size))
    have HZ4 := Lib.hid hb4.size
    have HN14 := Lib.hid ((hb4.block w.heap.size (by have := HZ.out; omega)).trans HN1.out)
    have HN24 := Lib.hid ((hb4.block w1.heap.size (by have := HZ.out; omega)).trans HN2.out)
    have HN34 := Lib.hid ((hb4.block w2.heap.size (by have := HZ.out; omega)).trans HN3.out)
    unfold lxV
    have p0 : w4.cell? ⟨w1.heap.size, 0, none⟩ = some (.string ⟨#[]⟩) := by rw [cellH HN24.out]; rfl
    have p1 : w4.cell? ⟨w1.heap.size, 1, none⟩ = some (.slice none 0 0) := by rw [cellH HN24.out]; rfl
    have pf : ∀ o, w4.frozen? ⟨w1.heap.size, o, none⟩ = false := fun o => Lib.frozen_of_heap HN24.out o
    have b0 : w4.cell? ⟨w.heap.size, 0, none⟩ = some (.int .i64 f) := by rw [cellH HN14.out]; rfl
    have b1 : w4.cell? ⟨w.heap.size, 1, none⟩ = some (.int .i64 t) := by rw [cellH HN14.out]; rfl
    have b2 : w4.cell? ⟨w.heap.size, 2, none⟩ = some (.string x) := by rw [cellH HN14.out]; rfl
    have hne : w1.heap.size ≠ w.heap.size := by have := HZ.out; omega
    have far1 : ∀ (W : World) (o1 o2 : Nat) (x : Value), (W.setCell ⟨w1.heap.size, o1, none⟩ x).cell? ⟨w.heap.size, o2, none⟩ = W.cell? ⟨w.heap.size, o2, none⟩ := fun W o1 o2 x => set_far W _ _ _ _ _ hne
    clear hT4 hb4 hrd hw1 hw2 hw3 hne
    go_wp2_with fail
    have HN25 := Lib.hid (box_set2 HN24.out (.string s) (.slice q4 (toks s.data.toList).length c4))
    have HN35 := Lib.hid ((box_far2 (x := .string s) (y := .slice q4 (toks s.data.toList).length c4) (show w1.heap.size ≠ w2.heap.size by have := HZ.out; omega) w4).trans HN34.out)
    have HB5 := Lib.hid (below_set2 (x := .string s) (y := .slice q4 (toks s.data.toList).length c4) HB4.out (show w.heap.size ≤ w1.heap.size by have := HZ.out; omega))
    have HT5 := Lib.hid ((HT4.out.set (b := w1.heap.size) (o := 0) (by have := HZ.out; omega) (.string s)).set (b := w1.heap.size) (o := 1) (by have := HZ.out; omega) (.slice q4 (toks s.data.toList).length c4))
    have HZ5 : Hid (w3.heap.size ≤ ((w4.setCell ⟨w1.heap.size, 0, none⟩ (.string s)).setCell ⟨w1.heap.size, 1, none⟩ (.slice q4 (toks s.data.toList).length c4)).heap.size) := Lib.hid (by simpa using HZ4.out)
    clear far1 p0 p1 pf b0 b1 b2
    generalize ((w4.setCell ⟨w1.heap.size, 0, none⟩ (.string s)).setCell ⟨w1.heap.size, 1, none⟩ (.slice q4 (toks s.data.toList).length c4)) = w5 at *
    have hed := edit_any s x (.slice q4 (toks s.data.toList).length c4) f t w5 hval hs6 hx HT5.out.row (HE.out.below HB5.out HE.out.size)
    unfold EditEnd lxV edV at hed
    have HXE : Hid (doE s.data.toList x.data.toList f t = edE s.data.toList x.data.toList f t ∧ doX s.data.toList x.data.toList f t = edX s.data.toList x.data.toList f t) := Lib.hid ⟨by unfold doE; rw [if_pos HK.out], by unfold doX; rw [if_pos HK.out]⟩
    have HTL : Hid (tokL s.data.toList = toks s.data.toList) := Lib.hid (tokL_good HK.out)
    have HDL : Hid (doL s.data.toList x.data.toList f t = if edE s.data.toList x.data.toList f t = 0 then toks (edX s.data.toList x.data.toList f t) else []) := Lib.hid (by unfold doL; rw [HXE.out.1, HXE.out.2])
    generalize (if edE s.data.toList x.data.toList f t = 0 then toks (edX s.data.toList x.data.toList f t) else []) = D at *
    generalize edE s.data.toList x.data.toList f t = EE at *
    generalize edX s.data.toList x.data.toList f t = XX at *
    obtain ⟨T, hT⟩ : ∃ T : ByteArray, (⟨XX.toArray⟩ : ByteArray) = T := ⟨_, rfl⟩
    rw [hT] at hed
    have HTT := Lib.hid hT
    have HKOK : Hid (okS (tokE s.data.toList) s = s) := Lib.hid (by rw [HK.out]; rfl)
    clear hT hok
    generalize hEV : toks s.data.toList = E at *
    clear hEV hval
    refine hed.mono ?_
    rintro e w6 ⟨v6, rfl, hO6, hb6⟩
    have HO6 := Lib.hid hO6
    have HT6 := Lib.hid (HT5.out.below hb6)
    have HB6 := Lib.hid (HB5.out.trans (hb6.mono HB5.out.size))
    have HZ6 := Lib.hid (Nat.le_trans HZ5.out hb6.size)
    have HN26 := Lib.hid ((hb6.block w1.heap.size (by have := HZ.out; have := HZ5.out; omega)).trans HN25.out)
    have HN36 := Lib.hid ((hb6.block w2.heap.size (by have := HZ.out; have := HZ5.out; omega)).trans HN35.out)
    obtain ⟨q6, m6, c6, rfl⟩ : ∃ q m c, v6 = .slice q m c := by
      rcases hO6 with ⟨_, p9, e9⟩ | h9
      · exact ⟨_, _, _, e9⟩
      · obtain ⟨_, _, e9⟩ := owns_shape h9; exact ⟨_, _, _, e9⟩
    have p0 : w6.cell? ⟨w2.heap.size, 0, none⟩ = some (.string ⟨#[]⟩) := by rw [cellH HN36.out]; rfl
    have p1 : w6.cell? ⟨w2.heap.size, 1, none⟩ = some (.slice none 0 0) := by rw [cellH HN36.out]; rfl
    have pf : ∀ o, w6.frozen? ⟨w2.heap.size, o, none⟩ = false := fun o => Lib.frozen_of_heap HN36.out o
    clear hO6 hb6 hed
    go_wp2_with fail
    have HN37 := Lib.hid (box_set2 HN36.out (.string T) (.slice q6 m6 c6))
    have HN27 := Lib.hid ((box_far2 (x := .string T) (y := .slice q6 m6 c6) (show w2.heap.size ≠ w1.heap.size by have := HZ.out; omega) w6).trans HN26.out)
    have HB7 := Lib.hid (below_set2 (x := .string T) (y := .slice q6 m6 c6) HB6.out (show w.heap.size ≤ w2.heap.size by have := HZ.out; omega))
    have HT7 := Lib.hid ((HT6.out.set (b := w2.heap.size) (o := 0) (by have := HZ.out; omega) (.string T)).set (b := w2.heap.size) (o := 1) (by have := HZ.out; omega) (.slice q6 m6 c6))
    have HO7 := Lib.hid ((HO6.out.set (b := w2.heap.size) (o := 0) (by have := HZ.out; have := HZ5.out; omega) (.string T)).set (b := w2.heap.size) (o := 1) (by have := HZ.out; have := HZ5.out; omega) (.slice q6 m6 c6))
    clear p0 p1 pf
    generalize ((w6.setCell ⟨w2.heap.size, 0, none⟩ (.string T)).setCell ⟨w2.heap.size, 1, none⟩ (.slice q6 m6 c6)) = w7 at *
    have p0 : w7.cell? ⟨w1.heap.size, 0, none⟩ = some (.string s) := by rw [cellH HN27.out]; rfl
    have p1 : w7.cell? ⟨w1.heap.size, 1, none⟩ = some (.slice q4 E.length c4) := by rw [cellH HN27.out]; rfl
    have pf : ∀ o, w7.frozen? ⟨w1.heap.size, o, none⟩ = false := fun o => Lib.frozen_of_heap HN27.out o
    have r0 : w7.cell? ⟨w2.heap.size, 0, none⟩ = some (.string T) := by rw [cellH HN37.out]; rfl
    have r1 : w7.cell? ⟨w2.heap.size, 1, none⟩ = some (.slice q6 m6 c6) := by rw [cellH HN37.out]; rfl
    have rf : ∀ o, w7.frozen? ⟨w2.heap.size, o, none⟩ = false := fun o => Lib.frozen_of_heap HN37.out o
    have hne : w1.heap.size ≠ w2.heap.size := by have := HZ.out; omega
    have hne2 : w2.heap.size ≠ w1.heap.size := by have := HZ.out; omega
    have far1 : ∀ (W : World) (o1 o2 : Nat) (x : Value), (W.setCell ⟨w1.heap.size, o1, none⟩ x).cell? ⟨w2.heap.size, o2, none⟩ = W.cell? ⟨w2.heap.size, o2, none⟩ := fun W o1 o2 x => set_far W _ _ _ _ _ hne
    have far2 : ∀ (W : World) (o1 o2 : Nat) (x : Value), (W.setCell ⟨w1.heap.size, o1, none⟩ x).frozen? ⟨w2.heap.size, o2, none⟩ = W.frozen? ⟨w2.heap.size, o2, none⟩ := fun W o1 o2 x => set_far_fz W _ _ _ _ _ hne
    have far3 : ∀ (W : World) (o1 o2 : Nat) (x : Value), (W.setCell ⟨w2.heap.size, o1, none⟩ x).cell? ⟨w1.heap.size, o2, none⟩ = W.cell? ⟨w1.heap.size, o2, none⟩ := fun W o1 o2 x => set_far W _ _ _ _ _ hne2
    have far4 : ∀ (W : World) (o1 o2 : Nat) (x : Value), (W.setCell ⟨w2.heap.size, o1, none⟩ x).frozen? ⟨w1.heap.size, o2, none⟩ = W.frozen? ⟨w1.heap.size, o2, none⟩ := fun W o1 o2 x => set_far_fz W _ _ _ _ _ hne2
    clear hne hne2
    go_region
    have HN28 := box_set2 HN27.out (.string s) (.slice q4 E.length c4)
    have HN38 := (box_far2 (x := .string s) (y := .slice q4 E.length c4) (show w1.heap.size ≠ w2.heap.size by have := HZ.out; omega) w7).trans HN37.out
    have HB8 := below_set2 (x := .string s) (y := .slice q4 E.length c4) HB7.out (show w.heap.size ≤ w1.heap.size by have := HZ.out; omega)
    have HT8 := (HT7.out.set (b := w1.heap.size) (o := 0) (by have := HZ.out; omega) (.string s)).set (b := w1.heap.size) (o := 1) (by have := HZ.out; omega) (.slice q4 E.length c4)
    have HO8 := (HO7.out.set (b := w1.heap.size) (o := 0) (by have := HZ.out; have := HZ5.out; omega) (.string s)).set (b := w1.heap.size) (o := 1) (by have := HZ.out; have := HZ5.out; omega) (.slice q4 E.length c4)
    generalize ((w7.setCell ⟨w1.heap.size, 0, none⟩ (.string s)).setCell ⟨w1.heap.size, 1, none⟩ (.slice q4 E.length c4)) = w8 at *
    have HN39 := Lib.hid (box_set2 HN38 (.string T) (.slice q6 m6 c6))
    have HN29 := Lib.hid ((box_far2 (x := .string T) (y := .slice q6 m6 c6) (show w2.heap.size ≠ w1.heap.size by have := HZ.out; omega) w8).trans HN28)
    have HB9 := Lib.hid (below_set2 (x := .string T) (y := .slice q6 m6 c6) HB8 (show w.heap.size ≤ w2.heap.size by have := HZ.out; omega))
    have HT9 := Lib.hid ((HT8.set (b := w2.heap.size) (o := 0) (by have := HZ.out; omega) (.string T)).set (b := w2.heap.size) (o := 1) (by have := HZ.out; omega) (.slice q6 m6 c6))
    have HO9 := Lib.hid ((HO8.set (b := w2.heap.size) (o := 0) (by have := HZ.out; have := HZ5.out; omega) (.string T)).set (b := w2.heap.size) (o := 1) (by have := HZ.out; have := HZ5.out; omega) (.slice q6 m6 c6))
    clear far1 far2 far3 far4 p0 p1 pf r0 r1 rf HN28 HN38 HB8 HT8 HO8
    generalize ((w8.setCell ⟨w2.heap.size, 0, none⟩ (.string T)).setCell ⟨w2.heap.size, 1, none⟩ (.slice q6 m6 c6)) = w9 at *
    have z0 := cellH HN29.out 0
    have z1 := cellH HN29.out 1
    have z2 := cellH HN39.out 0
    have z3 := cellH HN39.out 1
    go_wp2_with fail
    refine bodyPost_ret (v := .tuple #[lxV s (.slice q4 E.length c4), lxV T (.slice q6 m6 c6), .int .i64 EE]) (by simp at z0 z1 z2 z3; simp [results, Tryz.results13, go_sem, lxV, z0, z1, z2, z3]) rfl ⟨.slice q4 E.length c4, .slice q6 m6 c6, ?_, ?_, ?_, HB9.out.drew⟩
    · rw [HKOK.out, HXE.out.1, HXE.out.2, HTT.out]
    · rw [HTL.out]; exact owns_base HT9.out (by have := HZ.out; omega)
    · rw [HDL.out]; exact RowOwn.base HO9.out (by have := HB5.out.size; omega)
  · have q : ((K : Int) != 0) = true := by rw [bne_iff_ne]; exact hK0
    have HK0 := Lib.hid hK0
    have hok : okS K s = ⟨#[]⟩ := if_neg hK0
    rw [hok, tokL_bad (by rw [HK.out]; exact hK0)] at hrd
    clear hK0 hok
    unfold edV
    go_enter Tryz.func13, Tryz.ntmps13
    go_wp2_with fail
    refine hrd.mono ?_
    rintro e w4 ⟨v4, rfl, hT4, hb4⟩
    obtain ⟨q4, c4, rfl⟩ := owns_shape hT4
    have HB4 := Lib.hid (HB3.out.trans (hb4.mono HB3.out.size))
    have HN24 := Lib.hid ((hb4.block w1.heap.size (by have := HZ.out; omega)).trans HN2.out)
    have HN34 := Lib.hid ((hb4.block w2.heap.size (by have := HZ.out; omega)).trans HN3.out)
    unfold lxV
    have p0 : w4.cell? ⟨w1.heap.size, 0, none⟩ = some (.string ⟨#[]⟩) := by rw [cellH HN24.out]; rfl
    have p1 : w4.cell? ⟨w1.heap.size, 1, none⟩ = some (.slice none 0 0) := by rw [cellH HN24.out]; rfl
    have pf : ∀ o, w4.frozen? ⟨w1.heap.size, o, none⟩ = false := fun o => Lib.frozen_of_heap HN24.out o
    have r0 : w4.cell? ⟨w2.heap.size, 0, none⟩ = some (.string ⟨#[]⟩) := by rw [cellH HN34.out]; rfl
    have r1 : w4.cell? ⟨w2.heap.size, 1, none⟩ = some (.slice none 0 0) := by rw [cellH HN34.out]; rfl
    have rf : ∀ o, w4.frozen? ⟨w2.heap.size, o, none⟩ = false := fun o => Lib.frozen_of_heap HN34.out o
    have hne : w1.heap.size ≠ w2.heap.size := by have := HZ.out; omega
    have far1 : ∀ (W : World) (o1 o2 : Nat) (x : Value), (W.setCell ⟨w1.heap.size, o1, none⟩ x).cell? ⟨w2.heap.size, o2, none⟩ = W.cell? ⟨w2.heap.size, o2, none⟩ := fun W o1 o2 x => set_far W _ _ _ _ _ hne
    have far2 : ∀ (W : World) (o1 o2 : Nat) (x : Value), (W.setCell ⟨w1.heap.size, o1, none⟩ x).frozen? ⟨w2.heap.size, o2, none⟩ = W.frozen? ⟨w2.heap.size, o2, none⟩ := fun W o1 o2 x => set_far_fz W _ _ _ _ _ hne
    clear hT4 hb4 hrd hw1 hw2 hw3 hne
    go_wp2_with fail
    have hk1 := box_set2 (box_set2 HN24.out (.string ⟨#[]⟩) (.slice q4 0 c4)) (.string ⟨#[]⟩) (.slice none 0 0)
    have hk2 := ((box_far2 (x := .string ⟨#[]⟩) (y := .slice none 0 0) (show w1.heap.size ≠ w2.heap.size by have := HZ.out; omega) ((w4.setCell ⟨w1.heap.size, 0, none⟩ (.string ⟨#[]⟩)).setCell ⟨w1.heap.size, 1, none⟩ (.slice q4 0 c4))).trans (box_far2 (x := .string ⟨#[]⟩) (y := .slice q4 0 c4) (show w1.heap.size ≠ w2.heap.size by have := HZ.out; omega) w4)).trans HN34.out
    have hk3 := box_set2 hk2 (.string ⟨#[]⟩) (.slice none 0 0)
    have hk4 := (box_far2 (x := .string ⟨#[]⟩) (y := .slice none 0 0) (show w2.heap.size ≠ w1.heap.size by have := HZ.out; omega) _).trans hk1
    have HBF := Lib.hid (below_set2 (x := .string ⟨#[]⟩) (y := .slice none 0 0) (below_set2 (x := .string ⟨#[]⟩) (y := .slice none 0 0) (below_set2 (x := .string ⟨#[]⟩) (y := .slice q4 0 c4) HB4.out (show w.heap.size ≤ w1.heap.size by have := HZ.out; omega)) (show w.heap.size ≤ w1.heap.size by have := HZ.out; omega)) (show w.heap.size ≤ w2.heap.size by have := HZ.out; omega))
    clear far1 far2 p0 p1 pf r0 r1 rf
    generalize ((((((w4.setCell ⟨w1.heap.size, 0, none⟩ (.string ⟨#[]⟩)).setCell ⟨w1.heap.size, 1, none⟩ (.slice q4 0 c4)).setCell ⟨w1.heap.size, 0, none⟩ (.string ⟨#[]⟩)).setCell ⟨w1.heap.size, 1, none⟩ (.slice none 0 0)).setCell ⟨w2.heap.size, 0, none⟩ (.string ⟨#[]⟩)).setCell ⟨w2.heap.size, 1, none⟩ (.slice none 0 0)) = wF at *
    have z0 := cellH hk4 0
    have z1 := cellH hk4 1
    have z2 := cellH hk3 0
    have z3 := cellH hk3 1
    refine bodyPost_ret (v := .tuple #[lxV ⟨#[]⟩ (.slice none 0 0), lxV ⟨#[]⟩ (.slice none 0 0), .int .i64 K]) (by simp at z0 z1 z2 z3; simp [results, Tryz.results13, go_sem, lxV, z0, z1, z2, z3]) rfl (edited_bad HK.out HK0.out HBF.out)
end Go.Proofs.YtfedmhccbfhcbaaGreatDoor
