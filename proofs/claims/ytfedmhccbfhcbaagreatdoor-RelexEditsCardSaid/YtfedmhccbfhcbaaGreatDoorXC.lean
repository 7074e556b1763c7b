/-
  isSpan, replaced.
-/
import Derived.Test.YtfedmhccbfhcbaaGreatDoorXB
import Derived.Test.YtfedmhccbfhcbaaGreatDoorN
namespace Go.Proofs.YtfedmhccbfhcbaaGreatDoor
open Go.RowKit Go.Shelf

theorem builder_new (w : World) : Lib.IsBuilder 78 5 w.heap.size w.heap.size [] (w.alloc (.cells #[.pointer none, .slice none 0 0] 78)) :=
  .inl ⟨Nat.le_refl _, .slice none 0 0, heap_alloc_new w _, World.ownsRow_nil _ _ _ _, by intro h; cases h⟩
def spV (f t : Int) : Value := .agg #[.int .i64 f, .int .i64 t]
def edV (f t : Int) (x : ByteArray) : Value := .agg #[.int .i64 f, .int .i64 t, .string x]
def isSp (f t n : Int) : Bool := decide (0 ≤ f) && (decide (f ≤ t) && decide (t ≤ n))
set_option maxRecDepth 100000 in
theorem isSpan_any (f t n : Int) (w : World) : Calls Tryz.prog 23 #[spV f t, .int .i64 n] w fun e w' => e = .returned (.bool (isSp f t n)) ∧ Below w.heap.size w w' := by
  unfold spV
  have hn := heap_alloc_new w (.cells #[.int .i64 f, .int .i64 t] 23)
  have hb : Below w.heap.size w (w.alloc (.cells #[.int .i64 f, .int .i64 t] 23)) := galloc2 (Below.refl _ _) (Nat.le_refl _) _
  have z0 : (w.alloc (.cells #[.int .i64 f, .int .i64 t] 23)).cell? ⟨w.heap.size, 0, none⟩ = some (.int .i64 f) := by rw [cellH hn]; rfl
  have z1 : (w.alloc (.cells #[.int .i64 f, .int .i64 t] 23)).cell? ⟨w.heap.size, 1, none⟩ = some (.int .i64 t) := by rw [cellH hn]; rfl
  clear hn
  generalize hv : w.alloc (.cells #[.int .i64 f, .int .i64 t] 23) = v0 at *
  unfold isSp
  by_cases h1 : 0 ≤ f
  · by_cases h2 : f ≤ t
    · have e1 : decide ((0 : Int) ≤ f) = true := decide_eq_true h1
      have e2 : decide (f ≤ t) = true := decide_eq_true h2
      rw [e1, e2]
      go_enter Tryz.func23, Tryz.ntmps23
      go_wp2_with fail
      go_ret
      exact ⟨rfl, hb⟩
    · have e1 : decide ((0 : Int) ≤ f) = true := decide_eq_true h1
      have e2 : decide (f ≤ t) = false := decide_eq_false h2
      rw [e1, e2]
      go_enter Tryz.func23, Tryz.ntmps23
      go_wp2_with fail
      go_ret
      exact ⟨rfl, hb⟩
  · have e1 : decide ((0 : Int) ≤ f) = false := decide_eq_false h1
    rw [e1]
    go_enter Tryz.func23, Tryz.ntmps23
    go_wp2_with fail
    go_ret
    exact ⟨rfl, hb⟩
/-- The text behind an edit. -/
def edL (s x : List UInt8) (f t : Nat) : List UInt8 := s.take f ++ (x ++ s.drop t)
def RepEnd (s : ByteArray) (f t : Nat) (x : ByteArray) (w : World) (e : Ending) (w' : World) : Prop := e = .returned (bl (edL s.data.toList x.data.toList f t)) ∧ Below w.heap.size w w'
theorem str_bytes (a : List UInt8) (s : ByteArray) : Lib.byteCells a ++ Lib.strCells s = Lib.byteCells (a ++ s.data.toList) := by
  unfold Lib.byteCells Lib.strCells
  rw [List.map_append]
set_option maxRecDepth 100000 in
set_option maxHeartbeats 8000000 in
theorem replaced_any (s : ByteArray) (f t : Nat) (x : ByteArray) (w : World) (hs : s.size ≤ 1000000) (hx : x.size ≤ 140000000000000) (h1 : f ≤ t) (h2 : t ≤ s.size) : Calls Tryz.prog 24 #[.string s, edV f t x] w (RepEnd s f t x w) := by
  unfold edV
  have hb0 : Below w.heap.size w (w.alloc (.cells #[.int .i64 f, .int .i64 t, .string x] 25)) := galloc2 (Below.refl _ _) (Nat.le_refl _) _
  have hN0 := heap_alloc_new w (.cells #[.int .i64 f, .int .i64 t, .string x] 25)
  have hz0 : (w.alloc (.cells #[.int .i64 f, .int .i64 t, .string x] 25)).heap.size = w.heap.size + 1 := by simp
  generalize hv : w.alloc (.cells #[.int .i64 f, .int .i64 t, .string x] 25) = v0 at *
  have hb1 : Below v0.heap.size v0 (v0.alloc (.cells #[.pointer none, .slice none 0 0] 78)) := galloc2 (Below.refl _ _) (Nat.le_refl _) _
  have HI := Lib.hid (builder_new v0)
  have hz1 : (v0.alloc (.cells #[.pointer none, .slice none 0 0] 78)).heap.size = v0.heap.size + 1 := by simp
  have hN1 := (hb1.block w.heap.size (by omega)).trans hN0
  have HB := Lib.hid (hb0.trans (hb1.mono (by omega)))
  have HZ := Lib.hid hz0
  have HN := Lib.hid hN1
  clear hb0 hb1 hN0 hN1 hz1 hz0
  generalize hv2 : v0.alloc (.cells #[.pointer none, .slice none 0 0] 78) = v1 at *
  have z0 : v1.cell? ⟨w.heap.size, 0, none⟩ = some (.int .i64 f) := by rw [cellH HN.out]; rfl
  have hf1 : (0 : Int) ≤ (f : Int) := by omega
  have hf2 : (f : Int) ≤ (s.size : Int) := by omega
  have ht1 : (0 : Int) ≤ (t : Int) := by omega
  have ht2 : (t : Int) ≤ (s.size : Int) := by omega
  go_enter Tryz.func24, Tryz.ntmps24
  go_wp2_with fail
  have hV := HB.out.size
  refine (write_any v0.heap.size v0.heap.size _ (s.extract 0 f) _ HI.out (by rw [Utf.size_extract _ _ _ (by omega)]; simp; omega) (by have := HI.out; rcases this with ⟨_, v, h9, _⟩ | ⟨_, v, h9, _⟩ <;> (have := (Array.getElem?_eq_some_iff.1 h9).1; omega))).mono ?_
  rintro e w2 ⟨rfl, hI2, hb2⟩
  have HI2 : Hid (Lib.IsBuilder 78 5 v0.heap.size v0.heap.size (Lib.byteCells (s.data.toList.take f)) w2) := Lib.hid (by
    have : ([] : List Value) = Lib.byteCells [] := rfl
    rw [this, str_bytes, List.nil_append, Utf.extract_list, List.drop_zero] at hI2; exact hI2)
  have HN2 := Lib.hid ((hb2.block w.heap.size (by have := HZ.out; omega)).trans HN.out)
  have HB2 := Lib.hid (HB.out.trans (hb2.mono (by have := HZ.out; omega)))
  clear hI2 hb2 hV
  have z2 : w2.cell? ⟨w.heap.size, 2, none⟩ = some (.string x) := by rw [cellH HN2.out]; rfl
  go_wp2_with fail
  refine (write_any v0.heap.size v0.heap.size _ x _ HI2.out (by unfold Lib.byteCells; rw [List.length_map, List.length_take, ← Lib.size_eq]; omega) (by have := HI2.out; rcases this with ⟨_, v, h9, _⟩ | ⟨_, v, h9, _⟩ <;> (have := (Array.getElem?_eq_some_iff.1 h9).1; omega))).mono ?_
  rintro e w3 ⟨rfl, hI3, hb3⟩
  have HI3 : Hid (Lib.IsBuilder 78 5 v0.heap.size v0.heap.size (Lib.byteCells (s.data.toList.take f ++ x.data.toList)) w3) := Lib.hid (by
    rw [str_bytes] at hI3; exact hI3)
  have HN3 := Lib.hid ((hb3.block w.heap.size (by have := HZ.out; have := HB2.out.size; omega)).trans HN2.out)
  have HB3 := Lib.hid (HB2.out.trans (hb3.mono (by have := HZ.out; omega)))
  clear hI3 hb3
  have z3 : w3.cell? ⟨w.heap.size, 1, none⟩ = some (.int .i64 t) := by rw [cellH HN3.out]; rfl
  go_wp2_with fail
  refine (write_any v0.heap.size v0.heap.size _ (s.extract t s.size) _ HI3.out (by rw [ext_size]; unfold Lib.byteCells; rw [List.length_map, List.length_append, List.length_take, ← Lib.size_eq, ← Lib.size_eq]; omega) (by have := HI3.out; rcases this with ⟨_, v, h9, _⟩ | ⟨_, v, h9, _⟩ <;> (have := (Array.getElem?_eq_some_iff.1 h9).1; omega))).mono ?_
  rintro e w4 ⟨rfl, hI4, hb4⟩
  have HI4 : Hid (Lib.IsBuilder 78 5 v0.heap.size v0.heap.size (Lib.byteCells (s.data.toList.take f ++ x.data.toList ++ s.data.toList.drop t)) w4) := Lib.hid (by
    rw [str_bytes, ext_list] at hI4; exact hI4)
  have HB4 := Lib.hid (HB3.out.trans (hb4.mono (by have := HZ.out; omega)))
  clear hI4 hb4
  go_wp2_with fail
  refine (Tryz.Builder_String_any v0.heap.size v0.heap.size _ w4 HI4.out (by have := HI4.out; rcases this with ⟨_, v, h9, _⟩ | ⟨_, v, h9, _⟩ <;> (have := (Array.getElem?_eq_some_iff.1 h9).1; omega))).mono ?_
  rintro e w5 ⟨rfl, hb5⟩
  have HB5 := Lib.hid (HB4.out.trans (hb5.mono (by have := HZ.out; have := HB4.out.size; omega)))
  clear hb5
  go_wp2_with fail
  go_ret
  exact ⟨rfl, HB5.out⟩
end Go.Proofs.YtfedmhccbfhcbaaGreatDoor
