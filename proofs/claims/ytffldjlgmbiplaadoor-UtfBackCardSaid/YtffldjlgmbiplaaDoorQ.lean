/-
  The walks of works and of the law UtfSums.
-/
import Derived.Test.YtffldjlgmbiplaaDoorN
import Derived.Test.YtffldjlgmbiplaaDoorP
namespace Go.Proofs.YtffldjlgmbiplaaDoor
open Go.RowKit

/-- The text of the examples. -/
abbrev ex : ByteArray := ⟨#[97, 195, 169, 226, 130, 172, 240, 157, 132, 158]⟩
theorem ex1 : unitS ex 6 = (3, 0) := by kernel_rfl
theorem ex2 : byteS ex 5 = (10, 0) := by kernel_rfl
theorem ex3 : byteS ex 4 = (0, 60) := by kernel_rfl
theorem ex4 : unitS ex 2 = (0, 60) := by kernel_rfl
theorem ex5 : validS ex = true := by kernel_rfl
theorem ex6 : uN (seqB ex) = 5 := by kernel_rfl
theorem ex7 : uN (seqB ⟨#[255, 97]⟩) = 2 := by kernel_rfl
theorem ex8 : validS ⟨#[255, 97]⟩ = false := by kernel_rfl

set_option maxRecDepth 100000 in
set_option maxHeartbeats 1600000 in
theorem works_any (w : World) (hT : Lib.Utf8Tabs 0 1 w) :
    Calls Tryd.prog 8 #[] w fun e w' => e = .returned (.bool true) ∧ Below w.heap.size w w' := by
  have h2 := tabs_size hT
  have c1 := unit_any ex 6 w (by decide) hT
  rw [ex1] at c1
  have c2 := fun w hT => byte_any ex 5 w (by decide) hT
  simp only [ex2] at c2
  have c3 := fun w hT => byte_any ex 4 w (by decide) hT
  simp only [ex3] at c3
  have c4 := fun w hT => unit_any ex 2 w (by decide) hT
  simp only [ex4] at c4
  have c5 := fun w hT => valid_any ex w (by decide) hT
  simp only [ex5] at c5
  have c6 := fun w hT => len_any ex w (by decide) hT
  simp only [ex6] at c6
  have c7 := fun w hT => len_any ⟨#[255, 97]⟩ w (by decide) hT
  simp only [ex7] at c7
  have c8 := fun w hT => valid_any ⟨#[255, 97]⟩ w (by decide) hT
  simp only [ex8] at c8
  go_enter Tryd.func8, Tryd.ntmps8
  go_wp2_with fail
  refine c1.mono ?_
  rintro e w1 ⟨rfl, hb1⟩
  go_wp2_with fail
  refine (c2 _ (tabs_below hT hb1 h2)).mono ?_
  rintro e w2 ⟨rfl, hb2'⟩
  have hb2 := hb1.trans (hb2'.mono hb1.size)
  go_wp2_with fail
  refine (c3 _ (tabs_below hT hb2 h2)).mono ?_
  rintro e w3 ⟨rfl, hb3'⟩
  have hb3 := hb2.trans (hb3'.mono hb2.size)
  go_wp2_with fail
  refine (c4 _ (tabs_below hT hb3 h2)).mono ?_
  rintro e w4 ⟨rfl, hb4'⟩
  have hb4 := hb3.trans (hb4'.mono hb3.size)
  go_wp2_with fail
  refine (c5 _ (tabs_below hT hb4 h2)).mono ?_
  rintro e w5 ⟨rfl, hb5'⟩
  have hb5 := hb4.trans (hb5'.mono hb4.size)
  go_wp2_with fail
  refine (c6 _ (tabs_below hT hb5 h2)).mono ?_
  rintro e w6 ⟨rfl, hb6'⟩
  have hb6 := hb5.trans (hb6'.mono hb5.size)
  go_wp2_with fail
  refine (c7 _ (tabs_below hT hb6 h2)).mono ?_
  rintro e w7 ⟨rfl, hb7'⟩
  have hb7 := hb6.trans (hb7'.mono hb6.size)
  go_wp2_with fail
  refine (c8 _ (tabs_below hT hb7 h2)).mono ?_
  rintro e w8 ⟨rfl, hb8'⟩
  have hb8 := hb7.trans (hb8'.mono hb7.size)
  go_wp2
  go_ret
  exact ⟨rfl, hb8⟩

set_option maxRecDepth 100000 in
set_option maxHeartbeats 1600000 in
theorem sums_long (a b : ByteArray) (w : World) (hT : Lib.Utf8Tabs 0 1 w) (h : 3000 < a.size ∨ 3000 < b.size) :
    Calls Tryd.prog 7 #[.string a, .string b] w fun e w' => e = .returned (.bool true) ∧ Below w.heap.size w w' := by
  have h2 := tabs_size hT
  have cw := works_any
  rcases (by omega : (3000 : Int) < a.size ∨ (¬ (3000 : Int) < a.size ∧ (3000 : Int) < b.size)) with h | ⟨h, h3⟩
  all_goals
    go_enter Tryd.func7, Tryd.ntmps7
    go_wp2_with fail
    refine (cw _ hT).mono ?_
    rintro e w1 ⟨rfl, hb1⟩
    go_wp2_with fail
    refine (cw _ (tabs_below hT hb1 h2)).mono ?_
    rintro e w2 ⟨rfl, hb2'⟩
    have hb2 := hb1.trans (hb2'.mono hb1.size)
    go_wp2
    go_ret
    exact ⟨rfl, hb2⟩

set_option maxRecDepth 100000 in
set_option maxHeartbeats 1600000 in
theorem sums_no (a b : ByteArray) (w : World) (hT : Lib.Utf8Tabs 0 1 w) (ha : a.size ≤ 3000) (hb : b.size ≤ 3000) (hv : validS a = false) :
    Calls Tryd.prog 7 #[.string a, .string b] w fun e w' => e = .returned (.bool true) ∧ Below w.heap.size w w' := by
  have h2 := tabs_size hT
  have cw := works_any
  have c18 := fun w hT => valid_any a w (by omega) hT
  simp only [hv] at c18
  have c18x := fun w hT => valid_any (a ++ ⟨#[120]⟩) w (by rw [size_append]; show a.size + 1 ≤ _; omega) hT
  simp only [valid_x a hv] at c18x
  have h : ¬ (3000 : Int) < a.size := by omega
  have h3 : ¬ (3000 : Int) < b.size := by omega
  clear hv
  go_enter Tryd.func7, Tryd.ntmps7
  go_wp2_with fail
  refine (cw _ hT).mono ?_
  rintro e w1 ⟨rfl, hb1⟩
  go_wp2_with fail
  refine (c18 _ (tabs_below hT hb1 h2)).mono ?_
  rintro e w2 ⟨rfl, hb2'⟩
  have hb2 := hb1.trans (hb2'.mono hb1.size)
  go_wp2_with fail
  refine (c18x _ (tabs_below hT hb2 h2)).mono ?_
  rintro e w3 ⟨rfl, hb3'⟩
  have hb3 := hb2.trans (hb3'.mono hb2.size)
  go_wp2
  go_ret
  exact ⟨rfl, hb3⟩

set_option maxRecDepth 100000 in
set_option maxHeartbeats 1600000 in
theorem sums_yes (a b : ByteArray) (w : World) (hT : Lib.Utf8Tabs 0 1 w) (ha : a.size ≤ 3000) (hb : b.size ≤ 3000) (hv : validS a = true) :
    Calls Tryd.prog 7 #[.string a, .string b] w fun e w' => e = .returned (.bool true) ∧ Below w.heap.size w w' := by
  have h2 := tabs_size hT
  have hz := size_append a b
  have cw := works_any
  have c18 := fun w hT => valid_any a w (by omega) hT
  simp only [hv] at c18
  have c14 := fun w hT => unit_any (a ++ b) a.size w (by omega) hT
  simp only [unit_end a b (by omega) hv] at c14
  have ca := fun w hT => len_any a w (by omega) hT
  have cb := fun w hT => len_any b w (by omega) hT
  have cab := fun w hT => len_any (a ++ b) w (by omega) hT
  simp only [uN_two a b hv] at cab
  have vb := fun w hT => valid_any b w (by omega) hT
  have vab := fun w hT => valid_any (a ++ b) w (by omega) hT
  simp only [valid_two a b hv] at vab
  have ba := uN_bd (seqB a)
  have la := seqB_len a
  have bb := uN_bd (seqB b)
  have lb := seqB_len b
  generalize uN (seqB a) = x at *
  generalize uN (seqB b) = y at *
  generalize validS b = v at *
  have hx0 : 0 ≤ x := by omega
  have hx1 : x ≤ 6000 := by omega
  have hy0 : 0 ≤ y := by omega
  have hy1 : y ≤ 6000 := by omega
  have h : ¬ (3000 : Int) < a.size := by omega
  have h3 : ¬ (3000 : Int) < b.size := by omega
  clear hv hz ba la bb lb
  go_enter Tryd.func7, Tryd.ntmps7
  go_wp2_with fail
  refine (cw _ hT).mono ?_
  rintro e w1 ⟨rfl, hb1⟩
  go_wp2_with fail
  refine (c18 _ (tabs_below hT hb1 h2)).mono ?_
  rintro e w2 ⟨rfl, hb2'⟩
  have hb2 := hb1.trans (hb2'.mono hb1.size)
  go_wp2_with fail
  refine (c14 _ (tabs_below hT hb2 h2)).mono ?_
  rintro e w3 ⟨rfl, hb3'⟩
  have hb3 := hb2.trans (hb3'.mono hb2.size)
  go_wp2_with fail
  refine (ca _ (tabs_below hT hb3 h2)).mono ?_
  rintro e w4 ⟨rfl, hb4'⟩
  have hb4 := hb3.trans (hb4'.mono hb3.size)
  go_wp2_with fail
  refine (cb _ (tabs_below hT hb4 h2)).mono ?_
  rintro e w5 ⟨rfl, hb5'⟩
  have hb5 := hb4.trans (hb5'.mono hb4.size)
  go_wp2_with fail
  refine (cab _ (tabs_below hT hb5 h2)).mono ?_
  rintro e w6 ⟨rfl, hb6'⟩
  have hb6 := hb5.trans (hb6'.mono hb5.size)
  go_wp2_with fail
  refine (vb _ (tabs_below hT hb6 h2)).mono ?_
  rintro e w7 ⟨rfl, hb7'⟩
  have hb7 := hb6.trans (hb7'.mono hb6.size)
  go_wp2_with fail
  refine (vab _ (tabs_below hT hb7 h2)).mono ?_
  rintro e w8 ⟨rfl, hb8'⟩
  have hb8 := hb7.trans (hb8'.mono hb7.size)
  go_wp2_with fail
  refine (ca _ (tabs_below hT hb8 h2)).mono ?_
  rintro e w9 ⟨rfl, hb9'⟩
  have hb9 := hb8.trans (hb9'.mono hb8.size)
  go_wp2
  go_ret
  exact ⟨rfl, hb9⟩
theorem utfSums_walk (a b : ByteArray) (w : World) (hT : Lib.Utf8Tabs 0 1 w) :
    Calls Tryd.prog 7 #[.string a, .string b] w fun e w' => e = .returned (.bool true) ∧ Below w.heap.size w w' := by
  by_cases h : 3000 < a.size ∨ 3000 < b.size
  · exact sums_long a b w hT h
  · cases hv : validS a
    · exact sums_no a b w hT (by omega) (by omega) hv
    · exact sums_yes a b w hT (by omega) (by omega) hv
end Go.Proofs.YtffldjlgmbiplaaDoor
