/-
  The walk of the law LinesTell.
-/
import Derived.Test.YtfhkahnajjbohaaDoorS
import Derived.Test.YtfhkahnajjbohaaDoorRL
import Derived.Test.YtfhkahnajjbohaaDoorZ2
import Derived.Deep.QuietTactic
import Derived.BigQuiet
import Derived.Deep.RegionHeld3
namespace Go.Proofs.YtfhkahnajjbohaaDoor
open Go.RowKit Go.Shelf

/-- A slice that holds these lines. -/
def Sl (w : World) (g : Nat) (ls : List (Nat × Nat)) : Prop :=
  g < w.heap.size ∧ ∀ j x, ls[j]? = some x → w.cell? ⟨g, j * 2, none⟩ = some (.int .i64 x.1) ∧ w.cell? ⟨g, j * 2 + 1, none⟩ = some (.int .i64 x.2)
theorem Sl.below {w w' : World} {n g : Nat} {ls : List (Nat × Nat)} (h : Sl w g ls) (hn : w.heap.size ≤ n) (hb : Below n w w') : Sl w' g ls := by
  obtain ⟨h1, h2⟩ := h
  have hz := hb.size
  refine ⟨by omega, fun j x hj => ?_⟩
  obtain ⟨c1, c2⟩ := h2 j x hj
  exact ⟨(hb.cell (p := ⟨g, j * 2, none⟩) (by show g < n; omega)).trans c1, (hb.cell (p := ⟨g, j * 2 + 1, none⟩) (by show g < n; omega)).trans c2⟩
theorem own_sl {W : World} {base : Nat} {v : Value} {ls : List (Nat × Nat)} (h : W.ownsRow base 32 2 v ls.length (flatL ls)) (hp : 0 < ls.length) :
    ∃ g cap, v = .slice (some ⟨g, 0, none⟩) ls.length cap ∧ ls.length ≤ cap ∧ Sl W g ls := by
  rcases h.2 with ⟨_, h0⟩ | ⟨g, cap, cur, rfl, hb, hg, hc1, hc2, hc3, hc4⟩
  · omega
  · refine ⟨g, cap, rfl, hc1, (Array.getElem?_eq_some_iff.1 hg).1, fun j x hj => ?_⟩
    obtain ⟨f1, f2⟩ := flatL_get ls j x hj
    have hadd : ∀ k u, (flatL ls)[k]? = some u → W.cell? ⟨g, k, none⟩ = some u := fun k u hu => by
      rw [cell_of_row W g k cur 32 (0, 0) hg]
      rw [← hc4, List.getElem?_take] at hu
      split at hu
      · simpa using hu
      · cases hu
    exact ⟨hadd _ _ f1, hadd _ _ f2⟩
theorem rlines_sl (s : ByteArray) (w : World) (hs : s.size ≤ 65536) :
    Calls Tryd.prog 12 #[.string s] w fun e w' => ∃ g cap, e = .returned (.slice (some ⟨g, 0, none⟩) (linesB s).length cap) ∧ (linesB s).length ≤ cap ∧ Sl w' g (linesB s) ∧ Below w.heap.size w w' :=
  (rlines_any s w hs).mono fun _ _ ⟨_, he, ho, hb⟩ => by
    obtain ⟨g, cap, rfl, hc, hS⟩ := own_sl ho (linesB_pos s)
    exact ⟨g, cap, he, hc, hS, hb⟩

set_option maxRecDepth 100000 in
set_option maxHeartbeats 1600000 in
theorem tell_long (s : ByteArray) (n : Int) (w : World) (hT : Lib.Utf8Tabs 1 2 w) (h : 70000 < s.size) :
    Calls Tryd.prog 3 #[.string s, .int .i64 n] w fun e w' => e = .returned (.bool true) ∧ Below w.heap.size w w' := by
  have h2 := tabs_size hT
  have cw := awake_any
  go_enter Tryd.func3, Tryd.ntmps3
  go_wp2_with fail
  refine (cw _ hT).mono ?_
  rintro e w1 ⟨rfl, hb1⟩
  go_wp2
  go_ret
  exact ⟨rfl, hb1⟩

set_option maxRecDepth 100000 in
set_option maxHeartbeats 1600000 in
theorem tell_big (s : ByteArray) (n : Int) (w : World) (hT : Lib.Utf8Tabs 1 2 w) (h : s.size ≤ 70000) (h1 : 65536 < s.size) :
    Calls Tryd.prog 3 #[.string s, .int .i64 n] w fun e w' => e = .returned (.bool true) ∧ Below w.heap.size w w' := by
  have h2 := tabs_size hT
  have cw := awake_any
  have cn := fun w => new_big s w h1 (by omega)
  go_enter Tryd.func3, Tryd.ntmps3
  go_wp2_with fail
  refine (cn _).mono ?_
  rintro e w1 ⟨rfl, rfl⟩
  go_wp2_with fail
  refine (cw _ hT).mono ?_
  rintro e w1 ⟨rfl, hb1⟩
  go_wp2
  go_ret
  exact ⟨rfl, hb1⟩

set_option maxRecDepth 100000 in
set_option maxHeartbeats 1600000 in
theorem tell_none (s : ByteArray) (n : Int) (w : World) (hT : Lib.Utf8Tabs 1 2 w) (h : s.size ≤ 65536) (hv : validS s = false) :
    Calls Tryd.prog 3 #[.string s, .int .i64 n] w fun e w' => e = .returned (.bool true) ∧ Below w.heap.size w w' := by
  have h2 := tabs_size hT
  have cw := awake_any
  have cn := fun w hT => new_bad s w h hv hT
  have cv := fun w => rvalid_any s w (by omega)
  simp only [hv] at cv
  clear hv
  go_enter Tryd.func3, Tryd.ntmps3
  go_wp2_with fail
  refine (cn _ hT).mono ?_
  rintro e w1 ⟨rfl, hb1⟩
  go_wp2_with fail
  refine (cv _).mono ?_
  rintro e w2 ⟨rfl, rfl⟩
  go_wp2_with fail
  refine (cw _ (tabs_below hT hb1 h2)).mono ?_
  rintro e w3 ⟨rfl, hb3⟩
  go_wp2
  go_ret
  exact ⟨rfl, hb1.trans (hb3.mono hb1.size)⟩

set_option maxRecDepth 100000 in
set_option maxHeartbeats 4000000 in
theorem tell_in (s : ByteArray) (n : Nat) (w : World) (hT : Lib.Utf8Tabs 1 2 w) (h : s.size ≤ 65536) (hv : validS s = true) (hn : n < (linesB s).length) :
    Calls Tryd.prog 3 #[.string s, .int .i64 n] w fun e w' => e = .returned (.bool true) ∧ Below w.heap.size w w' := by
  have h2 := tabs_size hT
  have cw := awake_any
  have cn := fun w hT => new_ix s w h hv hT
  have cv := fun w => rvalid_any s w (by omega)
  simp only [hv] at cv
  have cl := fun w => rlines_sl s w h
  have hlen := linesB_len s
  clear hv
  go_enter Tryd.func3, Tryd.ntmps3
  go_wp2_with fail
  refine Calls.mono (cn _ hT) ?_
  rintro e w1 ⟨b, rfl, hI, hb1⟩
  have HI := Lib.hid hI
  clear hI
  go_wp2_with fail
  refine (cv _).mono ?_
  rintro e w2 ⟨rfl, rfl⟩
  go_wp2_with fail
  refine Calls.mono (cl _) ?_
  rintro e w2 ⟨g, cap, rfl, hcap, hS, hb2⟩
  have HS := Lib.hid hS
  have HI2 := Lib.hid (HI.out.below (Nat.le_refl _) hb2)
  have cLn := lines_any b s _ w2 HI2.out
  clear hS HI cn cv cl
  generalize hnl : (linesB s).length = nl at *
  have HNL := Lib.hid hnl
  clear hnl
  go_wp2_with fail
  refine cLn.mono ?_
  rintro e w3 ⟨rfl, rfl⟩
  clear cLn
  go_wp2
  go_loopg [8] nl (fun g i wx => ∃ k : Nat, i = .int .i64 k ∧ k ≤ nl ∧ nl ≤ k + g ∧ Below w2.heap.size w2 wx)
  case atStart => exact ⟨0, rfl, by omega, by omega, Below.refl _ _⟩
  case round =>
    obtain ⟨k, rfl, hk, hg, hB0⟩ := hrel
    by_cases hlt : k < nl
    · obtain ⟨f, rfl⟩ : ∃ f, gk = f + 1 := ⟨gk - 1, by omega⟩
      obtain ⟨x, hx⟩ : ∃ x, (linesB s)[k]? = some x := ⟨_, List.getElem?_eq_getElem (by rw [HNL.out]; exact hlt)⟩
      have HX := Lib.hid hx
      clear hx
      go_wp2_with fail
      refine (line_ok b _ _ _ (HI2.out.below (Nat.le_refl _) hB0) k x HX.out).mono ?_
      rintro e w5 ⟨rfl, hb5⟩
      have hB5 := below_step hB0 hb5
      clear hb5
      obtain ⟨v5, hv5⟩ : ∃ v, w5.alloc (.cells #[.int .i64 x.1, .int .i64 x.2] 32) = v := ⟨_, rfl⟩
      have hA5 : Below w2.heap.size w2 v5 := by rw [← hv5]; exact hB5.alloc hB5.size _
      have c5_0 : v5.cell? ⟨w5.heap.size, 0, none⟩ = some (.int .i64 x.1) := by rw [← hv5]; simp
      have c5_1 : v5.cell? ⟨w5.heap.size, 1, none⟩ = some (.int .i64 x.2) := by rw [← hv5]; simp
      obtain ⟨s0, s1⟩ := (HS.out.below (Nat.le_refl _) hA5).2 k x HX.out
      go_wp2
      clear hv5
      go_quiet (fail)
      go_wp2
      go_roundg f
      case measure => omega
      case rel => exact ⟨k + 1, by go_num, by omega, by omega, below_drewN hA5 _⟩
    · obtain ⟨x, hx⟩ : ∃ x, (linesB s)[n]? = some x := ⟨_, List.getElem?_eq_getElem (by rw [HNL.out]; exact hn)⟩
      have HX := Lib.hid hx
      clear hx
      go_wp2_with fail
      refine (line_ok b _ _ _ (HI2.out.below (Nat.le_refl _) hB0) n x HX.out).mono ?_
      rintro e w5 ⟨rfl, hb5⟩
      have hB5 := below_step hB0 hb5
      clear hb5
      obtain ⟨v5, hv5⟩ : ∃ v, w5.alloc (.cells #[.int .i64 x.1, .int .i64 x.2] 32) = v := ⟨_, rfl⟩
      have hA5 : Below w2.heap.size w2 v5 := by rw [← hv5]; exact hB5.alloc hB5.size _
      have c5_0 : v5.cell? ⟨w5.heap.size, 0, none⟩ = some (.int .i64 x.1) := by rw [← hv5]; simp
      have c5_1 : v5.cell? ⟨w5.heap.size, 1, none⟩ = some (.int .i64 x.2) := by rw [← hv5]; simp
      obtain ⟨s0, s1⟩ := (HS.out.below (Nat.le_refl _) hA5).2 n x HX.out
      have hA6 : Below w.heap.size w v5 := hb1.trans ((hb2.trans (hA5.mono hb2.size)).mono hb1.size)
      have cv5 := cw v5 (tabs_below hT hA6 h2)
      go_wp2
      clear hv5
      have hz5 : w5.heap.size < v5.heap.size := World.block_lt_of_cell? v5 ⟨w5.heap.size, 0, none⟩ c5_0
      have hgz : g < v5.heap.size := (HS.out.below (Nat.le_refl _) hA5).1
      generalize w5.heap.size = n5 at *
      go_region_held3 (fun u => (u.cell? ⟨n5, 0, none⟩ = some (.int .i64 x.1) ∧ u.cell? ⟨n5, 1, none⟩ = some (.int .i64 x.2)) ∧ u.cell? ⟨g, n * 2, none⟩ = some (.int .i64 x.1) ∧ u.cell? ⟨g, n * 2 + 1, none⟩ = some (.int .i64 x.2)) (first | exact ⟨⟨c5_0, c5_1⟩, s0, s1⟩ | exact ⟨⟨e0, e1⟩, e2, e3⟩) (first | (go_at_call 9; refine (cw _ (tabs_below hT hA6.drew h2)).mono ?_; rintro e w7 ⟨rfl, hb7⟩; have e0 : w7.cell? ⟨n5, 0, none⟩ = some (.int .i64 x.1) := (hb7.cell (p := ⟨n5, 0, none⟩) hz5).trans c5_0; have e1 : w7.cell? ⟨n5, 1, none⟩ = some (.int .i64 x.2) := (hb7.cell (p := ⟨n5, 1, none⟩) hz5).trans c5_1; have e2 : w7.cell? ⟨g, n * 2, none⟩ = some (.int .i64 x.1) := (hb7.cell (p := ⟨g, n * 2, none⟩) hgz).trans s0; have e3 : w7.cell? ⟨g, n * 2 + 1, none⟩ = some (.int .i64 x.2) := (hb7.cell (p := ⟨g, n * 2 + 1, none⟩) hgz).trans s1))
      go_wp2
      go_ret
      exact ⟨rfl, hA6.drew.trans (hb7.mono hA6.size)⟩
set_option maxRecDepth 100000 in
set_option maxHeartbeats 4000000 in
theorem tell_low (s : ByteArray) (n : Int) (w : World) (hT : Lib.Utf8Tabs 1 2 w) (h : s.size ≤ 65536) (hv : validS s = true) (hn : n < 0) :
    Calls Tryd.prog 3 #[.string s, .int .i64 n] w fun e w' => e = .returned (.bool true) ∧ Below w.heap.size w w' := by
  have h2 := tabs_size hT
  have cw := awake_any
  have cn := fun w hT => new_ix s w h hv hT
  have cv := fun w => rvalid_any s w (by omega)
  simp only [hv] at cv
  have cl := fun w => rlines_sl s w h
  have hlen := linesB_len s
  clear hv
  go_enter Tryd.func3, Tryd.ntmps3
  go_wp2_with fail
  refine Calls.mono (cn _ hT) ?_
  rintro e w1 ⟨b, rfl, hI, hb1⟩
  have HI := Lib.hid hI
  clear hI
  go_wp2_with fail
  refine (cv _).mono ?_
  rintro e w2 ⟨rfl, rfl⟩
  go_wp2_with fail
  refine Calls.mono (cl _) ?_
  rintro e w2 ⟨g, cap, rfl, hcap, hS, hb2⟩
  have HS := Lib.hid hS
  have HI2 := Lib.hid (HI.out.below (Nat.le_refl _) hb2)
  have cLn := lines_any b s _ w2 HI2.out
  clear hS HI cn cv cl
  generalize hnl : (linesB s).length = nl at *
  have HNL := Lib.hid hnl
  clear hnl
  go_wp2_with fail
  refine cLn.mono ?_
  rintro e w3 ⟨rfl, rfl⟩
  clear cLn
  go_wp2
  go_loopg [8] nl (fun g i wx => ∃ k : Nat, i = .int .i64 k ∧ k ≤ nl ∧ nl ≤ k + g ∧ Below w2.heap.size w2 wx)
  case atStart => exact ⟨0, rfl, by omega, by omega, Below.refl _ _⟩
  case round =>
    obtain ⟨k, rfl, hk, hg, hB0⟩ := hrel
    by_cases hlt : k < nl
    · obtain ⟨f, rfl⟩ : ∃ f, gk = f + 1 := ⟨gk - 1, by omega⟩
      obtain ⟨x, hx⟩ : ∃ x, (linesB s)[k]? = some x := ⟨_, List.getElem?_eq_getElem (by rw [HNL.out]; exact hlt)⟩
      have HX := Lib.hid hx
      clear hx
      go_wp2_with fail
      refine (line_ok b _ _ _ (HI2.out.below (Nat.le_refl _) hB0) k x HX.out).mono ?_
      rintro e w5 ⟨rfl, hb5⟩
      have hB5 := below_step hB0 hb5
      clear hb5
      obtain ⟨v5, hv5⟩ : ∃ v, w5.alloc (.cells #[.int .i64 x.1, .int .i64 x.2] 32) = v := ⟨_, rfl⟩
      have hA5 : Below w2.heap.size w2 v5 := by rw [← hv5]; exact hB5.alloc hB5.size _
      have c5_0 : v5.cell? ⟨w5.heap.size, 0, none⟩ = some (.int .i64 x.1) := by rw [← hv5]; simp
      have c5_1 : v5.cell? ⟨w5.heap.size, 1, none⟩ = some (.int .i64 x.2) := by rw [← hv5]; simp
      obtain ⟨s0, s1⟩ := (HS.out.below (Nat.le_refl _) hA5).2 k x HX.out
      go_wp2
      clear hv5
      go_quiet (fail)
      go_wp2
      go_roundg f
      case measure => omega
      case rel => exact ⟨k + 1, by go_num, by omega, by omega, below_drewN hA5 _⟩
    · go_wp2_with fail
      refine (line_no b _ _ _ (HI2.out.below (Nat.le_refl _) hB0) n (.inl hn)).mono ?_
      rintro e w5 ⟨rfl, hb5⟩
      have hB5 := below_step hB0 hb5
      clear hb5
      have hA5 : Below w2.heap.size w2 (w5.alloc (.cells #[.int .i64 0, .int .i64 0] 32)) := hB5.alloc hB5.size _
      have hA6 : Below w.heap.size w (w5.alloc (.cells #[.int .i64 0, .int .i64 0] 32)) := hb1.trans ((hb2.trans (hA5.mono hb2.size)).mono hb1.size)
      have HA6 := Lib.hid hA6
      clear hA5 hA6
      go_wp2_with fail
      refine (cw _ (tabs_below hT HA6.out h2)).mono ?_
      rintro e w7 ⟨rfl, hb7⟩
      go_wp2
      go_ret
      exact ⟨rfl, HA6.out.trans (hb7.mono HA6.out.size)⟩

set_option maxRecDepth 100000 in
set_option maxHeartbeats 4000000 in
theorem tell_high (s : ByteArray) (n : Int) (w : World) (hT : Lib.Utf8Tabs 1 2 w) (h : s.size ≤ 65536) (hv : validS s = true) (hn : ((linesB s).length : Int) ≤ n) :
    Calls Tryd.prog 3 #[.string s, .int .i64 n] w fun e w' => e = .returned (.bool true) ∧ Below w.heap.size w w' := by
  have h2 := tabs_size hT
  have cw := awake_any
  have cn := fun w hT => new_ix s w h hv hT
  have cv := fun w => rvalid_any s w (by omega)
  simp only [hv] at cv
  have cl := fun w => rlines_sl s w h
  have hlen := linesB_len s
  clear hv
  go_enter Tryd.func3, Tryd.ntmps3
  go_wp2_with fail
  refine Calls.mono (cn _ hT) ?_
  rintro e w1 ⟨b, rfl, hI, hb1⟩
  have HI := Lib.hid hI
  clear hI
  go_wp2_with fail
  refine (cv _).mono ?_
  rintro e w2 ⟨rfl, rfl⟩
  go_wp2_with fail
  refine Calls.mono (cl _) ?_
  rintro e w2 ⟨g, cap, rfl, hcap, hS, hb2⟩
  have HS := Lib.hid hS
  have HI2 := Lib.hid (HI.out.below (Nat.le_refl _) hb2)
  have cLn := lines_any b s _ w2 HI2.out
  clear hS HI cn cv cl
  generalize hnl : (linesB s).length = nl at *
  have HNL := Lib.hid hnl
  clear hnl
  go_wp2_with fail
  refine cLn.mono ?_
  rintro e w3 ⟨rfl, rfl⟩
  clear cLn
  go_wp2
  go_loopg [8] nl (fun g i wx => ∃ k : Nat, i = .int .i64 k ∧ k ≤ nl ∧ nl ≤ k + g ∧ Below w2.heap.size w2 wx)
  case atStart => exact ⟨0, rfl, by omega, by omega, Below.refl _ _⟩
  case round =>
    obtain ⟨k, rfl, hk, hg, hB0⟩ := hrel
    by_cases hlt : k < nl
    · obtain ⟨f, rfl⟩ : ∃ f, gk = f + 1 := ⟨gk - 1, by omega⟩
      obtain ⟨x, hx⟩ : ∃ x, (linesB s)[k]? = some x := ⟨_, List.getElem?_eq_getElem (by rw [HNL.out]; exact hlt)⟩
      have HX := Lib.hid hx
      clear hx
      go_wp2_with fail
      refine (line_ok b _ _ _ (HI2.out.below (Nat.le_refl _) hB0) k x HX.out).mono ?_
      rintro e w5 ⟨rfl, hb5⟩
      have hB5 := below_step hB0 hb5
      clear hb5
      obtain ⟨v5, hv5⟩ : ∃ v, w5.alloc (.cells #[.int .i64 x.1, .int .i64 x.2] 32) = v := ⟨_, rfl⟩
      have hA5 : Below w2.heap.size w2 v5 := by rw [← hv5]; exact hB5.alloc hB5.size _
      have c5_0 : v5.cell? ⟨w5.heap.size, 0, none⟩ = some (.int .i64 x.1) := by rw [← hv5]; simp
      have c5_1 : v5.cell? ⟨w5.heap.size, 1, none⟩ = some (.int .i64 x.2) := by rw [← hv5]; simp
      obtain ⟨s0, s1⟩ := (HS.out.below (Nat.le_refl _) hA5).2 k x HX.out
      go_wp2
      clear hv5
      go_quiet (fail)
      go_wp2
      go_roundg f
      case measure => omega
      case rel => exact ⟨k + 1, by go_num, by omega, by omega, below_drewN hA5 _⟩
    · go_wp2_with fail
      refine (line_no b _ _ _ (HI2.out.below (Nat.le_refl _) hB0) n (.inr (by rw [HNL.out]; exact hn))).mono ?_
      rintro e w5 ⟨rfl, hb5⟩
      have hB5 := below_step hB0 hb5
      clear hb5
      have hA5 : Below w2.heap.size w2 (w5.alloc (.cells #[.int .i64 0, .int .i64 0] 32)) := hB5.alloc hB5.size _
      have hA6 : Below w.heap.size w (w5.alloc (.cells #[.int .i64 0, .int .i64 0] 32)) := hb1.trans ((hb2.trans (hA5.mono hb2.size)).mono hb1.size)
      have HA6 := Lib.hid hA6
      clear hA5 hA6
      go_wp2_with fail
      refine (cw _ (tabs_below hT HA6.out h2)).mono ?_
      rintro e w7 ⟨rfl, hb7⟩
      go_wp2
      go_ret
      exact ⟨rfl, HA6.out.trans (hb7.mono HA6.out.size)⟩

theorem linesTell_walk (s : ByteArray) (n : Int) (w : World) (hT : Lib.Utf8Tabs 1 2 w) :
    Calls Tryd.prog 3 #[.string s, .int .i64 n] w fun e w' => e = .returned (.bool true) ∧ Below w.heap.size w w' := by
  by_cases h : s.size ≤ 65536
  · cases hv : validS s
    · exact tell_none s n w hT h hv
    by_cases h0 : n < 0
    · exact tell_low s n w hT h hv h0
    by_cases h1 : ((linesB s).length : Int) ≤ n
    · exact tell_high s n w hT h hv h1
    obtain ⟨m, rfl⟩ : ∃ m : Nat, n = m := ⟨n.toNat, by omega⟩
    exact tell_in s m w hT h hv (by omega)
  · by_cases h7 : s.size ≤ 70000
    · exact tell_big s n w hT h7 (by omega)
    · exact tell_long s n w hT (by omega)
end Go.Proofs.YtfhkahnajjbohaaDoor
