/-
  The walk of the law LinesTwo.
-/
import Derived.Test.YtfhkahnajjbohaaDoorS
import Derived.Test.YtfhkahnajjbohaaDoorV
namespace Go.Proofs.YtfhkahnajjbohaaDoor
open Go.RowKit Go.Shelf

set_option maxHeartbeats 1600000 in
theorem two_long (a b : ByteArray) (w : World) (hT : Lib.Utf8Tabs 1 2 w) (h : 3000 < a.size + b.size) (h9 : a.size + b.size ≤ 1000000000000000) :
    Calls Tryd.prog 8 #[.string a, .string b] w fun e w' => e = .returned (.bool true) ∧ Below w.heap.size w w' := by
  have h2 := tabs_size hT
  have h3 : (3000 : Int) < (a.size : Int) + (b.size : Int) := by omega
  have cw := awake_any
  go_enter Tryd.func8, Tryd.ntmps8
  go_wp2_with fail
  refine (cw _ hT).mono ?_
  rintro e w1 ⟨rfl, hb1⟩
  go_wp2
  go_ret
  exact ⟨rfl, hb1⟩

set_option maxHeartbeats 1600000 in
theorem two_none (a b : ByteArray) (w : World) (hT : Lib.Utf8Tabs 1 2 w) (h : a.size + b.size ≤ 3000) (hv : validS a = false ∨ validS b = false) :
    Calls Tryd.prog 8 #[.string a, .string b] w fun e w' => e = .returned (.bool true) ∧ Below w.heap.size w w' := by
  have h2 := tabs_size hT
  have h3 : (a.size : Int) + (b.size : Int) ≤ 3000 := by omega
  have cw := awake_any
  have h8 : (a.size : Int) ≤ 8388608 := by omega
  have h9 : (b.size : Int) ≤ 8388608 := by omega
  have h10 : ((a ++ ⟨#[10]⟩ : ByteArray).size : Int) ≤ 8388608 := by rw [ByteArray.size_append]; show ((a.size + 1 : Nat) : Int) ≤ _; omega
  have hc := fun w hT => new_bad (a ++ ⟨#[10]⟩ ++ b) w (by have := size_two a b; unfold two at this; omega) (by have := valid_two a b; unfold two at this; rw [this]; rcases hv with hv | hv <;> simp [hv]) hT
  rcases (by revert hv; cases validS a <;> cases validS b <;> simp : (validS a = false ∧ validS b = false) ∨ (validS a = false ∧ validS b = true) ∨ (validS a = true ∧ validS b = false)) with ⟨ha, hb⟩ | ⟨ha, hb⟩ | ⟨ha, hb⟩
  · have ca := fun w hT => new_bad a w (by omega) ha hT
    have cb := fun w hT => new_bad b w (by omega) hb hT
    clear ha hb hv
    go_enter Tryd.func8, Tryd.ntmps8
    go_wp2_with fail
    refine (cw _ hT).mono ?_
    rintro e w1 ⟨rfl, hb1⟩
    go_wp2_with fail
    refine (ca _ (tabs_below hT hb1 h2)).mono ?_
    rintro e w2 ⟨rfl, hb2'⟩
    have hb2 := hb1.trans (hb2'.mono hb1.size)
    go_wp2_with fail
    refine (cb _ (tabs_below hT hb2 h2)).mono ?_
    rintro e w3 ⟨rfl, hb3'⟩
    have hb3 := hb2.trans (hb3'.mono hb2.size)
    go_wp2_with fail
    refine (hc _ (tabs_below hT hb3 h2)).mono ?_
    rintro e w4 ⟨rfl, hb4'⟩
    have hb4 := hb3.trans (hb4'.mono hb3.size)
    go_wp2
    go_ret
    exact ⟨rfl, hb4⟩
  · have ca := fun w hT => new_bad a w (by omega) ha hT
    have cb := fun w hT => new_ix b w (by omega) hb hT
    clear ha hb hv
    go_enter Tryd.func8, Tryd.ntmps8
    go_wp2_with fail
    refine (cw _ hT).mono ?_
    rintro e w1 ⟨rfl, hb1⟩
    go_wp2_with fail
    refine (ca _ (tabs_below hT hb1 h2)).mono ?_
    rintro e w2 ⟨rfl, hb2'⟩
    have hb2 := hb1.trans (hb2'.mono hb1.size)
    go_wp2_with fail
    refine Calls.mono (cb _ (tabs_below hT hb2 h2)) ?_
    rintro e w3 ⟨p, rfl, _, hb3'⟩
    have hb3 := hb2.trans (hb3'.mono hb2.size)
    go_wp2_with fail
    refine (hc _ (tabs_below hT hb3 h2)).mono ?_
    rintro e w4 ⟨rfl, hb4'⟩
    have hb4 := hb3.trans (hb4'.mono hb3.size)
    go_wp2
    go_ret
    exact ⟨rfl, hb4⟩
  · have ca := fun w hT => new_ix a w (by omega) ha hT
    have cb := fun w hT => new_bad b w (by omega) hb hT
    clear ha hb hv
    go_enter Tryd.func8, Tryd.ntmps8
    go_wp2_with fail
    refine (cw _ hT).mono ?_
    rintro e w1 ⟨rfl, hb1⟩
    go_wp2_with fail
    refine Calls.mono (ca _ (tabs_below hT hb1 h2)) ?_
    rintro e w2 ⟨p, rfl, _, hb2'⟩
    have hb2 := hb1.trans (hb2'.mono hb1.size)
    go_wp2_with fail
    refine (cb _ (tabs_below hT hb2 h2)).mono ?_
    rintro e w3 ⟨rfl, hb3'⟩
    have hb3 := hb2.trans (hb3'.mono hb2.size)
    go_wp2_with fail
    refine (hc _ (tabs_below hT hb3 h2)).mono ?_
    rintro e w4 ⟨rfl, hb4'⟩
    have hb4 := hb3.trans (hb4'.mono hb3.size)
    go_wp2
    go_ret
    exact ⟨rfl, hb4⟩

theorem isEmpty_no {s : ByteArray} (hs : 0 < s.size) : s.toList.isEmpty = false := by
  cases h : s.toList.isEmpty
  · rfl
  · rw [List.isEmpty_iff, Lib.toList_data] at h
    rw [Lib.size_eq, h] at hs
    exact absurd hs (by decide)
theorem isEmpty_yes {s : ByteArray} (hs : s.size = 0) : s.toList.isEmpty = true := by
  rw [List.isEmpty_iff, Lib.toList_data]
  exact List.eq_nil_of_length_eq_zero (by rw [← Lib.size_eq]; exact hs)
theorem set_two {w : World} {n : Nat} {u v : Value} (x y : Value) (h0 : w.cell? ⟨n, 0, none⟩ = some u) (h1 : w.cell? ⟨n, 1, none⟩ = some v) :
    ((w.setCell ⟨n, 0, none⟩ x).setCell ⟨n, 1, none⟩ y).cell? ⟨n, 0, none⟩ = some x ∧ ((w.setCell ⟨n, 0, none⟩ x).setCell ⟨n, 1, none⟩ y).cell? ⟨n, 1, none⟩ = some y := by
  have g0 : (w.setCell ⟨n, 0, none⟩ x).cell? ⟨n, 0, none⟩ = some x := World.cell?_setCell_same _ _ _ h0
  have g1 : (w.setCell ⟨n, 0, none⟩ x).cell? ⟨n, 1, none⟩ = some v := (World.cell?_setCell_other _ _ _ _ (by simp)).trans h1
  exact ⟨(World.cell?_setCell_other _ _ _ _ (by simp)).trans g0, World.cell?_setCell_same _ _ _ g1⟩
/-- Three indexes, as the law has them. -/
theorem two_pre (a b : ByteArray) (h : a.size + b.size ≤ 3000) (ha : validS a = true) (hb : validS b = true) :
    ∀ w, Lib.Utf8Tabs 1 2 w → Calls Tryd.prog 10 #[.string (a ++ ⟨#[10]⟩ ++ b)] w fun e W' => ∃ p, e = .returned (.tuple #[.pointer (some ⟨p, 0, none⟩), .int .i64 0]) ∧ Ix W' p (two a b) (linesB (two a b)) ∧ Below w.heap.size w W' := fun w hT =>
  new_ix (two a b) w (by have := size_two a b; omega) (by rw [valid_two, ha, hb]; rfl) hT

set_option maxHeartbeats 1600000 in
theorem two_cr (a b : ByteArray) (w : World) (hT : Lib.Utf8Tabs 1 2 w) (h : a.size + b.size ≤ 3000) (ha : validS a = true) (hb : validS b = true) (h0 : 0 < a.size) (hr : a.get! (a.size - 1) = 13) :
    Calls Tryd.prog 8 #[.string a, .string b] w fun e w' => e = .returned (.bool true) ∧ Below w.heap.size w w' := by
  have h2 := tabs_size hT
  have h3 : (a.size : Int) + (b.size : Int) ≤ 3000 := by omega
  have cw := awake_any
  have h8 : (a.size : Int) ≤ 8388608 := by omega
  have h9 : (b.size : Int) ≤ 8388608 := by omega
  have h10 : ((a ++ ⟨#[10]⟩ : ByteArray).size : Int) ≤ 8388608 := by rw [ByteArray.size_append]; show ((a.size + 1 : Nat) : Int) ≤ _; omega
  have hc := two_pre a b h ha hb
  have ca := fun w hT => new_ix a w (by omega) ha hT
  have cb := fun w hT => new_ix b w (by omega) hb hT
  clear ha hb
  go_enter Tryd.func8, Tryd.ntmps8
  go_wp2_with fail
  refine (cw _ hT).mono ?_
  rintro e w1 ⟨rfl, hb1⟩
  go_wp2_with fail
  refine Calls.mono (ca _ (tabs_below hT hb1 h2)) ?_
  rintro e w2 ⟨p, rfl, _, hb2'⟩
  have hb2 := hb1.trans (hb2'.mono hb1.size)
  go_wp2_with fail
  refine Calls.mono (cb _ (tabs_below hT hb2 h2)) ?_
  rintro e w3 ⟨q, rfl, _, hb3'⟩
  have hb3 := hb2.trans (hb3'.mono hb2.size)
  go_wp2_with fail
  refine Calls.mono (hc _ (tabs_below hT hb3 h2)) ?_
  rintro e w4 ⟨r, rfl, _, hb4'⟩
  have hb4 := hb3.trans (hb4'.mono hb3.size)
  have he := isEmpty_no h0
  have hx : ((a[a.size - 1]'(by omega)).toNat : Int) == 13 := by rw [← get!_lt a (a.size - 1) (by omega), hr]; rfl
  go_wp2
  go_ret
  exact ⟨rfl, hb4⟩

set_option maxHeartbeats 1600000 in
theorem two_main0 (a b : ByteArray) (w : World) (hT : Lib.Utf8Tabs 1 2 w) (h : a.size + b.size ≤ 3000) (ha : validS a = true) (hb : validS b = true) (g : a.size = 0) :
    Calls Tryd.prog 8 #[.string a, .string b] w fun e w' => e = .returned (.bool true) ∧ Below w.heap.size w w' := by
  have h2 := tabs_size hT
  have h3 : (a.size : Int) + (b.size : Int) ≤ 3000 := by omega
  have cw := awake_any
  have h8 : (a.size : Int) ≤ 8388608 := by omega
  have h9 : (b.size : Int) ≤ 8388608 := by omega
  have h10 : ((a ++ ⟨#[10]⟩ : ByteArray).size : Int) ≤ 8388608 := by rw [ByteArray.size_append]; show ((a.size + 1 : Nat) : Int) ≤ _; omega
  have hc := two_pre a b h ha hb
  have ca := fun w hT => new_ix a w (by omega) ha hT
  have cb := fun w hT => new_ix b w (by omega) hb hT
  rw [lines_two a b (.inl g)] at hc
  have hla := linesB_len a
  have hlb := linesB_len b
  have HC : Hid (((linesB a ++ sh (a.size + 1) (linesB b)).length : Int) = (linesB a).length + (linesB b).length) := Lib.hid (by simp [sh])
  clear ha hb
  have he := isEmpty_yes g
  have G := Lib.hid g
  clear g
  go_enter Tryd.func8, Tryd.ntmps8
  go_wp2_with fail
  refine (cw _ hT).mono ?_
  rintro e w1 ⟨rfl, hb1⟩
  go_wp2_with fail
  refine Calls.mono (ca _ (tabs_below hT hb1 h2)) ?_
  rintro e w2 ⟨p, rfl, hI2, hb2'⟩
  have hb2 := hb1.trans (hb2'.mono hb1.size)
  have HI2 := Lib.hid hI2
  clear hI2
  go_wp2_with fail
  refine Calls.mono (cb _ (tabs_below hT hb2 h2)) ?_
  rintro e w3 ⟨q, rfl, hI3, hb3'⟩
  have hb3 := hb2.trans (hb3'.mono hb2.size)
  have HI3 := Lib.hid hI3
  clear hI3
  go_wp2_with fail
  refine Calls.mono (hc _ (tabs_below hT hb3 h2)) ?_
  rintro e w4 ⟨r, rfl, hI4, hb4'⟩
  have hb4 := hb3.trans (hb4'.mono hb3.size)
  have HI4 := Lib.hid hI4
  clear hI4
  have cLc := lines_any r _ _ w4 HI4.out
  have cLb := lines_any q _ _ w4 (HI3.out.below (Nat.le_refl _) hb4')
  have cLa := lines_any p _ _ w4 (HI2.out.below (Nat.le_refl _) (hb3'.trans (hb4'.mono hb3'.size)))
  rw [HC.out] at cLc
  have HA := Lib.hid (HI2.out.below (Nat.le_refl _) (hb3'.trans (hb4'.mono hb3'.size)))
  have HB := Lib.hid (HI3.out.below (Nat.le_refl _) hb4')
  clear HI2 HI3 hb2' hb3' hb4' hb1 hb2 hb3 hc ca cb
  generalize hna : (linesB a).length = na at *
  generalize hnb : (linesB b).length = nb at *
  have HNA := Lib.hid hna
  have HNB := Lib.hid hnb
  clear hna hnb cw
  go_wp2_with fail
  refine cLc.mono ?_
  rintro e w5 ⟨rfl, rfl⟩
  go_wp2_with fail
  refine cLa.mono ?_
  rintro e w5 ⟨rfl, rfl⟩
  go_wp2_with fail
  refine cLb.mono ?_
  rintro e w5 ⟨rfl, rfl⟩
  clear cLa cLb cLc
  go_wp2
  go_loopg [11] (na + nb) (fun g i wx => ∃ k : Nat, i = .int .i64 k ∧ k ≤ na + nb ∧ na + nb ≤ k + g ∧ Below w4.heap.size w4 wx)
  case atStart => exact ⟨0, rfl, by omega, by omega, Below.refl _ _⟩
  case round =>
    obtain ⟨k, rfl, hk, hg, hB0⟩ := hrel
    by_cases hlt : k < na + nb
    · obtain ⟨g, rfl⟩ : ∃ g, gk = g + 1 := ⟨gk - 1, by omega⟩
      have c0 := lines_any r _ _ wr (HI4.out.below (Nat.le_refl _) hB0)
      rw [HC.out] at c0
      by_cases hka : k < na
      · obtain ⟨x, hax⟩ : ∃ x, (linesB a)[k]? = some x := ⟨_, List.getElem?_eq_getElem (by rw [HNA.out]; exact hka)⟩
        have hcx : (linesB a ++ sh (a.size + 1) (linesB b))[k]? = some x := by rw [List.getElem?_append_left (by rw [HNA.out]; exact hka)]; exact hax
        have HAX := Lib.hid hax
        have HCX := Lib.hid hcx
        clear hax hcx
        go_wp2_with fail
        refine c0.mono ?_
        rintro e w5 ⟨rfl, rfl⟩
        clear c0
        go_wp2_with fail
        refine (line_ok r _ _ _ (HI4.out.below (Nat.le_refl _) hB0) k x HCX.out).mono ?_
        rintro e w5 ⟨rfl, hb5⟩
        have hB5 := below_step hB0 hb5
        clear hb5
        obtain ⟨v5, hv5⟩ : ∃ v, w5.alloc (.cells #[.int .i64 x.1, .int .i64 x.2] 32) = v := ⟨_, rfl⟩
        have hA5 : Below w4.heap.size w4 v5 := by rw [← hv5]; exact hB5.alloc hB5.size _
        have c5_0 : v5.cell? ⟨w5.heap.size, 0, none⟩ = some (.int .i64 x.1) := by rw [← hv5]; simp
        have c5_1 : v5.cell? ⟨w5.heap.size, 1, none⟩ = some (.int .i64 x.2) := by rw [← hv5]; simp
        go_wp2_with fail
        refine (line_ok p _ _ _ (HA.out.below (Nat.le_refl _) hA5) k x HAX.out).mono ?_
        rintro e w6 ⟨rfl, hb6⟩
        have hB6 := below_step hA5 hb6
        replace c5_0 := keepB hb6 c5_0
        replace c5_1 := keepB hb6 c5_1
        clear hb6 hA5 hv5
        obtain ⟨v6, hv6⟩ : ∃ v, w6.alloc (.cells #[.int .i64 x.1, .int .i64 x.2] 32) = v := ⟨_, rfl⟩
        have hA6 : Below w4.heap.size w4 v6 := by rw [← hv6]; exact hB6.alloc hB6.size _
        replace c5_0 : v6.cell? ⟨w5.heap.size, 0, none⟩ = some (.int .i64 x.1) := by rw [← hv6]; exact keepA _ c5_0
        replace c5_1 : v6.cell? ⟨w5.heap.size, 1, none⟩ = some (.int .i64 x.2) := by rw [← hv6]; exact keepA _ c5_1
        have c6_0 : v6.cell? ⟨w6.heap.size, 0, none⟩ = some (.int .i64 x.1) := by rw [← hv6]; simp
        have c6_1 : v6.cell? ⟨w6.heap.size, 1, none⟩ = some (.int .i64 x.2) := by rw [← hv6]; simp
        have c7 := lines_any p _ _ v6 (HA.out.below (Nat.le_refl _) hA6)
        rw [HNA.out] at c7
        go_wp2_with fail
        refine c7.mono ?_
        rintro e w7 ⟨rfl, rfl⟩
        clear c7
        go_wp2
        go_roundg g
        case measure => omega
        case rel => exact ⟨k + 1, by go_num, by omega, by omega, hA6⟩
      · obtain ⟨y, hby⟩ : ∃ y, (linesB b)[k - na]? = some y := ⟨_, List.getElem?_eq_getElem (by rw [HNB.out]; omega)⟩
        have hcx : (linesB a ++ sh (a.size + 1) (linesB b))[k]? = some (y.1 + (a.size + 1), y.2 + (a.size + 1)) := by
          rw [List.getElem?_append_right (by rw [HNA.out]; omega), HNA.out, sh, List.getElem?_map, hby]; rfl
        obtain ⟨_, hy1, hy2, _⟩ := (linesB_ls b).get (k - na) y hby
        have cr := line_ok r _ _ wr (HI4.out.below (Nat.le_refl _) hB0) k _ hcx
        dsimp only at cr
        rw [show ((y.1 + (a.size + 1) : Nat) : Int) = (y.1 : Int) + a.size + 1 by omega, show ((y.2 + (a.size + 1) : Nat) : Int) = (y.2 : Int) + a.size + 1 by omega] at cr
        have cq := fun W (hW : Below w4.heap.size w4 W) => line_ok q _ _ W (HB.out.below (Nat.le_refl _) hW) (k - na) y hby
        rw [show ((k - na : Nat) : Int) = (k : Int) - na by omega] at cq
        have HBY := Lib.hid hby
        clear hby hcx
        go_wp2_with fail
        refine c0.mono ?_
        rintro e w5 ⟨rfl, rfl⟩
        clear c0
        go_wp2_with fail
        refine cr.mono ?_
        rintro e w5 ⟨rfl, hb5⟩
        clear cr
        have hB5 := below_step hB0 hb5
        clear hb5
        obtain ⟨v5, hv5⟩ : ∃ v, w5.alloc (.cells #[.int .i64 ((y.1 : Int) + a.size + 1), .int .i64 ((y.2 : Int) + a.size + 1)] 32) = v := ⟨_, rfl⟩
        have hA5 : Below w4.heap.size w4 v5 := by rw [← hv5]; exact hB5.alloc hB5.size _
        have c5_0 : v5.cell? ⟨w5.heap.size, 0, none⟩ = some (.int .i64 ((y.1 : Int) + a.size + 1)) := by rw [← hv5]; simp
        have c5_1 : v5.cell? ⟨w5.heap.size, 1, none⟩ = some (.int .i64 ((y.2 : Int) + a.size + 1)) := by rw [← hv5]; simp
        go_wp2_with fail
        refine (line_no p _ _ _ (HA.out.below (Nat.le_refl _) hA5) k (.inr (by rw [HNA.out]; omega))).mono ?_
        rintro e w6 ⟨rfl, hb6⟩
        have hB6 := below_step hA5 hb6
        replace c5_0 := keepB hb6 c5_0
        replace c5_1 := keepB hb6 c5_1
        clear hb6 hA5 hv5
        go_wp2_with fail
        generalize hv6 : w6.alloc (.cells #[.int .i64 0, .int .i64 0] 32) = v6
        have hA6 : Below w4.heap.size w4 v6 := by rw [← hv6]; exact hB6.alloc hB6.size _
        have hz5 : w5.heap.size < w6.heap.size := World.block_lt_of_cell? w6 ⟨w5.heap.size, 0, none⟩ c5_0
        replace c5_0 : v6.cell? ⟨w5.heap.size, 0, none⟩ = some (.int .i64 ((y.1 : Int) + a.size + 1)) := by rw [← hv6]; exact keepA _ c5_0
        replace c5_1 : v6.cell? ⟨w5.heap.size, 1, none⟩ = some (.int .i64 ((y.2 : Int) + a.size + 1)) := by rw [← hv6]; exact keepA _ c5_1
        have c6_0 : v6.cell? ⟨w6.heap.size, 0, none⟩ = some (.int .i64 0) := by rw [← hv6]; simp
        have c6_1 : v6.cell? ⟨w6.heap.size, 1, none⟩ = some (.int .i64 0) := by rw [← hv6]; simp
        have f6_0 : v6.frozen? ⟨w6.heap.size, 0, none⟩ = false := by rw [← hv6]; simp
        have f6_1 : v6.frozen? ⟨w6.heap.size, 1, none⟩ = false := by rw [← hv6]; simp
        have hb6z : w6.heap.size < v6.heap.size := by rw [← hv6]; simp
        have c7 := lines_any p _ _ v6 (HA.out.below (Nat.le_refl _) hA6)
        rw [HNA.out] at c7
        refine c7.mono ?_
        rintro e w7 ⟨rfl, rfl⟩
        clear hv6
        have hk2 : (na : Int) ≤ k := by omega
        go_wp2_with fail
        refine c7.mono ?_
        rintro e w7 ⟨rfl, rfl⟩
        clear c7
        go_wp2_with fail
        refine (cq _ hA6).mono ?_
        rintro e w8 ⟨rfl, hb8⟩
        clear cq
        have hB8 := below_step hA6 hb8
        replace c5_0 := keepB hb8 c5_0
        replace c5_1 := keepB hb8 c5_1
        replace c6_0 := keepB hb8 c6_0
        replace c6_1 := keepB hb8 c6_1
        have hz6 : w6.heap.size < v6.heap.size := hb6z
        replace f6_0 := (hb8.frozen (p := ⟨w6.heap.size, 0, none⟩) hz6).trans f6_0
        replace f6_1 := (hb8.frozen (p := ⟨w6.heap.size, 1, none⟩) hz6).trans f6_1
        clear hb8
        have hne : w6.heap.size ≠ w5.heap.size := by omega
        generalize w5.heap.size = n5 at *
        have hn6 : w4.heap.size ≤ w6.heap.size := hB6.size
        generalize w6.heap.size = n6 at *
        obtain ⟨z1, hz1⟩ : ∃ z : Int, z = (y.1 : Int) + a.size + 1 := ⟨_, rfl⟩
        obtain ⟨z2, hz2⟩ : ∃ z : Int, z = (y.2 : Int) + a.size + 1 := ⟨_, rfl⟩
        obtain ⟨q0, q1⟩ := set_two (.int .i64 y.1) (.int .i64 y.2) c6_0 c6_1
        obtain ⟨R0, R1⟩ := set_two (.int .i64 z1) (.int .i64 z2) q0 q1
        clear q0 q1
        have hBe : Below w4.heap.size w4 ((((w8.setCell ⟨n6, 0, none⟩ (.int .i64 y.1)).setCell ⟨n6, 1, none⟩ (.int .i64 y.2)).setCell ⟨n6, 0, none⟩ (.int .i64 z1)).setCell ⟨n6, 1, none⟩ (.int .i64 z2)) :=
          ((((hB8.setCell (p := ⟨n6, 0, none⟩) hn6 _).setCell (p := ⟨n6, 1, none⟩) hn6 _).setCell (p := ⟨n6, 0, none⟩) hn6 _).setCell (p := ⟨n6, 1, none⟩) hn6 _)
        subst hz1 hz2
        have HBE := Lib.hid hBe
        clear hBe
        go_wp2
        go_roundg g
        case measure => omega
        case rel => exact ⟨k + 1, by go_num, by omega, by omega, HBE.out⟩
    · have c0 := lines_any r _ _ wr (HI4.out.below (Nat.le_refl _) hB0)
      rw [HC.out] at c0
      go_wp2_with fail
      refine c0.mono ?_
      rintro e w5 ⟨rfl, rfl⟩
      clear c0
      go_wp2
      go_ret
      exact ⟨rfl, hb4.trans (hB0.mono hb4.size)⟩

set_option maxHeartbeats 1600000 in
theorem two_main1 (a b : ByteArray) (w : World) (hT : Lib.Utf8Tabs 1 2 w) (h : a.size + b.size ≤ 3000) (ha : validS a = true) (hb : validS b = true) (g : 0 < a.size) (hr : a.get! (a.size - 1) ≠ 13) :
    Calls Tryd.prog 8 #[.string a, .string b] w fun e w' => e = .returned (.bool true) ∧ Below w.heap.size w w' := by
  have h2 := tabs_size hT
  have h3 : (a.size : Int) + (b.size : Int) ≤ 3000 := by omega
  have cw := awake_any
  have h8 : (a.size : Int) ≤ 8388608 := by omega
  have h9 : (b.size : Int) ≤ 8388608 := by omega
  have h10 : ((a ++ ⟨#[10]⟩ : ByteArray).size : Int) ≤ 8388608 := by rw [ByteArray.size_append]; show ((a.size + 1 : Nat) : Int) ≤ _; omega
  have hc := two_pre a b h ha hb
  have ca := fun w hT => new_ix a w (by omega) ha hT
  have cb := fun w hT => new_ix b w (by omega) hb hT
  rw [lines_two a b (.inr hr)] at hc
  have hla := linesB_len a
  have hlb := linesB_len b
  have HC : Hid (((linesB a ++ sh (a.size + 1) (linesB b)).length : Int) = (linesB a).length + (linesB b).length) := Lib.hid (by simp [sh])
  clear ha hb
  have he := isEmpty_no g
  have hx : (((a[a.size - 1]'(by omega)).toNat : Int) == 13) = false := by
    rw [← get!_lt a (a.size - 1) (by omega)]
    rw [beq_eq_false_iff_ne]
    intro h13
    exact hr (UInt8.toNat.inj (by show _ = 13; omega))
  clear hr
  go_enter Tryd.func8, Tryd.ntmps8
  go_wp2_with fail
  refine (cw _ hT).mono ?_
  rintro e w1 ⟨rfl, hb1⟩
  go_wp2_with fail
  refine Calls.mono (ca _ (tabs_below hT hb1 h2)) ?_
  rintro e w2 ⟨p, rfl, hI2, hb2'⟩
  have hb2 := hb1.trans (hb2'.mono hb1.size)
  have HI2 := Lib.hid hI2
  clear hI2
  go_wp2_with fail
  refine Calls.mono (cb _ (tabs_below hT hb2 h2)) ?_
  rintro e w3 ⟨q, rfl, hI3, hb3'⟩
  have hb3 := hb2.trans (hb3'.mono hb2.size)
  have HI3 := Lib.hid hI3
  clear hI3
  go_wp2_with fail
  refine Calls.mono (hc _ (tabs_below hT hb3 h2)) ?_
  rintro e w4 ⟨r, rfl, hI4, hb4'⟩
  have hb4 := hb3.trans (hb4'.mono hb3.size)
  have HI4 := Lib.hid hI4
  clear hI4
  have cLc := lines_any r _ _ w4 HI4.out
  have cLb := lines_any q _ _ w4 (HI3.out.below (Nat.le_refl _) hb4')
  have cLa := lines_any p _ _ w4 (HI2.out.below (Nat.le_refl _) (hb3'.trans (hb4'.mono hb3'.size)))
  rw [HC.out] at cLc
  have HA := Lib.hid (HI2.out.below (Nat.le_refl _) (hb3'.trans (hb4'.mono hb3'.size)))
  have HB := Lib.hid (HI3.out.below (Nat.le_refl _) hb4')
  clear HI2 HI3 hb2' hb3' hb4' hb1 hb2 hb3 hc ca cb
  generalize hna : (linesB a).length = na at *
  generalize hnb : (linesB b).length = nb at *
  have HNA := Lib.hid hna
  have HNB := Lib.hid hnb
  clear hna hnb cw
  go_wp2_with fail
  refine cLc.mono ?_
  rintro e w5 ⟨rfl, rfl⟩
  go_wp2_with fail
  refine cLa.mono ?_
  rintro e w5 ⟨rfl, rfl⟩
  go_wp2_with fail
  refine cLb.mono ?_
  rintro e w5 ⟨rfl, rfl⟩
  clear cLa cLb cLc
  go_wp2
  go_loopg [11] (na + nb) (fun g i wx => ∃ k : Nat, i = .int .i64 k ∧ k ≤ na + nb ∧ na + nb ≤ k + g ∧ Below w4.heap.size w4 wx)
  case atStart => exact ⟨0, rfl, by omega, by omega, Below.refl _ _⟩
  case round =>
    obtain ⟨k, rfl, hk, hg, hB0⟩ := hrel
    by_cases hlt : k < na + nb
    · obtain ⟨g, rfl⟩ : ∃ g, gk = g + 1 := ⟨gk - 1, by omega⟩
      have c0 := lines_any r _ _ wr (HI4.out.below (Nat.le_refl _) hB0)
      rw [HC.out] at c0
      by_cases hka : k < na
      · obtain ⟨x, hax⟩ : ∃ x, (linesB a)[k]? = some x := ⟨_, List.getElem?_eq_getElem (by rw [HNA.out]; exact hka)⟩
        have hcx : (linesB a ++ sh (a.size + 1) (linesB b))[k]? = some x := by rw [List.getElem?_append_left (by rw [HNA.out]; exact hka)]; exact hax
        have HAX := Lib.hid hax
        have HCX := Lib.hid hcx
        clear hax hcx
        go_wp2_with fail
        refine c0.mono ?_
        rintro e w5 ⟨rfl, rfl⟩
        clear c0
        go_wp2_with fail
        refine (line_ok r _ _ _ (HI4.out.below (Nat.le_refl _) hB0) k x HCX.out).mono ?_
        rintro e w5 ⟨rfl, hb5⟩
        have hB5 := below_step hB0 hb5
        clear hb5
        obtain ⟨v5, hv5⟩ : ∃ v, w5.alloc (.cells #[.int .i64 x.1, .int .i64 x.2] 32) = v := ⟨_, rfl⟩
        have hA5 : Below w4.heap.size w4 v5 := by rw [← hv5]; exact hB5.alloc hB5.size _
        have c5_0 : v5.cell? ⟨w5.heap.size, 0, none⟩ = some (.int .i64 x.1) := by rw [← hv5]; simp
        have c5_1 : v5.cell? ⟨w5.heap.size, 1, none⟩ = some (.int .i64 x.2) := by rw [← hv5]; simp
        go_wp2_with fail
        refine (line_ok p _ _ _ (HA.out.below (Nat.le_refl _) hA5) k x HAX.out).mono ?_
        rintro e w6 ⟨rfl, hb6⟩
        have hB6 := below_step hA5 hb6
        replace c5_0 := keepB hb6 c5_0
        replace c5_1 := keepB hb6 c5_1
        clear hb6 hA5 hv5
        obtain ⟨v6, hv6⟩ : ∃ v, w6.alloc (.cells #[.int .i64 x.1, .int .i64 x.2] 32) = v := ⟨_, rfl⟩
        have hA6 : Below w4.heap.size w4 v6 := by rw [← hv6]; exact hB6.alloc hB6.size _
        replace c5_0 : v6.cell? ⟨w5.heap.size, 0, none⟩ = some (.int .i64 x.1) := by rw [← hv6]; exact keepA _ c5_0
        replace c5_1 : v6.cell? ⟨w5.heap.size, 1, none⟩ = some (.int .i64 x.2) := by rw [← hv6]; exact keepA _ c5_1
        have c6_0 : v6.cell? ⟨w6.heap.size, 0, none⟩ = some (.int .i64 x.1) := by rw [← hv6]; simp
        have c6_1 : v6.cell? ⟨w6.heap.size, 1, none⟩ = some (.int .i64 x.2) := by rw [← hv6]; simp
        have c7 := lines_any p _ _ v6 (HA.out.below (Nat.le_refl _) hA6)
        rw [HNA.out] at c7
        go_wp2_with fail
        refine c7.mono ?_
        rintro e w7 ⟨rfl, rfl⟩
        clear c7
        go_wp2
        go_roundg g
        case measure => omega
        case rel => exact ⟨k + 1, by go_num, by omega, by omega, hA6⟩
      · obtain ⟨y, hby⟩ : ∃ y, (linesB b)[k - na]? = some y := ⟨_, List.getElem?_eq_getElem (by rw [HNB.out]; omega)⟩
        have hcx : (linesB a ++ sh (a.size + 1) (linesB b))[k]? = some (y.1 + (a.size + 1), y.2 + (a.size + 1)) := by
          rw [List.getElem?_append_right (by rw [HNA.out]; omega), HNA.out, sh, List.getElem?_map, hby]; rfl
        obtain ⟨_, hy1, hy2, _⟩ := (linesB_ls b).get (k - na) y hby
        have cr := line_ok r _ _ wr (HI4.out.below (Nat.le_refl _) hB0) k _ hcx
        dsimp only at cr
        rw [show ((y.1 + (a.size + 1) : Nat) : Int) = (y.1 : Int) + a.size + 1 by omega, show ((y.2 + (a.size + 1) : Nat) : Int) = (y.2 : Int) + a.size + 1 by omega] at cr
        have cq := fun W (hW : Below w4.heap.size w4 W) => line_ok q _ _ W (HB.out.below (Nat.le_refl _) hW) (k - na) y hby
        rw [show ((k - na : Nat) : Int) = (k : Int) - na by omega] at cq
        have HBY := Lib.hid hby
        clear hby hcx
        go_wp2_with fail
        refine c0.mono ?_
        rintro e w5 ⟨rfl, rfl⟩
        clear c0
        go_wp2_with fail
        refine cr.mono ?_
        rintro e w5 ⟨rfl, hb5⟩
        clear cr
        have hB5 := below_step hB0 hb5
        clear hb5
        obtain ⟨v5, hv5⟩ : ∃ v, w5.alloc (.cells #[.int .i64 ((y.1 : Int) + a.size + 1), .int .i64 ((y.2 : Int) + a.size + 1)] 32) = v := ⟨_, rfl⟩
        have hA5 : Below w4.heap.size w4 v5 := by rw [← hv5]; exact hB5.alloc hB5.size _
        have c5_0 : v5.cell? ⟨w5.heap.size, 0, none⟩ = some (.int .i64 ((y.1 : Int) + a.size + 1)) := by rw [← hv5]; simp
        have c5_1 : v5.cell? ⟨w5.heap.size, 1, none⟩ = some (.int .i64 ((y.2 : Int) + a.size + 1)) := by rw [← hv5]; simp
        go_wp2_with fail
        refine (line_no p _ _ _ (HA.out.below (Nat.le_refl _) hA5) k (.inr (by rw [HNA.out]; omega))).mono ?_
        rintro e w6 ⟨rfl, hb6⟩
        have hB6 := below_step hA5 hb6
        replace c5_0 := keepB hb6 c5_0
        replace c5_1 := keepB hb6 c5_1
        clear hb6 hA5 hv5
        go_wp2_with fail
        generalize hv6 : w6.alloc (.cells #[.int .i64 0, .int .i64 0] 32) = v6
        have hA6 : Below w4.heap.size w4 v6 := by rw [← hv6]; exact hB6.alloc hB6.size _
        have hz5 : w5.heap.size < w6.heap.size := World.block_lt_of_cell? w6 ⟨w5.heap.size, 0, none⟩ c5_0
        replace c5_0 : v6.cell? ⟨w5.heap.size, 0, none⟩ = some (.int .i64 ((y.1 : Int) + a.size + 1)) := by rw [← hv6]; exact keepA _ c5_0
        replace c5_1 : v6.cell? ⟨w5.heap.size, 1, none⟩ = some (.int .i64 ((y.2 : Int) + a.size + 1)) := by rw [← hv6]; exact keepA _ c5_1
        have c6_0 : v6.cell? ⟨w6.heap.size, 0, none⟩ = some (.int .i64 0) := by rw [← hv6]; simp
        have c6_1 : v6.cell? ⟨w6.heap.size, 1, none⟩ = some (.int .i64 0) := by rw [← hv6]; simp
        have f6_0 : v6.frozen? ⟨w6.heap.size, 0, none⟩ = false := by rw [← hv6]; simp
        have f6_1 : v6.frozen? ⟨w6.heap.size, 1, none⟩ = false := by rw [← hv6]; simp
        have hb6z : w6.heap.size < v6.heap.size := by rw [← hv6]; simp
        have c7 := lines_any p _ _ v6 (HA.out.below (Nat.le_refl _) hA6)
        rw [HNA.out] at c7
        refine c7.mono ?_
        rintro e w7 ⟨rfl, rfl⟩
        clear hv6
        have hk2 : (na : Int) ≤ k := by omega
        go_wp2_with fail
        refine c7.mono ?_
        rintro e w7 ⟨rfl, rfl⟩
        clear c7
        go_wp2_with fail
        refine (cq _ hA6).mono ?_
        rintro e w8 ⟨rfl, hb8⟩
        clear cq
        have hB8 := below_step hA6 hb8
        replace c5_0 := keepB hb8 c5_0
        replace c5_1 := keepB hb8 c5_1
        replace c6_0 := keepB hb8 c6_0
        replace c6_1 := keepB hb8 c6_1
        have hz6 : w6.heap.size < v6.heap.size := hb6z
        replace f6_0 := (hb8.frozen (p := ⟨w6.heap.size, 0, none⟩) hz6).trans f6_0
        replace f6_1 := (hb8.frozen (p := ⟨w6.heap.size, 1, none⟩) hz6).trans f6_1
        clear hb8
        have hne : w6.heap.size ≠ w5.heap.size := by omega
        generalize w5.heap.size = n5 at *
        have hn6 : w4.heap.size ≤ w6.heap.size := hB6.size
        generalize w6.heap.size = n6 at *
        obtain ⟨z1, hz1⟩ : ∃ z : Int, z = (y.1 : Int) + a.size + 1 := ⟨_, rfl⟩
        obtain ⟨z2, hz2⟩ : ∃ z : Int, z = (y.2 : Int) + a.size + 1 := ⟨_, rfl⟩
        obtain ⟨q0, q1⟩ := set_two (.int .i64 y.1) (.int .i64 y.2) c6_0 c6_1
        obtain ⟨R0, R1⟩ := set_two (.int .i64 z1) (.int .i64 z2) q0 q1
        clear q0 q1
        have hBe : Below w4.heap.size w4 ((((w8.setCell ⟨n6, 0, none⟩ (.int .i64 y.1)).setCell ⟨n6, 1, none⟩ (.int .i64 y.2)).setCell ⟨n6, 0, none⟩ (.int .i64 z1)).setCell ⟨n6, 1, none⟩ (.int .i64 z2)) :=
          ((((hB8.setCell (p := ⟨n6, 0, none⟩) hn6 _).setCell (p := ⟨n6, 1, none⟩) hn6 _).setCell (p := ⟨n6, 0, none⟩) hn6 _).setCell (p := ⟨n6, 1, none⟩) hn6 _)
        subst hz1 hz2
        have HBE := Lib.hid hBe
        clear hBe
        go_wp2
        go_roundg g
        case measure => omega
        case rel => exact ⟨k + 1, by go_num, by omega, by omega, HBE.out⟩
    · have c0 := lines_any r _ _ wr (HI4.out.below (Nat.le_refl _) hB0)
      rw [HC.out] at c0
      go_wp2_with fail
      refine c0.mono ?_
      rintro e w5 ⟨rfl, rfl⟩
      clear c0
      go_wp2
      go_ret
      exact ⟨rfl, hb4.trans (hB0.mono hb4.size)⟩

theorem linesTwo_walk (a b : ByteArray) (w : World) (hT : Lib.Utf8Tabs 1 2 w) (h9 : a.size + b.size ≤ 1000000000000000) :
    Calls Tryd.prog 8 #[.string a, .string b] w fun e w' => e = .returned (.bool true) ∧ Below w.heap.size w w' := by
  by_cases h : a.size + b.size ≤ 3000
  · cases ha : validS a
    · exact two_none a b w hT h (.inl ha)
    cases hb : validS b
    · exact two_none a b w hT h (.inr hb)
    by_cases g : a.size = 0
    · exact two_main0 a b w hT h ha hb g
    by_cases hr : a.get! (a.size - 1) = 13
    · exact two_cr a b w hT h ha hb (by omega) hr
    · exact two_main1 a b w hT h ha hb (by omega) hr
  · exact two_long a b w hT (by omega) h9
end Go.Proofs.YtfhkahnajjbohaaDoor
