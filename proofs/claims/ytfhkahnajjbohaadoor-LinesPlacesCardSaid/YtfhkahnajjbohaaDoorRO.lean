/-
  The reference: Offset.
-/
import Derived.Test.YtfhkahnajjbohaaDoorRU
import Derived.Test.YtfhkahnajjbohaaDoorWT
namespace Go.Proofs.YtfhkahnajjbohaaDoor
open Go.RowKit Go.Shelf

set_option maxRecDepth 100000 in
set_option maxHeartbeats 2000000 in
theorem roff_low (s : ByteArray) (l c : Int) (w : World) (hs : s.size ≤ 65536) (h : l < 0 ∨ ((linesB s).length : Int) ≤ l ∨ c < 0) :
    Calls Tryd.prog 16 #[.string s, .agg #[.int .i64 l, .int .i64 c]] w fun e w' => e = .returned (.tuple #[.int .i64 0, .int .i64 60]) ∧ Below w.heap.size w w' := by
  have hb0 : Below w.heap.size w (w.alloc (.cells #[.int .i64 l, .int .i64 c] 37)) := (Below.refl _ _).alloc (Nat.le_refl _) _
  have cl := fun w => rlines_sl s w hs
  have hlen := linesB_len s
  generalize linesB s = ls at *
  have hb0z : w.heap.size < (w.alloc (.cells #[.int .i64 l, .int .i64 c] 37)).heap.size := by simp
  rcases (by omega : l < 0 ∨ (0 ≤ l ∧ (ls.length : Int) ≤ l) ∨ (0 ≤ l ∧ l < (ls.length : Int) ∧ c < 0)) with h | ⟨h0, h⟩ | ⟨h0, h, h1⟩
  all_goals
    generalize ls.length = nl at *
    go_enter Tryd.func16, Tryd.ntmps16
    go_wp2_with fail
    generalize hW0 : w.alloc (.cells #[.int .i64 l, .int .i64 c] 37) = W0 at *
    have p0 : W0.cell? ⟨w.heap.size, 0, none⟩ = some (.int .i64 l) := by rw [← hW0]; simp
    have p1 : W0.cell? ⟨w.heap.size, 1, none⟩ = some (.int .i64 c) := by rw [← hW0]; simp
    clear hW0
    refine Calls.mono (cl _) ?_
    rintro e w1 ⟨g, cap, rfl, hcap, hS, hb1⟩
    have hB1 := hb0.trans (hb1.mono hb0.size)
    replace p0 := keepB hb1 p0
    replace p1 := keepB hb1 p1
    clear hS cl hb1
    go_wp2
    go_ret2
    exact ⟨rfl, hB1⟩

theorem skip_ch {s : ByteArray} {i j n v a c : Nat} (hw : Wy s i j a) (hc : Ch s j n v) (hne : a ≠ c) (h : ∀ k, k < j → ¬ Wy s i k c) : ∀ k, k < j + n → ¬ Wy s i k c := fun k hk hw' => by
  rcases Nat.lt_trichotomy k j with h1 | rfl | h1
  · exact h k h1 hw'
  · exact hne (hw.count hw')
  · obtain ⟨e, he, _⟩ := hw.part hw' (by omega)
    cases he with
    | stay => omega
    | go _ m u _ e hm hw2 =>
      have := (hc.one hm).1
      have := hw2.le
      omega

set_option maxRecDepth 100000 in
set_option maxHeartbeats 4000000 in
/-- The line is there: the characters are gone through. -/
theorem roff_line (s : ByteArray) (n : Nat) (c : Nat) (x : Nat × Nat) (w : World) (hs : s.size ≤ 65536) (hx : (linesB s)[n]? = some x) (e : Nat) (hw : Wy s x.1 x.2 e)
    (R : Ending → Prop) (hgood : ∀ k, Wy s x.1 k c → k ≤ x.2 → R (.returned (.tuple #[.int .i64 k, .int .i64 0]))) (hbad : (∀ k, k ≤ x.2 → ¬ Wy s x.1 k c) → R (.returned (.tuple #[.int .i64 0, .int .i64 60]))) :
    Calls Tryd.prog 16 #[.string s, .agg #[.int .i64 n, .int .i64 c]] w fun e w' => R e ∧ Below w.heap.size w w' := by
  have hb0 : Below w.heap.size w (w.alloc (.cells #[.int .i64 n, .int .i64 c] 37)) := (Below.refl _ _).alloc (Nat.le_refl _) _
  have cl := fun w => rlines_sl s w hs
  have hlen := linesB_len s
  have hn : n < (linesB s).length := (List.getElem?_eq_some_iff.1 hx).1
  obtain ⟨_, hx1, hx2, _⟩ := (linesB_ls s).get n x hx
  have HX := Lib.hid hx
  have HW := Lib.hid hw
  clear hx hw
  generalize linesB s = ls at *
  have hb0z : w.heap.size < (w.alloc (.cells #[.int .i64 n, .int .i64 c] 37)).heap.size := by simp
  go_enter Tryd.func16, Tryd.ntmps16
  go_wp2_with fail
  generalize hW0 : w.alloc (.cells #[.int .i64 n, .int .i64 c] 37) = W0 at *
  have p0 : W0.cell? ⟨w.heap.size, 0, none⟩ = some (.int .i64 n) := by rw [← hW0]; simp
  have p1 : W0.cell? ⟨w.heap.size, 1, none⟩ = some (.int .i64 c) := by rw [← hW0]; simp
  clear hW0
  refine Calls.mono (cl _) ?_
  rintro e w1 ⟨g, cap, rfl, hcap, hS, hb1⟩
  have hB1 := hb0.trans (hb1.mono hb0.size)
  replace p0 := keepB hb1 p0
  replace p1 := keepB hb1 p1
  obtain ⟨s0, s1⟩ := hS.2 n x HX.out
  clear hS cl hb1
  have HN := Lib.hid HX
  generalize ls.length = nl at *
  have c0 : 0 ≤ (c : Int) := by omega
  obtain ⟨v1, hv1⟩ : ∃ v, w1.alloc (.cells #[.int .i64 x.1, .int .i64 x.2] 32) = v := ⟨_, rfl⟩
  have hA1 : Below w.heap.size w v1 := by rw [← hv1]; exact hB1.alloc hB1.size _
  have q0 : v1.cell? ⟨w1.heap.size, 0, none⟩ = some (.int .i64 x.1) := by rw [← hv1]; simp
  have q1 : v1.cell? ⟨w1.heap.size, 1, none⟩ = some (.int .i64 x.2) := by rw [← hv1]; simp
  have p1' : v1.cell? ⟨w.heap.size, 1, none⟩ = some (.int .i64 c) := by rw [← hv1]; exact keepA _ p1
  have hd0 : decide ((n : Int) < 0) = false := by simp
  have hd1 : decide (nl ≤ n) = false := by simp; omega
  have hd2 : decide ((c : Int) < 0) = false := by simp
  have HI0 : Hid (∀ k, k < x.1 → ¬ Wy s x.1 k c) := Lib.hid fun k hk hw => by have := hw.le; omega
  have HG := Lib.hid hgood
  have HBD := Lib.hid hbad
  have hA1' : v1.heap.size = v1.heap.size := rfl
  clear hgood hbad HX HN hA1'
  go_wp2
  clear hv1
  go_loop [8, 9] (fun u i => ∃ j a : Nat, u = .int .i64 a ∧ i = .int .i64 j ∧ x.1 ≤ j ∧ j ≤ x.2 ∧ a ≤ 2 * j ∧ Hid (Wy s x.1 j a) ∧ Hid (∃ e, Wy s j x.2 e) ∧ Hid (∀ k, k < j → ¬ Wy s x.1 k c)) (fun _ i => s.size - (intOf i).toNat)
  case atStart => exact ⟨x.1, 0, rfl, rfl, by omega, by omega, by omega, Lib.hid (.stay _), Lib.hid ⟨e, HW.out⟩, HI0⟩
  case round =>
    obtain ⟨j, a, rfl, rfl, h1, h2, h3, HP, HE, HS⟩ := hrel
    by_cases hac : a = c
    · subst hac
      have HR : Hid (R (.returned (.tuple #[.int .i64 j, .int .i64 0]))) := Lib.hid (HG.out j HP.out h2)
      clear HG HBD HP HE HS HI0 HW
      go_wp2
      go_ret2
      exact ⟨HR.out, hA1⟩
    · have hne : ((a : Int) == (c : Int)) = false := by rw [beq_eq_false_iff_ne]; omega
      by_cases hj : j = x.2
      · have HR : Hid (R (.returned (.tuple #[.int .i64 0, .int .i64 60]))) := Lib.hid (HBD.out fun k hk hw => by
          rcases Nat.lt_or_ge k j with h | h
          · exact HS.out k h hw
          · obtain rfl : k = j := by omega
            exact hac (HP.out.count hw))
        have hge : (x.2 : Int) ≤ j := by omega
        clear HG HBD HP HE HS HI0 HW hj hac
        go_wp2
        go_ret2
        exact ⟨HR.out, hA1⟩
      · obtain ⟨n, v, e2, hch, he2⟩ : ∃ n v e2, Ch s j n v ∧ Wy s (j + n) x.2 e2 := by
          obtain ⟨e, h⟩ := HE.out
          cases h with
          | stay => omega
          | go _ n v _ e2 g1 g2 => exact ⟨n, v, e2, g1, g2⟩
        have hjl : j < x.2 := by omega
        have cs := fun w => size_ch s j n v w (by omega) (by omega) hch
        have hf := hch.fits
        have hle := he2.le
        have HP2 : Hid (Wy s x.1 (j + n) (a + v)) := Lib.hid (HP.out.trans (by have := Wy.go j n v (j + n) 0 hch (.stay _); exact this))
        have HE2 : Hid (∃ e, Wy s (j + n) x.2 e) := Lib.hid ⟨e2, he2⟩
        have HS2 := Lib.hid (skip_ch HP.out hch hac HS.out)
        have hnv : (n = 1 ∧ v = 1) ∨ (n = 2 ∧ v = 1) ∨ (n = 3 ∧ v = 1) ∨ (n = 4 ∧ v = 2) := by
          rcases hch with h | h | h | h
          · exact .inl ⟨h.1, h.2.1⟩
          · exact .inr (.inl ⟨h.1, h.2.1⟩)
          · exact .inr (.inr (.inl ⟨h.1, h.2.1⟩))
          · exact .inr (.inr (.inr ⟨h.1, h.2.1⟩))
        clear hch he2 HE HP HS HG HBD HI0 HW hj hac
        rcases hnv with ⟨rfl, rfl⟩ | ⟨rfl, rfl⟩ | ⟨rfl, rfl⟩ | ⟨rfl, rfl⟩
        · go_wp2_with fail
          refine (cs _).mono ?_
          rintro e' w3 ⟨rfl, rfl⟩
          go_wp2_with fail
          refine (cs _).mono ?_
          rintro e' w3 ⟨rfl, rfl⟩
          clear cs
          go_wp2
          go_round
          case rel => exact ⟨j + 1, a + 1, by go_num, by go_num, by omega, by omega, by omega, HP2, HE2, HS2⟩
          case measure => simp [intOf]; omega
        · go_wp2_with fail
          refine (cs _).mono ?_
          rintro e' w3 ⟨rfl, rfl⟩
          go_wp2_with fail
          refine (cs _).mono ?_
          rintro e' w3 ⟨rfl, rfl⟩
          clear cs
          go_wp2
          go_round
          case rel => exact ⟨j + 2, a + 1, by go_num, by go_num, by omega, by omega, by omega, HP2, HE2, HS2⟩
          case measure => simp [intOf]; omega
        · go_wp2_with fail
          refine (cs _).mono ?_
          rintro e' w3 ⟨rfl, rfl⟩
          go_wp2_with fail
          refine (cs _).mono ?_
          rintro e' w3 ⟨rfl, rfl⟩
          clear cs
          go_wp2
          go_round
          case rel => exact ⟨j + 3, a + 1, by go_num, by go_num, by omega, by omega, by omega, HP2, HE2, HS2⟩
          case measure => simp [intOf]; omega
        · go_wp2_with fail
          refine (cs _).mono ?_
          rintro e' w3 ⟨rfl, rfl⟩
          go_wp2_with fail
          refine (cs _).mono ?_
          rintro e' w3 ⟨rfl, rfl⟩
          clear cs
          go_wp2
          go_round
          case rel => exact ⟨j + 4, a + 2, by go_num, by go_num, by omega, by omega, by omega, HP2, HE2, HS2⟩
          case measure => simp [intOf]; omega
end Go.Proofs.YtfhkahnajjbohaaDoor
