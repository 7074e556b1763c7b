/-
  RopeLines: the law's walk.
-/
import Derived.Test.YtbmcgmnmmnileaaT
namespace Go.Proofs.Ytbmcgmnmmnileaa
open Go.RowKit Go.Shelf

theorem nth_count_le : ∀ (l : List UInt8) (a : Nat), nth l ((l.take a).count 10) ≤ a
  | l, 0 => by rw [List.take_zero]; show nth l 0 ≤ 0; rw [nth_zero]; exact Nat.le_refl _
  | [], a + 1 => by simp [nth]
  | c :: l, a + 1 => by
    have h := nth_count_le l a
    rw [List.take_succ_cons, List.count_cons]
    by_cases hc : c = 10
    · subst hc
      simp only [beq_self_eq_true, ite_true]
      rw [nth_hit]; omega
    · simp only [beq_iff_eq, hc, ite_false, Nat.add_zero]
      cases hk : (l.take a).count 10 with
      | zero => rw [nth_zero]; omega
      | succ k => rw [hk] at h; rw [nth_miss hc]; omega
theorem nth_lt (l : List UInt8) (i : Nat) (h : i + 1 ≤ l.count 10) : nth l i < nth l (i + 1) := by
  rcases Nat.lt_or_ge (nth l i) (nth l (i + 1)) with g | g
  · exact g
  · have c1 := count_take_nth l (i + 1) h
    have c2 := count_take_nth l i (by omega)
    have c3 : (l.take (nth l (i + 1))).count 10 ≤ (l.take (nth l i)).count 10 := List.Sublist.count_le 10 (List.take_sublist_take_left g)
    omega
theorem count_take_le (l : List UInt8) (a : Nat) : (l.take a).count 10 ≤ l.count 10 := List.Sublist.count_le 10 (List.take_sublist a l)

theorem lineR_in (l : List UInt8) (i : Nat) (h : i ≤ l.count 10) : lineR l i = (((nth l i : Nat) : Int), 0) := by
  unfold lineR; rw [if_neg (by omega)]; rfl
theorem aheadR_in (l : List UInt8) (a : Nat) (h : a ≤ l.length) : aheadR l a = ((((l.take a).count 10 : Nat) : Int), 0) := by
  unfold aheadR; rw [if_neg (by omega)]; rfl
theorem aheadR_out (l : List UInt8) (a : Int) (h : a < 0 ∨ (l.length : Int) < a) : aheadR l a = (0, 1) := by
  unfold aheadR; rw [if_pos h]

theorem lines_short (s : ByteArray) (at_ : Int) (w : World) (hs : 3000 < s.size) : Calls Try.prog 6 #[.string s, .int .i64 at_] w fun e w' => e = .returned (.bool true) ∧ Below w.heap.size w w' := by
  have hs' : (3000 : Int) < (s.size : Int) := by omega
  have hw := works_true
  go_enter Try.func6, Try.ntmps6
  go_wp2_with fail
  refine (hw w).mono ?_
  rintro e w1 ⟨rfl, hb⟩
  go_wp2_with fail
  refine (hw w1).mono ?_
  rintro e w2 ⟨rfl, hb2⟩
  go_wp2
  go_ret
  exact ⟨rfl, hb.trans (hb2.mono hb.size)⟩

set_option maxRecDepth 100000 in
set_option maxHeartbeats 4000000 in
theorem lines_walk (s : ByteArray) (at_ : Int) (w : World) (hs : s.size ≤ 3000) : Calls Try.prog 6 #[.string s, .int .i64 at_] w fun e w' => e = .returned (.bool true) ∧ Below w.heap.size w w' := by
  have hs' : ¬ (3000 : Int) < (s.size : Int) := by omega
  have hw := works_true w
  have h8 := fun w => rp_of s w (by omega)
  have HS : Hid (s.data.toList.length = s.size) := Lib.hid (Lib.size_eq s).symm
  obtain ⟨C, hC⟩ : ∃ C, s.data.toList.count 10 = C := ⟨_, rfl⟩
  have hCle : C ≤ 3000 := by
    have : s.data.toList.count 10 ≤ s.data.toList.length := List.count_le_length
    rw [HS.out] at this
    omega
  have cn := fun w b (h : Rp w b s.data.toList) => rp_ends w b _ h
  have cl := fun w b (h : Rp w b s.data.toList) (n : Int) => rp_line w b _ h (by rw [HS.out]; omega) n
  have ca := fun w b (h : Rp w b s.data.toList) (n : Int) => rp_ahead w b _ h (by rw [HS.out]; omega) n
  rw [hC] at cn
  have HC := Lib.hid hC
  clear hC
  go_enter Try.func6, Try.ntmps6
  go_wp2_with fail
  refine hw.mono ?_
  rintro e w1 ⟨rfl, hb1⟩
  have B1 := Lib.hid hb1
  clear hb1 hw
  go_wp2_with fail
  refine (h8 w1).mono ?_
  rintro e w2 ⟨b, rfl, k2, hb2⟩
  have K2 := Lib.hid k2
  have B2 := Lib.hid (B1.out.trans (hb2.mono B1.out.size))
  clear k2 hb2 h8
  go_wp2
  go_loopw [7, 8] (fun l i wr => ∃ (k : Nat) (m : Int), l = .int .i64 m ∧ i = .int .i64 k ∧ k ≤ C + 1 ∧ Hid ((k = 0 ∧ m = -1) ∨ (0 < k ∧ m = (nth s.data.toList (k - 1) : Nat))) ∧ Hid (Rp wr b s.data.toList) ∧ Hid (Below w.heap.size w wr)) (fun _ i _ => C + 2 - (intOf i).toNat)
  case atStart => exact ⟨0, -1, rfl, rfl, by omega, Lib.hid (.inl ⟨rfl, rfl⟩), K2, B2⟩
  case round =>
    obtain ⟨k, m, rfl, rfl, hk, hm, hR, hB⟩ := hrel
    by_cases hlt : k ≤ C
    · have hlt' : (k : Int) ≤ (C : Int) := by omega
      have e1 := lineR_in s.data.toList k (by rw [HC.out]; exact hlt)
      have hnl := nth_le s.data.toList k
      have e2 := aheadR_in s.data.toList (nth s.data.toList k) hnl
      rw [count_take_nth s.data.toList k (by rw [HC.out]; exact hlt)] at e2
      rw [HS.out] at hnl
      have c1 := cn wr b hR.out
      have c2 := fun w' h => cl w' b h k
      have c3 := fun w' h => ca w' b h (nth s.data.toList k : Nat)
      rw [e1] at c2
      rw [e2] at c3
      clear e1 e2
      rcases Nat.eq_zero_or_pos k with hk0 | hk0
      · subst hk0
        have hm1 : m = -1 := by rcases hm.out with h | h; exact h.2; omega
        subst hm1
        have HN : Hid (nth s.data.toList 0 = 0) := Lib.hid (nth_zero _)
        simp only [HN.out] at c3 c2
        go_wp2_with fail
        refine c1.mono ?_
        rintro e w3 ⟨rfl, hb⟩
        have R3 := Lib.hid (hR.out.below (Nat.le_refl _) hb)
        have B3 := Lib.hid (hB.out.trans (hb.mono hB.out.size))
        clear hb
        go_wp2_with fail
        refine (c2 _ R3.out).mono ?_
        rintro e w4 ⟨rfl, hb⟩
        have R4 := Lib.hid (R3.out.below (Nat.le_refl _) hb)
        have B4 := Lib.hid (B3.out.trans (hb.mono B3.out.size))
        clear hb
        go_wp2_with fail
        refine (c3 _ R4.out).mono ?_
        rintro e w5 ⟨rfl, hb⟩
        have R5 := Lib.hid (R4.out.below (Nat.le_refl _) hb)
        have B5 := Lib.hid (B4.out.trans (hb.mono B4.out.size))
        clear hb
        go_wp2
        go_roundw
        case rel => exact ⟨1, 0, rfl, rfl, by omega, Lib.hid (.inr ⟨by omega, by show (0 : Int) = (nth s.data.toList 0 : Nat); rw [HN.out]; rfl⟩), R5, B5⟩
        case measure => simp [intOf]
      · have hm1 : m = (nth s.data.toList (k - 1) : Nat) := by rcases hm.out with h | h; omega; exact h.2
        subst hm1
        have hlt2 := nth_lt s.data.toList (k - 1) (by rw [HC.out]; omega)
        rw [show k - 1 + 1 = k by omega] at hlt2
        obtain ⟨hq0, hq1⟩ := nth_end s.data.toList k hk0 (by rw [HC.out]; exact hlt)
        have HNK : Hid (∀ q, nth s.data.toList k = q → (q : Int) = (nth s.data.toList (k + 1 - 1) : Nat)) := Lib.hid (fun q h => by rw [show k + 1 - 1 = k by omega, h])
        obtain ⟨q, hq⟩ : ∃ q, nth s.data.toList k = q + 1 := ⟨nth s.data.toList k - 1, by omega⟩
        have HQ := Lib.hid hq
        rw [hq] at hlt2 hq1 hnl
        simp only [hq] at c2 c3
        have hj : q < s.size := by omega
        have hsq : s[q]'hj = 10 := by
          have h2 : s.data.toList[q]? = some 10 := hq1
          have h3 : s.data.toList[q]? = some (s[q]'hj) := by
            rw [Array.getElem?_toList, Array.getElem?_eq_getElem (by exact hj)]; rfl
          rw [h3] at h2
          injection h2
        have e10 : (((s[q]'hj).toNat : Int) == 10) = true := by rw [hsq]; rfl
        have f10 : (((s[q]'hj).toNat : Int) != 10) = false := by rw [hsq]; rfl
        generalize nth s.data.toList (k - 1) = p at *
        have hk0' : (0 : Int) < (k : Int) := by omega
        clear hq hq1 hsq hm
        go_wp2_with fail
        refine c1.mono ?_
        rintro e w3 ⟨rfl, hb⟩
        have R3 := Lib.hid (hR.out.below (Nat.le_refl _) hb)
        have B3 := Lib.hid (hB.out.trans (hb.mono hB.out.size))
        clear hb
        go_wp2_with fail
        refine (c2 _ R3.out).mono ?_
        rintro e w4 ⟨rfl, hb⟩
        have R4 := Lib.hid (R3.out.below (Nat.le_refl _) hb)
        have B4 := Lib.hid (B3.out.trans (hb.mono B3.out.size))
        clear hb
        go_wp2_with fail
        refine (c3 _ R4.out).mono ?_
        rintro e w5 ⟨rfl, hb⟩
        have R5 := Lib.hid (R4.out.below (Nat.le_refl _) hb)
        have B5 := Lib.hid (B4.out.trans (hb.mono B4.out.size))
        clear hb
        go_wp2
        go_roundw
        case rel => exact ⟨k + 1, ((q + 1 : Nat) : Int), by simp, by simp, by omega, Lib.hid (.inr ⟨by omega, HNK.out (q + 1) HQ.out⟩), R5, B5⟩
        case measure => simp [intOf]; omega
    · have hlt' : ¬ (k : Int) ≤ (C : Int) := by omega
      have c1 := cn wr b hR.out
      clear hm
      by_cases hout : at_ < 0 ∨ (s.size : Int) < at_
      · have c2 := fun w' h => ca w' b h at_
        rw [aheadR_out s.data.toList at_ (by rw [HS.out]; exact hout)] at c2
        rcases hout with h0 | h0
        all_goals
          go_wp2_with fail
          refine c1.mono ?_
          rintro e w3 ⟨rfl, hb⟩
          have R3 := Lib.hid (hR.out.below (Nat.le_refl _) hb)
          have B3 := Lib.hid (hB.out.trans (hb.mono hB.out.size))
          clear hb
          go_wp2_with fail
          refine (c2 _ R3.out).mono ?_
          rintro e w4 ⟨rfl, hb⟩
          have B4 := Lib.hid (B3.out.trans (hb.mono B3.out.size))
          clear hb
          by_cases hneg : at_ < 0
          · go_wp2
            go_ret
            exact ⟨rfl, B4.out⟩
          · have hneg' : decide (at_ < 0) = false := decide_eq_false hneg
            have hbig : (s.size : Int) < at_ := by omega
            go_wp2
            go_ret
            exact ⟨rfl, B4.out⟩
      · obtain ⟨a, rfl⟩ := Int.eq_ofNat_of_zero_le (show 0 ≤ at_ by omega)
        have ha : a ≤ s.size := by omega
        have c2 := fun w' h => ca w' b h a
        rw [aheadR_in s.data.toList a (by rw [HS.out]; exact ha)] at c2
        have c3 := fun w' h => cl w' b h ((s.data.toList.take a).count 10 : Nat)
        rw [lineR_in s.data.toList _ (count_take_le s.data.toList a)] at c3
        have hle := nth_count_le s.data.toList a
        generalize nth s.data.toList ((s.data.toList.take a).count 10) = q at *
        generalize (s.data.toList.take a).count 10 = c at *
        have hle' : (q : Int) ≤ (a : Int) := by omega
        go_wp2_with fail
        refine c1.mono ?_
        rintro e w3 ⟨rfl, hb⟩
        have R3 := Lib.hid (hR.out.below (Nat.le_refl _) hb)
        have B3 := Lib.hid (hB.out.trans (hb.mono hB.out.size))
        clear hb
        go_wp2_with fail
        refine (c2 _ R3.out).mono ?_
        rintro e w4 ⟨rfl, hb⟩
        have R4 := Lib.hid (R3.out.below (Nat.le_refl _) hb)
        have B4 := Lib.hid (B3.out.trans (hb.mono B3.out.size))
        clear hb
        go_wp2_with fail
        refine (c3 _ R4.out).mono ?_
        rintro e w5 ⟨rfl, hb⟩
        have B5 := Lib.hid (B4.out.trans (hb.mono B4.out.size))
        clear hb
        go_wp2
        go_ret
        exact ⟨rfl, B5.out⟩
theorem ropeLines_walk (s : ByteArray) (at_ : Int) (w : World) : Calls Try.prog 6 #[.string s, .int .i64 at_] w fun e w' => e = .returned (.bool true) ∧ Below w.heap.size w w' := by
  by_cases h : s.size ≤ 3000
  · exact lines_walk s at_ w h
  · exact lines_short s at_ w (by omega)
end Go.Proofs.Ytbmcgmnmmnileaa
