/-
  The walk of the reference's Byte; the contracts of both sides, joined.
-/
import Derived.Test.YtffldjlgmbiplaaDoorM
namespace Go.Proofs.YtffldjlgmbiplaaDoor
open Go.RowKit

theorem rbyte_arg (s : ByteArray) (u : Int) (w : World) (hs : s.size ≤ 1000000000) (h : u < 0 ∨ uN (seqB s) < u) :
    Calls Tryd.prog 17 #[.string s, .int .i64 u] w fun e W' => e = .returned (.tuple #[.int .i64 (byteS s u).1, .int .i64 (byteS s u).2]) ∧ Below w.heap.size w W' := by
  have hE : byteS s u = (0, 1) := by
    rcases h with h | h
    · rw [byteS, if_pos h]
    · exact byte_over hs h
  rw [hE]
  clear hE
  rcases (by omega : u < 0 ∨ (0 ≤ u ∧ uN (seqB s) < u)) with h | ⟨h, h2⟩
  · go_enter Tryd.func17, Tryd.ntmps17
    go_wp2
    go_ret2
    exact ⟨rfl, Below.refl _ _⟩
  · have hL := rlen_any s w hs
    generalize uN (seqB s) = L at hL h2
    go_enter Tryd.func17, Tryd.ntmps17
    go_wp2_with fail
    refine hL.mono ?_
    rintro e w1 ⟨rfl, hb1⟩
    go_wp2
    go_ret2
    exact ⟨rfl, hb1⟩

set_option maxHeartbeats 1600000 in
theorem rbyte_in (s : ByteArray) (u : Int) (w : World) (hs : s.size ≤ 1000000000) (h0 : 0 ≤ u) (h1 : u ≤ uN (seqB s)) :
    Calls Tryd.prog 17 #[.string s, .int .i64 u] w fun e W' => e = .returned (.tuple #[.int .i64 (byteS s u).1, .int .i64 (byteS s u).2]) ∧ Below w.heap.size w W' := by
  have hL := rlen_any s w hs
  have hend : ∀ (k f : Nat) (pre : List (Nat × ByteArray)), BInv s u k f pre → ¬ k < s.size → byteS s u = ((s.size : Int), 0) := fun k f pre hI hk => binv_end hs hI hk h1
  have HEnd := Lib.hid hend
  clear hend
  generalize uN (seqB s) = L at hL h1
  have d0 : decide (u < 0) = false := decide_eq_false (by omega)
  have d1 : decide (L < u) = false := decide_eq_false (by omega)
  obtain ⟨R, hR⟩ : ∃ R, byteS s u = R := ⟨_, rfl⟩
  rw [hR]
  have HR := Lib.hid hR
  clear hR
  go_enter Tryd.func17, Tryd.ntmps17
  go_wp2_with fail
  refine hL.mono ?_
  rintro e w0 ⟨rfl, hb0⟩
  go_wp2
  clear d0 d1
  go_loopw [6, 7, 8, 9] (fun o i _ _ wr => ∃ (k f : Nat) (pre : List (Nat × ByteArray)), i = .int .i64 k ∧ o = .int .i64 (uN pre) ∧ BInv s u k f pre ∧ Below w.heap.size w wr) (fun _ i _ _ _ => s.size - (intOf i).toNat)
  case atStart => exact ⟨0, s.size, [], rfl, rfl, binv_start h0, hb0⟩
  case round =>
    obtain ⟨k, f, pre, rfl, rfl, hI, hB⟩ := hrel
    have hb := uN_bd pre
    have hpl := pre_len hI.2.2.2.1
    have hka : uN pre ≤ u := hI.2.2.1
    have hks : k ≤ s.size := hI.1
    have hu0 : 0 ≤ uN pre := by omega
    have hu1 : uN pre ≤ 2000000000 := by omega
    clear hb hpl
    by_cases hlt : k < s.size
    · by_cases he : uN pre = u
      · have hE := binv_hit hs hI he
        have hbq : (uN pre == u) = true := beq_iff_eq.2 he
        have HE := Lib.hid hE
        generalize uN pre = m at *
        clear hE he
        go_wp2
        go_ret2
        exact ⟨by rw [← HR.out, HE.out]; rfl, hB⟩
      · have hlt2 : uN pre < u := by omega
        have hbq : (uN pre == u) = false := beq_eq_false_iff_ne.2 he
        obtain ⟨c1, c2, c3, c4, c5, c6⟩ := char_facts s k hlt
        have hRn := rrune_any (s.extract k s.size) wr
        have hU := units_any (rp (s.extract k s.size))
        have hu : 1 ≤ unt (rp (s.extract k s.size)) ∧ unt (rp (s.extract k s.size)) ≤ 2 := by unfold unt; split <;> omega
        have hpos := binv_pos hs hI hlt hlt2
        have hst := binv_step hs hI hlt hlt2
        have hun := uN_one hlt pre
        obtain ⟨hv1, hv2⟩ := hu
        clear c4 c5 c6 he
        generalize uN pre = m at *
        generalize unt (rp (s.extract k s.size)) = x at *
        generalize rp (s.extract k s.size) = p at *
        generalize rn (s.extract k s.size) = n at *
        generalize pre ++ [(k, s.extract k (k + n))] = pre2 at *
        have HUN := Lib.hid hun
        clear hun
        by_cases hg : u < m + x
        · have HP := Lib.hid (hpos hg)
          clear hpos hst
          go_wp2_with fail
          refine hRn.mono ?_
          rintro e w1 ⟨rfl, hb1⟩
          go_wp2_with fail
          refine (hU _).mono ?_
          rintro e w' ⟨rfl, rfl⟩
          go_wp2
          go_ret2
          exact ⟨by rw [← HR.out, HP.out]; rfl, hB.trans (hb1.mono hB.size)⟩
        · have HP := Lib.hid (hst (by omega))
          clear hpos hst
          go_wp2_with fail
          refine hRn.mono ?_
          rintro e w1 ⟨rfl, hb1⟩
          go_wp2_with fail
          refine (hU _).mono ?_
          rintro e w' ⟨rfl, rfl⟩
          go_wp2
          go_roundw
          case rel => exact ⟨k + n, f - 1, pre2, by go_num, by rw [HUN.out], HP.out, hB.trans (hb1.mono hB.size)⟩
          case measure => simp [intOf]; omega
    · have HE := Lib.hid (HEnd.out k f pre hI hlt)
      generalize uN pre = m at *
      go_wp2
      go_ret2
      exact ⟨by rw [← HR.out, HE.out]; rfl, hB⟩

theorem runit_any (s : ByteArray) (at_ : Int) (w : World) (hs : s.size ≤ 1000000000) :
    Calls Tryd.prog 16 #[.string s, .int .i64 at_] w fun e W' => e = .returned (.tuple #[.int .i64 (unitS s at_).1, .int .i64 (unitS s at_).2]) ∧ Below w.heap.size w W' := by
  by_cases h : at_ < 0 ∨ (s.size : Int) < at_
  · exact runit_arg s at_ w h
  · exact runit_in s at_ w hs (by omega) (by omega)
theorem rbyte_any (s : ByteArray) (u : Int) (w : World) (hs : s.size ≤ 1000000000) :
    Calls Tryd.prog 17 #[.string s, .int .i64 u] w fun e W' => e = .returned (.tuple #[.int .i64 (byteS s u).1, .int .i64 (byteS s u).2]) ∧ Below w.heap.size w W' := by
  by_cases h : u < 0 ∨ uN (seqB s) < u
  · exact rbyte_arg s u w hs h
  · exact rbyte_in s u w hs (by omega) (by omega)
theorem len_any (s : ByteArray) (w : World) (hs : s.size ≤ 1000000000) (hT : Lib.Utf8Tabs 0 1 w) :
    Calls Tryd.prog 13 #[.string s] w fun e W' => e = .returned (.int .i64 (uN (seqB s))) ∧ Below w.heap.size w W' := by
  have := len16_any s w hs hT
  rwa [uw_eq _ (by have := seqB_len s; omega)] at this

/-! ### the law UtfCounts -/
set_option maxRecDepth 100000 in
set_option maxHeartbeats 1600000 in
theorem utfCounts_walk (s : ByteArray) (n : Int) (w : World) (hT : Lib.Utf8Tabs 0 1 w) :
    Calls Tryd.prog 4 #[.string s, .int .i64 n] w fun e w' => e = .returned (.bool true) ∧ Below w.heap.size w w' := by
  by_cases hs : 3000 < s.size
  · have hs2 : (3000 : Int) < (s.size : Int) := by omega
    go_enter Tryd.func4, Tryd.ntmps4
    go_wp2
    go_ret
    exact ⟨rfl, Below.refl _ _⟩
  · have hs1 : s.size ≤ 1000000000 := by omega
    have hs2 : ¬ (3000 : Int) < (s.size : Int) := by omega
    have c14 := unit_any s n w hs1 hT
    have c16 := fun w => runit_any s n w hs1
    have c15 := fun w hT => byte_any s n w hs1 hT
    have c17 := fun w => rbyte_any s n w hs1
    have c18 := fun w hT => valid_any s w hs1 hT
    have c19 := rvalid_any s
    have c13 := fun w hT => len_any s w hs1 hT
    have c20 := fun w => rlen_any s w hs1
    have h2 := tabs_size hT
    generalize unitS s n = U at c14 c16
    generalize byteS s n = B at c15 c17
    generalize validS s = V at c18 c19
    generalize uN (seqB s) = L at c13 c20
    obtain ⟨u1, u2⟩ := U
    obtain ⟨b1, b2⟩ := B
    simp only at c14 c16 c15 c17
    clear hs hs1
    go_enter Tryd.func4, Tryd.ntmps4
    go_wp2_with fail
    refine c14.mono ?_
    rintro e w1 ⟨rfl, hb1⟩
    go_wp2_with fail
    refine (c16 _).mono ?_
    rintro e w2 ⟨rfl, hb2'⟩
    have hb2 := hb1.trans (hb2'.mono hb1.size)
    go_wp2_with fail
    refine (c15 _ (tabs_below hT hb2 h2)).mono ?_
    rintro e w3 ⟨rfl, hb3'⟩
    have hb3 := hb2.trans (hb3'.mono hb2.size)
    go_wp2_with fail
    refine (c17 _).mono ?_
    rintro e w4 ⟨rfl, hb4'⟩
    have hb4 := hb3.trans (hb4'.mono hb3.size)
    go_wp2_with fail
    refine (c18 _ (tabs_below hT hb4 h2)).mono ?_
    rintro e w5 ⟨rfl, hb5'⟩
    have hb5 := hb4.trans (hb5'.mono hb4.size)
    go_wp2_with fail
    refine (c19 _).mono ?_
    rintro e w6 ⟨rfl, hb6'⟩
    have hb6 := hb5.trans (hb6'.mono hb5.size)
    go_wp2_with fail
    refine (c13 _ (tabs_below hT hb6 h2)).mono ?_
    rintro e w7 ⟨rfl, hb7'⟩
    have hb7 := hb6.trans (hb7'.mono hb6.size)
    go_wp2_with fail
    refine (c20 _).mono ?_
    rintro e w8 ⟨rfl, hb8'⟩
    have hb8 := hb7.trans (hb8'.mono hb7.size)
    go_wp2
    go_ret
    exact ⟨rfl, hb8⟩
end Go.Proofs.YtffldjlgmbiplaaDoor
