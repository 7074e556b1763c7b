/-
  The walks of the reference's Valid, Len16, Unit, Byte.
-/
import Derived.Test.YtffldjlgmbiplaaDoorL
namespace Go.Proofs.YtffldjlgmbiplaaDoor
open Go.RowKit

def strSize : Value → Nat
  | .string t => t.size
  | _ => 0
theorem isEmpty_no {s : ByteArray} (hs : 0 < s.size) : s.toList.isEmpty = false := by
  rw [Lib.toList_data]
  cases h : s.data.toList with
  | nil => exact absurd (by rw [Lib.size_eq, h]; rfl) (Nat.ne_of_gt hs)
  | cons _ _ => rfl
theorem isEmpty_yes {s : ByteArray} (hs : s.size = 0) : s.toList.isEmpty = true := by
  rw [Lib.toList_data]
  have : s.data.toList = [] := List.eq_nil_of_length_eq_zero (by rw [← Lib.size_eq]; exact hs)
  rw [this]; rfl
theorem okAll_cons (x : Nat × ByteArray) (xs : List (Nat × ByteArray)) : okAll (x :: xs) = (!strayB x.2 && okAll xs) := by simp [okAll]

set_option maxHeartbeats 1000000 in
theorem rvalid_any (s : ByteArray) (w : World) :
    Calls Tryd.prog 19 #[.string s] w fun e w' => e = .returned (.bool (validS s)) ∧ Below w.heap.size w w' := by
  have H0 : Hid (validS s = okAll (seqF s.size s 0)) := rfl
  have HS : Hid (s.extract 0 s.size = s) := by
    apply ba_ext; rw [extract_list, List.drop_zero, List.take_of_length_le (by rw [← Lib.size_eq]; exact Nat.le_refl _)]
  generalize validS s = V at H0 ⊢
  go_enter Tryd.func19, Tryd.ntmps19
  go_wp2
  go_loopw [0, 3, 4] (fun v _ _ wr => ∃ (k f : Nat) (t : ByteArray), v = .string t ∧ k ≤ s.size ∧ s.size ≤ k + f ∧ s.extract k s.size = t ∧ V = okAll (seqF f s k) ∧ Below w.heap.size w wr) (fun v _ _ _ => strSize v)
  case atStart => exact ⟨0, s.size, s, rfl, by omega, by omega, HS.out, H0.out, Below.refl _ _⟩
  case round =>
    obtain ⟨k, f, t, rfl, hk, hf, ht, hV, hB⟩ := hrel
    have hz : t.size = s.size - k := by rw [← ht]; exact size_extract s k s.size (Nat.le_refl _)
    by_cases hlt : k < s.size
    · have hne := isEmpty_no (s := t) (by omega)
      rw [seqF_step f s k hlt hf, okAll_cons] at hV
      obtain ⟨c1, c2, c3, c4, c5, c6⟩ := char_facts s k hlt
      have htt := tail_tail s k (rn (s.extract k s.size)) c3
      simp only at hV
      rw [c6] at hV
      rw [ht] at hV htt c1 c2 c3
      have hR := rrune_any t wr
      generalize rn t = n at hR hV htt c1 c2 c3
      generalize rp t = p at hR hV
      have HT := Lib.hid ht
      have HTT := Lib.hid htt
      have hnt : n ≤ t.size := by omega
      have hnz : (t.extract n t.size).size < t.size := by rw [size_extract t n t.size (Nat.le_refl _)]; omega
      by_cases hp : p < 0
      · rw [decide_eq_true hp] at hV
        have HV := Lib.hid hV
        clear hV ht htt hz c4 c5 c6
        go_wp2_with fail
        refine hR.mono ?_
        rintro e w1 ⟨rfl, hb1⟩
        go_wp2
        go_ret
        exact ⟨by rw [HV.out]; rfl, hB.trans (hb1.mono hB.size)⟩
      · rw [decide_eq_false hp] at hV
        have HV := Lib.hid hV
        clear hV ht htt hz c4 c5 c6
        go_wp2_with fail
        refine hR.mono ?_
        rintro e w1 ⟨rfl, hb1⟩
        go_wp2
        go_roundw
        case rel => exact ⟨k + n, f - 1, t.extract n t.size, rfl, c3, by omega, HTT.out.symm, by rw [HV.out]; simp, hB.trans (hb1.mono hB.size)⟩
        case measure => simp only [strSize]; exact hnz
    · have hne := isEmpty_yes (s := t) (by omega)
      rw [seqF_end f s k hlt] at hV
      have HV := Lib.hid hV
      clear hV ht hz
      go_wp2
      go_ret
      exact ⟨by rw [HV.out]; rfl, hB⟩

set_option maxHeartbeats 1000000 in
theorem rlen_any (s : ByteArray) (w : World) (hs : s.size ≤ 1000000000) :
    Calls Tryd.prog 20 #[.string s] w fun e w' => e = .returned (.int .i64 (uN (seqB s))) ∧ Below w.heap.size w w' := by
  have H0 : Hid (uN (seqB s) = uN (seqF s.size s 0)) := rfl
  have HS : Hid (s.extract 0 s.size = s) := by
    apply ba_ext; rw [extract_list, List.drop_zero, List.take_of_length_le (by rw [← Lib.size_eq]; exact Nat.le_refl _)]
  generalize uN (seqB s) = V at H0 ⊢
  go_enter Tryd.func20, Tryd.ntmps20
  go_wp2
  go_loopw [0, 3, 4, 5] (fun v o _ _ wr => ∃ (k f : Nat) (t : ByteArray) (m : Int), v = .string t ∧ o = .int .i64 m ∧ 0 ≤ m ∧ m ≤ 2 * k ∧ k ≤ s.size ∧ s.size ≤ k + f ∧ s.extract k s.size = t ∧ V = m + uN (seqF f s k) ∧ Below w.heap.size w wr) (fun v _ _ _ _ => strSize v)
  case atStart => exact ⟨0, s.size, s, 0, rfl, rfl, by omega, by omega, by omega, by omega, HS.out, by rw [H0.out]; omega, Below.refl _ _⟩
  case round =>
    obtain ⟨k, f, t, m, rfl, rfl, hm0, hm1, hk, hf, ht, hV, hB⟩ := hrel
    have hz : t.size = s.size - k := by rw [← ht]; exact size_extract s k s.size (Nat.le_refl _)
    by_cases hlt : k < s.size
    · have hne := isEmpty_no (s := t) (by omega)
      rw [seqF_step f s k hlt hf, uN_cons] at hV
      obtain ⟨c1, c2, c3, c4, c5, c6⟩ := char_facts s k hlt
      have htt := tail_tail s k (rn (s.extract k s.size)) c3
      simp only at hV
      rw [c5] at hV
      rw [ht] at hV htt c1 c2 c3
      have hR := rrune_any t wr
      have hU := units_any (rp t)
      have hu : 1 ≤ unt (rp t) ∧ unt (rp t) ≤ 2 := by unfold unt; split <;> omega
      obtain ⟨hu1, hu2⟩ := hu
      generalize unt (rp t) = x at hV hU hu1 hu2
      generalize rn t = n at hR hV htt c1 c2 c3
      generalize rp t = p at hR hU
      have HTT := Lib.hid htt
      have hnt : n ≤ t.size := by omega
      have hnz : (t.extract n t.size).size < t.size := by rw [size_extract t n t.size (Nat.le_refl _)]; omega
      have HV := Lib.hid hV
      clear hV ht htt hz c4 c5 c6
      go_wp2_with fail
      refine hR.mono ?_
      rintro e w1 ⟨rfl, hb1⟩
      go_wp2_with fail
      refine (hU _).mono ?_
      rintro e w' ⟨rfl, rfl⟩
      go_wp2
      go_roundw
      case rel => exact ⟨k + n, f - 1, t.extract n t.size, m + x, rfl, rfl, by omega, by omega, c3, by omega, HTT.out.symm, by rw [HV.out]; omega, hB.trans (hb1.mono hB.size)⟩
      case measure => simp only [strSize]; exact hnz
    · have hne := isEmpty_yes (s := t) (by omega)
      rw [seqF_end f s k hlt, uN_nil] at hV
      have HV := Lib.hid hV
      clear hV ht hz
      go_wp2
      go_ret
      exact ⟨by rw [HV.out, Int.add_zero]; rfl, hB⟩

theorem runit_arg (s : ByteArray) (at_ : Int) (w : World) (h : at_ < 0 ∨ (s.size : Int) < at_) :
    Calls Tryd.prog 16 #[.string s, .int .i64 at_] w fun e W' => e = .returned (.tuple #[.int .i64 (unitS s at_).1, .int .i64 (unitS s at_).2]) ∧ Below w.heap.size w W' := by
  rw [show unitS s at_ = (0, 1) by rw [unitS, if_pos h]]
  rcases (by omega : at_ < 0 ∨ (0 ≤ at_ ∧ (s.size : Int) < at_)) with h | ⟨h, h2⟩
  · go_enter Tryd.func16, Tryd.ntmps16
    go_wp2
    go_ret2
    exact ⟨rfl, Below.refl _ _⟩
  · go_enter Tryd.func16, Tryd.ntmps16
    go_wp2
    go_ret2
    exact ⟨rfl, Below.refl _ _⟩

set_option maxHeartbeats 1600000 in
theorem runit_in (s : ByteArray) (at_ : Int) (w : World) (hs : s.size ≤ 1000000000) (h0 : 0 ≤ at_) (h1 : at_ ≤ s.size) :
    Calls Tryd.prog 16 #[.string s, .int .i64 at_] w fun e W' => e = .returned (.tuple #[.int .i64 (unitS s at_).1, .int .i64 (unitS s at_).2]) ∧ Below w.heap.size w W' := by
  have d0 : decide (at_ < 0) = false := decide_eq_false (by omega)
  have d1 : decide ((s.size : Int) < at_) = false := decide_eq_false (by omega)
  obtain ⟨R, hR⟩ : ∃ R, unitS s at_ = R := ⟨_, rfl⟩
  rw [hR]
  have HR := Lib.hid hR
  clear hR
  go_enter Tryd.func16, Tryd.ntmps16
  go_wp2
  clear d0 d1
  go_loopw [6, 7, 8, 9] (fun o i _ _ wr => ∃ (k f : Nat) (pre : List (Nat × ByteArray)), i = .int .i64 k ∧ o = .int .i64 (uN pre) ∧ UInv s at_ k f pre ∧ Below w.heap.size w wr) (fun _ i _ _ _ => s.size - (intOf i).toNat)
  case atStart => exact ⟨0, s.size, [], rfl, rfl, uinv_start h0, Below.refl _ _⟩
  case round =>
    obtain ⟨k, f, pre, rfl, rfl, hI, hB⟩ := hrel
    have hb := uN_bd pre
    have hpl := pre_len hI.2.2.2.1
    have hka : (k : Int) ≤ at_ := hI.2.2.1
    have hks : k ≤ s.size := hI.1
    have hu0 : 0 ≤ uN pre := by omega
    have hu1 : uN pre ≤ 2000000000 := by omega
    clear hb hpl
    by_cases hlt : k < s.size
    · by_cases he : (k : Int) = at_
      · have hE := uinv_hit hs hI hlt he
        have hbq : ((k : Int) == at_) = true := beq_iff_eq.2 he
        have HE := Lib.hid hE
        generalize uN pre = m at *
        clear hE he
        go_wp2
        go_ret2
        exact ⟨by rw [← HR.out, HE.out]; rfl, hB⟩
      · have hlt2 : (k : Int) < at_ := by omega
        have hbq : ((k : Int) == at_) = false := beq_eq_false_iff_ne.2 he
        obtain ⟨c1, c2, c3, c4, c5, c6⟩ := char_facts s k hlt
        have hRn := rrune_any (s.extract k s.size) wr
        have hU := units_any (rp (s.extract k s.size))
        have hu : 1 ≤ unt (rp (s.extract k s.size)) ∧ unt (rp (s.extract k s.size)) ≤ 2 := by unfold unt; split <;> omega
        have hpos := uinv_pos hs hI hlt hlt2 h1
        have hst := uinv_step hs hI hlt hlt2
        have hun := uN_one hlt pre
        obtain ⟨hv1, hv2⟩ := hu
        clear c4 c5 c6 he
        generalize uN pre = m at *
        generalize unt (rp (s.extract k s.size)) = x at *
        generalize rp (s.extract k s.size) = p at *
        generalize rn (s.extract k s.size) = n at *
        generalize pre ++ [(k, s.extract k (k + n))] = pre2 at *
        have HUN := Lib.hid hun
        clear hun
        by_cases hg : at_ < (k : Int) + n
        · have HP := Lib.hid (hpos hg)
          clear hpos hst
          go_wp2_with fail
          refine hRn.mono ?_
          rintro e w1 ⟨rfl, hb1⟩
          go_wp2_with fail
          refine (hU _).mono ?_
          rintro e w' ⟨rfl, rfl⟩
          go_wp2
          go_ret2
          exact ⟨by rw [← HR.out, HP.out]; rfl, hB.trans (hb1.mono hB.size)⟩
        · have HP := Lib.hid (hst (by omega))
          clear hpos hst
          go_wp2_with fail
          refine hRn.mono ?_
          rintro e w1 ⟨rfl, hb1⟩
          go_wp2_with fail
          refine (hU _).mono ?_
          rintro e w' ⟨rfl, rfl⟩
          go_wp2
          go_roundw
          case rel => exact ⟨k + n, f - 1, pre2, by go_num, by rw [HUN.out], HP.out, hB.trans (hb1.mono hB.size)⟩
          case measure => simp [intOf]; omega
    · have HE := Lib.hid (uinv_end hs hI hlt h1)
      generalize uN pre = m at *
      go_wp2
      go_ret2
      exact ⟨by rw [← HR.out, HE.out]; rfl, hB⟩
end Go.Proofs.YtffldjlgmbiplaaDoor
