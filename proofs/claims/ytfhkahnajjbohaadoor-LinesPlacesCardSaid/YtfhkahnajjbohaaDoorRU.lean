/-
  The reference: Units, edge.
-/
import Derived.Test.YtfhkahnajjbohaaDoorZ2
import Derived.Test.YtfhkahnajjbohaaDoorX
namespace Go.Proofs.YtfhkahnajjbohaaDoor
open Go.RowKit Go.Shelf

set_option maxHeartbeats 2000000 in
theorem runits_ok (t : ByteArray) (c : Nat) (w : World) (hs : t.size ≤ 1000000) (hw : Wy t 0 t.size c) :
    Calls Tryd.prog 33 #[.string t] w fun e w' => e = .returned (.int .i64 c) ∧ w = w' := by
  have hcz : c ≤ 2 * t.size := by
    have : ∀ {i j d : Nat}, Wy t i j d → d ≤ 2 * (j - i) := fun h => by
      induction h with
      | stay => omega
      | go i n v j d hc hw ih => have := hc.fits; have := hw.le; omega
    have := this hw
    omega
  have HW := Lib.hid hw
  clear hw
  go_enter Tryd.func33, Tryd.ntmps33
  go_wp2
  go_loop [3, 4] (fun u i => ∃ k d e : Nat, u = .int .i64 d ∧ i = .int .i64 k ∧ Hid (Wy t k t.size e) ∧ c = d + e ∧ k ≤ t.size) (fun _ i => t.size - (intOf i).toNat)
  case atStart => exact ⟨0, 0, c, rfl, rfl, HW, by omega, by omega⟩
  case round =>
    obtain ⟨k, d, e, rfl, rfl, HE, hc, hk⟩ := hrel
    by_cases hlt : k < t.size
    · obtain ⟨n, v, e2, hch, he2, hee⟩ : ∃ n v e2, Ch t k n v ∧ Wy t (k + n) t.size e2 ∧ e = v + e2 := by
        have h := HE.out
        cases h with
        | stay => omega
        | go _ n v _ e2 h1 h2 => exact ⟨n, v, e2, h1, h2, rfl⟩
      have cs := size_ch t k n v w hlt (by omega) hch
      have hf := hch.fits
      have hnv : (n = 1 ∧ v = 1) ∨ (n = 2 ∧ v = 1) ∨ (n = 3 ∧ v = 1) ∨ (n = 4 ∧ v = 2) := by
        rcases hch with h | h | h | h
        · exact .inl ⟨h.1, h.2.1⟩
        · exact .inr (.inl ⟨h.1, h.2.1⟩)
        · exact .inr (.inr (.inl ⟨h.1, h.2.1⟩))
        · exact .inr (.inr (.inr ⟨h.1, h.2.1⟩))
      have HE2 := Lib.hid he2
      clear hch he2 HE HW
      rcases hnv with ⟨rfl, rfl⟩ | ⟨rfl, rfl⟩ | ⟨rfl, rfl⟩ | ⟨rfl, rfl⟩
      · have HEE := Lib.hid hee
        clear hee
        have hdc : d + 2 ≤ 2000002 := by have := HEE.out; omega
        have HC := Lib.hid hc
        clear hc
        go_wp2_with fail
        refine cs.mono ?_
        rintro e' w1 ⟨rfl, rfl⟩
        clear cs
        go_wp2
        go_round
        case rel => exact ⟨k + 1, d + 1, e2, by go_num, by go_num, HE2, by have := HEE.out; have := HC.out; omega, by omega⟩
        case measure => simp [intOf]; omega
      · have HEE := Lib.hid hee
        clear hee
        have hdc : d + 2 ≤ 2000002 := by have := HEE.out; omega
        have HC := Lib.hid hc
        clear hc
        go_wp2_with fail
        refine cs.mono ?_
        rintro e' w1 ⟨rfl, rfl⟩
        clear cs
        go_wp2
        go_round
        case rel => exact ⟨k + 2, d + 1, e2, by go_num, by go_num, HE2, by have := HEE.out; have := HC.out; omega, by omega⟩
        case measure => simp [intOf]; omega
      · have HEE := Lib.hid hee
        clear hee
        have hdc : d + 2 ≤ 2000002 := by have := HEE.out; omega
        have HC := Lib.hid hc
        clear hc
        go_wp2_with fail
        refine cs.mono ?_
        rintro e' w1 ⟨rfl, rfl⟩
        clear cs
        go_wp2
        go_round
        case rel => exact ⟨k + 3, d + 1, e2, by go_num, by go_num, HE2, by have := HEE.out; have := HC.out; omega, by omega⟩
        case measure => simp [intOf]; omega
      · have HEE := Lib.hid hee
        clear hee
        have hdc : d + 2 ≤ 2000002 := by have := HEE.out; omega
        have HC := Lib.hid hc
        clear hc
        go_wp2_with fail
        refine cs.mono ?_
        rintro e' w1 ⟨rfl, rfl⟩
        clear cs
        go_wp2
        go_round
        case rel => exact ⟨k + 4, d + 2, e2, by go_num, by go_num, HE2, by have := HEE.out; have := HC.out; omega, by omega⟩
        case measure => simp [intOf]; omega
    · obtain rfl : k = t.size := by omega
      have h0 := HE.out.units.2 rfl
      subst h0
      have HC := Lib.hid hc
      clear hc
      go_wp2
      go_ret
      exact ⟨by rw [HC.out]; rfl, rfl⟩

set_option maxHeartbeats 2000000 in
theorem redge_ok (s : ByteArray) (k : Nat) (w : World) (hs : s.size ≤ 1000000) (hv : validS s = true) (hk : k ≤ s.size) :
    Calls Tryd.prog 32 #[.string s, .int .i64 k] w fun e w' => e = .returned (.bool (!inB s k)) ∧ w = w' := by
  obtain ⟨c, hw⟩ := (valid_wy s).1 hv
  have HV := Lib.hid hw
  clear hw hv
  go_enter Tryd.func32, Tryd.ntmps32
  go_wp2
  go_loop [5] (fun i => ∃ j : Nat, i = .int .i64 j ∧ j ≤ s.size ∧ Hid (∃ e, Wy s j s.size e) ∧ Hid (j ≤ k ∨ inB s k = true)) (fun i => s.size - (intOf i).toNat)
  case atStart => exact ⟨0, rfl, by omega, Lib.hid ⟨c, HV.out⟩, Lib.hid (.inl (Nat.zero_le _))⟩
  case round =>
    obtain ⟨j, rfl, hj, HE, HK⟩ := hrel
    by_cases hlt : j < k
    · have hjs : j < s.size := by omega
      obtain ⟨n, v, e2, hch, he2⟩ : ∃ n v e2, Ch s j n v ∧ Wy s (j + n) s.size e2 := by
        obtain ⟨e, h⟩ := HE.out
        cases h with
        | stay => omega
        | go _ n v _ e2 h1 h2 => exact ⟨n, v, e2, h1, h2⟩
      have cs := size_ch s j n v w hjs (by omega) hch
      have hf := hch.fits
      have HN : Hid (j + n ≤ k ∨ inB s k = true) := Lib.hid (by
        by_cases h : j + n ≤ k
        · exact .inl h
        · right
          rw [inB, decide_eq_true (by omega : k < s.size), Bool.true_and, cont_bt]
          exact hch.later k hlt (by omega))
      have hmx : max (n : Int) 1 = n := by omega
      have HE2 : Hid (∃ e, Wy s (j + n) s.size e) := Lib.hid ⟨e2, he2⟩
      clear hch he2 HE HK HV
      go_wp2_with fail
      refine cs.mono ?_
      rintro e' w1 ⟨rfl, rfl⟩
      clear cs
      go_wp2
      go_round
      case rel => exact ⟨j + n, by rw [show ((j + n : Nat) : Int) = (j : Int) + n by omega], by omega, HE2, HN⟩
      case measure => simp [intOf]; omega
    · have hr : ((j : Int) == (k : Int)) = !inB s k := by
        rcases HK.out with h | h
        · obtain rfl : j = k := by omega
          obtain ⟨e, he⟩ := HE.out
          rw [he.begins]
          exact beq_self_eq_true _
        · rw [h, Bool.not_true, beq_eq_false_iff_ne]
          intro hjk
          obtain rfl : j = k := by omega
          obtain ⟨e, he⟩ := HE.out
          rw [he.begins] at h
          cases h
      have HR := Lib.hid hr
      clear hr HE HK HV
      go_wp2
      go_ret
      exact ⟨congrArg (fun b => Ending.returned (.bool b)) HR.out, rfl⟩
end Go.Proofs.YtfhkahnajjbohaaDoor
