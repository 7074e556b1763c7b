/-
  The walks of the reference's bits and Rune.
-/
import Derived.Test.YtfedmhccbfhcbaaGreatDoorPB
import Derived.Deep.RegionWith
namespace Go.Proofs.YtfedmhccbfhcbaaGreatDoor.Utf
open Go.RowKit

theorem Below.drewN_ {B : Nat} {a w : World} (h : Below B a w) (n : Nat) : Below B a (w.drewN n) := ⟨h.os, h.tape, h.output, h.size, h.block⟩
theorem bits_one (s : ByteArray) (w : World) (h : s.size = 1) :
    Calls Tryz.prog 43 #[.string s] w fun e w' => e = .returned (.int .i64 (s.get! 0).toNat) ∧ Below w.heap.size w w' := by
  have hb : ((s.size : Int) == 1) = true := by rw [h]; rfl
  have hn : 0 < s.size := by omega
  have hz : (0 : Int) < (s.size : Int) := by omega
  have hs0 : s[0]'hn = s.get! 0 := (get!_lt s 0 hn).symm
  have hlt := (s.get! 0).toNat_lt
  generalize s.get! 0 = x0 at hs0 hlt ⊢
  clear h
  go_enter Tryz.func43, Tryz.ntmps43
  go_wp2
  go_ret
  exact ⟨rfl, (Below.refl _ _).alloc (Nat.le_refl _) _⟩

/-- What the first k of the bytes would be of, the first one with a head taken away. -/
def bt (s : ByteArray) (head : Int) : Nat → Int
  | 0 => 0
  | 1 => (s.get! 0).toNat - head
  | k + 2 => bt s head (k + 1) * 64 + (s.get! (k + 1)).toNat - 128
theorem bt_succ (s : ByteArray) (head : Int) (k : Nat) (h : 1 ≤ k) : bt s head (k + 1) = bt s head k * 64 + (s.get! k).toNat - 128 := by
  cases k with
  | zero => omega
  | succ k => rfl
theorem bt_bd (s : ByteArray) (head : Int) (k : Nat) (h0 : 0 ≤ head) (h : head ≤ 1000) (hk : k ≤ 4) : -1000000000 ≤ bt s head k ∧ bt s head k ≤ 1000000000 := by
  have l0 := (s.get! 0).toNat_lt
  have l1 := (s.get! 1).toNat_lt
  have l2 := (s.get! 2).toNat_lt
  have l3 := (s.get! 3).toNat_lt
  have e1 : bt s head 1 = (s.get! 0).toNat - head := rfl
  have e2 : bt s head 2 = bt s head 1 * 64 + (s.get! 1).toNat - 128 := rfl
  have e3 : bt s head 3 = bt s head 2 * 64 + (s.get! 2).toNat - 128 := rfl
  have e4 : bt s head 4 = bt s head 3 * 64 + (s.get! 3).toNat - 128 := rfl
  rcases (by omega : k = 0 ∨ k = 1 ∨ k = 2 ∨ k = 3 ∨ k = 4) with rfl | rfl | rfl | rfl | rfl
  · exact ⟨by show -1000000000 ≤ (0 : Int); omega, by show (0 : Int) ≤ 1000000000; omega⟩
  all_goals omega
set_option maxRecDepth 100000 in
set_option maxHeartbeats 1600000 in
theorem bits_two (s : ByteArray) (w : World) (h : s.size = 2) :
    Calls Tryz.prog 43 #[.string s] w fun e w' => e = .returned (.int .i64 (bt s 192 2)) ∧ Below w.heap.size w w' := by
  have hb : ((s.size : Int) == 1) = false := by rw [h]; rfl
  have hn : 0 < s.size := by omega
  have hs0 : s[0]'hn = s.get! 0 := (get!_lt s 0 hn).symm
  have hlt := (s.get! 0).toNat_lt
  have HR := Lib.hid (show bt s 192 1 = ((s.get! 0).toNat : Int) - 192 from rfl)
  generalize s.get! 0 = x0 at hs0 hlt HR
  go_enter Tryz.func43, Tryz.ntmps43
  go_wp2
  go_quiet (fail)
  go_wp2
  go_loop [5, 6] (fun o i => ∃ k : Nat, 1 ≤ k ∧ k ≤ 2 ∧ i = .int .i64 k ∧ o = .int .i64 (bt s 192 k)) (fun _ i => 2 - (intOf i).toNat)
  case atStart => exact ⟨1, by omega, by omega, rfl, by rw [HR.out]⟩
  case round =>
    obtain ⟨k, hk, hk2, rfl, rfl⟩ := hrel
    clear hs0 hlt HR
    by_cases hlt : k < 2
    · have hks : k < s.size := by omega
      have hsk : s[k]'hks = s.get! k := (get!_lt s k hks).symm
      have hl2 := (s.get! k).toNat_lt
      have hB := bt_bd s 192 k (by omega) (by omega) (by omega)
      have HS := Lib.hid (bt_succ s 192 k hk)
      generalize s.get! k = xk at hsk hl2 HS
      generalize bt s 192 k = b at hB HS
      obtain ⟨hB1, hB2⟩ := hB
      go_wp2
      go_round
      case rel => exact ⟨k + 1, by omega, by omega, by go_num, by rw [HS.out]⟩
      case measure => simp [intOf]; omega
    · obtain rfl : k = 2 := by omega
      go_wp2
      go_ret
      exact ⟨rfl, Below.drewN_ ((Below.refl _ _).alloc (Nat.le_refl _) _) _⟩
set_option maxRecDepth 100000 in
set_option maxHeartbeats 1600000 in
theorem bits_three (s : ByteArray) (w : World) (h : s.size = 3) :
    Calls Tryz.prog 43 #[.string s] w fun e w' => e = .returned (.int .i64 (bt s 224 3)) ∧ Below w.heap.size w w' := by
  have hb : ((s.size : Int) == 1) = false := by rw [h]; rfl
  have hn : 0 < s.size := by omega
  have hs0 : s[0]'hn = s.get! 0 := (get!_lt s 0 hn).symm
  have hlt := (s.get! 0).toNat_lt
  have HR := Lib.hid (show bt s 224 1 = ((s.get! 0).toNat : Int) - 224 from rfl)
  generalize s.get! 0 = x0 at hs0 hlt HR
  go_enter Tryz.func43, Tryz.ntmps43
  go_wp2
  go_quiet (fail)
  go_wp2
  go_loop [5, 6] (fun o i => ∃ k : Nat, 1 ≤ k ∧ k ≤ 3 ∧ i = .int .i64 k ∧ o = .int .i64 (bt s 224 k)) (fun _ i => 3 - (intOf i).toNat)
  case atStart => exact ⟨1, by omega, by omega, rfl, by rw [HR.out]⟩
  case round =>
    obtain ⟨k, hk, hk2, rfl, rfl⟩ := hrel
    clear hs0 hlt HR
    by_cases hlt : k < 3
    · have hks : k < s.size := by omega
      have hsk : s[k]'hks = s.get! k := (get!_lt s k hks).symm
      have hl2 := (s.get! k).toNat_lt
      have hB := bt_bd s 224 k (by omega) (by omega) (by omega)
      have HS := Lib.hid (bt_succ s 224 k hk)
      generalize s.get! k = xk at hsk hl2 HS
      generalize bt s 224 k = b at hB HS
      obtain ⟨hB1, hB2⟩ := hB
      go_wp2
      go_round
      case rel => exact ⟨k + 1, by omega, by omega, by go_num, by rw [HS.out]⟩
      case measure => simp [intOf]; omega
    · obtain rfl : k = 3 := by omega
      go_wp2
      go_ret
      exact ⟨rfl, Below.drewN_ ((Below.refl _ _).alloc (Nat.le_refl _) _) _⟩
set_option maxRecDepth 100000 in
set_option maxHeartbeats 1600000 in
theorem bits_four (s : ByteArray) (w : World) (h : s.size = 4) :
    Calls Tryz.prog 43 #[.string s] w fun e w' => e = .returned (.int .i64 (bt s 240 4)) ∧ Below w.heap.size w w' := by
  have hb : ((s.size : Int) == 1) = false := by rw [h]; rfl
  have hn : 0 < s.size := by omega
  have hs0 : s[0]'hn = s.get! 0 := (get!_lt s 0 hn).symm
  have hlt := (s.get! 0).toNat_lt
  have HR := Lib.hid (show bt s 240 1 = ((s.get! 0).toNat : Int) - 240 from rfl)
  generalize s.get! 0 = x0 at hs0 hlt HR
  go_enter Tryz.func43, Tryz.ntmps43
  go_wp2
  go_quiet (fail)
  go_wp2
  go_loop [5, 6] (fun o i => ∃ k : Nat, 1 ≤ k ∧ k ≤ 4 ∧ i = .int .i64 k ∧ o = .int .i64 (bt s 240 k)) (fun _ i => 4 - (intOf i).toNat)
  case atStart => exact ⟨1, by omega, by omega, rfl, by rw [HR.out]⟩
  case round =>
    obtain ⟨k, hk, hk2, rfl, rfl⟩ := hrel
    clear hs0 hlt HR
    by_cases hlt : k < 4
    · have hks : k < s.size := by omega
      have hsk : s[k]'hks = s.get! k := (get!_lt s k hks).symm
      have hl2 := (s.get! k).toNat_lt
      have hB := bt_bd s 240 k (by omega) (by omega) (by omega)
      have HS := Lib.hid (bt_succ s 240 k hk)
      generalize s.get! k = xk at hsk hl2 HS
      generalize bt s 240 k = b at hB HS
      obtain ⟨hB1, hB2⟩ := hB
      go_wp2
      go_round
      case rel => exact ⟨k + 1, by omega, by omega, by go_num, by rw [HS.out]⟩
      case measure => simp [intOf]; omega
    · obtain rfl : k = 4 := by omega
      go_wp2
      go_ret
      exact ⟨rfl, Below.drewN_ ((Below.refl _ _).alloc (Nat.le_refl _) _) _⟩

/-- What one to four bytes would be of. -/
def bitsB (s : ByteArray) : Int := if s.size = 1 then (s.get! 0).toNat else if s.size = 2 then bt s 192 2 else if s.size = 3 then bt s 224 3 else bt s 240 4
theorem bits_any (s : ByteArray) (w : World) (h1 : 1 ≤ s.size) (h4 : s.size ≤ 4) :
    Calls Tryz.prog 43 #[.string s] w fun e w' => e = .returned (.int .i64 (bitsB s)) ∧ Below w.heap.size w w' := by
  rcases (by omega : s.size = 1 ∨ s.size = 2 ∨ s.size = 3 ∨ s.size = 4) with h | h | h | h
  · rw [show bitsB s = (s.get! 0).toNat by simp [bitsB, h]]; exact bits_one s w h
  · rw [show bitsB s = bt s 192 2 by simp [bitsB, h]]; exact bits_two s w h
  · rw [show bitsB s = bt s 224 3 by simp [bitsB, h]]; exact bits_three s w h
  · rw [show bitsB s = bt s 240 4 by simp [bitsB, h]]; exact bits_four s w h

/-- The first k bytes are those of a code point. -/
def cand (s : ByteArray) (k : Nat) : Bool := decide (0 ≤ bitsB (s.extract 0 k)) && (putB (bitsB (s.extract 0 k))).toList == (s.extract 0 k).toList
/-- The reference's first character, from k bytes on. -/
def rf (s : ByteArray) : Nat → Nat → Int × Nat
  | 0, _ => (-1, 1)
  | f + 1, k => if k ≤ s.size then (if cand s k then (bitsB (s.extract 0 k), k) else rf s f (k + 1)) else (-1, 1)
def rfAll (s : ByteArray) : Int × Nat := if s.size = 0 then (-1, 0) else rf s 4 1

set_option maxRecDepth 100000 in
set_option maxHeartbeats 1600000 in
theorem rrune_some (s : ByteArray) (w : World) (hs : 0 < s.size) :
    Calls Tryz.prog 27 #[.string s] w fun e w' => e = .returned (.tuple #[.int .i64 (rf s 4 1).1, .int .i64 (rf s 4 1).2]) ∧ Below w.heap.size w w' := by
  have hne : s.toList.isEmpty = false := by
    rw [Lib.toList_data]
    cases h : s.data.toList with
    | nil => exact absurd (by rw [Lib.size_eq, h]; rfl) (Nat.ne_of_gt hs)
    | cons _ _ => rfl
  obtain ⟨R, hR⟩ : ∃ R, rf s 4 1 = R := ⟨_, rfl⟩
  rw [hR]
  have H0 := Lib.hid hR
  clear hR
  go_enter Tryz.func27, Tryz.ntmps27
  go_wp2
  go_loopw [4, 5] (fun i _ wr => ∃ k f : Nat, 1 ≤ k ∧ k + f = 5 ∧ i = .int .i64 k ∧ R = rf s f k ∧ Below w.heap.size w wr) (fun i _ _ => 5 - (intOf i).toNat)
  case atStart => exact ⟨1, 4, by omega, by omega, rfl, H0.out.symm, Below.refl _ _⟩
  case round =>
    obtain ⟨k, f, hk, hkf, rfl, hr, hB⟩ := hrel
    by_cases h4 : k ≤ 4
    · by_cases hl : k ≤ s.size
      · obtain ⟨f, rfl⟩ : ∃ f', f = f' + 1 := ⟨f - 1, by omega⟩
        have hsz : (s.extract 0 k).size = k := by simp; omega
        have hbits := bits_any (s.extract 0 k) wr (by omega) (by omega)
        rw [rf, if_pos hl] at hr
        have hcd : cand s k = (decide (0 ≤ bitsB (s.extract 0 k)) && (putB (bitsB (s.extract 0 k))).toList == (s.extract 0 k).toList) := rfl
        clear hsz
        generalize bitsB (s.extract 0 k) = p at hbits hr hcd
        by_cases hp : 0 ≤ p
        · have hput := rput_any p
          cases hq : ((putB p).toList == (s.extract 0 k).toList)
          · rw [hq, Bool.and_false] at hcd
            rw [hcd] at hr
            have HR := Lib.hid hr
            generalize putB p = q at hput hq
            clear hr hcd
            go_wp2_with fail
            refine hbits.mono ?_
            rintro e w1 ⟨rfl, hb1⟩
            go_wp2_with fail
            go_region_with (go_at_call 44; refine (hput _).mono ?_; rintro e w2 ⟨rfl, hb2⟩)
            all_goals go_wp2
            all_goals go_roundw
            case rel => exact ⟨k + 1, f, by omega, by omega, by go_num, HR.out, (hB.trans (hb1.mono hB.size)).drew.trans (hb2.mono (Nat.le_trans hB.size hb1.size))⟩
            case measure => simp [intOf]; omega
          · rw [hq, Bool.and_true, decide_eq_true hp] at hcd
            rw [hcd] at hr
            have HR := Lib.hid hr
            generalize putB p = q at hput hq
            clear hr hcd
            go_wp2_with fail
            refine hbits.mono ?_
            rintro e w1 ⟨rfl, hb1⟩
            go_wp2_with fail
            go_region_with (go_at_call 44; refine (hput _).mono ?_; rintro e w2 ⟨rfl, hb2⟩)
            all_goals go_wp2
            all_goals go_ret2
            all_goals exact ⟨by rw [HR.out]; rfl, (hB.trans (hb1.mono hB.size)).drew.trans (hb2.mono (Nat.le_trans hB.size hb1.size))⟩
        · have hpd : decide (0 ≤ p) = false := decide_eq_false hp
          rw [hpd, Bool.false_and] at hcd
          rw [hcd] at hr
          have HR := Lib.hid hr
          clear hr hcd
          go_wp2_with fail
          refine hbits.mono ?_
          rintro e w1 ⟨rfl, hb1⟩
          go_wp2_with fail
          go_quiet (fail)
          go_wp2
          go_roundw
          case rel => exact ⟨k + 1, f, by omega, by omega, by go_num, HR.out, Below.drewN_ (hB.trans (hb1.mono hB.size)) _⟩
          case measure => simp [intOf]; omega
      · obtain ⟨f, rfl⟩ : ∃ f', f = f' + 1 := ⟨f - 1, by omega⟩
        rw [rf, if_neg hl] at hr
        have HR := Lib.hid hr
        clear hr
        go_wp2
        go_ret2
        exact ⟨by rw [HR.out]; rfl, hB⟩
    · obtain rfl : f = 0 := by omega
      have HR := Lib.hid hr
      clear hr
      go_wp2
      go_ret2
      exact ⟨by rw [HR.out]; rfl, hB⟩

theorem rrune_none (s : ByteArray) (w : World) (hs : s.size = 0) :
    Calls Tryz.prog 27 #[.string s] w fun e w' => e = .returned (.tuple #[.int .i64 (-1), .int .i64 0]) ∧ Below w.heap.size w w' := by
  have hne : s.toList.isEmpty = true := by
    rw [Lib.toList_data]
    have : s.data.toList = [] := List.eq_nil_of_length_eq_zero (by rw [← Lib.size_eq]; exact hs)
    rw [this]; rfl
  clear hs
  go_enter Tryz.func27, Tryz.ntmps27
  go_wp2
  go_ret2
  exact ⟨rfl, Below.refl _ _⟩
theorem rrune_rf (s : ByteArray) (w : World) :
    Calls Tryz.prog 27 #[.string s] w fun e w' => e = .returned (.tuple #[.int .i64 (rfAll s).1, .int .i64 (rfAll s).2]) ∧ Below w.heap.size w w' := by
  by_cases h : s.size = 0
  · rw [show rfAll s = (-1, 0) by simp [rfAll, h]]
    exact rrune_none s w h
  · rw [show rfAll s = rf s 4 1 by simp [rfAll, h]]
    exact rrune_some s w (by omega)
end Go.Proofs.YtfedmhccbfhcbaaGreatDoor.Utf
