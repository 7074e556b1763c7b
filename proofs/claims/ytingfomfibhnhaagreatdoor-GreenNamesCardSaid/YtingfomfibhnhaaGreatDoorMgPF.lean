/-
  The walks of the reference's bits and Rune.
  Plain facts on code points and their bytes (no program): what decodeN answers; which bytes putB makes.
  The reference's first character is what the decoder answers.
  Plain facts on the characters of a text: their widths, their places, the sums of their units.
  The walks of the reference's Valid, Len16, Unit, Byte.
  Plain facts: a character ahead of other bytes stays itself; what is put is read; the characters of two texts, one behind the other.
-/
import Derived.Test.YtingfomfibhnhaaGreatDoorMgPA
import Derived.Deep.RegionWith
namespace Go.Proofs.YtingfomfibhnhaaGreatDoor.Utf
open Go.RowKit

theorem Below.drewN_ {B : Nat} {a w : World} (h : Below B a w) (n : Nat) : Below B a (w.drewN n) := ⟨h.os, h.tape, h.output, h.size, h.block⟩
theorem bits_one (s : ByteArray) (w : World) (h : s.size = 1) :
    Calls Tryz.prog 91 #[.string s] w fun e w' => e = .returned (.int .i64 (s.get! 0).toNat) ∧ Below w.heap.size w w' := by
  have hb : ((s.size : Int) == 1) = true := by rw [h]; rfl
  have hn : 0 < s.size := by omega
  have hz : (0 : Int) < (s.size : Int) := by omega
  have hs0 : s[0]'hn = s.get! 0 := (get!_lt s 0 hn).symm
  have hlt := (s.get! 0).toNat_lt
  generalize s.get! 0 = x0 at hs0 hlt ⊢
  clear h
  go_enter Tryz.func91, Tryz.ntmps91
  go_wp2
  go_ret
  exact ⟨rfl, (Below.refl _ _).alloc (Nat.le_refl _) _⟩

/-- What the first k of the bytes would be of, the first one with a head taken away. -/
def bt (s : ByteArray) (head : Int) : Nat → Int
  | 0 => 0
  | 1 => (s.get! 0).toNat - head
  | k + 2 => bt s head (k + 1) * 64 + (s.get! (k + 1)).toNat - 128
theorem bt_succ (s : ByteArray) (head : Int) (k : Nat) (h : 1 ≤ k) : bt s head (k + 1) = bt s head k * 64 + (s.get! k).toNat - 128 := by
  cases k with
  | zero => omega
  | succ k => rfl
theorem bt_bd (s : ByteArray) (head : Int) (k : Nat) (h0 : 0 ≤ head) (h : head ≤ 1000) (hk : k ≤ 4) : -1000000000 ≤ bt s head k ∧ bt s head k ≤ 1000000000 := by
  have l0 := (s.get! 0).toNat_lt
  have l1 := (s.get! 1).toNat_lt
  have l2 := (s.get! 2).toNat_lt
  have l3 := (s.get! 3).toNat_lt
  have e1 : bt s head 1 = (s.get! 0).toNat - head := rfl
  have e2 : bt s head 2 = bt s head 1 * 64 + (s.get! 1).toNat - 128 := rfl
  have e3 : bt s head 3 = bt s head 2 * 64 + (s.get! 2).toNat - 128 := rfl
  have e4 : bt s head 4 = bt s head 3 * 64 + (s.get! 3).toNat - 128 := rfl
  rcases (by omega : k = 0 ∨ k = 1 ∨ k = 2 ∨ k = 3 ∨ k = 4) with rfl | rfl | rfl | rfl | rfl
  · exact ⟨by show -1000000000 ≤ (0 : Int); omega, by show (0 : Int) ≤ 1000000000; omega⟩
  all_goals omega
set_option maxRecDepth 100000 in
set_option maxHeartbeats 1600000 in
theorem bits_two (s : ByteArray) (w : World) (h : s.size = 2) :
    Calls Tryz.prog 91 #[.string s] w fun e w' => e = .returned (.int .i64 (bt s 192 2)) ∧ Below w.heap.size w w' := by
  have hb : ((s.size : Int) == 1) = false := by rw [h]; rfl
  have hn : 0 < s.size := by omega
  have hs0 : s[0]'hn = s.get! 0 := (get!_lt s 0 hn).symm
  have hlt := (s.get! 0).toNat_lt
  have HR := Lib.hid (show bt s 192 1 = ((s.get! 0).toNat : Int) - 192 from rfl)
  generalize s.get! 0 = x0 at hs0 hlt HR
  go_enter Tryz.func91, Tryz.ntmps91
  go_wp2
  go_quiet (fail)
  go_wp2
  go_loop [5, 6] (fun o i => ∃ k : Nat, 1 ≤ k ∧ k ≤ 2 ∧ i = .int .i64 k ∧ o = .int .i64 (bt s 192 k)) (fun _ i => 2 - (intOf i).toNat)
  case atStart => exact ⟨1, by omega, by omega, rfl, by rw [HR.out]⟩
  case round =>
    obtain ⟨k, hk, hk2, rfl, rfl⟩ := hrel
    clear hs0 hlt HR
    by_cases hlt : k < 2
    · have hks : k < s.size := by omega
      have hsk : s[k]'hks = s.get! k := (get!_lt s k hks).symm
      have hl2 := (s.get! k).toNat_lt
      have hB := bt_bd s 192 k (by omega) (by omega) (by omega)
      have HS := Lib.hid (bt_succ s 192 k hk)
      generalize s.get! k = xk at hsk hl2 HS
      generalize bt s 192 k = b at hB HS
      obtain ⟨hB1, hB2⟩ := hB
      go_wp2
      go_round
      case rel => exact ⟨k + 1, by omega, by omega, by go_num, by rw [HS.out]⟩
      case measure => simp [intOf]; omega
    · obtain rfl : k = 2 := by omega
      go_wp2
      go_ret
      exact ⟨rfl, Below.drewN_ ((Below.refl _ _).alloc (Nat.le_refl _) _) _⟩
set_option maxRecDepth 100000 in
set_option maxHeartbeats 1600000 in
theorem bits_three (s : ByteArray) (w : World) (h : s.size = 3) :
    Calls Tryz.prog 91 #[.string s] w fun e w' => e = .returned (.int .i64 (bt s 224 3)) ∧ Below w.heap.size w w' := by
  have hb : ((s.size : Int) == 1) = false := by rw [h]; rfl
  have hn : 0 < s.size := by omega
  have hs0 : s[0]'hn = s.get! 0 := (get!_lt s 0 hn).symm
  have hlt := (s.get! 0).toNat_lt
  have HR := Lib.hid (show bt s 224 1 = ((s.get! 0).toNat : Int) - 224 from rfl)
  generalize s.get! 0 = x0 at hs0 hlt HR
  go_enter Tryz.func91, Tryz.ntmps91
  go_wp2
  go_quiet (fail)
  go_wp2
  go_loop [5, 6] (fun o i => ∃ k : Nat, 1 ≤ k ∧ k ≤ 3 ∧ i = .int .i64 k ∧ o = .int .i64 (bt s 224 k)) (fun _ i => 3 - (intOf i).toNat)
  case atStart => exact ⟨1, by omega, by omega, rfl, by rw [HR.out]⟩
  case round =>
    obtain ⟨k, hk, hk2, rfl, rfl⟩ := hrel
    clear hs0 hlt HR
    by_cases hlt : k < 3
    · have hks : k < s.size := by omega
      have hsk : s[k]'hks = s.get! k := (get!_lt s k hks).symm
      have hl2 := (s.get! k).toNat_lt
      have hB := bt_bd s 224 k (by omega) (by omega) (by omega)
      have HS := Lib.hid (bt_succ s 224 k hk)
      generalize s.get! k = xk at hsk hl2 HS
      generalize bt s 224 k = b at hB HS
      obtain ⟨hB1, hB2⟩ := hB
      go_wp2
      go_round
      case rel => exact ⟨k + 1, by omega, by omega, by go_num, by rw [HS.out]⟩
      case measure => simp [intOf]; omega
    · obtain rfl : k = 3 := by omega
      go_wp2
      go_ret
      exact ⟨rfl, Below.drewN_ ((Below.refl _ _).alloc (Nat.le_refl _) _) _⟩
set_option maxRecDepth 100000 in
set_option maxHeartbeats 1600000 in
theorem bits_four (s : ByteArray) (w : World) (h : s.size = 4) :
    Calls Tryz.prog 91 #[.string s] w fun e w' => e = .returned (.int .i64 (bt s 240 4)) ∧ Below w.heap.size w w' := by
  have hb : ((s.size : Int) == 1) = false := by rw [h]; rfl
  have hn : 0 < s.size := by omega
  have hs0 : s[0]'hn = s.get! 0 := (get!_lt s 0 hn).symm
  have hlt := (s.get! 0).toNat_lt
  have HR := Lib.hid (show bt s 240 1 = ((s.get! 0).toNat : Int) - 240 from rfl)
  generalize s.get! 0 = x0 at hs0 hlt HR
  go_enter Tryz.func91, Tryz.ntmps91
  go_wp2
  go_quiet (fail)
  go_wp2
  go_loop [5, 6] (fun o i => ∃ k : Nat, 1 ≤ k ∧ k ≤ 4 ∧ i = .int .i64 k ∧ o = .int .i64 (bt s 240 k)) (fun _ i => 4 - (intOf i).toNat)
  case atStart => exact ⟨1, by omega, by omega, rfl, by rw [HR.out]⟩
  case round =>
    obtain ⟨k, hk, hk2, rfl, rfl⟩ := hrel
    clear hs0 hlt HR
    by_cases hlt : k < 4
    · have hks : k < s.size := by omega
      have hsk : s[k]'hks = s.get! k := (get!_lt s k hks).symm
      have hl2 := (s.get! k).toNat_lt
      have hB := bt_bd s 240 k (by omega) (by omega) (by omega)
      have HS := Lib.hid (bt_succ s 240 k hk)
      generalize s.get! k = xk at hsk hl2 HS
      generalize bt s 240 k = b at hB HS
      obtain ⟨hB1, hB2⟩ := hB
      go_wp2
      go_round
      case rel => exact ⟨k + 1, by omega, by omega, by go_num, by rw [HS.out]⟩
      case measure => simp [intOf]; omega
    · obtain rfl : k = 4 := by omega
      go_wp2
      go_ret
      exact ⟨rfl, Below.drewN_ ((Below.refl _ _).alloc (Nat.le_refl _) _) _⟩

/-- What one to four bytes would be of. -/
def bitsB (s : ByteArray) : Int := if s.size = 1 then (s.get! 0).toNat else if s.size = 2 then bt s 192 2 else if s.size = 3 then bt s 224 3 else bt s 240 4
theorem bits_any (s : ByteArray) (w : World) (h1 : 1 ≤ s.size) (h4 : s.size ≤ 4) :
    Calls Tryz.prog 91 #[.string s] w fun e w' => e = .returned (.int .i64 (bitsB s)) ∧ Below w.heap.size w w' := by
  rcases (by omega : s.size = 1 ∨ s.size = 2 ∨ s.size = 3 ∨ s.size = 4) with h | h | h | h
  · rw [show bitsB s = (s.get! 0).toNat by simp [bitsB, h]]; exact bits_one s w h
  · rw [show bitsB s = bt s 192 2 by simp [bitsB, h]]; exact bits_two s w h
  · rw [show bitsB s = bt s 224 3 by simp [bitsB, h]]; exact bits_three s w h
  · rw [show bitsB s = bt s 240 4 by simp [bitsB, h]]; exact bits_four s w h

/-- The first k bytes are those of a code point. -/
def cand (s : ByteArray) (k : Nat) : Bool := decide (0 ≤ bitsB (s.extract 0 k)) && (putB (bitsB (s.extract 0 k))).toList == (s.extract 0 k).toList
/-- The reference's first character, from k bytes on. -/
def rf (s : ByteArray) : Nat → Nat → Int × Nat
  | 0, _ => (-1, 1)
  | f + 1, k => if k ≤ s.size then (if cand s k then (bitsB (s.extract 0 k), k) else rf s f (k + 1)) else (-1, 1)
def rfAll (s : ByteArray) : Int × Nat := if s.size = 0 then (-1, 0) else rf s 4 1

set_option maxRecDepth 100000 in
set_option maxHeartbeats 1600000 in
theorem rrune_some (s : ByteArray) (w : World) (hs : 0 < s.size) :
    Calls Tryz.prog 70 #[.string s] w fun e w' => e = .returned (.tuple #[.int .i64 (rf s 4 1).1, .int .i64 (rf s 4 1).2]) ∧ Below w.heap.size w w' := by
  have hne : s.toList.isEmpty = false := by
    rw [Lib.toList_data]
    cases h : s.data.toList with
    | nil => exact absurd (by rw [Lib.size_eq, h]; rfl) (Nat.ne_of_gt hs)
    | cons _ _ => rfl
  obtain ⟨R, hR⟩ : ∃ R, rf s 4 1 = R := ⟨_, rfl⟩
  rw [hR]
  have H0 := Lib.hid hR
  clear hR
  go_enter Tryz.func70, Tryz.ntmps70
  go_wp2
  go_loopw [4, 5] (fun i _ wr => ∃ k f : Nat, 1 ≤ k ∧ k + f = 5 ∧ i = .int .i64 k ∧ R = rf s f k ∧ Below w.heap.size w wr) (fun i _ _ => 5 - (intOf i).toNat)
  case atStart => exact ⟨1, 4, by omega, by omega, rfl, H0.out.symm, Below.refl _ _⟩
  case round =>
    obtain ⟨k, f, hk, hkf, rfl, hr, hB⟩ := hrel
    by_cases h4 : k ≤ 4
    · by_cases hl : k ≤ s.size
      · obtain ⟨f, rfl⟩ : ∃ f', f = f' + 1 := ⟨f - 1, by omega⟩
        have hsz : (s.extract 0 k).size = k := by simp; omega
        have hbits := bits_any (s.extract 0 k) wr (by omega) (by omega)
        rw [rf, if_pos hl] at hr
        have hcd : cand s k = (decide (0 ≤ bitsB (s.extract 0 k)) && (putB (bitsB (s.extract 0 k))).toList == (s.extract 0 k).toList) := rfl
        clear hsz
        generalize bitsB (s.extract 0 k) = p at hbits hr hcd
        by_cases hp : 0 ≤ p
        · have hput := rput_any p
          cases hq : ((putB p).toList == (s.extract 0 k).toList)
          · rw [hq, Bool.and_false] at hcd
            rw [hcd] at hr
            have HR := Lib.hid hr
            generalize putB p = q at hput hq
            clear hr hcd
            go_wp2_with fail
            refine hbits.mono ?_
            rintro e w1 ⟨rfl, hb1⟩
            go_wp2_with fail
            go_region_with (go_at_call 92; refine (hput _).mono ?_; rintro e w2 ⟨rfl, hb2⟩)
            all_goals go_wp2
            all_goals go_roundw
            case rel => exact ⟨k + 1, f, by omega, by omega, by go_num, HR.out, (hB.trans (hb1.mono hB.size)).drew.trans (hb2.mono (Nat.le_trans hB.size hb1.size))⟩
            case measure => simp [intOf]; omega
          · rw [hq, Bool.and_true, decide_eq_true hp] at hcd
            rw [hcd] at hr
            have HR := Lib.hid hr
            generalize putB p = q at hput hq
            clear hr hcd
            go_wp2_with fail
            refine hbits.mono ?_
            rintro e w1 ⟨rfl, hb1⟩
            go_wp2_with fail
            go_region_with (go_at_call 92; refine (hput _).mono ?_; rintro e w2 ⟨rfl, hb2⟩)
            all_goals go_wp2
            all_goals go_ret2
            all_goals exact ⟨by rw [HR.out]; rfl, (hB.trans (hb1.mono hB.size)).drew.trans (hb2.mono (Nat.le_trans hB.size hb1.size))⟩
        · have hpd : decide (0 ≤ p) = false := decide_eq_false hp
          rw [hpd, Bool.false_and] at hcd
          rw [hcd] at hr
          have HR := Lib.hid hr
          clear hr hcd
          go_wp2_with fail
          refine hbits.mono ?_
          rintro e w1 ⟨rfl, hb1⟩
          go_wp2_with fail
          go_quiet (fail)
          go_wp2
          go_roundw
          case rel => exact ⟨k + 1, f, by omega, by omega, by go_num, HR.out, Below.drewN_ (hB.trans (hb1.mono hB.size)) _⟩
          case measure => simp [intOf]; omega
      · obtain ⟨f, rfl⟩ : ∃ f', f = f' + 1 := ⟨f - 1, by omega⟩
        rw [rf, if_neg hl] at hr
        have HR := Lib.hid hr
        clear hr
        go_wp2
        go_ret2
        exact ⟨by rw [HR.out]; rfl, hB⟩
    · obtain rfl : f = 0 := by omega
      have HR := Lib.hid hr
      clear hr
      go_wp2
      go_ret2
      exact ⟨by rw [HR.out]; rfl, hB⟩

theorem rrune_none (s : ByteArray) (w : World) (hs : s.size = 0) :
    Calls Tryz.prog 70 #[.string s] w fun e w' => e = .returned (.tuple #[.int .i64 (-1), .int .i64 0]) ∧ Below w.heap.size w w' := by
  have hne : s.toList.isEmpty = true := by
    rw [Lib.toList_data]
    have : s.data.toList = [] := List.eq_nil_of_length_eq_zero (by rw [← Lib.size_eq]; exact hs)
    rw [this]; rfl
  clear hs
  go_enter Tryz.func70, Tryz.ntmps70
  go_wp2
  go_ret2
  exact ⟨rfl, Below.refl _ _⟩
theorem rrune_rf (s : ByteArray) (w : World) :
    Calls Tryz.prog 70 #[.string s] w fun e w' => e = .returned (.tuple #[.int .i64 (rfAll s).1, .int .i64 (rfAll s).2]) ∧ Below w.heap.size w w' := by
  by_cases h : s.size = 0
  · rw [show rfAll s = (-1, 0) by simp [rfAll, h]]
    exact rrune_none s w h
  · rw [show rfAll s = rf s 4 1 by simp [rfAll, h]]
    exact rrune_some s w (by omega)
end Go.Proofs.YtingfomfibhnhaaGreatDoor.Utf
namespace Go.Proofs.YtingfomfibhnhaaGreatDoor.Utf

/-- The bytes of a code point, as numbers. -/
def putN (p : Int) : List Nat :=
  if p < 0 ∨ 1114111 < p ∨ (55296 ≤ p ∧ p ≤ 57343) then []
  else if p < 128 then [p.toNat]
  else if p < 2048 then [192 + p.toNat / 64, 128 + p.toNat % 64]
  else if p < 65536 then [224 + p.toNat / 4096, 128 + p.toNat / 64 % 64, 128 + p.toNat % 64]
  else [240 + p.toNat / 262144, 128 + p.toNat / 4096 % 64, 128 + p.toNat / 64 % 64, 128 + p.toNat % 64]
theorem toNat_ofNat8 (n : Nat) (h : n < 256) : (UInt8.ofNat n).toNat = n := by
  simp [UInt8.toNat_ofNat']; omega
theorem putB_toList (p : Int) : (putB p).data.toList.map (·.toNat) = putN p := by
  rcases (by omega : (p < 0 ∨ 1114111 < p ∨ (55296 ≤ p ∧ p ≤ 57343)) ∨ (0 ≤ p ∧ p < 128) ∨ (128 ≤ p ∧ p < 2048) ∨ (2048 ≤ p ∧ p < 65536 ∧ (p < 55296 ∨ 57343 < p)) ∨ (65536 ≤ p ∧ p ≤ 1114111)) with h | ⟨h, h2⟩ | ⟨h, h2⟩ | ⟨h, h2, h3⟩ | ⟨h, h2⟩
  · rw [show putB p = ⟨#[]⟩ by simp [putB, isPt_no (n := p) (by omega)], putN, if_pos h]; rfl
  · rw [put_eq1 p h h2, putN, if_neg (by omega), if_pos h2]
    simp only [strOfNums, List.map_cons, List.map_nil]
    rw [toNat_ofNat8 _ (by omega)]
  · rw [put_eq2 p h h2, putN, if_neg (by omega), if_neg (by omega), if_pos h2]
    simp only [strOfNums, List.map_cons, List.map_nil]
    rw [toNat_ofNat8 _ (by omega), toNat_ofNat8 _ (by omega), show (192 + p / 64).toNat = 192 + p.toNat / 64 by omega, show (128 + p % 64).toNat = 128 + p.toNat % 64 by omega]
  · rw [put_eq3 p h h2 h3, putN, if_neg (by omega), if_neg (by omega), if_neg (by omega), if_pos h2]
    simp only [strOfNums, List.map_cons, List.map_nil]
    rw [toNat_ofNat8 _ (by omega), toNat_ofNat8 _ (by omega), toNat_ofNat8 _ (by omega), show (224 + p / 4096).toNat = 224 + p.toNat / 4096 by omega, show (128 + p / 64 % 64).toNat = 128 + p.toNat / 64 % 64 by omega, show (128 + p % 64).toNat = 128 + p.toNat % 64 by omega]
  · rw [put_eq4 p h h2, putN, if_neg (by omega), if_neg (by omega), if_neg (by omega), if_neg (by omega)]
    simp only [strOfNums, List.map_cons, List.map_nil]
    rw [toNat_ofNat8 _ (by omega), toNat_ofNat8 _ (by omega), toNat_ofNat8 _ (by omega), toNat_ofNat8 _ (by omega), show (240 + p / 262144).toNat = 240 + p.toNat / 262144 by omega, show (128 + p / 4096 % 64).toNat = 128 + p.toNat / 4096 % 64 by omega, show (128 + p / 64 % 64).toNat = 128 + p.toNat / 64 % 64 by omega, show (128 + p % 64).toNat = 128 + p.toNat % 64 by omega]

/-- The four kinds of bytes that are a code point's. -/
def K2 (n a b : Nat) : Prop := 2 ≤ n ∧ 194 ≤ a ∧ a < 224 ∧ 128 ≤ b ∧ b < 192
def K3 (n a b c : Nat) : Prop := 3 ≤ n ∧ 224 ≤ a ∧ a < 240 ∧ 128 ≤ b ∧ b < 192 ∧ 128 ≤ c ∧ c < 192 ∧ 2048 ≤ (a - 224) * 4096 + (b - 128) * 64 + (c - 128) ∧ ((a - 224) * 4096 + (b - 128) * 64 + (c - 128) < 55296 ∨ 57344 ≤ (a - 224) * 4096 + (b - 128) * 64 + (c - 128))
def K4 (n a b c d : Nat) : Prop := 4 ≤ n ∧ 240 ≤ a ∧ a < 248 ∧ 128 ≤ b ∧ b < 192 ∧ 128 ≤ c ∧ c < 192 ∧ 128 ≤ d ∧ d < 192 ∧ 65536 ≤ (a - 240) * 262144 + (b - 128) * 4096 + (c - 128) * 64 + (d - 128) ∧ (a - 240) * 262144 + (b - 128) * 4096 + (c - 128) * 64 + (d - 128) ≤ 1114111

theorem decodeN_kinds (n a b c d : Nat) (ha : a < 256) (hb : b < 256) (hc : c < 256) (hd : d < 256) :
    (a < 128 ∧ Lib.decodeN n a b c d = (a, 1)) ∨
    (128 ≤ a ∧ K2 n a b ∧ Lib.decodeN n a b c d = ((a - 192) * 64 + (b - 128), 2)) ∨
    (128 ≤ a ∧ ¬ K2 n a b ∧ K3 n a b c ∧ Lib.decodeN n a b c d = ((a - 224) * 4096 + (b - 128) * 64 + (c - 128), 3)) ∨
    (128 ≤ a ∧ ¬ K2 n a b ∧ ¬ K3 n a b c ∧ K4 n a b c d ∧ Lib.decodeN n a b c d = ((a - 240) * 262144 + (b - 128) * 4096 + (c - 128) * 64 + (d - 128), 4)) ∨
    (128 ≤ a ∧ ¬ K2 n a b ∧ ¬ K3 n a b c ∧ ¬ K4 n a b c d ∧ Lib.decodeN n a b c d = (65533, 1)) := by
  by_cases h1 : a < 128
  · exact .inl ⟨h1, by simp [Lib.decodeN, h1]⟩
  · refine .inr ?_
    by_cases h2 : K2 n a b
    · refine .inl ⟨by omega, h2, ?_⟩
      unfold K2 at h2
      unfold Lib.decodeN
      rw [if_neg h1, if_pos (by omega), if_pos (by omega)]
      simp only [Prod.mk.injEq, and_true]
      omega
    · refine .inr ?_
      by_cases h3 : K3 n a b c
      · refine .inl ⟨by omega, h2, h3, ?_⟩
        unfold K3 at h3
        unfold Lib.decodeN
        rw [if_neg h1, if_neg (by omega), if_pos (by omega), if_pos (by omega)]
        simp only [Prod.mk.injEq, and_true]
        omega
      · refine .inr ?_
        by_cases h4 : K4 n a b c d
        · refine .inl ⟨by omega, h2, h3, h4, ?_⟩
          unfold K4 at h4
          unfold Lib.decodeN
          rw [if_neg h1, if_neg (by omega), if_neg (by omega), if_pos (by omega), if_pos (by omega)]
          simp only [Prod.mk.injEq, and_true]
          omega
        · refine .inr ⟨by omega, h2, h3, h4, ?_⟩
          unfold K2 at h2; unfold K3 at h3; unfold K4 at h4
          unfold Lib.decodeN
          rw [if_neg h1]
          split
          · rw [if_neg (by omega)]
          · split
            · rw [if_neg (by omega)]
            · split
              · rw [if_neg (by omega)]
              · rfl
end Go.Proofs.YtingfomfibhnhaaGreatDoor.Utf
namespace Go.Proofs.YtingfomfibhnhaaGreatDoor.Utf

theorem get!_list (s : ByteArray) (i : Nat) (h : i < s.size) : s.data.toList[i]? = some (s.get! i) := by
  rw [get!_lt s i h]
  have : i < s.data.toList.length := by rw [← Lib.size_eq]; exact h
  rw [List.getElem?_eq_getElem this]
  rfl
theorem extract_list (s : ByteArray) (i j : Nat) : (s.extract i j).data.toList = (s.data.toList.take j).drop i := by
  rw [Lib.extract_eq, List.drop_take]
theorem get!_extract (s : ByteArray) (k i : Nat) (h : k ≤ s.size) (hi : i < k) : (s.extract 0 k).get! i = s.get! i := by
  have hz : (s.extract 0 k).size = k := by simp; omega
  have h1 := get!_list (s.extract 0 k) i (by omega)
  rw [extract_list, List.drop_zero, List.getElem?_take_of_lt hi, get!_list s i (by omega)] at h1
  exact (Option.some.inj h1).symm
theorem take_nums (s : ByteArray) (k : Nat) (h : k ≤ s.size) : (s.extract 0 k).data.toList.map (·.toNat) = (List.range k).map fun i => (s.get! i).toNat := by
  apply List.ext_getElem?
  intro i
  rw [extract_list, List.drop_zero]
  by_cases hi : i < k
  · rw [List.getElem?_map, List.getElem?_take_of_lt hi, get!_list s i (by omega)]
    simp [hi]
  · rw [List.getElem?_eq_none (by simp; omega), List.getElem?_eq_none (by simp; omega)]
theorem map_toNat_inj {l m : List UInt8} (h : l.map (·.toNat) = m.map (·.toNat)) : l = m := by
  exact List.map_inj_right (fun x y hxy => UInt8.toNat_inj.1 hxy) |>.1 h
theorem cand_iff (s : ByteArray) (k : Nat) (h : k ≤ s.size) : cand s k = true ↔ (0 ≤ bitsB (s.extract 0 k) ∧ putN (bitsB (s.extract 0 k)) = (List.range k).map fun i => (s.get! i).toNat) := by
  unfold cand
  rw [Bool.and_eq_true, decide_eq_true_eq, beq_iff_eq, ← take_nums s k h, ← putB_toList, Lib.toList_data, Lib.toList_data]
  constructor
  · rintro ⟨h1, h2⟩; exact ⟨h1, by rw [h2]⟩
  · rintro ⟨h1, h2⟩; exact ⟨h1, map_toNat_inj h2⟩

theorem bits1 (s : ByteArray) (h : 1 ≤ s.size) : bitsB (s.extract 0 1) = ((s.get! 0).toNat : Int) := by
  have hz : (s.extract 0 1).size = 1 := by simp; omega
  rw [bitsB, if_pos hz, get!_extract s 1 0 h (by omega)]
theorem bits2 (s : ByteArray) (h : 2 ≤ s.size) : bitsB (s.extract 0 2) = (((s.get! 0).toNat : Int) - 192) * 64 + (s.get! 1).toNat - 128 := by
  have hz : (s.extract 0 2).size = 2 := by simp; omega
  rw [bitsB, if_neg (by omega), if_pos hz]
  show (((s.extract 0 2).get! 0).toNat - 192 : Int) * 64 + ((s.extract 0 2).get! 1).toNat - 128 = _
  rw [get!_extract s 2 0 h (by omega), get!_extract s 2 1 h (by omega)]
theorem bits3 (s : ByteArray) (h : 3 ≤ s.size) : bitsB (s.extract 0 3) = ((((s.get! 0).toNat : Int) - 224) * 64 + (s.get! 1).toNat - 128) * 64 + (s.get! 2).toNat - 128 := by
  have hz : (s.extract 0 3).size = 3 := by simp; omega
  rw [bitsB, if_neg (by omega), if_neg (by omega), if_pos hz]
  show ((((s.extract 0 3).get! 0).toNat - 224 : Int) * 64 + ((s.extract 0 3).get! 1).toNat - 128) * 64 + ((s.extract 0 3).get! 2).toNat - 128 = _
  rw [get!_extract s 3 0 h (by omega), get!_extract s 3 1 h (by omega), get!_extract s 3 2 h (by omega)]
theorem bits4 (s : ByteArray) (h : 4 ≤ s.size) : bitsB (s.extract 0 4) = (((((s.get! 0).toNat : Int) - 240) * 64 + (s.get! 1).toNat - 128) * 64 + (s.get! 2).toNat - 128) * 64 + (s.get! 3).toNat - 128 := by
  have hz : (s.extract 0 4).size = 4 := by simp; omega
  rw [bitsB, if_neg (by omega), if_neg (by omega), if_neg (by omega)]
  show (((((s.extract 0 4).get! 0).toNat - 240 : Int) * 64 + ((s.extract 0 4).get! 1).toNat - 128) * 64 + ((s.extract 0 4).get! 2).toNat - 128) * 64 + ((s.extract 0 4).get! 3).toNat - 128 = _
  rw [get!_extract s 4 0 h (by omega), get!_extract s 4 1 h (by omega), get!_extract s 4 2 h (by omega), get!_extract s 4 3 h (by omega)]

theorem put1 (a : Nat) (ha : a < 256) : (0 ≤ (a : Int) ∧ putN a = [a]) ↔ a < 128 := by
  unfold putN
  rw [if_neg (by omega)]
  by_cases h : a < 128
  · rw [if_pos (by omega)]; simp [h]
  · rw [if_neg (by omega), if_pos (by omega)]
    simp; omega
theorem put2 (n a b : Nat) (hn : 2 ≤ n) (ha : a < 256) (hb : b < 256) : (0 ≤ ((a : Int) - 192) * 64 + b - 128 ∧ putN (((a : Int) - 192) * 64 + b - 128) = [a, b]) ↔ K2 n a b := by
  generalize hp : ((a : Int) - 192) * 64 + b - 128 = p
  unfold putN K2
  split
  · simp; omega
  · split
    · simp; omega
    · split
      · simp only [List.cons.injEq, and_true]; omega
      · split
        · simp; omega
        · simp; omega
theorem put3 (n a b c : Nat) (hn : 3 ≤ n) (ha : a < 256) (hb : b < 256) (hc : c < 256) : (0 ≤ (((a : Int) - 224) * 64 + b - 128) * 64 + c - 128 ∧ putN ((((a : Int) - 224) * 64 + b - 128) * 64 + c - 128) = [a, b, c]) ↔ K3 n a b c := by
  generalize hp : (((a : Int) - 224) * 64 + b - 128) * 64 + c - 128 = p
  unfold putN K3
  split
  · simp; omega
  · split
    · simp; omega
    · split
      · simp; omega
      · split
        · simp only [List.cons.injEq, and_true]; omega
        · simp; omega
theorem put4 (n a b c d : Nat) (hn : 4 ≤ n) (ha : a < 256) (hb : b < 256) (hc : c < 256) (hd : d < 256) : (0 ≤ ((((a : Int) - 240) * 64 + b - 128) * 64 + c - 128) * 64 + d - 128 ∧ putN (((((a : Int) - 240) * 64 + b - 128) * 64 + c - 128) * 64 + d - 128) = [a, b, c, d]) ↔ K4 n a b c d := by
  generalize hp : ((((a : Int) - 240) * 64 + b - 128) * 64 + c - 128) * 64 + d - 128 = p
  unfold putN K4
  split
  · simp; omega
  · split
    · simp; omega
    · split
      · simp; omega
      · split
        · simp; omega
        · simp only [List.cons.injEq, and_true]; omega

theorem cand1 (s : ByteArray) (h : 1 ≤ s.size) : cand s 1 = true ↔ (s.get! 0).toNat < 128 := by
  rw [cand_iff s 1 h, bits1 s h]; exact put1 _ (s.get! 0).toNat_lt
theorem cand2 (s : ByteArray) (h : 2 ≤ s.size) : cand s 2 = true ↔ K2 s.size (s.get! 0).toNat (s.get! 1).toNat := by
  rw [cand_iff s 2 h, bits2 s h]; exact put2 _ _ _ h (s.get! 0).toNat_lt (s.get! 1).toNat_lt
theorem cand3 (s : ByteArray) (h : 3 ≤ s.size) : cand s 3 = true ↔ K3 s.size (s.get! 0).toNat (s.get! 1).toNat (s.get! 2).toNat := by
  rw [cand_iff s 3 h, bits3 s h]; exact put3 _ _ _ _ h (s.get! 0).toNat_lt (s.get! 1).toNat_lt (s.get! 2).toNat_lt
theorem cand4 (s : ByteArray) (h : 4 ≤ s.size) : cand s 4 = true ↔ K4 s.size (s.get! 0).toNat (s.get! 1).toNat (s.get! 2).toNat (s.get! 3).toNat := by
  rw [cand_iff s 4 h, bits4 s h]; exact put4 _ _ _ _ _ h (s.get! 0).toNat_lt (s.get! 1).toNat_lt (s.get! 2).toNat_lt (s.get! 3).toNat_lt

theorem decodeGo_N (s : ByteArray) (h : 0 < s.size) : Lib.decodeGo s = Lib.decodeN s.size (s.get! 0).toNat (s.get! 1).toNat (s.get! 2).toNat (s.get! 3).toNat := by
  rw [Lib.decodeGo, if_neg (by omega), Lib.decode_at]; simp

/-- What the first character's code point and number of bytes are, by kinds. -/
theorem rune_kinds (s : ByteArray) (h : 0 < s.size) :
    ((s.get! 0).toNat < 128 ∧ rp s = (s.get! 0).toNat ∧ rn s = 1) ∨
    (128 ≤ (s.get! 0).toNat ∧ K2 s.size (s.get! 0).toNat (s.get! 1).toNat ∧ rp s = (((s.get! 0).toNat - 192) * 64 + ((s.get! 1).toNat - 128) : Nat) ∧ rn s = 2) ∨
    (128 ≤ (s.get! 0).toNat ∧ ¬ K2 s.size (s.get! 0).toNat (s.get! 1).toNat ∧ K3 s.size (s.get! 0).toNat (s.get! 1).toNat (s.get! 2).toNat ∧ rp s = (((s.get! 0).toNat - 224) * 4096 + ((s.get! 1).toNat - 128) * 64 + ((s.get! 2).toNat - 128) : Nat) ∧ rn s = 3) ∨
    (128 ≤ (s.get! 0).toNat ∧ ¬ K2 s.size (s.get! 0).toNat (s.get! 1).toNat ∧ ¬ K3 s.size (s.get! 0).toNat (s.get! 1).toNat (s.get! 2).toNat ∧ K4 s.size (s.get! 0).toNat (s.get! 1).toNat (s.get! 2).toNat (s.get! 3).toNat ∧ rp s = (((s.get! 0).toNat - 240) * 262144 + ((s.get! 1).toNat - 128) * 4096 + ((s.get! 2).toNat - 128) * 64 + ((s.get! 3).toNat - 128) : Nat) ∧ rn s = 4) ∨
    (128 ≤ (s.get! 0).toNat ∧ ¬ K2 s.size (s.get! 0).toNat (s.get! 1).toNat ∧ ¬ K3 s.size (s.get! 0).toNat (s.get! 1).toNat (s.get! 2).toNat ∧ ¬ K4 s.size (s.get! 0).toNat (s.get! 1).toNat (s.get! 2).toNat (s.get! 3).toNat ∧ rp s = -1 ∧ rn s = 1) := by
  have l0 := (s.get! 0).toNat_lt
  rcases decodeN_kinds s.size _ _ _ _ l0 (s.get! 1).toNat_lt (s.get! 2).toNat_lt (s.get! 3).toNat_lt with ⟨h1, h2⟩ | ⟨h1, h2, h3⟩ | ⟨h1, h2, h3, h4⟩ | ⟨h1, h2, h3, h4, h5⟩ | ⟨h1, h2, h3, h4, h5⟩
  · refine .inl ⟨h1, ?_, ?_⟩
    · rw [rp, decodeGo_N s h, h2]; exact if_neg (by omega)
    · rw [rn, decodeGo_N s h, h2]
  · refine .inr (.inl ⟨h1, h2, ?_, ?_⟩)
    · rw [rp, decodeGo_N s h, h3]; exact if_neg (by omega)
    · rw [rn, decodeGo_N s h, h3]
  · refine .inr (.inr (.inl ⟨h1, h2, h3, ?_, ?_⟩))
    · rw [rp, decodeGo_N s h, h4]; exact if_neg (by omega)
    · rw [rn, decodeGo_N s h, h4]
  · refine .inr (.inr (.inr (.inl ⟨h1, h2, h3, h4, ?_, ?_⟩)))
    · rw [rp, decodeGo_N s h, h5]; exact if_neg (by omega)
    · rw [rn, decodeGo_N s h, h5]
  · refine .inr (.inr (.inr (.inr ⟨h1, h2, h3, h4, ?_, ?_⟩)))
    · rw [rp, decodeGo_N s h, h5]; rfl
    · rw [rn, decodeGo_N s h, h5]

theorem rf_succ (s : ByteArray) (f k : Nat) : rf s (f + 1) k = if k ≤ s.size then (if cand s k then (bitsB (s.extract 0 k), k) else rf s f (k + 1)) else (-1, 1) := rfl
theorem rf_yes (s : ByteArray) (f k : Nat) (h : k ≤ s.size) (hc : cand s k = true) : rf s (f + 1) k = (bitsB (s.extract 0 k), k) := by rw [rf_succ, if_pos h, if_pos hc]
theorem rf_no (s : ByteArray) (f k : Nat) (h : k ≤ s.size → ¬ cand s k = true) (he : s.size < k → rf s f (k + 1) = (-1, 1)) : rf s (f + 1) k = rf s f (k + 1) := by
  rw [rf_succ]
  by_cases hk : k ≤ s.size
  · rw [if_pos hk, if_neg (h hk)]
  · rw [if_neg hk, he (by omega)]
theorem rf_past (s : ByteArray) : ∀ (f k : Nat), s.size < k → rf s f k = (-1, 1)
  | 0, _, _ => rfl
  | f + 1, k, h => by rw [rf_succ, if_neg (by omega)]

theorem rf_eq (s : ByteArray) : rfAll s = (rp s, rn s) := by
  by_cases h : s.size = 0
  · rw [rfAll, if_pos h, rp, rn, Lib.decodeGo, if_pos h]; rfl
  · rw [rfAll, if_neg h]
    have n1 : 128 ≤ (s.get! 0).toNat → rf s 4 1 = rf s 3 2 := fun hh => rf_no s 3 1 (fun hk hc => by have := (cand1 s hk).1 hc; omega) (fun hk => rf_past s _ _ (by omega))
    have n2 : ¬ K2 s.size (s.get! 0).toNat (s.get! 1).toNat → rf s 3 2 = rf s 2 3 := fun hh => rf_no s 2 2 (fun hk hc => hh ((cand2 s hk).1 hc)) (fun hk => rf_past s _ _ (by omega))
    have n3 : ¬ K3 s.size (s.get! 0).toNat (s.get! 1).toNat (s.get! 2).toNat → rf s 2 3 = rf s 1 4 := fun hh => rf_no s 1 3 (fun hk hc => hh ((cand3 s hk).1 hc)) (fun hk => rf_past s _ _ (by omega))
    have n4 : ¬ K4 s.size (s.get! 0).toNat (s.get! 1).toNat (s.get! 2).toNat (s.get! 3).toNat → rf s 1 4 = rf s 0 5 := fun hh => rf_no s 0 4 (fun hk hc => hh ((cand4 s hk).1 hc)) (fun hk => rf_past s _ _ (by omega))
    rcases rune_kinds s (by omega) with ⟨h1, h2, h3⟩ | ⟨h1, h2, h3, h4⟩ | ⟨h1, h2, h3, h4, h5⟩ | ⟨h1, h2, h3, h4, h5, h6⟩ | ⟨h1, h2, h3, h4, h5, h6⟩
    · rw [rf_yes s 3 1 (by omega) ((cand1 s (by omega)).2 h1), bits1 s (by omega), h2, h3]
    · have hz := h2.1
      rw [n1 h1, rf_yes s 2 2 hz ((cand2 s hz).2 h2), bits2 s hz, h3, h4]
      unfold K2 at h2
      simp only [Prod.mk.injEq, and_true]; omega
    · have hz := h3.1
      rw [n1 h1, n2 h2, rf_yes s 1 3 hz ((cand3 s hz).2 h3), bits3 s hz, h4, h5]
      unfold K3 at h3
      simp only [Prod.mk.injEq, and_true]; omega
    · have hz := h4.1
      rw [n1 h1, n2 h2, n3 h3, rf_yes s 0 4 hz ((cand4 s hz).2 h4), bits4 s hz, h5, h6]
      unfold K4 at h4
      simp only [Prod.mk.injEq, and_true]; omega
    · rw [n1 h1, n2 h2, n3 h3, n4 h4, h5, h6]; rfl

theorem rrune_any (s : ByteArray) (w : World) :
    Calls Tryz.prog 70 #[.string s] w fun e w' => e = .returned (.tuple #[.int .i64 (rp s), .int .i64 (rn s)]) ∧ RowKit.Below w.heap.size w w' := by
  have := rrune_rf s w
  rw [rf_eq] at this
  exact this
end Go.Proofs.YtingfomfibhnhaaGreatDoor.Utf
namespace Go.Proofs.YtingfomfibhnhaaGreatDoor.Utf
open Go.RowKit

theorem rune_unt (t : ByteArray) (h : 0 < t.size) : unt (rp t) = if rn t = 4 then 2 else 1 := by
  unfold unt
  have l0 := (t.get! 0).toNat_lt
  rcases rune_kinds t h with ⟨h1, h2, h3⟩ | ⟨h1, h2, h3, h4⟩ | ⟨h1, h2, h3, h4, h5⟩ | ⟨h1, h2, h3, h4, h5, h6⟩ | ⟨h1, h2, h3, h4, h5, h6⟩
  · rw [h2, h3, if_neg (by omega), if_neg (by omega)]
  · unfold K2 at h2; rw [h3, h4, if_neg (by omega), if_neg (by omega)]
  · unfold K3 at h3; rw [h4, h5, if_neg (by omega), if_neg (by omega)]
  · unfold K4 at h4; rw [h5, h6, if_pos (by omega), if_pos rfl]
  · rw [h5, h6, if_neg (by omega), if_neg (by omega)]
theorem rune_neg (t : ByteArray) (h : 0 < t.size) : rp t < 0 ↔ (rn t = 1 ∧ 128 ≤ (t.get! 0).toNat) := by
  rcases rune_kinds t h with ⟨h1, h2, h3⟩ | ⟨h1, h2, h3, h4⟩ | ⟨h1, h2, h3, h4, h5⟩ | ⟨h1, h2, h3, h4, h5, h6⟩ | ⟨h1, h2, h3, h4, h5, h6⟩ <;> omega

theorem size_extract (s : ByteArray) (i j : Nat) (h : j ≤ s.size) : (s.extract i j).size = j - i := by simp; omega
theorem get!_extract_at (s : ByteArray) (i j : Nat) (h : i < j) (hj : j ≤ s.size) : (s.extract i j).get! 0 = s.get! i := by
  have h1 := get!_list (s.extract i j) 0 (by rw [size_extract s i j hj]; omega)
  rw [extract_list, List.getElem?_drop, Nat.add_zero, List.getElem?_take_of_lt h, get!_list s i (by omega)] at h1
  exact (Option.some.inj h1).symm

/-- The character at byte k: what it is, in the reference's words. -/
theorem char_facts (s : ByteArray) (k : Nat) (h : k < s.size) :
    1 ≤ rn (s.extract k s.size) ∧ rn (s.extract k s.size) ≤ 4 ∧ k + rn (s.extract k s.size) ≤ s.size ∧ (s.extract k (k + rn (s.extract k s.size))).size = rn (s.extract k s.size) ∧
    widB (s.extract k (k + rn (s.extract k s.size))) = unt (rp (s.extract k s.size)) ∧ strayB (s.extract k (k + rn (s.extract k s.size))) = decide (rp (s.extract k s.size) < 0) := by
  have hz : (s.extract k s.size).size = s.size - k := size_extract s k s.size (Nat.le_refl _)
  have h0 : 0 < (s.extract k s.size).size := by omega
  have h1 := rn_pos _ h0
  have h2 := rn_le (s.extract k s.size)
  have h4 := rn_4 (s.extract k s.size)
  have hu := rune_unt _ h0
  have hn := rune_neg _ h0
  rw [get!_extract_at s k s.size h (Nat.le_refl _)] at hn
  generalize rn (s.extract k s.size) = n at *
  have hc := size_extract s k (k + n) (by omega)
  have hg := get!_extract_at s k (k + n) (by omega) (by omega)
  refine ⟨h1, h4, by omega, by omega, ?_, ?_⟩
  · rw [hu, widB, hc, Nat.add_sub_cancel_left]
  · unfold strayB
    rw [hc, hg, Nat.add_sub_cancel_left]
    apply Bool.eq_iff_iff.2
    simp only [Bool.and_eq_true, beq_iff_eq, decide_eq_true_eq]
    exact hn.symm

/-! ### units -/
def uN (xs : List (Nat × ByteArray)) : Int := (xs.map fun x => widB x.2).sum
theorem widB_bd (s : ByteArray) : 1 ≤ widB s ∧ widB s ≤ 2 := by unfold widB; split <;> omega
theorem uN_nil : uN [] = 0 := rfl
theorem uN_cons (x : Nat × ByteArray) (xs : List (Nat × ByteArray)) : uN (x :: xs) = widB x.2 + uN xs := by simp [uN]
theorem uN_append (xs ys : List (Nat × ByteArray)) : uN (xs ++ ys) = uN xs + uN ys := by simp [uN]
theorem uN_bd : ∀ xs : List (Nat × ByteArray), (xs.length : Int) ≤ uN xs ∧ uN xs ≤ 2 * xs.length
  | [] => by simp [uN]
  | x :: xs => by
    have := uN_bd xs
    have := widB_bd x.2
    rw [uN_cons, List.length_cons]
    omega
theorem foldl_uw : ∀ (xs : List (Nat × ByteArray)) (acc : Int), 0 ≤ acc → acc + 2 * xs.length ≤ 10000000000 → xs.foldl (fun u x => IntKind.i64.wrap (u + widB x.2)) acc = acc + uN xs
  | [], acc, _, _ => by simp [uN]
  | x :: xs, acc, h0, h => by
    have := widB_bd x.2
    rw [List.length_cons] at h
    rw [List.foldl_cons, IntWalk.i64_in (acc + widB x.2) (by omega), foldl_uw xs _ (by omega) (by omega), uN_cons]
    omega
theorem uw_eq (xs : List (Nat × ByteArray)) (h : xs.length ≤ 1000000000) : uw xs = uN xs := by
  rw [uw, foldl_uw xs 0 (by omega) (by omega)]; omega
theorem seqF_len : ∀ (f : Nat) (s : ByteArray) (k : Nat), k + (seqF f s k).length ≤ s.size ∨ seqF f s k = []
  | 0, _, _ => .inr rfl
  | f + 1, s, k => by
    by_cases h : k < s.size
    · refine .inl ?_
      obtain ⟨h1, _, h3, _⟩ := char_facts s k h
      rw [seqF, if_pos h, List.length_cons]
      rcases seqF_len f s (k + rn (s.extract k s.size)) with h4 | h4
      · omega
      · rw [h4]; simp; omega
    · exact .inr (by rw [seqF, if_neg h])
theorem seqB_len (s : ByteArray) : (seqB s).length ≤ s.size := by
  rcases seqF_len s.size s 0 with h | h
  · unfold seqB; omega
  · unfold seqB; rw [h]; simp
theorem pre_len {s : ByteArray} {pre rest : List (Nat × ByteArray)} (h : seqB s = pre ++ rest) : pre.length ≤ s.size := by
  have := seqB_len s
  rw [h, List.length_append] at this
  omega

/-! ### what the reference's loops keep -/
theorem seqF_step (f : Nat) (s : ByteArray) (k : Nat) (h : k < s.size) (hf : s.size ≤ k + f) :
    seqF f s k = (k, s.extract k (k + rn (s.extract k s.size))) :: seqF (f - 1) s (k + rn (s.extract k s.size)) := by
  obtain ⟨f, rfl⟩ : ∃ f', f = f' + 1 := ⟨f - 1, by omega⟩
  rw [seqF, if_pos h, Nat.add_sub_cancel]

theorem ba_ext {a b : ByteArray} (h : a.data.toList = b.data.toList) : a = b := by
  cases a; cases b
  simpa using h
theorem tail_tail (s : ByteArray) (k n : Nat) (h : k + n ≤ s.size) : (s.extract k s.size).extract n (s.extract k s.size).size = s.extract (k + n) s.size := by
  apply ba_ext
  have hl : s.data.toList.length = s.size := (Lib.size_eq s).symm
  rw [extract_list, extract_list, extract_list, size_extract s k s.size (Nat.le_refl _), List.take_of_length_le (l := s.data.toList) (by omega), List.take_of_length_le (by rw [List.length_drop]; omega), List.drop_drop]
end Go.Proofs.YtingfomfibhnhaaGreatDoor.Utf
namespace Go.Proofs.YtingfomfibhnhaaGreatDoor.Utf
open Go.RowKit

def strSize : Value → Nat
  | .string t => t.size
  | _ => 0
theorem isEmpty_no {s : ByteArray} (hs : 0 < s.size) : s.toList.isEmpty = false := by
  rw [Lib.toList_data]
  cases h : s.data.toList with
  | nil => exact absurd (by rw [Lib.size_eq, h]; rfl) (Nat.ne_of_gt hs)
  | cons _ _ => rfl
theorem isEmpty_yes {s : ByteArray} (hs : s.size = 0) : s.toList.isEmpty = true := by
  rw [Lib.toList_data]
  have : s.data.toList = [] := List.eq_nil_of_length_eq_zero (by rw [← Lib.size_eq]; exact hs)
  rw [this]; rfl
theorem okAll_cons (x : Nat × ByteArray) (xs : List (Nat × ByteArray)) : okAll (x :: xs) = (!strayB x.2 && okAll xs) := by simp [okAll]

set_option maxRecDepth 100000 in
set_option maxHeartbeats 1000000 in
theorem rvalid_any (s : ByteArray) (w : World) :
    Calls Tryz.prog 60 #[.string s] w fun e w' => e = .returned (.bool (validS s)) ∧ Below w.heap.size w w' := by
  have H0 : Hid (validS s = okAll (seqF s.size s 0)) := rfl
  have HS : Hid (s.extract 0 s.size = s) := by
    apply ba_ext; rw [extract_list, List.drop_zero, List.take_of_length_le (by rw [← Lib.size_eq]; exact Nat.le_refl _)]
  generalize validS s = V at H0 ⊢
  go_enter Tryz.func60, Tryz.ntmps60
  go_wp2
  go_loopw [0, 3, 4] (fun v _ _ wr => ∃ (k f : Nat) (t : ByteArray), v = .string t ∧ k ≤ s.size ∧ s.size ≤ k + f ∧ s.extract k s.size = t ∧ V = okAll (seqF f s k) ∧ Below w.heap.size w wr) (fun v _ _ _ => strSize v)
  case atStart => exact ⟨0, s.size, s, rfl, by omega, by omega, HS.out, H0.out, Below.refl _ _⟩
  case round =>
    obtain ⟨k, f, t, rfl, hk, hf, ht, hV, hB⟩ := hrel
    have hz : t.size = s.size - k := by rw [← ht]; exact size_extract s k s.size (Nat.le_refl _)
    by_cases hlt : k < s.size
    · have hne := isEmpty_no (s := t) (by omega)
      rw [seqF_step f s k hlt hf, okAll_cons] at hV
      obtain ⟨c1, c2, c3, c4, c5, c6⟩ := char_facts s k hlt
      have htt := tail_tail s k (rn (s.extract k s.size)) c3
      simp only at hV
      rw [c6] at hV
      rw [ht] at hV htt c1 c2 c3
      have hR := rrune_any t wr
      generalize rn t = n at hR hV htt c1 c2 c3
      generalize rp t = p at hR hV
      have HT := Lib.hid ht
      have HTT := Lib.hid htt
      have hnt : n ≤ t.size := by omega
      have hnz : (t.extract n t.size).size < t.size := by rw [size_extract t n t.size (Nat.le_refl _)]; omega
      by_cases hp : p < 0
      · rw [decide_eq_true hp] at hV
        have HV := Lib.hid hV
        clear hV ht htt hz c4 c5 c6
        go_wp2_with fail
        refine hR.mono ?_
        rintro e w1 ⟨rfl, hb1⟩
        go_wp2
        go_ret
        exact ⟨by rw [HV.out]; rfl, hB.trans (hb1.mono hB.size)⟩
      · rw [decide_eq_false hp] at hV
        have HV := Lib.hid hV
        clear hV ht htt hz c4 c5 c6
        go_wp2_with fail
        refine hR.mono ?_
        rintro e w1 ⟨rfl, hb1⟩
        go_wp2
        go_roundw
        case rel => exact ⟨k + n, f - 1, t.extract n t.size, rfl, c3, by omega, HTT.out.symm, by rw [HV.out]; simp, hB.trans (hb1.mono hB.size)⟩
        case measure => simp only [strSize]; exact hnz
    · have hne := isEmpty_yes (s := t) (by omega)
      rw [seqF_end f s k hlt] at hV
      have HV := Lib.hid hV
      clear hV ht hz
      go_wp2
      go_ret
      exact ⟨by rw [HV.out]; rfl, hB⟩

end Go.Proofs.YtingfomfibhnhaaGreatDoor.Utf
namespace Go.Proofs.YtingfomfibhnhaaGreatDoor.Utf
open Go.RowKit

theorem data_append (a b : ByteArray) : (a ++ b).data.toList = a.data.toList ++ b.data.toList := by simp
theorem size_append (a b : ByteArray) : (a ++ b).size = a.size + b.size := by
  rw [Lib.size_eq, Lib.size_eq, Lib.size_eq, data_append, List.length_append]
theorem get!_append (a b : ByteArray) (i : Nat) (h : i < a.size) : (a ++ b).get! i = a.get! i := by
  have h1 := get!_list (a ++ b) i (by rw [size_append]; omega)
  rw [data_append, List.getElem?_append_left (by rw [← Lib.size_eq]; exact h), get!_list a i h] at h1
  exact (Option.some.inj h1).symm

/-- A first character that is no stray byte stays itself whatever follows. -/
theorem rune_append (t b : ByteArray) (h : 0 < t.size) (hp : 0 ≤ rp t) : rp (t ++ b) = rp t ∧ rn (t ++ b) = rn t := by
  have hz := size_append t b
  have g0 := get!_append t b 0 h
  have l0 := (t.get! 0).toNat_lt
  have k' := rune_kinds (t ++ b) (by omega)
  rw [g0, hz] at k'
  rcases rune_kinds t h with ⟨h1, h2, h3⟩ | ⟨h1, h2, h3, h4⟩ | ⟨h1, h2, h3, h4, h5⟩ | ⟨h1, h2, h3, h4, h5, h6⟩ | ⟨h1, h2, h3, h4, h5, h6⟩
  · rcases k' with ⟨i1, i2, i3⟩ | ⟨i1, _⟩ | ⟨i1, _⟩ | ⟨i1, _⟩ | ⟨i1, _⟩
    · exact ⟨by rw [i2, h2], by rw [i3, h3]⟩
    all_goals omega
  · rw [get!_append t b 1 (by unfold K2 at h2; omega)] at k'
    have hk : K2 (t.size + b.size) (t.get! 0).toNat (t.get! 1).toNat := by unfold K2 at *; omega
    rcases k' with ⟨i1, _⟩ | ⟨i1, i2, i3, i4⟩ | ⟨i1, i2, _⟩ | ⟨i1, i2, _⟩ | ⟨i1, i2, _⟩
    · omega
    · exact ⟨by rw [i3, h3], by rw [i4, h4]⟩
    all_goals exact absurd hk i2
  · rw [get!_append t b 1 (by unfold K3 at h3; omega), get!_append t b 2 (by unfold K3 at h3; omega)] at k'
    have hk : K3 (t.size + b.size) (t.get! 0).toNat (t.get! 1).toNat (t.get! 2).toNat := by unfold K3 at *; omega
    rcases k' with ⟨i1, _⟩ | ⟨i1, i2, _⟩ | ⟨i1, i2, i3, i4, i5⟩ | ⟨i1, i2, i3, _⟩ | ⟨i1, i2, i3, _⟩
    · omega
    · unfold K2 at i2; unfold K3 at hk; omega
    · exact ⟨by rw [i4, h4], by rw [i5, h5]⟩
    all_goals exact absurd hk i3
  · rw [get!_append t b 1 (by unfold K4 at h4; omega), get!_append t b 2 (by unfold K4 at h4; omega), get!_append t b 3 (by unfold K4 at h4; omega)] at k'
    have hk : K4 (t.size + b.size) (t.get! 0).toNat (t.get! 1).toNat (t.get! 2).toNat (t.get! 3).toNat := by unfold K4 at *; omega
    rcases k' with ⟨i1, _⟩ | ⟨i1, i2, _⟩ | ⟨i1, i2, i3, _⟩ | ⟨i1, i2, i3, i4, i5, i6⟩ | ⟨i1, i2, i3, i4, _⟩
    · omega
    · unfold K2 at i2; unfold K4 at hk; omega
    · unfold K3 at i3; unfold K4 at hk; omega
    · exact ⟨by rw [i5, h5], by rw [i6, h6]⟩
    · exact absurd hk i4
  · omega

theorem get!_append_right (a b : ByteArray) (i : Nat) (h : a.size ≤ i) (h2 : i < a.size + b.size) : (a ++ b).get! i = b.get! (i - a.size) := by
  have h1 := get!_list (a ++ b) i (by rw [size_append]; omega)
  rw [data_append, List.getElem?_append_right (by rw [← Lib.size_eq]; exact h), ← Lib.size_eq, get!_list b (i - a.size) (by omega)] at h1
  exact (Option.some.inj h1).symm
theorem get!_past (s : ByteArray) (i : Nat) (h : s.size ≤ i) : (s.get! i).toNat = 0 := by
  cases s with
  | mk d => rw [show (ByteArray.mk d).get! i = d[i]! from rfl, getElem!_neg d i (by have h' : d.size ≤ i := h; omega)]; rfl

/-- The letter x behind a text changes no first character. -/
theorem rune_x (t : ByteArray) (h : 0 < t.size) : rp (t ++ ⟨#[120]⟩) = rp t ∧ rn (t ++ ⟨#[120]⟩) = rn t := by
  by_cases hp : 0 ≤ rp t
  · exact rune_append t _ h hp
  · have hz : (t ++ ⟨#[120]⟩).size = t.size + 1 := size_append t _
    have g0 := get!_append t ⟨#[120]⟩ 0 h
    have gx : (t ++ ⟨#[120]⟩).get! t.size = 120 := by
      rw [get!_append_right t _ t.size (Nat.le_refl _) (Nat.lt_succ_self _), Nat.sub_self]; rfl
    have gi : ∀ i, i < 4 → i < t.size → (t ++ ⟨#[120]⟩).get! i = t.get! i := fun i _ hi => get!_append t _ i hi
    have gt : ∀ i, ((t ++ ⟨#[120]⟩).get! i).toNat = if i < t.size then (t.get! i).toNat else if i = t.size then 120 else 0 := fun i => by
      by_cases h1 : i < t.size
      · rw [if_pos h1, get!_append t _ i h1]
      · rw [if_neg h1]
        by_cases h2 : i = t.size
        · rw [if_pos h2, h2, gx]; rfl
        · rw [if_neg h2, get!_past _ i (by omega)]
    have k' := rune_kinds (t ++ ⟨#[120]⟩) (by omega)
    rw [g0, hz] at k'
    rcases rune_kinds t h with ⟨h1, h2, h3⟩ | ⟨h1, h2, h3, h4⟩ | ⟨h1, h2, h3, h4, h5⟩ | ⟨h1, h2, h3, h4, h5, h6⟩ | ⟨h1, h2, h3, h4, h5, h6⟩
    · omega
    · omega
    · omega
    · omega
    · have t1 := gt 1
      have t2 := gt 2
      have t3 := gt 3
      rcases k' with ⟨i1, _⟩ | ⟨i1, i2, _⟩ | ⟨i1, i2, i3, _⟩ | ⟨i1, i2, i3, i4, _⟩ | ⟨i1, i2, i3, i4, i5, i6⟩
      · omega
      · exfalso
        by_cases z : 1 < t.size
        · rw [if_pos z] at t1; unfold K2 at *; omega
        · rw [if_neg z, if_pos (by omega)] at t1; unfold K2 at *; omega
      · exfalso
        by_cases z : 2 < t.size
        · rw [if_pos (by omega)] at t1; rw [if_pos z] at t2; unfold K3 at *; rw [t1, t2] at i3; omega
        · by_cases z2 : 2 = t.size
          · rw [if_neg z, if_pos z2] at t2; unfold K3 at *; omega
          · rw [if_neg (by omega), if_pos (by omega)] at t1; unfold K3 at *; omega
      · exfalso
        by_cases z : 3 < t.size
        · rw [if_pos (by omega)] at t1; rw [if_pos (by omega)] at t2; rw [if_pos z] at t3; unfold K4 at *; rw [t1, t2, t3] at i4; omega
        · rcases (by omega : t.size = 3 ∨ t.size = 2 ∨ t.size = 1) with z2 | z2 | z2
          · rw [if_neg z, if_pos (by omega)] at t3; unfold K4 at *; omega
          · rw [if_neg (by omega), if_pos (by omega)] at t2; unfold K4 at *; omega
          · rw [if_neg (by omega), if_pos (by omega)] at t1; unfold K4 at *; omega
      · exact ⟨by rw [i5, h5], by rw [i6, h6]⟩

/-! ### the characters of two texts -/
def shift (m : Nat) (xs : List (Nat × ByteArray)) : List (Nat × ByteArray) := xs.map fun x => (m + x.1, x.2)

theorem extract_append_left (a b : ByteArray) (i j : Nat) (h : j ≤ a.size) : (a ++ b).extract i j = a.extract i j := by
  apply ba_ext
  rw [extract_list, extract_list, data_append, List.take_append_of_le_length (by rw [← Lib.size_eq]; exact h)]
theorem extract_append_over (a b : ByteArray) (i : Nat) (h : i ≤ a.size) : (a ++ b).extract i (a ++ b).size = a.extract i a.size ++ b := by
  apply ba_ext
  have h1 : (a ++ b).data.toList.length = (a ++ b).size := (Lib.size_eq _).symm
  have h2 : a.data.toList.length = a.size := (Lib.size_eq _).symm
  rw [extract_list, data_append, data_append, extract_list, List.take_of_length_le (by rw [← data_append]; omega), List.take_of_length_le (by omega), List.drop_append_of_le_length (by omega)]
theorem extract_append_right (a b : ByteArray) (i j : Nat) : (a ++ b).extract (a.size + i) (a.size + j) = b.extract i j := by
  apply ba_ext
  have h2 : a.data.toList.length = a.size := (Lib.size_eq _).symm
  rw [extract_list, data_append, extract_list, ← h2, List.take_length_add_append, List.drop_length_add_append]

theorem seqF_right (a b : ByteArray) : ∀ (f k : Nat), seqF f (a ++ b) (a.size + k) = shift a.size (seqF f b k)
  | 0, _ => rfl
  | f + 1, k => by
    have hz := size_append a b
    by_cases h : k < b.size
    · have he : (a ++ b).extract (a.size + k) (a ++ b).size = b.extract k b.size := by rw [hz]; exact extract_append_right a b k b.size
      rw [seqF, seqF, if_pos (by omega), if_pos h, he, Nat.add_assoc, extract_append_right, seqF_right a b f]
      rfl
    · rw [seqF, seqF, if_neg (by omega), if_neg h]; rfl
theorem seqF_fuel : ∀ (f g : Nat) (s : ByteArray) (k : Nat), s.size ≤ k + f → s.size ≤ k + g → seqF f s k = seqF g s k
  | 0, g, s, k, h, _ => by rw [seqF_end 0 s k (by omega), seqF_end g s k (by omega)]
  | f + 1, 0, s, k, _, h => by rw [seqF_end (f + 1) s k (by omega), seqF_end 0 s k (by omega)]
  | f + 1, g + 1, s, k, hf, hg => by
    by_cases h : k < s.size
    · have := (char_facts s k h).1
      rw [seqF, seqF, if_pos h, if_pos h, seqF_fuel f g s _ (by omega) (by omega)]
    · rw [seqF_end _ s k h, seqF_end _ s k h]

/-- If each character of a stays itself ahead of b, the characters are those of a, then those of b. -/
theorem seqF_two (a b : ByteArray) : ∀ (f k : Nat), k ≤ a.size → (a ++ b).size ≤ k + f →
    (∀ i, k ≤ i → i < a.size → (∃ g, (i, a.extract i (i + rn (a.extract i a.size))) ∈ seqF g a k) → rn (a.extract i a.size ++ b) = rn (a.extract i a.size)) →
    seqF f (a ++ b) k = seqF f a k ++ shift a.size (seqB b)
  | 0, k, hk, hf, _ => by
    have hz := size_append a b
    have hb : b.size = 0 := by omega
    rw [seqF_end 0 _ k (by omega), seqF_end 0 a k (by omega), seqB, hb]; rfl
  | f + 1, k, hk, hf, hr => by
    have hz := size_append a b
    by_cases h : k < a.size
    · obtain ⟨c1, c2, c3, c4, _, _⟩ := char_facts a k h
      have hn := hr k (Nat.le_refl _) h ⟨1, by rw [seqF, if_pos h]; exact .head _⟩
      rw [seqF, if_pos (by omega), extract_append_over a b k (by omega), hn, extract_append_left a b k _ c3]
      rw [seqF_two a b f _ c3 (by omega) (fun i h1 h2 ⟨g, hg⟩ => hr i (by omega) h2 ⟨g + 1, by rw [seqF, if_pos h]; exact .tail _ hg⟩)]
      rw [show seqF (f + 1) a k = (k, a.extract k (k + rn (a.extract k a.size))) :: seqF f a (k + rn (a.extract k a.size)) by rw [seqF, if_pos h], List.cons_append]
    · obtain rfl : k = a.size := by omega
      rw [seqF_end (f + 1) a a.size (by omega), List.nil_append]
      exact (seqF_right a b (f + 1) 0).trans (by rw [seqB, seqF_fuel (f + 1) b.size b 0 (by omega) (by omega)])

theorem mem_seqF : ∀ (g : Nat) (s : ByteArray) (k : Nat) (x : Nat × ByteArray), x ∈ seqF g s k → k ≤ x.1 ∧ x.1 < s.size ∧ x.2 = s.extract x.1 (x.1 + rn (s.extract x.1 s.size))
  | 0, _, _, _, h => by cases h
  | g + 1, s, k, x, h => by
    by_cases hk : k < s.size
    · rw [seqF, if_pos hk] at h
      rcases List.mem_cons.1 h with rfl | h
      · exact ⟨Nat.le_refl _, hk, rfl⟩
      · obtain ⟨h1, h2, h3⟩ := mem_seqF g s _ x h
        exact ⟨by omega, h2, h3⟩
    · rw [seqF, if_neg hk] at h; cases h
theorem seqF_mono : ∀ (f g : Nat) (s : ByteArray) (k : Nat), s.size ≤ k + f → ∀ x ∈ seqF g s k, x ∈ seqF f s k
  | f, 0, _, _, _, _, h => by cases h
  | 0, g + 1, s, k, hf, x, h => by rw [seqF_end (g + 1) s k (by omega)] at h; cases h
  | f + 1, g + 1, s, k, hf, x, h => by
    by_cases hk : k < s.size
    · have := (char_facts s k hk).1
      rw [seqF, if_pos hk] at h ⊢
      rcases List.mem_cons.1 h with rfl | h
      · exact .head _
      · exact .tail _ (seqF_mono f g s _ (by omega) x h)
    · rw [seqF, if_neg hk] at h; cases h
theorem stray_neg (s : ByteArray) (i : Nat) (h : i < s.size) : strayB (s.extract i (i + rn (s.extract i s.size))) = false → 0 ≤ rp (s.extract i s.size) := fun hs => by
  rw [(char_facts s i h).2.2.2.2.2] at hs
  have := of_decide_eq_false hs
  omega

theorem seqB_two (a b : ByteArray) (hv : validS a = true) : seqB (a ++ b) = seqB a ++ shift a.size (seqB b) := by
  have hz := size_append a b
  unfold seqB
  rw [seqF_two a b _ 0 (by omega) (by omega), seqF_fuel (a ++ b).size a.size a 0 (by omega) (by omega)]
  · rfl
  · intro i _ hi ⟨g, hg⟩
    have hm := seqF_mono a.size g a 0 (by omega) _ hg
    have hs : strayB (a.extract i (i + rn (a.extract i a.size))) = false := by
      have := List.all_eq_true.1 hv _ hm
      simpa using this
    exact (rune_append _ b (by rw [size_extract a i a.size (Nat.le_refl _)]; omega) (stray_neg a i hi hs)).2
theorem seqB_x (a : ByteArray) : seqB (a ++ ⟨#[120]⟩) = seqB a ++ shift a.size (seqB ⟨#[120]⟩) := by
  have hz := size_append a ⟨#[120]⟩
  unfold seqB
  rw [seqF_two a _ _ 0 (by omega) (by omega), seqF_fuel (a ++ ⟨#[120]⟩).size a.size a 0 (by omega) (by omega)]
  · rfl
  · intro i _ hi _
    exact (rune_x _ (by rw [size_extract a i a.size (Nat.le_refl _)]; omega)).2

theorem okAll_append (xs ys : List (Nat × ByteArray)) : okAll (xs ++ ys) = (okAll xs && okAll ys) := by simp [okAll]
theorem okAll_shift (m : Nat) (xs : List (Nat × ByteArray)) : okAll (shift m xs) = okAll xs := by simp [okAll, shift, Function.comp_def]
theorem uN_shift (m : Nat) (xs : List (Nat × ByteArray)) : uN (shift m xs) = uN xs := by simp [uN, shift, Function.comp_def]
theorem valid_two (a b : ByteArray) (hv : validS a = true) : validS (a ++ b) = validS b := by
  unfold validS at *
  rw [seqB_two a b hv, okAll_append, okAll_shift, hv, Bool.true_and]
theorem valid_x (a : ByteArray) (hv : validS a = false) : validS (a ++ ⟨#[120]⟩) = false := by
  unfold validS at *
  rw [seqB_x, okAll_append, hv, Bool.false_and]
theorem uN_two (a b : ByteArray) (hv : validS a = true) : uN (seqB (a ++ b)) = uN (seqB a) + uN (seqB b) := by
  rw [seqB_two a b hv, uN_append, uN_shift]
end Go.Proofs.YtingfomfibhnhaaGreatDoor.Utf
