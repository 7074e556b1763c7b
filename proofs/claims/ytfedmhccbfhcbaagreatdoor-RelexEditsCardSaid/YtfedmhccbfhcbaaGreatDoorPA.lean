/-
  The walks of the small functions of package utf and of the reference: width, stray, isPoint, Pair, Halves, Units, Put.
-/
import Derived.Test.YtfedmhccbfhcbaaGreatDoorProg
import Derived.WalkKit
import Derived.WalkSpells
import Derived.WalkLawsBesides
import Derived.Deep.QuietTactic
import Derived.BigQuiet
import Derived.Lib.Hide
namespace Go.Proofs.YtfedmhccbfhcbaaGreatDoor.Utf
open Go.RowKit

def widB (s : ByteArray) : Int := if s.size = 4 then 2 else 1
def unt (n : Int) : Int := if 65536 ≤ n then 2 else 1
def isPt (n : Int) : Bool := decide ((0 ≤ n ∧ n < 55296) ∨ (57343 < n ∧ n ≤ 1114111))
theorem isPt_yes {n : Int} (h : (0 ≤ n ∧ n < 55296) ∨ (57343 < n ∧ n ≤ 1114111)) : isPt n = true := decide_eq_true h
theorem isPt_no {n : Int} (h : ¬ ((0 ≤ n ∧ n < 55296) ∨ (57343 < n ∧ n ≤ 1114111))) : isPt n = false := decide_eq_false h
/-- A character that is a stray byte. -/
theorem get!_lt (s : ByteArray) (k : Nat) (h : k < s.size) : s.get! k = s[k]'h := by
  cases s with
  | mk d => exact getElem!_pos d k h
def strayB (s : ByteArray) : Bool := s.size == 1 && decide (128 ≤ (s.get! 0).toNat)
theorem stray_any (s : ByteArray) (w : World) :
    Calls Tryz.prog 46 #[.string s] w fun e w' => e = .returned (.bool (strayB s)) ∧ w = w' := by
  by_cases h : s.size = 1
  · have hb : ((s.size : Int) == 1) = true := by rw [h]; rfl
    have hn : 0 < s.size := by omega
    have hz : (0 : Int) < (s.size : Int) := by omega
    obtain ⟨x0, hx0⟩ : ∃ x0, s.get! 0 = x0 := ⟨_, rfl⟩
    have hs0 : s[0]'hn = x0 := by rw [← hx0]; exact (get!_lt s 0 hn).symm
    by_cases hx : 128 ≤ x0.toNat
    · rw [show strayB s = true by simp [strayB, h, hx0, hx]]
      have hx2 : decide ((128 : Int) ≤ x0.toNat) = true := decide_eq_true (by omega)
      clear h hx0
      go_enter Tryz.func46, Tryz.ntmps46
      go_wp2
      go_ret
      exact ⟨rfl, rfl⟩
    · rw [show strayB s = false by simp [strayB, h, hx0]; omega]
      have hx2 : decide ((128 : Int) ≤ x0.toNat) = false := decide_eq_false (by omega)
      clear h hx0
      go_enter Tryz.func46, Tryz.ntmps46
      go_wp2
      go_ret
      exact ⟨rfl, rfl⟩
  · have hb : ((s.size : Int) == 1) = false := beq_eq_false_iff_ne.2 (by omega)
    rw [show strayB s = false by simp [strayB, h]]
    clear h
    go_enter Tryz.func46, Tryz.ntmps46
    go_wp2
    go_ret
    exact ⟨rfl, rfl⟩

def pairP (a b : Int) : Int := if 55296 ≤ a ∧ a ≤ 56319 ∧ 56320 ≤ b ∧ b ≤ 57343 then 65536 + (a - 55296) * 1024 + (b - 56320) else 0
def pairQ (a b : Int) : Bool := decide (55296 ≤ a ∧ a ≤ 56319 ∧ 56320 ≤ b ∧ b ≤ 57343)
theorem pair_yes {a b : Int} (h : 55296 ≤ a ∧ a ≤ 56319 ∧ 56320 ≤ b ∧ b ≤ 57343) : pairP a b = 65536 + (a - 55296) * 1024 + (b - 56320) ∧ pairQ a b = true := ⟨if_pos h, decide_eq_true h⟩
theorem pair_no {a b : Int} (h : ¬ (55296 ≤ a ∧ a ≤ 56319 ∧ 56320 ≤ b ∧ b ≤ 57343)) : pairP a b = 0 ∧ pairQ a b = false := ⟨if_neg h, decide_eq_false h⟩
theorem pair_same (a b : Int) : 65536 + (a - 55296) * 1024 + b - 56320 = 65536 + (a - 55296) * 1024 + (b - 56320) := by omega
def halfH (n : Int) : Int := if 65536 ≤ n ∧ n ≤ 1114111 then 55296 + (n - 65536) / 1024 else 0
def halfL (n : Int) : Int := if 65536 ≤ n ∧ n ≤ 1114111 then 56320 + (n - 65536) % 1024 else 0
theorem half_yes {n : Int} (h : 65536 ≤ n ∧ n ≤ 1114111) : halfH n = 55296 + (n - 65536) / 1024 ∧ halfL n = 56320 + (n - 65536) % 1024 := ⟨if_pos h, if_pos h⟩
theorem half_no {n : Int} (h : ¬ (65536 ≤ n ∧ n ≤ 1114111)) : halfH n = 0 ∧ halfL n = 0 := ⟨if_neg h, if_neg h⟩
theorem i64_and1023 (n : Int) : bits .and .i64 n 1023 = n % 1024 := by
  have h127 : (BitVec.ofInt 64 1023).toNat = 2 ^ 10 - 1 := by decide
  have key : (BitVec.ofInt 64 n &&& BitVec.ofInt 64 1023).toNat = (n % ((2 ^ 64 : Nat) : Int)).toNat % 2 ^ 10 := by
    rw [BitVec.toNat_and, BitVec.toNat_ofInt, h127, Nat.and_two_pow_sub_one_eq_mod]
  show IntKind.i64.wrap ((BitVec.ofInt 64 n &&& BitVec.ofInt 64 1023).toNat : Nat) = n % 1024
  rw [key, IntKind.wrap_i64]
  omega
/-- The bytes of a code point; none of what is no code point. -/
def putB (n : Int) : ByteArray := if isPt n then Utf8.encode n else ⟨#[]⟩
set_option maxRecDepth 100000 in
set_option maxHeartbeats 800000 in
theorem rput_none (n : Int) (w : World) (h : n < 0 ∨ 1114111 < n ∨ (55296 ≤ n ∧ n ≤ 57343)) :
    Calls Tryz.prog 44 #[.int .i64 n] w fun e w' => e = .returned (.string ⟨#[]⟩) ∧ w = w' := by
  rcases (by omega : n < 0 ∨ (0 ≤ n ∧ 1114111 < n) ∨ (0 ≤ n ∧ n ≤ 1114111 ∧ 55296 ≤ n ∧ n ≤ 57343)) with h | ⟨h, h2⟩ | ⟨h, h2, h3, h4⟩
  all_goals
    go_enter Tryz.func44, Tryz.ntmps44
    go_wp2
    go_ret
    exact ⟨rfl, rfl⟩

/-- A new slice of bytes, converted to a string. -/
theorem conv_new (w : World) (xs : List Int) :
    (convert 76 9 (.slice (some ⟨w.heap.size, 0, none⟩) xs.length xs.length)).run Tryz.prog (w.alloc (.cells (xs.map (Value.int .u8)).toArray 5)) = .ok (.string (strOfNums xs)) (w.alloc (.cells (xs.map (Value.int .u8)).toArray 5)) :=
  run_convert_bytes_arg _ 76 5 Tryz.underlying76 Tryz.underlying5 _ 0 _ _ xs rfl (fun i hi => by
    rw [World.cell?_alloc_at _ _ _ _ rfl]
    simp [List.getElem?_eq_getElem hi]) 9 Tryz.underlying9
theorem put_eq1 (n : Int) (h : 0 ≤ n) (h2 : n < 128) : putB n = strOfNums [n] := by
  have hp : isPt n = true := isPt_yes (by omega)
  have hv : Utf8.valid n = true := by simp [Utf8.valid]; omega
  simp only [putB, hp, if_true, Utf8.encode, hv, strOfNums]
  rw [if_pos (by omega)]
  rfl
theorem put_eq2 (n : Int) (h : 128 ≤ n) (h2 : n < 2048) : putB n = strOfNums [192 + n / 64, 128 + n % 64] := by
  have hp : isPt n = true := isPt_yes (by omega)
  have hv : Utf8.valid n = true := by simp [Utf8.valid]; omega
  simp only [putB, hp, if_true, Utf8.encode, hv, strOfNums]
  rw [if_neg (by omega), if_pos (by omega), show 192 + n.toNat / 64 = (192 + n / 64).toNat by omega, show 128 + n.toNat % 64 = (128 + n % 64).toNat by omega]
  rfl
theorem put_eq3 (n : Int) (h : 2048 ≤ n) (h2 : n < 65536) (h3 : n < 55296 ∨ 57343 < n) : putB n = strOfNums [224 + n / 4096, 128 + n / 64 % 64, 128 + n % 64] := by
  have hp : isPt n = true := isPt_yes (by omega)
  have hv : Utf8.valid n = true := by simp [Utf8.valid]; omega
  simp only [putB, hp, if_true, Utf8.encode, hv, strOfNums]
  rw [if_neg (by omega), if_neg (by omega), if_pos (by omega), show 224 + n.toNat / 4096 = (224 + n / 4096).toNat by omega, show 128 + n.toNat / 64 % 64 = (128 + n / 64 % 64).toNat by omega, show 128 + n.toNat % 64 = (128 + n % 64).toNat by omega]
  rfl
theorem put_eq4 (n : Int) (h : 65536 ≤ n) (h2 : n ≤ 1114111) : putB n = strOfNums [240 + n / 262144, 128 + n / 4096 % 64, 128 + n / 64 % 64, 128 + n % 64] := by
  have hp : isPt n = true := isPt_yes (by omega)
  have hv : Utf8.valid n = true := by simp [Utf8.valid]; omega
  simp only [putB, hp, if_true, Utf8.encode, hv, strOfNums]
  rw [if_neg (by omega), if_neg (by omega), if_neg (by omega), show 240 + n.toNat / 262144 = (240 + n / 262144).toNat by omega, show 128 + n.toNat / 4096 % 64 = (128 + n / 4096 % 64).toNat by omega, show 128 + n.toNat / 64 % 64 = (128 + n / 64 % 64).toNat by omega, show 128 + n.toNat % 64 = (128 + n % 64).toNat by omega]
  rfl
set_option maxRecDepth 100000 in
set_option maxHeartbeats 800000 in
theorem rput_one (n : Int) (w : World) (h : 0 ≤ n) (h2 : n < 128) :
    Calls Tryz.prog 44 #[.int .i64 n] w fun e w' => e = .returned (.string (putB n)) ∧ Below w.heap.size w w' := by
  rw [put_eq1 n h h2]
  have hc := conv_new w [n]
  simp only [List.length_cons, List.length_nil, List.map_cons, List.map_nil] at hc
  go_enter Tryz.func44, Tryz.ntmps44
  go_wp2
  go_ret
  exact ⟨rfl, (Below.refl _ _).alloc (Nat.le_refl _) _⟩
set_option maxRecDepth 100000 in
set_option maxHeartbeats 800000 in
theorem rput_two (n : Int) (w : World) (h : 128 ≤ n) (h2 : n < 2048) :
    Calls Tryz.prog 44 #[.int .i64 n] w fun e w' => e = .returned (.string (putB n)) ∧ Below w.heap.size w w' := by
  rw [put_eq2 n h h2]
  have hc := conv_new w [192 + n / 64, 128 + n % 64]
  simp only [List.length_cons, List.length_nil, List.map_cons, List.map_nil] at hc
  go_enter Tryz.func44, Tryz.ntmps44
  go_wp2
  go_ret
  exact ⟨rfl, (Below.refl _ _).alloc (Nat.le_refl _) _⟩
set_option maxRecDepth 100000 in
set_option maxHeartbeats 800000 in
theorem rput_three (n : Int) (w : World) (h : 2048 ≤ n) (h2 : n < 65536) (h3 : n < 55296 ∨ 57343 < n) :
    Calls Tryz.prog 44 #[.int .i64 n] w fun e w' => e = .returned (.string (putB n)) ∧ Below w.heap.size w w' := by
  rw [put_eq3 n h h2 h3]
  have hc := conv_new w [224 + n / 4096, 128 + n / 64 % 64, 128 + n % 64]
  simp only [List.length_cons, List.length_nil, List.map_cons, List.map_nil] at hc
  rcases h3 with h3 | h3
  · go_enter Tryz.func44, Tryz.ntmps44
    go_wp2
    go_ret
    exact ⟨rfl, (Below.refl _ _).alloc (Nat.le_refl _) _⟩
  · go_enter Tryz.func44, Tryz.ntmps44
    go_wp2
    go_ret
    exact ⟨rfl, (Below.refl _ _).alloc (Nat.le_refl _) _⟩
set_option maxRecDepth 100000 in
set_option maxHeartbeats 800000 in
theorem rput_four (n : Int) (w : World) (h : 65536 ≤ n) (h2 : n ≤ 1114111) :
    Calls Tryz.prog 44 #[.int .i64 n] w fun e w' => e = .returned (.string (putB n)) ∧ Below w.heap.size w w' := by
  rw [put_eq4 n h h2]
  have hc := conv_new w [240 + n / 262144, 128 + n / 4096 % 64, 128 + n / 64 % 64, 128 + n % 64]
  simp only [List.length_cons, List.length_nil, List.map_cons, List.map_nil] at hc
  go_enter Tryz.func44, Tryz.ntmps44
  go_wp2
  go_ret
  exact ⟨rfl, (Below.refl _ _).alloc (Nat.le_refl _) _⟩
theorem rput_any (n : Int) (w : World) :
    Calls Tryz.prog 44 #[.int .i64 n] w fun e w' => e = .returned (.string (putB n)) ∧ Below w.heap.size w w' := by
  rcases (by omega : (n < 0 ∨ 1114111 < n ∨ (55296 ≤ n ∧ n ≤ 57343)) ∨ (0 ≤ n ∧ n < 128) ∨ (128 ≤ n ∧ n < 2048) ∨ (2048 ≤ n ∧ n < 65536 ∧ (n < 55296 ∨ 57343 < n)) ∨ (65536 ≤ n ∧ n ≤ 1114111)) with h | ⟨h, h2⟩ | ⟨h, h2⟩ | ⟨h, h2, h3⟩ | ⟨h, h2⟩
  · rw [show putB n = ⟨#[]⟩ by simp [putB, isPt_no (n := n) (by omega)]]
    exact (rput_none n w h).mono fun e w' ⟨he, hw⟩ => ⟨he, hw ▸ Below.refl _ _⟩
  · exact rput_one n w h h2
  · exact rput_two n w h h2
  · exact rput_three n w h h2 h3
  · exact rput_four n w h h2
end Go.Proofs.YtfedmhccbfhcbaaGreatDoor.Utf
