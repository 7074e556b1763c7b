/-
  The walks of the small functions of package utf and of the reference: width, stray, isPoint, Pair, Halves, Units, Put.
  utf.Rune by DecodeRuneInString's contract; the iterator of characters.
  The walks of utf.Valid, Len16, Unit, Byte: ranges over the iterator of characters.
-/
import Derived.Test.YtingfomfibhnhaaGreatDoorProg
import Derived.Test.YtingfomfibhnhaaGreatDoorShelf
import Derived.WalkKit
import Derived.WalkSpells
import Derived.WalkLawsBesides
import Derived.Deep.QuietTactic
import Derived.BigQuiet
import Derived.Lib.Hide
import Derived.RangeFuncNested
import Derived.RangeFuncBound
import Derived.RangeFuncCalls
import Derived.RangeFuncLeaves
import Derived.Shelf.Abstract
import Derived.Shelf.RegionOpen
import Derived.OwnWalkIn
import Derived.TacticsInMore
import Derived.LoopNIn
import Derived.LoopIn
import Derived.RangeFuncFrom
namespace Go.Proofs.YtingfomfibhnhaaGreatDoor.Utf
open Go.RowKit

def widB (s : ByteArray) : Int := if s.size = 4 then 2 else 1
def unt (n : Int) : Int := if 65536 ≤ n then 2 else 1
def isPt (n : Int) : Bool := decide ((0 ≤ n ∧ n < 55296) ∨ (57343 < n ∧ n ≤ 1114111))
theorem isPt_yes {n : Int} (h : (0 ≤ n ∧ n < 55296) ∨ (57343 < n ∧ n ≤ 1114111)) : isPt n = true := decide_eq_true h
theorem isPt_no {n : Int} (h : ¬ ((0 ≤ n ∧ n < 55296) ∨ (57343 < n ∧ n ≤ 1114111))) : isPt n = false := decide_eq_false h
/-- A character that is a stray byte. -/
theorem get!_lt (s : ByteArray) (k : Nat) (h : k < s.size) : s.get! k = s[k]'h := by
  cases s with
  | mk d => exact getElem!_pos d k h
def strayB (s : ByteArray) : Bool := s.size == 1 && decide (128 ≤ (s.get! 0).toNat)
theorem stray_any (s : ByteArray) (w : World) :
    Calls Tryz.prog 64 #[.string s] w fun e w' => e = .returned (.bool (strayB s)) ∧ w = w' := by
  by_cases h : s.size = 1
  · have hb : ((s.size : Int) == 1) = true := by rw [h]; rfl
    have hn : 0 < s.size := by omega
    have hz : (0 : Int) < (s.size : Int) := by omega
    obtain ⟨x0, hx0⟩ : ∃ x0, s.get! 0 = x0 := ⟨_, rfl⟩
    have hs0 : s[0]'hn = x0 := by rw [← hx0]; exact (get!_lt s 0 hn).symm
    by_cases hx : 128 ≤ x0.toNat
    · rw [show strayB s = true by simp [strayB, h, hx0, hx]]
      have hx2 : decide ((128 : Int) ≤ x0.toNat) = true := decide_eq_true (by omega)
      clear h hx0
      go_enter Tryz.func64, Tryz.ntmps64
      go_wp2
      go_ret
      exact ⟨rfl, rfl⟩
    · rw [show strayB s = false by simp [strayB, h, hx0]; omega]
      have hx2 : decide ((128 : Int) ≤ x0.toNat) = false := decide_eq_false (by omega)
      clear h hx0
      go_enter Tryz.func64, Tryz.ntmps64
      go_wp2
      go_ret
      exact ⟨rfl, rfl⟩
  · have hb : ((s.size : Int) == 1) = false := beq_eq_false_iff_ne.2 (by omega)
    rw [show strayB s = false by simp [strayB, h]]
    clear h
    go_enter Tryz.func64, Tryz.ntmps64
    go_wp2
    go_ret
    exact ⟨rfl, rfl⟩

def pairP (a b : Int) : Int := if 55296 ≤ a ∧ a ≤ 56319 ∧ 56320 ≤ b ∧ b ≤ 57343 then 65536 + (a - 55296) * 1024 + (b - 56320) else 0
def pairQ (a b : Int) : Bool := decide (55296 ≤ a ∧ a ≤ 56319 ∧ 56320 ≤ b ∧ b ≤ 57343)
theorem pair_yes {a b : Int} (h : 55296 ≤ a ∧ a ≤ 56319 ∧ 56320 ≤ b ∧ b ≤ 57343) : pairP a b = 65536 + (a - 55296) * 1024 + (b - 56320) ∧ pairQ a b = true := ⟨if_pos h, decide_eq_true h⟩
theorem pair_no {a b : Int} (h : ¬ (55296 ≤ a ∧ a ≤ 56319 ∧ 56320 ≤ b ∧ b ≤ 57343)) : pairP a b = 0 ∧ pairQ a b = false := ⟨if_neg h, decide_eq_false h⟩
theorem pair_same (a b : Int) : 65536 + (a - 55296) * 1024 + b - 56320 = 65536 + (a - 55296) * 1024 + (b - 56320) := by omega
def halfH (n : Int) : Int := if 65536 ≤ n ∧ n ≤ 1114111 then 55296 + (n - 65536) / 1024 else 0
def halfL (n : Int) : Int := if 65536 ≤ n ∧ n ≤ 1114111 then 56320 + (n - 65536) % 1024 else 0
theorem half_yes {n : Int} (h : 65536 ≤ n ∧ n ≤ 1114111) : halfH n = 55296 + (n - 65536) / 1024 ∧ halfL n = 56320 + (n - 65536) % 1024 := ⟨if_pos h, if_pos h⟩
theorem half_no {n : Int} (h : ¬ (65536 ≤ n ∧ n ≤ 1114111)) : halfH n = 0 ∧ halfL n = 0 := ⟨if_neg h, if_neg h⟩
theorem i64_and1023 (n : Int) : bits .and .i64 n 1023 = n % 1024 := by
  have h127 : (BitVec.ofInt 64 1023).toNat = 2 ^ 10 - 1 := by decide
  have key : (BitVec.ofInt 64 n &&& BitVec.ofInt 64 1023).toNat = (n % ((2 ^ 64 : Nat) : Int)).toNat % 2 ^ 10 := by
    rw [BitVec.toNat_and, BitVec.toNat_ofInt, h127, Nat.and_two_pow_sub_one_eq_mod]
  show IntKind.i64.wrap ((BitVec.ofInt 64 n &&& BitVec.ofInt 64 1023).toNat : Nat) = n % 1024
  rw [key, IntKind.wrap_i64]
  omega
/-- The bytes of a code point; none of what is no code point. -/
def putB (n : Int) : ByteArray := if isPt n then Utf8.encode n else ⟨#[]⟩
set_option maxRecDepth 100000 in
set_option maxHeartbeats 800000 in
theorem rput_none (n : Int) (w : World) (h : n < 0 ∨ 1114111 < n ∨ (55296 ≤ n ∧ n ≤ 57343)) :
    Calls Tryz.prog 92 #[.int .i64 n] w fun e w' => e = .returned (.string ⟨#[]⟩) ∧ w = w' := by
  rcases (by omega : n < 0 ∨ (0 ≤ n ∧ 1114111 < n) ∨ (0 ≤ n ∧ n ≤ 1114111 ∧ 55296 ≤ n ∧ n ≤ 57343)) with h | ⟨h, h2⟩ | ⟨h, h2, h3, h4⟩
  all_goals
    go_enter Tryz.func92, Tryz.ntmps92
    go_wp2
    go_ret
    exact ⟨rfl, rfl⟩

/-- A new slice of bytes, converted to a string. -/
theorem conv_new (w : World) (xs : List Int) :
    (convert 71 9 (.slice (some ⟨w.heap.size, 0, none⟩) xs.length xs.length)).run Tryz.prog (w.alloc (.cells (xs.map (Value.int .u8)).toArray 5)) = .ok (.string (strOfNums xs)) (w.alloc (.cells (xs.map (Value.int .u8)).toArray 5)) :=
  run_convert_bytes_arg _ 71 5 Tryz.underlying71 Tryz.underlying5 _ 0 _ _ xs rfl (fun i hi => by
    rw [World.cell?_alloc_at _ _ _ _ rfl]
    simp [List.getElem?_eq_getElem hi]) 9 Tryz.underlying9
theorem put_eq1 (n : Int) (h : 0 ≤ n) (h2 : n < 128) : putB n = strOfNums [n] := by
  have hp : isPt n = true := isPt_yes (by omega)
  have hv : Utf8.valid n = true := by simp [Utf8.valid]; omega
  simp only [putB, hp, if_true, Utf8.encode, hv, strOfNums]
  rw [if_pos (by omega)]
  rfl
theorem put_eq2 (n : Int) (h : 128 ≤ n) (h2 : n < 2048) : putB n = strOfNums [192 + n / 64, 128 + n % 64] := by
  have hp : isPt n = true := isPt_yes (by omega)
  have hv : Utf8.valid n = true := by simp [Utf8.valid]; omega
  simp only [putB, hp, if_true, Utf8.encode, hv, strOfNums]
  rw [if_neg (by omega), if_pos (by omega), show 192 + n.toNat / 64 = (192 + n / 64).toNat by omega, show 128 + n.toNat % 64 = (128 + n % 64).toNat by omega]
  rfl
theorem put_eq3 (n : Int) (h : 2048 ≤ n) (h2 : n < 65536) (h3 : n < 55296 ∨ 57343 < n) : putB n = strOfNums [224 + n / 4096, 128 + n / 64 % 64, 128 + n % 64] := by
  have hp : isPt n = true := isPt_yes (by omega)
  have hv : Utf8.valid n = true := by simp [Utf8.valid]; omega
  simp only [putB, hp, if_true, Utf8.encode, hv, strOfNums]
  rw [if_neg (by omega), if_neg (by omega), if_pos (by omega), show 224 + n.toNat / 4096 = (224 + n / 4096).toNat by omega, show 128 + n.toNat / 64 % 64 = (128 + n / 64 % 64).toNat by omega, show 128 + n.toNat % 64 = (128 + n % 64).toNat by omega]
  rfl
theorem put_eq4 (n : Int) (h : 65536 ≤ n) (h2 : n ≤ 1114111) : putB n = strOfNums [240 + n / 262144, 128 + n / 4096 % 64, 128 + n / 64 % 64, 128 + n % 64] := by
  have hp : isPt n = true := isPt_yes (by omega)
  have hv : Utf8.valid n = true := by simp [Utf8.valid]; omega
  simp only [putB, hp, if_true, Utf8.encode, hv, strOfNums]
  rw [if_neg (by omega), if_neg (by omega), if_neg (by omega), show 240 + n.toNat / 262144 = (240 + n / 262144).toNat by omega, show 128 + n.toNat / 4096 % 64 = (128 + n / 4096 % 64).toNat by omega, show 128 + n.toNat / 64 % 64 = (128 + n / 64 % 64).toNat by omega, show 128 + n.toNat % 64 = (128 + n % 64).toNat by omega]
  rfl
set_option maxRecDepth 100000 in
set_option maxHeartbeats 800000 in
theorem rput_one (n : Int) (w : World) (h : 0 ≤ n) (h2 : n < 128) :
    Calls Tryz.prog 92 #[.int .i64 n] w fun e w' => e = .returned (.string (putB n)) ∧ Below w.heap.size w w' := by
  rw [put_eq1 n h h2]
  have hc := conv_new w [n]
  simp only [List.length_cons, List.length_nil, List.map_cons, List.map_nil] at hc
  go_enter Tryz.func92, Tryz.ntmps92
  go_wp2
  go_ret
  exact ⟨rfl, (Below.refl _ _).alloc (Nat.le_refl _) _⟩
set_option maxRecDepth 100000 in
set_option maxHeartbeats 800000 in
theorem rput_two (n : Int) (w : World) (h : 128 ≤ n) (h2 : n < 2048) :
    Calls Tryz.prog 92 #[.int .i64 n] w fun e w' => e = .returned (.string (putB n)) ∧ Below w.heap.size w w' := by
  rw [put_eq2 n h h2]
  have hc := conv_new w [192 + n / 64, 128 + n % 64]
  simp only [List.length_cons, List.length_nil, List.map_cons, List.map_nil] at hc
  go_enter Tryz.func92, Tryz.ntmps92
  go_wp2
  go_ret
  exact ⟨rfl, (Below.refl _ _).alloc (Nat.le_refl _) _⟩
set_option maxRecDepth 100000 in
set_option maxHeartbeats 800000 in
theorem rput_three (n : Int) (w : World) (h : 2048 ≤ n) (h2 : n < 65536) (h3 : n < 55296 ∨ 57343 < n) :
    Calls Tryz.prog 92 #[.int .i64 n] w fun e w' => e = .returned (.string (putB n)) ∧ Below w.heap.size w w' := by
  rw [put_eq3 n h h2 h3]
  have hc := conv_new w [224 + n / 4096, 128 + n / 64 % 64, 128 + n % 64]
  simp only [List.length_cons, List.length_nil, List.map_cons, List.map_nil] at hc
  rcases h3 with h3 | h3
  · go_enter Tryz.func92, Tryz.ntmps92
    go_wp2
    go_ret
    exact ⟨rfl, (Below.refl _ _).alloc (Nat.le_refl _) _⟩
  · go_enter Tryz.func92, Tryz.ntmps92
    go_wp2
    go_ret
    exact ⟨rfl, (Below.refl _ _).alloc (Nat.le_refl _) _⟩
set_option maxRecDepth 100000 in
set_option maxHeartbeats 800000 in
theorem rput_four (n : Int) (w : World) (h : 65536 ≤ n) (h2 : n ≤ 1114111) :
    Calls Tryz.prog 92 #[.int .i64 n] w fun e w' => e = .returned (.string (putB n)) ∧ Below w.heap.size w w' := by
  rw [put_eq4 n h h2]
  have hc := conv_new w [240 + n / 262144, 128 + n / 4096 % 64, 128 + n / 64 % 64, 128 + n % 64]
  simp only [List.length_cons, List.length_nil, List.map_cons, List.map_nil] at hc
  go_enter Tryz.func92, Tryz.ntmps92
  go_wp2
  go_ret
  exact ⟨rfl, (Below.refl _ _).alloc (Nat.le_refl _) _⟩
theorem rput_any (n : Int) (w : World) :
    Calls Tryz.prog 92 #[.int .i64 n] w fun e w' => e = .returned (.string (putB n)) ∧ Below w.heap.size w w' := by
  rcases (by omega : (n < 0 ∨ 1114111 < n ∨ (55296 ≤ n ∧ n ≤ 57343)) ∨ (0 ≤ n ∧ n < 128) ∨ (128 ≤ n ∧ n < 2048) ∨ (2048 ≤ n ∧ n < 65536 ∧ (n < 55296 ∨ 57343 < n)) ∨ (65536 ≤ n ∧ n ≤ 1114111)) with h | ⟨h, h2⟩ | ⟨h, h2⟩ | ⟨h, h2, h3⟩ | ⟨h, h2⟩
  · rw [show putB n = ⟨#[]⟩ by simp [putB, isPt_no (n := n) (by omega)]]
    exact (rput_none n w h).mono fun e w' ⟨he, hw⟩ => ⟨he, hw ▸ Below.refl _ _⟩
  · exact rput_one n w h h2
  · exact rput_two n w h h2
  · exact rput_three n w h h2 h3
  · exact rput_four n w h h2
end Go.Proofs.YtingfomfibhnhaaGreatDoor.Utf
namespace Go.Proofs.YtingfomfibhnhaaGreatDoor.Utf
open Go.RowKit Go.Shelf

/-- The code point of the first character: -1 of a stray byte, and of no bytes. -/
def rp (s : ByteArray) : Int := if (Lib.decodeGo s).1 = 65533 ∧ (Lib.decodeGo s).2 ≤ 1 then -1 else (Lib.decodeGo s).1
/-- How many bytes it has. -/
def rn (s : ByteArray) : Nat := (Lib.decodeGo s).2

theorem decodeN_bd (n a b c d : Nat) : (Lib.decodeN n a b c d).1 ≤ 1114111 ∧ 1 ≤ (Lib.decodeN n a b c d).2 ∧ (Lib.decodeN n a b c d).2 ≤ 4 ∧ (1 ≤ n → (Lib.decodeN n a b c d).2 ≤ n) := by
  unfold Lib.decodeN
  repeat' split
  all_goals (simp only; omega)
theorem decodeGo_bd (s : ByteArray) : (Lib.decodeGo s).1 ≤ 1114111 ∧ (Lib.decodeGo s).2 ≤ 4 ∧ (Lib.decodeGo s).2 ≤ s.size ∧ (0 < s.size → 1 ≤ (Lib.decodeGo s).2) := by
  unfold Lib.decodeGo
  split
  · simp only; omega
  · rw [Lib.decode_at]
    have := decodeN_bd (s.size - 0) (s.get! 0).toNat (s.get! (0 + 1)).toNat (s.get! (0 + 2)).toNat (s.get! (0 + 3)).toNat
    omega
theorem rn_le (s : ByteArray) : rn s ≤ s.size := (decodeGo_bd s).2.2.1
theorem rn_pos (s : ByteArray) (h : 0 < s.size) : 1 ≤ rn s := (decodeGo_bd s).2.2.2 h
theorem rn_4 (s : ByteArray) : rn s ≤ 4 := (decodeGo_bd s).2.1

set_option maxRecDepth 100000 in
set_option maxHeartbeats 800000 in
theorem rune_any (s : ByteArray) (w : World) (hT : Lib.Utf8Tabs 1 2 w) :
    Calls Tryz.prog 82 #[.string s] w fun e w' => e = .returned (.tuple #[.int .i64 (rp s), .int .i64 (rn s)]) ∧ Below w.heap.size w w' := by
  have cS := Tryz.utf8_DecodeRuneInString s w hT
  unfold rp rn
  obtain ⟨b1, b2, _, _⟩ := decodeGo_bd s
  generalize Lib.decodeGo s = d at *
  obtain ⟨p, n⟩ := d
  simp only at *
  by_cases h : p = 65533
  · have hb : ((p : Int) == 65533) = true := by rw [h]; rfl
    by_cases h2 : n ≤ 1
    · have hd : decide ((n : Int) ≤ 1) = true := decide_eq_true (by omega)
      rw [if_pos ⟨h, h2⟩]
      clear h h2
      go_enter Tryz.func82, Tryz.ntmps82
      go_wp2_with (go_at_call 93; refine cS.mono ?_; rintro e w' ⟨rfl, hb'⟩)
      go_ret2
      exact ⟨rfl, hb'⟩
    · have hd : decide ((n : Int) ≤ 1) = false := decide_eq_false (by omega)
      rw [if_neg (fun h' => h2 h'.2)]
      have b3 : (p : Int) ≤ 1114111 := by omega
      clear h h2
      go_enter Tryz.func82, Tryz.ntmps82
      go_wp2_with (go_at_call 93; refine cS.mono ?_; rintro e w' ⟨rfl, hb'⟩)
      go_ret2
      exact ⟨rfl, hb'⟩
  · have hb : ((p : Int) == 65533) = false := beq_eq_false_iff_ne.2 (by omega)
    rw [if_neg (fun h' => h h'.1)]
    have b3 : (p : Int) ≤ 1114111 := by omega
    clear h
    go_enter Tryz.func82, Tryz.ntmps82
    go_wp2_with (go_at_call 93; refine cS.mono ?_; rintro e w' ⟨rfl, hb'⟩)
    go_ret2
    exact ⟨rfl, hb'⟩

/-! ### the iterator -/
attribute [local go_sem] Oper.semAt_some

/-- What is left of a text from a byte on. -/
def tl (s : ByteArray) (k : Nat) : ByteArray := s.extract k s.size
/-- The characters from byte k on, each with its place; f: fuel. -/
def seqF : Nat → ByteArray → Nat → List (Nat × ByteArray)
  | 0, _, _ => []
  | f + 1, s, k => if k < s.size then (k, s.extract k (k + rn (s.extract k s.size))) :: seqF f s (k + rn (s.extract k s.size)) else []
/-- The characters of a text, each with its place. -/
def seqB (s : ByteArray) : List (Nat × ByteArray) := seqF s.size s 0
theorem seqF_end (f : Nat) (s : ByteArray) (k : Nat) (h : ¬ k < s.size) : seqF f s k = [] := by
  cases f with
  | zero => rfl
  | succ f => simp [seqF, h]

/-- What a round keeps: all that lay below n₀, and the box of the text. -/
def Kp (n₀ B : Nat) (W W' : World) : Prop := Below n₀ W W' ∧ ∀ v, W.cell? ⟨B, 0, none⟩ = some v → W'.cell? ⟨B, 0, none⟩ = some v
theorem Kp.t {n₀ B : Nat} {X Y Z : World} (h : Kp n₀ B X Y) (k : Kp n₀ B Y Z) : Kp n₀ B X Z := ⟨h.1.trans k.1, fun v hv => k.2 v (h.2 v hv)⟩
theorem Kp.b {n₀ B : Nat} {w : World} (hn : n₀ ≤ w.heap.size) (W : World) (l : Nat) (o o' : Obj) (hl : w.heap.size ≤ l) (h : W.heap[l]? = some o) (hc : o.isCells = false) (hw : o.isWalk = false) : Kp n₀ B W (W.putObj l o') :=
  ⟨belowK_b hn W l o o' hl h hc hw, fun v hv => cell_kept hv (grownBy_putObj' W l o') (fun r e => by cases e; exact ⟨o, h, hc⟩)⟩
theorem tabs_below {n₀ : Nat} {W W' : World} (h : Lib.Utf8Tabs 1 2 W) (hb : Below n₀ W W') (hn : 3 ≤ n₀) : Lib.Utf8Tabs 1 2 W' :=
  ⟨fun c hc => (hb.cell (p := ⟨1, c, none⟩) (by show 1 < n₀; omega)).trans (h.1 c hc), fun i hi => ⟨(hb.cell (p := ⟨2, _, none⟩) (by show 2 < n₀; omega)).trans (h.2 i hi).1, (hb.cell (p := ⟨2, _, none⟩) (by show 2 < n₀; omega)).trans (h.2 i hi).2⟩⟩
theorem grown_of_below {W W' : World} (h : Below W.heap.size W W') : W.grownBy W' none := ⟨h.os, h.tape, h.output, h.size, fun k hk _ => h.block k hk⟩

def encs (x : Nat × ByteArray) : Array Value := #[.int .i64 x.1, .string x.2]

set_option maxRecDepth 100000 in
set_option maxRecDepth 100000 in
set_option maxHeartbeats 1000000 in
theorem chars1 (n : Nat) (l B n₀ : Nat) (s : ByteArray) (hs : s.size ≤ 1000000000) (hn : 3 ≤ n₀) (J Jx : List (Nat × ByteArray) → World → Prop) (W0 : World) (hB : B < W0.heap.size)
    (hJ : AbidesFrom W0.heap.size J)
    (hY : ∀ pre x W, J pre W → pre.length < (seqB s).length → YieldAt Fence.wide (n - 1) Tryz.prog l (encs x) W fun e W' =>
      (e = .returned (.bool true) ∧ J (pre ++ [x]) W' ∧ Kp n₀ B W W') ∨ (e = .returned (.bool false) ∧ Jx (pre ++ [x]) W'))
    (hc : W0.cell? ⟨B, 0, none⟩ = some (.string s)) (hT : Lib.Utf8Tabs 1 2 W0) (h0 : J [] W0) :
    CallsIn Fence.wide n Tryz.prog 81 #[.func (.yield l) #[] #[], .pointer (some ⟨B, 0, none⟩)] W0 fun e W' => (∃ v, e = .returned v) ∧
      ((∃ ys, ys = seqB s ∧ J ys W') ∨ (∃ pre, pre <+: seqB s ∧ Jx pre W')) := by
  refine callsIn_of_wp Tryz.func81 rfl trivial ?_ rfl
  simp only [Tryz.ntmps81, List.size_toArray, List.length_cons, List.length_nil, Nat.reduceAdd, Nat.reduceSub, Array.replicate_succ, Array.replicate_zero, List.push_toArray, List.append_toArray, List.nil_append, List.cons_append]
  gi_wp2
  gi_loopw [3, 4, 5] (fun i _ _ wr => ∃ (pre : List (Nat × ByteArray)) (k f : Nat), i = .int .i64 k ∧ k ≤ s.size ∧ s.size ≤ k + f ∧ seqB s = pre ++ seqF f s k ∧ J pre wr ∧ B < wr.heap.size ∧ wr.cell? ⟨B, 0, none⟩ = some (.string s) ∧ Lib.Utf8Tabs 1 2 wr)
    (fun i _ _ _ => s.size - (intOf i).toNat)
  case atStart =>
    exact ⟨[], 0, s.size, rfl, by omega, by omega, rfl, h0, hB, hc, hT⟩
  case round =>
    obtain ⟨pre, k, f, rfl, hk, hf, hx, hJs, hB', hcs, hTs⟩ := hrel
    by_cases hlt : k < s.size
    · obtain ⟨f, rfl⟩ : ∃ f', f = f' + 1 := ⟨f - 1, by omega⟩
      rw [seqF, if_pos hlt] at hx
      have hts : s.extract k s.size = tl s k := rfl
      have hsz : (tl s k).size = s.size - k := by simp [tl]
      have hn1 := rn_pos (tl s k) (by omega)
      have hn2 := rn_le (tl s k)
      have hn4 := rn_4 (tl s k)
      rw [hts] at hx
      obtain ⟨m, hm⟩ : ∃ m, rn (tl s k) = m := ⟨_, rfl⟩
      have hR := rune_any (tl s k) wr hTs
      unfold tl at hR
      rw [show rn (s.extract k s.size) = m from hm] at hR
      rw [hm] at hx hn1 hn2 hn4
      generalize rp (s.extract k s.size) = q at hR
      have hkm : k + m ≤ s.size := by omega
      have HX := Lib.hid hx
      clear hx hts hsz hm
      gi_wp2_with fail
      refine ⟨trivial, fun h => (by cases h), ?_⟩
      refine (callsIn_wide.2 hR).mono ?_
      rintro e w1 ⟨rfl, hb1⟩
      have hJ1 : J pre w1 := hJ _ _ _ none hJs (grown_of_below hb1) (fun r e => by cases e)
      have hT1 : Lib.Utf8Tabs 1 2 w1 := Utf8Tabs_below hTs hb1
      have hc1 : w1.cell? ⟨B, 0, none⟩ = some (.string s) := (hb1.cell (p := ⟨B, 0, none⟩) hB').trans hcs
      obtain ⟨fn, tmps, assign, body, hy, hRd⟩ := hY pre (k, s.extract k (k + m)) w1 hJ1 (by rw [HX.out]; simp)
      dsimp only [encs] at hy
      clear hR
      gi_wp2_with fail
      refine ⟨fun h => (by cases h), ?_⟩
      refine hRd.mono ?_
      rintro e W3 (⟨rfl, hJ3, hk3⟩ | ⟨rfl, hJx3⟩)
      · have hT3 : Lib.Utf8Tabs 1 2 W3 := tabs_below hT1 hk3.1 hn
        have hc3 := hk3.2 _ hc1
        have hz3 : B < W3.heap.size := Nat.lt_of_lt_of_le hB' (Nat.le_trans hb1.size hk3.1.size)
        gi_wp2
        go_roundw
        case rel => exact ⟨pre ++ [(k, s.extract k (k + m))], k + m, f, by go_num, hkm, by omega, by rw [HX.out]; simp, hJ3, hz3, hc3, hT3⟩
        case measure => simp [intOf]; omega
      · gi_wp2
        refine bodyPost_ret (results_none rfl _ _ _) rfl ?_
        exact ⟨⟨_, rfl⟩, .inr ⟨pre ++ [(k, s.extract k (k + m))], ⟨seqF f s (k + m), by rw [HX.out]; simp⟩, hJx3⟩⟩
    · have HX := Lib.hid hx
      clear hx
      gi_wp2
      go_end0
      exact ⟨⟨_, rfl⟩, .inl ⟨pre, by have := HX.out; rw [seqF_end f s k hlt] at this; simpa using this.symm, hJs⟩⟩

theorem chars_stops (n B n₀ : Nat) (s : ByteArray) (hs : s.size ≤ 1000000000) (hn : 3 ≤ n₀) (w : World) (hn2 : 3 ≤ w.heap.size) (hB : B < w.heap.size) (hc : w.cell? ⟨B, 0, none⟩ = some (.string s)) (hT : Lib.Utf8Tabs 1 2 w) :
    SeqStopsK Fence.wide n Tryz.prog 81 #[.pointer (some ⟨B, 0, none⟩)] encs (Kp n₀ B) (fun xs => xs = seqB s) (fun pre => pre <+: seqB s) (seqB s).length w := fun l J Jx W hW hJ _ hY h0 =>
  chars1 n l B n₀ s hs hn J Jx W (Nat.lt_of_lt_of_le hB hW.size) hJ hY ((hW.cell (p := ⟨B, 0, none⟩) hB).trans hc) (tabs_below hT hW hn2) h0

theorem characters_any (s : ByteArray) (w : World) :
    Calls Tryz.prog 63 #[.string s] w fun e w' => e = .returned (.func (.func 81) #[] #[.pointer (some ⟨w.heap.size, 0, none⟩)]) ∧ w' = w.alloc (.cells #[.string s] 9) := by
  have hmf : ∀ (fn : Fn) (first cap : Array Value) (w : World), (Instr.makeFunc fn first cap).run Tryz.prog w = .ok (.func fn first cap) w := fun _ _ _ _ => rfl
  go_enter Tryz.func63, Tryz.ntmps63
  go_wp2
  go_ret
  exact ⟨rfl, rfl⟩
end Go.Proofs.YtingfomfibhnhaaGreatDoor.Utf
namespace Go.Proofs.YtingfomfibhnhaaGreatDoor.Utf
open Go.RowKit Go.Shelf
attribute [local go_sem] Oper.semAt_some

theorem tabs_size {w : World} (h : Lib.Utf8Tabs 1 2 w) : 3 ≤ w.heap.size := by
  have := (h.2 0 (by omega)).1
  rcases Nat.lt_or_ge 2 w.heap.size with hlt | hge
  · omega
  · unfold World.cell? at this
    simp only [Array.getElem?_eq_none hge] at this
    cases this

def okAll (xs : List (Nat × ByteArray)) : Bool := xs.all fun x => !strayB x.2
theorem okAll_snoc (xs : List (Nat × ByteArray)) (x : Nat × ByteArray) : okAll (xs ++ [x]) = (okAll xs && !strayB x.2) := by simp [okAll]
theorem okAll_pre {xs ys : List (Nat × ByteArray)} (h : xs <+: ys) (hx : okAll xs = false) : okAll ys = false := by
  obtain ⟨r, rfl⟩ := h
  simp only [okAll, List.all_append] at hx ⊢
  rw [hx]; rfl
def validS (s : ByteArray) : Bool := okAll (seqB s)

theorem Kp.refl (n₀ B : Nat) (W : World) : Kp n₀ B W W := ⟨Below.refl _ _, fun _ h => h⟩
theorem Kp.set {n₀ B b : Nat} {X Y : World} (h : Kp n₀ B X Y) (hn : n₀ ≤ b) (hb : B ≠ b) (v : Value) : Kp n₀ B X (Y.setCell ⟨b, 0, none⟩ v) :=
  ⟨h.1.setCell (p := ⟨b, 0, none⟩) hn v, fun u hu => (World.cell?_setCell_other Y ⟨b, 0, none⟩ ⟨B, 0, none⟩ v (fun e => hb (by cases e; rfl))).trans (h.2 u hu)⟩
theorem Kp.drew {n₀ B : Nat} {X Y : World} (h : Kp n₀ B X Y) : Kp n₀ B X Y.drew := ⟨h.1.drew, fun u hu => h.2 u hu⟩

set_option maxRecDepth 100000 in
set_option maxRecDepth 100000 in
set_option maxHeartbeats 2000000 in
theorem valid_any (s : ByteArray) (w : World) (hs : s.size ≤ 1000000000) (hT : Lib.Utf8Tabs 1 2 w) :
    Calls Tryz.prog 52 #[.string s] w fun e W' => e = .returned (.bool (validS s)) ∧ Below w.heap.size w W' := by
  have h2 := tabs_size hT
  refine (callsIn_wide (n := 3)).1 ?_
  refine callsIn_of_wp_marks Tryz.func52 rfl trivial ?_ rfl
  simp only [Tryz.ntmps52, List.size_toArray, List.length_cons, List.length_nil, Nat.reduceAdd, Nat.reduceSub, Array.replicate_succ, Array.replicate_zero, List.push_toArray, List.append_toArray, List.nil_append, List.cons_append]
  gi_wp2_with fail
  refine ⟨trivial, ?_⟩
  refine (callsIn_wide.2 (characters_any s _)).mono ?_
  rintro e w' ⟨rfl, rfl⟩
  gi_wp2_with fail
  have b0 : Boxed ((w.alloc (.cells #[.bool false] 4)).alloc (.cells #[.string s] 9)) w.heap.size 4 (.bool false) := (Boxed.new w 4 _).alloc _
  have b1 : Boxed ((w.alloc (.cells #[.bool false] 4)).alloc (.cells #[.string s] 9)) (w.heap.size + 1) 9 (.string s) := by
    have := Boxed.new (w.alloc (.cells #[.bool false] 4)) 9 (.string s)
    rwa [World.size_alloc] at this
  have hB0 : Below w.heap.size w ((w.alloc (.cells #[.bool false] 4)).alloc (.cells #[.string s] 9)) := ((Below.refl _ w).alloc (Nat.le_refl _) _).alloc (by simp) _
  refine wpIn_rangeFunc_ownF rfl (by omega) (gf := 81) (lb := #[.pointer (some ⟨w.heap.size + 1, 0, none⟩)]) rfl trivial (enters_of Tryz.func81 (by kernel_rfl) rfl)
    (chars_stops _ (w.heap.size + 1) w.heap.size s hs h2 _ (Nat.le_trans h2 hB0.size) b1.lt b1.cell (tabs_below hT hB0 h2)) Kp.t (Kp.b (by simp; omega)) (Below.refl _ _) (fun _ => rfl)
    (fun pre W => (okAll pre = true ∧ Boxed W w.heap.size 4 (.bool false)) ∧ Below w.heap.size w W)
    (fun c pre W => ((c = .ret ∧ okAll pre = false) ∧ Boxed W w.heap.size 4 (.bool false)) ∧ Below w.heap.size w W)
    (OwnFrom.and (OwnFrom.and (ownFrom_pure _ _) (Own.from (boxed_own _ _ _) _)) (ownFrom_below (Nat.le_refl _) (by simp; omega)))
    (fun c => OwnFrom.and (OwnFrom.and (ownFrom_pure _ _) (Own.from (boxed_own _ _ _) _)) (ownFrom_below (Nat.le_refl _) (by simp; omega)))
    ⟨⟨rfl, b0⟩, hB0⟩
    (fun x => { tmps := #[.string s, undef, .pointer (some ⟨w.heap.size, 0, none⟩), undef, .string x.2, .string s, .func (.func 81) #[] #[.pointer (some ⟨w.heap.size + 1, 0, none⟩)], .int .i64 x.1, .string x.2, undef, undef], defers := [] }) ?assign ?body ?done ?stop
  case assign =>
    intro l x W K hK
    dsimp only [encs]
    gi_wp2
    exact hK
  case body =>
    rintro l pre x W ⟨⟨hp, hb⟩, hB⟩ _
    have hc := hb.cell
    have hf := hb.frozen
    have hS := stray_any x.2 W
    cases hst : strayB x.2
    · rw [hst] at hS
      have HO := Lib.hid (show okAll (pre ++ [x]) = true by rw [okAll_snoc, hp, hst]; rfl)
      clear hst hp
      gi_wp2_with fail
      refine ⟨trivial, ?_⟩
      refine (CallsIn.inRound l (callsIn_wide.2 hS)).mono ?_
      rintro e w' ⟨rfl, rfl⟩
      gi_wp2
      exact ⟨KeepsOthers.refl _, Kp.refl _ _ _, ⟨HO.out, hb⟩, hB⟩
    · rw [hst] at hS
      have HO := Lib.hid (show okAll (pre ++ [x]) = false by rw [okAll_snoc, hst]; simp)
      clear hst hp
      gi_wp2_with fail
      refine ⟨trivial, ?_⟩
      refine (CallsIn.inRound l (callsIn_wide.2 hS)).mono ?_
      rintro e w' ⟨rfl, rfl⟩
      gi_wp2
      exact ⟨KeepsOthers.setCell _ _ _, ⟨⟨rfl, HO.out⟩, hb.set _⟩, hB.setCell (p := ⟨w.heap.size, 0, none⟩) (Nat.le_refl _) _⟩
  case done =>
    rintro D ys W hD rfl ⟨⟨hp, hb⟩, hB⟩ hK
    have hc := hb.cell
    have hf := hb.frozen
    gi_wp2
    have hK' := (KeepsOthers.setCell W ⟨w.heap.size, 0, none⟩ (.bool true)).same D _ hK rfl
    refine ⟨by simp, .inl ⟨_, _, rfl, run_takeDeferred hK', ?_⟩⟩
    have hc5 := cell_kept (hb.set (.bool true)).cell (grownBy_putObj' _ D (.deferred none)) (fun r e => by cases e; exact ⟨_, hK', rfl⟩)
    refine ⟨.bool true, ?_, by rw [show validS s = true from hp], (hB.setCell (p := ⟨w.heap.size, 0, none⟩) (Nat.le_refl _) _).trans (belowK_b (w := w) (Nat.le_refl _) _ D _ _ (by simp at hD; omega) hK' rfl rfl)⟩
    simp [results, Tryz.f52, go_sem, hc5]
  case stop =>
    rintro D c pre W hD hpre ⟨⟨⟨rfl, hin⟩, hb⟩, hB⟩ hK
    gi_wp2
    refine ⟨by simp, .inl ⟨_, _, rfl, run_takeDeferred hK, ?_⟩⟩
    have hc5 := cell_kept hb.cell (grownBy_putObj' _ D (.deferred none)) (fun r e => by cases e; exact ⟨_, hK, rfl⟩)
    refine ⟨.bool false, ?_, by rw [show validS s = false from okAll_pre hpre hin], hB.trans (belowK_b (w := w) (Nat.le_refl _) W D _ _ (by simp at hD; omega) hK rfl rfl)⟩
    simp [results, Tryz.f52, go_sem, hc5]

def uw (xs : List (Nat × ByteArray)) : Int := xs.foldl (fun u x => IntKind.i64.wrap (u + widB x.2)) 0
theorem uw_snoc (pre : List (Nat × ByteArray)) (x : Nat × ByteArray) : uw (pre ++ [x]) = IntKind.i64.wrap (uw pre + widB x.2) := by simp [uw]

end Go.Proofs.YtingfomfibhnhaaGreatDoor.Utf
