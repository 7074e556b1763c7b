/-
  utf.Rune by DecodeRuneInString's contract; the iterator of characters.
-/
import Derived.Test.YtfedmhccbfhcbaaGreatDoorShelf
import Derived.Test.YtfedmhccbfhcbaaGreatDoorPA
import Derived.RangeFuncNested
import Derived.RangeFuncBound
import Derived.RangeFuncCalls
import Derived.RangeFuncLeaves
import Derived.Shelf.Abstract
import Derived.Shelf.RegionOpen
import Derived.OwnWalkIn
import Derived.TacticsInMore
import Derived.LoopNIn
import Derived.LoopIn
namespace Go.Proofs.YtfedmhccbfhcbaaGreatDoor.Utf
open Go.RowKit Go.Shelf

/-- The code point of the first character: -1 of a stray byte, and of no bytes. -/
def rp (s : ByteArray) : Int := if (Lib.decodeGo s).1 = 65533 ∧ (Lib.decodeGo s).2 ≤ 1 then -1 else (Lib.decodeGo s).1
/-- How many bytes it has. -/
def rn (s : ByteArray) : Nat := (Lib.decodeGo s).2

theorem decodeN_bd (n a b c d : Nat) : (Lib.decodeN n a b c d).1 ≤ 1114111 ∧ 1 ≤ (Lib.decodeN n a b c d).2 ∧ (Lib.decodeN n a b c d).2 ≤ 4 ∧ (1 ≤ n → (Lib.decodeN n a b c d).2 ≤ n) := by
  unfold Lib.decodeN
  repeat' split
  all_goals (simp only; omega)
theorem decodeGo_bd (s : ByteArray) : (Lib.decodeGo s).1 ≤ 1114111 ∧ (Lib.decodeGo s).2 ≤ 4 ∧ (Lib.decodeGo s).2 ≤ s.size ∧ (0 < s.size → 1 ≤ (Lib.decodeGo s).2) := by
  unfold Lib.decodeGo
  split
  · simp only; omega
  · rw [Lib.decode_at]
    have := decodeN_bd (s.size - 0) (s.get! 0).toNat (s.get! (0 + 1)).toNat (s.get! (0 + 2)).toNat (s.get! (0 + 3)).toNat
    omega
theorem rn_le (s : ByteArray) : rn s ≤ s.size := (decodeGo_bd s).2.2.1
theorem rn_pos (s : ByteArray) (h : 0 < s.size) : 1 ≤ rn s := (decodeGo_bd s).2.2.2 h
theorem rn_4 (s : ByteArray) : rn s ≤ 4 := (decodeGo_bd s).2.1

set_option maxRecDepth 100000 in
set_option maxHeartbeats 800000 in
theorem rune_any (s : ByteArray) (w : World) (hT : Lib.Utf8Tabs 1 2 w) :
    Calls Tryz.prog 52 #[.string s] w fun e w' => e = .returned (.tuple #[.int .i64 (rp s), .int .i64 (rn s)]) ∧ Below w.heap.size w w' := by
  have cS := Tryz.utf8_DecodeRuneInString s w hT
  unfold rp rn
  obtain ⟨b1, b2, _, _⟩ := decodeGo_bd s
  generalize Lib.decodeGo s = d at *
  obtain ⟨p, n⟩ := d
  simp only at *
  by_cases h : p = 65533
  · have hb : ((p : Int) == 65533) = true := by rw [h]; rfl
    by_cases h2 : n ≤ 1
    · have hd : decide ((n : Int) ≤ 1) = true := decide_eq_true (by omega)
      rw [if_pos ⟨h, h2⟩]
      clear h h2
      go_enter Tryz.func52, Tryz.ntmps52
      go_wp2_with (go_at_call 62; refine cS.mono ?_; rintro e w' ⟨rfl, hb'⟩)
      go_ret2
      exact ⟨rfl, hb'⟩
    · have hd : decide ((n : Int) ≤ 1) = false := decide_eq_false (by omega)
      rw [if_neg (fun h' => h2 h'.2)]
      have b3 : (p : Int) ≤ 1114111 := by omega
      clear h h2
      go_enter Tryz.func52, Tryz.ntmps52
      go_wp2_with (go_at_call 62; refine cS.mono ?_; rintro e w' ⟨rfl, hb'⟩)
      go_ret2
      exact ⟨rfl, hb'⟩
  · have hb : ((p : Int) == 65533) = false := beq_eq_false_iff_ne.2 (by omega)
    rw [if_neg (fun h' => h h'.1)]
    have b3 : (p : Int) ≤ 1114111 := by omega
    clear h
    go_enter Tryz.func52, Tryz.ntmps52
    go_wp2_with (go_at_call 62; refine cS.mono ?_; rintro e w' ⟨rfl, hb'⟩)
    go_ret2
    exact ⟨rfl, hb'⟩

/-! ### the iterator -/
attribute [local go_sem] Oper.semAt_some

/-- What is left of a text from a byte on. -/
def tl (s : ByteArray) (k : Nat) : ByteArray := s.extract k s.size
/-- The characters from byte k on, each with its place; f: fuel. -/
def seqF : Nat → ByteArray → Nat → List (Nat × ByteArray)
  | 0, _, _ => []
  | f + 1, s, k => if k < s.size then (k, s.extract k (k + rn (s.extract k s.size))) :: seqF f s (k + rn (s.extract k s.size)) else []
/-- The characters of a text, each with its place. -/
def seqB (s : ByteArray) : List (Nat × ByteArray) := seqF s.size s 0
theorem seqF_end (f : Nat) (s : ByteArray) (k : Nat) (h : ¬ k < s.size) : seqF f s k = [] := by
  cases f with
  | zero => rfl
  | succ f => simp [seqF, h]

/-- What a round keeps: all that lay below n₀, and the box of the text. -/
def Kp (n₀ B : Nat) (W W' : World) : Prop := Below n₀ W W' ∧ ∀ v, W.cell? ⟨B, 0, none⟩ = some v → W'.cell? ⟨B, 0, none⟩ = some v
theorem Kp.t {n₀ B : Nat} {X Y Z : World} (h : Kp n₀ B X Y) (k : Kp n₀ B Y Z) : Kp n₀ B X Z := ⟨h.1.trans k.1, fun v hv => k.2 v (h.2 v hv)⟩
theorem Kp.b {n₀ B : Nat} {w : World} (hn : n₀ ≤ w.heap.size) (W : World) (l : Nat) (o o' : Obj) (hl : w.heap.size ≤ l) (h : W.heap[l]? = some o) (hc : o.isCells = false) (hw : o.isWalk = false) : Kp n₀ B W (W.putObj l o') :=
  ⟨belowK_b hn W l o o' hl h hc hw, fun v hv => cell_kept hv (grownBy_putObj' W l o') (fun r e => by cases e; exact ⟨o, h, hc⟩)⟩
theorem tabs_below {n₀ : Nat} {W W' : World} (h : Lib.Utf8Tabs 1 2 W) (hb : Below n₀ W W') (hn : 3 ≤ n₀) : Lib.Utf8Tabs 1 2 W' :=
  ⟨fun c hc => (hb.cell (p := ⟨1, c, none⟩) (by show 1 < n₀; omega)).trans (h.1 c hc), fun i hi => ⟨(hb.cell (p := ⟨2, _, none⟩) (by show 2 < n₀; omega)).trans (h.2 i hi).1, (hb.cell (p := ⟨2, _, none⟩) (by show 2 < n₀; omega)).trans (h.2 i hi).2⟩⟩
theorem grown_of_below {W W' : World} (h : Below W.heap.size W W') : W.grownBy W' none := ⟨h.os, h.tape, h.output, h.size, fun k hk _ => h.block k hk⟩

def encs (x : Nat × ByteArray) : Array Value := #[.int .i64 x.1, .string x.2]

set_option maxRecDepth 100000 in
set_option maxRecDepth 100000 in
set_option maxHeartbeats 1000000 in
theorem chars1 (n : Nat) (l B n₀ : Nat) (s : ByteArray) (hs : s.size ≤ 1000000000) (hn : 3 ≤ n₀) (J Jx : List (Nat × ByteArray) → World → Prop) (W0 : World) (hB : B < W0.heap.size)
    (hJ : AbidesFrom W0.heap.size J)
    (hY : ∀ pre x W, J pre W → pre.length < (seqB s).length → YieldAt Fence.wide (n - 1) Tryz.prog l (encs x) W fun e W' =>
      (e = .returned (.bool true) ∧ J (pre ++ [x]) W' ∧ Kp n₀ B W W') ∨ (e = .returned (.bool false) ∧ Jx (pre ++ [x]) W'))
    (hc : W0.cell? ⟨B, 0, none⟩ = some (.string s)) (hT : Lib.Utf8Tabs 1 2 W0) (h0 : J [] W0) :
    CallsIn Fence.wide n Tryz.prog 51 #[.func (.yield l) #[] #[], .pointer (some ⟨B, 0, none⟩)] W0 fun e W' => (∃ v, e = .returned v) ∧
      ((∃ ys, ys = seqB s ∧ J ys W') ∨ (∃ pre, pre <+: seqB s ∧ Jx pre W')) := by
  refine callsIn_of_wp Tryz.func51 rfl trivial ?_ rfl
  simp only [Tryz.ntmps51, List.size_toArray, List.length_cons, List.length_nil, Nat.reduceAdd, Nat.reduceSub, Array.replicate_succ, Array.replicate_zero, List.push_toArray, List.append_toArray, List.nil_append, List.cons_append]
  gi_wp2
  gi_loopw [3, 4, 5] (fun i _ _ wr => ∃ (pre : List (Nat × ByteArray)) (k f : Nat), i = .int .i64 k ∧ k ≤ s.size ∧ s.size ≤ k + f ∧ seqB s = pre ++ seqF f s k ∧ J pre wr ∧ B < wr.heap.size ∧ wr.cell? ⟨B, 0, none⟩ = some (.string s) ∧ Lib.Utf8Tabs 1 2 wr)
    (fun i _ _ _ => s.size - (intOf i).toNat)
  case atStart =>
    exact ⟨[], 0, s.size, rfl, by omega, by omega, rfl, h0, hB, hc, hT⟩
  case round =>
    obtain ⟨pre, k, f, rfl, hk, hf, hx, hJs, hB', hcs, hTs⟩ := hrel
    by_cases hlt : k < s.size
    · obtain ⟨f, rfl⟩ : ∃ f', f = f' + 1 := ⟨f - 1, by omega⟩
      rw [seqF, if_pos hlt] at hx
      have hts : s.extract k s.size = tl s k := rfl
      have hsz : (tl s k).size = s.size - k := by simp [tl]
      have hn1 := rn_pos (tl s k) (by omega)
      have hn2 := rn_le (tl s k)
      have hn4 := rn_4 (tl s k)
      rw [hts] at hx
      obtain ⟨m, hm⟩ : ∃ m, rn (tl s k) = m := ⟨_, rfl⟩
      have hR := rune_any (tl s k) wr hTs
      unfold tl at hR
      rw [show rn (s.extract k s.size) = m from hm] at hR
      rw [hm] at hx hn1 hn2 hn4
      generalize rp (s.extract k s.size) = q at hR
      have hkm : k + m ≤ s.size := by omega
      have HX := Lib.hid hx
      clear hx hts hsz hm
      gi_wp2_with fail
      refine ⟨trivial, fun h => (by cases h), ?_⟩
      refine (callsIn_wide.2 hR).mono ?_
      rintro e w1 ⟨rfl, hb1⟩
      have hJ1 : J pre w1 := hJ _ _ _ none hJs (grown_of_below hb1) (fun r e => by cases e)
      have hT1 : Lib.Utf8Tabs 1 2 w1 := Utf8Tabs_below hTs hb1
      have hc1 : w1.cell? ⟨B, 0, none⟩ = some (.string s) := (hb1.cell (p := ⟨B, 0, none⟩) hB').trans hcs
      obtain ⟨fn, tmps, assign, body, hy, hRd⟩ := hY pre (k, s.extract k (k + m)) w1 hJ1 (by rw [HX.out]; simp)
      dsimp only [encs] at hy
      clear hR
      gi_wp2_with fail
      refine ⟨fun h => (by cases h), ?_⟩
      refine hRd.mono ?_
      rintro e W3 (⟨rfl, hJ3, hk3⟩ | ⟨rfl, hJx3⟩)
      · have hT3 : Lib.Utf8Tabs 1 2 W3 := tabs_below hT1 hk3.1 hn
        have hc3 := hk3.2 _ hc1
        have hz3 : B < W3.heap.size := Nat.lt_of_lt_of_le hB' (Nat.le_trans hb1.size hk3.1.size)
        gi_wp2
        go_roundw
        case rel => exact ⟨pre ++ [(k, s.extract k (k + m))], k + m, f, by go_num, hkm, by omega, by rw [HX.out]; simp, hJ3, hz3, hc3, hT3⟩
        case measure => simp [intOf]; omega
      · gi_wp2
        refine bodyPost_ret (results_none rfl _ _ _) rfl ?_
        exact ⟨⟨_, rfl⟩, .inr ⟨pre ++ [(k, s.extract k (k + m))], ⟨seqF f s (k + m), by rw [HX.out]; simp⟩, hJx3⟩⟩
    · have HX := Lib.hid hx
      clear hx
      gi_wp2
      go_end0
      exact ⟨⟨_, rfl⟩, .inl ⟨pre, by have := HX.out; rw [seqF_end f s k hlt] at this; simpa using this.symm, hJs⟩⟩

theorem chars_stops (n B n₀ : Nat) (s : ByteArray) (hs : s.size ≤ 1000000000) (hn : 3 ≤ n₀) (w : World) (hn2 : 3 ≤ w.heap.size) (hB : B < w.heap.size) (hc : w.cell? ⟨B, 0, none⟩ = some (.string s)) (hT : Lib.Utf8Tabs 1 2 w) :
    SeqStopsK Fence.wide n Tryz.prog 51 #[.pointer (some ⟨B, 0, none⟩)] encs (Kp n₀ B) (fun xs => xs = seqB s) (fun pre => pre <+: seqB s) (seqB s).length w := fun l J Jx W hW hJ _ hY h0 =>
  chars1 n l B n₀ s hs hn J Jx W (Nat.lt_of_lt_of_le hB hW.size) hJ hY ((hW.cell (p := ⟨B, 0, none⟩) hB).trans hc) (tabs_below hT hW hn2) h0

theorem characters_any (s : ByteArray) (w : World) :
    Calls Tryz.prog 45 #[.string s] w fun e w' => e = .returned (.func (.func 51) #[] #[.pointer (some ⟨w.heap.size, 0, none⟩)]) ∧ w' = w.alloc (.cells #[.string s] 9) := by
  have hmf : ∀ (fn : Fn) (first cap : Array Value) (w : World), (Instr.makeFunc fn first cap).run Tryz.prog w = .ok (.func fn first cap) w := fun _ _ _ _ => rfl
  go_enter Tryz.func45, Tryz.ntmps45
  go_wp2
  go_ret
  exact ⟨rfl, rfl⟩
end Go.Proofs.YtfedmhccbfhcbaaGreatDoor.Utf
