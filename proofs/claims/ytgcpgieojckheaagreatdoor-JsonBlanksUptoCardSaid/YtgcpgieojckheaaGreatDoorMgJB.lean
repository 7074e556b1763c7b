/-
  The parser's small methods: next, need, begin; blank, plain.
  The parser's while, blanks.
  The parser's number's bytes, word.
  The parser's number.
  The parser's words: null, true, false.
  The reference's reader: more, next, fail.
  The reference's blanks.
  The reference's take.
-/
import Derived.Test.YtgcpgieojckheaaGreatDoorMgJA
import Derived.Test.YtgcpgieojckheaaGreatDoorMgS
import Derived.Test.YtgcpgieojckheaaGreatDoorShelf
import Derived.Test.YtgcpgieojckheaaGreatDoorMgL
namespace Go.Proofs.YtgcpgieojckheaaGreatDoor.Json
open Go.RowKit Go.Shelf

theorem u8_eq {c k : UInt8} {n : Int} (h : (k.toNat : Int) = n) : ((c.toNat : Int) == n) = (c == k) := by
  rw [Bool.eq_iff_iff, beq_iff_eq, beq_iff_eq, ← h]
  exact ⟨fun e => UInt8.toNat_inj.1 (by omega), fun e => by rw [e]⟩
theorem blank_any (c : UInt8) (w : World) : Calls Tryz.prog 147 #[.int .u8 c.toNat] w fun e w' => e = .returned (.bool (isBlank c)) ∧ w' = w := by
  have h1 : ((c.toNat : Int) == 32) = (c == 32) := u8_eq rfl
  have h2 : ((c.toNat : Int) == 9) = (c == 9) := u8_eq rfl
  have h3 : ((c.toNat : Int) == 10) = (c == 10) := u8_eq rfl
  have h4 : ((c.toNat : Int) == 13) = (c == 13) := u8_eq rfl
  have HB : Hid (isBlank c = (c == 32 || c == 9 || c == 10 || c == 13)) := Lib.hid rfl
  generalize (c == 32) = b1 at *
  generalize (c == 9) = b2 at *
  generalize (c == 10) = b3 at *
  generalize (c == 13) = b4 at *
  cases b1 <;> cases b2 <;> cases b3 <;> cases b4 <;>
  · go_enter Tryz.func147, Tryz.ntmps147
    go_wp2
    go_ret
    exact ⟨by rw [HB.out]; rfl, rfl⟩
theorem plain_any (c : UInt8) (w : World) : Calls Tryz.prog 148 #[.int .u8 c.toNat] w fun e w' => e = .returned (.bool (decide (32 ≤ c.toNat) && (c != 34 && c != 92))) ∧ w' = w := by
  have h2 : ((c.toNat : Int) == 34) = (c == 34) := u8_eq rfl
  have h3 : ((c.toNat : Int) == 92) = (c == 92) := u8_eq rfl
  have h4 : ((c.toNat : Int) != 34) = (c != 34) := by unfold bne; rw [h2]
  have h5 : ((c.toNat : Int) != 92) = (c != 92) := by unfold bne; rw [h3]
  by_cases h : 32 ≤ c.toNat
  · have h' : (32 : Int) ≤ (c.toNat : Int) := by omega
    have HB : Hid ((decide (32 ≤ c.toNat) && (c != 34 && c != 92)) = (c != 34 && c != 92)) := Lib.hid (by rw [decide_eq_true h]; rfl)
    generalize (decide (32 ≤ c.toNat) && (c != 34 && c != 92)) = R at *
    generalize (c != 34) = b1 at *
    generalize (c != 92) = b2 at *
    clear h2 h3
    cases b1 <;> cases b2 <;>
    · go_enter Tryz.func148, Tryz.ntmps148
      go_wp2
      go_ret
      exact ⟨by rw [HB.out]; rfl, rfl⟩
  · have h' : ¬ (32 : Int) ≤ (c.toNat : Int) := by omega
    have HB : Hid ((decide (32 ≤ c.toNat) && (c != 34 && c != 92)) = false) := Lib.hid (by rw [decide_eq_false h]; rfl)
    generalize (decide (32 ≤ c.toNat) && (c != 34 && c != 92)) = R at *
    clear h2 h3 h4 h5
    go_enter Tryz.func148, Tryz.ntmps148
    go_wp2
    go_ret
    exact ⟨by rw [HB.out]; rfl, rfl⟩
/-- All that lay before is kept, but the block b. -/
structure But (b : Nat) (w w' : World) : Prop where
  os : w'.os = w.os
  tape : w'.tape = w.tape
  output : w'.output = w.output
  size : w.heap.size ≤ w'.heap.size
  block : ∀ k, k < w.heap.size → k ≠ b → w'.heap[k]? = w.heap[k]?
theorem But.refl (b : Nat) (w : World) : But b w w := ⟨rfl, rfl, rfl, Nat.le_refl _, fun _ _ _ => rfl⟩
theorem But.trans {b : Nat} {w x y : World} (h : But b w x) (k : But b x y) : But b w y :=
  ⟨k.os.trans h.os, k.tape.trans h.tape, k.output.trans h.output, Nat.le_trans h.size k.size, fun j hj hb => (k.block j (Nat.lt_of_lt_of_le hj h.size) hb).trans (h.block j hj hb)⟩
theorem But.of {b : Nat} {w w' : World} (h : Below w.heap.size w w') : But b w w' := ⟨h.os, h.tape, h.output, h.size, fun k hk _ => h.block k hk⟩
theorem But.set (b : Nat) (w : World) (o : Nat) (v : Value) : But b w (w.setCell ⟨b, o, none⟩ v) := by
  have h := Only.set b w o v
  exact ⟨h.os, h.tape, h.output, Nat.le_of_eq h.size.symm, fun k _ hk => h.block k hk⟩
theorem But.below {b n : Nat} {w w' : World} (h : But b w w') (hn : n ≤ b) (hz : n ≤ w.heap.size) : Below n w w' := ⟨h.os, h.tape, h.output, h.size, fun k hk => h.block k (by omega) (by omega)⟩
/-- A parser lies at b. -/
def PAt (W : World) (b : Nat) (s : ByteArray) (at_ around begun : Nat) : Prop := W.heap[b]? = some (.cells #[.string s, .int .i64 at_, .int .i64 around, .int .i64 begun] 89 (0, 0))
theorem PAt.cells {W : World} {b : Nat} {s : ByteArray} {x y z : Nat} (h : PAt W b s x y z) :
    W.cell? ⟨b, 0, none⟩ = some (.string s) ∧ W.cell? ⟨b, 1, none⟩ = some (.int .i64 x) ∧ W.cell? ⟨b, 2, none⟩ = some (.int .i64 y) ∧ W.cell? ⟨b, 3, none⟩ = some (.int .i64 z) ∧ ∀ o, W.frozen? ⟨b, o, none⟩ = false :=
  ⟨by rw [cellH h]; rfl, by rw [cellH h]; rfl, by rw [cellH h]; rfl, by rw [cellH h]; rfl, fun o => Lib.frozen_of_heap h o⟩
theorem PAt.lt {W : World} {b : Nat} {s : ByteArray} {x y z : Nat} (h : PAt W b s x y z) : b < W.heap.size := (Array.getElem?_eq_some_iff.1 h).1
theorem PAt.below {W W' : World} {b : Nat} {s : ByteArray} {x y z : Nat} (h : PAt W b s x y z) (hb : Below W.heap.size W W') : PAt W' b s x y z := (hb.block b h.lt).trans h
theorem PAt.set1 {W : World} {b : Nat} {s : ByteArray} {x y z : Nat} (h : PAt W b s x y z) (u : Nat) : PAt (W.setCell ⟨b, 1, none⟩ (.int .i64 u)) b s u y z := heap_setCell_same W b 1 _ _ _ h
theorem PAt.set2 {W : World} {b : Nat} {s : ByteArray} {x y z : Nat} (h : PAt W b s x y z) (u : Nat) : PAt (W.setCell ⟨b, 2, none⟩ (.int .i64 u)) b s x u z := heap_setCell_same W b 2 _ _ _ h
theorem PAt.set3 {W : World} {b : Nat} {s : ByteArray} {x y z : Nat} (h : PAt W b s x y z) (u : Nat) : PAt (W.setCell ⟨b, 3, none⟩ (.int .i64 u)) b s x y u := heap_setCell_same W b 3 _ _ _ h
/-- The error k is thrown. -/
def Bad (k : Int) (b : Nat) (w : World) (e : Ending) (w' : World) : Prop := e = .panicked [{ v := .iface 23 (.int .i64 k), recovered := false }] ∧ But b w w'
theorem drewN_below (w : World) (n : Nat) : Below w.heap.size w (w.drewN n) := belowN (Below.refl _ _) n
theorem next_end (W : World) (b : Nat) (s : ByteArray) (x y z : Nat) (h : PAt W b s x y z) (hc : x = s.size) :
    Calls Tryz.prog 140 #[.pointer (some ⟨b, 0, none⟩)] W fun e w' => e = .returned (.int .u8 0) ∧ Below W.heap.size W w' := by
  obtain ⟨k0, k1, k2, k3, kf⟩ := h.cells
  subst hc
  have hq : ((s.size : Int) == (s.size : Int)) = true := by simp
  go_enter Tryz.func140, Tryz.ntmps140
  go_wp2
  go_quiet (fail)
  go_wp2
  go_ret
  exact ⟨rfl, drewN_below _ _⟩
theorem next_in (W : World) (b : Nat) (s : ByteArray) (x y z : Nat) (h : PAt W b s x y z) (hx : x < s.size) :
    Calls Tryz.prog 140 #[.pointer (some ⟨b, 0, none⟩)] W fun e w' => e = .returned (.int .u8 (s[x]'hx).toNat) ∧ Below W.heap.size W w' := by
  obtain ⟨k0, k1, k2, k3, kf⟩ := h.cells
  have hq : ((x : Int) == (s.size : Int)) = false := by simp; omega
  have hx' : (x : Int) < (s.size : Int) := by omega
  go_enter Tryz.func140, Tryz.ntmps140
  go_wp2
  go_quiet (fail)
  go_wp2
  go_quiet (fail)
  go_wp2
  go_ret
  exact ⟨rfl, belowN (drewN_below _ _) _⟩
theorem need_end (W : World) (b : Nat) (s : ByteArray) (x y z : Nat) (c : UInt8) (h : PAt W b s x y z) (hc : x = s.size) :
    Calls Tryz.prog 180 #[.pointer (some ⟨b, 0, none⟩), .int .u8 c.toNat] W (Bad 4 b W) := by
  obtain ⟨k0, k1, k2, k3, kf⟩ := h.cells
  subst hc
  have hq : ((s.size : Int) == (s.size : Int)) = true := by simp
  go_enter Tryz.func180, Tryz.ntmps180
  go_wp2
  go_quiet (fail)
  go_wp2
  exact ⟨rfl, rfl, But.of (drewN_below _ _)⟩
theorem need_bad (W : World) (b : Nat) (s : ByteArray) (x y z : Nat) (c : UInt8) (h : PAt W b s x y z) (hx : x < s.size) (hc : s[x]'hx ≠ c) :
    Calls Tryz.prog 180 #[.pointer (some ⟨b, 0, none⟩), .int .u8 c.toNat] W (Bad 4 b W) := by
  obtain ⟨k0, k1, k2, k3, kf⟩ := h.cells
  have hq : ((x : Int) == (s.size : Int)) = false := by simp; omega
  have hx' : (x : Int) < (s.size : Int) := by omega
  have hne : (((s[x]'hx).toNat : Int) != (c.toNat : Int)) = true := by
    have : (s[x]'hx).toNat ≠ c.toNat := fun e => hc (UInt8.toNat_inj.1 e)
    simp; omega
  clear hc
  go_enter Tryz.func180, Tryz.ntmps180
  go_wp2
  go_quiet (fail)
  go_wp2
  exact ⟨rfl, rfl, But.of (drewN_below _ _)⟩
abbrev NoVal : Value := .tuple #[]
theorem need_ok (W : World) (b : Nat) (s : ByteArray) (x y z : Nat) (c : UInt8) (h : PAt W b s x y z) (hx : x < s.size) (hz : s.size ≤ 1000000) (hc : s[x]'hx = c) :
    Calls Tryz.prog 180 #[.pointer (some ⟨b, 0, none⟩), .int .u8 c.toNat] W fun e w' => e = .returned NoVal ∧ PAt w' b s (x + 1) y z ∧ But b W w' := by
  obtain ⟨k0, k1, k2, k3, kf⟩ := h.cells
  have hq : ((x : Int) == (s.size : Int)) = false := by simp; omega
  have hx' : (x : Int) < (s.size : Int) := by omega
  have hne : (((s[x]'hx).toNat : Int) != (c.toNat : Int)) = false := by rw [hc]; simp
  have hw : IntKind.i64.wrap ((x : Int) + 1) = ((x + 1 : Nat) : Int) := by rw [IntWalk.i64_in _ (by omega)]; omega
  clear hc
  have H := Lib.hid h
  clear h
  go_enter Tryz.func180, Tryz.ntmps180
  go_wp2
  go_quiet (fail)
  go_wp2
  go_end0
  exact ⟨rfl, (H.out.below (drewN_below _ _)).set1 (x + 1), (But.of (drewN_below _ _)).trans (But.set _ _ _ _)⟩
theorem begin_deep (W : World) (b : Nat) (s : ByteArray) (x y z : Nat) (h : PAt W b s x y z) (hy : 64 ≤ y) :
    Calls Tryz.prog 139 #[.pointer (some ⟨b, 0, none⟩)] W (Bad 61 b W) := by
  obtain ⟨k0, k1, k2, k3, kf⟩ := h.cells
  have hy' : (64 : Int) ≤ (y : Int) := by omega
  go_enter Tryz.func139, Tryz.ntmps139
  go_wp2
  exact ⟨rfl, rfl, But.refl _ _⟩
theorem begin_many (W : World) (b : Nat) (s : ByteArray) (x y z : Nat) (h : PAt W b s x y z) (hy : y < 64) (hz : 65536 ≤ z) :
    Calls Tryz.prog 139 #[.pointer (some ⟨b, 0, none⟩)] W (Bad 40 b W) := by
  obtain ⟨k0, k1, k2, k3, kf⟩ := h.cells
  have hy' : ¬ (64 : Int) ≤ (y : Int) := by omega
  have hz' : (65536 : Int) ≤ (z : Int) := by omega
  go_enter Tryz.func139, Tryz.ntmps139
  go_wp2
  exact ⟨rfl, rfl, But.refl _ _⟩
theorem begin_ok (W : World) (b : Nat) (s : ByteArray) (x y z : Nat) (h : PAt W b s x y z) (hy : y < 64) (hz : z < 65536) :
    Calls Tryz.prog 139 #[.pointer (some ⟨b, 0, none⟩)] W fun e w' => e = .returned NoVal ∧ PAt w' b s x y (z + 1) ∧ But b W w' := by
  obtain ⟨k0, k1, k2, k3, kf⟩ := h.cells
  have hy' : ¬ (64 : Int) ≤ (y : Int) := by omega
  have hz' : ¬ (65536 : Int) ≤ (z : Int) := by omega
  have hw : IntKind.i64.wrap ((z : Int) + 1) = ((z + 1 : Nat) : Int) := by rw [IntWalk.i64_in _ (by omega)]; omega
  have H := Lib.hid h
  clear h
  go_enter Tryz.func139, Tryz.ntmps139
  go_wp2
  go_end0
  exact ⟨rfl, H.out.set3 (z + 1), But.set _ _ _ _⟩
end Go.Proofs.YtgcpgieojckheaaGreatDoor.Json
namespace Go.Proofs.YtgcpgieojckheaaGreatDoor.Json
open Go.RowKit Go.Shelf

theorem span_of {p : UInt8 → Bool} : ∀ {l : List UInt8} {k : Nat}, k ≤ l.length → (∀ (j : Nat) c, j < k → l[j]? = some c → p c = true) → (∀ c, l[k]? = some c → p c = false) → l.takeWhile p = l.take k ∧ l.dropWhile p = l.drop k
  | [], k, hk, _, _ => by
    obtain rfl : k = 0 := by simpa using hk
    exact ⟨rfl, rfl⟩
  | c :: r, 0, _, _, h2 => by
    have := h2 c rfl
    simp [this]
  | c :: r, k + 1, hk, h1, h2 => by
    have hc := h1 0 c (by omega) rfl
    have ih := span_of (l := r) (k := k) (by simpa using hk) (fun j d hj hd => h1 (j + 1) d (by omega) (by simpa using hd)) (fun d hd => h2 d (by simpa using hd))
    simp [hc, ih.1, ih.2]
/-- Where a parser stands. -/
def stands (b : Nat) (W : World) : Nat :=
  match W.cell? ⟨b, 1, none⟩ with
  | some (.int _ n) => n.toNat
  | _ => 0
theorem stands_at {W : World} {b : Nat} {s : ByteArray} {x y z : Nat} (h : PAt W b s x y z) : stands b W = x := by
  unfold stands; rw [h.cells.2.1]; rfl
def WhileEnd (p : UInt8 → Bool) (W : World) (b : Nat) (s : ByteArray) (x y z : Nat) (e : Ending) (w' : World) : Prop :=
  ∃ k, x ≤ k ∧ k ≤ s.size ∧ e = .returned (.string (s.extract x k)) ∧ PAt w' b s k y z ∧ But b W w' ∧ (s.data.toList.drop x).takeWhile p = (s.data.toList.drop x).take (k - x) ∧ (s.data.toList.drop x).dropWhile p = s.data.toList.drop k
set_option maxRecDepth 100000 in
set_option maxHeartbeats 1000000 in
theorem while_blank (p : UInt8 → Bool) (hf : ∀ (c : UInt8) (W : World), Calls Tryz.prog 147 #[.int .u8 c.toNat] W fun e w' => e = .returned (.bool (p c)) ∧ w' = W)
    (W : World) (b : Nat) (s : ByteArray) (x y z : Nat) (h : PAt W b s x y z) (hx : x ≤ s.size) (hz : s.size ≤ 1000000) :
    Calls Tryz.prog 146 #[.pointer (some ⟨b, 0, none⟩), .func (.func 147) #[] #[]] W (WhileEnd p W b s x y z) := by
  have H := Lib.hid h
  obtain ⟨k0, k1, k2, k3, kf⟩ := h.cells
  clear h
  go_enter Tryz.func146, Tryz.ntmps146
  go_wp2
  clear k0 k1 k2 k3 kf
  go_loopw [] (fun wr => ∃ k, x ≤ k ∧ k ≤ s.size ∧ Hid (PAt wr b s k y z) ∧ Hid (But b W wr) ∧ Hid (∀ (j : Nat) c, j < k - x → (s.data.toList.drop x)[j]? = some c → p c = true)) (fun wr => s.size - stands b wr)
  case atStart => exact ⟨x, Nat.le_refl _, hx, H, Lib.hid (But.refl _ _), Lib.hid (fun j c hj => by omega)⟩
  case round =>
    obtain ⟨k, hxk, hk, HP, HB, HJ⟩ := hrel
    obtain ⟨k0, k1, k2, k3, kf⟩ := HP.out.cells
    by_cases hlt : k < s.size
    · have hlt' : (k : Int) < (s.size : Int) := by omega
      have hc := fun W => hf (s[k]'hlt) W
      cases hp : p (s[k]'hlt) with
      | true =>
        rw [hp] at hc
        have HPP := Lib.hid hp
        clear hp
        have hw : IntKind.i64.wrap ((k : Int) + 1) = ((k + 1 : Nat) : Int) := by rw [IntWalk.i64_in _ (by omega)]; omega
        have HJ2 : Hid (∀ (j : Nat) c, j < k + 1 - x → (s.data.toList.drop x)[j]? = some c → p c = true) := Lib.hid fun j c hj hc2 => by
          rcases Nat.lt_or_ge j (k - x) with g | g
          · exact HJ.out j c g hc2
          · have e : x + j = k := by omega
            rw [List.getElem?_drop, e, get_list hlt] at hc2
            rw [← Option.some.inj hc2]; exact HPP.out
        go_wp2_with fail
        go_quiet ((go_at_call 147; exact Calls.quiet_of_same (hc _)))
        go_wp2
        have HP2 := (HP.out.below (drewN_below wr nq)).set1 (k + 1)
        have hm : s.size - stands b ((wr.drewN nq).setCell ⟨b, 1, none⟩ (.int .i64 ((k + 1 : Nat) : Int))) < s.size - k := by rw [stands_at HP2]; omega
        exact ⟨⟨k + 1, by omega, by omega, Lib.hid HP2, Lib.hid ((HB.out.trans (But.of (drewN_below _ _))).trans (But.set _ _ _ _)), HJ2⟩, by rw [stands_at HP.out]; exact hm⟩
      | false =>
        rw [hp] at hc
        have HPP := Lib.hid hp
        clear hp
        have hxk' : (x : Int) ≤ (k : Int) := by omega
        have hk' : (k : Int) ≤ (s.size : Int) := by omega
        go_wp2_with fail
        go_quiet ((go_at_call 147; exact Calls.quiet_of_same (hc _)))
        go_wp2
        go_quiet (fail)
        go_wp2
        go_ret
        have hsp := span_of (p := p) (l := s.data.toList.drop x) (k := k - x) (by rw [List.length_drop, ← Lib.size_eq]; omega) HJ.out (fun c hc2 => by
          have e : x + (k - x) = k := by omega
          rw [List.getElem?_drop, e, get_list hlt] at hc2
          rw [← Option.some.inj hc2]; exact HPP.out)
        refine ⟨k, hxk, hk, rfl, (HP.out.below (drewN_below _ _)).below (drewN_below _ _), HB.out.trans (But.of (belowN (drewN_below _ _) _)), hsp.1, ?_⟩
        rw [hsp.2, List.drop_drop, show x + (k - x) = k by omega]
    · obtain rfl : k = s.size := by omega
      have hxk' : (x : Int) ≤ (s.size : Int) := by omega
      have hlt' : ¬ (s.size : Int) < (s.size : Int) := by omega
      go_wp2_with fail
      go_quiet (fail)
      go_wp2
      go_quiet (fail)
      go_wp2
      go_ret
      have hsp := span_of (p := p) (l := s.data.toList.drop x) (k := s.size - x) (by rw [List.length_drop, ← Lib.size_eq]; omega) HJ.out (fun c hc2 => by
        rw [List.getElem?_eq_none (by rw [List.length_drop, ← Lib.size_eq]; omega)] at hc2; cases hc2)
      refine ⟨s.size, hxk, hk, rfl, (HP.out.below (drewN_below _ _)).below (drewN_below _ _), HB.out.trans (But.of (belowN (drewN_below _ _) _)), hsp.1, ?_⟩
      rw [hsp.2, List.drop_drop, show x + (s.size - x) = s.size by omega]
set_option maxRecDepth 100000 in
set_option maxHeartbeats 1000000 in
theorem while_plain (p : UInt8 → Bool) (hf : ∀ (c : UInt8) (W : World), Calls Tryz.prog 148 #[.int .u8 c.toNat] W fun e w' => e = .returned (.bool (p c)) ∧ w' = W)
    (W : World) (b : Nat) (s : ByteArray) (x y z : Nat) (h : PAt W b s x y z) (hx : x ≤ s.size) (hz : s.size ≤ 1000000) :
    Calls Tryz.prog 146 #[.pointer (some ⟨b, 0, none⟩), .func (.func 148) #[] #[]] W (WhileEnd p W b s x y z) := by
  have H := Lib.hid h
  obtain ⟨k0, k1, k2, k3, kf⟩ := h.cells
  clear h
  go_enter Tryz.func146, Tryz.ntmps146
  go_wp2
  clear k0 k1 k2 k3 kf
  go_loopw [] (fun wr => ∃ k, x ≤ k ∧ k ≤ s.size ∧ Hid (PAt wr b s k y z) ∧ Hid (But b W wr) ∧ Hid (∀ (j : Nat) c, j < k - x → (s.data.toList.drop x)[j]? = some c → p c = true)) (fun wr => s.size - stands b wr)
  case atStart => exact ⟨x, Nat.le_refl _, hx, H, Lib.hid (But.refl _ _), Lib.hid (fun j c hj => by omega)⟩
  case round =>
    obtain ⟨k, hxk, hk, HP, HB, HJ⟩ := hrel
    obtain ⟨k0, k1, k2, k3, kf⟩ := HP.out.cells
    by_cases hlt : k < s.size
    · have hlt' : (k : Int) < (s.size : Int) := by omega
      have hc := fun W => hf (s[k]'hlt) W
      cases hp : p (s[k]'hlt) with
      | true =>
        rw [hp] at hc
        have HPP := Lib.hid hp
        clear hp
        have hw : IntKind.i64.wrap ((k : Int) + 1) = ((k + 1 : Nat) : Int) := by rw [IntWalk.i64_in _ (by omega)]; omega
        have HJ2 : Hid (∀ (j : Nat) c, j < k + 1 - x → (s.data.toList.drop x)[j]? = some c → p c = true) := Lib.hid fun j c hj hc2 => by
          rcases Nat.lt_or_ge j (k - x) with g | g
          · exact HJ.out j c g hc2
          · have e : x + j = k := by omega
            rw [List.getElem?_drop, e, get_list hlt] at hc2
            rw [← Option.some.inj hc2]; exact HPP.out
        go_wp2_with fail
        go_quiet ((go_at_call 148; exact Calls.quiet_of_same (hc _)))
        go_wp2
        have HP2 := (HP.out.below (drewN_below wr nq)).set1 (k + 1)
        have hm : s.size - stands b ((wr.drewN nq).setCell ⟨b, 1, none⟩ (.int .i64 ((k + 1 : Nat) : Int))) < s.size - k := by rw [stands_at HP2]; omega
        exact ⟨⟨k + 1, by omega, by omega, Lib.hid HP2, Lib.hid ((HB.out.trans (But.of (drewN_below _ _))).trans (But.set _ _ _ _)), HJ2⟩, by rw [stands_at HP.out]; exact hm⟩
      | false =>
        rw [hp] at hc
        have HPP := Lib.hid hp
        clear hp
        have hxk' : (x : Int) ≤ (k : Int) := by omega
        have hk' : (k : Int) ≤ (s.size : Int) := by omega
        go_wp2_with fail
        go_quiet ((go_at_call 148; exact Calls.quiet_of_same (hc _)))
        go_wp2
        go_quiet (fail)
        go_wp2
        go_ret
        have hsp := span_of (p := p) (l := s.data.toList.drop x) (k := k - x) (by rw [List.length_drop, ← Lib.size_eq]; omega) HJ.out (fun c hc2 => by
          have e : x + (k - x) = k := by omega
          rw [List.getElem?_drop, e, get_list hlt] at hc2
          rw [← Option.some.inj hc2]; exact HPP.out)
        refine ⟨k, hxk, hk, rfl, (HP.out.below (drewN_below _ _)).below (drewN_below _ _), HB.out.trans (But.of (belowN (drewN_below _ _) _)), hsp.1, ?_⟩
        rw [hsp.2, List.drop_drop, show x + (k - x) = k by omega]
    · obtain rfl : k = s.size := by omega
      have hxk' : (x : Int) ≤ (s.size : Int) := by omega
      have hlt' : ¬ (s.size : Int) < (s.size : Int) := by omega
      go_wp2_with fail
      go_quiet (fail)
      go_wp2
      go_quiet (fail)
      go_wp2
      go_ret
      have hsp := span_of (p := p) (l := s.data.toList.drop x) (k := s.size - x) (by rw [List.length_drop, ← Lib.size_eq]; omega) HJ.out (fun c hc2 => by
        rw [List.getElem?_eq_none (by rw [List.length_drop, ← Lib.size_eq]; omega)] at hc2; cases hc2)
      refine ⟨s.size, hxk, hk, rfl, (HP.out.below (drewN_below _ _)).below (drewN_below _ _), HB.out.trans (But.of (belowN (drewN_below _ _) _)), hsp.1, ?_⟩
      rw [hsp.2, List.drop_drop, show x + (s.size - x) = s.size by omega]
set_option maxRecDepth 100000 in
set_option maxHeartbeats 1000000 in
theorem while_numeric (p : UInt8 → Bool) (hf : ∀ (c : UInt8) (W : World), Calls Tryz.prog 185 #[.int .u8 c.toNat] W fun e w' => e = .returned (.bool (p c)) ∧ w' = W)
    (W : World) (b : Nat) (s : ByteArray) (x y z : Nat) (h : PAt W b s x y z) (hx : x ≤ s.size) (hz : s.size ≤ 1000000) :
    Calls Tryz.prog 146 #[.pointer (some ⟨b, 0, none⟩), .func (.func 185) #[] #[]] W (WhileEnd p W b s x y z) := by
  have H := Lib.hid h
  obtain ⟨k0, k1, k2, k3, kf⟩ := h.cells
  clear h
  go_enter Tryz.func146, Tryz.ntmps146
  go_wp2
  clear k0 k1 k2 k3 kf
  go_loopw [] (fun wr => ∃ k, x ≤ k ∧ k ≤ s.size ∧ Hid (PAt wr b s k y z) ∧ Hid (But b W wr) ∧ Hid (∀ (j : Nat) c, j < k - x → (s.data.toList.drop x)[j]? = some c → p c = true)) (fun wr => s.size - stands b wr)
  case atStart => exact ⟨x, Nat.le_refl _, hx, H, Lib.hid (But.refl _ _), Lib.hid (fun j c hj => by omega)⟩
  case round =>
    obtain ⟨k, hxk, hk, HP, HB, HJ⟩ := hrel
    obtain ⟨k0, k1, k2, k3, kf⟩ := HP.out.cells
    by_cases hlt : k < s.size
    · have hlt' : (k : Int) < (s.size : Int) := by omega
      have hc := fun W => hf (s[k]'hlt) W
      cases hp : p (s[k]'hlt) with
      | true =>
        rw [hp] at hc
        have HPP := Lib.hid hp
        clear hp
        have hw : IntKind.i64.wrap ((k : Int) + 1) = ((k + 1 : Nat) : Int) := by rw [IntWalk.i64_in _ (by omega)]; omega
        have HJ2 : Hid (∀ (j : Nat) c, j < k + 1 - x → (s.data.toList.drop x)[j]? = some c → p c = true) := Lib.hid fun j c hj hc2 => by
          rcases Nat.lt_or_ge j (k - x) with g | g
          · exact HJ.out j c g hc2
          · have e : x + j = k := by omega
            rw [List.getElem?_drop, e, get_list hlt] at hc2
            rw [← Option.some.inj hc2]; exact HPP.out
        go_wp2_with fail
        go_quiet ((go_at_call 185; exact Calls.quiet_of_same (hc _)))
        go_wp2
        have HP2 := (HP.out.below (drewN_below wr nq)).set1 (k + 1)
        have hm : s.size - stands b ((wr.drewN nq).setCell ⟨b, 1, none⟩ (.int .i64 ((k + 1 : Nat) : Int))) < s.size - k := by rw [stands_at HP2]; omega
        exact ⟨⟨k + 1, by omega, by omega, Lib.hid HP2, Lib.hid ((HB.out.trans (But.of (drewN_below _ _))).trans (But.set _ _ _ _)), HJ2⟩, by rw [stands_at HP.out]; exact hm⟩
      | false =>
        rw [hp] at hc
        have HPP := Lib.hid hp
        clear hp
        have hxk' : (x : Int) ≤ (k : Int) := by omega
        have hk' : (k : Int) ≤ (s.size : Int) := by omega
        go_wp2_with fail
        go_quiet ((go_at_call 185; exact Calls.quiet_of_same (hc _)))
        go_wp2
        go_quiet (fail)
        go_wp2
        go_ret
        have hsp := span_of (p := p) (l := s.data.toList.drop x) (k := k - x) (by rw [List.length_drop, ← Lib.size_eq]; omega) HJ.out (fun c hc2 => by
          have e : x + (k - x) = k := by omega
          rw [List.getElem?_drop, e, get_list hlt] at hc2
          rw [← Option.some.inj hc2]; exact HPP.out)
        refine ⟨k, hxk, hk, rfl, (HP.out.below (drewN_below _ _)).below (drewN_below _ _), HB.out.trans (But.of (belowN (drewN_below _ _) _)), hsp.1, ?_⟩
        rw [hsp.2, List.drop_drop, show x + (k - x) = k by omega]
    · obtain rfl : k = s.size := by omega
      have hxk' : (x : Int) ≤ (s.size : Int) := by omega
      have hlt' : ¬ (s.size : Int) < (s.size : Int) := by omega
      go_wp2_with fail
      go_quiet (fail)
      go_wp2
      go_quiet (fail)
      go_wp2
      go_ret
      have hsp := span_of (p := p) (l := s.data.toList.drop x) (k := s.size - x) (by rw [List.length_drop, ← Lib.size_eq]; omega) HJ.out (fun c hc2 => by
        rw [List.getElem?_eq_none (by rw [List.length_drop, ← Lib.size_eq]; omega)] at hc2; cases hc2)
      refine ⟨s.size, hxk, hk, rfl, (HP.out.below (drewN_below _ _)).below (drewN_below _ _), HB.out.trans (But.of (belowN (drewN_below _ _) _)), hsp.1, ?_⟩
      rw [hsp.2, List.drop_drop, show x + (s.size - x) = s.size by omega]
theorem blanks_any (W : World) (b : Nat) (s : ByteArray) (x y z : Nat) (h : PAt W b s x y z) (hx : x ≤ s.size) (hz : s.size ≤ 1000000) :
    Calls Tryz.prog 94 #[.pointer (some ⟨b, 0, none⟩)] W fun e w' => ∃ k, x ≤ k ∧ k ≤ s.size ∧ e = .returned NoVal ∧ PAt w' b s k y z ∧ But b W w' ∧ skip (s.data.toList.drop x) = s.data.toList.drop k := by
  have hw := while_blank isBlank blank_any W b s x y z h hx hz
  go_enter Tryz.func94, Tryz.ntmps94
  go_wp2_with fail
  refine hw.mono ?_
  rintro e w1 ⟨k, h1, h2, rfl, h3, h4, _, h6⟩
  go_wp2
  go_end0
  exact ⟨k, h1, h2, rfl, h3, h4, h6⟩
end Go.Proofs.YtgcpgieojckheaaGreatDoor.Json
namespace Go.Proofs.YtgcpgieojckheaaGreatDoor.Json
open Go.RowKit Go.Shelf

theorem signs_index : ∀ c : UInt8, decide (0 ≤ Lib.indexByte [43, 45, 46, 101, 69] c) = (c == 43 || c == 45 || c == 46 || c == 101 || c == 69) := by
  intro c
  simp only [Lib.indexByte]
  by_cases h1 : c = 43
  · subst h1; rfl
  · by_cases h2 : c = 45
    · subst h2; rfl
    · by_cases h3 : c = 46
      · subst h3; rfl
      · by_cases h4 : c = 101
        · subst h4; rfl
        · by_cases h5 : c = 69
          · subst h5; rfl
          · simp [h1, h2, h3, h4, h5, Ne.symm h1, Ne.symm h2, Ne.symm h3, Ne.symm h4, Ne.symm h5]
theorem numeric_any (c : UInt8) (w : World) : Calls Tryz.prog 185 #[.int .u8 c.toNat] w fun e w' => e = .returned (.bool (isNumc c)) ∧ w' = w := by
  have hi := fun W => Tryz.strings_IndexByte ⟨#[43, 45, 46, 101, 69]⟩ (c.toNat : Int) W
  have hc : ((c.toNat : Int)).toNat.toUInt8 = c := by simp
  rw [hc] at hi
  have hs := signs_index c
  have HB : Hid (isNumc c = (isDig c || (c == 43 || c == 45 || c == 46 || c == 101 || c == 69))) := Lib.hid (by unfold isNumc; simp only [Bool.or_assoc])
  rw [← hs] at HB
  simp only at hi
  generalize Lib.indexByte [43, 45, 46, 101, 69] c = I at *
  by_cases h1 : 48 ≤ c.toNat
  · have h1' : (48 : Int) ≤ (c.toNat : Int) := by omega
    by_cases h2 : c.toNat ≤ 57
    · have h2' : (c.toNat : Int) ≤ 57 := by omega
      have HD : Hid (isDig c = true) := Lib.hid (isDig_iff.2 ⟨h1, h2⟩)
      clear hs
      go_enter Tryz.func185, Tryz.ntmps185
      go_wp2_with fail
      go_ret
      exact ⟨by rw [HB.out, HD.out]; rfl, rfl⟩
    · have h2' : ¬ (c.toNat : Int) ≤ 57 := by omega
      have HD : Hid (isDig c = false) := Lib.hid (Bool.eq_false_iff.2 fun h => h2 (isDig_iff.1 h).2)
      clear hs
      go_enter Tryz.func185, Tryz.ntmps185
      go_wp2_with fail
      refine (hi _).mono ?_
      rintro e w1 ⟨rfl, rfl⟩
      go_wp2
      go_ret
      exact ⟨by rw [HB.out, HD.out]; rfl, rfl⟩
  · have h1' : ¬ (48 : Int) ≤ (c.toNat : Int) := by omega
    have HD : Hid (isDig c = false) := Lib.hid (Bool.eq_false_iff.2 fun h => h1 (isDig_iff.1 h).1)
    clear hs
    go_enter Tryz.func185, Tryz.ntmps185
    go_wp2_with fail
    refine (hi _).mono ?_
    rintro e w1 ⟨rfl, rfl⟩
    go_wp2
    go_ret
    exact ⟨by rw [HB.out, HD.out]; rfl, rfl⟩
end Go.Proofs.YtgcpgieojckheaaGreatDoor.Json
namespace Go.Proofs.YtgcpgieojckheaaGreatDoor.Json
open Go.RowKit Go.Shelf

theorem tab_but {w w' : World} {b : Nat} (h : Tab w) (hb : But b w w') (h1 : b ≠ 1) (h2 : b ≠ 2) : Tab w' := by
  obtain ⟨h3, ev, h4, h5⟩ := h
  refine ⟨?_, ev, ?_, h5⟩
  · unfold Lib.TabIs World.var? at h3 ⊢
    rw [show Tryz.prog.globalNamed "internal/strconv.uint64pow10" = some 2 by kernel_rfl] at h3 ⊢
    simp only [Option.bind_some] at h3 ⊢
    have hlt : 2 < w.heap.size := by
      rcases Nat.lt_or_ge 2 w.heap.size with h' | h'
      · exact h'
      · rw [Array.getElem?_eq_none h'] at h3; cases h3
    rw [hb.block 2 hlt (fun e => h2 e.symm)]
    exact h3
  · have hlt := World.block_lt_of_cell? w _ h4
    have := hb.block 1 hlt (fun e => h1 e.symm)
    unfold World.cell? at h4 ⊢
    simp only at h4 ⊢
    rw [this]
    exact h4
theorem But.fresh {b B o : Nat} {W w : World} {v : Value} (h : But b W w) (hB : W.heap.size ≤ B) : But b W (w.setCell ⟨B, o, none⟩ v) := by
  have k := Only.set B w o v
  exact ⟨k.os.trans h.os, k.tape.trans h.tape, k.output.trans h.output, by rw [k.size]; exact h.size, fun j hj hb => (k.block j (by omega)).trans (h.block j hj hb)⟩
theorem PAt.other {W : World} {b B o : Nat} {s : ByteArray} {x y z : Nat} {v : Value} (h : PAt W b s x y z) (hB : b ≠ B) : PAt (W.setCell ⟨B, o, none⟩ v) b s x y z :=
  ((Only.set B W o v).block b hB).trans h
/-- A value without parts. -/
def leafV (k : Int) (t : Value) : Value := .agg #[.int .u8 k, t, .slice none 0 0, .slice none 0 0]
set_option maxRecDepth 100000 in
set_option maxHeartbeats 1000000 in
theorem number_ok (W : World) (b : Nat) (s : ByteArray) (x y z : Nat) (h : PAt W b s x y z) (hx : x ≤ s.size) (hz : s.size ≤ 1000000) (ht : Tab W) (b1 : b ≠ 1) (b2 : b ≠ 2)
    (ho : (ownR ((s.data.toList.drop x).takeWhile isNumc)).2 = 0) :
    Calls Tryz.prog 145 #[.pointer (some ⟨b, 0, none⟩)] W fun e w' => ∃ k, x ≤ k ∧ k ≤ s.size ∧ e = .returned (leafV 4 (bl (ownR ((s.data.toList.drop x).takeWhile isNumc)).1)) ∧ PAt w' b s k y z ∧ But b W w' ∧ (s.data.toList.drop x).dropWhile isNumc = s.data.toList.drop k := by
  have hw := fun W2 (h2 : PAt W2 b s x y z) => while_numeric isNumc numeric_any W2 b s x y z h2 hx hz
  go_enter Tryz.func145, Tryz.ntmps145
  go_wp2_with fail
  have hPA := h.below (galloc (Below.refl W.heap.size W) (.cells #[.int .u8 0, .string ⟨#[]⟩, .slice none 0 0, .slice none 0 0] 47))
  have kR := World.alloc_heap_new W (.cells #[.int .u8 0, .string ⟨#[]⟩, .slice none 0 0, .slice none 0 0] 47)
  have hB0 := galloc (Below.refl W.heap.size W) (.cells #[.int .u8 0, .string ⟨#[]⟩, .slice none 0 0, .slice none 0 0] 47)
  have hlt := h.lt
  generalize W.alloc (.cells #[.int .u8 0, .string ⟨#[]⟩, .slice none 0 0, .slice none 0 0] 47) = W0 at *
  refine (hw _ hPA).mono ?_
  rintro e w1 ⟨k, h1, h2, rfl, h3, h4, h5, h6⟩
  have hsz : (s.extract x k).size ≤ 1000000000 := by rw [ByteArray.size_extract]; omega
  have hto : (s.extract x k).data.toList = (s.data.toList.drop x).takeWhile isNumc := by rw [ex_list, h5]
  have hT1 : Tab w1 := tab_but ht ((But.of hB0).trans h4) b1 b2
  have cO := own_any (s.extract x k) w1 hT1 hsz
  unfold OwnEnd at cO
  rw [hto, ho] at cO
  obtain ⟨G, hG⟩ : ∃ g : ByteArray, (⟨(ownR ((s.data.toList.drop x).takeWhile isNumc)).1.toArray⟩ : ByteArray) = g := ⟨_, rfl⟩
  unfold bl at cO
  rw [hG] at cO
  have HG : Hid (bl (ownR ((s.data.toList.drop x).takeWhile isNumc)).1 = .string G) := Lib.hid (by unfold bl; rw [hG])
  have kR1 := (h4.block W.heap.size (by have := (Array.getElem?_eq_some_iff.1 kR).1; exact this) (by omega)).trans kR
  have HB1 := Lib.hid ((But.of hB0).trans h4)
  have HP3 := Lib.hid h3
  have HKR := Lib.hid kR1
  have hlt1 := h3.lt
  have hrs : W.heap.size < w1.heap.size := (Array.getElem?_eq_some_iff.1 kR1).1
  clear hw hPA kR hB0 h3 h4 h5 hto hG hT1 kR1 ht ho
  go_wp2_with fail
  refine cO.mono ?_
  rintro e w2 ⟨rfl, hb2⟩
  have kR2 := (hb2.block _ hrs).trans HKR.out
  have HP4 := Lib.hid (HP3.out.below hb2)
  have HB2 := Lib.hid (HB1.out.trans (But.of hb2))
  clear hb2 cO
  obtain ⟨q0, q1, q2, q3, qf⟩ : w2.cell? ⟨W.heap.size, 0, none⟩ = some (.int .u8 0) ∧ w2.cell? ⟨W.heap.size, 1, none⟩ = some (.string ⟨#[]⟩) ∧ w2.cell? ⟨W.heap.size, 2, none⟩ = some (.slice none 0 0) ∧ w2.cell? ⟨W.heap.size, 3, none⟩ = some (.slice none 0 0) ∧ ∀ o, w2.frozen? ⟨W.heap.size, o, none⟩ = false :=
    ⟨by rw [cellH kR2]; rfl, by rw [cellH kR2]; rfl, by rw [cellH kR2]; rfl, by rw [cellH kR2]; rfl, fun o => Lib.frozen_of_heap kR2 o⟩
  go_wp2
  have kF := heap_setCell_same _ _ 3 _ _ (.slice none 0 0) (heap_setCell_same _ _ 2 _ _ (.slice none 0 0) (heap_setCell_same _ _ 1 _ _ (.string G) (heap_setCell_same _ _ 0 _ _ (.int .u8 4) kR2)))
  have hbne : b ≠ W.heap.size := by omega
  obtain ⟨z0, z1, z2, z3⟩ := (⟨by rw [cellH kF]; rfl, by rw [cellH kF]; rfl, by rw [cellH kF]; rfl, by rw [cellH kF]; rfl⟩ :
    World.cell? _ ⟨W.heap.size, 0, none⟩ = some (.int .u8 4) ∧ World.cell? _ ⟨W.heap.size, 1, none⟩ = some (.string G) ∧ World.cell? _ ⟨W.heap.size, 2, none⟩ = some (.slice none 0 0) ∧ World.cell? _ ⟨W.heap.size, 3, none⟩ = some (.slice none 0 0))
  exact bodyPost_ret (v := leafV 4 (.string G)) (by simp [results, Tryz.results145, go_sem, leafV, z0, z1, z2, z3]) rfl ⟨k, h1, h2, by rw [HG.out], (((HP4.out.other hbne).other hbne).other hbne).other hbne, (((HB2.out.fresh (Nat.le_refl _)).fresh (Nat.le_refl _)).fresh (Nat.le_refl _)).fresh (Nat.le_refl _), h6⟩
set_option maxRecDepth 100000 in
set_option maxHeartbeats 1000000 in
theorem number_bad (W : World) (b : Nat) (s : ByteArray) (x y z : Nat) (h : PAt W b s x y z) (hx : x ≤ s.size) (hz : s.size ≤ 1000000) (ht : Tab W) (b1 : b ≠ 1) (b2 : b ≠ 2)
    (ho : (ownR ((s.data.toList.drop x).takeWhile isNumc)).2 ≠ 0) :
    Calls Tryz.prog 145 #[.pointer (some ⟨b, 0, none⟩)] W (Bad (ownR ((s.data.toList.drop x).takeWhile isNumc)).2 b W) := by
  have hw := fun W2 (h2 : PAt W2 b s x y z) => while_numeric isNumc numeric_any W2 b s x y z h2 hx hz
  go_enter Tryz.func145, Tryz.ntmps145
  go_wp2_with fail
  have hPA := h.below (galloc (Below.refl W.heap.size W) (.cells #[.int .u8 0, .string ⟨#[]⟩, .slice none 0 0, .slice none 0 0] 47))
  have kR := World.alloc_heap_new W (.cells #[.int .u8 0, .string ⟨#[]⟩, .slice none 0 0, .slice none 0 0] 47)
  have hB0 := galloc (Below.refl W.heap.size W) (.cells #[.int .u8 0, .string ⟨#[]⟩, .slice none 0 0, .slice none 0 0] 47)
  have hlt := h.lt
  generalize W.alloc (.cells #[.int .u8 0, .string ⟨#[]⟩, .slice none 0 0, .slice none 0 0] 47) = W0 at *
  refine (hw _ hPA).mono ?_
  rintro e w1 ⟨k, h1, h2, rfl, h3, h4, h5, h6⟩
  have hsz : (s.extract x k).size ≤ 1000000000 := by rw [ByteArray.size_extract]; omega
  have hto : (s.extract x k).data.toList = (s.data.toList.drop x).takeWhile isNumc := by rw [ex_list, h5]
  have hT1 : Tab w1 := tab_but ht ((But.of hB0).trans h4) b1 b2
  have cO := own_any (s.extract x k) w1 hT1 hsz
  unfold OwnEnd at cO
  rw [hto] at cO
  generalize (ownR ((s.data.toList.drop x).takeWhile isNumc)).2 = E at *
  have e1 : (E == 0) = false := by simpa using ho
  have e2 : (E != 0) = true := by simpa using ho
  obtain ⟨G, hG⟩ : ∃ g : ByteArray, (⟨(ownR ((s.data.toList.drop x).takeWhile isNumc)).1.toArray⟩ : ByteArray) = g := ⟨_, rfl⟩
  unfold bl at cO
  rw [hG] at cO
  have kR1 := (h4.block W.heap.size (by have := (Array.getElem?_eq_some_iff.1 kR).1; exact this) (by omega)).trans kR
  have HB1 := Lib.hid ((But.of hB0).trans h4)
  have HP3 := Lib.hid h3
  have HKR := Lib.hid kR1
  have hlt1 := h3.lt
  have hrs : W.heap.size < w1.heap.size := (Array.getElem?_eq_some_iff.1 kR1).1
  clear hw hPA kR hB0 h3 h4 h5 hto hG hT1 kR1 ht ho
  go_wp2_with fail
  refine cO.mono ?_
  rintro e w2 ⟨rfl, hb2⟩
  have kR2 := (hb2.block _ hrs).trans HKR.out
  have HP4 := Lib.hid (HP3.out.below hb2)
  have HB2 := Lib.hid (HB1.out.trans (But.of hb2))
  clear hb2 cO
  go_wp2
  exact ⟨rfl, rfl, HB2.out⟩
end Go.Proofs.YtgcpgieojckheaaGreatDoor.Json
namespace Go.Proofs.YtgcpgieojckheaaGreatDoor.Json
open Go.RowKit Go.Shelf

theorem word_bad (W : World) (b : Nat) (s : ByteArray) (x y z : Nat) (p : ByteArray) (k : Nat) (h : PAt W b s x y z) (hx : x ≤ s.size) (hp : Lib.hasPrefix (s.data.toList.drop x) p.data.toList = false) :
    Calls Tryz.prog 141 #[.pointer (some ⟨b, 0, none⟩), .string p, .int .u8 k] W (Bad 4 b W) := by
  have hq := fun W => Tryz.strings_HasPrefix (s.extract x s.size) p W
  have he : (s.extract x s.size).data.toList = s.data.toList.drop x := by rw [ex_list, List.take_of_length_le (by rw [List.length_drop, ← Lib.size_eq]; exact Nat.le_refl _)]
  rw [he, hp] at hq
  have hx' : (x : Int) ≤ (s.size : Int) := by omega
  have hPA := h.below (galloc (Below.refl W.heap.size W) (.cells #[.int .u8 0, .string ⟨#[]⟩, .slice none 0 0, .slice none 0 0] 47))
  have hB0 := Lib.hid (galloc (Below.refl W.heap.size W) (.cells #[.int .u8 0, .string ⟨#[]⟩, .slice none 0 0, .slice none 0 0] 47))
  clear he hp h
  go_enter Tryz.func141, Tryz.ntmps141
  go_wp2_with fail
  generalize W.alloc (.cells #[.int .u8 0, .string ⟨#[]⟩, .slice none 0 0, .slice none 0 0] 47) = W0 at *
  obtain ⟨k0, k1, k2, k3, kf⟩ := hPA.cells
  go_quiet ((go_at_call 84; exact Calls.quiet_of_same (hq _)))
  go_wp2
  exact ⟨rfl, rfl, But.of (belowN hB0.out _)⟩
set_option maxHeartbeats 1000000 in
theorem word_ok (W : World) (b : Nat) (s : ByteArray) (x y z : Nat) (p : ByteArray) (k : Nat) (h : PAt W b s x y z) (hx : x ≤ s.size) (hz : s.size ≤ 1000000) (hpz : p.size ≤ 10) (hp : Lib.hasPrefix (s.data.toList.drop x) p.data.toList = true) :
    Calls Tryz.prog 141 #[.pointer (some ⟨b, 0, none⟩), .string p, .int .u8 k] W fun e w' => e = .returned (leafV k (.string ⟨#[]⟩)) ∧ PAt w' b s (x + p.size) y z ∧ But b W w' := by
  have hq := fun W => Tryz.strings_HasPrefix (s.extract x s.size) p W
  have he : (s.extract x s.size).data.toList = s.data.toList.drop x := by rw [ex_list, List.take_of_length_le (by rw [List.length_drop, ← Lib.size_eq]; exact Nat.le_refl _)]
  rw [he, hp] at hq
  have hx' : (x : Int) ≤ (s.size : Int) := by omega
  have hPA := h.below (galloc (Below.refl W.heap.size W) (.cells #[.int .u8 0, .string ⟨#[]⟩, .slice none 0 0, .slice none 0 0] 47))
  have hB0 := Lib.hid (galloc (Below.refl W.heap.size W) (.cells #[.int .u8 0, .string ⟨#[]⟩, .slice none 0 0, .slice none 0 0] 47))
  have kR := World.alloc_heap_new W (.cells #[.int .u8 0, .string ⟨#[]⟩, .slice none 0 0, .slice none 0 0] 47)
  have hbne : b ≠ W.heap.size := by have := h.lt; omega
  have hw : IntKind.i64.wrap ((x : Int) + (p.size : Int)) = ((x + p.size : Nat) : Int) := by rw [IntWalk.i64_in _ (by omega)]; omega
  clear he hp h
  go_enter Tryz.func141, Tryz.ntmps141
  go_wp2_with fail
  generalize W.alloc (.cells #[.int .u8 0, .string ⟨#[]⟩, .slice none 0 0, .slice none 0 0] 47) = W0 at *
  obtain ⟨k0, k1, k2, k3, kf⟩ := hPA.cells
  obtain ⟨q0, q1, q2, q3, qf⟩ : W0.cell? ⟨W.heap.size, 0, none⟩ = some (.int .u8 0) ∧ W0.cell? ⟨W.heap.size, 1, none⟩ = some (.string ⟨#[]⟩) ∧ W0.cell? ⟨W.heap.size, 2, none⟩ = some (.slice none 0 0) ∧ W0.cell? ⟨W.heap.size, 3, none⟩ = some (.slice none 0 0) ∧ ∀ o, W0.frozen? ⟨W.heap.size, o, none⟩ = false :=
    ⟨by rw [cellH kR]; rfl, by rw [cellH kR]; rfl, by rw [cellH kR]; rfl, by rw [cellH kR]; rfl, fun o => Lib.frozen_of_heap kR o⟩
  have HPA := Lib.hid hPA
  have HKR := Lib.hid kR
  clear kR hPA
  go_quiet ((go_at_call 84; exact Calls.quiet_of_same (hq _)))
  go_wp2
  have hbn : W.heap.size ≠ b := fun e => hbne e.symm
  have kR1 : ((W0.drewN nq).setCell ⟨b, 1, none⟩ (.int .i64 ((x : Int) + (p.size : Int)))).heap[W.heap.size]? = some (.cells #[.int .u8 0, .string ⟨#[]⟩, .slice none 0 0, .slice none 0 0] 47 (0, 0)) := ((Only.set b (W0.drewN nq) 1 _).block _ hbn).trans HKR.out
  have hP1 : PAt ((W0.drewN nq).setCell ⟨b, 1, none⟩ (.int .i64 ((x : Int) + (p.size : Int)))) b s (x + p.size) y z := by
    have := (HPA.out.below (drewN_below W0 nq)).set1 (x + p.size)
    rw [Int.natCast_add] at this
    exact this
  have hU1 : But b W ((W0.drewN nq).setCell ⟨b, 1, none⟩ (.int .i64 ((x : Int) + (p.size : Int)))) := (But.of (belowN hB0.out _)).trans (But.set _ _ _ _)
  generalize (W0.drewN nq).setCell ⟨b, 1, none⟩ (.int .i64 ((x : Int) + (p.size : Int))) = w2 at *
  have kF := heap_setCell_same _ _ 3 _ _ (.slice none 0 0) (heap_setCell_same _ _ 2 _ _ (.slice none 0 0) (heap_setCell_same _ _ 1 _ _ (.string ⟨#[]⟩) (heap_setCell_same _ _ 0 _ _ (.int .u8 k) kR1)))
  obtain ⟨z0, z1, z2, z3⟩ := (⟨by rw [cellH kF]; rfl, by rw [cellH kF]; rfl, by rw [cellH kF]; rfl, by rw [cellH kF]; rfl⟩ :
    World.cell? _ ⟨W.heap.size, 0, none⟩ = some (.int .u8 k) ∧ World.cell? _ ⟨W.heap.size, 1, none⟩ = some (.string ⟨#[]⟩) ∧ World.cell? _ ⟨W.heap.size, 2, none⟩ = some (.slice none 0 0) ∧ World.cell? _ ⟨W.heap.size, 3, none⟩ = some (.slice none 0 0))
  exact bodyPost_ret (v := leafV k (.string ⟨#[]⟩)) (by simp [results, Tryz.results141, go_sem, leafV, z0, z1, z2, z3]) rfl ⟨rfl, (((hP1.other hbne).other hbne).other hbne).other hbne, (((hU1.fresh (Nat.le_refl _)).fresh (Nat.le_refl _)).fresh (Nat.le_refl _)).fresh (Nat.le_refl _)⟩
end Go.Proofs.YtgcpgieojckheaaGreatDoor.Json
namespace Go.Proofs.YtgcpgieojckheaaGreatDoor.Json
open Go.RowKit Go.Shelf

/-- A reader lies at b. -/
def RAt (W : World) (b : Nat) (s : ByteArray) (x n : Nat) (e : Int) : Prop := W.heap[b]? = some (.cells #[.string s, .int .i64 x, .int .i64 n, .int .i64 e] 102 (0, 0))
theorem RAt.cells {W : World} {b : Nat} {s : ByteArray} {x n : Nat} {e : Int} (h : RAt W b s x n e) :
    W.cell? ⟨b, 0, none⟩ = some (.string s) ∧ W.cell? ⟨b, 1, none⟩ = some (.int .i64 x) ∧ W.cell? ⟨b, 2, none⟩ = some (.int .i64 n) ∧ W.cell? ⟨b, 3, none⟩ = some (.int .i64 e) ∧ ∀ o, W.frozen? ⟨b, o, none⟩ = false :=
  ⟨by rw [cellH h]; rfl, by rw [cellH h]; rfl, by rw [cellH h]; rfl, by rw [cellH h]; rfl, fun o => Lib.frozen_of_heap h o⟩
theorem RAt.lt {W : World} {b : Nat} {s : ByteArray} {x n : Nat} {e : Int} (h : RAt W b s x n e) : b < W.heap.size := (Array.getElem?_eq_some_iff.1 h).1
theorem RAt.below {W W' : World} {b : Nat} {s : ByteArray} {x n : Nat} {e : Int} (h : RAt W b s x n e) (hb : Below W.heap.size W W') : RAt W' b s x n e := (hb.block b h.lt).trans h
theorem RAt.set1 {W : World} {b : Nat} {s : ByteArray} {x n : Nat} {e : Int} (h : RAt W b s x n e) (u : Nat) : RAt (W.setCell ⟨b, 1, none⟩ (.int .i64 u)) b s u n e := heap_setCell_same W b 1 _ _ _ h
theorem RAt.set2 {W : World} {b : Nat} {s : ByteArray} {x n : Nat} {e : Int} (h : RAt W b s x n e) (u : Nat) : RAt (W.setCell ⟨b, 2, none⟩ (.int .i64 u)) b s x u e := heap_setCell_same W b 2 _ _ _ h
theorem RAt.set3 {W : World} {b : Nat} {s : ByteArray} {x n : Nat} {e : Int} (h : RAt W b s x n e) (u : Int) : RAt (W.setCell ⟨b, 3, none⟩ (.int .i64 u)) b s x n u := heap_setCell_same W b 3 _ _ _ h
theorem more_any (W : World) (b : Nat) (s : ByteArray) (x n : Nat) (e : Int) (h : RAt W b s x n e) :
    Calls Tryz.prog 104 #[.pointer (some ⟨b, 0, none⟩)] W fun r w' => r = .returned (.bool (e == 0 && decide (x < s.size))) ∧ Below W.heap.size W w' := by
  obtain ⟨k0, k1, k2, k3, kf⟩ := h.cells
  by_cases he : e = 0
  · have h1 : (e == 0) = true := by simpa using he
    by_cases hx : x < s.size
    · have hx' : (x : Int) < (s.size : Int) := by omega
      have HR : Hid ((e == 0 && decide (x < s.size)) = true) := Lib.hid (by rw [h1, decide_eq_true hx]; rfl)
      clear he
      go_enter Tryz.func104, Tryz.ntmps104
      go_wp2
      go_quiet (fail)
      go_wp2
      go_ret
      exact ⟨by rw [HR.out]; rfl, drewN_below _ _⟩
    · have hx' : ¬ (x : Int) < (s.size : Int) := by omega
      have HR : Hid ((e == 0 && decide (x < s.size)) = false) := Lib.hid (by rw [decide_eq_false hx, Bool.and_false])
      clear he
      go_enter Tryz.func104, Tryz.ntmps104
      go_wp2
      go_quiet (fail)
      go_wp2
      go_ret
      exact ⟨by rw [HR.out]; rfl, drewN_below _ _⟩
  · have h1 : (e == 0) = false := by simpa using he
    have HR : Hid ((e == 0 && decide (x < s.size)) = false) := Lib.hid (by rw [h1]; rfl)
    go_enter Tryz.func104, Tryz.ntmps104
    go_wp2
    go_quiet (fail)
    go_wp2
    go_ret
    exact ⟨by rw [HR.out]; rfl, drewN_below _ _⟩
theorem rnext_in (W : World) (b : Nat) (s : ByteArray) (x n : Nat) (h : RAt W b s x n 0) (hx : x < s.size) :
    Calls Tryz.prog 105 #[.pointer (some ⟨b, 0, none⟩)] W fun r w' => r = .returned (.int .u8 (s[x]'hx).toNat) ∧ Below W.heap.size W w' := by
  have hm := more_any W b s x n 0 h
  rw [decide_eq_true hx] at hm
  have hx' : (x : Int) < (s.size : Int) := by omega
  have H := Lib.hid h
  clear h
  go_enter Tryz.func105, Tryz.ntmps105
  go_wp2_with fail
  refine hm.mono ?_
  rintro e w1 ⟨rfl, hb⟩
  obtain ⟨k0, k1, k2, k3, kf⟩ := (H.out.below hb).cells
  have HB := Lib.hid hb
  clear hb hm
  go_wp2
  go_quiet (fail)
  go_wp2
  go_ret
  exact ⟨rfl, belowN HB.out _⟩
theorem rnext_none (W : World) (b : Nat) (s : ByteArray) (x n : Nat) (e : Int) (h : RAt W b s x n e) (hx : (e == 0 && decide (x < s.size)) = false) :
    Calls Tryz.prog 105 #[.pointer (some ⟨b, 0, none⟩)] W fun r w' => r = .returned (.int .u8 0) ∧ Below W.heap.size W w' := by
  have hm := more_any W b s x n e h
  rw [hx] at hm
  clear hx h
  go_enter Tryz.func105, Tryz.ntmps105
  go_wp2_with fail
  refine hm.mono ?_
  rintro r w1 ⟨rfl, hb⟩
  have HB := Lib.hid hb
  clear hb hm
  go_wp2
  go_ret
  exact ⟨rfl, HB.out⟩
theorem fail_any (W : World) (b : Nat) (s : ByteArray) (x n : Nat) (e k : Int) (h : RAt W b s x n e) :
    Calls Tryz.prog 70 #[.pointer (some ⟨b, 0, none⟩), .int .i64 k] W fun r w' => r = .returned NoVal ∧ RAt w' b s x n (if e = 0 then k else e) ∧ But b W w' := by
  obtain ⟨k0, k1, k2, k3, kf⟩ := h.cells
  have H := Lib.hid h
  clear h
  by_cases he : e = 0
  · have h1 : (e == 0) = true := by simpa using he
    rw [if_pos he]
    go_enter Tryz.func70, Tryz.ntmps70
    go_wp2
    go_end0
    exact ⟨rfl, H.out.set3 k, But.set _ _ _ _⟩
  · have h1 : (e == 0) = false := by simpa using he
    rw [if_neg he]
    go_enter Tryz.func70, Tryz.ntmps70
    go_wp2
    go_end0
    exact ⟨rfl, H.out, But.refl _ _⟩
end Go.Proofs.YtgcpgieojckheaaGreatDoor.Json
namespace Go.Proofs.YtgcpgieojckheaaGreatDoor.Json
open Go.RowKit Go.Shelf

theorem rstands_at {W : World} {b : Nat} {s : ByteArray} {x n : Nat} {e : Int} (h : RAt W b s x n e) : stands b W = x := by
  unfold stands; rw [h.cells.2.1]; rfl
theorem rblanks_err (W : World) (b : Nat) (s : ByteArray) (x n : Nat) (e : Int) (h : RAt W b s x n e) (he : e ≠ 0) :
    Calls Tryz.prog 68 #[.pointer (some ⟨b, 0, none⟩)] W fun r w' => r = .returned NoVal ∧ RAt w' b s x n e ∧ But b W w' := by
  have hm := more_any W b s x n e h
  rw [show (e == 0) = false by simpa using he, Bool.false_and] at hm
  go_enter Tryz.func68, Tryz.ntmps68
  go_wp2_with fail
  go_loopw [] (fun wr => wr = W) (fun _ => 0)
  case atStart => rfl
  case round =>
    subst hrel
    go_wp2_with fail
    refine hm.mono ?_
    rintro r w1 ⟨rfl, hb⟩
    have H1 := Lib.hid (h.below hb)
    have HB := Lib.hid hb
    clear hb hm
    go_wp2
    go_end0
    exact ⟨rfl, H1.out, But.of HB.out⟩
set_option maxRecDepth 100000 in
set_option maxHeartbeats 2000000 in
theorem rblanks_any (W : World) (b : Nat) (s : ByteArray) (x n : Nat) (h : RAt W b s x n 0) (hx : x ≤ s.size) (hz : s.size ≤ 1000000) :
    Calls Tryz.prog 68 #[.pointer (some ⟨b, 0, none⟩)] W fun r w' => ∃ k, x ≤ k ∧ k ≤ s.size ∧ r = .returned NoVal ∧ RAt w' b s k n 0 ∧ But b W w' ∧ skip (s.data.toList.drop x) = s.data.toList.drop k := by
  have H := Lib.hid h
  clear h
  go_enter Tryz.func68, Tryz.ntmps68
  go_wp2_with fail
  go_loopw [] (fun wr => ∃ k, x ≤ k ∧ k ≤ s.size ∧ Hid (RAt wr b s k n 0) ∧ Hid (But b W wr) ∧ Hid (∀ (j : Nat) c, j < k - x → (s.data.toList.drop x)[j]? = some c → isBlank c = true)) (fun wr => s.size - stands b wr)
  case atStart => exact ⟨x, Nat.le_refl _, hx, H, Lib.hid (But.refl _ _), Lib.hid (fun j c hj => by omega)⟩
  case round =>
    obtain ⟨k, hxk, hk, HP, HB, HJ⟩ := hrel
    have hm := fun W2 (h2 : Below wr.heap.size wr W2) => more_any W2 b s k n 0 (HP.out.below h2)
    by_cases hlt : k < s.size
    · rw [show ((0 : Int) == 0 && decide (k < s.size)) = true by simp [hlt]] at hm
      have hn := fun W2 (h2 : Below wr.heap.size wr W2) => rnext_in W2 b s k n (HP.out.below h2) hlt
      have hat : Hid (s.data.toList[k]? = some (s[k]'hlt)) := Lib.hid (get_list hlt)
      have hw : IntKind.i64.wrap ((k : Int) + 1) = ((k + 1 : Nat) : Int) := by rw [IntWalk.i64_in _ (by omega)]; omega
      have e1 : (((s[k]'hlt).toNat : Int) == 32) = (s[k]'hlt == 32) := u8_eq rfl
      have e2 : (((s[k]'hlt).toNat : Int) == 9) = (s[k]'hlt == 9) := u8_eq rfl
      have e3 : (((s[k]'hlt).toNat : Int) == 10) = (s[k]'hlt == 10) := u8_eq rfl
      have e4 : (((s[k]'hlt).toNat : Int) == 13) = (s[k]'hlt == 13) := u8_eq rfl
      have HV : Hid (isBlank (s[k]'hlt) = (s[k]'hlt == 32 || s[k]'hlt == 9 || s[k]'hlt == 10 || s[k]'hlt == 13)) := Lib.hid rfl
      generalize s[k]'hlt = c at *
      generalize (c == 32) = q1 at *
      generalize (c == 9) = q2 at *
      generalize (c == 10) = q3 at *
      generalize (c == 13) = q4 at *
      have HJ2 : Hid (isBlank c = true → ∀ (j : Nat) d, j < k + 1 - x → (s.data.toList.drop x)[j]? = some d → isBlank d = true) := Lib.hid fun hcb j d hj hd => by
        rcases Nat.lt_or_ge j (k - x) with g | g
        · exact HJ.out j d g hd
        · have e : x + j = k := by omega
          rw [List.getElem?_drop, e, hat.out] at hd
          rw [← Option.some.inj hd]; exact hcb
      cases q1 with
      | true =>
        go_wp2_with fail
        refine (hm _ (Below.refl _ _)).mono ?_
        rintro r w1 ⟨rfl, hb⟩
        have B1 := Lib.hid hb
        clear hb
        go_wp2_with fail
        refine (hn _ B1.out).mono ?_
        rintro r w2 ⟨rfl, hb⟩
        have B2 := Lib.hid (gcall B1.out hb)
        clear hb
        obtain ⟨k0, k1, k2, k3, kf⟩ := (HP.out.below B2.out).cells
        go_wp2
        have HP2 := (HP.out.below B2.out).set1 (k + 1)
        have hm2 : s.size - stands b ((w2).setCell ⟨b, 1, none⟩ (.int .i64 ((k + 1 : Nat) : Int))) < s.size - k := by rw [rstands_at HP2]; omega
        exact ⟨⟨k + 1, by omega, by omega, Lib.hid HP2, Lib.hid ((HB.out.trans (But.of B2.out)).trans (But.set _ _ _ _)), Lib.hid (HJ2.out (by rw [HV.out]; rfl))⟩, by rw [rstands_at HP.out]; exact hm2⟩
      | false =>
        cases q2 with
        | true =>
          go_wp2_with fail
          refine (hm _ (Below.refl _ _)).mono ?_
          rintro r w1 ⟨rfl, hb⟩
          have B1 := Lib.hid hb
          clear hb
          go_wp2_with fail
          refine (hn _ B1.out).mono ?_
          rintro r w2 ⟨rfl, hb⟩
          have B2 := Lib.hid (gcall B1.out hb)
          clear hb
          go_wp2_with fail
          refine (hn _ B2.out).mono ?_
          rintro r w3 ⟨rfl, hb⟩
          have B3 := Lib.hid (gcall B2.out hb)
          clear hb
          obtain ⟨k0, k1, k2, k3, kf⟩ := (HP.out.below B3.out).cells
          go_wp2
          have HP2 := (HP.out.below B3.out).set1 (k + 1)
          have hm2 : s.size - stands b ((w3).setCell ⟨b, 1, none⟩ (.int .i64 ((k + 1 : Nat) : Int))) < s.size - k := by rw [rstands_at HP2]; omega
          exact ⟨⟨k + 1, by omega, by omega, Lib.hid HP2, Lib.hid ((HB.out.trans (But.of B3.out)).trans (But.set _ _ _ _)), Lib.hid (HJ2.out (by rw [HV.out]; rfl))⟩, by rw [rstands_at HP.out]; exact hm2⟩
        | false =>
          cases q3 with
          | true =>
            go_wp2_with fail
            refine (hm _ (Below.refl _ _)).mono ?_
            rintro r w1 ⟨rfl, hb⟩
            have B1 := Lib.hid hb
            clear hb
            go_wp2_with fail
            refine (hn _ B1.out).mono ?_
            rintro r w2 ⟨rfl, hb⟩
            have B2 := Lib.hid (gcall B1.out hb)
            clear hb
            go_wp2_with fail
            refine (hn _ B2.out).mono ?_
            rintro r w3 ⟨rfl, hb⟩
            have B3 := Lib.hid (gcall B2.out hb)
            clear hb
            go_wp2_with fail
            refine (hn _ B3.out).mono ?_
            rintro r w4 ⟨rfl, hb⟩
            have B4 := Lib.hid (gcall B3.out hb)
            clear hb
            obtain ⟨k0, k1, k2, k3, kf⟩ := (HP.out.below B4.out).cells
            go_wp2
            have HP2 := (HP.out.below B4.out).set1 (k + 1)
            have hm2 : s.size - stands b ((w4).setCell ⟨b, 1, none⟩ (.int .i64 ((k + 1 : Nat) : Int))) < s.size - k := by rw [rstands_at HP2]; omega
            exact ⟨⟨k + 1, by omega, by omega, Lib.hid HP2, Lib.hid ((HB.out.trans (But.of B4.out)).trans (But.set _ _ _ _)), Lib.hid (HJ2.out (by rw [HV.out]; rfl))⟩, by rw [rstands_at HP.out]; exact hm2⟩
          | false =>
            cases q4 with
            | true =>
              go_wp2_with fail
              refine (hm _ (Below.refl _ _)).mono ?_
              rintro r w1 ⟨rfl, hb⟩
              have B1 := Lib.hid hb
              clear hb
              go_wp2_with fail
              refine (hn _ B1.out).mono ?_
              rintro r w2 ⟨rfl, hb⟩
              have B2 := Lib.hid (gcall B1.out hb)
              clear hb
              go_wp2_with fail
              refine (hn _ B2.out).mono ?_
              rintro r w3 ⟨rfl, hb⟩
              have B3 := Lib.hid (gcall B2.out hb)
              clear hb
              go_wp2_with fail
              refine (hn _ B3.out).mono ?_
              rintro r w4 ⟨rfl, hb⟩
              have B4 := Lib.hid (gcall B3.out hb)
              clear hb
              go_wp2_with fail
              refine (hn _ B4.out).mono ?_
              rintro r w5 ⟨rfl, hb⟩
              have B5 := Lib.hid (gcall B4.out hb)
              clear hb
              obtain ⟨k0, k1, k2, k3, kf⟩ := (HP.out.below B5.out).cells
              go_wp2
              have HP2 := (HP.out.below B5.out).set1 (k + 1)
              have hm2 : s.size - stands b ((w5).setCell ⟨b, 1, none⟩ (.int .i64 ((k + 1 : Nat) : Int))) < s.size - k := by rw [rstands_at HP2]; omega
              exact ⟨⟨k + 1, by omega, by omega, Lib.hid HP2, Lib.hid ((HB.out.trans (But.of B5.out)).trans (But.set _ _ _ _)), Lib.hid (HJ2.out (by rw [HV.out]; rfl))⟩, by rw [rstands_at HP.out]; exact hm2⟩
            | false =>
              go_wp2_with fail
              refine (hm _ (Below.refl _ _)).mono ?_
              rintro r w1 ⟨rfl, hb⟩
              have B1 := Lib.hid hb
              clear hb
              go_wp2_with fail
              refine (hn _ B1.out).mono ?_
              rintro r w2 ⟨rfl, hb⟩
              have B2 := Lib.hid (gcall B1.out hb)
              clear hb
              go_wp2_with fail
              refine (hn _ B2.out).mono ?_
              rintro r w3 ⟨rfl, hb⟩
              have B3 := Lib.hid (gcall B2.out hb)
              clear hb
              go_wp2_with fail
              refine (hn _ B3.out).mono ?_
              rintro r w4 ⟨rfl, hb⟩
              have B4 := Lib.hid (gcall B3.out hb)
              clear hb
              go_wp2_with fail
              refine (hn _ B4.out).mono ?_
              rintro r w5 ⟨rfl, hb⟩
              have B5 := Lib.hid (gcall B4.out hb)
              clear hb
              go_wp2
              go_end0
              have hsp := span_of (p := isBlank) (l := s.data.toList.drop x) (k := k - x) (by rw [List.length_drop, ← Lib.size_eq]; omega) HJ.out (fun d hc2 => by
                have e : x + (k - x) = k := by omega
                rw [List.getElem?_drop, e, hat.out] at hc2
                rw [← Option.some.inj hc2, HV.out]; rfl)
              refine ⟨k, hxk, hk, rfl, HP.out.below B5.out, HB.out.trans (But.of B5.out), ?_⟩
              unfold skip
              rw [hsp.2, List.drop_drop, show x + (k - x) = k by omega]
    · obtain rfl : k = s.size := by omega
      rw [show ((0 : Int) == 0 && decide (s.size < s.size)) = false by simp] at hm
      go_wp2_with fail
      refine (hm _ (Below.refl _ _)).mono ?_
      rintro r w1 ⟨rfl, hb⟩
      have B1 := Lib.hid hb
      clear hb
      go_wp2
      go_end0
      have hsp := span_of (p := isBlank) (l := s.data.toList.drop x) (k := s.size - x) (by rw [List.length_drop, ← Lib.size_eq]; omega) HJ.out (fun c hc2 => by
        rw [List.getElem?_eq_none (by rw [List.length_drop, ← Lib.size_eq]; omega)] at hc2; cases hc2)
      refine ⟨s.size, hxk, hk, rfl, HP.out.below B1.out, HB.out.trans (But.of B1.out), ?_⟩
      unfold skip
      rw [hsp.2, List.drop_drop, show x + (s.size - x) = s.size by omega]
end Go.Proofs.YtgcpgieojckheaaGreatDoor.Json
namespace Go.Proofs.YtgcpgieojckheaaGreatDoor.Json
open Go.RowKit Go.Shelf

theorem take_err (W : World) (b : Nat) (s p : ByteArray) (x n : Nat) (e : Int) (h : RAt W b s x n e) (he : e ≠ 0) :
    Calls Tryz.prog 106 #[.pointer (some ⟨b, 0, none⟩), .string p] W fun r w' => r = .returned (.bool false) ∧ Below W.heap.size W w' := by
  obtain ⟨k0, k1, k2, k3, kf⟩ := h.cells
  have h1 : (e == 0) = false := by simpa using he
  have h2 : (e != 0) = true := by simpa using he
  go_enter Tryz.func106, Tryz.ntmps106
  go_wp2
  go_quiet (fail)
  go_wp2
  go_ret
  exact ⟨rfl, drewN_below _ _⟩
theorem take_short (W : World) (b : Nat) (s p : ByteArray) (x n : Nat) (h : RAt W b s x n 0) (hx : x ≤ s.size) (hz : s.size ≤ 1000000) (hp : p.size ≤ 10) (hl : s.size < x + p.size) :
    Calls Tryz.prog 106 #[.pointer (some ⟨b, 0, none⟩), .string p] W fun r w' => r = .returned (.bool false) ∧ Below W.heap.size W w' := by
  obtain ⟨k0, k1, k2, k3, kf⟩ := h.cells
  have hw : IntKind.i64.wrap ((x : Int) + (p.size : Int)) = ((x + p.size : Nat) : Int) := by rw [IntWalk.i64_in _ (by omega)]; omega
  obtain ⟨y, hy⟩ : ∃ y, x + p.size = y := ⟨_, rfl⟩
  rw [hy] at hw
  have hl' : (s.size : Int) < (y : Int) := by omega
  go_enter Tryz.func106, Tryz.ntmps106
  go_wp2
  go_quiet (fail)
  go_wp2
  go_ret
  exact ⟨rfl, drewN_below _ _⟩
theorem take_no (W : World) (b : Nat) (s p : ByteArray) (x n : Nat) (h : RAt W b s x n 0) (hz : s.size ≤ 1000000) (hp : p.size ≤ 10) (hl : x + p.size ≤ s.size) (hne : (s.data.toList.drop x).take p.size ≠ p.data.toList) :
    Calls Tryz.prog 106 #[.pointer (some ⟨b, 0, none⟩), .string p] W fun r w' => r = .returned (.bool false) ∧ Below W.heap.size W w' := by
  obtain ⟨k0, k1, k2, k3, kf⟩ := h.cells
  have hw : IntKind.i64.wrap ((x : Int) + (p.size : Int)) = ((x + p.size : Nat) : Int) := by rw [IntWalk.i64_in _ (by omega)]; omega
  have hq : ((s.extract x (x + p.size)).toList == p.toList) = false := by
    rw [beq_eq_false_iff_ne, Lib.toList_data, Lib.toList_data, ex_list, Nat.add_sub_cancel_left]; exact hne
  have hq2 : ((s.extract x (x + p.size)).toList != p.toList) = true := by unfold bne; rw [hq]; rfl
  obtain ⟨y, hy⟩ : ∃ y, x + p.size = y := ⟨_, rfl⟩
  rw [hy] at hw hq hq2
  have hl' : ¬ (s.size : Int) < (y : Int) := by omega
  have hd : decide (s.size < y) = false := decide_eq_false (by omega)
  have hl2 : (y : Int) ≤ (s.size : Int) := by omega
  have hl3 : (x : Int) ≤ (y : Int) := by omega
  clear hne
  go_enter Tryz.func106, Tryz.ntmps106
  go_wp2
  go_quiet (fail)
  go_wp2
  go_ret
  exact ⟨rfl, drewN_below _ _⟩
theorem take_yes (W : World) (b : Nat) (s p : ByteArray) (x n : Nat) (h : RAt W b s x n 0) (hz : s.size ≤ 1000000) (hp : p.size ≤ 10) (hl : x + p.size ≤ s.size) (he : (s.data.toList.drop x).take p.size = p.data.toList) :
    Calls Tryz.prog 106 #[.pointer (some ⟨b, 0, none⟩), .string p] W fun r w' => r = .returned (.bool true) ∧ RAt w' b s (x + p.size) n 0 ∧ But b W w' := by
  obtain ⟨k0, k1, k2, k3, kf⟩ := h.cells
  have hw : IntKind.i64.wrap ((x : Int) + (p.size : Int)) = ((x + p.size : Nat) : Int) := by rw [IntWalk.i64_in _ (by omega)]; omega
  have hq : ((s.extract x (x + p.size)).toList == p.toList) = true := by
    rw [beq_iff_eq, Lib.toList_data, Lib.toList_data, ex_list, Nat.add_sub_cancel_left]; exact he
  have hq2 : ((s.extract x (x + p.size)).toList != p.toList) = false := by unfold bne; rw [hq]; rfl
  obtain ⟨y, hy⟩ : ∃ y, x + p.size = y := ⟨_, rfl⟩
  rw [hy] at hw hq hq2 ⊢
  have hl' : ¬ (s.size : Int) < (y : Int) := by omega
  have hd : decide (s.size < y) = false := decide_eq_false (by omega)
  have hl2 : (y : Int) ≤ (s.size : Int) := by omega
  have hl3 : (x : Int) ≤ (y : Int) := by omega
  have H := Lib.hid h
  clear he h
  go_enter Tryz.func106, Tryz.ntmps106
  go_wp2
  go_quiet (fail)
  go_wp2
  go_ret
  exact ⟨rfl, (H.out.below (drewN_below _ _)).set1 y, (But.of (drewN_below _ _)).trans (But.set _ _ _ _)⟩
end Go.Proofs.YtgcpgieojckheaaGreatDoor.Json
