/-
  The parser in memory; what takes a byte, and digits.
  The parser's states, walked; run.
-/
import Derived.Test.YtgcpgieojckheaaGreatDoorMgA
import Derived.Test.YtgcpgieojckheaaGreatDoorShelf
import Derived.WalkKit
import Derived.WalkLawsBesides
import Derived.RangeFuncRecord
import Derived.IntWalk
import Derived.Deep.RegionHeld3
import Derived.Deep.QuietTactic
import Derived.BigQuiet
import Derived.WalkSpells
import Derived.Below
import Derived.Lib.Hide
namespace Go.Proofs.YtgcpgieojckheaaGreatDoor
open Go.RowKit Go.Shelf

def bl (l : List UInt8) : Value := .string ⟨l.toArray⟩
def cellsP (p : PS) : Array Value := #[bl p.rest, .bool p.neg, bl p.whole, bl p.frac, .bool p.below, bl p.exp, .bool p.done]
/-- The parser lies at block b. -/
def PAt (w : World) (b : Nat) (p : PS) : Prop := w.heap[b]? = some (.cells (cellsP p) 107 (0, 0))
/-- Nothing but block b has turned. -/
structure Only (b : Nat) (w w' : World) : Prop where
  os : w'.os = w.os
  tape : w'.tape = w.tape
  output : w'.output = w.output
  size : w'.heap.size = w.heap.size
  block : ∀ k, k ≠ b → w'.heap[k]? = w.heap[k]?
theorem Only.refl (b : Nat) (w : World) : Only b w w := ⟨rfl, rfl, rfl, rfl, fun _ _ => rfl⟩
theorem Only.trans {b : Nat} {w x y : World} (h : Only b w x) (k : Only b x y) : Only b w y :=
  ⟨k.os.trans h.os, k.tape.trans h.tape, k.output.trans h.output, k.size.trans h.size, fun i hi => (k.block i hi).trans (h.block i hi)⟩
theorem Only.set (b : Nat) (w : World) (o : Nat) (v : Value) : Only b w (w.setCell ⟨b, o, none⟩ v) :=
  ⟨rfl, rfl, rfl, by simp [World.setCell], fun k hk => Below.heap_setCell w ⟨b, o, none⟩ v k hk⟩
theorem Only.below {b n : Nat} {w w' : World} (h : Only b w w') (hn : n ≤ b) : Below n w w' :=
  ⟨h.os, h.tape, h.output, by rw [h.size]; exact Nat.le_refl _, fun k hk => h.block k (by omega)⟩
theorem PAt.set {w : World} {b : Nat} {p q : PS} (h : PAt w b p) (o : Nat) (v : Value) (hv : (cellsP p).setIfInBounds o v = cellsP q) : PAt (w.setCell ⟨b, o, none⟩ v) b q := by
  unfold PAt at *
  rw [← hv]
  exact heap_setCell_same w b o _ _ v h
theorem cellH {w : World} {b : Nat} {cs : Array Value} {t : TypeId} {fr : Nat × Nat} (h : w.heap[b]? = some (.cells cs t fr)) (o : Nat) : w.cell? ⟨b, o, none⟩ = cs[o]? := cell_of_row w b o cs t fr h
theorem PAt.cells {w : World} {b : Nat} {p : PS} (h : PAt w b p) : w.cell? ⟨b, 0, none⟩ = some (bl p.rest) ∧ w.cell? ⟨b, 1, none⟩ = some (.bool p.neg) ∧ w.cell? ⟨b, 2, none⟩ = some (bl p.whole) ∧ w.cell? ⟨b, 3, none⟩ = some (bl p.frac) ∧
    w.cell? ⟨b, 4, none⟩ = some (.bool p.below) ∧ w.cell? ⟨b, 5, none⟩ = some (bl p.exp) ∧ w.cell? ⟨b, 6, none⟩ = some (.bool p.done) :=
  ⟨by rw [cellH h]; rfl, by rw [cellH h]; rfl, by rw [cellH h]; rfl, by rw [cellH h]; rfl, by rw [cellH h]; rfl, by rw [cellH h]; rfl, by rw [cellH h]; rfl⟩
theorem PAt.live {w : World} {b : Nat} {p : PS} (h : PAt w b p) (o : Nat) : w.frozen? ⟨b, o, none⟩ = false := Lib.frozen_of_heap h o
theorem PAt.lt {w : World} {b : Nat} {p : PS} (h : PAt w b p) : b < w.heap.size := (Array.getElem?_eq_some_iff.1 h).1

theorem trim_cut (l : List UInt8) (c : UInt8) : Lib.trimPrefix l [c] = (cutC c l).2 ∧ Lib.hasPrefix l [c] = (cutC c l).1 := by
  cases l with
  | nil => exact ⟨rfl, rfl⟩
  | cons a r =>
    unfold Lib.trimPrefix Lib.hasPrefix cutC
    by_cases h : a = c
    · subst h; simp
    · have h' : ¬ c = a := fun e => h e.symm
      simp [h, h', List.isPrefixOf]
theorem take_any (w : World) (b : Nat) (p : PS) (c : UInt8) (h : PAt w b p) :
    Calls Tryz.prog 157 #[.pointer (some ⟨b, 0, none⟩), .string ⟨#[c]⟩] w fun e w' => e = .returned (.bool (cutC c p.rest).1) ∧ PAt w' b { p with rest := (cutC c p.rest).2 } ∧ Only b w w' := by
  have hc := Tryz.strings_CutPrefix ⟨p.rest.toArray⟩ ⟨#[c]⟩ w
  have e1 : (⟨p.rest.toArray⟩ : ByteArray).data.toList = p.rest := by simp
  have e2 : (⟨#[c]⟩ : ByteArray).data.toList = [c] := rfl
  rw [e1, e2, (trim_cut _ _).1, (trim_cut _ _).2] at hc
  obtain ⟨x0, _⟩ := h.cells
  have z0 := h.live 0
  have hq : Hid (PAt (w.setCell ⟨b, 0, none⟩ (bl (cutC c p.rest).2)) b { p with rest := (cutC c p.rest).2 }) := Lib.hid (h.set 0 _ rfl)
  have ho := Lib.hid (Only.set b w 0 (bl (cutC c p.rest).2))
  unfold bl at *
  generalize (cutC c p.rest).1 = f at *
  generalize (cutC c p.rest).2 = r at *
  generalize (⟨r.toArray⟩ : ByteArray) = s at *
  clear e1 e2 h
  go_enter Tryz.func157, Tryz.ntmps157
  go_wp2_with fail
  refine hc.mono ?_
  rintro e w1 ⟨rfl, rfl⟩
  go_wp2
  go_ret
  exact ⟨rfl, hq.out, ho.out⟩
theorem isDigit_any (c : Nat) (w : World) (hc : c < 256) : Calls Tryz.prog 210 #[.int .u8 c] w fun e w' => e = .returned (.bool (decide (48 ≤ c) && decide (c ≤ 57))) ∧ w = w' := by
  by_cases h1 : 48 ≤ c
  · have h1' : (48 : Int) ≤ (c : Int) := by omega
    by_cases h2 : c ≤ 57
    · have h2' : (c : Int) ≤ 57 := by omega
      go_enter Tryz.func210, Tryz.ntmps210
      go_wp2
      go_ret
      exact ⟨by rw [decide_eq_true h1, decide_eq_true h2]; rfl, rfl⟩
    · have h2' : ¬ (c : Int) ≤ 57 := by omega
      go_enter Tryz.func210, Tryz.ntmps210
      go_wp2
      go_ret
      exact ⟨rfl, rfl⟩
  · have h1' : ¬ (48 : Int) ≤ (c : Int) := by omega
    go_enter Tryz.func210, Tryz.ntmps210
    go_wp2
    go_ret
    exact ⟨rfl, rfl⟩
theorem digs_take (l : List UInt8) (k : Nat) (h : ∀ (j : Nat) c, j < k → l[j]? = some c → isDig c = true) (hk : k ≤ l.length) (hs : ∀ c, l[k]? = some c → isDig c = false) : digs l = l.take k ∧ past l = l.drop k := by
  have e := digs_app (l := l.take k) (r := l.drop k) (fun c hc => by
    obtain ⟨j, hj⟩ := List.getElem?_of_mem hc
    have hjk : j < k := by
      have := (List.getElem?_eq_some_iff.1 hj).1
      simp at this; omega
    rw [List.getElem?_take] at hj
    rw [if_pos hjk] at hj
    exact h j c hjk hj) (fun c hc => by rw [List.head?_drop] at hc; exact hs c hc)
  rw [List.take_append_drop] at e
  exact e
theorem ex_list (s : ByteArray) (i j : Nat) : (s.extract i j).data.toList = (s.data.toList.drop i).take (j - i) := by
  simp only [ByteArray.data_extract, Array.toList_extract, List.extract_eq_take_drop]
theorem ex_list_take (s : ByteArray) (k : Nat) : s.extract 0 k = ⟨(s.data.toList.take k).toArray⟩ := by
  have e : (s.extract 0 k).data.toList = s.data.toList.take k := by rw [ex_list, List.drop_zero, Nat.sub_zero]
  rw [← e]
theorem ex_list_drop (s : ByteArray) (k : Nat) : s.extract k s.size = ⟨(s.data.toList.drop k).toArray⟩ := by
  have e : (s.extract k s.size).data.toList = s.data.toList.drop k := by rw [ex_list, List.take_of_length_le (by rw [List.length_drop, ← Lib.size_eq]; exact Nat.le_refl _)]
  rw [← e]
set_option maxHeartbeats 1000000 in
theorem takeDigits_any (w : World) (b : Nat) (p : PS) (h : PAt w b p) (hl : p.rest.length ≤ 1000000000) :
    Calls Tryz.prog 195 #[.pointer (some ⟨b, 0, none⟩)] w fun e w' => e = .returned (bl (digs p.rest)) ∧ PAt w' b { p with rest := past p.rest } ∧ Only b w w' := by
  obtain ⟨x0, _⟩ := h.cells
  have z0 := h.live 0
  have hq := fun l : List UInt8 => (h.set (q := { p with rest := l }) 0 (bl l) rfl)
  have HQ := Lib.hid hq
  have HO := Lib.hid (fun l => Only.set b w 0 (bl l))
  obtain ⟨s, hs⟩ : ∃ s : ByteArray, (⟨p.rest.toArray⟩ : ByteArray) = s := ⟨_, rfl⟩
  have hsl : s.data.toList = p.rest := by rw [← hs]
  have hsz : s.size = p.rest.length := by rw [Lib.size_eq, hsl]
  have HSL := Lib.hid hsl
  have hsz1 : s.size ≤ 1000000000 := by omega
  unfold bl at x0
  rw [hs] at x0
  clear h hq hs hsz hl hsl
  go_enter Tryz.func195, Tryz.ntmps195
  go_wp2
  go_loop [3] (fun i => ∃ k : Nat, i = .int .i64 k ∧ k ≤ s.size ∧ Hid (∀ (j : Nat) c, j < k → s.data.toList[j]? = some c → isDig c = true)) (fun i => s.size - (intOf i).toNat)
  case atStart => exact ⟨0, rfl, Nat.zero_le _, Lib.hid (fun j c hj => absurd hj (Nat.not_lt_zero _))⟩
  case round =>
    obtain ⟨k, rfl, hk, HK⟩ := hrel
    by_cases hlt : k < s.size
    · have hlt' : (k : Int) < (s.size : Int) := by omega
      have hat : Hid (s.data.toList[k]? = some (s[k]'hlt)) := Lib.hid (by rw [Array.getElem?_toList, Array.getElem?_eq_getElem (by exact hlt)]; rfl)
      have hdg := isDigit_any (s[k]'hlt).toNat w (UInt8.toNat_lt _)
      by_cases hd : isDig (s[k]'hlt) = true
      · have e : (decide (48 ≤ (s[k]'hlt).toNat) && decide ((s[k]'hlt).toNat ≤ 57)) = true := hd
        rw [e] at hdg
        have HD := Lib.hid hd
        clear e hd
        go_wp2_with fail
        refine hdg.mono ?_
        rintro e w1 ⟨rfl, rfl⟩
        go_wp2
        go_round
        case rel =>
          refine ⟨k + 1, by go_num, by omega, Lib.hid fun j c hj hc => ?_⟩
          rcases Nat.lt_succ_iff_lt_or_eq.1 hj with g | g
          · exact HK.out j c g hc
          · subst g
            rw [hat.out] at hc
            rw [← Option.some.inj hc]; exact HD.out
        case measure => simp [intOf]; omega
      · have e : (decide (48 ≤ (s[k]'hlt).toNat) && decide ((s[k]'hlt).toNat ≤ 57)) = false := by simpa [isDig] using hd
        rw [e] at hdg
        have HE : Hid (digs s.data.toList = s.data.toList.take k ∧ past s.data.toList = s.data.toList.drop k) := Lib.hid (digs_take _ k HK.out (by rw [← Lib.size_eq]; omega) (fun c hc => by
          rw [hat.out] at hc
          rw [← Option.some.inj hc]; simpa using hd))
        clear e hd
        have e1 : s.extract 0 k = ⟨(digs p.rest).toArray⟩ := by rw [← HSL.out, HE.out.1, ← ex_list_take s k]
        have e2 : s.extract k s.size = ⟨(past p.rest).toArray⟩ := by rw [← HSL.out, HE.out.2, ← ex_list_drop s k]
        have E1 := Lib.hid e1
        have E2 := Lib.hid e2
        have f0 : (w.setCell ⟨b, 0, none⟩ (.string (s.extract k s.size))).cell? ⟨b, 0, none⟩ = some (.string (s.extract k s.size)) := World.cell?_setCell_same _ _ _ x0
        clear e1 e2
        go_wp2_with fail
        refine hdg.mono ?_
        rintro e w1 ⟨rfl, rfl⟩
        go_wp2
        go_ret
        refine ⟨by rw [E1.out]; rfl, ?_⟩
        rw [E2.out]
        exact ⟨HQ.out _, HO.out _⟩
    · have hlt' : ¬ (k : Int) < (s.size : Int) := by omega
      have HE : Hid (digs s.data.toList = s.data.toList.take k ∧ past s.data.toList = s.data.toList.drop k) := Lib.hid (digs_take _ k HK.out (by rw [← Lib.size_eq]; omega) (fun c hc => by
        rw [List.getElem?_eq_none (by rw [← Lib.size_eq]; omega)] at hc; cases hc))
      have E1 : Hid (s.extract 0 k = ⟨(digs p.rest).toArray⟩) := Lib.hid (by rw [← HSL.out, HE.out.1, ← ex_list_take s k])
      have E2 : Hid (s.extract k s.size = ⟨(past p.rest).toArray⟩) := Lib.hid (by rw [← HSL.out, HE.out.2, ← ex_list_drop s k])
      go_wp2
      go_ret
      refine ⟨by rw [E1.out]; rfl, ?_⟩
      rw [E2.out]
      exact ⟨HQ.out _, HO.out _⟩
end Go.Proofs.YtgcpgieojckheaaGreatDoor
namespace Go.Proofs.YtgcpgieojckheaaGreatDoor
open Go.RowKit Go.Shelf

/-- A state as a value. -/
def stV (b : Nat) : Nat → Value
  | 0 => .func (.func 114) #[.pointer (some ⟨b, 0, none⟩)] #[]
  | 1 => .func (.func 158) #[.pointer (some ⟨b, 0, none⟩)] #[]
  | 2 => .func (.func 196) #[.pointer (some ⟨b, 0, none⟩)] #[]
  | 3 => .func (.func 211) #[.pointer (some ⟨b, 0, none⟩)] #[]
  | 4 => .func (.func 212) #[.pointer (some ⟨b, 0, none⟩)] #[]
  | 5 => .func (.func 220) #[.pointer (some ⟨b, 0, none⟩)] #[]
  | 6 => .func (.func 227) #[.pointer (some ⟨b, 0, none⟩)] #[]
  | 7 => .func (.func 221) #[.pointer (some ⟨b, 0, none⟩)] #[]
  | _ => .nilFunc
/-- What a state does: it answers a later one, from which the same comes in the end; what is left is no longer. -/
def Stg (b k : Nat) (p : PS) (w : World) (e : Ending) (w' : World) : Prop :=
  ∃ j q, k < j ∧ j ≤ 8 ∧ e = .returned (stV b j) ∧ fin j q = fin k p ∧ q.rest.length ≤ p.rest.length ∧ PAt w' b q ∧ Only b w w'
theorem mf (fn : Fn) (first cap : Array Value) (w : World) : (Instr.makeFunc fn first cap).run Tryz.prog w = .ok (.func fn first cap) w := rfl
theorem cutC_len (c : UInt8) (l : List UInt8) : (cutC c l).2.length ≤ l.length := by
  unfold cutC; split
  · simp
  · split <;> simp
theorem past_len (l : List UInt8) : (past l).length ≤ l.length := by
  unfold past; exact (List.dropWhile_suffix _).length_le
theorem mk_empty_no {s : ByteArray} {a : UInt8} {r : List UInt8} (h : s.data.toList = a :: r) : s.toList.isEmpty = false := by
  cases e : s.toList.isEmpty
  · rfl
  · rw [List.isEmpty_iff, Lib.toList_data, h] at e
    cases e
theorem mk_empty_yes {s : ByteArray} (h : s.data.toList = []) : s.toList.isEmpty = true := by
  rw [List.isEmpty_iff, Lib.toList_data]; exact h
theorem mk_first {s : ByteArray} {a : UInt8} {r : List UInt8} (h : s.data.toList = a :: r) : ∃ hz : 0 < s.size, s[0]'hz = a ∧ s.size = r.length + 1 := by
  have hz : s.size = r.length + 1 := by rw [Lib.size_eq, h]; rfl
  refine ⟨by omega, ?_, hz⟩
  have e : s.data.toList[0]? = some (s[0]'(by omega)) := by rw [Array.getElem?_toList, Array.getElem?_eq_getElem (by show 0 < s.size; omega)]; rfl
  rw [h] at e
  exact (Option.some.inj e).symm
theorem read_end (w : World) (b : Nat) (p : PS) (h : PAt w b p) : Calls Tryz.prog 221 #[.pointer (some ⟨b, 0, none⟩)] w (Stg b 7 p w) := by
  obtain ⟨x0, _, _, _, _, _, x6⟩ := h.cells
  have z6 := h.live 6
  have HQ : Hid (PAt (w.setCell ⟨b, 6, none⟩ (.bool p.rest.isEmpty)) b { p with done := p.rest.isEmpty }) := Lib.hid (h.set 6 _ rfl)
  have HO := Lib.hid (Only.set b w 6 (.bool p.rest.isEmpty))
  have hmf := mf
  unfold bl at x0
  cases hl : p.rest with
  | nil =>
    rw [hl] at x0 HQ HO
    go_enter Tryz.func221, Tryz.ntmps221
    go_wp2
    go_ret
    exact ⟨8, { p with rest := [], done := true }, by omega, by omega, rfl, by simp [fin, finEnd, hl], by simp, HQ.out, HO.out⟩
  | cons a r =>
    rw [hl] at x0 HQ HO
    have e : (⟨(a :: r).toArray⟩ : ByteArray).toList.isEmpty = false := mk_empty_no (a := a) (r := r) (by simp)
    go_enter Tryz.func221, Tryz.ntmps221
    go_wp2
    go_ret
    exact ⟨8, { p with rest := a :: r, done := false }, by omega, by omega, rfl, by simp [fin, finEnd, hl], by simp [hl], HQ.out, HO.out⟩
theorem read_sign (w : World) (b : Nat) (p : PS) (h : PAt w b p) : Calls Tryz.prog 114 #[.pointer (some ⟨b, 0, none⟩)] w (Stg b 0 p w) := by
  have ht := take_any w b p 45 h
  have hmf := mf
  have hlen := cutC_len 45 p.rest
  have HF : Hid (fin 1 { p with rest := (cutC 45 p.rest).2, neg := (cutC 45 p.rest).1 } = fin 0 p) := Lib.hid rfl
  generalize (cutC 45 p.rest).1 = f at *
  generalize (cutC 45 p.rest).2 = r at *
  clear h
  go_enter Tryz.func114, Tryz.ntmps114
  go_wp2_with fail
  refine ht.mono ?_
  rintro e w1 ⟨rfl, h1, o1⟩
  obtain ⟨_, x1, _⟩ := h1.cells
  have z1 := h1.live 1
  have HQ : Hid (PAt (w1.setCell ⟨b, 1, none⟩ (.bool f)) b { p with rest := r, neg := f }) := Lib.hid (h1.set 1 _ rfl)
  have HO := Lib.hid (o1.trans (Only.set b w1 1 (.bool f)))
  clear h1 o1 ht
  go_wp2
  go_ret
  exact ⟨1, { p with rest := r, neg := f }, by omega, by omega, rfl, HF.out, hlen, HQ.out, HO.out⟩
theorem read_point (w : World) (b : Nat) (p : PS) (h : PAt w b p) : Calls Tryz.prog 196 #[.pointer (some ⟨b, 0, none⟩)] w (Stg b 2 p w) := by
  have ht := take_any w b p 46 h
  have hmf := mf
  have hlen := cutC_len 46 p.rest
  cases hf : (cutC 46 p.rest).1 with
  | true =>
    rw [hf] at ht
    have HF : Hid (fin 3 { p with rest := (cutC 46 p.rest).2 } = fin 2 p) := Lib.hid (by simp [fin, finPoint, hf])
    generalize (cutC 46 p.rest).2 = r at *
    clear h hf
    go_enter Tryz.func196, Tryz.ntmps196
    go_wp2_with fail
    refine ht.mono ?_
    rintro e w1 ⟨rfl, h1, o1⟩
    have HQ := Lib.hid h1
    have HO := Lib.hid o1
    clear h1 o1 ht
    go_wp2
    go_ret
    exact ⟨3, { p with rest := r }, by omega, by omega, rfl, HF.out, hlen, HQ.out, HO.out⟩
  | false =>
    have hr := cutC_no hf
    rw [hf, hr] at ht
    have HF : Hid (fin 4 p = fin 2 p) := Lib.hid (by simp [fin, finPoint, hf])
    clear h hf hr hlen
    go_enter Tryz.func196, Tryz.ntmps196
    go_wp2_with fail
    refine ht.mono ?_
    rintro e w1 ⟨rfl, h1, o1⟩
    have HQ := Lib.hid h1
    have HO := Lib.hid o1
    clear h1 o1 ht
    go_wp2
    go_ret
    exact ⟨4, p, by omega, by omega, rfl, HF.out, Nat.le_refl _, HQ.out, HO.out⟩
theorem read_mark (w : World) (b : Nat) (p : PS) (h : PAt w b p) : Calls Tryz.prog 212 #[.pointer (some ⟨b, 0, none⟩)] w (Stg b 4 p w) := by
  have ht := take_any w b p 101 h
  have hmf := mf
  have hlen := cutC_len 101 p.rest
  cases hf : (cutC 101 p.rest).1 with
  | true =>
    rw [hf] at ht
    have HF : Hid (fin 5 { p with rest := (cutC 101 p.rest).2 } = fin 4 p) := Lib.hid (by simp [fin, finMark, hf])
    generalize (cutC 101 p.rest).2 = r at *
    clear h hf
    go_enter Tryz.func212, Tryz.ntmps212
    go_wp2_with fail
    refine ht.mono ?_
    rintro e w1 ⟨rfl, h1, o1⟩
    have HQ := Lib.hid h1
    have HO := Lib.hid o1
    clear h1 o1 ht
    go_wp2
    go_ret
    exact ⟨5, { p with rest := r }, by omega, by omega, rfl, HF.out, hlen, HQ.out, HO.out⟩
  | false =>
    have hr := cutC_no hf
    rw [hf, hr] at ht
    have ht2 := fun w1 (h1 : PAt w1 b p) => take_any w1 b p 69 h1
    have hlen2 := cutC_len 69 p.rest
    cases hg : (cutC 69 p.rest).1 with
    | true =>
      rw [hg] at ht2
      have HF : Hid (fin 5 { p with rest := (cutC 69 p.rest).2 } = fin 4 p) := Lib.hid (by simp [fin, finMark, hf, hg])
      generalize (cutC 69 p.rest).2 = r at *
      clear h hf hr hlen hg
      go_enter Tryz.func212, Tryz.ntmps212
      go_wp2_with fail
      refine ht.mono ?_
      rintro e w1 ⟨rfl, h1, o1⟩
      have hc := ht2 w1 h1
      have HO := Lib.hid o1
      clear h1 o1 ht ht2
      go_wp2_with fail
      refine hc.mono ?_
      rintro e w2 ⟨rfl, h1, o1⟩
      have HQ := Lib.hid h1
      have HO2 := Lib.hid (HO.out.trans o1)
      clear h1 o1 hc
      go_wp2
      go_ret
      exact ⟨5, { p with rest := r }, by omega, by omega, rfl, HF.out, hlen2, HQ.out, HO2.out⟩
    | false =>
      have hr2 := cutC_no hg
      rw [hg, hr2] at ht2
      have HF : Hid (fin 7 p = fin 4 p) := Lib.hid (by simp [fin, finMark, hf, hg])
      clear h hf hr hlen hg hr2 hlen2
      go_enter Tryz.func212, Tryz.ntmps212
      go_wp2_with fail
      refine ht.mono ?_
      rintro e w1 ⟨rfl, h1, o1⟩
      have hc := ht2 w1 h1
      have HO := Lib.hid o1
      clear h1 o1 ht ht2
      go_wp2_with fail
      refine hc.mono ?_
      rintro e w2 ⟨rfl, h1, o1⟩
      have HQ := Lib.hid h1
      have HO2 := Lib.hid (HO.out.trans o1)
      clear h1 o1 hc
      go_wp2
      go_ret
      exact ⟨7, p, by omega, by omega, rfl, HF.out, Nat.le_refl _, HQ.out, HO2.out⟩
theorem read_exponentSign (w : World) (b : Nat) (p : PS) (h : PAt w b p) : Calls Tryz.prog 220 #[.pointer (some ⟨b, 0, none⟩)] w (Stg b 5 p w) := by
  have ht := take_any w b p 45 h
  have hmf := mf
  have hlen := cutC_len 45 p.rest
  cases hf : (cutC 45 p.rest).1 with
  | true =>
    rw [hf] at ht
    have HF : Hid (fin 6 { p with rest := (cutC 45 p.rest).2, below := true } = fin 5 p) := Lib.hid (by simp [fin, finExpSign, hf])
    generalize (cutC 45 p.rest).2 = r at *
    clear h hf
    go_enter Tryz.func220, Tryz.ntmps220
    go_wp2_with fail
    refine ht.mono ?_
    rintro e w1 ⟨rfl, h1, o1⟩
    obtain ⟨_, _, _, _, x4, _⟩ := h1.cells
    have z4 := h1.live 4
    have f4 : (w1.setCell ⟨b, 4, none⟩ (.bool true)).cell? ⟨b, 4, none⟩ = some (.bool true) := World.cell?_setCell_same _ _ _ x4
    have HQ : Hid (PAt (w1.setCell ⟨b, 4, none⟩ (.bool true)) b { p with rest := r, below := true }) := Lib.hid (h1.set 4 _ rfl)
    have HO := Lib.hid (o1.trans (Only.set b w1 4 (.bool true)))
    clear h1 o1 ht
    go_wp2
    go_ret
    exact ⟨6, { p with rest := r, below := true }, by omega, by omega, rfl, HF.out, hlen, HQ.out, HO.out⟩
  | false =>
    have hr := cutC_no hf
    rw [hf, hr] at ht
    have ht2 := fun w1 (h1 : PAt w1 b { p with below := false }) => take_any w1 b _ 43 h1
    have hlen2 := cutC_len 43 p.rest
    have HF : Hid (fin 6 { p with rest := (cutC 43 p.rest).2, below := false } = fin 5 p) := Lib.hid (by simp [fin, finExpSign, hf])
    simp only at ht2
    generalize (cutC 43 p.rest).2 = r at *
    generalize (cutC 43 p.rest).1 = f43 at *
    clear h hf hr hlen
    go_enter Tryz.func220, Tryz.ntmps220
    go_wp2_with fail
    refine ht.mono ?_
    rintro e w1 ⟨rfl, h1, o1⟩
    obtain ⟨_, _, _, _, x4, _⟩ := h1.cells
    have z4 := h1.live 4
    have f4 : (w1.setCell ⟨b, 4, none⟩ (.bool false)).cell? ⟨b, 4, none⟩ = some (.bool false) := World.cell?_setCell_same _ _ _ x4
    have hc := ht2 (w1.setCell ⟨b, 4, none⟩ (.bool false)) (h1.set 4 _ rfl)
    have HO := Lib.hid (o1.trans (Only.set b w1 4 (.bool false)))
    clear h1 o1 ht ht2
    go_wp2_with fail
    refine hc.mono ?_
    rintro e w2 ⟨rfl, h1, o1⟩
    have HQ := Lib.hid h1
    have HO2 := Lib.hid (HO.out.trans o1)
    clear h1 o1 hc
    go_wp2
    go_ret
    exact ⟨6, { p with rest := r, below := false }, by omega, by omega, rfl, HF.out, hlen2, HQ.out, HO2.out⟩
theorem read_fraction (w : World) (b : Nat) (p : PS) (h : PAt w b p) (hz : p.rest.length ≤ 1000000000) : Calls Tryz.prog 211 #[.pointer (some ⟨b, 0, none⟩)] w (Stg b 3 p w) := by
  have ht := takeDigits_any w b p h hz
  have hmf := mf
  have hlen := past_len p.rest
  cases hd : digs p.rest with
  | nil =>
    rw [hd] at ht
    have HF : Hid (fin 8 { p with rest := past p.rest, frac := [] } = fin 3 p) := Lib.hid (by simp [fin, finFrac, hd])
    generalize past p.rest = r at *
    clear h hd hz
    go_enter Tryz.func211, Tryz.ntmps211
    go_wp2_with fail
    refine ht.mono ?_
    rintro e w1 ⟨rfl, h1, o1⟩
    obtain ⟨_, _, _, x, _⟩ := h1.cells
    have z := h1.live 3
    have f := fun v => World.cell?_setCell_same w1 ⟨b, 3, none⟩ v x
    have HQ : Hid (PAt (w1.setCell ⟨b, 3, none⟩ (bl [])) b { p with rest := r, frac := [] }) := Lib.hid (h1.set 3 _ rfl)
    have HO := Lib.hid (o1.trans (Only.set b w1 3 (bl [])))
    clear h1 o1 ht
    unfold bl at *
    go_wp2
    go_ret
    exact ⟨8, { p with rest := r, frac := [] }, by omega, by omega, rfl, HF.out, hlen, HQ.out, HO.out⟩
  | cons a l =>
    rw [hd] at ht
    have HF : Hid (fin 4 { p with rest := past p.rest, frac := a :: l } = fin 3 p) := Lib.hid (by simp [fin, finFrac, hd])
    have he : (⟨(a :: l).toArray⟩ : ByteArray).toList.isEmpty = false := mk_empty_no (a := a) (r := l) (by simp)
    generalize past p.rest = r at *
    clear h hd hz
    go_enter Tryz.func211, Tryz.ntmps211
    go_wp2_with fail
    refine ht.mono ?_
    rintro e w1 ⟨rfl, h1, o1⟩
    obtain ⟨_, _, _, x, _⟩ := h1.cells
    have z := h1.live 3
    have HQ : Hid (PAt (w1.setCell ⟨b, 3, none⟩ (bl (a :: l))) b { p with rest := r, frac := a :: l }) := Lib.hid (h1.set 3 _ rfl)
    have HO := Lib.hid (o1.trans (Only.set b w1 3 (bl (a :: l))))
    clear h1 o1 ht
    unfold bl at *
    obtain ⟨s, hs⟩ : ∃ s : ByteArray, (⟨(a :: l).toArray⟩ : ByteArray) = s := ⟨_, rfl⟩
    rw [hs] at he HQ HO ⊢
    clear hs
    have f := World.cell?_setCell_same w1 ⟨b, 3, none⟩ (.string s) x
    go_wp2
    go_ret
    exact ⟨4, { p with rest := r, frac := a :: l }, by omega, by omega, rfl, HF.out, hlen, HQ.out, HO.out⟩
theorem read_exponent (w : World) (b : Nat) (p : PS) (h : PAt w b p) (hz : p.rest.length ≤ 1000000000) : Calls Tryz.prog 227 #[.pointer (some ⟨b, 0, none⟩)] w (Stg b 6 p w) := by
  have ht := takeDigits_any w b p h hz
  have hmf := mf
  have hlen := past_len p.rest
  cases hd : digs p.rest with
  | nil =>
    rw [hd] at ht
    have HF : Hid (fin 8 { p with rest := past p.rest, exp := [] } = fin 6 p) := Lib.hid (by simp [fin, finExp, hd])
    generalize past p.rest = r at *
    clear h hd hz
    go_enter Tryz.func227, Tryz.ntmps227
    go_wp2_with fail
    refine ht.mono ?_
    rintro e w1 ⟨rfl, h1, o1⟩
    obtain ⟨_, _, _, _, _, x, _⟩ := h1.cells
    have z := h1.live 5
    have f := fun v => World.cell?_setCell_same w1 ⟨b, 5, none⟩ v x
    have HQ : Hid (PAt (w1.setCell ⟨b, 5, none⟩ (bl [])) b { p with rest := r, exp := [] }) := Lib.hid (h1.set 5 _ rfl)
    have HO := Lib.hid (o1.trans (Only.set b w1 5 (bl [])))
    clear h1 o1 ht
    unfold bl at *
    go_wp2
    go_ret
    exact ⟨8, { p with rest := r, exp := [] }, by omega, by omega, rfl, HF.out, hlen, HQ.out, HO.out⟩
  | cons a l =>
    rw [hd] at ht
    have HF : Hid (fin 7 { p with rest := past p.rest, exp := a :: l } = fin 6 p) := Lib.hid (by simp [fin, finExp, hd])
    have he : (⟨(a :: l).toArray⟩ : ByteArray).toList.isEmpty = false := mk_empty_no (a := a) (r := l) (by simp)
    generalize past p.rest = r at *
    clear h hd hz
    go_enter Tryz.func227, Tryz.ntmps227
    go_wp2_with fail
    refine ht.mono ?_
    rintro e w1 ⟨rfl, h1, o1⟩
    obtain ⟨_, _, _, _, _, x, _⟩ := h1.cells
    have z := h1.live 5
    have HQ : Hid (PAt (w1.setCell ⟨b, 5, none⟩ (bl (a :: l))) b { p with rest := r, exp := a :: l }) := Lib.hid (h1.set 5 _ rfl)
    have HO := Lib.hid (o1.trans (Only.set b w1 5 (bl (a :: l))))
    clear h1 o1 ht
    unfold bl at *
    obtain ⟨s, hs⟩ : ∃ s : ByteArray, (⟨(a :: l).toArray⟩ : ByteArray) = s := ⟨_, rfl⟩
    rw [hs] at he HQ HO ⊢
    clear hs
    have f := World.cell?_setCell_same w1 ⟨b, 5, none⟩ (.string s) x
    go_wp2
    go_ret
    exact ⟨7, { p with rest := r, exp := a :: l }, by omega, by omega, rfl, HF.out, hlen, HQ.out, HO.out⟩
end Go.Proofs.YtgcpgieojckheaaGreatDoor
