/-
  LexNames: many, Ahead; the facts on its texts.
  LexNames: slices.Equal, Apart.
-/
import Derived.Test.YtingfomfibhnhaaGreatDoorMgM
import Derived.Laws.MakeOwn
import Derived.Laws.IdiomStrings
import Derived.Lib.SmallJoins
import Derived.Deep.RegionHeld3
import Derived.BigQuiet
namespace Go.Proofs.YtingfomfibhnhaaGreatDoor
open Go.RowKit Go.Shelf

def rep (n : Nat) (c : UInt8) : ByteArray := ⟨Array.replicate n c⟩
theorem rep_list (n : Nat) (c : UInt8) : (rep n c).data.toList = List.replicate n c := by simp [rep]
theorem rep_size (n : Nat) (c : UInt8) : (rep n c).size = n := by simp [rep, ByteArray.size]
theorem und43 : Tryz.prog.underlying 71 = some (.slice 5) := by kernel_rfl

theorem conv_own (w : World) (B n : Nat) (v : Value) (l : List UInt8) (h : w.ownsRow B 5 1 v n (Lib.byteCells l)) (hn : 0 < n) : (convert 71 9 v).run Tryz.prog w = .ok (.string ⟨l.toArray⟩) w := by
  obtain ⟨g, cap, rfl⟩ := Joins.ownsRow_form h hn
  have hl : l.length = n := by have := h.1; rw [Lib.byteCells_length] at this; omega
  subst hl
  refine run_convert_bytes_back w 71 9 5 ⟨g, 0, none⟩ cap l und43 und5 und9 fun j hj => ?_
  have hadd := h.cells (g := g) rfl j (.int .u8 (l[j].toNat : Int)) (by simp [Lib.byteCells, hj])
  exact hadd

theorem val_one : valB [32] = true := by decide +kernel
theorem val_rep : ∀ n, valB (List.replicate n 32) = true
  | 0 => rfl
  | n + 1 => by rw [List.replicate_succ, show (32 : UInt8) :: List.replicate n 32 = [32] ++ List.replicate n 32 from rfl, valB_app val_one]; exact val_rep n
theorem lead_rep : ∀ n, lead blankB (List.replicate n 32) = n
  | 0 => rfl
  | n + 1 => by
    rw [List.replicate_succ]; unfold lead; rw [if_pos (by decide), lead_rep n]
theorem toks_rep (n : Nat) : toks (List.replicate (n + 1) 32) = [(1, List.replicate (n + 1) 32)] := by
  have hc : cut (List.replicate (n + 1) 32) = (1, n + 1) := by
    rw [List.replicate_succ]
    show cutC 32 (List.replicate n 32) = _
    unfold cutC
    rw [if_pos (by decide), ← List.replicate_succ, lead_rep]
  have hl : (List.replicate (n + 1) (32 : UInt8)).length = n + 1 := List.length_replicate
  rw [toks_cons _ (by rw [List.replicate_succ]; simp), hc]
  rw [List.take_of_length_le (by rw [hl]; exact Nat.le_refl _), List.drop_of_length_le (by rw [hl]; exact Nat.le_refl _), toks_nil]
theorem tokE_rep (n : Nat) (h : n ≤ 65536) : tokE (List.replicate n 32) = 0 := by
  unfold tokE; rw [List.length_replicate, if_neg (by omega), if_pos (val_rep n)]
theorem tokE_far (n : Nat) (h : 65536 < n) : tokE (List.replicate n 32) = 40 := by
  unfold tokE; rw [List.length_replicate, if_pos h]
def TokEnd3 (n : Nat) (k : Int) (w : World) (e : Ending) (w' : World) : Prop := ∃ p c, e = .returned (.tuple #[.slice p n c, .int .i64 k]) ∧ Below w.heap.size w w'
theorem tokens_n (s : ByteArray) (w : World) (hz : s.size ≤ 1000000) (hE : Env w) {n : Nat} {k : Int} (h1 : (tokL s.data.toList).length = n) (h2 : tokE s.data.toList = k) : Calls Tryz.prog 31 #[.string s] w (TokEnd3 n k w) := by
  subst h1; subst h2
  refine (tokens_any s w hz hE).mono ?_
  rintro e w' ⟨v, h1, h2, h3⟩
  obtain ⟨p, c, rfl⟩ := owns_shape h2
  exact ⟨p, c, h1, h3⟩
def BoolEnd (b : Bool) (w : World) (e : Ending) (w' : World) : Prop := e = .returned (.bool b) ∧ Below w.heap.size w w'
theorem ahead_yes (T : ByteArray) (w : World) : Calls Tryz.prog 48 #[.agg #[.int .u8 2, .string T]] w (BoolEnd true w) := by
  have hB := galloc2 (Below.refl w.heap.size w) (Nat.le_refl _) (.cells #[.int .u8 2, .string T] 25)
  go_enter Tryz.func48, Tryz.ntmps48
  go_wp2_with fail
  go_ret
  exact ⟨rfl, hB⟩
theorem ahead_no (T : ByteArray) (w : World) : Calls Tryz.prog 48 #[.agg #[.int .u8 4, .string T]] w (BoolEnd false w) := by
  have hB := galloc2 (Below.refl w.heap.size w) (Nat.le_refl _) (.cells #[.int .u8 4, .string T] 25)
  go_enter Tryz.func48, Tryz.ntmps48
  go_wp2_with fail
  go_ret
  exact ⟨rfl, hB⟩
end Go.Proofs.YtingfomfibhnhaaGreatDoor
namespace Go.Proofs.YtingfomfibhnhaaGreatDoor
open Go.RowKit

set_option maxRecDepth 100000 in
theorem neq_tok2 (k1 k2 : Int) (T1 T2 : ByteArray) (W : World) (h : ¬ (k1 = k2 ∧ T1 = T2)) : (binOp .neq 25 (.agg #[.int .u8 k1, .string T1]) (.agg #[.int .u8 k2, .string T2])).run Tryz.prog W = .ok (.bool true) W := by
  by_cases h1 : k1 = k2
  · have h2 : ¬ T1 = T2 := fun h2 => h ⟨h1, h2⟩
    have h3 : ¬ T1.toList = T2.toList := fun h3 => h2 (Utf.ba_ext (by rw [Lib.toList_data, Lib.toList_data] at h3; exact h3))
    simp [go_sem, h3]
  · simp [go_sem, h1]
theorem tok_ne {s t : Tok} (h : s ≠ t) : ¬ ((s.1 : Int) = (t.1 : Int) ∧ (⟨s.2.toArray⟩ : ByteArray) = ⟨t.2.toArray⟩) := by
  rintro ⟨h1, h2⟩
  apply h
  have h3 : s.1 = t.1 := by omega
  have h4 : s.2 = t.2 := by injection h2 with h2; simpa using congrArg Array.toList h2
  exact Prod.ext h3 h4
set_option maxRecDepth 100000 in
set_option maxHeartbeats 8000000 in
theorem equal_any (B1 B2 : Nat) (v1 v2 : Value) (E1 E2 : List Tok) (w : World) (h1 : ToksAt B1 w v1 E1) (h2 : ToksAt B2 w v2 E2) (hl : E1.length ≤ 10000000) (hl2 : E2.length ≤ 10000000) : Calls Tryz.prog 32 #[v1, v2] w (BoolEnd (decide (E1 = E2)) w) := by
  obtain ⟨p1, c1, rfl⟩ := owns_shape h1
  obtain ⟨p2, c2, rfl⟩ := owns_shape h2
  have H1 := Lib.hid h1
  have H2 := Lib.hid h2
  clear h1 h2
  by_cases hn : E1.length = E2.length
  · obtain ⟨n, hn1⟩ : ∃ n, E1.length = n := ⟨_, rfl⟩
    have hn2 : E2.length = n := by omega
    rw [hn1] at H1 ⊢
    rw [hn2] at H2 ⊢
    have hnz : n ≤ 10000000 := by omega
    have HN1 := Lib.hid hn1
    have HN2 := Lib.hid hn2
    clear hn hn1 hn2 hl hl2
    obtain ⟨D, hD⟩ : ∃ D, decide (E1 = E2) = D := ⟨_, rfl⟩
    have HD := Lib.hid hD
    rw [hD]
    clear hD
    go_enter Tryz.func32, Tryz.ntmps32
    go_wp2_with fail
    go_loopw [13, 5] (fun i _ wr => ∃ k : Nat, i = .int .i64 k ∧ k ≤ n ∧ Hid (E1.take k = E2.take k) ∧ Hid (Below w.heap.size w wr)) (fun i _ _ => n - (intOf i).toNat)
    case atStart => exact ⟨0, rfl, Nat.zero_le _, Lib.hid rfl, Lib.hid (Below.refl _ _)⟩
    case round =>
      obtain ⟨k, rfl, hk, hT, hB⟩ := hrel
      by_cases hlt : k < n
      · have hlt' : (k : Int) < (n : Int) := by omega
        have hlt1 : k < E1.length := by have := HN1.out; omega
        have hlt2 : k < E2.length := by have := HN2.out; omega
        have hg1 : E1[k]? = some E1[k] := List.getElem?_eq_getElem hlt1
        have hg2 : E2[k]? = some E2[k] := List.getElem?_eq_getElem hlt2
        obtain ⟨g1, d1, e1, q0, q1⟩ := tok_at (H1.out.below (hB.out.mono (Nat.le_refl _))) hg1
        obtain ⟨g2, d2, e2, r0, r1⟩ := tok_at (H2.out.below (hB.out.mono (Nat.le_refl _))) hg2
        injection e1 with e1 _ e1'
        injection e2 with e2 _ e2'
        subst e1; subst e2; subst e1'; subst e2'
        clear hg1 hg2
        by_cases hs : E1[k] = E2[k]
        · have hT2 : Hid (E1.take (k + 1) = E2.take (k + 1)) := Lib.hid (by rw [List.take_succ_eq_append_getElem hlt1, List.take_succ_eq_append_getElem hlt2, hT.out, hs])
          rw [hs] at q0 q1
          have r0' := r0
          have r1' := r1
          clear hs
          generalize E2[k] = t at *
          obtain ⟨c, T⟩ := t
          have a0 : wr.cell? ⟨g1, k * 2, none⟩ = some (.int .u8 c) := q0
          have a1 : wr.cell? ⟨g1, k * 2 + 1, none⟩ = some (.string ⟨T.toArray⟩) := q1
          have b0 : wr.cell? ⟨g2, k * 2, none⟩ = some (.int .u8 c) := r0
          have b1 : wr.cell? ⟨g2, k * 2 + 1, none⟩ = some (.string ⟨T.toArray⟩) := r1
          clear q0 q1 r0 r1 r0' r1'
          generalize (⟨T.toArray⟩ : ByteArray) = Q at *
          have hq := fun W => neq_tok c Q W
          have hwi : IntKind.i64.wrap ((k : Int) + 1) = ((k + 1 : Nat) : Int) := by rw [IntWalk.i64_in _ (by omega)]; omega
          go_wp2_with fail
          go_quiet (fail)
          have HB2 := Lib.hid (hB.out.trans ((drewN_below wr nq).mono hB.out.size))
          go_wp2_with fail
          go_roundw
          case rel => exact ⟨k + 1, rfl, by omega, hT2, HB2⟩
          case measure => simp [intOf]; omega
        · have hD : D = false := by
            rw [← HD.out, decide_eq_false_iff_not]
            intro h; subst h; exact hs rfl
          subst hD
          have hne := tok_ne hs
          clear hs
          generalize E1[k] = s at *
          generalize E2[k] = t at *
          obtain ⟨c, S⟩ := s
          obtain ⟨d, T⟩ := t
          have a0 : wr.cell? ⟨g1, k * 2, none⟩ = some (.int .u8 c) := q0
          have a1 : wr.cell? ⟨g1, k * 2 + 1, none⟩ = some (.string ⟨S.toArray⟩) := q1
          have b0 : wr.cell? ⟨g2, k * 2, none⟩ = some (.int .u8 d) := r0
          have b1 : wr.cell? ⟨g2, k * 2 + 1, none⟩ = some (.string ⟨T.toArray⟩) := r1
          have hne' : ¬ ((c : Int) = (d : Int) ∧ (⟨S.toArray⟩ : ByteArray) = ⟨T.toArray⟩) := hne
          clear q0 q1 r0 r1 hne
          generalize (⟨S.toArray⟩ : ByteArray) = Q at *
          generalize (⟨T.toArray⟩ : ByteArray) = R at *
          have hq := fun W => neq_tok2 c d Q R W hne'
          clear hne'
          go_wp2_with fail
          go_quiet (fail)
          have HB2 := Lib.hid (hB.out.trans ((drewN_below wr nq).mono hB.out.size))
          go_wp2_with fail
          go_ret
          exact ⟨rfl, HB2.out⟩
      · obtain rfl : k = n := by omega
        have hD : D = true := by
          rw [← HD.out, decide_eq_true_iff]
          have := hT.out
          rw [List.take_of_length_le (by have := HN1.out; omega), List.take_of_length_le (by have := HN2.out; omega)] at this
          exact this
        subst hD
        go_wp2_with fail
        go_ret
        exact ⟨rfl, hB.out⟩
  · have hn' : ¬ (E1.length : Int) = (E2.length : Int) := by omega
    have hD : decide (E1 = E2) = false := by
      rw [decide_eq_false_iff_not]; intro h; subst h; exact hn rfl
    rw [hD]
    clear hD
    go_enter Tryz.func32, Tryz.ntmps32
    go_wp2_with fail
    go_ret
    exact ⟨rfl, Below.refl _ _⟩
end Go.Proofs.YtingfomfibhnhaaGreatDoor
