/-
  The document's Same of tokens, Ahead, one, form and Check.
-/
import Derived.Test.YtingfomfibhnhaaGreatDoorMgTB
import Derived.Test.YtingfomfibhnhaaGreatDoorMgHI
import Derived.Test.YtingfomfibhnhaaGreatDoorMgRH
import Derived.Test.YtingfomfibhnhaaGreatDoorMgRD
namespace Go.Proofs.YtingfomfibhnhaaGreatDoor
open Go.RowKit Go.Shelf

set_option maxRecDepth 100000 in
theorem rahead_any (t : Tok) (w : World) : Calls Tryz.prog 59 #[.agg #[.int .u8 t.1, .string ⟨t.2.toArray⟩]] w (BoolEnd (aheadK t) w) := by
  have hb : Below w.heap.size w (w.alloc (.cells #[.int .u8 t.1, .string ⟨t.2.toArray⟩] 25)) := galloc (Below.refl _ _) _
  have hn := heap_alloc_new w (.cells #[.int .u8 t.1, .string ⟨t.2.toArray⟩] 25)
  have hA : aheadK t = ((t.1 : Int) == 1 || (t.1 : Int) == 2) := by
    unfold aheadK
    obtain ⟨k, l⟩ := t
    rw [Bool.eq_iff_iff]; simp; omega
  rw [hA]
  generalize (t.1 : Int) = tk at *
  generalize (⟨t.2.toArray⟩ : ByteArray) = tx at *
  generalize hw : w.alloc (.cells #[.int .u8 tk, .string tx] 25) = w1 at *
  have c0 : w1.cell? ⟨w.heap.size, 0, none⟩ = some (.int .u8 tk) := by rw [cellH hn]; rfl
  have c1 : w1.cell? ⟨w.heap.size, 1, none⟩ = some (.string tx) := by rw [cellH hn]; rfl
  clear hn hA
  cases h1 : (tk == 1) with
  | true =>
    go_enter Tryz.func59, Tryz.ntmps59
    go_wp2
    go_ret
    exact ⟨rfl, hb⟩
  | false =>
    cases h2 : (tk == 2) with
    | true =>
      go_enter Tryz.func59, Tryz.ntmps59
      go_wp2
      go_ret
      exact ⟨rfl, hb⟩
    | false =>
      go_enter Tryz.func59, Tryz.ntmps59
      go_wp2
      go_ret
      exact ⟨rfl, hb⟩
set_option maxRecDepth 100000 in
set_option maxHeartbeats 8000000 in
theorem rsametok_any (B1 B2 : Nat) (v1 v2 : Value) (E1 E2 : List Tok) (w : World) (h1 : ToksAt B1 w v1 E1) (h2 : ToksAt B2 w v2 E2) (hl : E1.length ≤ 10000000) (hl2 : E2.length ≤ 10000000) : Calls Tryz.prog 24 #[v1, v2] w (BoolEnd (decide (E1 = E2)) w) := by
  obtain ⟨p1, c1, rfl⟩ := owns_shape h1
  obtain ⟨p2, c2, rfl⟩ := owns_shape h2
  have H1 := Lib.hid h1
  have H2 := Lib.hid h2
  clear h1 h2
  by_cases hn : E1.length = E2.length
  · obtain ⟨n, hn1⟩ : ∃ n, E1.length = n := ⟨_, rfl⟩
    have hn2 : E2.length = n := by omega
    rw [hn1] at H1 ⊢
    rw [hn2] at H2 ⊢
    have hnz : n ≤ 10000000 := by omega
    have HN1 := Lib.hid hn1
    have HN2 := Lib.hid hn2
    clear hn hn1 hn2 hl hl2
    obtain ⟨D, hD⟩ : ∃ D, decide (E1 = E2) = D := ⟨_, rfl⟩
    have HD := Lib.hid hD
    rw [hD]
    clear hD
    go_enter Tryz.func24, Tryz.ntmps24
    go_wp2_with fail
    go_loopw [5] (fun i wr => ∃ k : Nat, i = .int .i64 k ∧ k ≤ n ∧ Hid (E1.take k = E2.take k) ∧ Hid (Below w.heap.size w wr)) (fun i _ => n - (intOf i).toNat)
    case atStart => exact ⟨0, rfl, Nat.zero_le _, Lib.hid rfl, Lib.hid (Below.refl _ _)⟩
    case round =>
      obtain ⟨k, rfl, hk, hT, hB⟩ := hrel
      by_cases hlt : k < n
      · have hlt' : (k : Int) < (n : Int) := by omega
        have hlt1 : k < E1.length := by have := HN1.out; omega
        have hlt2 : k < E2.length := by have := HN2.out; omega
        have hg1 : E1[k]? = some E1[k] := List.getElem?_eq_getElem hlt1
        have hg2 : E2[k]? = some E2[k] := List.getElem?_eq_getElem hlt2
        obtain ⟨g1, d1, e1, q0, q1⟩ := tok_at (H1.out.below (hB.out.mono (Nat.le_refl _))) hg1
        obtain ⟨g2, d2, e2, r0, r1⟩ := tok_at (H2.out.below (hB.out.mono (Nat.le_refl _))) hg2
        injection e1 with e1 _ e1'
        injection e2 with e2 _ e2'
        subst e1; subst e2; subst e1'; subst e2'
        clear hg1 hg2
        by_cases hs : E1[k] = E2[k]
        · have hT2 : Hid (E1.take (k + 1) = E2.take (k + 1)) := Lib.hid (by rw [List.take_succ_eq_append_getElem hlt1, List.take_succ_eq_append_getElem hlt2, hT.out, hs])
          rw [hs] at q0 q1
          have r0' := r0
          have r1' := r1
          clear hs
          generalize E2[k] = t at *
          obtain ⟨c, T⟩ := t
          have a0 : wr.cell? ⟨g1, k * 2, none⟩ = some (.int .u8 c) := q0
          have a1 : wr.cell? ⟨g1, k * 2 + 1, none⟩ = some (.string ⟨T.toArray⟩) := q1
          have b0 : wr.cell? ⟨g2, k * 2, none⟩ = some (.int .u8 c) := r0
          have b1 : wr.cell? ⟨g2, k * 2 + 1, none⟩ = some (.string ⟨T.toArray⟩) := r1
          clear q0 q1 r0 r1 r0' r1'
          generalize (⟨T.toArray⟩ : ByteArray) = Q at *
          have hq := fun W => neq_tok c Q W
          have hwi : IntKind.i64.wrap ((k : Int) + 1) = ((k + 1 : Nat) : Int) := by rw [IntWalk.i64_in _ (by omega)]; omega
          go_wp2_with fail
          go_quiet (fail)
          have HB2 := Lib.hid (hB.out.trans ((drewN_below wr nq).mono hB.out.size))
          go_wp2_with fail
          go_roundw
          case rel => exact ⟨k + 1, rfl, by omega, hT2, HB2⟩
          case measure => simp [intOf]; omega
        · have hD : D = false := by
            rw [← HD.out, decide_eq_false_iff_not]
            intro h; subst h; exact hs rfl
          subst hD
          have hne := tok_ne hs
          clear hs
          generalize E1[k] = s at *
          generalize E2[k] = t at *
          obtain ⟨c, S⟩ := s
          obtain ⟨d, T⟩ := t
          have a0 : wr.cell? ⟨g1, k * 2, none⟩ = some (.int .u8 c) := q0
          have a1 : wr.cell? ⟨g1, k * 2 + 1, none⟩ = some (.string ⟨S.toArray⟩) := q1
          have b0 : wr.cell? ⟨g2, k * 2, none⟩ = some (.int .u8 d) := r0
          have b1 : wr.cell? ⟨g2, k * 2 + 1, none⟩ = some (.string ⟨T.toArray⟩) := r1
          have hne' : ¬ ((c : Int) = (d : Int) ∧ (⟨S.toArray⟩ : ByteArray) = ⟨T.toArray⟩) := hne
          clear q0 q1 r0 r1 hne
          generalize (⟨S.toArray⟩ : ByteArray) = Q at *
          generalize (⟨T.toArray⟩ : ByteArray) = R at *
          have hq := fun W => neq_tok2 c d Q R W hne'
          clear hne'
          go_wp2_with fail
          go_quiet (fail)
          have HB2 := Lib.hid (hB.out.trans ((drewN_below wr nq).mono hB.out.size))
          go_wp2_with fail
          go_ret
          exact ⟨rfl, HB2.out⟩
      · obtain rfl : k = n := by omega
        have hD : D = true := by
          rw [← HD.out, decide_eq_true_iff]
          have := hT.out
          rw [List.take_of_length_le (by have := HN1.out; omega), List.take_of_length_le (by have := HN2.out; omega)] at this
          exact this
        subst hD
        go_wp2_with fail
        go_ret
        exact ⟨rfl, hB.out⟩
  · have hn' : ¬ (E1.length : Int) = (E2.length : Int) := by omega
    have hD : decide (E1 = E2) = false := by
      rw [decide_eq_false_iff_not]; intro h; subst h; exact hn rfl
    rw [hD]
    clear hD
    go_enter Tryz.func24, Tryz.ntmps24
    go_wp2_with fail
    go_ret
    exact ⟨rfl, Below.refl _ _⟩
theorem eql_tok_any (s t : Tok) (W : World) : (binOp .eql 25 (.agg #[.int .u8 s.1, .string ⟨s.2.toArray⟩]) (.agg #[.int .u8 t.1, .string ⟨t.2.toArray⟩])).run Tryz.prog W = .ok (.bool (s == t)) W := by
  by_cases h : s = t
  · subst h
    rw [beq_self_eq_true]
    simp [go_sem]
  · rw [beq_eq_false_iff_ne.2 h]
    exact eql_ne _ _ _ _ W (tok_ne h)
set_option maxRecDepth 100000 in
set_option maxHeartbeats 2000000 in
theorem rone58_any (t : Tok) (w : World) (hz : t.2.length ≤ 1000000) (hE : Env w) : Calls Tryz.prog 58 #[.agg #[.int .u8 t.1, .string ⟨t.2.toArray⟩]] w (BoolEnd (isOne t) w) := by
  obtain ⟨w1, hw1⟩ : ∃ w1, w.alloc (.cells #[.int .u8 t.1, .string ⟨t.2.toArray⟩] 25) = w1 := ⟨_, rfl⟩
  have n1 : w1.heap[w.heap.size]? = some (.cells #[.int .u8 t.1, .string ⟨t.2.toArray⟩] 25 (0, 0)) := by rw [← hw1]; exact World.alloc_heap_new w _
  have b1 : Below w.heap.size w w1 := by rw [← hw1]; exact galloc (Below.refl _ _) _
  have c0 : w1.cell? ⟨w.heap.size, 0, none⟩ = some (.int .u8 t.1) := by rw [cellH n1]; rfl
  have c1 : w1.cell? ⟨w.heap.size, 1, none⟩ = some (.string ⟨t.2.toArray⟩) := by rw [cellH n1]; rfl
  have hcall := rone_any ⟨t.2.toArray⟩ w1 (by rw [Lib.size_eq]; exact hz) (hE.below b1 hE.size)
  rw [show (⟨t.2.toArray⟩ : ByteArray).data.toList = t.2 by simp] at hcall
  have hR : isOne t = (oneE t.2 == 0 && oneT t.2 == t) := rfl
  rw [hR]
  generalize oneE t.2 = K at *
  generalize oneT t.2 = s at *
  have hcall2 : Calls Tryz.prog 69 #[.string ⟨t.2.toArray⟩] w1 fun e w' => e = .returned (.tuple #[.agg #[.int .u8 s.1, .string ⟨s.2.toArray⟩], .int .i64 K]) ∧ Below w1.heap.size w1 w' := hcall
  clear hcall
  have HB1 := Lib.hid b1
  have HN1 := Lib.hid n1
  clear b1 n1 hE hR
  go_enter Tryz.func58, Tryz.ntmps58
  go_wp2_with fail
  refine hcall2.mono ?_
  rintro e w2 ⟨rfl, h2⟩
  obtain ⟨w3, hw3⟩ : ∃ w3, w2.alloc (.cells #[.int .u8 s.1, .string ⟨s.2.toArray⟩] 25) = w3 := ⟨_, rfl⟩
  have b3 : Below w2.heap.size w2 w3 := by rw [← hw3]; exact galloc (Below.refl _ _) _
  have n3 : w3.heap[w2.heap.size]? = some (.cells #[.int .u8 s.1, .string ⟨s.2.toArray⟩] 25 (0, 0)) := by rw [← hw3]; exact World.alloc_heap_new w2 _
  have n31 := (b3.block _ (Nat.lt_of_lt_of_le (Array.getElem?_eq_some_iff.1 HN1.out).1 h2.size)).trans ((h2.block _ (Array.getElem?_eq_some_iff.1 HN1.out).1).trans HN1.out)
  have s0 : w3.cell? ⟨w2.heap.size, 0, none⟩ = some (.int .u8 s.1) := by rw [cellH n3]; rfl
  have s1 : w3.cell? ⟨w2.heap.size, 1, none⟩ = some (.string ⟨s.2.toArray⟩) := by rw [cellH n3]; rfl
  have t0 : w3.cell? ⟨w.heap.size, 0, none⟩ = some (.int .u8 t.1) := by rw [cellH n31]; rfl
  have t1 : w3.cell? ⟨w.heap.size, 1, none⟩ = some (.string ⟨t.2.toArray⟩) := by rw [cellH n31]; rfl
  have HB3 := Lib.hid (HB1.out.trans ((gcall h2 b3).mono HB1.out.size))
  have hq := fun W => eql_tok_any s t W
  clear c0 c1 n3 n31 b3 h2 hcall2
  generalize (s == t) = q at *
  by_cases hK : K = 0
  · have hK1 : (K == 0) = true := beq_iff_eq.2 hK
    clear hK
    go_wp2_with fail
    go_ret
    exact ⟨by rw [hK1, Bool.true_and]; rfl, HB3.out⟩
  · have hK1 : (K == 0) = false := beq_eq_false_iff_ne.2 hK
    clear hK
    go_wp2_with fail
    go_ret
    exact ⟨by rw [hK1, Bool.false_and]; rfl, HB3.out⟩
end Go.Proofs.YtingfomfibhnhaaGreatDoor
