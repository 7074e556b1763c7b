/-
  LexBack: the walk.
-/
import Derived.Test.YtaofpefmniadiaaDoorT
namespace Go.Proofs.YtaofpefmniadiaaDoor
open Go.RowKit

def TokEnd2 (E : List Tok) (k : Int) (w : World) (e : Ending) (w' : World) : Prop := ∃ p c, e = .returned (.tuple #[.slice p E.length c, .int .i64 k]) ∧ ToksAt w.heap.size w' (.slice p E.length c) E ∧ Below w.heap.size w w'
theorem tokens_to (s : ByteArray) (w : World) (hz : s.size ≤ 1000000) (hE : Env w) {E : List Tok} {k : Int} (h1 : tokL s.data.toList = E) (h2 : tokE s.data.toList = k) : Calls Tryd.prog 9 #[.string s] w (TokEnd2 E k w) := by
  subst h1; subst h2
  refine (tokens_any s w hz hE).mono ?_
  rintro e w' ⟨v, h1, h2, h3⟩
  obtain ⟨p, c, rfl⟩ := owns_shape h2
  exact ⟨p, c, h1, h2, h3⟩
def OneEnd2 (c : Nat) (Q : ByteArray) (k : Int) (w : World) (e : Ending) (w' : World) : Prop := e = .returned (.tuple #[.agg #[.int .u8 c, .string Q], .int .i64 k]) ∧ Below w.heap.size w w'
theorem one_to (Q : ByteArray) (c : Nat) (w : World) (hz : Q.size ≤ 1000000) (hE : Env w) (h1 : oneT Q.data.toList = (c, Q.data.toList)) (h2 : oneE Q.data.toList = 0) : Calls Tryd.prog 11 #[.string Q] w (OneEnd2 c Q 0 w) := by
  refine (one_tok_any Q w hz hE).mono ?_
  rintro e w' ⟨h3, h4⟩
  refine ⟨?_, h4⟩
  rw [h3, h1, h2]
  unfold tokA bl; rw [← ba_of Q rfl]
def JoinEnd2 (s : ByteArray) (w : World) (e : Ending) (w' : World) : Prop := e = .returned (.string s) ∧ Below w.heap.size w w'
theorem join_to (B0 : Nat) (v : Value) (E : List Tok) (s : ByteArray) (w : World) (hT : ToksAt B0 w v E) (hl : E.length ≤ 10000000) (hs : s.size ≤ 100000000) (hj : joinL E = s.data.toList) : Calls Tryd.prog 17 #[v] w (JoinEnd2 s w) := by
  refine (join_any B0 v E w hT hl (by rw [hj, ← Lib.size_eq]; exact hs)).mono ?_
  rintro e w' ⟨h3, h4⟩
  refine ⟨?_, h4⟩
  rw [h3, hj]; unfold bl; rw [← ba_of s rfl]
set_option maxRecDepth 100000 in
set_option maxHeartbeats 16000000 in
theorem back_walk (s : ByteArray) (w : World) (hm : s.size ≤ maxLen) (hE : Env w) : Calls Tryd.prog 5 #[.string s] w (WorksEnd w) := by
  unfold maxLen at hm
  have HE := Lib.hid hE
  clear hE
  by_cases h8 : 800 < s.size
  · have h8' : (800 : Int) < (s.size : Int) := by omega
    go_enter Tryd.func5, Tryd.ntmps5
    go_wp2_with fail
    refine (works_any w HE.out).mono ?_
    rintro e w1 ⟨rfl, hb1⟩
    have HB1 := Lib.hid hb1
    clear hb1
    go_wp2_with fail
    refine (works_any w1 (HE.out.below HB1.out HE.out.size)).mono ?_
    rintro e w2 ⟨rfl, hb2⟩
    have HB2 := Lib.hid (HB1.out.trans (hb2.mono HB1.out.size))
    clear hb2
    go_wp2_with fail
    go_ret
    exact ⟨rfl, HB2.out⟩
  · have h8' : ¬ (800 : Int) < (s.size : Int) := by omega
    by_cases h0 : tokE s.data.toList = 0
    · have hL : tokL s.data.toList = toks s.data.toList := by unfold tokL; rw [if_pos h0]
      have HK := Lib.hid (fun (i : Nat) (t : Tok) h => back_tok (l := s.data.toList) h0 (i := i) (t := t) h)
      have HT0 := Lib.hid hL
      have H0 := Lib.hid h0
      have hj : joinL (toks s.data.toList) = s.data.toList := toks_join _
      have HJ := Lib.hid hj
      have hfew : (toks s.data.toList).length ≤ 800 := by have := toks_len s.data.toList; rw [← Lib.size_eq] at this; omega
      have HLs := Lib.hid (Lib.size_eq s).symm
      clear hL h0 hj
      generalize toks s.data.toList = E at *
      go_enter Tryd.func5, Tryd.ntmps5
      go_wp2_with fail
      refine (works_any w HE.out).mono ?_
      rintro e w1 ⟨rfl, hb1⟩
      have HB1 := Lib.hid hb1
      clear hb1
      go_wp2_with fail
      refine (tokens_to s w1 (by omega) (HE.out.below HB1.out HE.out.size) HT0.out H0.out).mono ?_
      rintro e w2 ⟨po, co, rfl, hT, hb2⟩
      have HT := Lib.hid hT
      have HB2 := Lib.hid (HB1.out.trans (hb2.mono HB1.out.size))
      clear hT hb2
      go_wp2_with fail
      refine (join_to _ _ E s w2 HT.out (by omega) (by omega) HJ.out).mono ?_
      rintro e w3 ⟨rfl, hb3⟩
      have HT3 := Lib.hid (HT.out.below hb3)
      have HB3 := Lib.hid (HB2.out.trans (hb3.mono HB2.out.size))
      have HE3 := Lib.hid (HE.out.below HB3.out HE.out.size)
      clear hb3
      go_wp2_with fail
      go_loopw [5, 6, 7, 8, 9, 10, 11] (fun a i _ _ _ _ _ wr => ∃ k : Nat, i = .int .i64 k ∧ a = .int .i64 ((joinL (E.take k)).length : Nat) ∧ k ≤ E.length ∧ Hid (Below w3.heap.size w3 wr)) (fun _ i _ _ _ _ _ _ => E.length - (intOf i).toNat)
      case atStart => exact ⟨0, rfl, rfl, Nat.zero_le _, Lib.hid (Below.refl _ _)⟩
      case round =>
        obtain ⟨k, rfl, rfl, hk, HB⟩ := hrel
        by_cases hlt : k < E.length
        · have hlt' : (k : Int) < (E.length : Int) := by omega
          have hgt : E[k]? = some E[k] := List.getElem?_eq_getElem hlt
          obtain ⟨g, cap, he, q0, q1⟩ := tok_at (HT3.out.below HB.out) hgt
          injection he with he1 _ he2
          subst he1
          subst he2
          obtain ⟨b1, b2, b3, b4, b5, b6⟩ := HK.out k _ hgt
          have hst := join_step hgt
          have hlen := congrArg List.length hst
          rw [List.length_append] at hlen
          have HGT := Lib.hid hgt
          clear hst hgt
          generalize E[k] = t at *
          obtain ⟨c, tt⟩ := t
          obtain ⟨Q, rfl⟩ : ∃ Q : ByteArray, tt = Q.data.toList := ⟨⟨tt.toArray⟩, rfl⟩
          have hQ : (⟨Q.data.toList.toArray⟩ : ByteArray) = Q := (ba_of Q rfl).symm
          have q0' : wr.cell? ⟨g, k * 2, none⟩ = some (.int .u8 c) := q0
          have q1' : wr.cell? ⟨g, k * 2 + 1, none⟩ = some (.string Q) := by rw [← hQ]; exact q1
          rw [HLs.out] at b6
          have hQz : Q.size ≤ 800 := by rw [Lib.size_eq]; have : Q.data.toList.length ≤ 800 := by simp only at hlen; omega
                                        exact this
          have hQ0 : 0 < Q.size := by
            rw [Lib.size_eq]; exact List.length_pos_iff.2 b1
          have hQe := Utf.isEmpty_no hQ0
          rw [← Lib.size_eq] at hlen
          have c1 := fun W h => one_to Q c W (by omega) h b3 b2
          have c2 := fun W h => tokens_to (s.extract (joinL (E.take (k + 1))).length s.size) W (by rw [ext_size]; omega) h (E := E.drop (k + 1)) (k := 0) (by rw [ext_list]; exact b5) (by rw [ext_list]; exact b4)
          have HER := Lib.hid (HE3.out.below HB.out HE3.out.size)
          clear q0 q1 hQ b1 b2 b3 b4 b5
          generalize hA1e : (joinL (E.take (k + 1))).length = A1 at *
          have HA1 := Lib.hid hA1e
          clear hA1e
          generalize (joinL (E.take k)).length = A0 at *
          have hA1 : (A1 : Int) ≤ (s.size : Int) := by omega
          have w1' : IntKind.i64.wrap ((A0 : Int) + (Q.size : Int)) = (A1 : Int) := by rw [IntWalk.i64_in _ (by omega)]; omega
          have w2' : IntKind.i64.wrap ((k : Int) + 1) = ((k + 1 : Nat) : Int) := by rw [IntWalk.i64_in _ (by omega)]; omega
          clear hlen
          go_wp2_with fail
          refine (c1 wr HER.out).mono ?_
          rintro e w4 ⟨rfl, hb4⟩
          have HB4 := Lib.hid (HB.out.trans (hb4.mono HB.out.size))
          have hcell4 : w4.cell? ⟨g, k * 2 + 1, none⟩ = some (.string Q) := (hb4.cell (p := ⟨g, k * 2 + 1, none⟩) (lt_of_cell q1')).trans q1'
          have hcell4' : w4.cell? ⟨g, k * 2, none⟩ = some (.int .u8 c) := (hb4.cell (p := ⟨g, k * 2, none⟩) (lt_of_cell q0')).trans q0'
          have hbox := heap_alloc_new w4 (.cells #[.int .u8 c, .string Q] 32)
          have hba : Below w4.heap.size w4 (w4.alloc (.cells #[.int .u8 c, .string Q] 32)) := galloc2 (Below.refl _ _) (Nat.le_refl _) _
          have HB5 := Lib.hid (HB4.out.trans (hba.mono HB4.out.size))
          have hc5 : (w4.alloc (.cells #[.int .u8 c, .string Q] 32)).cell? ⟨g, k * 2 + 1, none⟩ = some (.string Q) := (hba.cell (p := ⟨g, k * 2 + 1, none⟩) (lt_of_cell hcell4)).trans hcell4
          have hc5' : (w4.alloc (.cells #[.int .u8 c, .string Q] 32)).cell? ⟨g, k * 2, none⟩ = some (.int .u8 c) := (hba.cell (p := ⟨g, k * 2, none⟩) (lt_of_cell hcell4')).trans hcell4'
          have HBOX := Lib.hid hbox
          clear hb4 q0' q1' hbox hba hcell4 hcell4'
          generalize hv5 : w4.alloc (.cells #[.int .u8 c, .string Q] 32) = w5 at *
          have HC5 := Lib.hid hc5
          have HC5' := Lib.hid hc5'
          have c2' := c2 w5 (HE3.out.below HB5.out HE3.out.size)
          clear c1 c2
          go_wp2_with fail
          refine c2'.mono ?_
          rintro e w6 ⟨p2, k2, rfl, hT6, hb6⟩
          have HT6 := Lib.hid hT6
          have HB6 := Lib.hid (HB5.out.trans (hb6.mono HB5.out.size))
          have x1 : w6.cell? ⟨g, k * 2 + 1, none⟩ = some (.string Q) := (hb6.cell (p := ⟨g, k * 2 + 1, none⟩) (lt_of_cell hc5)).trans hc5
          have x0 : w6.cell? ⟨g, k * 2, none⟩ = some (.int .u8 c) := (hb6.cell (p := ⟨g, k * 2, none⟩) (lt_of_cell hc5')).trans hc5'
          have hbx : w6.heap[w4.heap.size]? = some (.cells #[.int .u8 c, .string Q] 32 (0, 0)) := (hb6.block _ (Array.getElem?_eq_some_iff.1 HBOX.out).1).trans HBOX.out
          have y0 : w6.cell? ⟨w4.heap.size, 0, none⟩ = some (.int .u8 c) := by rw [cellH hbx]; rfl
          have y1 : w6.cell? ⟨w4.heap.size, 1, none⟩ = some (.string Q) := by rw [cellH hbx]; rfl
          have hdl : (E.drop (k + 1)).length = E.length - (k + 1) := List.length_drop
          have hn := fun W => neq_tok c Q W
          have HDL := Lib.hid hdl
          obtain ⟨D, hD⟩ : ∃ D, E.drop (k + 1) = D := ⟨_, rfl⟩
          rw [hD] at hdl HT6 HDL
          have HD := Lib.hid hD
          obtain ⟨n2, hn2⟩ : ∃ n2, D.length = n2 := ⟨_, rfl⟩
          have HN2 := Lib.hid hn2
          rw [hn2] at hdl
          have v1 : IntKind.i64.wrap ((E.length : Int) - (k : Int)) = ((n2 + 1 : Nat) : Int) := by rw [IntWalk.i64_in _ (by omega)]; omega
          have v2 : IntKind.i64.wrap (((n2 + 1 : Nat) : Int) - 1) = (n2 : Int) := by rw [IntWalk.i64_in _ (by omega)]; omega
          have hn2b : n2 ≤ 1000 := by omega
          have v3 : IntKind.i64.wrap (n2 : Int) = (n2 : Int) := IntWalk.i64_in _ (by omega)
          have hkn : Hid (E.length = k + 1 + n2) := Lib.hid (by omega)
          clear hT6 hb6 hc5 hc5' hbx hdl hv5 hn2 c2'
          rw [hD]
          rw [HN2.out]
          go_wp2_with fail
          go_quiet (fail)
          have HB7 := Lib.hid (HB6.out.trans ((drewN_below w6 nq).mono HB6.out.size))
          have HT7 := Lib.hid (HT6.out.below (drewN_below w6 nq))
          clear x0 x1 y0 y1 v1 v2 v3
          generalize w6.drewN nq = w7 at *
          obtain ⟨wo, hwo⟩ : ∃ x, x = wr := ⟨_, rfl⟩
          subst hwo
          go_wp2_with fail
          go_loopw [11] (fun m wi => ∃ j : Nat, m = .int .i64 j ∧ j ≤ n2 ∧ Hid (Below w7.heap.size w7 wi)) (fun m _ => n2 - (intOf m).toNat)
          case atStart => exact ⟨0, rfl, Nat.zero_le _, Lib.hid (Below.refl _ _)⟩
          case round =>
            obtain ⟨j, rfl, hj, HBi⟩ := hrel
            obtain ⟨wi, hwi⟩ : ∃ x, x = wr := ⟨_, rfl⟩
            subst hwi
            by_cases hjl : j < n2
            · have hjl' : (j : Int) < (n2 : Int) := by omega
              have hdj : D[j]? = some (D[j]'(by rw [HN2.out]; exact hjl)) := List.getElem?_eq_getElem _
              have hej : E[k + 1 + j]? = D[j]? := by rw [← HD.out, List.getElem?_drop]
              obtain ⟨g2, cap2, he2, r0, r1⟩ := tok_at (HT7.out.below HBi.out) hdj
              injection he2 with he3 _ he4
              subst he3
              subst he4
              rw [hdj] at hej
              have hTi := (HT3.out.below HB7.out).below HBi.out
              obtain ⟨g3, cap3, he5, s0, s1⟩ := tok_at hTi hej
              injection he5 with he6 _ he7
              injection he6 with he6
              injection he6 with he6 _ _
              subst he6
              subst he7
              generalize D[j]'(by rw [HN2.out]; exact hjl) = t2 at *
              obtain ⟨d2, tt2⟩ := t2
              obtain ⟨Q2, rfl⟩ : ∃ Q2 : ByteArray, tt2 = Q2.data.toList := ⟨⟨tt2.toArray⟩, rfl⟩
              have hQ2 : (⟨Q2.data.toList.toArray⟩ : ByteArray) = Q2 := (ba_of Q2 rfl).symm
              have r0' : wi.cell? ⟨g2, j * 2, none⟩ = some (.int .u8 d2) := r0
              have r1' : wi.cell? ⟨g2, j * 2 + 1, none⟩ = some (.string Q2) := by rw [← hQ2]; exact r1
              have s0' : wi.cell? ⟨g, (k + 1 + j) * 2, none⟩ = some (.int .u8 d2) := s0
              have s1' : wi.cell? ⟨g, (k + 1 + j) * 2 + 1, none⟩ = some (.string Q2) := by rw [← hQ2]; exact s1
              have hkj : ((k + 1 + j : Nat) : Int) < (E.length : Int) := by have := hkn.out; omega
              have hn2 := fun W => neq_tok d2 Q2 W
              have u1' : IntKind.i64.wrap (((k + 1 : Nat) : Int) + (j : Int)) = ((k + 1 + j : Nat) : Int) := by rw [IntWalk.i64_in _ (by omega)]; omega
              have u2' : IntKind.i64.wrap ((k : Int) + 1 + (j : Int)) = ((k + 1 + j : Nat) : Int) := by rw [IntWalk.i64_in _ (by omega)]; omega
              have u3' : (0 : Int) ≤ ((k + 1 + j : Nat) : Int) := by omega
              have u4' : IntKind.i64.wrap ((j : Int) + 1) = ((j + 1 : Nat) : Int) := by rw [IntWalk.i64_in _ (by omega)]; omega
              have hdl2 : (j : Int) < (D.length : Int) := by have := HN2.out; omega
              clear hdj hej r0 r1 s0 s1 hQ2 hTi
              generalize k + 1 + j = m2 at *
              go_wp2_with fail
              go_quiet (fail)
              have HB9 := Lib.hid (HBi.out.trans ((drewN_below wi nq).mono HBi.out.size))
              clear r0' r1' s0' s1' hn2 u1' u2' u3'
              generalize wi.drewN nq = w9 at *
              go_wp2_with fail
              go_roundw
              case rel => exact ⟨j + 1, rfl, by omega, HB9⟩
              case measure => simp [intOf]; omega
            · have hjl' : ¬ (j : Int) < (n2 : Int) := by omega
              have HBe := Lib.hid (HB7.out.trans (HBi.out.mono HB7.out.size))
              go_wp2_with fail
              go_roundw
              case rel => exact ⟨k + 1, rfl, by rw [HA1.out], by omega, HBe⟩
              case measure => simp [intOf]; omega
        · have hlt' : ¬ (k : Int) < (E.length : Int) := by omega
          have HBe := Lib.hid (HB3.out.trans (HB.out.mono HB3.out.size))
          go_wp2_with fail
          go_ret
          exact ⟨rfl, HBe.out⟩
    · have hL : tokL s.data.toList = [] := by unfold tokL; rw [if_neg h0]
      have HT0 := Lib.hid hL
      obtain ⟨K, hK⟩ : ∃ K, tokE s.data.toList = K := ⟨_, rfl⟩
      rw [hK] at h0
      have HK := Lib.hid hK
      have q : ((K : Int) != 0) = true := by rw [bne_iff_ne]; exact h0
      clear hL h0 hK
      go_enter Tryd.func5, Tryd.ntmps5
      go_wp2_with fail
      refine (works_any w HE.out).mono ?_
      rintro e w1 ⟨rfl, hb1⟩
      have HB1 := Lib.hid hb1
      clear hb1
      go_wp2_with fail
      refine (tokens_to s w1 (by omega) (HE.out.below HB1.out HE.out.size) HT0.out HK.out).mono ?_
      rintro e w2 ⟨po, co, rfl, hT, hb2⟩
      have HB2 := Lib.hid (HB1.out.trans (hb2.mono HB1.out.size))
      clear hT hb2
      go_wp2_with fail
      go_ret
      exact ⟨rfl, HB2.out⟩
end Go.Proofs.YtaofpefmniadiaaDoor
