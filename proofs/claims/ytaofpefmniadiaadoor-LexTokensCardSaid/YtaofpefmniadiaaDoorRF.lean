/-
  The document's Tokens, One, Same.
-/
import Derived.Test.YtaofpefmniadiaaDoorRE
import Derived.Test.YtaofpefmniadiaaDoorU
namespace Go.Proofs.YtaofpefmniadiaaDoor
open Go.RowKit

set_option maxRecDepth 100000 in
set_option maxHeartbeats 16000000 in
theorem rtokens_any (s : ByteArray) (w : World) (hz : s.size ≤ 1000000) (hE : Env w) : Calls Tryd.prog 14 #[.string s] w (TokEnd (tokL s.data.toList) (tokE s.data.toList) w) := by
  have hls : s.data.toList.length = s.size := (Lib.size_eq s).symm
  have hL : tokL s.data.toList = if tokE s.data.toList = 0 then toks s.data.toList else [] := rfl
  have hK : tokE s.data.toList = if 65536 < s.size then 40 else if valB s.data.toList then 0 else 4 := by rw [← hls]; rfl
  generalize tokE s.data.toList = K at *
  generalize tokL s.data.toList = E at *
  by_cases h1 : 65536 < s.size
  · have h1' : (65536 : Int) < (s.size : Int) := by omega
    have HK : Hid (K = 40) := Lib.hid (by rw [hK, if_pos h1])
    have HL : Hid (E = []) := Lib.hid (by rw [hL, HK.out]; rfl)
    clear hL hK hls hE
    go_enter Tryd.func14, Tryd.ntmps14
    go_wp2_with fail
    go_ret2
    exact ⟨.slice none 0 0, by rw [HK.out]; rfl, by rw [HL.out]; exact World.ownsRow_nil _ _ _ _, Below.refl _ _⟩
  · have h1' : ¬ (65536 : Int) < (s.size : Int) := by omega
    rw [if_neg h1] at hK
    have hv := Utf.rvalid_any s w
    rw [val_eq] at hv
    cases hV : valB s.data.toList with
    | false =>
      have HK : Hid (K = 4) := Lib.hid (by rw [hK, hV]; rfl)
      have HL : Hid (E = []) := Lib.hid (by rw [hL, HK.out]; rfl)
      rw [hV] at hv
      clear hL hK hls hE hV
      go_enter Tryd.func14, Tryd.ntmps14
      go_wp2_with (go_at_call 22; refine hv.mono ?_; rintro e w1 ⟨rfl, hb⟩)
      go_ret2
      exact ⟨.slice none 0 0, by rw [HK.out]; rfl, by rw [HL.out]; exact World.ownsRow_nil _ _ _ _, hb⟩
    | true =>
      have HK : Hid (K = 0) := Lib.hid (by rw [hK, hV]; rfl)
      have HLL : Hid (E = toks s.data.toList) := Lib.hid (by rw [hL, HK.out]; rfl)
      rw [hV] at hv
      have HE := Lib.hid hE
      clear hL hK hls hE hV
      obtain ⟨i32, hi9, hz0, hz1, hz2⟩ := info_parts info32
      obtain ⟨EV, hEV⟩ : ∃ EV, toks s.data.toList = EV := ⟨_, rfl⟩
      have hfew : EV.length ≤ 1000000 := by rw [← hEV]; have := toks_len s.data.toList; rw [← Lib.size_eq] at this; omega
      have H0 : Hid (EV = [] ++ toks s.data.toList) := Lib.hid hEV.symm
      rw [hEV] at HLL
      clear hEV
      go_enter Tryd.func14, Tryd.ntmps14
      go_wp2_with fail
      refine hv.mono ?_
      rintro e w1 ⟨rfl, hb1⟩
      have HB1 := Lib.hid hb1
      have HE1 := Lib.hid (HE.out.below hb1 HE.out.size)
      clear hb1 hv
      go_wp2_with fail
      go_loopw [0, 4] (fun v ov wr => ∃ (X : ByteArray) (E : List Tok), v = .string X ∧ X.size ≤ s.size ∧ Hid (EV = E ++ toks X.data.toList) ∧ Hid (ToksAt w1.heap.size wr ov E) ∧ Hid (Below w1.heap.size w1 wr)) (fun v _ _ => strLen v)
      case atStart => exact ⟨s, [], rfl, Nat.le_refl _, H0, Lib.hid (World.ownsRow_nil _ _ _ _), Lib.hid (Below.refl _ _)⟩
      case round =>
        obtain ⟨X, E, rfl, hX, HV, HO, HB⟩ := hrel
        obtain ⟨po, co, rfl⟩ := owns_shape HO.out
        by_cases h0 : 0 < X.size
        · have e0 := Utf.isEmpty_no h0
          have hne : X.data.toList ≠ [] := by intro x; rw [Lib.size_eq, x] at h0; simp at h0
          have HN := Lib.hid (toks_snoc HV.out hne)
          have hbd := cut_bd X.data.toList hne
          rw [← Lib.size_eq] at hbd
          have HEr := HE1.out.below HB.out HE1.out.size
          have hc := rcut_any X wr (by omega) h0 HEr
          have HEl : Hid (E.length + 1 ≤ 1000000) := Lib.hid (by have := congrArg List.length HN.out; rw [List.length_append, List.length_append] at this; simp only [List.length_cons, List.length_nil] at this; omega)
          generalize cut X.data.toList = C at hc HN hbd
          obtain ⟨k, n⟩ := C
          have hn0 : 0 < n := hbd.1
          have hnX : n ≤ X.size := hbd.2
          have hnX' : (n : Int) ≤ (X.size : Int) := by omega
          have hn0' : (0 : Int) ≤ (n : Int) := by omega
          have HZ : Hid ((X.extract n X.size).size < X.size) := Lib.hid (by rw [ext_size]; omega)
          have HN2 : Hid (EV = (E ++ [(k, X.data.toList.take n)]) ++ toks (X.extract n X.size).data.toList) := Lib.hid (by rw [ext_list]; exact HN.out)
          clear hbd HN HEr
          go_wp2_with fail
          refine hc.mono ?_
          rintro e wf ⟨rfl, hbf⟩
          have HOf := Lib.hid (HO.out.below hbf)
          have HBf := Lib.hid (HB.out.trans (hbf.mono HB.out.size))
          clear hbf hc
          obtain ⟨wa, hwa⟩ : ∃ wa, wf.alloc (.cells #[.int .u8 k, .string (X.extract 0 n)] 32) = wa := ⟨_, rfl⟩
          have NW : Hid (∀ (j : Nat) u, ([.int .u8 k, .string (X.extract 0 n)] : List Value)[j]? = some u → wa.cell? ((⟨wf.heap.size, 0, none⟩ : Addr).add j) = some u) := Lib.hid (by rw [← hwa]; exact World.news_of_block (heap_alloc_new wf _))
          have ba : Below wf.heap.size wf wa := by rw [← hwa]; exact galloc2 (Below.refl _ _) (Nat.le_refl _) _
          have OW : Hid (wa.ownsRow w1.heap.size 32 2 _ E.length (E.flatMap tokC)) := Lib.hid (owns_below HOf.out ba)
          have BA : Hid (Below w1.heap.size w1 wa) := Lib.hid (HBf.out.trans (ba.mono HBf.out.size))
          clear ba
          subst hwa
          go_wp2_with (at_builtin; refine wpList_append_own _ rfl _ _ 26 rfl w1.heap.size 32 i32 (.agg #[.int .u8 0, .string ⟨#[]⟩]) 2 24 und26 hi9 hz0 hz1 hz2 rfl (by decide) _ _ _ rfl OW.out ⟨wf.heap.size, 0, none⟩ 1 1 [.int .u8 k, .string (X.extract 0 n)] rfl rfl NW.out (by simp [Value.oneCell']) ?c3 ?c4 ?c5 ?_)
          case c3 => have := HEl.out; unfold maxLen; omega
          case c4 => have := HEl.out; omega
          case c5 => first | exact BA.out.size | (have := BA.out.size; simpa using this)
          intro v' w2 hown hgrow _
          have O1 : Hid (ToksAt w1.heap.size w2 v' (E ++ [(k, X.data.toList.take n)])) := Lib.hid (by
            unfold ToksAt; rw [List.length_append, List.flatMap_append]
            rw [tok_cell] at hown
            exact hown)
          have B1 : Hid (Below w1.heap.size w1 w2) := Lib.hid (BA.out.grown hgrow BA.out.size (fun k h => (OW.out.lt k h).1))
          clear hown hgrow
          go_wp2_with fail
          go_roundw
          case rel => exact ⟨X.extract n X.size, E ++ [(k, X.data.toList.take n)], rfl, by have := HZ.out; omega, HN2, O1, B1⟩
          case measure => exact HZ.out
        · have h0' : X.size = 0 := by omega
          have e0 := Utf.isEmpty_yes h0'
          have hne : X.data.toList = [] := List.length_eq_zero_iff.1 (by rw [← Lib.size_eq]; exact h0')
          have HR : Hid (EV = E) := Lib.hid (by rw [HV.out, hne, toks_nil, List.append_nil])
          clear h0 h0' hne
          go_wp2_with fail
          go_ret2
          exact ⟨_, by rw [HK.out]; rfl, by rw [HLL.out, HR.out]; exact owns_base HO.out HB1.out.size, HB1.out.trans (HB.out.mono HB1.out.size)⟩
set_option maxRecDepth 100000 in
set_option maxHeartbeats 4000000 in
theorem rone_any (s : ByteArray) (w : World) (hz : s.size ≤ 1000000) (hE : Env w) : Calls Tryd.prog 15 #[.string s] w (OneEnd (oneT s.data.toList) (oneE s.data.toList) w) := by
  have hc := rtokens_any s (w.alloc (.cells #[.int .u8 0, .string ⟨#[]⟩] 32)) hz (hE.below (galloc2 (Below.refl _ _) (Nat.le_refl _) _) hE.size)
  have hL : tokL s.data.toList = if tokE s.data.toList = 0 then toks s.data.toList else [] := rfl
  have hK : oneE s.data.toList = if tokE s.data.toList = 0 then (if (toks s.data.toList).length = 1 then 0 else 4) else tokE s.data.toList := rfl
  have hT : oneT s.data.toList = if oneE s.data.toList = 0 then (toks s.data.toList).headD (0, []) else (0, []) := rfl
  have hew : tokE s.data.toList = 0 ∨ (tokE s.data.toList = 40 ∨ tokE s.data.toList = 4) := by unfold tokE; split; exact .inr (.inl rfl); split; exact .inl rfl; exact .inr (.inr rfl)
  generalize tokE s.data.toList = K1 at *
  generalize tokL s.data.toList = E1 at *
  generalize oneE s.data.toList = K2 at *
  generalize oneT s.data.toList = T2 at *
  generalize hE2 : toks s.data.toList = E2 at *
  have ba : Below w.heap.size w (w.alloc (.cells #[.int .u8 0, .string ⟨#[]⟩] 32)) := galloc2 (Below.refl _ _) (Nat.le_refl _) _
  have hz1 : (w.alloc (.cells #[.int .u8 0, .string ⟨#[]⟩] 32)).heap.size = w.heap.size + 1 := by simp
  have hn := heap_alloc_new w (.cells #[.int .u8 0, .string ⟨#[]⟩] 32)
  clear hE2 hE
  generalize hv : w.alloc (.cells #[.int .u8 0, .string ⟨#[]⟩] 32) = v0 at *
  rcases hew with rfl | hew
  · rw [if_pos rfl] at hL hK
    by_cases h1 : E2.length = 1
    · obtain ⟨⟨k, t⟩, rfl⟩ := List.length_eq_one_iff.1 h1
      have HK : Hid (K2 = 0) := Lib.hid (by rw [hK]; rfl)
      have HT : Hid (T2 = (k, t)) := Lib.hid (by rw [hT, HK.out]; rfl)
      have HL : Hid (E1 = [(k, t)]) := Lib.hid hL
      have HA := Lib.hid ba
      have HZ := Lib.hid hz1
      have HN := Lib.hid hn
      clear hL hK hT h1 ba hz1 hn
      go_enter Tryd.func15, Tryd.ntmps15
      go_wp2_with fail
      refine hc.mono ?_
      rintro e w1 ⟨v, rfl, hTk, hb⟩
      rw [HL.out] at hTk
      obtain ⟨g, cap, rfl, q0, q1⟩ := tok_at hTk (i := 0) (t := (k, t)) rfl
      have HB := Lib.hid (HA.out.trans (hb.mono HA.out.size))
      have hN1 : w1.heap[w.heap.size]? = some (.cells #[.int .u8 0, .string ⟨#[]⟩] 32 (0, 0)) := (hb.block _ (by have := HZ.out; omega)).trans HN.out
      have HN1 := Lib.hid hN1
      have p0 : w1.cell? ⟨w.heap.size, 0, none⟩ = some (.int .u8 0) := by rw [cellH hN1]; rfl
      have p1 : w1.cell? ⟨w.heap.size, 1, none⟩ = some (.string ⟨#[]⟩) := by rw [cellH hN1]; rfl
      have pf : ∀ o, w1.frozen? ⟨w.heap.size, o, none⟩ = false := fun o => Lib.frozen_of_heap hN1 o
      have q0' : w1.cell? ⟨g, 0, none⟩ = some (.int .u8 k) := q0
      have q1' : w1.cell? ⟨g, 1, none⟩ = some (.string ⟨t.toArray⟩) := q1
      clear hTk hb hN1 q0 q1 hv hc
      go_wp2_with fail
      have kF := heap_setCell_same _ _ 1 _ _ (.string ⟨t.toArray⟩) (heap_setCell_same _ _ 0 _ _ (.int .u8 k) HN1.out)
      have z0 := cellH kF 0
      have z1 := cellH kF 1
      refine bodyPost_ret (v := .tuple #[tokA (k, t), .int .i64 0]) (by simp at z0 z1; simp [results, Tryd.results15, go_sem, tokA, bl, z0, z1]) rfl ⟨by rw [HK.out, HT.out], ?_⟩
      exact (HB.out.setCell (p := ⟨w.heap.size, 0, none⟩) (Nat.le_refl _) _).setCell (p := ⟨w.heap.size, 1, none⟩) (Nat.le_refl _) _
    · have HK : Hid (K2 = 4) := Lib.hid (by rw [hK, if_neg h1])
      have HT : Hid (T2 = (0, [])) := Lib.hid (by rw [hT, HK.out]; rfl)
      have HL : Hid (E1 = E2) := Lib.hid hL
      have HA := Lib.hid ba
      have HZ := Lib.hid hz1
      have HN := Lib.hid hn
      have q : ((E2.length : Int) != 1) = true := by rw [bne_iff_ne]; omega
      clear hL hK hT ba hz1 hn
      go_enter Tryd.func15, Tryd.ntmps15
      go_wp2_with fail
      refine hc.mono ?_
      rintro e w1 ⟨v, rfl, hTk, hb⟩
      rw [HL.out] at hTk
      obtain ⟨po, co, rfl⟩ := owns_shape hTk
      have HB := Lib.hid (HA.out.trans (hb.mono HA.out.size))
      have hN1 : w1.heap[w.heap.size]? = some (.cells #[.int .u8 0, .string ⟨#[]⟩] 32 (0, 0)) := (hb.block _ (by have := HZ.out; omega)).trans HN.out
      have HN1 := Lib.hid hN1
      have p0 : w1.cell? ⟨w.heap.size, 0, none⟩ = some (.int .u8 0) := by rw [cellH hN1]; rfl
      have p1 : w1.cell? ⟨w.heap.size, 1, none⟩ = some (.string ⟨#[]⟩) := by rw [cellH hN1]; rfl
      have pf : ∀ o, w1.frozen? ⟨w.heap.size, o, none⟩ = false := fun o => Lib.frozen_of_heap hN1 o
      clear hTk hb hN1 hv hc
      go_wp2_with fail
      have kF := heap_setCell_same _ _ 1 _ _ (.string ⟨#[]⟩) (heap_setCell_same _ _ 0 _ _ (.int .u8 0) HN1.out)
      have z0 := cellH kF 0
      have z1 := cellH kF 1
      refine bodyPost_ret (v := .tuple #[tokA (0, []), .int .i64 4]) (by simp at z0 z1; simp [results, Tryd.results15, go_sem, tokA, bl, z0, z1]) rfl ⟨by rw [HK.out, HT.out], ?_⟩
      exact (HB.out.setCell (p := ⟨w.heap.size, 0, none⟩) (Nat.le_refl _) _).setCell (p := ⟨w.heap.size, 1, none⟩) (Nat.le_refl _) _
  · have hne : K1 ≠ 0 := by omega
    rw [if_neg hne] at hL hK
    have HK : Hid (K2 = K1) := Lib.hid hK
    have HT : Hid (T2 = (0, [])) := Lib.hid (by rw [hT, hK, if_neg hne])
    have HL : Hid (E1 = []) := Lib.hid hL
    have HA := Lib.hid ba
    have HZ := Lib.hid hz1
    have HN := Lib.hid hn
    have q : ((K1 : Int) != 0) = true := by rw [bne_iff_ne]; exact hne
    clear hL hK hT ba hz1 hn hew hne
    go_enter Tryd.func15, Tryd.ntmps15
    go_wp2_with fail
    refine hc.mono ?_
    rintro e w1 ⟨v, rfl, hTk, hb⟩
    rw [HL.out] at hTk
    obtain ⟨po, co, rfl⟩ := owns_shape hTk
    have HB := Lib.hid (HA.out.trans (hb.mono HA.out.size))
    have hN1 : w1.heap[w.heap.size]? = some (.cells #[.int .u8 0, .string ⟨#[]⟩] 32 (0, 0)) := (hb.block _ (by have := HZ.out; omega)).trans HN.out
    have HN1 := Lib.hid hN1
    have p0 : w1.cell? ⟨w.heap.size, 0, none⟩ = some (.int .u8 0) := by rw [cellH hN1]; rfl
    have p1 : w1.cell? ⟨w.heap.size, 1, none⟩ = some (.string ⟨#[]⟩) := by rw [cellH hN1]; rfl
    have pf : ∀ o, w1.frozen? ⟨w.heap.size, o, none⟩ = false := fun o => Lib.frozen_of_heap hN1 o
    clear hTk hb hN1 hv hc
    go_wp2_with fail
    have kF := heap_setCell_same _ _ 1 _ _ (.string ⟨#[]⟩) (heap_setCell_same _ _ 0 _ _ (.int .u8 0) HN1.out)
    have z0 := cellH kF 0
    have z1 := cellH kF 1
    refine bodyPost_ret (v := .tuple #[tokA (0, []), .int .i64 K1]) (by simp at z0 z1; simp [results, Tryd.results15, go_sem, tokA, bl, z0, z1]) rfl ⟨by rw [HK.out, HT.out], ?_⟩
    exact (HB.out.setCell (p := ⟨w.heap.size, 0, none⟩) (Nat.le_refl _) _).setCell (p := ⟨w.heap.size, 1, none⟩) (Nat.le_refl _) _
set_option maxRecDepth 100000 in
set_option maxHeartbeats 4000000 in
theorem same_any (B1 B2 : Nat) (v1 v2 : Value) (E : List Tok) (w : World) (h1 : ToksAt B1 w v1 E) (h2 : ToksAt B2 w v2 E) (hl : E.length ≤ 10000000) : Calls Tryd.prog 16 #[v1, v2] w fun e w' => e = .returned (.bool true) ∧ Below w.heap.size w w' := by
  obtain ⟨p1, k1, rfl⟩ := owns_shape h1
  obtain ⟨p2, k2, rfl⟩ := owns_shape h2
  have H1 := Lib.hid h1
  have H2 := Lib.hid h2
  clear h1 h2
  go_enter Tryd.func16, Tryd.ntmps16
  go_wp2_with fail
  go_loopw [5] (fun m wi => ∃ j : Nat, m = .int .i64 j ∧ j ≤ E.length ∧ Hid (Below w.heap.size w wi)) (fun m _ => E.length - (intOf m).toNat)
  case atStart => exact ⟨0, rfl, Nat.zero_le _, Lib.hid (Below.refl _ _)⟩
  case round =>
    obtain ⟨j, rfl, hj, HBi⟩ := hrel
    by_cases hjl : j < E.length
    · have hjl' : (j : Int) < (E.length : Int) := by omega
      have hej := List.getElem?_eq_getElem hjl
      obtain ⟨g2, cap2, he2, r0, r1⟩ := tok_at (H1.out.below HBi.out) hej
      obtain ⟨g3, cap3, he5, s0, s1⟩ := tok_at (H2.out.below HBi.out) hej
      injection he2 with he3 _ he4
      subst he3
      subst he4
      injection he5 with he6 _ he7
      subst he6
      subst he7
      generalize E[j] = t2 at *
      obtain ⟨d2, tt2⟩ := t2
      obtain ⟨Q2, rfl⟩ : ∃ Q2 : ByteArray, tt2 = Q2.data.toList := ⟨⟨tt2.toArray⟩, rfl⟩
      have hQ2 : (⟨Q2.data.toList.toArray⟩ : ByteArray) = Q2 := (ba_of Q2 rfl).symm
      have r0' : wr.cell? ⟨g2, j * 2, none⟩ = some (.int .u8 d2) := r0
      have r1' : wr.cell? ⟨g2, j * 2 + 1, none⟩ = some (.string Q2) := by rw [← hQ2]; exact r1
      have s0' : wr.cell? ⟨g3, j * 2, none⟩ = some (.int .u8 d2) := s0
      have s1' : wr.cell? ⟨g3, j * 2 + 1, none⟩ = some (.string Q2) := by rw [← hQ2]; exact s1
      have hn2 := fun W => neq_tok d2 Q2 W
      have u4' : IntKind.i64.wrap ((j : Int) + 1) = ((j + 1 : Nat) : Int) := by rw [IntWalk.i64_in _ (by omega)]; omega
      clear hej r0 r1 s0 s1 hQ2
      go_wp2_with fail
      go_quiet (fail)
      have HB9 := Lib.hid (HBi.out.trans ((drewN_below wr nq).mono HBi.out.size))
      clear r0' r1' s0' s1' hn2
      generalize wr.drewN nq = w9 at *
      go_wp2_with fail
      go_roundw
      case rel => exact ⟨j + 1, rfl, by omega, HB9⟩
      case measure => simp [intOf]; omega
    · have hjl' : ¬ (j : Int) < (E.length : Int) := by omega
      go_wp2_with fail
      go_ret
      exact ⟨rfl, HBi.out⟩
end Go.Proofs.YtaofpefmniadiaaDoor
