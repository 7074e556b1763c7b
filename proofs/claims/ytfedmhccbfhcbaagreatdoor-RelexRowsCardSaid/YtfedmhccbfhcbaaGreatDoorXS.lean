/-
  The document's Row.
-/
import Derived.Test.YtfedmhccbfhcbaaGreatDoorXR
import Derived.Test.YtfedmhccbfhcbaaGreatDoorXP
namespace Go.Proofs.YtfedmhccbfhcbaaGreatDoor
open Go.RowKit Go.Shelf

set_option maxRecDepth 100000 in
set_option maxHeartbeats 16000000 in
theorem rrow_any (s : ByteArray) (vl : Value) (l : List Ed) (w : World) (hs : s.size ≤ 900000) (hl : EdsAt w vl l) (hx : ∀ e ∈ l, e.x.size ≤ 100000) (hn : l.length ≤ 1000000) (hE : Env w) : Calls Tryz.prog 12 #[.string s, vl] w (RowEnd (rwR s.data.toList l) w) := by
  have hrd := rtokens_any s w (by omega) hE
  unfold TokEnd at hrd
  obtain ⟨pl, cl, rfl⟩ := hl.shape
  have HL := Lib.hid hl
  have HE := Lib.hid hE
  have HX := Lib.hid hx
  have hrr : rwR s.data.toList l = if tokE s.data.toList = 0 then rowF s.data.toList l 0 else ([], 0, tokE s.data.toList) := rfl
  generalize rwR s.data.toList l = R at *
  have hlb := tokL_bad (l := s.data.toList)
  have hlg := tokL_good (l := s.data.toList)
  obtain ⟨K, hK⟩ : ∃ K, tokE s.data.toList = K := ⟨_, rfl⟩
  have HKK := Lib.hid hK
  rw [hK] at hrd hrr hlb hlg
  clear hl hE hx hK
  by_cases hK0 : K = 0
  · subst hK0
    rw [if_pos rfl] at hrr
    rw [hlg rfl] at hrd
    have HR := Lib.hid hrr
    clear hrr hlb hlg
    go_enter Tryz.func12, Tryz.ntmps12
    go_wp2_with fail
    refine hrd.mono ?_
    rintro e w1 ⟨v, rfl, hT, hb1⟩
    have HO1 : Hid (RowOwn w.heap.size w1 v (toks s.data.toList)) := Lib.hid (.inr hT)
    have HB1 := Lib.hid hb1
    clear hT hb1 hrd
    go_wp2_with fail
    go_loopw [0, 7, 9] (fun st v i wr => ∃ (k : Nat) (S : ByteArray), st = .string S ∧ i = .int .i64 k ∧ k ≤ l.length ∧ Hid (R = rowF S.data.toList (l.drop k) k) ∧ Hid (tokE S.data.toList = 0) ∧ Hid (RowOwn w.heap.size wr v (toks S.data.toList)) ∧ Hid (Below w.heap.size w wr)) (fun _ _ i _ => l.length - (intOf i).toNat)
    case atStart => exact ⟨0, s, rfl, rfl, Nat.zero_le _, HR, HKK, HO1, HB1⟩
    case round =>
      clear HR HO1 HB1
      obtain ⟨k, S, rfl, rfl, hk, HRR, HTE, HOb, HBr⟩ := hrel
      obtain ⟨q, c, rfl⟩ := own_shape HOb.out
      by_cases hlt : k < l.length
      · have hlt' : (k : Int) < (l.length : Int) := by omega
        have hx := List.getElem?_eq_getElem hlt
        have HXK := HX.out _ (List.getElem_mem hlt)
        have hdr := List.drop_eq_getElem_cons hlt
        generalize l[k] = ed at hx HXK hdr
        obtain ⟨g, o, c', he, r0, r1, r2⟩ := (HL.out.below HBr.out).at hx
        cases he
        obtain ⟨f, t, x⟩ := ed
        change wr.cell? ⟨g, o + k * 3, none⟩ = some (.int .i64 f) at r0
        change wr.cell? ⟨g, o + k * 3 + 1, none⟩ = some (.int .i64 t) at r1
        change wr.cell? ⟨g, o + k * 3 + 2, none⟩ = some (.string x) at r2
        change x.size ≤ 100000 at HXK
        obtain ⟨hS1, hS2⟩ := tokE_zero HTE.out
        rw [← Lib.size_eq] at hS1
        have hRF := HRR.out
        rw [hdr] at hRF
        change R = (if edE S.data.toList x.data.toList f t = 0 then rowF (edX S.data.toList x.data.toList f t) (l.drop (k + 1)) (k + 1) else ([], k, edE S.data.toList x.data.toList f t)) at hRF
        have hed := rdo_any S x f t wr (by omega) HXK (HE.out.below HBr.out HE.out.size)
        unfold DoEnd edV bl at hed
        have d1 : doE S.data.toList x.data.toList f t = edE S.data.toList x.data.toList f t := by unfold doE; rw [if_pos HTE.out]
        have d2 : doX S.data.toList x.data.toList f t = edX S.data.toList x.data.toList f t := by unfold doX; rw [if_pos HTE.out]
        rw [d1, d2] at hed
        have hok := edX_ok (s := S.data.toList) (x := x.data.toList) (f := f) (t := t)
        generalize edE S.data.toList x.data.toList f t = EE at *
        generalize edX S.data.toList x.data.toList f t = XX at *
        obtain ⟨T, rfl⟩ : ∃ T : ByteArray, XX = T.data.toList := ⟨⟨XX.toArray⟩, rfl⟩
        rw [show (⟨T.data.toList.toArray⟩ : ByteArray) = T from (ba_of T rfl).symm] at hed
        have HRF := Lib.hid hRF
        have HOK := Lib.hid hok
        clear hx HXK hdr hS1 hS2 hRF hok d1 d2
        have u4 : IntKind.i64.wrap ((k : Int) + 1) = ((k + 1 : Nat) : Int) := by rw [IntWalk.i64_in _ (by omega)]; omega
        by_cases hee : EE = 0
        · subst hee
          have HTE2 := Lib.hid (HOK.out rfl)
          have hRF := HRF.out
          rw [if_pos rfl] at hRF
          have HRF := Lib.hid hRF
          have hT1 := (tokE_zero HTE2.out).1
          rw [← Lib.size_eq] at hT1
          have htk := fun W hE => rtokens_any T W (by omega) hE
          unfold TokEnd at htk
          rw [HTE2.out, tokL_good HTE2.out] at htk
          clear hRF hT1
          go_wp2_with fail
          refine hed.mono ?_
          rintro e w5 ⟨rfl, hb5⟩
          have HB5 := Lib.hid (HBr.out.trans (hb5.mono HBr.out.size))
          clear hed hb5 r0 r1 r2
          go_wp2_with fail
          refine (htk w5 (HE.out.below HB5.out HE.out.size)).mono ?_
          rintro e w6 ⟨v6, rfl, hT6, hb6⟩
          have HB6 := Lib.hid (HB5.out.trans (hb6.mono HB5.out.size))
          have HO6 : Hid (RowOwn w.heap.size w6 v6 (toks T.data.toList)) := Lib.hid (.inr (owns_base hT6 HB5.out.size))
          clear hT6 hb6 htk
          go_wp2_with fail
          go_roundw
          case rel => exact ⟨k + 1, T, rfl, rfl, by omega, HRF, HTE2, HO6, HB6⟩
          case measure => simp [intOf]; omega
        · have qe : ((EE : Int) != 0) = true := by rw [bne_iff_ne]; exact hee
          have hRF := HRF.out
          rw [if_neg hee] at hRF
          have HRF := Lib.hid hRF
          have HEE := Lib.hid hee
          clear hRF hee
          go_wp2_with fail
          refine hed.mono ?_
          rintro e w5 ⟨rfl, hb5⟩
          have HB5 := Lib.hid (HBr.out.trans (hb5.mono HBr.out.size))
          clear hed hb5 r0 r1 r2
          go_wp2_with fail
          refine bodyPost_ret (v := .tuple #[.slice none 0 0, .int .i64 k, .int .i64 EE]) (by simp [results, Tryz.results12, go_sem]) rfl ⟨.slice none 0 0, by rw [HRF.out], ?_, HB5.out⟩
          rw [HRF.out]; unfold rowT; rw [if_neg HEE.out]; exact .inl ⟨rfl, none, rfl⟩
      · have hlt' : ¬ (k : Int) < (l.length : Int) := by omega
        have hRF := HRR.out
        rw [List.drop_eq_nil_of_le (by omega)] at hRF
        have HRF := Lib.hid hRF
        clear hRF
        go_wp2_with fail
        refine bodyPost_ret (v := .tuple #[.slice q (toks S.data.toList).length c, .int .i64 0, .int .i64 0]) (by simp [results, Tryz.results12, go_sem]) rfl ⟨_, by rw [HRF.out]; rfl, ?_, HBr.out⟩
        rw [HRF.out]; exact HOb.out
  · have q : ((K : Int) != 0) = true := by rw [bne_iff_ne]; exact hK0
    rw [if_neg hK0] at hrr
    rw [hlb hK0] at hrd
    have HR := Lib.hid hrr
    have HK0 := Lib.hid hK0
    clear hrr hlb hlg hK0
    go_enter Tryz.func12, Tryz.ntmps12
    go_wp2_with fail
    refine hrd.mono ?_
    rintro e w1 ⟨v, rfl, hT, hb1⟩
    have HB1 := Lib.hid hb1
    clear hT hb1 hrd
    go_wp2_with fail
    refine bodyPost_ret (v := .tuple #[.slice none 0 0, .int .i64 0, .int .i64 K]) (by simp [results, Tryz.results12, go_sem]) rfl ⟨.slice none 0 0, by rw [HR.out]; rfl, ?_, HB1.out⟩
    rw [HR.out]; unfold rowT; rw [if_neg HK0.out]; exact .inl ⟨rfl, none, rfl⟩
end Go.Proofs.YtfedmhccbfhcbaaGreatDoor
