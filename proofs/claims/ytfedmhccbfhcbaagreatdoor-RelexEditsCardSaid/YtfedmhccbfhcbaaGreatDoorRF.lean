/-
  The document's Tokens, One, Same.
-/
import Derived.Test.YtfedmhccbfhcbaaGreatDoorRE
import Derived.Test.YtfedmhccbfhcbaaGreatDoorR
namespace Go.Proofs.YtfedmhccbfhcbaaGreatDoor
open Go.RowKit

set_option maxRecDepth 100000 in
set_option maxHeartbeats 16000000 in
theorem rtokens_any (s : ByteArray) (w : World) (hz : s.size ≤ 1000000) (hE : Env w) : Calls Tryz.prog 14 #[.string s] w (TokEnd (tokL s.data.toList) (tokE s.data.toList) w) := by
  have hls : s.data.toList.length = s.size := (Lib.size_eq s).symm
  have hL : tokL s.data.toList = if tokE s.data.toList = 0 then toks s.data.toList else [] := rfl
  have hK : tokE s.data.toList = if 65536 < s.size then 40 else if valB s.data.toList then 0 else 4 := by rw [← hls]; rfl
  generalize tokE s.data.toList = K at *
  generalize tokL s.data.toList = E at *
  by_cases h1 : 65536 < s.size
  · have h1' : (65536 : Int) < (s.size : Int) := by omega
    have HK : Hid (K = 40) := Lib.hid (by rw [hK, if_pos h1])
    have HL : Hid (E = []) := Lib.hid (by rw [hL, HK.out]; rfl)
    clear hL hK hls hE
    go_enter Tryz.func14, Tryz.ntmps14
    go_wp2_with fail
    go_ret2
    exact ⟨.slice none 0 0, by rw [HK.out]; rfl, by rw [HL.out]; exact World.ownsRow_nil _ _ _ _, Below.refl _ _⟩
  · have h1' : ¬ (65536 : Int) < (s.size : Int) := by omega
    rw [if_neg h1] at hK
    have hv := Utf.rvalid_any s w
    rw [val_eq] at hv
    cases hV : valB s.data.toList with
    | false =>
      have HK : Hid (K = 4) := Lib.hid (by rw [hK, hV]; rfl)
      have HL : Hid (E = []) := Lib.hid (by rw [hL, HK.out]; rfl)
      rw [hV] at hv
      clear hL hK hls hE hV
      go_enter Tryz.func14, Tryz.ntmps14
      go_wp2_with (go_at_call 20; refine hv.mono ?_; rintro e w1 ⟨rfl, hb⟩)
      go_ret2
      exact ⟨.slice none 0 0, by rw [HK.out]; rfl, by rw [HL.out]; exact World.ownsRow_nil _ _ _ _, hb⟩
    | true =>
      have HK : Hid (K = 0) := Lib.hid (by rw [hK, hV]; rfl)
      have HLL : Hid (E = toks s.data.toList) := Lib.hid (by rw [hL, HK.out]; rfl)
      rw [hV] at hv
      have HE := Lib.hid hE
      clear hL hK hls hE hV
      obtain ⟨i32, hi9, hz0, hz1, hz2⟩ := info_parts info32
      obtain ⟨EV, hEV⟩ : ∃ EV, toks s.data.toList = EV := ⟨_, rfl⟩
      have hfew : EV.length ≤ 1000000 := by rw [← hEV]; have := toks_len s.data.toList; rw [← Lib.size_eq] at this; omega
      have H0 : Hid (EV = [] ++ toks s.data.toList) := Lib.hid hEV.symm
      rw [hEV] at HLL
      clear hEV
      go_enter Tryz.func14, Tryz.ntmps14
      go_wp2_with fail
      refine hv.mono ?_
      rintro e w1 ⟨rfl, hb1⟩
      have HB1 := Lib.hid hb1
      have HE1 := Lib.hid (HE.out.below hb1 HE.out.size)
      clear hb1 hv
      go_wp2_with fail
      go_loopw [0, 4] (fun v ov wr => ∃ (X : ByteArray) (E : List Tok), v = .string X ∧ X.size ≤ s.size ∧ Hid (EV = E ++ toks X.data.toList) ∧ Hid (ToksAt w1.heap.size wr ov E) ∧ Hid (Below w1.heap.size w1 wr)) (fun v _ _ => strLen v)
      case atStart => exact ⟨s, [], rfl, Nat.le_refl _, H0, Lib.hid (World.ownsRow_nil _ _ _ _), Lib.hid (Below.refl _ _)⟩
      case round =>
        obtain ⟨X, E, rfl, hX, HV, HO, HB⟩ := hrel
        obtain ⟨po, co, rfl⟩ := owns_shape HO.out
        by_cases h0 : 0 < X.size
        · have e0 := Utf.isEmpty_no h0
          have hne : X.data.toList ≠ [] := by intro x; rw [Lib.size_eq, x] at h0; simp at h0
          have HN := Lib.hid (toks_snoc HV.out hne)
          have hbd := cut_bd X.data.toList hne
          rw [← Lib.size_eq] at hbd
          have HEr := HE1.out.below HB.out HE1.out.size
          have hc := rcut_any X wr (by omega) h0 HEr
          have HEl : Hid (E.length + 1 ≤ 1000000) := Lib.hid (by have := congrArg List.length HN.out; rw [List.length_append, List.length_append] at this; simp only [List.length_cons, List.length_nil] at this; omega)
          generalize cut X.data.toList = C at hc HN hbd
          obtain ⟨k, n⟩ := C
          have hn0 : 0 < n := hbd.1
          have hnX : n ≤ X.size := hbd.2
          have hnX' : (n : Int) ≤ (X.size : Int) := by omega
          have hn0' : (0 : Int) ≤ (n : Int) := by omega
          have HZ : Hid ((X.extract n X.size).size < X.size) := Lib.hid (by rw [ext_size]; omega)
          have HN2 : Hid (EV = (E ++ [(k, X.data.toList.take n)]) ++ toks (X.extract n X.size).data.toList) := Lib.hid (by rw [ext_list]; exact HN.out)
          clear hbd HN HEr
          go_wp2_with fail
          refine hc.mono ?_
          rintro e wf ⟨rfl, hbf⟩
          have HOf := Lib.hid (HO.out.below hbf)
          have HBf := Lib.hid (HB.out.trans (hbf.mono HB.out.size))
          clear hbf hc
          obtain ⟨wa, hwa⟩ : ∃ wa, wf.alloc (.cells #[.int .u8 k, .string (X.extract 0 n)] 39) = wa := ⟨_, rfl⟩
          have NW : Hid (∀ (j : Nat) u, ([.int .u8 k, .string (X.extract 0 n)] : List Value)[j]? = some u → wa.cell? ((⟨wf.heap.size, 0, none⟩ : Addr).add j) = some u) := Lib.hid (by rw [← hwa]; exact World.news_of_block (heap_alloc_new wf _))
          have ba : Below wf.heap.size wf wa := by rw [← hwa]; exact galloc2 (Below.refl _ _) (Nat.le_refl _) _
          have OW : Hid (wa.ownsRow w1.heap.size 39 2 _ E.length (E.flatMap tokC)) := Lib.hid (owns_below HOf.out ba)
          have BA : Hid (Below w1.heap.size w1 wa) := Lib.hid (HBf.out.trans (ba.mono HBf.out.size))
          clear ba
          subst hwa
          go_wp2_with (at_builtin; refine wpList_append_own _ rfl _ _ 30 rfl w1.heap.size 39 i32 (.agg #[.int .u8 0, .string ⟨#[]⟩]) 2 24 und26 hi9 hz0 hz1 hz2 rfl (by decide) _ _ _ rfl OW.out ⟨wf.heap.size, 0, none⟩ 1 1 [.int .u8 k, .string (X.extract 0 n)] rfl rfl NW.out (by simp [Value.oneCell']) ?c3 ?c4 ?c5 ?_)
          case c3 => have := HEl.out; unfold maxLen; omega
          case c4 => have := HEl.out; omega
          case c5 => first | exact BA.out.size | (have := BA.out.size; simpa using this)
          intro v' w2 hown hgrow _
          have O1 : Hid (ToksAt w1.heap.size w2 v' (E ++ [(k, X.data.toList.take n)])) := Lib.hid (by
            unfold ToksAt; rw [List.length_append, List.flatMap_append]
            rw [tok_cell] at hown
            exact hown)
          have B1 : Hid (Below w1.heap.size w1 w2) := Lib.hid (BA.out.grown hgrow BA.out.size (fun k h => (OW.out.lt k h).1))
          clear hown hgrow
          go_wp2_with fail
          go_roundw
          case rel => exact ⟨X.extract n X.size, E ++ [(k, X.data.toList.take n)], rfl, by have := HZ.out; omega, HN2, O1, B1⟩
          case measure => exact HZ.out
        · have h0' : X.size = 0 := by omega
          have e0 := Utf.isEmpty_yes h0'
          have hne : X.data.toList = [] := List.length_eq_zero_iff.1 (by rw [← Lib.size_eq]; exact h0')
          have HR : Hid (EV = E) := Lib.hid (by rw [HV.out, hne, toks_nil, List.append_nil])
          clear h0 h0' hne
          go_wp2_with fail
          go_ret2
          exact ⟨_, by rw [HK.out]; rfl, by rw [HLL.out, HR.out]; exact owns_base HO.out HB1.out.size, HB1.out.trans (HB.out.mono HB1.out.size)⟩
end Go.Proofs.YtfedmhccbfhcbaaGreatDoor
