/-
  The reference's str.
-/
import Derived.Test.YtgcpgieojckheaaGreatDoorMgKB
import Derived.Test.YtgcpgieojckheaaGreatDoorMgJX
import Derived.Maps.AppendAt
namespace Go.Proofs.YtgcpgieojckheaaGreatDoor.Json
open Go.RowKit Go.Shelf Go.Maps

theorem But.grownB {b : Nat} {W w w' : World} {row : Option Nat} (h : But b W w) (hg : w.grownBy w' row) (hr : ∀ g, row = some g → W.heap.size ≤ g) : But b W w' :=
  ⟨hg.os.trans h.os, hg.tape.trans h.tape, hg.output.trans h.output, Nat.le_trans h.size hg.size, fun k hk hkb => (hg.block k (Nat.lt_of_lt_of_le hk h.size) (fun e => by have := hr k e.symm; omega)).trans (h.block k hk hkb)⟩
theorem u37s : Tryz.prog.underlying 37 = some (.slice 5) := by kernel_rfl
theorem u5u : Tryz.prog.underlying 5 = some (.int .u8) := by kernel_rfl
/-- A row of bytes of the call's own, as a string. -/
theorem conv_row {w : World} {B : Nat} {v : Value} {T : List UInt8} (h : w.ownsRow B 5 1 v T.length (Lib.byteCells T)) : (convert 37 9 v).run Tryz.prog w = .ok (.string ⟨T.toArray⟩) w := by
  have hc := fun g (hg : v.ownBlock = some g) => World.ownsRow.cells h hg
  rcases h.2 with ⟨h1, h2⟩ | ⟨g, cap, cur, h1, _⟩
  · subst h1
    have hT : T = [] := List.length_eq_zero_iff.1 h2
    subst hT
    exact run_convert_bytes_nil w 37 5 u37s u5u 0 0 9 (by kernel_rfl)
  · subst h1
    refine run_convert_bytes_back w 37 9 5 ⟨g, 0, none⟩ cap T u37s u5u (by kernel_rfl) fun j hj => ?_
    refine hc g rfl j _ ?_
    unfold Lib.byteCells
    rw [List.getElem?_map, List.getElem?_eq_getElem hj]; rfl
theorem byte_one (c : UInt8) : ∀ u ∈ [Value.int .u8 (c.toNat : Int)], u.oneCell' = true := by intro u hu; simp at hu; subst hu; rfl
/-- What a String ends in. -/
def RStr (W : World) (b : Nat) (s : ByteArray) (x n : Nat) : Option (List UInt8 × List UInt8) → Ending → World → Prop
  | some (t, r), e, w' => ∃ k, x ≤ k ∧ k ≤ s.size ∧ r = s.data.toList.drop k ∧ e = .returned (bl t) ∧ RAt w' b s k n 0 ∧ But b W w'
  | none, e, w' => ∃ (k : Nat) (t : ByteArray), e = .returned (.string t) ∧ RAt w' b s k n 4 ∧ But b W w'
/-- How far a reader has to go; nothing, if something went wrong. -/
def rleft (b : Nat) (s : ByteArray) (W : World) : Nat :=
  match W.cell? ⟨b, 3, none⟩ with
  | some (.int _ e) => if e = 0 then s.size + 1 - stands b W else 0
  | _ => 0
theorem rleft_at {W : World} {b : Nat} {s : ByteArray} {x n : Nat} (h : RAt W b s x n 0) : rleft b s W = s.size + 1 - x := by
  unfold rleft; rw [h.cells.2.2.2.1, rstands_at h]; rfl
theorem rleft_bad {W : World} {b : Nat} {s : ByteArray} {x n : Nat} {e : Int} (h : RAt W b s x n e) (he : e ≠ 0) : rleft b s W = 0 := by
  unfold rleft; rw [h.cells.2.2.2.1]; exact if_neg he
/-- The loop's state. -/
def SInv (W : World) (b B : Nat) (s : ByteArray) (n : Nat) (r : List UInt8) (k : Nat) (T : List UInt8) (v : Value) (wr : World) : Prop :=
  RAt wr b s k n 0 ∧ wr.ownsRow B 5 1 v T.length (Lib.byteCells T) ∧ But b W wr ∧ B ≤ wr.heap.size ∧ bodyA r = pre2 T (bodyA (s.data.toList.drop k)) ∧ T.length ≤ 4 * k
set_option maxRecDepth 100000 in
set_option maxHeartbeats 8000000 in
theorem rstr_any (W : World) (b : Nat) (s : ByteArray) (x n : Nat) (h : RAt W b s x n 0) (b8 : 8 ≤ b) (hx : x ≤ s.size) (hz : s.size ≤ 30000) :
    Calls Tryz.prog 107 #[.pointer (some ⟨b, 0, none⟩)] W (RStr W b s x n (quoted (s.data.toList.drop x))) := by
  obtain ⟨V, hV⟩ : ∃ V, quoted (s.data.toList.drop x) = V := ⟨_, rfl⟩
  rw [hV]
  have hblt := h.lt
  by_cases hd : ∃ r, s.data.toList.drop x = 34 :: r
  · obtain ⟨r, hr⟩ := hd
    have hdc := drop_cons hr
    have hx1 : x + 1 ≤ s.size := by have := hdc.1; rw [← Lib.size_eq] at this; omega
    have ht := rtake_yes W b s [34] x n r h (by omega) (by simp) hr hx
    have HV : Hid (V = quotedOf (bodyA r)) := Lib.hid (by rw [← hV, hr, quoted_of])
    have HQ := Lib.hid hdc.2.2
    have W8 : 8 ≤ W.heap.size := by omega
    obtain ⟨i0, hi, hz0, hz1, hz2⟩ := info_parts Tryz.Builder_Extra_165.infoByte
    have t9 : Tryz.prog.underlying 9 = some .string := by kernel_rfl
    clear hV hr h hdc
    go_enter Tryz.func107, Tryz.ntmps107
    go_wp2_with fail
    refine ht.mono ?_
    rintro e w1 ⟨rfl, hP1, hb1⟩
    have hs1 := hb1.size
    have HI : Hid (SInv W b W.heap.size s n r (x + 1) [] (.slice none 0 0) w1) := Lib.hid ⟨hP1, World.ownsRow_nil _ _ _ _, hb1, hs1, by rw [pre2_nil, ← HQ.out], by simp⟩
    clear hP1 hb1 ht
    go_wp2_with fail
    go_loopw [3] (fun ov wr => (∃ (k : Nat) (T : List UInt8) (po : Option Addr) (co : Nat), ov = .slice po T.length co ∧ x + 1 ≤ k ∧ k ≤ s.size ∧ Hid (SInv W b W.heap.size s n r k T (.slice po T.length co) wr)) ∨ (∃ k, Hid (RAt wr b s k n 4 ∧ But b W wr ∧ V = none))) (fun _ wr => rleft b s wr)
    case atStart => exact .inl ⟨x + 1, [], none, 0, rfl, Nat.le_refl _, hx1, HI⟩
    case round =>
      rcases hrel with ⟨k, T, po, co, rfl, hxk, hk, HK⟩ | ⟨k, HK⟩
      · obtain ⟨p0, p1, p2, p3, pf⟩ := HK.out.1.cells
        have hTl := HK.out.2.2.2.2.2
        have hsk := HK.out.2.2.2.1
        by_cases hq : ∃ r', s.data.toList.drop k = 34 :: r'
        · obtain ⟨r', hr'⟩ := hq
          have HV2 : Hid (V = if Utf.validS ⟨T.toArray⟩ then some (T, s.data.toList.drop (k + 1)) else none) := Lib.hid (by
            rw [HV.out, HK.out.2.2.2.2.1, bodyA_end hr']
            show quotedOf (some (T ++ [], r')) = _
            rw [List.append_nil, (drop_cons hr').2.2]; rfl)
          have hk1 : k + 1 ≤ s.size := by have := (drop_cons hr').1; rw [← Lib.size_eq] at this; omega
          have ht := rtake_yes wr b s [34] k n r' HK.out.1 (by omega) (by simp) hr' hk
          clear hr'
          go_wp2_with fail
          refine ht.mono ?_
          rintro e w2 ⟨rfl, hP2, hb2⟩
          have HP2 := Lib.hid hP2
          have hown := own_but HK.out.2.1 hb2 hblt
          have HB2 := Lib.hid (HK.out.2.2.1.trans hb2)
          have hcv := conv_row hown
          have HOW := Lib.hid hown
          have hva := Utf.rvalid_any ⟨T.toArray⟩ w2
          have HBT : Hid (bl T = .string ⟨T.toArray⟩) := Lib.hid rfl
          cases hv : Utf.validS ⟨T.toArray⟩ with
          | true =>
            rw [hv] at hva
            have HVS : Hid (V = some (T, s.data.toList.drop (k + 1))) := Lib.hid (by rw [HV2.out, hv]; rfl)
            generalize (⟨T.toArray⟩ : ByteArray) = Q at hcv hva HBT
            clear hv HV2 hP2 hb2 hown ht p0 p1 p2 p3 pf
            go_wp2_with fail
            refine hva.mono ?_
            rintro e w3 ⟨rfl, hb3⟩
            have HP3 := Lib.hid (HP2.out.below hb3)
            have HB3 := Lib.hid (HB2.out.trans (But.of hb3))
            have hcv3 : (convert 37 9 (.slice po T.length co)).run Tryz.prog w3 = .ok (.string Q) w3 := by
              have := conv_row (own_but HOW.out (But.of (b := b) hb3) hblt)
              have hq2 := HBT.out
              unfold bl at hq2
              rw [this]; rw [hq2]
            clear hb3 hva hcv
            go_wp2
            go_ret
            rw [HVS.out]
            exact ⟨k + 1, by omega, hk1, rfl, by rw [HBT.out]; rfl, HP3.out, HB3.out⟩
          | false =>
            rw [hv] at hva
            have HVN : Hid (V = none) := Lib.hid (by rw [HV2.out, hv]; rfl)
            generalize (⟨T.toArray⟩ : ByteArray) = Q at hcv hva HBT
            clear hv HV2 hP2 hb2 hown ht p0 p1 p2 p3 pf
            go_wp2_with fail
            refine hva.mono ?_
            rintro e w3 ⟨rfl, hb3⟩
            have HP3 := Lib.hid (HP2.out.below hb3)
            have HB3 := Lib.hid (HB2.out.trans (But.of hb3))
            have HOW3 := Lib.hid (own_but HOW.out (But.of (b := b) hb3) hblt)
            clear hb3 hva hcv
            go_wp2_with fail
            refine (fail_any w3 b s (k + 1) n 0 4 HP3.out).mono ?_
            rintro e w4 ⟨rfl, hP4, hb4⟩
            rw [if_pos rfl] at hP4
            have HP4 := Lib.hid hP4
            have HB4 := Lib.hid (HB3.out.trans hb4)
            have hcv4 : (convert 37 9 (.slice po T.length co)).run Tryz.prog w4 = .ok (.string Q) w4 := by
              have := conv_row (own_but HOW3.out hb4 hblt)
              have hq2 := HBT.out
              unfold bl at hq2
              rw [this]; rw [hq2]
            clear hP4 hb4
            go_wp2
            go_ret
            rw [HVN.out]
            exact ⟨k + 1, Q, rfl, HP4.out, HB4.out⟩
        · have HNQ := Lib.hid hq
          have ht := rtake_no wr b s [34] k n HK.out.1 hk (by omega) (by simp) (fun r' e => hq ⟨r', e⟩)
          clear hq
          go_wp2_with fail
          refine ht.mono ?_
          rintro e w2 ⟨rfl, hb2⟩
          have HP2 := Lib.hid (HK.out.1.below hb2)
          have HOW2 := Lib.hid (own_but HK.out.2.1 (But.of (b := b) hb2) hblt)
          have HB2 := Lib.hid (HK.out.2.2.1.trans (But.of hb2))
          have hs2 := hb2.size
          clear hb2 ht p0 p1 p2 p3 pf
          by_cases hq : ∃ r', s.data.toList.drop k = 92 :: r'
          · obtain ⟨r', hr'⟩ := hq
            have hdc := drop_cons hr'
            have hk1 : k + 1 ≤ s.size := by have := hdc.1; rw [← Lib.size_eq] at this; omega
            have HBE : Hid (bodyA r = pre2 T (match escR (s.data.toList.drop (k + 1)) with | none => none | some (t, r2) => pre2 t (bodyA r2))) := Lib.hid (by
              rw [HK.out.2.2.2.2.1, hr', bodyA_esc, ← hdc.2.2]; rfl)
            have ht := rtake_yes w2 b s [92] k n r' HP2.out (by omega) (by simp) hr' hk
            clear hr' hdc HNQ
            go_wp2_with fail
            refine ht.mono ?_
            rintro e w3 ⟨rfl, hP3, hb3⟩
            have HP3 := Lib.hid hP3
            have HOW3 := Lib.hid (own_but HOW2.out hb3 hblt)
            have HB3 := Lib.hid (HB2.out.trans hb3)
            have hs3 := hb3.size
            clear hP3 hb3 ht
            go_wp2_with fail
            refine (rescape_any w3 b s (k + 1) n HP3.out hk1 (by omega)).mono ?_
            intro e w4 h4
            cases hE : escR (s.data.toList.drop (k + 1)) with
            | none =>
              rw [hE] at h4
              obtain ⟨k4, t, rfl, ht4, hP4, hb4⟩ := h4
              have HVN : Hid (V = none) := Lib.hid (by rw [HV.out, HBE.out, hE]; rfl)
              have HP4 := Lib.hid hP4
              have hown := own_but HOW3.out hb4 hblt
              have HB4 := Lib.hid (HB3.out.trans hb4)
              have hs4 := hb4.size
              clear hE HBE hP4 hb4
              go_wp2_with (at_builtin; refine Lib.wpList_append_own_string _ rfl _ _ 37 9 rfl W.heap.size 5 i0 u37s t9 hi hz0 hz1 hz2 _ _ _ rfl hown t rfl ?c3 ?c4 ?c5 ?_)
              case c3 => unfold maxLen; omega
              case c4 => omega
              case c5 => omega
              intro v' w5 hown' hgrow _
              have hrow : ∀ g, (Value.slice po T.length co).ownBlock = some g → W.heap.size ≤ g := fun g hg => (hown.lt g hg).1
              have HP5 : Hid (RAt w5 b s k4 n 4) := Lib.hid ((hgrow.block b HP4.out.lt (fun e => by have := hrow b e.symm; omega)).trans HP4.out)
              have HB5 := Lib.hid (HB4.out.grownB hgrow hrow)
              clear hown hown' hgrow hrow
              go_wp2
              exact ⟨.inr ⟨k4, Lib.hid ⟨HP5.out, HB5.out, HVN.out⟩⟩, by rw [rleft_bad HP5.out (by decide), rleft_at HK.out.1]; omega⟩
            | some p =>
              obtain ⟨t, r2⟩ := p
              rw [hE] at h4
              obtain ⟨k4, hk4, hk4s, hr2, rfl, hP4, hb4⟩ := h4
              have htl := escR_few hE
              have HBE2 : Hid (bodyA r = pre2 (T ++ t) (bodyA (s.data.toList.drop k4))) := Lib.hid (by rw [HBE.out, hE]; show pre2 T (pre2 t (bodyA r2)) = _; rw [pre2_pre, hr2])
              have HP4 := Lib.hid hP4
              have hown := own_but HOW3.out hb4 hblt
              have HB4 := Lib.hid (HB3.out.trans hb4)
              have hs4 := hb4.size
              obtain ⟨Q, hQ⟩ : ∃ Q : ByteArray, (⟨t.toArray⟩ : ByteArray) = Q := ⟨_, rfl⟩
              have HQs : Hid (Q.size = t.length) := Lib.hid (by rw [← hQ, Lib.size_eq])
              have HQc : Hid (Lib.strCells Q = Lib.byteCells t) := Lib.hid (by rw [← hQ, strCells_bytes])
              have hbl : bl t = .string Q := by unfold bl; rw [hQ]
              rw [hbl]
              clear hE HBE hP4 hb4 hr2 hQ hbl
              go_wp2_with (at_builtin; refine Lib.wpList_append_own_string _ rfl _ _ 37 9 rfl W.heap.size 5 i0 u37s t9 hi hz0 hz1 hz2 _ _ _ rfl hown Q rfl ?c3 ?c4 ?c5 ?_)
              case c3 => unfold maxLen; (have := HQs.out; omega)
              case c4 => (have := HQs.out; omega)
              case c5 => omega
              intro v' w5 hown' hgrow _
              have hrow : ∀ g, (Value.slice po T.length co).ownBlock = some g → W.heap.size ≤ g := fun g hg => (hown.lt g hg).1
              have HP5 : Hid (RAt w5 b s k4 n 0) := Lib.hid ((hgrow.block b HP4.out.lt (fun e => by have := hrow b e.symm; omega)).trans HP4.out)
              have HB5 := Lib.hid (HB4.out.grownB hgrow hrow)
              have HOW5 : Hid (w5.ownsRow W.heap.size 5 1 v' (T ++ t).length (Lib.byteCells (T ++ t))) := Lib.hid (by rw [List.length_append, byteCells_app, ← HQc.out, ← HQs.out]; exact hown')
              have hs5 := hgrow.size
              clear hown hown' hgrow hrow
              go_wp2
              obtain ⟨po5, co5, rfl⟩ := LstAt.form HOW5.out
              exact ⟨.inl ⟨k4, T ++ t, po5, co5, rfl, by omega, hk4s, Lib.hid ⟨HP5.out, HOW5.out, HB5.out, by omega, HBE2.out, by rw [List.length_append]; omega⟩⟩, by rw [rleft_at HP5.out, rleft_at HK.out.1]; omega⟩
          · have HNB := Lib.hid hq
            have ht := rtake_no w2 b s [92] k n HP2.out hk (by omega) (by simp) (fun r' e => hq ⟨r', e⟩)
            clear hq
            rcases Nat.lt_or_ge k s.size with hin | hend
            · have hat : s.data.toList[k]? = some (s[k]'hin) := get_list hin
              have hdr : s.data.toList.drop k = s[k]'hin :: s.data.toList.drop (k + 1) := by
                have h1 : k < s.data.toList.length := by rw [← Lib.size_eq]; exact hin
                rw [List.drop_eq_getElem_cons h1]
                have h2 := List.getElem?_eq_getElem h1
                rw [hat] at h2
                rw [Option.some.inj h2]
              have HM : Hid (∀ w, Below w2.heap.size w2 w → Calls Tryz.prog 104 #[.pointer (some ⟨b, 0, none⟩)] w fun r w' => r = .returned (.bool true) ∧ Below w.heap.size w w') := Lib.hid (fun w hw => by
                have := more_any w b s k n 0 (HP2.out.below hw)
                rwa [show ((0 : Int) == 0 && decide (k < s.size)) = true by simp [hin]] at this)
              have HN : Hid (∀ w, Below w2.heap.size w2 w → Calls Tryz.prog 105 #[.pointer (some ⟨b, 0, none⟩)] w fun r w' => r = .returned (.int .u8 (s[k]'hin).toNat) ∧ Below w.heap.size w w') := Lib.hid (fun w hw => rnext_in w b s k n (HP2.out.below hw) hin)
              have hkin : (k : Int) < (s.size : Int) := by omega
              have hsk2 := HK.out.2.2.2.2.1
              by_cases hlow : (s[k]'hin).toNat < 32
              · have hlow' : (((s[k]'hin).toNat : Nat) : Int) < 32 := by omega
                have HVN : Hid (V = none) := Lib.hid (by rw [HV.out, hsk2, hdr, bodyA_low _ _ hlow]; rfl)
                generalize (s[k]'hin).toNat = cN at HN hlow'
                clear hat hdr hlow HNQ HNB hsk2
                go_wp2_with fail
                refine ht.mono ?_
                rintro e w3 ⟨rfl, hb3⟩
                have HB3 := Lib.hid hb3
                clear hb3 ht
                go_wp2_with fail
                refine (HM.out w3 HB3.out).mono ?_
                rintro e w4 ⟨rfl, hb4⟩
                have HB4 := Lib.hid (gcall HB3.out hb4)
                clear hb4
                go_wp2_with fail
                refine (HN.out w4 HB4.out).mono ?_
                rintro e w5 ⟨rfl, hb5⟩
                have HB5 := Lib.hid (gcall HB4.out hb5)
                clear hb5
                go_wp2_with fail
                refine (fail_any w5 b s k n 0 4 (HP2.out.below HB5.out)).mono ?_
                rintro e w6 ⟨rfl, hP6, hb6⟩
                rw [if_pos rfl] at hP6
                have HP6 := Lib.hid hP6
                have HB6 := Lib.hid ((HB2.out.trans (But.of HB5.out)).trans hb6)
                clear hP6 hb6
                go_wp2
                go_ret
                rw [HVN.out]
                exact ⟨k, _, rfl, HP6.out, HB6.out⟩
              · have hlow' : ¬ (((s[k]'hin).toNat : Nat) : Int) < 32 := by omega
                have hpl : isPlain (s[k]'hin) = true := by
                  unfold isPlain
                  simp only [Bool.and_eq_true, decide_eq_true_eq, bne_iff_ne, ne_eq]
                  exact ⟨by omega, fun e => HNQ.out ⟨_, by rw [hdr, e]⟩, fun e => HNB.out ⟨_, by rw [hdr, e]⟩⟩
                have HBE2 : Hid (bodyA r = pre2 (T ++ [s[k]'hin]) (bodyA (s.data.toList.drop (k + 1)))) := Lib.hid (by rw [hsk2, hdr, bodyA_one _ _ hpl, pre2_pre])
                have hone := byte_one (s[k]'hin)
                have HC : Hid (Lib.byteCells (T ++ [s[k]'hin]) = Lib.byteCells T ++ [Value.int .u8 ((s[k]'hin).toNat : Int)]) := Lib.hid (by rw [byteCells_app]; rfl)
                clear hat hdr hlow HNQ HNB hsk2 hpl
                go_wp2_with fail
                refine ht.mono ?_
                rintro e w3 ⟨rfl, hb3⟩
                have HB3 := Lib.hid hb3
                clear hb3 ht
                go_wp2_with fail
                refine (HM.out w3 HB3.out).mono ?_
                rintro e w4 ⟨rfl, hb4⟩
                have HB4 := Lib.hid (gcall HB3.out hb4)
                clear hb4
                go_wp2_with fail
                refine (HN.out w4 HB4.out).mono ?_
                rintro e w5 ⟨rfl, hb5⟩
                have HB5 := Lib.hid (gcall HB4.out hb5)
                clear hb5
                have hP5 := HP2.out.below HB5.out
                obtain ⟨p0, p1, p2, p3, pf⟩ := hP5.cells
                have HP5 := Lib.hid hP5
                have hs5 := HB5.out.size
                have HBW := Lib.hid (HB2.out.trans (But.of HB5.out))
                have HOW5 : Hid (((w5.alloc (.cells #[.int .u8 (s[k]'hin).toNat] 5)).drew).ownsRow W.heap.size 5 1 (.slice po T.length co) T.length (Lib.byteCells T)) := Lib.hid (own_but HOW2.out (But.of (b := b) (gcall HB5.out ((galloc (Below.refl w5.heap.size w5) _).drew))) hblt)
                have HNW : Hid (∀ (j : Nat) u, [Value.int .u8 ((s[k]'hin).toNat : Int)][j]? = some u → ((w5.alloc (.cells #[.int .u8 (s[k]'hin).toNat] 5)).drew).cell? ((⟨w5.heap.size, 0, none⟩ : Addr).add j) = some u) := Lib.hid (cell_one_new w5 _ 5)
                have HBS : Hid (W.heap.size ≤ ((w5.alloc (.cells #[.int .u8 (s[k]'hin).toNat] 5)).drew).heap.size) := Lib.hid (by simp; omega)
                have hrow : ∀ g, (Value.slice po T.length co).ownBlock = some g → W.heap.size ≤ g := fun g hg => (HOW2.out.lt g hg).1
                have HPG : Hid (∀ w6, ((w5.alloc (.cells #[.int .u8 (s[k]'hin).toNat] 5)).drew).grownBy w6 (Value.slice po T.length co).ownBlock → RAt w6 b s k n 0) := Lib.hid (fun w6 hg => (hg.block b (by simp; have := hP5.lt; omega) (fun e => by have := hrow b e.symm; omega)).trans ((hP5.below ((galloc (Below.refl w5.heap.size w5) _).drew))))
                have HBG : Hid (∀ w6, ((w5.alloc (.cells #[.int .u8 (s[k]'hin).toNat] 5)).drew).grownBy w6 (Value.slice po T.length co).ownBlock → But b W w6) := Lib.hid (fun w6 hg => (HBW.out.trans (But.of ((galloc (Below.refl w5.heap.size w5) _).drew))).grownB hg hrow)
                have hwk : IntKind.i64.wrap ((k : Int) + 1) = ((k + 1 : Nat) : Int) := by rw [IntWalk.i64_in _ (by omega)]; omega
                have HFIN : Hid (∀ (g1 cap1 : Nat), Value.slice (some ⟨g1, 0, none⟩) (T.length + 1) cap1 = Value.slice (some ⟨g1, 0, none⟩) (T ++ [s[k]'hin]).length cap1) := Lib.hid (fun g1 cap1 => by rw [List.length_append]; rfl)
                have HEND : Hid (∀ (w6 : World) (g1 cap1 : Nat), w6.ownsRow W.heap.size 5 1 (.slice (some ⟨g1, 0, none⟩) (T.length + 1) cap1) (T.length + 1) (Lib.byteCells T ++ [Value.int .u8 ((s[k]'hin).toNat : Int)]) → RAt w6 b s k n 0 → But b W w6 → Hid (SInv W b W.heap.size s n r (k + 1) (T ++ [s[k]'hin]) (.slice (some ⟨g1, 0, none⟩) (T ++ [s[k]'hin]).length cap1) (w6.setCell ⟨b, 1, none⟩ (.int .i64 ((k + 1 : Nat) : Int))))) := Lib.hid (fun w6 g1 cap1 h1 h2 h3 => Lib.hid ⟨h2.set1 (k + 1), by
                  rw [List.length_append, HC.out]
                  exact ownsRow_setCell_other h1 (fun e => by have := (h1.lt b e).1; omega) _, h3.trans (But.set _ _ _ _), by have := h3.size; simp; omega, HBE2.out, by rw [List.length_append]; simp; omega⟩)
                have hm1 : T.length + 1 ≤ maxLen := by unfold maxLen; omega
                have hm2 : (T.length + 1) * 1 ≤ 140737488355328 := by omega
                clear hP5
                go_wp2_with fail
                go_region_law (first
                  | (refine step_append_lies _ (by rfl) _ _ _ (by rfl) W.heap.size 5 i0 (.int .u8 0) 1 1 u37s hi hz0 hz1 hz2 rfl (by decide) (.slice po T.length co) T.length (Lib.byteCells T) (by rfl) HOW5.out ⟨w5.heap.size, 0, none⟩ 1 1 [.int .u8 (s[k]'hin).toNat] (by rfl) rfl HNW.out hone (by decide) hm1 hm2 HBS.out _ rfl ?_; intro g1 cap1 w6 hown6 hgrow hat6 hlt6; have HP6 := Lib.hid (HPG.out w6 hgrow); obtain ⟨q0, q1, q2, q3, qf⟩ := HP6.out.cells; have HB6 := Lib.hid (HBG.out w6 hgrow); have HOW6 := Lib.hid hown6))
                all_goals go_wp2
                all_goals (have HP7 := HP6.out.set1 (k + 1); exact ⟨.inl ⟨k + 1, T ++ [s[k]'hin], some ⟨g1, 0, none⟩, cap1, HFIN.out g1 cap1, by omega, by omega, HEND.out w6 g1 cap1 HOW6.out HP6.out HB6.out⟩, Nat.lt_of_le_of_lt (Nat.le_of_eq (rleft_at HP7)) (by rw [rleft_at HK.out.1]; omega)⟩)
            · obtain rfl : k = s.size := by omega
              have hdn : s.data.toList.drop s.size = [] := List.drop_of_length_le (by rw [← Lib.size_eq]; exact Nat.le_refl _)
              have HVN : Hid (V = none) := Lib.hid (by rw [HV.out, HK.out.2.2.2.2.1, hdn, bodyA_nil]; rfl)
              have HM : Hid (∀ w, Below w2.heap.size w2 w → Calls Tryz.prog 104 #[.pointer (some ⟨b, 0, none⟩)] w fun r w' => r = .returned (.bool false) ∧ Below w.heap.size w w') := Lib.hid (fun w hw => by
                have := more_any w b s s.size n 0 (HP2.out.below hw)
                rwa [show ((0 : Int) == 0 && decide (s.size < s.size)) = false by simp] at this)
              clear hdn HNQ HNB
              go_wp2_with fail
              refine ht.mono ?_
              rintro e w3 ⟨rfl, hb3⟩
              have HB3 := Lib.hid hb3
              clear hb3 ht
              go_wp2_with fail
              refine (HM.out w3 HB3.out).mono ?_
              rintro e w4 ⟨rfl, hb4⟩
              have HB4 := Lib.hid (gcall HB3.out hb4)
              clear hb4
              go_wp2_with fail
              refine (fail_any w4 b s s.size n 0 4 (HP2.out.below HB4.out)).mono ?_
              rintro e w6 ⟨rfl, hP6, hb6⟩
              rw [if_pos rfl] at hP6
              have HP6 := Lib.hid hP6
              have HB6 := Lib.hid ((HB2.out.trans (But.of HB4.out)).trans hb6)
              clear hP6 hb6
              go_wp2
              go_ret
              rw [HVN.out]
              exact ⟨s.size, _, rfl, HP6.out, HB6.out⟩
      · obtain ⟨p0, p1, p2, p3, pf⟩ := HK.out.1.cells
        go_wp2
        go_ret
        rw [HK.out.2.2]
        exact ⟨k, _, rfl, HK.out.1, HK.out.2.1⟩
  · have HVN : Hid (V = none) := Lib.hid (by rw [← hV]; exact quoted_not _ fun r e => hd ⟨r, e⟩)
    have ht := rtake_no W b s [34] x n h hx (by omega) (by simp) (fun r e => hd ⟨r, e⟩)
    have HP := Lib.hid h
    clear hd hV h
    go_enter Tryz.func107, Tryz.ntmps107
    go_wp2_with fail
    refine ht.mono ?_
    rintro e w1 ⟨rfl, hb1⟩
    have HP1 := Lib.hid (HP.out.below hb1)
    have HB1 := Lib.hid hb1
    clear hb1 ht
    go_wp2_with fail
    refine (fail_any w1 b s x n 0 4 HP1.out).mono ?_
    rintro e w2 ⟨rfl, hP2, hb2⟩
    rw [if_pos rfl] at hP2
    have HP2 := Lib.hid hP2
    have HB2 := Lib.hid ((But.of (b := b) HB1.out).trans hb2)
    clear hP2 hb2
    go_wp2_with fail
    go_loopw [] (fun wr => wr = w2) (fun _ => 0)
    case atStart => rfl
    case round =>
      subst hrel
      obtain ⟨p0, p1, p2, p3, pf⟩ := HP2.out.cells
      go_wp2
      go_ret
      rw [HVN.out]
      exact ⟨x, _, rfl, HP2.out, HB2.out⟩
end Go.Proofs.YtgcpgieojckheaaGreatDoor.Json
