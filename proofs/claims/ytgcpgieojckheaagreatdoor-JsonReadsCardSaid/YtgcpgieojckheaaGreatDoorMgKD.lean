/-
  The reference's number.
-/
import Derived.Test.YtgcpgieojckheaaGreatDoorMgKD0
namespace Go.Proofs.YtgcpgieojckheaaGreatDoor.Json
open Go.RowKit Go.Shelf

set_option maxRecDepth 100000 in
set_option maxHeartbeats 8000000 in
theorem rnumber_any (W : World) (b : Nat) (s : ByteArray) (x n : Nat) (h : RAt W b s x n 0) (hx : x ≤ s.size) (hz : s.size ≤ 30000) :
    Calls Tryz.prog 109 #[.pointer (some ⟨b, 0, none⟩)] W (RVal W b s x (number (s.data.toList.drop x) n)) := by
  have hblt := h.lt
  obtain ⟨G, hG⟩ : ∃ G, number (s.data.toList.drop x) n = G := ⟨_, rfl⟩
  rw [hG]
  obtain ⟨W0, hW0⟩ : ∃ W0, W.alloc (Obj.cells #[Value.int IntKind.u8 0, Value.string { data := #[] }, Value.slice none 0 0, Value.slice none 0 0] 47) = W0 := ⟨_, rfl⟩
  have hb0 : Below W.heap.size W W0 := by rw [← hW0]; exact galloc (Below.refl _ _) _
  have hR0 : W0.heap[W.heap.size]? = some (.cells #[.int .u8 0, .string ⟨#[]⟩, .slice none 0 0, .slice none 0 0] 47 (0, 0)) := by rw [← hW0]; exact World.alloc_heap_new W _
  have hs0 : W0.heap.size = W.heap.size + 1 := by rw [← hW0]; simp
  have hP0 := h.below hb0
  obtain ⟨c0, c1, c2, c3, cf⟩ := (h.below (galloc (Below.refl W.heap.size W) (Obj.cells #[Value.int IntKind.u8 0, Value.string { data := #[] }, Value.slice none 0 0, Value.slice none 0 0] 47))).cells
  obtain ⟨R, hR⟩ : ∃ R, W.heap.size = R := ⟨_, rfl⟩
  rw [hR] at hR0 hs0
  have hbR : b ≠ R := by omega
  have hWR : W.heap.size ≤ R := by omega
  have HRe := Lib.hid hR
  have HB0 := Lib.hid (But.of (b := b) hb0)
  have HP0 := Lib.hid hP0
  have HR := Lib.hid hR0
  have HW0 := Lib.hid hW0
  have HWs := Lib.hid hs0
  have HT : Hid (∀ k : Nat, x ≤ k → k ≤ s.size → (∀ (j : Nat) c, j < k - x → (s.data.toList.drop x)[j]? = some c → isNumc c = true) → (∀ c, (s.data.toList.drop x)[k - x]? = some c → isNumc c = false) →
      (G = if (ownR (s.extract x k).data.toList).2 = 0 then .ok (.mk 4 (ownR (s.extract x k).data.toList).1 [] [], s.data.toList.drop k, n) else .error (ownR (s.extract x k).data.toList).2)) := Lib.hid (fun k hk1 hk2 h1 h2 => by
    have hsp := span_of (p := isNumc) (l := s.data.toList.drop x) (k := k - x) (by rw [List.length_drop, ← Lib.size_eq]; omega) h1 h2
    rw [← hG]
    unfold number
    rw [hsp.1, hsp.2, ex_list, List.drop_drop, show x + (k - x) = k by omega])
  clear h hb0 hP0 hR0 hG hW0 hs0 hR
  go_enter Tryz.func109, Tryz.ntmps109
  go_wp2_with fail
  rw [HRe.out]
  rw [HW0.out]
  go_loopw [] (fun wr => ∃ k, x ≤ k ∧ k ≤ s.size ∧ Hid (RAt wr b s k n 0) ∧ Hid (But b W0 wr) ∧ Hid (∀ (j : Nat) c, j < k - x → (s.data.toList.drop x)[j]? = some c → isNumc c = true)) (fun wr => s.size - stands b wr)
  case atStart => exact ⟨x, Nat.le_refl _, hx, HP0, Lib.hid (But.refl _ _), Lib.hid (fun j c hj => by omega)⟩
  case round =>
    obtain ⟨k, hxk, hk, HP, HB, HJ⟩ := hrel
    clear c0 c1 c2 c3 cf
    rcases Nat.lt_or_ge k s.size with hlt | hge
    · have hm := more_any wr b s k n 0 HP.out
      have hn := fun w (hw : Below wr.heap.size wr w) => rnext_in w b s k n (HP.out.below hw) hlt
      rw [show ((0 : Int) == 0 && decide (k < s.size)) = true by simp [hlt]] at hm
      have hat : Hid (s.data.toList[k]? = some (s[k]'hlt)) := Lib.hid (get_list hlt)
      have hw : IntKind.i64.wrap ((k : Int) + 1) = ((k + 1 : Nat) : Int) := by rw [IntWalk.i64_in _ (by omega)]; omega
      generalize s[k]'hlt = c at hn hat
      have HJ2 : Hid (isNumc c = true → ∀ (j : Nat) d, j < k + 1 - x → (s.data.toList.drop x)[j]? = some d → isNumc d = true) := Lib.hid fun hcb j d hj hd => by
        rcases Nat.lt_or_ge j (k - x) with g | g
        · exact HJ.out j d g hd
        · have e : x + j = k := by omega
          rw [List.getElem?_drop, e, hat.out] at hd
          rw [← Option.some.inj hd]; exact hcb
      have HD : Hid (isNumc c = false → ∀ d, (s.data.toList.drop x)[k - x]? = some d → isNumc d = false) := Lib.hid fun hcb d hd => by
        have e : x + (k - x) = k := by omega
        rw [List.getElem?_drop, e, hat.out] at hd
        rw [← Option.some.inj hd]; exact hcb
      have HN := Lib.hid hn
      have hc8 : c.toNat < 256 := c.toNat_lt
      have u43 : ((c.toNat : Int) == 43) = (c == 43) := u8_eq rfl
      have u45 : ((c.toNat : Int) == 45) = (c == 45) := u8_eq rfl
      have u46 : ((c.toNat : Int) == 46) = (c == 46) := u8_eq rfl
      have u101 : ((c.toNat : Int) == 101) = (c == 101) := u8_eq rfl
      have u69 : ((c.toNat : Int) == 69) = (c == 69) := u8_eq rfl
      have v43 : ((c.toNat : Int) != 43) = (c != 43) := by unfold bne; rw [u43]
      have v45 : ((c.toNat : Int) != 45) = (c != 45) := by unfold bne; rw [u45]
      have v46 : ((c.toNat : Int) != 46) = (c != 46) := by unfold bne; rw [u46]
      have v101 : ((c.toNat : Int) != 101) = (c != 101) := by unfold bne; rw [u101]
      have v69 : ((c.toNat : Int) != 69) = (c != 69) := by unfold bne; rw [u69]
      have HNC : Hid (isNumc c = (isDig c || c == 43 || c == 45 || c == 46 || c == 101 || c == 69)) := Lib.hid rfl
      clear hn u43 u45 u46 u101 u69
      by_cases hdg : isDig c = true
      · have hr := isDig_rng hdg
        have g1 : (48 : Int) ≤ (c.toNat : Int) := by omega
        have g2 : (c.toNat : Int) ≤ 57 := by omega
        have HY : Hid (isNumc c = true) := Lib.hid (by rw [HNC.out, hdg]; rfl)
        clear hdg hr HT HD v43 v45 v46 v101 v69
        go_wp2_with fail
        refine hm.mono ?_
        rintro r w1 ⟨rfl, hb⟩
        have B1 := Lib.hid hb
        clear hb hm
        go_wp2_with fail
        refine (HN.out _ B1.out).mono ?_
        rintro r w2 ⟨rfl, hb⟩
        have B2 := Lib.hid (gcall B1.out hb)
        clear hb
        obtain ⟨k0, k1, k2, k3, kf⟩ := (HP.out.below B2.out).cells
        go_wp2
        have HP2 := (HP.out.below B2.out).set1 (k + 1)
        have hm2 : s.size - stands b ((w2).setCell ⟨b, 1, none⟩ (.int .i64 ((k + 1 : Nat) : Int))) < s.size - k := by rw [rstands_at HP2]; omega
        exact ⟨⟨k + 1, by omega, by omega, Lib.hid HP2, Lib.hid ((HB.out.trans (But.of B2.out)).trans (But.set _ _ _ _)), Lib.hid (HJ2.out HY.out)⟩, by rw [rstands_at HP.out]; exact hm2⟩
      · have hdg2 : ¬ (48 ≤ c.toNat ∧ c.toNat ≤ 57) := fun e => hdg (by unfold isDig; simp; exact e)
        have hdf : isDig c = false := by simpa using hdg
        by_cases e43 : c = 43
        · have b43 : (c != 43) = false := by rw [e43]; rfl
          rw [b43] at v43
          have HY : Hid (isNumc c = true) := Lib.hid (by rw [e43]; decide)
          have g1 : ¬ (48 : Int) ≤ (c.toNat : Int) := by rw [e43]; decide
          clear e43 b43 hdg hdg2 hdf HT HD
          go_wp2_with fail
          refine hm.mono ?_
          rintro r w1 ⟨rfl, hb⟩
          have B1 := Lib.hid hb
          clear hb hm
          go_wp2_with fail
          refine (HN.out _ B1.out).mono ?_
          rintro r w2 ⟨rfl, hb⟩
          have B2 := Lib.hid (gcall B1.out hb)
          clear hb
          obtain ⟨k0, k1, k2, k3, kf⟩ := (HP.out.below B2.out).cells
          go_wp2
          have HP2 := (HP.out.below B2.out).set1 (k + 1)
          have hm2 : s.size - stands b ((w2).setCell ⟨b, 1, none⟩ (.int .i64 ((k + 1 : Nat) : Int))) < s.size - k := by rw [rstands_at HP2]; omega
          exact ⟨⟨k + 1, by omega, by omega, Lib.hid HP2, Lib.hid ((HB.out.trans (But.of B2.out)).trans (But.set _ _ _ _)), Lib.hid (HJ2.out HY.out)⟩, by rw [rstands_at HP.out]; exact hm2⟩
        · have b43 : (c != 43) = true := by simpa using e43
          rw [b43] at v43
          by_cases e45 : c = 45
          · have b45 : (c != 45) = false := by rw [e45]; rfl
            rw [b45] at v45
            have HY : Hid (isNumc c = true) := Lib.hid (by rw [e45]; decide)
            have g1 : ¬ (48 : Int) ≤ (c.toNat : Int) := by rw [e45]; decide
            clear e45 b45 hdg hdg2 hdf HT HD
            go_wp2_with fail
            refine hm.mono ?_
            rintro r w1 ⟨rfl, hb⟩
            have B1 := Lib.hid hb
            clear hb hm
            go_wp2_with fail
            refine (HN.out _ B1.out).mono ?_
            rintro r w2 ⟨rfl, hb⟩
            have B2 := Lib.hid (gcall B1.out hb)
            clear hb
            obtain ⟨k0, k1, k2, k3, kf⟩ := (HP.out.below B2.out).cells
            go_wp2
            have HP2 := (HP.out.below B2.out).set1 (k + 1)
            have hm2 : s.size - stands b ((w2).setCell ⟨b, 1, none⟩ (.int .i64 ((k + 1 : Nat) : Int))) < s.size - k := by rw [rstands_at HP2]; omega
            exact ⟨⟨k + 1, by omega, by omega, Lib.hid HP2, Lib.hid ((HB.out.trans (But.of B2.out)).trans (But.set _ _ _ _)), Lib.hid (HJ2.out HY.out)⟩, by rw [rstands_at HP.out]; exact hm2⟩
          · have b45 : (c != 45) = true := by simpa using e45
            rw [b45] at v45
            by_cases e46 : c = 46
            · have b46 : (c != 46) = false := by rw [e46]; rfl
              rw [b46] at v46
              have HY : Hid (isNumc c = true) := Lib.hid (by rw [e46]; decide)
              have g1 : ¬ (48 : Int) ≤ (c.toNat : Int) := by rw [e46]; decide
              clear e46 b46 hdg hdg2 hdf HT HD
              go_wp2_with fail
              refine hm.mono ?_
              rintro r w1 ⟨rfl, hb⟩
              have B1 := Lib.hid hb
              clear hb hm
              go_wp2_with fail
              refine (HN.out _ B1.out).mono ?_
              rintro r w2 ⟨rfl, hb⟩
              have B2 := Lib.hid (gcall B1.out hb)
              clear hb
              obtain ⟨k0, k1, k2, k3, kf⟩ := (HP.out.below B2.out).cells
              go_wp2
              have HP2 := (HP.out.below B2.out).set1 (k + 1)
              have hm2 : s.size - stands b ((w2).setCell ⟨b, 1, none⟩ (.int .i64 ((k + 1 : Nat) : Int))) < s.size - k := by rw [rstands_at HP2]; omega
              exact ⟨⟨k + 1, by omega, by omega, Lib.hid HP2, Lib.hid ((HB.out.trans (But.of B2.out)).trans (But.set _ _ _ _)), Lib.hid (HJ2.out HY.out)⟩, by rw [rstands_at HP.out]; exact hm2⟩
            · have b46 : (c != 46) = true := by simpa using e46
              rw [b46] at v46
              by_cases e101 : c = 101
              · have b101 : (c != 101) = false := by rw [e101]; rfl
                rw [b101] at v101
                have HY : Hid (isNumc c = true) := Lib.hid (by rw [e101]; decide)
                have g1 : (48 : Int) ≤ (c.toNat : Int) := by rw [e101]; decide
                have g2 : ¬ (c.toNat : Int) ≤ 57 := by rw [e101]; decide
                clear e101 b101 hdg hdg2 hdf HT HD
                go_wp2_with fail
                refine hm.mono ?_
                rintro r w1 ⟨rfl, hb⟩
                have B1 := Lib.hid hb
                clear hb hm
                go_wp2_with fail
                refine (HN.out _ B1.out).mono ?_
                rintro r w2 ⟨rfl, hb⟩
                have B2 := Lib.hid (gcall B1.out hb)
                clear hb
                obtain ⟨k0, k1, k2, k3, kf⟩ := (HP.out.below B2.out).cells
                go_wp2
                have HP2 := (HP.out.below B2.out).set1 (k + 1)
                have hm2 : s.size - stands b ((w2).setCell ⟨b, 1, none⟩ (.int .i64 ((k + 1 : Nat) : Int))) < s.size - k := by rw [rstands_at HP2]; omega
                exact ⟨⟨k + 1, by omega, by omega, Lib.hid HP2, Lib.hid ((HB.out.trans (But.of B2.out)).trans (But.set _ _ _ _)), Lib.hid (HJ2.out HY.out)⟩, by rw [rstands_at HP.out]; exact hm2⟩
              · have b101 : (c != 101) = true := by simpa using e101
                rw [b101] at v101
                by_cases e69 : c = 69
                · have b69 : (c != 69) = false := by rw [e69]; rfl
                  rw [b69] at v69
                  have HY : Hid (isNumc c = true) := Lib.hid (by rw [e69]; decide)
                  have g1 : (48 : Int) ≤ (c.toNat : Int) := by rw [e69]; decide
                  have g2 : ¬ (c.toNat : Int) ≤ 57 := by rw [e69]; decide
                  clear e69 b69 hdg hdg2 hdf HT HD
                  go_wp2_with fail
                  refine hm.mono ?_
                  rintro r w1 ⟨rfl, hb⟩
                  have B1 := Lib.hid hb
                  clear hb hm
                  go_wp2_with fail
                  refine (HN.out _ B1.out).mono ?_
                  rintro r w2 ⟨rfl, hb⟩
                  have B2 := Lib.hid (gcall B1.out hb)
                  clear hb
                  obtain ⟨k0, k1, k2, k3, kf⟩ := (HP.out.below B2.out).cells
                  go_wp2
                  have HP2 := (HP.out.below B2.out).set1 (k + 1)
                  have hm2 : s.size - stands b ((w2).setCell ⟨b, 1, none⟩ (.int .i64 ((k + 1 : Nat) : Int))) < s.size - k := by rw [rstands_at HP2]; omega
                  exact ⟨⟨k + 1, by omega, by omega, Lib.hid HP2, Lib.hid ((HB.out.trans (But.of B2.out)).trans (But.set _ _ _ _)), Lib.hid (HJ2.out HY.out)⟩, by rw [rstands_at HP.out]; exact hm2⟩
                · have b69 : (c != 69) = true := by simpa using e69
                  rw [b69] at v69
                  have HY : Hid (isNumc c = false) := Lib.hid (by rw [HNC.out, hdf]; simp [e43, e45, e46, e101, e69])
                  have HG := Lib.hid (HT.out k hxk hk HJ.out (HD.out HY.out))
                  clear HT HD HJ2 e43 e45 e46 e101 e69 hdg hdf b43 b45 b46 b101 b69
                  rcases Nat.lt_or_ge c.toNat 48 with gl | gl
                  · have g1 : ¬ (48 : Int) ≤ (c.toNat : Int) := by omega
                    clear gl hdg2
                    go_wp2_with fail
                    refine hm.mono ?_
                    rintro r w1 ⟨rfl, hb⟩
                    have B1 := Lib.hid hb
                    clear hb hm
                    go_wp2_with fail
                    refine (HN.out _ B1.out).mono ?_
                    rintro r w2 ⟨rfl, hb⟩
                    have B2 := Lib.hid (gcall B1.out hb)
                    clear hb
                    have HB2 := B2
                    clear HNC hat
                    obtain ⟨k9, hk9⟩ : ∃ k9, k = k9 := ⟨_, rfl⟩
                    rw [hk9] at HG HP hxk
                    have hk9s : k9 ≤ s.size := by omega
                    clear hk9
                    have hP2 := HP.out.below HB2.out
                    obtain ⟨p0, p1, p2, p3, pf⟩ := hP2.cells
                    have HP2 := Lib.hid hP2
                    have hsE : (s.extract x k9).size ≤ 30000 := by rw [ByteArray.size_extract]; omega
                    have hown := rown_any (s.extract x k9) w2.drew hsE
                    unfold OwnEnd at hown
                    have hxk' : (x : Int) ≤ (k9 : Int) := by omega
                    have hks' : (k9 : Int) ≤ (s.size : Int) := by omega
                    have HBW := Lib.hid ((HB0.out.trans HB.out).trans (But.of HB2.out))
                    have hR2 := ((HB.out.trans (But.of HB2.out)).block R (by rw [HWs.out]; exact Nat.lt_succ_self _) (fun e => hbR e.symm)).trans HR.out
                    have HR2 := Lib.hid hR2
                    obtain ⟨q0, q1, q2, q3, qf⟩ := zeros_at hR2
                    cases hO : decide ((ownR (s.extract x k9).data.toList).2 = 0) with
                    | true =>
                      have hO := of_decide_eq_true hO
                      rw [hO] at hown
                      have HG2 : Hid (G = .ok (.mk 4 (ownR (s.extract x k9).data.toList).1 [] [], s.data.toList.drop k9, n)) := Lib.hid (by rw [HG.out, if_pos hO])
                      obtain ⟨Q, hQ⟩ : ∃ Q : ByteArray, (⟨(ownR (s.extract x k9).data.toList).1.toArray⟩ : ByteArray) = Q := ⟨_, rfl⟩
                      have HQ : Hid (bl (ownR (s.extract x k9).data.toList).1 = .string Q) := Lib.hid (by unfold bl; rw [hQ])
                      rw [HQ.out] at hown
                      generalize (ownR (s.extract x k9).data.toList).1 = OT at HG2 HQ
                      clear hO hQ HG hsE hR2 hP2
                      go_wp2_with fail
                      go_region_law (first | (go_simp; go_at_call 17; with_reducible (refine Calls.mono hown ?_); rintro e w3 ⟨rfl, hb3⟩; have HB3 := Lib.hid ((gcall ((Below.refl w2.heap.size w2).drew) hb3)); have hR3 := (HB3.out.block R (Array.getElem?_eq_some_iff.1 HR2.out).1).trans HR2.out; obtain ⟨r0, r1, r2, r3, rf⟩ := zeros_at hR3; have HR3 := Lib.hid hR3))
                      all_goals go_wp2
                      all_goals (
                        obtain ⟨z0, z1, z2, z3⟩ := four_set (p := .int .u8 4) (q := .string Q) (u := .slice none 0 0) (v := .slice none 0 0) HR3.out
                        have HV := rval_ok (W := W) (R := R) (x := x) (kd := 4) (tx := .string Q) (c := .slice none 0 0) (d := .slice none 0 0) (j := .mk 4 OT [] []) hxk hk9s rfl (by rw [← HQ.out]; exact jleaf _ _ 4 OT) (HP2.out.below HB3.out) (HBW.out.trans (But.of HB3.out)) hWR hbR
                        rw [HG2.out]
                        exact bodyPost_ret (v := .agg #[.int .u8 4, .string Q, .slice none 0 0, .slice none 0 0]) (by simp [results, Tryz.results109, go_sem, z0, z1, z2, z3]) rfl HV)
                    | false =>
                      have hO := of_decide_eq_false hO
                      have HG2 : Hid (G = .error (ownR (s.extract x k9).data.toList).2) := Lib.hid (by rw [HG.out, if_neg hO])
                      obtain ⟨Q, hQ⟩ : ∃ Q : ByteArray, (⟨(ownR (s.extract x k9).data.toList).1.toArray⟩ : ByteArray) = Q := ⟨_, rfl⟩
                      have HQ : Hid (bl (ownR (s.extract x k9).data.toList).1 = .string Q) := Lib.hid (by unfold bl; rw [hQ])
                      rw [HQ.out] at hown
                      generalize (ownR (s.extract x k9).data.toList).2 = OE at HG2 hown hO
                      have e1 : (OE == 0) = false := by simpa using hO
                      have e2 : (OE != 0) = true := by simpa using hO
                      have HO := Lib.hid hO
                      clear hO hQ HG hsE hR2 hP2
                      go_wp2_with fail
                      go_region_law (first | (go_simp; go_at_call 17; with_reducible (refine Calls.mono hown ?_); rintro e w3 ⟨rfl, hb3⟩; have HB3 := Lib.hid ((gcall ((Below.refl w2.heap.size w2).drew) hb3))))
                      all_goals go_wp2_with fail
                      all_goals (
                        refine (fail_any w3 b s k9 n 0 OE (HP2.out.below HB3.out)).mono ?_
                        rintro r w4 ⟨rfl, hP4, hb4⟩
                        rw [if_pos rfl] at hP4
                        have HP4 := Lib.hid hP4
                        have HB4 := Lib.hid ((HBW.out.trans (But.of HB3.out)).trans hb4)
                        have hR4 := (hb4.block R (by have := HB3.out.size; have := (Array.getElem?_eq_some_iff.1 HR2.out).1; omega) (fun e => hbR e.symm)).trans ((HB3.out.block R (Array.getElem?_eq_some_iff.1 HR2.out).1).trans HR2.out)
                        obtain ⟨r0, r1, r2, r3, rf⟩ := zeros_at hR4
                        have HR4 := Lib.hid hR4
                        clear hP4 hb4 hR4
                        go_wp2
                        obtain ⟨z0, z1, z2, z3⟩ := four_set (p := .int .u8 4) (q := .string Q) (u := .slice none 0 0) (v := .slice none 0 0) HR4.out
                        have HV := rval_bad (W := W) (R := R) (x := x) (kd := 4) (tx := Q) (pc := none) (nc := 0) (cc := 0) (pd := none) (nd := 0) (cd := 0) HO.out HP4.out HB4.out hWR hbR
                        rw [HG2.out]
                        exact bodyPost_ret (v := .agg #[.int .u8 4, .string Q, .slice none 0 0, .slice none 0 0]) (by simp [results, Tryz.results109, go_sem, z0, z1, z2, z3]) rfl HV)
                  · have g1 : (48 : Int) ≤ (c.toNat : Int) := by omega
                    have g2 : decide ((c.toNat : Int) ≤ 57) = false := decide_eq_false (by omega)
                    clear gl hdg2
                    go_wp2_with fail
                    refine hm.mono ?_
                    rintro r w1 ⟨rfl, hb⟩
                    have B1 := Lib.hid hb
                    clear hb hm
                    go_wp2_with fail
                    refine (HN.out _ B1.out).mono ?_
                    rintro r w2 ⟨rfl, hb⟩
                    have B2 := Lib.hid (gcall B1.out hb)
                    clear hb
                    have HB2 := B2
                    clear HNC hat
                    obtain ⟨k9, hk9⟩ : ∃ k9, k = k9 := ⟨_, rfl⟩
                    rw [hk9] at HG HP hxk
                    have hk9s : k9 ≤ s.size := by omega
                    clear hk9
                    have hP2 := HP.out.below HB2.out
                    obtain ⟨p0, p1, p2, p3, pf⟩ := hP2.cells
                    have HP2 := Lib.hid hP2
                    have hsE : (s.extract x k9).size ≤ 30000 := by rw [ByteArray.size_extract]; omega
                    have hown := rown_any (s.extract x k9) w2.drew hsE
                    unfold OwnEnd at hown
                    have hxk' : (x : Int) ≤ (k9 : Int) := by omega
                    have hks' : (k9 : Int) ≤ (s.size : Int) := by omega
                    have HBW := Lib.hid ((HB0.out.trans HB.out).trans (But.of HB2.out))
                    have hR2 := ((HB.out.trans (But.of HB2.out)).block R (by rw [HWs.out]; exact Nat.lt_succ_self _) (fun e => hbR e.symm)).trans HR.out
                    have HR2 := Lib.hid hR2
                    obtain ⟨q0, q1, q2, q3, qf⟩ := zeros_at hR2
                    cases hO : decide ((ownR (s.extract x k9).data.toList).2 = 0) with
                    | true =>
                      have hO := of_decide_eq_true hO
                      rw [hO] at hown
                      have HG2 : Hid (G = .ok (.mk 4 (ownR (s.extract x k9).data.toList).1 [] [], s.data.toList.drop k9, n)) := Lib.hid (by rw [HG.out, if_pos hO])
                      obtain ⟨Q, hQ⟩ : ∃ Q : ByteArray, (⟨(ownR (s.extract x k9).data.toList).1.toArray⟩ : ByteArray) = Q := ⟨_, rfl⟩
                      have HQ : Hid (bl (ownR (s.extract x k9).data.toList).1 = .string Q) := Lib.hid (by unfold bl; rw [hQ])
                      rw [HQ.out] at hown
                      generalize (ownR (s.extract x k9).data.toList).1 = OT at HG2 HQ
                      clear hO hQ HG hsE hR2 hP2
                      go_wp2_with fail
                      go_region_law (first | (go_simp; go_at_call 17; with_reducible (refine Calls.mono hown ?_); rintro e w3 ⟨rfl, hb3⟩; have HB3 := Lib.hid ((gcall ((Below.refl w2.heap.size w2).drew) hb3)); have hR3 := (HB3.out.block R (Array.getElem?_eq_some_iff.1 HR2.out).1).trans HR2.out; obtain ⟨r0, r1, r2, r3, rf⟩ := zeros_at hR3; have HR3 := Lib.hid hR3))
                      all_goals go_wp2
                      all_goals (
                        obtain ⟨z0, z1, z2, z3⟩ := four_set (p := .int .u8 4) (q := .string Q) (u := .slice none 0 0) (v := .slice none 0 0) HR3.out
                        have HV := rval_ok (W := W) (R := R) (x := x) (kd := 4) (tx := .string Q) (c := .slice none 0 0) (d := .slice none 0 0) (j := .mk 4 OT [] []) hxk hk9s rfl (by rw [← HQ.out]; exact jleaf _ _ 4 OT) (HP2.out.below HB3.out) (HBW.out.trans (But.of HB3.out)) hWR hbR
                        rw [HG2.out]
                        exact bodyPost_ret (v := .agg #[.int .u8 4, .string Q, .slice none 0 0, .slice none 0 0]) (by simp [results, Tryz.results109, go_sem, z0, z1, z2, z3]) rfl HV)
                    | false =>
                      have hO := of_decide_eq_false hO
                      have HG2 : Hid (G = .error (ownR (s.extract x k9).data.toList).2) := Lib.hid (by rw [HG.out, if_neg hO])
                      obtain ⟨Q, hQ⟩ : ∃ Q : ByteArray, (⟨(ownR (s.extract x k9).data.toList).1.toArray⟩ : ByteArray) = Q := ⟨_, rfl⟩
                      have HQ : Hid (bl (ownR (s.extract x k9).data.toList).1 = .string Q) := Lib.hid (by unfold bl; rw [hQ])
                      rw [HQ.out] at hown
                      generalize (ownR (s.extract x k9).data.toList).2 = OE at HG2 hown hO
                      have e1 : (OE == 0) = false := by simpa using hO
                      have e2 : (OE != 0) = true := by simpa using hO
                      have HO := Lib.hid hO
                      clear hO hQ HG hsE hR2 hP2
                      go_wp2_with fail
                      go_region_law (first | (go_simp; go_at_call 17; with_reducible (refine Calls.mono hown ?_); rintro e w3 ⟨rfl, hb3⟩; have HB3 := Lib.hid ((gcall ((Below.refl w2.heap.size w2).drew) hb3))))
                      all_goals go_wp2_with fail
                      all_goals (
                        refine (fail_any w3 b s k9 n 0 OE (HP2.out.below HB3.out)).mono ?_
                        rintro r w4 ⟨rfl, hP4, hb4⟩
                        rw [if_pos rfl] at hP4
                        have HP4 := Lib.hid hP4
                        have HB4 := Lib.hid ((HBW.out.trans (But.of HB3.out)).trans hb4)
                        have hR4 := (hb4.block R (by have := HB3.out.size; have := (Array.getElem?_eq_some_iff.1 HR2.out).1; omega) (fun e => hbR e.symm)).trans ((HB3.out.block R (Array.getElem?_eq_some_iff.1 HR2.out).1).trans HR2.out)
                        obtain ⟨r0, r1, r2, r3, rf⟩ := zeros_at hR4
                        have HR4 := Lib.hid hR4
                        clear hP4 hb4 hR4
                        go_wp2
                        obtain ⟨z0, z1, z2, z3⟩ := four_set (p := .int .u8 4) (q := .string Q) (u := .slice none 0 0) (v := .slice none 0 0) HR4.out
                        have HV := rval_bad (W := W) (R := R) (x := x) (kd := 4) (tx := Q) (pc := none) (nc := 0) (cc := 0) (pd := none) (nd := 0) (cd := 0) HO.out HP4.out HB4.out hWR hbR
                        rw [HG2.out]
                        exact bodyPost_ret (v := .agg #[.int .u8 4, .string Q, .slice none 0 0, .slice none 0 0]) (by simp [results, Tryz.results109, go_sem, z0, z1, z2, z3]) rfl HV)
    · obtain rfl : k = s.size := by omega
      have hm := more_any wr b s s.size n 0 HP.out
      rw [show ((0 : Int) == 0 && decide (s.size < s.size)) = false by simp] at hm
      have HG := Lib.hid (HT.out s.size hxk (Nat.le_refl _) HJ.out (fun c hc => by rw [List.getElem?_eq_none (by rw [List.length_drop, ← Lib.size_eq]; omega)] at hc; cases hc))
      clear HT
      go_wp2_with fail
      refine hm.mono ?_
      rintro r w2 ⟨rfl, hb⟩
      have HB2 := Lib.hid hb
      clear hb hm
      obtain ⟨k9, hk9⟩ : ∃ k9, s.size = k9 := ⟨_, rfl⟩
      rw [hk9] at HG HP hxk
      have hk9s : k9 ≤ s.size := by omega
      clear hk9
      have hP2 := HP.out.below HB2.out
      obtain ⟨p0, p1, p2, p3, pf⟩ := hP2.cells
      have HP2 := Lib.hid hP2
      have hsE : (s.extract x k9).size ≤ 30000 := by rw [ByteArray.size_extract]; omega
      have hown := rown_any (s.extract x k9) w2.drew hsE
      unfold OwnEnd at hown
      have hxk' : (x : Int) ≤ (k9 : Int) := by omega
      have hks' : (k9 : Int) ≤ (s.size : Int) := by omega
      have HBW := Lib.hid ((HB0.out.trans HB.out).trans (But.of HB2.out))
      have hR2 := ((HB.out.trans (But.of HB2.out)).block R (by rw [HWs.out]; exact Nat.lt_succ_self _) (fun e => hbR e.symm)).trans HR.out
      have HR2 := Lib.hid hR2
      obtain ⟨q0, q1, q2, q3, qf⟩ := zeros_at hR2
      cases hO : decide ((ownR (s.extract x k9).data.toList).2 = 0) with
      | true =>
        have hO := of_decide_eq_true hO
        rw [hO] at hown
        have HG2 : Hid (G = .ok (.mk 4 (ownR (s.extract x k9).data.toList).1 [] [], s.data.toList.drop k9, n)) := Lib.hid (by rw [HG.out, if_pos hO])
        obtain ⟨Q, hQ⟩ : ∃ Q : ByteArray, (⟨(ownR (s.extract x k9).data.toList).1.toArray⟩ : ByteArray) = Q := ⟨_, rfl⟩
        have HQ : Hid (bl (ownR (s.extract x k9).data.toList).1 = .string Q) := Lib.hid (by unfold bl; rw [hQ])
        rw [HQ.out] at hown
        generalize (ownR (s.extract x k9).data.toList).1 = OT at HG2 HQ
        clear hO hQ HG hsE hR2 hP2
        go_wp2_with fail
        go_region_law (first | (go_simp; go_at_call 17; with_reducible (refine Calls.mono hown ?_); rintro e w3 ⟨rfl, hb3⟩; have HB3 := Lib.hid ((gcall ((Below.refl w2.heap.size w2).drew) hb3)); have hR3 := (HB3.out.block R (Array.getElem?_eq_some_iff.1 HR2.out).1).trans HR2.out; obtain ⟨r0, r1, r2, r3, rf⟩ := zeros_at hR3; have HR3 := Lib.hid hR3))
        all_goals go_wp2
        all_goals (
          obtain ⟨z0, z1, z2, z3⟩ := four_set (p := .int .u8 4) (q := .string Q) (u := .slice none 0 0) (v := .slice none 0 0) HR3.out
          have HV := rval_ok (W := W) (R := R) (x := x) (kd := 4) (tx := .string Q) (c := .slice none 0 0) (d := .slice none 0 0) (j := .mk 4 OT [] []) hxk hk9s rfl (by rw [← HQ.out]; exact jleaf _ _ 4 OT) (HP2.out.below HB3.out) (HBW.out.trans (But.of HB3.out)) hWR hbR
          rw [HG2.out]
          exact bodyPost_ret (v := .agg #[.int .u8 4, .string Q, .slice none 0 0, .slice none 0 0]) (by simp [results, Tryz.results109, go_sem, z0, z1, z2, z3]) rfl HV)
      | false =>
        have hO := of_decide_eq_false hO
        have HG2 : Hid (G = .error (ownR (s.extract x k9).data.toList).2) := Lib.hid (by rw [HG.out, if_neg hO])
        obtain ⟨Q, hQ⟩ : ∃ Q : ByteArray, (⟨(ownR (s.extract x k9).data.toList).1.toArray⟩ : ByteArray) = Q := ⟨_, rfl⟩
        have HQ : Hid (bl (ownR (s.extract x k9).data.toList).1 = .string Q) := Lib.hid (by unfold bl; rw [hQ])
        rw [HQ.out] at hown
        generalize (ownR (s.extract x k9).data.toList).2 = OE at HG2 hown hO
        have e1 : (OE == 0) = false := by simpa using hO
        have e2 : (OE != 0) = true := by simpa using hO
        have HO := Lib.hid hO
        clear hO hQ HG hsE hR2 hP2
        go_wp2_with fail
        go_region_law (first | (go_simp; go_at_call 17; with_reducible (refine Calls.mono hown ?_); rintro e w3 ⟨rfl, hb3⟩; have HB3 := Lib.hid ((gcall ((Below.refl w2.heap.size w2).drew) hb3))))
        all_goals go_wp2_with fail
        all_goals (
          refine (fail_any w3 b s k9 n 0 OE (HP2.out.below HB3.out)).mono ?_
          rintro r w4 ⟨rfl, hP4, hb4⟩
          rw [if_pos rfl] at hP4
          have HP4 := Lib.hid hP4
          have HB4 := Lib.hid ((HBW.out.trans (But.of HB3.out)).trans hb4)
          have hR4 := (hb4.block R (by have := HB3.out.size; have := (Array.getElem?_eq_some_iff.1 HR2.out).1; omega) (fun e => hbR e.symm)).trans ((HB3.out.block R (Array.getElem?_eq_some_iff.1 HR2.out).1).trans HR2.out)
          obtain ⟨r0, r1, r2, r3, rf⟩ := zeros_at hR4
          have HR4 := Lib.hid hR4
          clear hP4 hb4 hR4
          go_wp2
          obtain ⟨z0, z1, z2, z3⟩ := four_set (p := .int .u8 4) (q := .string Q) (u := .slice none 0 0) (v := .slice none 0 0) HR4.out
          have HV := rval_bad (W := W) (R := R) (x := x) (kd := 4) (tx := Q) (pc := none) (nc := 0) (cc := 0) (pd := none) (nd := 0) (cd := 0) HO.out HP4.out HB4.out hWR hbR
          rw [HG2.out]
          exact bodyPost_ret (v := .agg #[.int .u8 4, .string Q, .slice none 0 0, .slice none 0 0]) (by simp [results, Tryz.results109, go_sem, z0, z1, z2, z3]) rfl HV)
end Go.Proofs.YtgcpgieojckheaaGreatDoor.Json
