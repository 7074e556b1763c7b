/-
  The reference's unit.
-/
import Derived.Test.YtgcpgieojckheaaGreatDoorMgJB
import Derived.Test.YtgcpgieojckheaaGreatDoorMgJU
namespace Go.Proofs.YtgcpgieojckheaaGreatDoor.Json
open Go.RowKit Go.Shelf

theorem hexF_snoc : ∀ (l : List UInt8) (n : Nat) (c : UInt8) (m d : Nat), hexF n l = some m → hexV c = some d → hexF n (l ++ [c]) = some (m * 16 + d)
  | [], n, c, m, d, h, hc => by rw [hexF] at h; cases h; simp [hexF, hc]
  | a :: l, n, c, m, d, h, hc => by
    rw [hexF] at h
    rw [List.cons_append, hexF]
    cases ha : hexV a with
    | none => rw [ha] at h; cases h
    | some k => rw [ha] at h; exact hexF_snoc l _ c m d h hc
theorem hexF_bad : ∀ (l : List UInt8) (n : Nat) (c : UInt8) (r : List UInt8), hexV c = none → hexF n (l ++ c :: r) = none
  | [], n, c, r, hc => by simp [hexF, hc]
  | a :: l, n, c, r, hc => by
    rw [List.cons_append, hexF]
    cases hexV a with
    | none => rfl
    | some k => exact hexF_bad l _ c r hc
/-- What four digits end in. -/
def RUnit (W : World) (b : Nat) (s : ByteArray) (x n : Nat) : Option (Nat × List UInt8) → Ending → World → Prop
  | some (a, r), e, w' => e = .returned (.int .i64 a) ∧ x + 4 ≤ s.size ∧ r = s.data.toList.drop (x + 4) ∧ RAt w' b s (x + 4) n 0 ∧ But b W w'
  | none, e, w' => ∃ k, e = .returned (.int .i64 0) ∧ RAt w' b s k n 4 ∧ But b W w'
set_option maxRecDepth 100000 in
set_option maxHeartbeats 8000000 in
theorem runit_any (W : World) (b : Nat) (s : ByteArray) (x n : Nat) (h : RAt W b s x n 0) (hx : x ≤ s.size) (hz : s.size ≤ 1000000) :
    Calls Tryz.prog 190 #[.pointer (some ⟨b, 0, none⟩)] W (RUnit W b s x n (unit4 (s.data.toList.drop x))) := by
  obtain ⟨V, hV⟩ : ∃ V, unit4 (s.data.toList.drop x) = V := ⟨_, rfl⟩
  rw [hV]
  have HV := Lib.hid hV
  have H := Lib.hid h
  clear h hV
  go_enter Tryz.func190, Tryz.ntmps190
  go_wp2_with fail
  go_loopw [3, 4] (fun nv iv wr => ∃ (i a : Nat), i ≤ 4 ∧ iv = .int .i64 i ∧ nv = .int .i64 a ∧ x + i ≤ s.size ∧ a < 16 ^ i ∧ Hid (RAt wr b s (x + i) n 0) ∧ Hid (But b W wr) ∧ Hid (hexF 0 ((s.data.toList.drop x).take i) = some a)) (fun _ iv _ => 4 - (intOf iv).toNat)
  case atStart => exact ⟨0, 0, by omega, rfl, rfl, by omega, by decide, H, Lib.hid (But.refl _ _), Lib.hid rfl⟩
  case round =>
    obtain ⟨i, a, hi, rfl, rfl, hxi, ha, HP, HB, HF⟩ := hrel
    have ha4 : a < 65536 := Nat.lt_of_lt_of_le ha (by
      have : 16 ^ i ≤ 16 ^ 4 := Nat.pow_le_pow_right (by omega) hi
      exact this)
    rcases Nat.lt_or_ge i 4 with hlt | hge
    · have hlt' : (i : Int) < 4 := by omega
      have hwi : IntKind.i64.wrap ((i : Int) + 1) = ((i + 1 : Nat) : Int) := by rw [IntWalk.i64_in _ (by omega)]; omega
      rcases Nat.lt_or_ge (x + i) s.size with hin | hend
      · have hm := more_any wr b s (x + i) n 0 HP.out
        have hn := rnext_in wr b s (x + i) n HP.out hin
        have hat : s.data.toList[x + i]? = some (s[x + i]'hin) := get_list hin
        have htk : (s.data.toList.drop x).take (i + 1) = (s.data.toList.drop x).take i ++ [s[x + i]'hin] := by
          rw [List.take_add_one, List.getElem?_drop, hat]; rfl
        have HTK := Lib.hid htk
        generalize s[x + i]'hin = c at hn HTK
        clear hat htk
        rw [show ((0 : Int) == 0 && decide (x + i < s.size)) = true by simp [hin]] at hm
        have HOK : Hid (∀ (d : Nat) (wz : World), hexV c = some d → RAt wz b s (x + i) n 0 → But b W wz → (∃ (i2 a2 : Nat), i2 ≤ 4 ∧ (Value.int .i64 ((i + 1 : Nat) : Int)) = .int .i64 i2 ∧ (Value.int .i64 ((a * 16 + d : Nat) : Int)) = .int .i64 a2 ∧ x + i2 ≤ s.size ∧ a2 < 16 ^ i2 ∧ Hid (RAt (wz.setCell ⟨b, 1, none⟩ (.int .i64 ((x + i + 1 : Nat) : Int))) b s (x + i2) n 0) ∧ Hid (But b W (wz.setCell ⟨b, 1, none⟩ (.int .i64 ((x + i + 1 : Nat) : Int)))) ∧ Hid (hexF 0 ((s.data.toList.drop x).take i2) = some a2))) := Lib.hid (fun d wz hd h1 h2 => by
          have hd16 := hexV_le c d hd
          refine ⟨i + 1, a * 16 + d, by omega, rfl, rfl, by omega, ?_, Lib.hid (h1.set1 (x + i + 1)), Lib.hid (h2.trans (But.set _ _ _ _)), Lib.hid ?_⟩
          · rw [Nat.pow_succ]; omega
          · rw [HTK.out]; exact hexF_snoc _ _ _ _ _ HF.out hd)
        have HBAD : Hid (hexV c = none → V = none) := Lib.hid (fun hc => by
          rw [← HV.out, unit4_hex]
          split
          · have : (s.data.toList.drop x).take 4 = (s.data.toList.drop x).take i ++ c :: ((s.data.toList.drop x).drop (i + 1)).take (4 - (i + 1)) := by
              have e1 : (s.data.toList.drop x).take 4 = (s.data.toList.drop x).take (i + 1) ++ ((s.data.toList.drop x).drop (i + 1)).take (4 - (i + 1)) := by
                rw [← List.take_add]; congr 1; omega
              rw [e1, HTK.out, List.append_assoc]; rfl
            rw [this, hexF_bad _ _ _ _ hc]; rfl
          · rfl)
        have hwa : IntKind.i64.wrap ((a : Int) * 16) = ((a * 16 : Nat) : Int) := by rw [IntWalk.i64_in _ (by omega)]; omega
        have hwx : IntKind.i64.wrap (((x + i : Nat) : Int) + 1) = ((x + i + 1 : Nat) : Int) := by rw [IntWalk.i64_in _ (by omega)]; omega
        have hc8 : c.toNat < 256 := c.toNat_lt
        have hwc : IntKind.i64.wrap (c.toNat : Int) = (c.toNat : Int) := by rw [IntWalk.i64_in _ (by omega)]
        clear HF HV HTK
        obtain ⟨X1, hX1⟩ : ∃ X1, x + i + 1 = X1 := ⟨_, rfl⟩
        obtain ⟨A1, hA1⟩ : ∃ A1, a * 16 = A1 := ⟨_, rfl⟩
        obtain ⟨I1, hI1⟩ : ∃ I1, i + 1 = I1 := ⟨_, rfl⟩
        obtain ⟨XI, hXI⟩ : ∃ XI, x + i = XI := ⟨_, rfl⟩
        rw [hX1, hA1, hI1, hXI] at HOK
        rw [hXI] at hwx HP hin hX1 hxi
        rw [hX1] at hwx
        rw [hA1] at hwa
        rw [hI1] at hwi
        have HX1 := Lib.hid hX1
        have HA1 := Lib.hid hA1
        have HI1 := Lib.hid hI1
        have HXI := Lib.hid hXI
        clear hX1 hA1 hI1 hXI
        rcases (by omega : (48 ≤ c.toNat ∧ c.toNat ≤ 57) ∨ (97 ≤ c.toNat ∧ c.toNat ≤ 102) ∨ (65 ≤ c.toNat ∧ c.toNat ≤ 70) ∨ (0 ≤ c.toNat ∧ c.toNat ≤ 47) ∨ (58 ≤ c.toNat ∧ c.toNat ≤ 64) ∨ (71 ≤ c.toNat ∧ c.toNat ≤ 96) ∨ (103 ≤ c.toNat ∧ c.toNat ≤ 255)) with ⟨g1, g2⟩ | ⟨g1, g2⟩ | ⟨g1, g2⟩ | ⟨g1, g2⟩ | ⟨g1, g2⟩ | ⟨g1, g2⟩ | ⟨g1, g2⟩
        · obtain ⟨d, hd⟩ : ∃ d, c.toNat - 48 = d := ⟨_, rfl⟩
          have HH : Hid (hexV c = some d) := Lib.hid (by unfold hexV; rw [if_pos ⟨g1, g2⟩, hd])
          have hw1 : IntKind.i64.wrap ((c.toNat : Int) - 48) = (d : Int) := by rw [IntWalk.i64_in _ (by omega)]; omega
          obtain ⟨A2, hA2⟩ : ∃ A2, A1 + d = A2 := ⟨_, rfl⟩
          have hw3 : IntKind.i64.wrap ((A1 : Int) + (d : Int)) = (A2 : Int) := by have := HA1.out; rw [IntWalk.i64_in _ (by omega)]; omega
          have HA2 := Lib.hid hA2
          have hd9 : ¬ (d : Int) < 0 := by omega
          clear hd hA2
          have p1 : (48 : Int) ≤ (c.toNat : Int) := by omega
          have p2 : (c.toNat : Int) ≤ 57 := by omega
          have q1 : ¬ (97 : Int) ≤ (c.toNat : Int) := by omega
          have r1 : ¬ (65 : Int) ≤ (c.toNat : Int) := by omega
          clear g1 g2
          go_wp2_with fail
          refine hn.mono ?_
          rintro r w1 ⟨rfl, hb1⟩
          have HB1 := Lib.hid hb1
          clear hb1 hn
          have hm2 := more_any w1 b s XI n 0 (HP.out.below HB1.out)
          rw [show ((0 : Int) == 0 && decide (XI < s.size)) = true by simp [hin]] at hm2
          clear hm
          go_wp2_with fail
          refine hm2.mono ?_
          rintro r w2 ⟨rfl, hb2⟩
          have HB2 := Lib.hid (gcall HB1.out hb2)
          clear hb2 hm2
          obtain ⟨k0, k1, k2, k3, kf⟩ := (HP.out.below HB2.out).cells
          go_wp2
          have hz2 := HOK.out d w2 HH.out (HP.out.below HB2.out) (HB.out.trans (But.of HB2.out))
          rw [HA2.out] at hz2
          exact ⟨hz2, by have := HI1.out; simp [intOf]; omega⟩
        · obtain ⟨d, hd⟩ : ∃ d, c.toNat - 87 = d := ⟨_, rfl⟩
          have HH : Hid (hexV c = some d) := Lib.hid (by unfold hexV; rw [if_neg (by omega), if_pos ⟨g1, g2⟩, hd])
          obtain ⟨d0, hd0⟩ : ∃ d0, c.toNat - 97 = d0 := ⟨_, rfl⟩
          have hw1 : IntKind.i64.wrap ((c.toNat : Int) - 97) = (d0 : Int) := by rw [IntWalk.i64_in _ (by omega)]; omega
          have hw2 : IntKind.i64.wrap ((d0 : Int) + 10) = (d : Int) := by rw [IntWalk.i64_in _ (by omega)]; omega
          clear hd0
          obtain ⟨A2, hA2⟩ : ∃ A2, A1 + d = A2 := ⟨_, rfl⟩
          have hw3 : IntKind.i64.wrap ((A1 : Int) + (d : Int)) = (A2 : Int) := by have := HA1.out; rw [IntWalk.i64_in _ (by omega)]; omega
          have HA2 := Lib.hid hA2
          have hd9 : ¬ (d : Int) < 0 := by omega
          clear hd hA2
          have p1 : (48 : Int) ≤ (c.toNat : Int) := by omega
          have p2 : ¬ (c.toNat : Int) ≤ 57 := by omega
          have q1 : (97 : Int) ≤ (c.toNat : Int) := by omega
          have q2 : (c.toNat : Int) ≤ 102 := by omega
          have r1 : (65 : Int) ≤ (c.toNat : Int) := by omega
          have r2 : ¬ (c.toNat : Int) ≤ 70 := by omega
          clear g1 g2
          go_wp2_with fail
          refine hn.mono ?_
          rintro r w1 ⟨rfl, hb1⟩
          have HB1 := Lib.hid hb1
          clear hb1 hn
          have hm2 := more_any w1 b s XI n 0 (HP.out.below HB1.out)
          rw [show ((0 : Int) == 0 && decide (XI < s.size)) = true by simp [hin]] at hm2
          clear hm
          go_wp2_with fail
          refine hm2.mono ?_
          rintro r w2 ⟨rfl, hb2⟩
          have HB2 := Lib.hid (gcall HB1.out hb2)
          clear hb2 hm2
          obtain ⟨k0, k1, k2, k3, kf⟩ := (HP.out.below HB2.out).cells
          go_wp2
          have hz2 := HOK.out d w2 HH.out (HP.out.below HB2.out) (HB.out.trans (But.of HB2.out))
          rw [HA2.out] at hz2
          exact ⟨hz2, by have := HI1.out; simp [intOf]; omega⟩
        · obtain ⟨d, hd⟩ : ∃ d, c.toNat - 55 = d := ⟨_, rfl⟩
          have HH : Hid (hexV c = some d) := Lib.hid (by unfold hexV; rw [if_neg (by omega), if_neg (by omega), if_pos ⟨g1, g2⟩, hd])
          obtain ⟨d0, hd0⟩ : ∃ d0, c.toNat - 65 = d0 := ⟨_, rfl⟩
          have hw1 : IntKind.i64.wrap ((c.toNat : Int) - 65) = (d0 : Int) := by rw [IntWalk.i64_in _ (by omega)]; omega
          have hw2 : IntKind.i64.wrap ((d0 : Int) + 10) = (d : Int) := by rw [IntWalk.i64_in _ (by omega)]; omega
          clear hd0
          obtain ⟨A2, hA2⟩ : ∃ A2, A1 + d = A2 := ⟨_, rfl⟩
          have hw3 : IntKind.i64.wrap ((A1 : Int) + (d : Int)) = (A2 : Int) := by have := HA1.out; rw [IntWalk.i64_in _ (by omega)]; omega
          have HA2 := Lib.hid hA2
          have hd9 : ¬ (d : Int) < 0 := by omega
          clear hd hA2
          have p1 : (48 : Int) ≤ (c.toNat : Int) := by omega
          have p2 : ¬ (c.toNat : Int) ≤ 57 := by omega
          have q1 : ¬ (97 : Int) ≤ (c.toNat : Int) := by omega
          have r1 : (65 : Int) ≤ (c.toNat : Int) := by omega
          have r2 : (c.toNat : Int) ≤ 70 := by omega
          clear g1 g2
          go_wp2_with fail
          refine hn.mono ?_
          rintro r w1 ⟨rfl, hb1⟩
          have HB1 := Lib.hid hb1
          clear hb1 hn
          have hm2 := more_any w1 b s XI n 0 (HP.out.below HB1.out)
          rw [show ((0 : Int) == 0 && decide (XI < s.size)) = true by simp [hin]] at hm2
          clear hm
          go_wp2_with fail
          refine hm2.mono ?_
          rintro r w2 ⟨rfl, hb2⟩
          have HB2 := Lib.hid (gcall HB1.out hb2)
          clear hb2 hm2
          obtain ⟨k0, k1, k2, k3, kf⟩ := (HP.out.below HB2.out).cells
          go_wp2
          have hz2 := HOK.out d w2 HH.out (HP.out.below HB2.out) (HB.out.trans (But.of HB2.out))
          rw [HA2.out] at hz2
          exact ⟨hz2, by have := HI1.out; simp [intOf]; omega⟩
        · have HVN : Hid (V = none) := Lib.hid (HBAD.out (by unfold hexV; rw [if_neg (by omega), if_neg (by omega), if_neg (by omega)]))
          have p1 : ¬ (48 : Int) ≤ (c.toNat : Int) := by omega
          have q1 : ¬ (97 : Int) ≤ (c.toNat : Int) := by omega
          have r1 : ¬ (65 : Int) ≤ (c.toNat : Int) := by omega
          clear g1 g2
          go_wp2_with fail
          refine hn.mono ?_
          rintro r w1 ⟨rfl, hb1⟩
          have HB1 := Lib.hid hb1
          clear hb1 hn
          have hm2 := more_any w1 b s XI n 0 (HP.out.below HB1.out)
          rw [show ((0 : Int) == 0 && decide (XI < s.size)) = true by simp [hin]] at hm2
          clear hm
          go_wp2_with fail
          refine hm2.mono ?_
          rintro r w2 ⟨rfl, hb2⟩
          have HB2 := Lib.hid (gcall HB1.out hb2)
          clear hb2 hm2
          go_wp2_with fail
          refine (fail_any w2 b s XI n 0 4 (HP.out.below HB2.out)).mono ?_
          rintro r w3 ⟨rfl, hP3, hb3⟩
          rw [if_pos rfl] at hP3
          have HP3 := Lib.hid hP3
          have HB3 := Lib.hid ((HB.out.trans (But.of HB2.out)).trans hb3)
          clear hP3 hb3
          go_wp2
          go_ret
          rw [HVN.out]
          exact ⟨XI, rfl, HP3.out, HB3.out⟩
        · have HVN : Hid (V = none) := Lib.hid (HBAD.out (by unfold hexV; rw [if_neg (by omega), if_neg (by omega), if_neg (by omega)]))
          have p1 : (48 : Int) ≤ (c.toNat : Int) := by omega
          have p2 : ¬ (c.toNat : Int) ≤ 57 := by omega
          have q1 : ¬ (97 : Int) ≤ (c.toNat : Int) := by omega
          have r1 : ¬ (65 : Int) ≤ (c.toNat : Int) := by omega
          clear g1 g2
          go_wp2_with fail
          refine hn.mono ?_
          rintro r w1 ⟨rfl, hb1⟩
          have HB1 := Lib.hid hb1
          clear hb1 hn
          have hm2 := more_any w1 b s XI n 0 (HP.out.below HB1.out)
          rw [show ((0 : Int) == 0 && decide (XI < s.size)) = true by simp [hin]] at hm2
          clear hm
          go_wp2_with fail
          refine hm2.mono ?_
          rintro r w2 ⟨rfl, hb2⟩
          have HB2 := Lib.hid (gcall HB1.out hb2)
          clear hb2 hm2
          go_wp2_with fail
          refine (fail_any w2 b s XI n 0 4 (HP.out.below HB2.out)).mono ?_
          rintro r w3 ⟨rfl, hP3, hb3⟩
          rw [if_pos rfl] at hP3
          have HP3 := Lib.hid hP3
          have HB3 := Lib.hid ((HB.out.trans (But.of HB2.out)).trans hb3)
          clear hP3 hb3
          go_wp2
          go_ret
          rw [HVN.out]
          exact ⟨XI, rfl, HP3.out, HB3.out⟩
        · have HVN : Hid (V = none) := Lib.hid (HBAD.out (by unfold hexV; rw [if_neg (by omega), if_neg (by omega), if_neg (by omega)]))
          have p1 : (48 : Int) ≤ (c.toNat : Int) := by omega
          have p2 : ¬ (c.toNat : Int) ≤ 57 := by omega
          have q1 : ¬ (97 : Int) ≤ (c.toNat : Int) := by omega
          have r1 : (65 : Int) ≤ (c.toNat : Int) := by omega
          have r2 : ¬ (c.toNat : Int) ≤ 70 := by omega
          clear g1 g2
          go_wp2_with fail
          refine hn.mono ?_
          rintro r w1 ⟨rfl, hb1⟩
          have HB1 := Lib.hid hb1
          clear hb1 hn
          have hm2 := more_any w1 b s XI n 0 (HP.out.below HB1.out)
          rw [show ((0 : Int) == 0 && decide (XI < s.size)) = true by simp [hin]] at hm2
          clear hm
          go_wp2_with fail
          refine hm2.mono ?_
          rintro r w2 ⟨rfl, hb2⟩
          have HB2 := Lib.hid (gcall HB1.out hb2)
          clear hb2 hm2
          go_wp2_with fail
          refine (fail_any w2 b s XI n 0 4 (HP.out.below HB2.out)).mono ?_
          rintro r w3 ⟨rfl, hP3, hb3⟩
          rw [if_pos rfl] at hP3
          have HP3 := Lib.hid hP3
          have HB3 := Lib.hid ((HB.out.trans (But.of HB2.out)).trans hb3)
          clear hP3 hb3
          go_wp2
          go_ret
          rw [HVN.out]
          exact ⟨XI, rfl, HP3.out, HB3.out⟩
        · have HVN : Hid (V = none) := Lib.hid (HBAD.out (by unfold hexV; rw [if_neg (by omega), if_neg (by omega), if_neg (by omega)]))
          have p1 : (48 : Int) ≤ (c.toNat : Int) := by omega
          have p2 : ¬ (c.toNat : Int) ≤ 57 := by omega
          have q1 : (97 : Int) ≤ (c.toNat : Int) := by omega
          have q2 : ¬ (c.toNat : Int) ≤ 102 := by omega
          have r1 : (65 : Int) ≤ (c.toNat : Int) := by omega
          have r2 : ¬ (c.toNat : Int) ≤ 70 := by omega
          clear g1 g2
          go_wp2_with fail
          refine hn.mono ?_
          rintro r w1 ⟨rfl, hb1⟩
          have HB1 := Lib.hid hb1
          clear hb1 hn
          have hm2 := more_any w1 b s XI n 0 (HP.out.below HB1.out)
          rw [show ((0 : Int) == 0 && decide (XI < s.size)) = true by simp [hin]] at hm2
          clear hm
          go_wp2_with fail
          refine hm2.mono ?_
          rintro r w2 ⟨rfl, hb2⟩
          have HB2 := Lib.hid (gcall HB1.out hb2)
          clear hb2 hm2
          go_wp2_with fail
          refine (fail_any w2 b s XI n 0 4 (HP.out.below HB2.out)).mono ?_
          rintro r w3 ⟨rfl, hP3, hb3⟩
          rw [if_pos rfl] at hP3
          have HP3 := Lib.hid hP3
          have HB3 := Lib.hid ((HB.out.trans (But.of HB2.out)).trans hb3)
          clear hP3 hb3
          go_wp2
          go_ret
          rw [HVN.out]
          exact ⟨XI, rfl, HP3.out, HB3.out⟩
      · have hm := more_any wr b s (x + i) n 0 HP.out
        have hn := rnext_none wr b s (x + i) n 0 HP.out (by simp; omega)
        rw [show ((0 : Int) == 0 && decide (x + i < s.size)) = false by simp; omega] at hm
        have HVN : Hid (V = none) := Lib.hid (by
          rw [← HV.out, unit4_hex, if_neg]
          rw [List.length_drop, ← Lib.size_eq]; omega)
        clear HF HV
        have HM : Hid (∀ w, Below wr.heap.size wr w → Calls Tryz.prog 104 #[.pointer (some ⟨b, 0, none⟩)] w fun r w' => r = .returned (.bool false) ∧ Below w.heap.size w w') := Lib.hid (fun w hw => by
          have := more_any w b s (x + i) n 0 (HP.out.below hw)
          rwa [show ((0 : Int) == 0 && decide (x + i < s.size)) = false by simp; omega] at this)
        clear hm
        go_wp2_with fail
        refine hn.mono ?_
        rintro r w1 ⟨rfl, hb1⟩
        have HB1 := Lib.hid hb1
        clear hb1 hn
        go_wp2_with fail
        refine (HM.out w1 HB1.out).mono ?_
        rintro r w2 ⟨rfl, hb2⟩
        have HB2 := Lib.hid (gcall HB1.out hb2)
        clear hb2
        go_wp2_with fail
        refine (fail_any w2 b s (x + i) n 0 4 (HP.out.below HB2.out)).mono ?_
        rintro r w3 ⟨rfl, hP3, hb3⟩
        rw [if_pos rfl] at hP3
        have HP3 := Lib.hid hP3
        have HB3 := Lib.hid ((HB.out.trans (But.of HB2.out)).trans hb3)
        clear hP3 hb3
        go_wp2
        go_ret
        rw [HVN.out]
        exact ⟨x + i, rfl, HP3.out, HB3.out⟩
    · obtain rfl : i = 4 := by omega
      have hlt' : ¬ (((4 : Nat) : Int)) < 4 := by omega
      have HVS : Hid (V = some (a, s.data.toList.drop (x + 4))) := Lib.hid (by
        rw [← HV.out, unit4_hex, if_pos (by rw [List.length_drop, ← Lib.size_eq]; omega), HF.out, List.drop_drop]; rfl)
      clear HF HV
      go_wp2
      go_ret
      rw [HVS.out]
      exact ⟨rfl, hxi, rfl, HP.out, HB.out⟩
end Go.Proofs.YtgcpgieojckheaaGreatDoor.Json
