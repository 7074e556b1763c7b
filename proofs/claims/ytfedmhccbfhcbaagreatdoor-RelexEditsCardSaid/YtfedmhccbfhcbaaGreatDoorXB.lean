/-
  common.
-/
import Derived.Test.YtfedmhccbfhcbaaGreatDoorXA
import Derived.Deep.DeepCutAuto
namespace Go.Proofs.YtfedmhccbfhcbaaGreatDoor
open Go.RowKit

set_option maxRecDepth 100000 in
set_option maxHeartbeats 16000000 in
theorem common_any (va vb : Value) (a b : List Tok) (w : World) (ha : TokRow w va a) (hb : TokRow w vb b) (hla : a.length ≤ 10000000) (hlb : b.length ≤ 10000000) :
    Calls Tryz.prog 15 #[va, vb] w fun e w' => e = .returned (.tuple #[.int .i64 (aheadN a b), .int .i64 (behN a b)]) ∧ Below w.heap.size w w' := by
  obtain ⟨p1, k1, rfl⟩ := ha.shape
  obtain ⟨p2, k2, rfl⟩ := hb.shape
  have H1 := Lib.hid ha
  have H2 := Lib.hid hb
  clear ha hb
  obtain ⟨M, hM⟩ : ∃ M, min a.length b.length = M := ⟨_, rfl⟩
  have hmin : min (a.length : Int) (b.length : Int) = (M : Int) := by omega
  have HM := Lib.hid hM
  have hA := Lib.hid (aheadN_le a b)
  have hML : M ≤ 10000000 := by omega
  clear hM
  go_enter Tryz.func15, Tryz.ntmps15
  go_wp2_with fail
  clear hmin
  go_loopw [4] (fun m wi => ∃ j : Nat, m = .int .i64 j ∧ j ≤ aheadN a b ∧ Hid (Below w.heap.size w wi)) (fun m _ => aheadN a b - (intOf m).toNat)
  case atStart => exact ⟨0, rfl, Nat.zero_le _, Lib.hid (Below.refl _ _)⟩
  case round =>
  obtain ⟨j, rfl, hj, HBi⟩ := hrel
  obtain ⟨wo, hwo⟩ : ∃ x, x = wr := ⟨_, rfl⟩
  subst hwo
  by_cases hjM : j < M
  · have hjM' : (j : Int) < (M : Int) := by omega
    have hja : j < a.length := by have := HM.out; omega
    have hjb : j < b.length := by have := HM.out; omega
    have hja' : (j : Int) < (a.length : Int) := by omega
    have hjb' : (j : Int) < (b.length : Int) := by omega
    have hx := List.getElem?_eq_getElem hja
    have hy := List.getElem?_eq_getElem hjb
    generalize a[j] = x at hx
    generalize b[j] = y at hy
    have HR : Hid (j < aheadN a b ↔ x = y) := Lib.hid (by
      constructor
      · intro h
        have := aheadN_at a b j h
        rw [hx, hy] at this
        exact Option.some.inj this
      · intro h
        apply Nat.lt_of_not_le
        intro h2
        have hs := aheadN_stop a b (by omega) (by omega)
        rw [show aheadN a b = j by omega, hx, hy, h] at hs
        exact hs rfl)
    obtain ⟨g, o, c, he, hc, r0, r1⟩ := (H1.out.below HBi.out).at hx
    obtain ⟨g', o', c', he', hc', s0, s1⟩ := (H2.out.below HBi.out).at hy
    injection he with he _ hee
    subst he
    subst hee
    injection he' with he' _ hee'
    subst he'
    subst hee'
    have hn2 := fun W => eql_any x y W
    obtain ⟨kx, tx⟩ := x
    obtain ⟨ky, ty⟩ := y
    unfold tokA at hn2
    change wo.cell? ⟨g, o + j * 2, none⟩ = some (.int .u8 kx) at r0
    change wo.cell? ⟨g, o + j * 2 + 1, none⟩ = some (bl tx) at r1
    change wo.cell? ⟨g', o' + j * 2, none⟩ = some (.int .u8 ky) at s0
    change wo.cell? ⟨g', o' + j * 2 + 1, none⟩ = some (bl ty) at s1
    unfold bl at r1 s1 hn2
    dsimp only at hn2
    clear hx hy hc hc' hja hjb
    by_cases hq : j < aheadN a b
    · have hxy := HR.out.1 hq
      rw [decide_eq_true hxy] at hn2
      have u4 : IntKind.i64.wrap ((j : Int) + 1) = ((j + 1 : Nat) : Int) := by rw [IntWalk.i64_in _ (by omega)]; omega
      clear hxy
      go_wp2_with fail
      go_quiet (fail)
      have HB9 := Lib.hid (HBi.out.trans ((drewN_below wo nq).mono HBi.out.size))
      clear r0 r1 s0 s1 hn2
      generalize wo.drewN nq = w9 at *
      go_wp2_with fail
      go_roundw
      case rel => exact ⟨j + 1, rfl, by omega, HB9⟩
      case measure => simp [intOf]; omega
    have hxy := fun h => hq (HR.out.2 h)
    rw [decide_eq_false hxy] at hn2
    have HJ : Hid (aheadN a b = j) := Lib.hid (by omega)
    clear hxy hq
    go_wp2_with fail
    go_quiet (fail)
    have HBo := Lib.hid (HBi.out.trans ((drewN_below wo nq).mono HBi.out.size))
    clear r0 r1 s0 s1 hn2 HR hja' hjb' hjM hjM' hj
    generalize wo.drewN nq = w9 at *
    obtain rfl := HJ.out

    -- the second loop
    have hA' := hA.out
    have HMv := HM.out
    generalize hQ : behN a b = Q at *
    have HQ := Lib.hid hQ
    generalize hAA : aheadN a b = A at *
    have HA := Lib.hid hAA
    have e1 : IntKind.i64.wrap ((M : Int) - (A : Int)) = ((M - A : Nat) : Int) := by rw [IntWalk.i64_in _ (by omega)]; omega
    have HQl : Hid (Q ≤ M - A) := Lib.hid (by rw [← hQ]; unfold behN; rw [HMv, hAA]; exact Nat.min_le_left _ _)
    obtain ⟨D, hD⟩ : ∃ D, M - A = D := ⟨_, rfl⟩
    rw [hD] at e1 HQl
    have HD := Lib.hid hD
    have HMA : Hid (D ≤ a.length ∧ D ≤ b.length) := Lib.hid (by omega)
    clear hQ hAA hA' HMv hD
    go_wp2_with fail
    go_loopw [5] (fun m wi => ∃ j : Nat, m = .int .i64 j ∧ j ≤ Q ∧ Hid (Below w.heap.size w wi)) (fun m _ => Q - (intOf m).toNat)
    case atStart => exact ⟨0, rfl, Nat.zero_le _, HBo⟩
    case round =>
      obtain ⟨j, rfl, hj, HBj⟩ := hrel
      by_cases hjM : j < D
      · have hjM' : (j : Int) < (D : Int) := by omega
        have hMA := HMA.out
        have hj7 : j ≤ 10000000 := by omega
        have g1 : IntKind.i64.wrap ((a.length : Int) - 1) = ((a.length - 1 : Nat) : Int) := by rw [IntWalk.i64_in _ (by omega)]; omega
        have g2 : IntKind.i64.wrap (((a.length - 1 : Nat) : Int) - (j : Int)) = ((a.length - 1 - j : Nat) : Int) := by rw [IntWalk.i64_in _ (by omega)]; omega
        have g3 : IntKind.i64.wrap ((b.length : Int) - 1) = ((b.length - 1 : Nat) : Int) := by rw [IntWalk.i64_in _ (by omega)]; omega
        have g4 : IntKind.i64.wrap (((b.length - 1 : Nat) : Int) - (j : Int)) = ((b.length - 1 - j : Nat) : Int) := by rw [IntWalk.i64_in _ (by omega)]; omega
        have g5 : ((a.length - 1 - j : Nat) : Int) < (a.length : Int) := by omega
        have g6 : ((b.length - 1 - j : Nat) : Int) < (b.length : Int) := by omega
        have g7 : a.length - 1 - j < a.length := by omega
        have g8 : b.length - 1 - j < b.length := by omega
        have g9 : (0 : Int) ≤ ((a.length - 1 - j : Nat) : Int) := by omega
        have g10 : (0 : Int) ≤ ((b.length - 1 - j : Nat) : Int) := by omega
        have hx := List.getElem?_eq_getElem g7
        have hy := List.getElem?_eq_getElem g8
        have hrx : a.reverse[j]? = a[a.length - 1 - j]? := rev_at a j (by omega)
        have hry : b.reverse[j]? = b[b.length - 1 - j]? := rev_at b j (by omega)
        generalize a[a.length - 1 - j] = x at hx
        generalize b[b.length - 1 - j] = y at hy
        rw [hx] at hrx
        rw [hy] at hry
        have HR : Hid (j < Q ↔ x = y) := Lib.hid (by
          have hq := HQ.out
          unfold behN at hq
          rw [HA.out, HM.out, HD.out] at hq
          constructor
          · intro h
            have := aheadN_at a.reverse b.reverse j (by omega)
            rw [hrx, hry] at this
            exact Option.some.inj this
          · intro h
            apply Nat.lt_of_not_le
            intro h2
            have hs := aheadN_stop a.reverse b.reverse (by rw [List.length_reverse]; omega) (by rw [List.length_reverse]; omega)
            rw [show aheadN a.reverse b.reverse = j by omega, hrx, hry, h] at hs
            exact hs rfl)
        obtain ⟨g, o, c, he, hc, r0, r1⟩ := (H1.out.below HBj.out).at hx
        obtain ⟨g', o', c', he', hc', s0, s1⟩ := (H2.out.below HBj.out).at hy
        cases he
        cases he'
        have hn2 := fun W => eql_any x y W
        obtain ⟨kx, tx⟩ := x
        obtain ⟨ky, ty⟩ := y
        unfold tokA at hn2
        change wr.cell? ⟨g, o + (a.length - 1 - j) * 2, none⟩ = some (.int .u8 kx) at r0
        change wr.cell? ⟨g, o + (a.length - 1 - j) * 2 + 1, none⟩ = some (bl tx) at r1
        change wr.cell? ⟨g', o' + (b.length - 1 - j) * 2, none⟩ = some (.int .u8 ky) at s0
        change wr.cell? ⟨g', o' + (b.length - 1 - j) * 2 + 1, none⟩ = some (bl ty) at s1
        clear hx hy hrx hry hMA hc hc' g7 g8
        unfold bl at r1 s1 hn2
        dsimp only at hn2
        have hja : ((a.length - 1 - j : Nat) : Int) < (a.length : Int) := g5
        generalize a.length - 1 - j = ia at *
        generalize b.length - 1 - j = ib at *
        generalize hal1 : a.length - 1 = al1 at *
        generalize hbl1 : b.length - 1 = bl1 at *
        clear hal1 hbl1
        by_cases hq : j < Q
        · have hxy := HR.out.1 hq
          rw [decide_eq_true hxy] at hn2
          have u4 : IntKind.i64.wrap ((j : Int) + 1) = ((j + 1 : Nat) : Int) := by rw [IntWalk.i64_in _ (by omega)]; omega
          clear hxy
          go_wp2_with fail
          go_quiet (fail)
          have HB9 := Lib.hid (HBj.out.trans ((drewN_below wr nq).mono HBj.out.size))
          clear r0 r1 s0 s1 hn2
          generalize wr.drewN nq = w9 at *
          go_wp2_with fail
          go_roundw
          case rel => exact ⟨j + 1, rfl, by omega, HB9⟩
          case measure => simp [intOf]; omega
        · have hxy := fun h => hq (HR.out.2 h)
          rw [decide_eq_false hxy] at hn2
          have HJ : Hid (j = Q) := Lib.hid (by omega)
          clear hxy
          go_wp2_with fail
          go_quiet (fail)
          have HB9 := Lib.hid (HBj.out.trans ((drewN_below wr nq).mono HBj.out.size))
          clear r0 r1 s0 s1 hn2
          generalize wr.drewN nq = w9 at *
          go_wp2_with fail
          go_ret2
          exact ⟨by rw [HA.out, HQ.out, HJ.out]; rfl, HB9.out⟩
      · have hjM' : decide ((j : Int) < (D : Int)) = false := by rw [decide_eq_false]; omega
        have HJ : Hid (j = Q) := Lib.hid (by have := HQl.out; omega)
        go_wp2_with fail
        go_quiet (fail)
        have HB9 := Lib.hid (HBj.out.trans ((drewN_below wr nq).mono HBj.out.size))
        generalize wr.drewN nq = w9 at *
        go_wp2_with fail
        go_ret2
        exact ⟨by rw [HA.out, HQ.out, HJ.out]; rfl, HB9.out⟩

  · have hjM' : decide ((j : Int) < (M : Int)) = false := by rw [decide_eq_false]; omega
    have HJ : Hid (aheadN a b = j) := Lib.hid (by have := HM.out; have := hA.out; omega)
    go_wp2_with fail
    go_quiet (fail)
    have HBo := Lib.hid (HBi.out.trans ((drewN_below wo nq).mono HBi.out.size))
    clear hjM hjM' hj
    generalize wo.drewN nq = w9 at *
    obtain rfl := HJ.out

    -- the second loop
    have hA' := hA.out
    have HMv := HM.out
    generalize hQ : behN a b = Q at *
    have HQ := Lib.hid hQ
    generalize hAA : aheadN a b = A at *
    have HA := Lib.hid hAA
    have e1 : IntKind.i64.wrap ((M : Int) - (A : Int)) = ((M - A : Nat) : Int) := by rw [IntWalk.i64_in _ (by omega)]; omega
    have HQl : Hid (Q ≤ M - A) := Lib.hid (by rw [← hQ]; unfold behN; rw [HMv, hAA]; exact Nat.min_le_left _ _)
    obtain ⟨D, hD⟩ : ∃ D, M - A = D := ⟨_, rfl⟩
    rw [hD] at e1 HQl
    have HD := Lib.hid hD
    have HMA : Hid (D ≤ a.length ∧ D ≤ b.length) := Lib.hid (by omega)
    clear hQ hAA hA' HMv hD
    go_wp2_with fail
    go_loopw [5] (fun m wi => ∃ j : Nat, m = .int .i64 j ∧ j ≤ Q ∧ Hid (Below w.heap.size w wi)) (fun m _ => Q - (intOf m).toNat)
    case atStart => exact ⟨0, rfl, Nat.zero_le _, HBo⟩
    case round =>
      obtain ⟨j, rfl, hj, HBj⟩ := hrel
      by_cases hjM : j < D
      · have hjM' : (j : Int) < (D : Int) := by omega
        have hMA := HMA.out
        have hj7 : j ≤ 10000000 := by omega
        have g1 : IntKind.i64.wrap ((a.length : Int) - 1) = ((a.length - 1 : Nat) : Int) := by rw [IntWalk.i64_in _ (by omega)]; omega
        have g2 : IntKind.i64.wrap (((a.length - 1 : Nat) : Int) - (j : Int)) = ((a.length - 1 - j : Nat) : Int) := by rw [IntWalk.i64_in _ (by omega)]; omega
        have g3 : IntKind.i64.wrap ((b.length : Int) - 1) = ((b.length - 1 : Nat) : Int) := by rw [IntWalk.i64_in _ (by omega)]; omega
        have g4 : IntKind.i64.wrap (((b.length - 1 : Nat) : Int) - (j : Int)) = ((b.length - 1 - j : Nat) : Int) := by rw [IntWalk.i64_in _ (by omega)]; omega
        have g5 : ((a.length - 1 - j : Nat) : Int) < (a.length : Int) := by omega
        have g6 : ((b.length - 1 - j : Nat) : Int) < (b.length : Int) := by omega
        have g7 : a.length - 1 - j < a.length := by omega
        have g8 : b.length - 1 - j < b.length := by omega
        have g9 : (0 : Int) ≤ ((a.length - 1 - j : Nat) : Int) := by omega
        have g10 : (0 : Int) ≤ ((b.length - 1 - j : Nat) : Int) := by omega
        have hx := List.getElem?_eq_getElem g7
        have hy := List.getElem?_eq_getElem g8
        have hrx : a.reverse[j]? = a[a.length - 1 - j]? := rev_at a j (by omega)
        have hry : b.reverse[j]? = b[b.length - 1 - j]? := rev_at b j (by omega)
        generalize a[a.length - 1 - j] = x at hx
        generalize b[b.length - 1 - j] = y at hy
        rw [hx] at hrx
        rw [hy] at hry
        have HR : Hid (j < Q ↔ x = y) := Lib.hid (by
          have hq := HQ.out
          unfold behN at hq
          rw [HA.out, HM.out, HD.out] at hq
          constructor
          · intro h
            have := aheadN_at a.reverse b.reverse j (by omega)
            rw [hrx, hry] at this
            exact Option.some.inj this
          · intro h
            apply Nat.lt_of_not_le
            intro h2
            have hs := aheadN_stop a.reverse b.reverse (by rw [List.length_reverse]; omega) (by rw [List.length_reverse]; omega)
            rw [show aheadN a.reverse b.reverse = j by omega, hrx, hry, h] at hs
            exact hs rfl)
        obtain ⟨g, o, c, he, hc, r0, r1⟩ := (H1.out.below HBj.out).at hx
        obtain ⟨g', o', c', he', hc', s0, s1⟩ := (H2.out.below HBj.out).at hy
        cases he
        cases he'
        have hn2 := fun W => eql_any x y W
        obtain ⟨kx, tx⟩ := x
        obtain ⟨ky, ty⟩ := y
        unfold tokA at hn2
        change wr.cell? ⟨g, o + (a.length - 1 - j) * 2, none⟩ = some (.int .u8 kx) at r0
        change wr.cell? ⟨g, o + (a.length - 1 - j) * 2 + 1, none⟩ = some (bl tx) at r1
        change wr.cell? ⟨g', o' + (b.length - 1 - j) * 2, none⟩ = some (.int .u8 ky) at s0
        change wr.cell? ⟨g', o' + (b.length - 1 - j) * 2 + 1, none⟩ = some (bl ty) at s1
        clear hx hy hrx hry hMA hc hc' g7 g8
        unfold bl at r1 s1 hn2
        dsimp only at hn2
        have hja : ((a.length - 1 - j : Nat) : Int) < (a.length : Int) := g5
        generalize a.length - 1 - j = ia at *
        generalize b.length - 1 - j = ib at *
        generalize hal1 : a.length - 1 = al1 at *
        generalize hbl1 : b.length - 1 = bl1 at *
        clear hal1 hbl1
        by_cases hq : j < Q
        · have hxy := HR.out.1 hq
          rw [decide_eq_true hxy] at hn2
          have u4 : IntKind.i64.wrap ((j : Int) + 1) = ((j + 1 : Nat) : Int) := by rw [IntWalk.i64_in _ (by omega)]; omega
          clear hxy
          go_wp2_with fail
          go_quiet (fail)
          have HB9 := Lib.hid (HBj.out.trans ((drewN_below wr nq).mono HBj.out.size))
          clear r0 r1 s0 s1 hn2
          generalize wr.drewN nq = w9 at *
          go_wp2_with fail
          go_roundw
          case rel => exact ⟨j + 1, rfl, by omega, HB9⟩
          case measure => simp [intOf]; omega
        · have hxy := fun h => hq (HR.out.2 h)
          rw [decide_eq_false hxy] at hn2
          have HJ : Hid (j = Q) := Lib.hid (by omega)
          clear hxy
          go_wp2_with fail
          go_quiet (fail)
          have HB9 := Lib.hid (HBj.out.trans ((drewN_below wr nq).mono HBj.out.size))
          clear r0 r1 s0 s1 hn2
          generalize wr.drewN nq = w9 at *
          go_wp2_with fail
          go_ret2
          exact ⟨by rw [HA.out, HQ.out, HJ.out]; rfl, HB9.out⟩
      · have hjM' : decide ((j : Int) < (D : Int)) = false := by rw [decide_eq_false]; omega
        have HJ : Hid (j = Q) := Lib.hid (by have := HQl.out; omega)
        go_wp2_with fail
        go_quiet (fail)
        have HB9 := Lib.hid (HBj.out.trans ((drewN_below wr nq).mono HBj.out.size))
        generalize wr.drewN nq = w9 at *
        go_wp2_with fail
        go_ret2
        exact ⟨by rw [HA.out, HQ.out, HJ.out]; rfl, HB9.out⟩

end Go.Proofs.YtfedmhccbfhcbaaGreatDoor
