/-
  The document's Length.
-/
import Derived.Test.YtlafcnmopclgiaaGreatDoorFF
namespace Go.Proofs.YtlafcnmopclgiaaGreatDoor
open Go.RowKit

theorem take_ex {X : ByteArray} {h : List UInt8} (hX : X.data.toList = h) (i : Nat) : (X.extract 0 i).data.toList = h.take i := by
  rw [ex_list, hX, List.drop_zero, Nat.sub_zero]
theorem drop_ex {X : ByteArray} {h : List UInt8} (hX : X.data.toList = h) (i : Nat) : (X.extract i X.size).data.toList = h.drop i := by
  rw [ex_list, hX, List.take_of_length_le (by rw [List.length_drop, ← hX, ← Lib.size_eq]; exact Nat.le_refl _)]
theorem trimS_le (l cs : List UInt8) : (Lib.trimS l cs).length ≤ l.length := by
  unfold Lib.trimS Lib.trimLeftS Lib.trimRightS
  have h1 := (List.dropWhile_sublist (l := (List.dropWhile (cs.contains ·) l.reverse).reverse) (cs.contains ·)).length_le
  have h2 := (List.dropWhile_sublist (l := l.reverse) (cs.contains ·)).length_le
  rw [List.length_reverse] at h1 h2
  omega
/-- One line of a head. -/
theorem lenR_step {f : Nat} {n : Int} {h : List UInt8} (hne : h ≠ []) : lenR (f + 1) n h =
    if Lib.index h crlf < 0 then -1
    else if Lib.index (h.take (Lib.index h crlf).toNat) [58] < 0 then -1
    else if isName ((h.take (Lib.index h crlf).toNat).take (Lib.index (h.take (Lib.index h crlf).toNat) [58]).toNat) = false then -1
    else if Lib.equalFold ((h.take (Lib.index h crlf).toNat).take (Lib.index (h.take (Lib.index h crlf).toNat) [58]).toNat) clen then
      if 0 ≤ n then -1
      else if numR (Lib.trimS ((h.take (Lib.index h crlf).toNat).drop ((Lib.index (h.take (Lib.index h crlf).toNat) [58]).toNat + 1)) [32, 9]) < 0 then -1
      else lenR f (numR (Lib.trimS ((h.take (Lib.index h crlf).toNat).drop ((Lib.index (h.take (Lib.index h crlf).toNat) [58]).toNat + 1)) [32, 9])) (h.drop ((Lib.index h crlf).toNat + 2))
    else lenR f n (h.drop ((Lib.index h crlf).toNat + 2)) := by
  rw [lenR, if_neg hne]
set_option maxRecDepth 100000 in
set_option maxHeartbeats 4000000 in
theorem rlength_any (s : ByteArray) (w : World) (f : Nat) (hf : s.size ≤ f) (hz : s.size ≤ 1000000000) :
    Calls Tryz.prog 23 #[.string s] w fun e w' => e = .returned (.int .i64 (lenR f (-1) s.data.toList)) ∧ w' = w := by
  obtain ⟨V, hV⟩ : ∃ V, lenR f (-1) s.data.toList = V := ⟨_, rfl⟩
  have HV := Lib.hid hV
  rw [hV]
  clear hV
  go_enter Tryz.func23, Tryz.ntmps23
  go_wp2_with fail
  go_loop [0, 3] (fun v nv => ∃ (X : ByteArray) (n : Int) (g : Nat), v = .string X ∧ nv = .int .i64 n ∧ X.size ≤ g ∧ X.size ≤ s.size ∧ Hid (V = lenR g n X.data.toList)) (fun v _ => strLen v)
  case atStart => exact ⟨s, -1, f, rfl, rfl, hf, Nat.le_refl _, Lib.hid HV.out.symm⟩
  case round =>
    obtain ⟨X, n, g, rfl, rfl, hg, hX, HL⟩ := hrel
    have hls : X.data.toList.length = X.size := (Lib.size_eq X).symm
    have hemp : X.toList.isEmpty = decide (X.size = 0) := by
      rw [Lib.toList_data, Bool.eq_iff_iff, List.isEmpty_iff, decide_eq_true_iff, ← hls, List.length_eq_zero_iff]
    by_cases h0 : X.size = 0
    · rw [decide_eq_true h0] at hemp
      have HR : Hid (V = n) := Lib.hid (by rw [HL.out, List.eq_nil_of_length_eq_zero (show X.data.toList.length = 0 by omega), lenR_nil])
      go_wp2_with fail
      go_ret
      exact ⟨by rw [HR.out]; rfl, rfl⟩
    · rw [decide_eq_false h0] at hemp
      obtain ⟨g', rfl⟩ : ∃ g', g = g' + 1 := ⟨g - 1, by omega⟩
      have hne : X.data.toList ≠ [] := fun e => by rw [e] at hls; exact h0 (by simpa using hls.symm)
      have HS := HL.out.trans (lenR_step hne)
      clear hne
      have hfd := find_any X ⟨#[13, 10]⟩ w (by omega) (by decide)
      have e1 : (⟨#[13, 10]⟩ : ByteArray).data.toList = crlf := rfl
      rw [e1] at hfd
      clear e1
      rcases index_nat' X.data.toList crlf with hi | ⟨i, hi, hi2, _, _⟩
      · rw [hi] at hfd HS
        have HR : Hid (V = -1) := Lib.hid (by rw [HS, if_pos (by decide)])
        clear HS hi
        go_wp2_with fail
        refine hfd.mono ?_
        rintro e w1 ⟨rfl, rfl⟩
        go_wp2_with fail
        go_ret
        exact ⟨by rw [HR.out]; rfl, rfl⟩
      · rw [hi] at hfd HS
        rw [if_neg (by omega)] at HS
        simp only [Int.toNat_natCast] at HS
        have hi2' : i + 2 ≤ X.size := by rw [← hls]; exact hi2
        clear hi hi2
        have hT : Hid ((X.extract 0 i).data.toList = X.data.toList.take i) := Lib.hid (take_ex rfl i)
        have hTz : (X.extract 0 i).size = i := by rw [ByteArray.size_extract]; omega
        have hU : Hid ((X.extract (i + 2) X.size).data.toList = X.data.toList.drop (i + 2)) := Lib.hid (drop_ex rfl (i + 2))
        have hUz : Hid ((X.extract (i + 2) X.size).size = X.size - (i + 2)) := Lib.hid (by rw [ByteArray.size_extract]; omega)
        have hw1 : IntKind.i64.wrap ((i : Int) + 2) = ((i + 2 : Nat) : Int) := by rw [IntWalk.i64_in _ (by omega)]; omega
        have a1 : ¬ (i : Int) < 0 := by omega
        have a2 : (i : Int) ≤ (X.size : Int) := by omega
        obtain ⟨i2, hi2e⟩ : ∃ i2, i + 2 = i2 := ⟨_, rfl⟩
        rw [hi2e] at hw1 hU hUz
        have a3 : (i2 : Int) ≤ (X.size : Int) := by omega
        have hfd2 := find_any (X.extract 0 i) ⟨#[58]⟩ w (by rw [hTz]; omega) (by decide)
        have e2 : (⟨#[58]⟩ : ByteArray).data.toList = [58] := rfl
        rw [e2, hT.out] at hfd2
        clear e2
        have hNX : Hid ((X.extract i2 X.size).size ≤ g') := Lib.hid (by rw [hUz.out]; omega)
        have hNX2 : Hid ((X.extract i2 X.size).size < X.size) := Lib.hid (by rw [hUz.out]; omega)
        have HSh := Lib.hid HS
        clear HS
        have hln : Hid ((X.extract 0 i).data.toList = X.data.toList.take i) := hT
        obtain ⟨L, hL⟩ : ∃ L, X.data.toList.take i = L := ⟨_, rfl⟩
        rw [hL] at hfd2 HSh hln
        have hLl : L.length = i := by rw [← hL, List.length_take]; omega
        clear hL hT
        rcases index_nat' L [58] with hj | ⟨j, hj, hj2, _, _⟩
        · rw [hj] at hfd2
          have HR : Hid (V = -1) := Lib.hid (by rw [HSh.out, hj, if_pos (by decide)])
          clear hj
          go_wp2_with fail
          refine hfd.mono ?_
          rintro e w1 ⟨rfl, rfl⟩
          go_wp2_with fail
          refine hfd2.mono ?_
          rintro e w1 ⟨rfl, rfl⟩
          go_wp2_with fail
          go_ret
          exact ⟨by rw [HR.out]; rfl, rfl⟩
        · rw [hj] at hfd2
          have HS2 := HSh.out
          rw [hj, if_neg (by omega)] at HS2
          simp only [Int.toNat_natCast] at HS2
          clear HSh hj
          have hj2' : j + 1 ≤ i := by rw [← hLl]; exact hj2
          clear hj2
          have b1 : ¬ (j : Int) < 0 := by omega
          have b2 : (j : Int) ≤ ((X.extract 0 i).size : Int) := by rw [hTz]; omega
          have hw2 : IntKind.i64.wrap ((j : Int) + 1) = ((j + 1 : Nat) : Int) := by rw [IntWalk.i64_in _ (by omega)]; omega
          obtain ⟨j1, hj1⟩ : ∃ j1, j + 1 = j1 := ⟨_, rfl⟩
          rw [hj1] at hw2 HS2
          have b3 : (j1 : Int) ≤ ((X.extract 0 i).size : Int) := by rw [hTz]; omega
          have hnm := named_any ((X.extract 0 i).extract 0 j) w (by rw [ByteArray.size_extract]; omega)
          rw [take_ex hln.out j] at hnm
          have htr := rtrim_any ((X.extract 0 i).extract j1 (X.extract 0 i).size) w (by rw [ByteArray.size_extract]; omega)
          rw [drop_ex hln.out j1] at htr
          have hnu := rnumber_any ⟨(Lib.trimS (L.drop j1) [32, 9]).toArray⟩ w (by
            have := trimS_le (L.drop j1) [32, 9]
            rw [List.length_drop] at this
            show (Lib.trimS (L.drop j1) [32, 9]).toArray.size ≤ _
            rw [List.size_toArray]; omega)
          have e3 : (⟨(Lib.trimS (L.drop j1) [32, 9]).toArray⟩ : ByteArray).data.toList = Lib.trimS (L.drop j1) [32, 9] := rfl
          rw [e3] at hnu
          clear e3 hj1 hLl
          have HS3 := Lib.hid HS2
          clear HS2
          generalize numR (Lib.trimS (L.drop j1) [32, 9]) = N at *
          generalize Lib.trimS (L.drop j1) [32, 9] = TT at *
          generalize isName (L.take j) = NA at *
          generalize Lib.equalFold (L.take j) clen = FA at *
          clear hln
          have hTi := Lib.hid hTz
          clear hTz
          cases NA with
          | false =>
            have HR : Hid (V = -1) := Lib.hid (by rw [HS3.out, if_pos rfl])
            go_wp2_with fail
            refine hfd.mono ?_
            rintro e w1 ⟨rfl, rfl⟩
            go_wp2_with fail
            generalize X.extract 0 i = ln at *
            refine hfd2.mono ?_
            rintro e w1 ⟨rfl, rfl⟩
            go_wp2_with fail
            refine hnm.mono ?_
            rintro e w1 ⟨q, rfl, _, rfl⟩
            go_wp2_with fail
            go_ret
            exact ⟨by rw [HR.out]; rfl, rfl⟩
          | true =>
            cases FA with
            | false =>
              have HR : Hid (V = lenR g' n (X.data.toList.drop i2)) := Lib.hid (by rw [HS3.out, if_neg (by decide), if_neg (by decide), ← hi2e])
              go_wp2_with fail
              refine hfd.mono ?_
              rintro e w1 ⟨rfl, rfl⟩
              go_wp2_with fail
              generalize X.extract 0 i = ln at *
              refine hfd2.mono ?_
              rintro e w1 ⟨rfl, rfl⟩
              go_wp2_with fail
              refine hnm.mono ?_
              rintro e w1 ⟨q, rfl, hq, rfl⟩
              obtain rfl := hq rfl
              go_wp2_with fail
              go_round
              case rel => exact ⟨X.extract i2 X.size, n, g', rfl, rfl, hNX.out, by have := hNX2.out; omega, Lib.hid (by rw [hU.out]; exact HR.out)⟩
              case measure => exact hNX2.out
            | true =>
              by_cases hn : 0 ≤ n
              · have HR : Hid (V = -1) := Lib.hid (by rw [HS3.out, if_neg (by decide), if_pos rfl, if_pos hn])
                go_wp2_with fail
                refine hfd.mono ?_
                rintro e w1 ⟨rfl, rfl⟩
                go_wp2_with fail
                generalize X.extract 0 i = ln at *
                refine hfd2.mono ?_
                rintro e w1 ⟨rfl, rfl⟩
                go_wp2_with fail
                refine hnm.mono ?_
                rintro e w1 ⟨q, rfl, hq, rfl⟩
                obtain rfl := hq rfl
                go_wp2_with fail
                go_ret
                exact ⟨by rw [HR.out]; rfl, rfl⟩
              · by_cases hN : N < 0
                · have HR : Hid (V = -1) := Lib.hid (by rw [HS3.out, if_neg (by decide), if_pos rfl, if_neg hn, if_pos hN])
                  go_wp2_with fail
                  refine hfd.mono ?_
                  rintro e w1 ⟨rfl, rfl⟩
                  go_wp2_with fail
                  generalize X.extract 0 i = ln at *
                  refine hfd2.mono ?_
                  rintro e w1 ⟨rfl, rfl⟩
                  go_wp2_with fail
                  refine hnm.mono ?_
                  rintro e w1 ⟨q, rfl, hq, rfl⟩
                  obtain rfl := hq rfl
                  go_wp2_with fail
                  refine htr.mono ?_
                  rintro e w1 ⟨rfl, rfl⟩
                  go_wp2_with fail
                  refine hnu.mono ?_
                  rintro e w1 ⟨rfl, rfl⟩
                  go_wp2_with fail
                  go_ret
                  exact ⟨by rw [HR.out]; rfl, rfl⟩
                · have HR : Hid (V = lenR g' N (X.data.toList.drop i2)) := Lib.hid (by rw [HS3.out, if_neg (by decide), if_pos rfl, if_neg hn, if_neg hN, ← hi2e])
                  go_wp2_with fail
                  refine hfd.mono ?_
                  rintro e w1 ⟨rfl, rfl⟩
                  go_wp2_with fail
                  generalize X.extract 0 i = ln at *
                  refine hfd2.mono ?_
                  rintro e w1 ⟨rfl, rfl⟩
                  go_wp2_with fail
                  refine hnm.mono ?_
                  rintro e w1 ⟨q, rfl, hq, rfl⟩
                  obtain rfl := hq rfl
                  go_wp2_with fail
                  refine htr.mono ?_
                  rintro e w1 ⟨rfl, rfl⟩
                  go_wp2_with fail
                  refine hnu.mono ?_
                  rintro e w1 ⟨rfl, rfl⟩
                  go_wp2_with fail
                  go_round
                  case rel => exact ⟨X.extract i2 X.size, N, g', rfl, rfl, hNX.out, by have := hNX2.out; omega, Lib.hid (by rw [hU.out]; exact HR.out)⟩
                  case measure => exact hNX2.out
end Go.Proofs.YtlafcnmopclgiaaGreatDoor
