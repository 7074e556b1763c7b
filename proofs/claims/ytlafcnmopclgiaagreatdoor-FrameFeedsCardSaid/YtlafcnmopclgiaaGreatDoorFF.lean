/-
  The document's loops: trim, number.
-/
import Derived.Test.YtlafcnmopclgiaaGreatDoorFE
namespace Go.Proofs.YtlafcnmopclgiaaGreatDoor
open Go.RowKit

theorem getE {s : ByteArray} {k : Nat} (h : k < s.size) : s.data.toList[k]? = some (s[k]'h) := by
  rw [Array.getElem?_toList, Array.getElem?_eq_getElem (by exact h)]; rfl
theorem getX {l : List UInt8} {X : ByteArray} {a k : Nat} (hX : X.data.toList = l.drop a) (h : k < X.size) : l[a + k]? = some (X[k]'h) := by
  rw [← List.getElem?_drop, ← hX, getE h]
theorem isBl_eq (c : UInt8) : isBl c = (c == 32 || c == 9) := by
  unfold isBl; rw [List.contains_cons, List.contains_cons, List.contains_nil, Bool.or_false]
def strLen : Value → Nat
  | .string s => s.size
  | _ => 0
set_option maxRecDepth 100000 in
set_option maxHeartbeats 2000000 in
theorem rtrim_any (s : ByteArray) (w : World) (hz : s.size ≤ 1000000000) :
    Calls Tryz.prog 40 #[.string s] w fun e w' => e = .returned (.string ⟨(Lib.trimS s.data.toList [32, 9]).toArray⟩) ∧ w' = w := by
  have hls : s.data.toList.length = s.size := (Lib.size_eq s).symm
  have hl0 : s.data.toList = s.data.toList.drop 0 := rfl
  have HL0 := Lib.hid hl0
  clear hl0
  obtain ⟨l, hl⟩ : ∃ l, s.data.toList = l := ⟨_, rfl⟩
  have HL := Lib.hid hl
  rw [hl] at hls ⊢
  clear hl
  go_enter Tryz.func40, Tryz.ntmps40
  go_wp2_with fail
  go_loop [0] (fun v => ∃ (a : Nat) (X : ByteArray), v = .string X ∧ a + X.size = s.size ∧ Hid (X.data.toList = l.drop a) ∧ Hid (∀ (j : Nat) b, j < a → l[j]? = some b → isBl b = true)) (fun v => strLen v)
  case atStart => exact ⟨0, s, rfl, by omega, Lib.hid (by rw [← HL.out]; rfl), Lib.hid (fun j b hj => by omega)⟩
  case round =>
    obtain ⟨a, X, rfl, hX, HX, H1⟩ := hrel
    by_cases hp : 0 < X.size
    · have hp' : (0 : Int) < (X.size : Int) := by omega
      have hp1 : (1 : Int) ≤ (X.size : Int) := by omega
      have e1 : (((X[0]'hp).toNat : Int) == 32) = (X[0]'hp == 32) := u8_eq rfl
      have e2 : (((X[0]'hp).toNat : Int) == 9) = (X[0]'hp == 9) := u8_eq rfl
      have HB := Lib.hid (isBl_eq (X[0]'hp))
      have HG : Hid (l[a]? = some (X[0]'hp)) := Lib.hid (by have := getX HX.out hp; rwa [Nat.add_zero] at this)
      have HN : Hid (isBl (X[0]'hp) = true → ∀ (j : Nat) b, j < a + 1 → l[j]? = some b → isBl b = true) := Lib.hid fun hb j b hj hjb => by
        rcases Nat.lt_or_ge j a with g | g
        · exact H1.out j b g hjb
        · obtain rfl : j = a := by omega
          rw [HG.out] at hjb
          rw [← Option.some.inj hjb]; exact hb
      have HD : Hid ((X.extract 1 X.size).data.toList = l.drop (a + 1)) := Lib.hid (by
        rw [ex_list, HX.out, List.drop_drop, List.take_of_length_le (by rw [List.length_drop]; omega)])
      have HZ : Hid ((X.extract 1 X.size).size = X.size - 1) := Lib.hid (by rw [ByteArray.size_extract]; omega)
      have H2 : Hid (isBl (X[0]'hp) = false → ∀ b, l[a]? = some b → isBl b = false) := Lib.hid fun hb b hjb => by
        have := HG.out; rw [hjb] at this; rw [Option.some.inj this]; exact hb
      generalize (X[0]'hp == 32) = q1 at *
      generalize (X[0]'hp == 9) = q2 at *
      generalize isBl (X[0]'hp) = q at *
      cases q1 with
      | true =>
        go_wp2_with fail
        go_round
        case rel => exact ⟨a + 1, X.extract 1 X.size, rfl, by rw [HZ.out]; omega, HD, Lib.hid (HN.out (by rw [HB.out]; rfl))⟩
        case measure => show (X.extract 1 X.size).size < X.size; rw [HZ.out]; omega
      | false =>
        cases q2 with
        | true =>
          go_wp2_with fail
          go_round
          case rel => exact ⟨a + 1, X.extract 1 X.size, rfl, by rw [HZ.out]; omega, HD, Lib.hid (HN.out (by rw [HB.out]; rfl))⟩
          case measure => show (X.extract 1 X.size).size < X.size; rw [HZ.out]; omega
        | false =>
          have H2' : Hid (∀ b, l[a]? = some b → isBl b = false) := Lib.hid (H2.out (by rw [HB.out]; rfl))
          clear HN HD HZ H2 HB
          go_wp2_with fail
          clear e1 e2
          go_loop [0] (fun v => ∃ (m : Nat) (Y : ByteArray), v = .string Y ∧ Y.size = m ∧ m ≤ X.size ∧ Hid (Y.data.toList = (l.drop a).take m) ∧ Hid (∀ (j : Nat) b, m ≤ j → (l.drop a)[j]? = some b → isBl b = true)) (fun v => strLen v)
          case atStart => exact ⟨X.size, X, rfl, rfl, Nat.le_refl _, Lib.hid (by rw [HX.out, List.take_of_length_le (by rw [List.length_drop]; omega)]), Lib.hid (fun j b hj hb => by rw [List.getElem?_eq_none (by rw [List.length_drop]; omega)] at hb; cases hb)⟩
          case round =>
            obtain ⟨m, Y, rfl, hY, hm, HY, H3⟩ := hrel
            subst hY
            have HR : Hid ((∀ b, 0 < Y.size → (l.drop a)[Y.size - 1]? = some b → isBl b = false) → (⟨(Lib.trimS l [32, 9]).toArray⟩ : ByteArray) = Y) := Lib.hid fun h4 => by
              rw [trim_of (by omega) H1.out H2'.out (by rw [List.length_drop]; omega) H3.out h4, ← HY.out]
            by_cases hq : 0 < Y.size
            · have hq' : (0 : Int) < (Y.size : Int) := by omega
              have hq1 : Y.size - 1 < Y.size := by omega
              have hw : IntKind.i64.wrap ((Y.size : Int) - 1) = ((Y.size - 1 : Nat) : Int) := by rw [IntWalk.i64_in _ (by omega)]; omega
              obtain ⟨y, hy⟩ : ∃ y, Y.size - 1 = y := ⟨_, rfl⟩
              have hyl : y < Y.size := by omega
              have hyl' : (y : Int) < (Y.size : Int) := by omega
              have hyl2 : (y : Int) ≤ (Y.size : Int) := by omega
              have f1 : (((Y[y]'hyl).toNat : Int) == 32) = (Y[y]'hyl == 32) := u8_eq rfl
              have f2 : (((Y[y]'hyl).toNat : Int) == 9) = (Y[y]'hyl == 9) := u8_eq rfl
              have HB := Lib.hid (isBl_eq (Y[y]'hyl))
              have HG : Hid ((l.drop a)[y]? = some (Y[y]'hyl)) := Lib.hid (by
                have := getE hyl; rw [HY.out, List.getElem?_take_of_lt hyl] at this; exact this)
              have HN : Hid (isBl (Y[y]'hyl) = true → ∀ (j : Nat) b, y ≤ j → (l.drop a)[j]? = some b → isBl b = true) := Lib.hid fun hb j b hj hjb => by
                rcases Nat.lt_or_ge y j with g | g
                · exact H3.out j b (by omega) hjb
                · obtain rfl : j = y := by omega
                  rw [HG.out] at hjb
                  rw [← Option.some.inj hjb]; exact hb
              have HD : Hid ((Y.extract 0 y).data.toList = (l.drop a).take y) := Lib.hid (by
                rw [ex_list, HY.out, List.drop_zero, Nat.sub_zero, List.take_take, Nat.min_eq_left (by omega)])
              have HZ : Hid ((Y.extract 0 y).size = y) := Lib.hid (by rw [ByteArray.size_extract]; omega)
              have H4 : Hid (isBl (Y[y]'hyl) = false → (⟨(Lib.trimS l [32, 9]).toArray⟩ : ByteArray) = Y) := Lib.hid fun hb => HR.out fun b _ hjb => by
                rw [hy, HG.out] at hjb; rw [← Option.some.inj hjb]; exact hb
              have hye := Lib.hid hy
              rw [hy] at hw
              clear hy HR
              generalize (Y[y]'hyl == 32) = r1 at *
              generalize (Y[y]'hyl == 9) = r2 at *
              generalize isBl (Y[y]'hyl) = r at *
              cases r1 with
              | true =>
                go_wp2_with fail
                go_round
                case rel => exact ⟨y, Y.extract 0 y, rfl, HZ.out, by omega, HD, Lib.hid (HN.out (by rw [HB.out]; rfl))⟩
                case measure => show (Y.extract 0 y).size < Y.size; rw [HZ.out]; omega
              | false =>
                cases r2 with
                | true =>
                  go_wp2_with fail
                  go_round
                  case rel => exact ⟨y, Y.extract 0 y, rfl, HZ.out, by omega, HD, Lib.hid (HN.out (by rw [HB.out]; rfl))⟩
                  case measure => show (Y.extract 0 y).size < Y.size; rw [HZ.out]; omega
                | false =>
                  have HE : Hid ((⟨(Lib.trimS l [32, 9]).toArray⟩ : ByteArray) = Y) := Lib.hid (H4.out (by rw [HB.out]; rfl))
                  clear H4 HN
                  go_wp2_with fail
                  go_ret
                  exact ⟨by rw [HE.out]; rfl, rfl⟩
            · have hq' : ¬ (0 : Int) < (Y.size : Int) := by omega
              have HE : Hid ((⟨(Lib.trimS l [32, 9]).toArray⟩ : ByteArray) = Y) := Lib.hid (HR.out fun b h => by omega)
              clear HR
              go_wp2_with fail
              go_ret
              exact ⟨by rw [HE.out]; rfl, rfl⟩
    · have hp' : ¬ (0 : Int) < (X.size : Int) := by omega
      have H2' : Hid (∀ b, l[a]? = some b → isBl b = false) := Lib.hid fun b hb => by
        rw [List.getElem?_eq_none (by omega)] at hb; cases hb
      go_wp2_with fail
      go_loop [0] (fun v => ∃ (m : Nat) (Y : ByteArray), v = .string Y ∧ Y.size = m ∧ m ≤ X.size ∧ Hid (Y.data.toList = (l.drop a).take m) ∧ Hid (∀ (j : Nat) b, m ≤ j → (l.drop a)[j]? = some b → isBl b = true)) (fun v => strLen v)
      case atStart => exact ⟨X.size, X, rfl, rfl, Nat.le_refl _, Lib.hid (by rw [HX.out, List.take_of_length_le (by rw [List.length_drop]; omega)]), Lib.hid (fun j b hj hb => by rw [List.getElem?_eq_none (by rw [List.length_drop]; omega)] at hb; cases hb)⟩
      case round =>
        obtain ⟨m, Y, rfl, hY, hm, HY, H3⟩ := hrel
        subst hY
        have HR : Hid ((∀ b, 0 < Y.size → (l.drop a)[Y.size - 1]? = some b → isBl b = false) → (⟨(Lib.trimS l [32, 9]).toArray⟩ : ByteArray) = Y) := Lib.hid fun h4 => by
          rw [trim_of (by omega) H1.out H2'.out (by rw [List.length_drop]; omega) H3.out h4, ← HY.out]
        by_cases hq : 0 < Y.size
        · have hq' : (0 : Int) < (Y.size : Int) := by omega
          have hq1 : Y.size - 1 < Y.size := by omega
          have hw : IntKind.i64.wrap ((Y.size : Int) - 1) = ((Y.size - 1 : Nat) : Int) := by rw [IntWalk.i64_in _ (by omega)]; omega
          obtain ⟨y, hy⟩ : ∃ y, Y.size - 1 = y := ⟨_, rfl⟩
          have hyl : y < Y.size := by omega
          have hyl' : (y : Int) < (Y.size : Int) := by omega
          have hyl2 : (y : Int) ≤ (Y.size : Int) := by omega
          have f1 : (((Y[y]'hyl).toNat : Int) == 32) = (Y[y]'hyl == 32) := u8_eq rfl
          have f2 : (((Y[y]'hyl).toNat : Int) == 9) = (Y[y]'hyl == 9) := u8_eq rfl
          have HB := Lib.hid (isBl_eq (Y[y]'hyl))
          have HG : Hid ((l.drop a)[y]? = some (Y[y]'hyl)) := Lib.hid (by
            have := getE hyl; rw [HY.out, List.getElem?_take_of_lt hyl] at this; exact this)
          have HN : Hid (isBl (Y[y]'hyl) = true → ∀ (j : Nat) b, y ≤ j → (l.drop a)[j]? = some b → isBl b = true) := Lib.hid fun hb j b hj hjb => by
            rcases Nat.lt_or_ge y j with g | g
            · exact H3.out j b (by omega) hjb
            · obtain rfl : j = y := by omega
              rw [HG.out] at hjb
              rw [← Option.some.inj hjb]; exact hb
          have HD : Hid ((Y.extract 0 y).data.toList = (l.drop a).take y) := Lib.hid (by
            rw [ex_list, HY.out, List.drop_zero, Nat.sub_zero, List.take_take, Nat.min_eq_left (by omega)])
          have HZ : Hid ((Y.extract 0 y).size = y) := Lib.hid (by rw [ByteArray.size_extract]; omega)
          have H4 : Hid (isBl (Y[y]'hyl) = false → (⟨(Lib.trimS l [32, 9]).toArray⟩ : ByteArray) = Y) := Lib.hid fun hb => HR.out fun b _ hjb => by
            rw [hy, HG.out] at hjb; rw [← Option.some.inj hjb]; exact hb
          have hye := Lib.hid hy
          rw [hy] at hw
          clear hy HR
          generalize (Y[y]'hyl == 32) = r1 at *
          generalize (Y[y]'hyl == 9) = r2 at *
          generalize isBl (Y[y]'hyl) = r at *
          cases r1 with
          | true =>
            go_wp2_with fail
            go_round
            case rel => exact ⟨y, Y.extract 0 y, rfl, HZ.out, by omega, HD, Lib.hid (HN.out (by rw [HB.out]; rfl))⟩
            case measure => show (Y.extract 0 y).size < Y.size; rw [HZ.out]; omega
          | false =>
            cases r2 with
            | true =>
              go_wp2_with fail
              go_round
              case rel => exact ⟨y, Y.extract 0 y, rfl, HZ.out, by omega, HD, Lib.hid (HN.out (by rw [HB.out]; rfl))⟩
              case measure => show (Y.extract 0 y).size < Y.size; rw [HZ.out]; omega
            | false =>
              have HE : Hid ((⟨(Lib.trimS l [32, 9]).toArray⟩ : ByteArray) = Y) := Lib.hid (H4.out (by rw [HB.out]; rfl))
              clear H4 HN
              go_wp2_with fail
              go_ret
              exact ⟨by rw [HE.out]; rfl, rfl⟩
        · have hq' : ¬ (0 : Int) < (Y.size : Int) := by omega
          have HE : Hid ((⟨(Lib.trimS l [32, 9]).toArray⟩ : ByteArray) = Y) := Lib.hid (HR.out fun b h => by omega)
          clear HR
          go_wp2_with fail
          go_ret
          exact ⟨by rw [HE.out]; rfl, rfl⟩
set_option maxRecDepth 100000 in
set_option maxHeartbeats 2000000 in
theorem rnumber_any (s : ByteArray) (w : World) (hz : s.size ≤ 1000000000) :
    Calls Tryz.prog 39 #[.string s] w fun e w' => e = .returned (.int .i64 (numR s.data.toList)) ∧ w' = w := by
  have hls : s.data.toList.length = s.size := (Lib.size_eq s).symm
  have hemp : s.toList.isEmpty = decide (s.size = 0) := by
    rw [Lib.toList_data, Bool.eq_iff_iff, List.isEmpty_iff, decide_eq_true_iff, ← hls, List.length_eq_zero_iff]
  have HV : Hid (numR s.data.toList = if s.data.toList = [] ∨ (1 < s.data.toList.length ∧ s.data.toList.head? = some 48) then -1 else numF 0 s.data.toList) := rfl
  obtain ⟨V, hV⟩ : ∃ V, numR s.data.toList = V := ⟨_, rfl⟩
  rw [hV] at HV ⊢
  clear hV
  obtain ⟨l, hl⟩ : ∃ l, s.data.toList = l := ⟨_, rfl⟩
  rw [hl] at hls HV
  have HL := Lib.hid hl
  clear hl
  by_cases h0 : s.size = 0
  · have hd : decide (s.size = 0) = true := decide_eq_true h0
    rw [hd] at hemp
    have HR : Hid (V = -1) := Lib.hid (by rw [HV.out, if_pos (.inl (List.eq_nil_of_length_eq_zero (by omega)))])
    clear hd h0
    go_enter Tryz.func39, Tryz.ntmps39
    go_wp2_with fail
    go_ret
    exact ⟨by rw [HR.out]; rfl, rfl⟩
  · have hd : decide (s.size = 0) = false := decide_eq_false h0
    rw [hd] at hemp
    have hpos : 0 < s.size := by omega
    have hpos' : (0 : Int) < (s.size : Int) := by omega
    have h48 : (((s[0]'hpos).toNat : Int) == 48) = (s[0]'hpos == 48) := u8_eq rfl
    have HH : Hid (l.head? = some (s[0]'hpos)) := Lib.hid (by rw [← HL.out, List.head?_eq_getElem?]; exact getE hpos)
    have HRb : Hid (1 < s.size → (s[0]'hpos == 48) = true → V = -1) := Lib.hid fun h1 h2 => by
      rw [HV.out, if_pos (.inr ⟨by omega, by rw [HH.out, beq_iff_eq.1 h2]⟩)]
    have HRg : Hid (¬ (1 < s.size ∧ (s[0]'hpos == 48) = true) → V = numF 0 l) := Lib.hid fun h => by
      rw [HV.out, if_neg]
      rintro (h1 | ⟨h1, h2⟩)
      · rw [h1] at hls; exact h0 (by simpa using hls.symm)
      · rw [HH.out] at h2; exact h ⟨by omega, by rw [Option.some.inj h2]; rfl⟩
    clear hd h0 HV HH
    generalize (s[0]'hpos == 48) = Z at *
    by_cases h1 : 1 < s.size
    · have h1' : (1 : Int) < (s.size : Int) := by omega
      cases Z with
      | true =>
        have HR : Hid (V = -1) := Lib.hid (HRb.out h1 rfl)
        go_enter Tryz.func39, Tryz.ntmps39
        go_wp2_with fail
        go_ret
        exact ⟨by rw [HR.out]; rfl, rfl⟩
      | false =>
        have HR : Hid (V = numF 0 l) := Lib.hid (HRg.out (by simp))
        clear HRb HRg
        go_enter Tryz.func39, Tryz.ntmps39
        go_wp2_with fail
        go_loop [3, 4] (fun n i => ∃ (k m : Nat), i = .int .i64 k ∧ n = .int .i64 m ∧ k ≤ s.size ∧ m ≤ 1000000009 ∧ Hid (V = numF m (l.drop k))) (fun _ i => s.size - (intOf i).toNat)
        case atStart => exact ⟨0, 0, rfl, rfl, Nat.zero_le _, by omega, HR⟩
        case round =>
          obtain ⟨k, m, rfl, rfl, hk, hm, HF⟩ := hrel
          by_cases hlt : k < s.size
          · have hlt' : (k : Int) < (s.size : Int) := by omega
            have hw : IntKind.i64.wrap ((k : Int) + 1) = ((k + 1 : Nat) : Int) := by rw [IntWalk.i64_in _ (by omega)]; omega
            have hc256 := (s[k]'hlt).toNat_lt
            have HC : Hid (V = if 48 ≤ (s[k]'hlt).toNat ∧ (s[k]'hlt).toNat ≤ 57 then numF (if (m : Int) < 100000000 then (m : Int) * 10 + (s[k]'hlt).toNat - 48 else m) (l.drop (k + 1)) else -1) := Lib.hid (by
              have hg := getE hlt
              rw [HL.out] at hg
              have hdr : l.drop k = (s[k]'hlt) :: l.drop (k + 1) := by
                obtain ⟨hh, hg2⟩ := List.getElem?_eq_some_iff.1 hg
                rw [← hg2]; exact List.drop_eq_getElem_cons hh
              rw [HF.out, hdr, numF])
            by_cases c1 : 48 ≤ (s[k]'hlt).toNat
            · have c1' : ¬ ((s[k]'hlt).toNat : Int) < 48 := by omega
              by_cases c2 : (s[k]'hlt).toNat ≤ 57
              · have c2' : ¬ (57 : Int) < ((s[k]'hlt).toNat : Int) := by omega
                have c1i : (48 : Int) ≤ ((s[k]'hlt).toNat : Int) := by omega
                have c2i : ((s[k]'hlt).toNat : Int) ≤ 57 := by omega
                by_cases hn : m < 100000000
                · have hn' : (m : Int) < 100000000 := by omega
                  have HQ : Hid (V = numF ((m * 10 + (s[k]'hlt).toNat - 48 : Nat) : Int) (l.drop (k + 1))) := Lib.hid (by
                    rw [HC.out, if_pos ⟨c1, c2⟩, if_pos hn']; congr 1; omega)
                  have hw1 : IntKind.i64.wrap ((m : Int) * 10) = ((m * 10 : Nat) : Int) := by rw [IntWalk.i64_in _ (by omega)]; omega
                  have hw2 : IntKind.i64.wrap (((m * 10 : Nat) : Int) + ((s[k]'hlt).toNat : Int)) = ((m * 10 + (s[k]'hlt).toNat : Nat) : Int) := by rw [IntWalk.i64_in _ (by omega)]; omega
                  have hw3 : IntKind.i64.wrap (((m * 10 + (s[k]'hlt).toNat : Nat) : Int) - 48) = ((m * 10 + (s[k]'hlt).toNat - 48 : Nat) : Int) := by rw [IntWalk.i64_in _ (by omega)]; omega
                  clear HC
                  go_wp2_with fail
                  go_round
                  case rel => exact ⟨k + 1, m * 10 + (s[k]'hlt).toNat - 48, by go_num, by first | rfl | (congr 1; omega), by omega, by omega, HQ⟩
                  case measure => simp [intOf]; omega
                · have hn' : ¬ (m : Int) < 100000000 := by omega
                  have HQ : Hid (V = numF (m : Int) (l.drop (k + 1))) := Lib.hid (by
                    rw [HC.out, if_pos ⟨c1, c2⟩, if_neg hn'])
                  clear HC
                  go_wp2_with fail
                  go_round
                  case rel => exact ⟨k + 1, m, by go_num, rfl, by omega, hm, HQ⟩
                  case measure => simp [intOf]; omega
              · have c2' : (57 : Int) < ((s[k]'hlt).toNat : Int) := by omega
                have HQ : Hid (V = -1) := Lib.hid (by rw [HC.out, if_neg (by omega)])
                clear HC c2
                go_wp2_with fail
                go_ret
                exact ⟨by rw [HQ.out]; rfl, rfl⟩
            · have c1' : ((s[k]'hlt).toNat : Int) < 48 := by omega
              have HQ : Hid (V = -1) := Lib.hid (by rw [HC.out, if_neg (by omega)])
              clear HC c1
              go_wp2_with fail
              go_ret
              exact ⟨by rw [HQ.out]; rfl, rfl⟩
          · have hlt' : ¬ (k : Int) < (s.size : Int) := by omega
            have HQ : Hid (V = m) := Lib.hid (by rw [HF.out, List.drop_of_length_le (by omega), numF])
            go_wp2_with fail
            go_ret
            exact ⟨by rw [HQ.out]; rfl, rfl⟩
    · have h1' : ¬ (1 : Int) < (s.size : Int) := by omega
      have h1d : decide ((1 : Int) < (s.size : Int)) = false := decide_eq_false h1'
      have HR : Hid (V = numF 0 l) := Lib.hid (HRg.out (fun h => h1 h.1))
      clear HRb HRg
      go_enter Tryz.func39, Tryz.ntmps39
      go_wp2_with fail
      go_loop [3, 4] (fun n i => ∃ (k m : Nat), i = .int .i64 k ∧ n = .int .i64 m ∧ k ≤ s.size ∧ m ≤ 1000000009 ∧ Hid (V = numF m (l.drop k))) (fun _ i => s.size - (intOf i).toNat)
      case atStart => exact ⟨0, 0, rfl, rfl, Nat.zero_le _, by omega, HR⟩
      case round =>
        obtain ⟨k, m, rfl, rfl, hk, hm, HF⟩ := hrel
        by_cases hlt : k < s.size
        · have hlt' : (k : Int) < (s.size : Int) := by omega
          have hw : IntKind.i64.wrap ((k : Int) + 1) = ((k + 1 : Nat) : Int) := by rw [IntWalk.i64_in _ (by omega)]; omega
          have hc256 := (s[k]'hlt).toNat_lt
          have HC : Hid (V = if 48 ≤ (s[k]'hlt).toNat ∧ (s[k]'hlt).toNat ≤ 57 then numF (if (m : Int) < 100000000 then (m : Int) * 10 + (s[k]'hlt).toNat - 48 else m) (l.drop (k + 1)) else -1) := Lib.hid (by
            have hg := getE hlt
            rw [HL.out] at hg
            have hdr : l.drop k = (s[k]'hlt) :: l.drop (k + 1) := by
              obtain ⟨hh, hg2⟩ := List.getElem?_eq_some_iff.1 hg
              rw [← hg2]; exact List.drop_eq_getElem_cons hh
            rw [HF.out, hdr, numF])
          by_cases c1 : 48 ≤ (s[k]'hlt).toNat
          · have c1' : ¬ ((s[k]'hlt).toNat : Int) < 48 := by omega
            by_cases c2 : (s[k]'hlt).toNat ≤ 57
            · have c2' : ¬ (57 : Int) < ((s[k]'hlt).toNat : Int) := by omega
              have c1i : (48 : Int) ≤ ((s[k]'hlt).toNat : Int) := by omega
              have c2i : ((s[k]'hlt).toNat : Int) ≤ 57 := by omega
              by_cases hn : m < 100000000
              · have hn' : (m : Int) < 100000000 := by omega
                have HQ : Hid (V = numF ((m * 10 + (s[k]'hlt).toNat - 48 : Nat) : Int) (l.drop (k + 1))) := Lib.hid (by
                  rw [HC.out, if_pos ⟨c1, c2⟩, if_pos hn']; congr 1; omega)
                have hw1 : IntKind.i64.wrap ((m : Int) * 10) = ((m * 10 : Nat) : Int) := by rw [IntWalk.i64_in _ (by omega)]; omega
                have hw2 : IntKind.i64.wrap (((m * 10 : Nat) : Int) + ((s[k]'hlt).toNat : Int)) = ((m * 10 + (s[k]'hlt).toNat : Nat) : Int) := by rw [IntWalk.i64_in _ (by omega)]; omega
                have hw3 : IntKind.i64.wrap (((m * 10 + (s[k]'hlt).toNat : Nat) : Int) - 48) = ((m * 10 + (s[k]'hlt).toNat - 48 : Nat) : Int) := by rw [IntWalk.i64_in _ (by omega)]; omega
                clear HC
                go_wp2_with fail
                go_round
                case rel => exact ⟨k + 1, m * 10 + (s[k]'hlt).toNat - 48, by go_num, by first | rfl | (congr 1; omega), by omega, by omega, HQ⟩
                case measure => simp [intOf]; omega
              · have hn' : ¬ (m : Int) < 100000000 := by omega
                have HQ : Hid (V = numF (m : Int) (l.drop (k + 1))) := Lib.hid (by
                  rw [HC.out, if_pos ⟨c1, c2⟩, if_neg hn'])
                clear HC
                go_wp2_with fail
                go_round
                case rel => exact ⟨k + 1, m, by go_num, rfl, by omega, hm, HQ⟩
                case measure => simp [intOf]; omega
            · have c2' : (57 : Int) < ((s[k]'hlt).toNat : Int) := by omega
              have HQ : Hid (V = -1) := Lib.hid (by rw [HC.out, if_neg (by omega)])
              clear HC c2
              go_wp2_with fail
              go_ret
              exact ⟨by rw [HQ.out]; rfl, rfl⟩
          · have c1' : ((s[k]'hlt).toNat : Int) < 48 := by omega
            have HQ : Hid (V = -1) := Lib.hid (by rw [HC.out, if_neg (by omega)])
            clear HC c1
            go_wp2_with fail
            go_ret
            exact ⟨by rw [HQ.out]; rfl, rfl⟩
        · have hlt' : ¬ (k : Int) < (s.size : Int) := by omega
          have HQ : Hid (V = m) := Lib.hid (by rw [HF.out, List.drop_of_length_le (by omega), numF])
          go_wp2_with fail
          go_ret
          exact ⟨by rw [HQ.out]; rfl, rfl⟩
end Go.Proofs.YtlafcnmopclgiaaGreatDoor
