/-
  The document's number.
-/
import Derived.Test.YtingfomfibhnhaaGreatDoorMgRA
import Derived.Test.YtingfomfibhnhaaGreatDoorMgD
import Derived.Deep.DeepCutAuto
namespace Go.Proofs.YtingfomfibhnhaaGreatDoor
open Go.RowKit

theorem at_lt {p : UInt8 → Bool} {l : List UInt8} {k : Nat} (h : k < lead p l) : p (atB l k) = true := by
  have hk : k < l.length := Nat.lt_of_lt_of_le h (lead_le p l)
  unfold atB
  rw [List.getElem?_eq_getElem hk]
  exact lead_all p l k _ h (List.getElem?_eq_getElem hk)
theorem at_end {p : UInt8 → Bool} (h0 : p 0 = false) (l : List UInt8) : p (atB l (lead p l)) = false := by
  unfold atB
  cases h : l[lead p l]? with
  | none => exact h0
  | some c => exact lead_stop p l c h
theorem at_drop (l : List UInt8) (a k : Nat) : atB (l.drop a) k = atB l (a + k) := by unfold atB; rw [List.getElem?_drop]
theorem at_in {l : List UInt8} {k : Nat} {c : UInt8} (h : atB l k = c) (h0 : c ≠ 0) : l[k]? = some c := by
  unfold atB at h
  cases hk : l[k]? with
  | none => rw [hk] at h; exact absurd h.symm h0
  | some d => rw [hk] at h; rw [← h]; rfl
def satV (l : List UInt8) : Nat := min (valD l) 1000000
theorem val_snoc (l : List UInt8) (c : UInt8) : valD (l ++ [c]) = valD l * 10 + (c.toNat - 48) := by unfold valD; rw [List.foldl_append]; rfl
theorem sat_snoc (l : List UInt8) (c : UInt8) : satV (l ++ [c]) = min (satV l * 10 + (c.toNat - 48)) 1000000 := by
  unfold satV; rw [val_snoc]; omega
def numOut (W F e : Nat) (P : Int) : Nat × Nat := (if (W : Int) + F ≤ 15 ∧ -22 ≤ P ∧ P ≤ 22 then 6 else 9, e)
theorem exp_none {X : List UInt8} (h : atB X 0 ≠ 101 ∧ atB X 0 ≠ 69) : expo X = 0 := by
  cases X with
  | nil => rfl
  | cons c r =>
    have h1 : c ≠ 101 := h.1
    have h2 : c ≠ 69 := h.2
    rw [expo_cons, if_neg (by simp [h1, h2])]
theorem sgn_at (r : List UInt8) : sgn r = if atB r 0 = 45 ∨ atB r 0 = 43 then 1 else 0 := by
  cases r with
  | nil => rfl
  | cons c r =>
    show (if c == 43 || c == 45 then 1 else 0) = if c = 45 ∨ c = 43 then 1 else 0
    by_cases h : c = 45
    · subst h; rfl
    · by_cases h2 : c = 43
      · subst h2; rfl
      · rw [if_neg (by simp [h, h2]), if_neg (by simp [h, h2])]
theorem exp_some {X : List UInt8} (h : atB X 0 = 101 ∨ atB X 0 = 69) : expo X = if lead digB (X.drop (1 + sgn (X.drop 1))) = 0 then 0 else 1 + sgn (X.drop 1) + lead digB (X.drop (1 + sgn (X.drop 1))) := by
  cases X with
  | nil => rcases h with h | h <;> (exact absurd h (by decide))
  | cons c r =>
    have h1 : c = 101 ∨ c = 69 := h
    rw [expo_cons, if_pos (by rcases h1 with rfl | rfl <;> rfl)]
    have hd : (c :: r).drop (1 + sgn r) = r.drop (sgn r) := by rw [Nat.add_comm]; rfl
    show _ = if lead digB ((c :: r).drop (1 + sgn r)) = 0 then 0 else 1 + sgn r + lead digB ((c :: r).drop (1 + sgn r))
    rw [hd]
theorem exp_zero {l : List UInt8} {m I1 g I2 : Nat} (hE : atB l m = 101 ∨ atB l m = 69) (h1 : m + 1 = I1) (hg : sgn (l.drop I1) = g) (h2 : I1 + g = I2) (hD : lead digB (l.drop I2) = 0) : expo (l.drop m) = 0 := by
  have hd1 : (l.drop m).drop 1 = l.drop I1 := by rw [List.drop_drop, h1]
  have hd2 : (l.drop m).drop (1 + g) = l.drop I2 := by rw [List.drop_drop]; congr 1; omega
  rw [exp_some (by rw [at_drop, Nat.add_zero]; exact hE), hd1, hg, hd2, if_pos hD]
theorem fits_iff (W F : Nat) (e : List UInt8) : fits W F e = true ↔ ((W : Int) + F ≤ 15 ∧ -22 ≤ -(F : Int) + power e ∧ -(F : Int) + power e ≤ 22) := by
  unfold fits
  rw [Bool.and_eq_true, Bool.and_eq_true, decide_eq_true_eq, decide_eq_true_eq, decide_eq_true_eq]
  omega
/-- Without an exponent. -/
theorem num_plain {l : List UInt8} {W F : Nat} (hW : lead digB l = W) (h46 : l[W]? = some 46) (hF : frac (l.drop (W + 1)) = F) (h : expo (l.drop (W + 1 + F)) = 0) : num l = numOut W F (W + 1 + F) (-(F : Int)) := by
  have hd : (l.drop (W + 1)).drop F = l.drop (W + 1 + F) := List.drop_drop
  have he : expT (l.drop (W + 1)) = [] := by unfold expT; rw [hF, hd, h]; rfl
  rw [num_eq, hW, if_pos h46, he, hF]
  unfold numOut
  have hf := fits_iff W F []
  have hp : power [] = 0 := rfl
  rw [hp, Int.add_zero] at hf
  congr 1
  by_cases g : fits W F [] = true
  · rw [if_pos g, if_pos (hf.1 g)]
  · rw [if_neg g, if_neg (fun x => g (hf.2 x))]
/-- With one. -/
theorem num_exp {l : List UInt8} {W F g D : Nat} {m : Bool} (hW : lead digB l = W) (h46 : l[W]? = some 46) (hF : frac (l.drop (W + 1)) = F) (hE : atB l (W + 1 + F) = 101 ∨ atB l (W + 1 + F) = 69)
    (hg : sgn (l.drop (W + 1 + F + 1)) = g) (hm : decide (atB l (W + 1 + F + 1) = 45) = m) (hD : lead digB (l.drop (W + 1 + F + 1 + g)) = D) (hD0 : 0 < D) :
    num l = numOut W F (W + 1 + F + 1 + g + D) (-(F : Int) + (if m then -(satV ((l.drop (W + 1 + F + 1 + g)).take D) : Int) else satV ((l.drop (W + 1 + F + 1 + g)).take D))) := by
  have hd : (l.drop (W + 1)).drop F = l.drop (W + 1 + F) := List.drop_drop
  have hd1 : (l.drop (W + 1 + F)).drop 1 = l.drop (W + 1 + F + 1) := List.drop_drop
  have hd2 : (l.drop (W + 1 + F)).drop (1 + g) = l.drop (W + 1 + F + 1 + g) := by rw [List.drop_drop]; congr 1; omega
  have hx : expo (l.drop (W + 1 + F)) = 1 + g + D := by
    rw [exp_some (by rw [at_drop, Nat.add_zero]; exact hE), hd1, hg, hd2, hD, if_neg (by omega)]
  have hlen : W + 1 + F < l.length := by
    rcases hE with hE | hE
    · exact (List.getElem?_eq_some_iff.1 (at_in hE (by decide))).1
    · exact (List.getElem?_eq_some_iff.1 (at_in hE (by decide))).1
  have hc : ∃ c, l.drop (W + 1 + F) = c :: l.drop (W + 1 + F + 1) := ⟨_, List.drop_eq_getElem_cons hlen⟩
  obtain ⟨c, hc⟩ := hc
  have he : expT (l.drop (W + 1)) = c :: (l.drop (W + 1 + F + 1)).take (g + D) := by
    unfold expT; rw [hF, hd, hx, hc, show 1 + g + D = (g + D) + 1 by omega, List.take_succ_cons]
  have hsg : sgn ((l.drop (W + 1 + F + 1)).take (g + D)) = g := by rw [sgn_take _ _ (by omega), hg]
  have hpow : power (expT (l.drop (W + 1))) = if m then -(valD ((l.drop (W + 1 + F + 1 + g)).take D) : Int) else valD ((l.drop (W + 1 + F + 1 + g)).take D) := by
    rw [he]
    show (if ((l.drop (W + 1 + F + 1)).take (g + D)).head? = some 45 then -(valD (((l.drop (W + 1 + F + 1)).take (g + D)).drop (sgn ((l.drop (W + 1 + F + 1)).take (g + D)))) : Int) else valD (((l.drop (W + 1 + F + 1)).take (g + D)).drop (sgn ((l.drop (W + 1 + F + 1)).take (g + D))))) = _
    rw [hsg, List.drop_take, Nat.add_sub_cancel_left, List.drop_drop]
    have hh : (((l.drop (W + 1 + F + 1)).take (g + D)).head? = some 45) ↔ atB l (W + 1 + F + 1) = 45 := by
      rw [List.head?_eq_getElem?, List.getElem?_take_of_lt (by omega), List.getElem?_drop, Nat.add_zero]
      unfold atB
      cases l[W + 1 + F + 1]? with
      | none => exact ⟨(fun h => (by cases h)), (fun h => absurd h (by decide))⟩
      | some d => exact ⟨fun h => Option.some.inj h, fun h => congrArg some h⟩
    by_cases q : atB l (W + 1 + F + 1) = 45
    · rw [if_pos (hh.2 q), ← hm, decide_eq_true q]; rfl
    · rw [if_neg (fun x => q (hh.1 x)), ← hm, decide_eq_false q]; rfl
  have hel : (expT (l.drop (W + 1))).length = 1 + g + D := by rw [expT_len, hF, hd, hx]
  rw [num_eq, hW, if_pos h46, hF, hel]
  unfold numOut
  have hf := fits_iff W F (expT (l.drop (W + 1)))
  rw [hpow] at hf
  have hs : satV ((l.drop (W + 1 + F + 1 + g)).take D) = min (valD ((l.drop (W + 1 + F + 1 + g)).take D)) 1000000 := rfl
  rw [hs]
  generalize valD ((l.drop (W + 1 + F + 1 + g)).take D) = V at hf ⊢
  have e1 : W + 1 + F + (1 + g + D) = W + 1 + F + 1 + g + D := by omega
  rw [e1]
  congr 1
  cases m with
  | false =>
    simp only [Bool.false_eq_true, if_false] at hf ⊢
    by_cases q : fits W F (expT (l.drop (W + 1))) = true
    · rw [if_pos q, if_pos (by have := hf.1 q; omega)]
    · rw [if_neg q, if_neg (fun x => q (hf.2 (by omega)))]
  | true =>
    simp only [if_true] at hf ⊢
    by_cases q : fits W F (expT (l.drop (W + 1))) = true
    · rw [if_pos q, if_pos (by have := hf.1 q; omega)]
    · rw [if_neg q, if_neg (fun x => q (hf.2 (by omega)))]
set_option maxRecDepth 100000 in
set_option maxHeartbeats 16000000 in
theorem rnumber_any (s : ByteArray) (w : World) (hz : s.size ≤ 1000000) : Calls Tryz.prog 79 #[.string s] w fun e w' => e = .returned (.tuple #[.int .u8 (num s.data.toList).1, .int .i64 (num s.data.toList).2]) ∧ w = w' := by
  obtain ⟨R, hR⟩ : ∃ R, num s.data.toList = R := ⟨_, rfl⟩
  rw [hR]
  have HR := Lib.hid hR
  obtain ⟨W, hW⟩ : ∃ W, lead digB s.data.toList = W := ⟨_, rfl⟩
  have hWs : W ≤ s.size := by rw [← hW, Lib.size_eq]; exact lead_le _ _
  have HW := Lib.hid hW
  have hAt := fun k W => at_any s k W
  clear hR hW
  go_enter Tryz.func79, Tryz.ntmps79
  go_wp2_with fail
  go_loop [4] (fun i => ∃ k : Nat, i = .int .i64 k ∧ k ≤ W) (fun i => W - (intOf i).toNat)
  case atStart => exact ⟨0, rfl, Nat.zero_le _⟩
  case round =>
    obtain ⟨k, rfl, hk⟩ := hrel
    by_cases hlt : k < W
    · have c1 := fun Wd => at_any s k Wd (by omega)
      have c2 := fun Wd => rdigit_any (atB s.data.toList k) Wd
      rw [at_lt (p := digB) (by rw [HW.out]; exact hlt)] at c2
      generalize atB s.data.toList k = C at *
      have w1 : IntKind.i64.wrap ((k : Int) + 1) = ((k + 1 : Nat) : Int) := by rw [IntWalk.i64_in _ (by omega)]; omega
      go_wp2_with (first | (go_at_call 72; ((with_reducible refine (c1 _).mono ?_); rintro e w' ⟨rfl, rfl⟩)) | (go_at_call 78; ((with_reducible refine (c2 _).mono ?_); rintro e w' ⟨rfl, rfl⟩)))
      go_round
      case rel => exact ⟨k + 1, rfl, by omega⟩
      case measure => simp [intOf]; omega
    · obtain rfl : k = W := by omega
      have c1 := fun Wd => at_any s k Wd (by omega)
      have hdg := at_end (p := digB) (by decide) s.data.toList
      rw [HW.out] at hdg
      have c2 := fun Wd => rdigit_any (atB s.data.toList k) Wd
      rw [hdg] at c2
      by_cases h46 : atB s.data.toList k = 46
      · have HC := Lib.hid (at_in h46 (by decide))
        have e46 : (((46 : UInt8).toNat : Nat) : Int) = 46 := rfl
        rw [h46, e46] at c1 c2
        clear e46
        have hks : k < s.size := by rw [Lib.size_eq]; exact (List.getElem?_eq_some_iff.1 HC.out).1
        clear hdg h46
        obtain ⟨F, hF⟩ : ∃ F, frac (s.data.toList.drop (k + 1)) = F := ⟨_, rfl⟩
        have hFs : k + 1 + F ≤ s.size := by
          have := lead_le digB (s.data.toList.drop (k + 1))
          rw [List.length_drop, ← Lib.size_eq] at this
          unfold frac at hF; omega
        have HF := Lib.hid hF
        clear hF
        obtain ⟨K1, hK1⟩ : ∃ K1, k + 1 = K1 := ⟨_, rfl⟩
        obtain ⟨E0, hE0⟩ : ∃ E0, k + 1 + F = E0 := ⟨_, rfl⟩
        have HK1 := Lib.hid hK1
        have HE0 := Lib.hid hE0
        have hE0s : E0 ≤ s.size := by omega
        have hKE : K1 ≤ E0 := by omega
        have w1 : IntKind.i64.wrap ((k : Int) + 1) = (K1 : Int) := by rw [IntWalk.i64_in _ (by omega)]; omega
        clear hK1 hE0 hFs
        go_wp2_with (first | (go_at_call 72; ((with_reducible refine (c1 _).mono ?_); rintro e w' ⟨rfl, rfl⟩)) | (go_at_call 78; ((with_reducible refine (c2 _).mono ?_); rintro e w' ⟨rfl, rfl⟩)))
        clear c1 c2
        go_loop [5] (fun i => ∃ m : Nat, i = .int .i64 m ∧ K1 ≤ m ∧ m ≤ E0) (fun i => E0 - (intOf i).toNat)
        case atStart => exact ⟨K1, rfl, Nat.le_refl _, hKE⟩
        case round =>
          obtain ⟨m, rfl, hKm, hm⟩ := hrel
          by_cases hjl : m < E0
          · have c1 := fun Wd => at_any s m Wd (by omega)
            have c2 := fun Wd => rdigit_any (atB s.data.toList m) Wd
            have hdg : digB (atB s.data.toList m) = true := by
              have h := at_lt (p := digB) (l := s.data.toList.drop (k + 1)) (k := m - K1) (by have := HF.out; unfold frac at this; have := HE0.out; have := HK1.out; omega)
              rw [at_drop, show k + 1 + (m - K1) = m by have := HK1.out; omega] at h; exact h
            rw [hdg] at c2
            clear hdg
            generalize atB s.data.toList m = C at *
            have w2 : IntKind.i64.wrap ((m : Int) + 1) = ((m + 1 : Nat) : Int) := by rw [IntWalk.i64_in _ (by omega)]; omega
            go_wp2_with (first | (go_at_call 72; ((with_reducible refine (c1 _).mono ?_); rintro e w' ⟨rfl, rfl⟩)) | (go_at_call 78; ((with_reducible refine (c2 _).mono ?_); rintro e w' ⟨rfl, rfl⟩)))
            go_round
            case rel => exact ⟨m + 1, rfl, by omega, by omega⟩
            case measure => simp [intOf]; omega
          · obtain rfl : m = E0 := by omega
            have hdg : digB (atB s.data.toList m) = false := by
              have h := at_end (p := digB) (by decide) (s.data.toList.drop (k + 1))
              rw [at_drop, show k + 1 + lead digB (s.data.toList.drop (k + 1)) = m by have := HF.out; unfold frac at this; rw [this, HE0.out]] at h; exact h
            have c1 := fun Wd => at_any s m Wd (by omega)
            have c2 := fun Wd => rdigit_any (atB s.data.toList m) Wd
            rw [hdg] at c2
            clear hdg
            have v1 : IntKind.i64.wrap ((K1 : Int) - (m : Int)) = -(F : Int) := by have := HE0.out; have := HK1.out; rw [IntWalk.i64_in _ (by omega)]; omega
            obtain ⟨CN, hCN⟩ : ∃ CN, k + F = CN := ⟨_, rfl⟩
            have v2 : IntKind.i64.wrap ((m : Int) - 1) = (CN : Int) := by have := HE0.out; rw [IntWalk.i64_in _ (by omega)]; omega
            have hFb : F ≤ 1000000 := by have := HE0.out; omega
            have HCN := Lib.hid hCN
            clear hCN
            have hE1 : (((atB s.data.toList m).toNat : Int) == 101) = (atB s.data.toList m == 101) := u8_eq rfl
            have hE2 : (((atB s.data.toList m).toNat : Int) == 69) = (atB s.data.toList m == 69) := u8_eq rfl
            have HFd := HF.out
            have HWW := Lib.hid HW.out
            by_cases hEe : atB s.data.toList m = 101 ∨ atB s.data.toList m = 69
            · have hms : m < s.size := by
                  rw [Lib.size_eq]; rcases hEe with h | h
                  · exact (List.getElem?_eq_some_iff.1 (at_in h (by decide))).1
                  · exact (List.getElem?_eq_some_iff.1 (at_in h (by decide))).1
              have HEe := Lib.hid hEe
              obtain ⟨I1, hI1⟩ : ∃ I1, m + 1 = I1 := ⟨_, rfl⟩
              have HI1 := Lib.hid hI1
              have hI1s : I1 ≤ s.size := by omega
              have u1 : IntKind.i64.wrap ((m : Int) + 1) = (I1 : Int) := by rw [IntWalk.i64_in _ (by omega)]; omega
              clear hI1
              have c3 := fun Wd => at_any s I1 Wd (by omega)
              rcases hEe with hEe | hEe
              · have eN : (((101 : UInt8).toNat : Nat) : Int) = 101 := rfl
                rw [hEe, eN] at c1 c2
                clear eN hE1 hE2 hEe
                by_cases hS1 : atB s.data.toList I1 = 45
                · have HSg : Hid (sgn (s.data.toList.drop I1) = 1) := Lib.hid (by rw [sgn_at, at_drop, Nat.add_zero, hS1]; rfl)
                  have HMi : Hid (decide (atB s.data.toList I1 = 45) = true) := Lib.hid (decide_eq_true hS1)
                  have eN : (((45 : UInt8).toNat : Nat) : Int) = 45 := rfl
                  rw [hS1, eN] at c3
                  clear eN hS1
                  obtain ⟨I2, hI2⟩ : ∃ I2, I1 + 1 = I2 := ⟨_, rfl⟩
                  have hI2s : I2 ≤ s.size := by have := sgn_le (s.data.toList.drop I1); rw [HSg.out, List.length_drop, ← Lib.size_eq] at this; omega
                  have u2 : IntKind.i64.wrap ((I1 : Int) + 1) = (I2 : Int) := by rw [IntWalk.i64_in _ (by omega)]; omega
                  have HI2 := Lib.hid hI2
                  clear hI2
                  obtain ⟨D, hD⟩ : ∃ D, lead digB (s.data.toList.drop I2) = D := ⟨_, rfl⟩
                  have hDs : I2 + D ≤ s.size := by have := lead_le digB (s.data.toList.drop I2); rw [hD, List.length_drop, ← Lib.size_eq] at this; omega
                  have HD := Lib.hid hD
                  obtain ⟨E2, hE2'⟩ : ∃ E2, I2 + D = E2 := ⟨_, rfl⟩
                  have HE2 := Lib.hid hE2'
                  have hIE : I2 ≤ E2 := by omega
                  have hE2s : E2 ≤ s.size := by omega
                  clear hD hE2' hDs
                  go_upto_if 46 with (first | (go_at_call 72; ((with_reducible refine (c1 _).mono ?_); rintro e w' ⟨rfl, rfl⟩)) | (go_at_call 78; ((with_reducible refine (c2 _).mono ?_); rintro e w' ⟨rfl, rfl⟩)))
                  go_cut [5, 6] (fun a b wx => ∃ (en : Nat) (P : Int), a = .int .i64 en ∧ b = .int .i64 P ∧ Hid (num s.data.toList = numOut k F en P) ∧ -2000000 ≤ P ∧ P ≤ 2000000 ∧ wx = w)
                  case first =>
                    go_wp2_with (first | (go_at_call 72; ((with_reducible refine (c3 _).mono ?_); rintro e w' ⟨rfl, rfl⟩)))
                    clear c1 c2 c3
                    go_loop [8, 11] (fun a b => ∃ m2 X : Nat, a = .int .i64 m2 ∧ b = .int .i64 X ∧ I2 ≤ m2 ∧ m2 ≤ E2 ∧ X ≤ 1000000 ∧ Hid (X = satV ((s.data.toList.drop I2).take (m2 - I2)))) (fun a _ => E2 - (intOf a).toNat)
                    case atStart => exact ⟨I2, 0, rfl, rfl, Nat.le_refl _, hIE, by omega, Lib.hid (by rw [Nat.sub_self]; rfl)⟩
                    case round =>
                      obtain ⟨m2, X, rfl, rfl, hm1, hm2, hX, HX⟩ := hrel
                      by_cases hl2 : m2 < E2
                      · have hdg : digB (atB s.data.toList m2) = true := by
                          have h := at_lt (p := digB) (l := s.data.toList.drop I2) (k := m2 - I2) (by rw [HD.out]; have := HE2.out; omega)
                          rw [at_drop, show I2 + (m2 - I2) = m2 by omega] at h; exact h
                        have hm2s : m2 < s.size := by omega
                        have hm2i : (m2 : Int) < (s.size : Int) := by omega
                        have hCe : atB s.data.toList m2 = s[m2]'hm2s := by unfold atB; rw [str_get s m2 hm2s]; rfl
                        have hsn : (s.data.toList.drop I2).take (m2 + 1 - I2) = (s.data.toList.drop I2).take (m2 - I2) ++ [atB s.data.toList m2] := by
                          rw [show m2 + 1 - I2 = (m2 - I2) + 1 by omega, List.take_add_one, List.getElem?_drop, show I2 + (m2 - I2) = m2 by omega, str_get s m2 hm2s, hCe]; rfl
                        have HXn : Hid (min (X * 10 + ((s[m2]'hm2s).toNat - 48)) 1000000 = satV ((s.data.toList.drop I2).take (m2 + 1 - I2))) := Lib.hid (by rw [hsn, sat_snoc, ← HX.out, hCe])
                        have c1 := fun Wd => at_any s m2 Wd (by omega)
                        have c2 := fun Wd => rdigit_any (atB s.data.toList m2) Wd
                        rw [hdg] at c2
                        rw [hCe] at c1 c2 hdg
                        have hdb : 48 ≤ (s[m2]'hm2s).toNat ∧ (s[m2]'hm2s).toNat ≤ 57 := by unfold digB at hdg; simpa using hdg
                        clear hdg hCe hsn
                        obtain ⟨Y, hY⟩ : ∃ Y, min (X * 10 + ((s[m2]'hm2s).toNat - 48)) 1000000 = Y := ⟨_, rfl⟩
                        rw [hY] at HXn
                        have hYb : Y ≤ 1000000 := by omega
                        have hYi : min ((X : Int) * 10 + ((s[m2]'hm2s).toNat : Int) - 48) 1000000 = (Y : Int) := by omega
                        clear hY
                        have w2 : IntKind.i64.wrap ((m2 : Int) + 1) = ((m2 + 1 : Nat) : Int) := by rw [IntWalk.i64_in _ (by omega)]; omega
                        go_wp2_with (first | (go_at_call 72; ((with_reducible refine (c1 _).mono ?_); rintro e w' ⟨rfl, rfl⟩)) | (go_at_call 78; ((with_reducible refine (c2 _).mono ?_); rintro e w' ⟨rfl, rfl⟩)))
                        go_round
                        case rel => exact ⟨m2 + 1, Y, rfl, by first | rfl | (rw [← hYi]) | (congr 1; omega), by omega, by omega, hYb, HXn⟩
                        case measure => simp [intOf]; omega
                      · obtain rfl : m2 = E2 := by omega
                        have hdg : digB (atB s.data.toList m2) = false := by
                          have h := at_end (p := digB) (by decide) (s.data.toList.drop I2)
                          rw [at_drop, HD.out, HE2.out] at h; exact h
                        have c1 := fun Wd => at_any s m2 Wd (by omega)
                        have c2 := fun Wd => rdigit_any (atB s.data.toList m2) Wd
                        rw [hdg] at c2
                        clear hdg
                        by_cases hD0 : D = 0
                        · have hnl : ¬ (I2 : Int) < (m2 : Int) := by have := HE2.out; omega
                          have HN : Hid (num s.data.toList = numOut k F m (-(F : Int))) := Lib.hid (by
                            have he : expo (s.data.toList.drop (k + 1 + F)) = 0 := by rw [HE0.out]; exact exp_zero (g := 1) (I2 := I2) HEe.out HI1.out HSg.out (by have := HI2.out; omega) (by rw [HD.out]; exact hD0)
                            have h := num_plain HW.out HC.out HF.out he
                            rw [HE0.out] at h; exact h)
                          clear hD0
                          go_wp2_with (first | (go_at_call 72; ((with_reducible refine (c1 _).mono ?_); rintro e w' ⟨rfl, rfl⟩)) | (go_at_call 78; ((with_reducible refine (c2 _).mono ?_); rintro e w' ⟨rfl, rfl⟩)))
                          go_meet
                          case rel => exact ⟨m, -(F : Int), rfl, rfl, HN, by omega, by omega, rfl⟩
                        · have hnl : (I2 : Int) < (m2 : Int) := by have := HE2.out; omega
                          have HN : Hid (num s.data.toList = numOut k F m2 (-(F : Int) + -(X : Int))) := Lib.hid (by
                            have h := num_exp (g := 1) (D := D) (m := true) HW.out HC.out HF.out (by rw [HE0.out]; exact HEe.out) (by rw [HE0.out, HI1.out]; exact HSg.out) (by rw [HE0.out, HI1.out]; exact HMi.out) (by rw [HE0.out, HI1.out, HI2.out]; exact HD.out) (by omega)
                            rw [HE0.out, HI1.out, HI2.out, HE2.out] at h
                            have hx := HX.out; rw [show m2 - I2 = D by have := HE2.out; omega] at hx
                            rw [← hx] at h; exact h)
                          have v3 : IntKind.i64.wrap (-(X : Int)) = -(X : Int) := IntWalk.i64_in _ (by omega)
                          have v4 : IntKind.i64.wrap (-(F : Int) + -(X : Int)) = -(F : Int) + -(X : Int) := IntWalk.i64_in _ (by omega)
                          clear hD0
                          go_wp2_with (first | (go_at_call 72; ((with_reducible refine (c1 _).mono ?_); rintro e w' ⟨rfl, rfl⟩)) | (go_at_call 78; ((with_reducible refine (c2 _).mono ?_); rintro e w' ⟨rfl, rfl⟩)))
                          go_meet
                          case rel => exact ⟨m2, -(F : Int) + -(X : Int), rfl, by first | rfl | (congr 1; omega), HN, by omega, by omega, rfl⟩
                  case rest =>
                    obtain ⟨en, P, rfl, rfl, HN, hP1, hP2, rfl⟩ := hcut
                    have hcn := HCN.out
                    have HR2 : Hid (R = numOut k F en P) := Lib.hid (by rw [← HR.out]; exact HN.out)
                    by_cases h15 : (15 : Int) < (CN : Int)
                    · have HV : Hid (R = (9, en)) := Lib.hid (by rw [HR2.out]; unfold numOut; rw [if_neg (by omega)])
                      go_wp2_with fail
                      go_ret2
                      exact ⟨by rw [HV.out]; rfl, rfl⟩
                    · by_cases hlo : P < -22
                      · have HV : Hid (R = (9, en)) := Lib.hid (by rw [HR2.out]; unfold numOut; rw [if_neg (by omega)])
                        go_wp2_with fail
                        go_ret2
                        exact ⟨by rw [HV.out]; rfl, rfl⟩
                      · by_cases hhi : (22 : Int) < P
                        · have HV : Hid (R = (9, en)) := Lib.hid (by rw [HR2.out]; unfold numOut; rw [if_neg (by omega)])
                          go_wp2_with fail
                          go_ret2
                          exact ⟨by rw [HV.out]; rfl, rfl⟩
                        · have HV : Hid (R = (6, en)) := Lib.hid (by rw [HR2.out]; unfold numOut; rw [if_pos (by omega)])
                          go_wp2_with fail
                          go_ret2
                          exact ⟨by rw [HV.out]; rfl, rfl⟩
                · by_cases hS2 : atB s.data.toList I1 = 43
                  · have HSg : Hid (sgn (s.data.toList.drop I1) = 1) := Lib.hid (by rw [sgn_at, at_drop, Nat.add_zero, hS2]; rfl)
                    have HMi : Hid (decide (atB s.data.toList I1 = 45) = false) := Lib.hid (decide_eq_false hS1)
                    have eN : (((43 : UInt8).toNat : Nat) : Int) = 43 := rfl
                    rw [hS2, eN] at c3
                    clear eN hS1 hS2
                    obtain ⟨I2, hI2⟩ : ∃ I2, I1 + 1 = I2 := ⟨_, rfl⟩
                    have hI2s : I2 ≤ s.size := by have := sgn_le (s.data.toList.drop I1); rw [HSg.out, List.length_drop, ← Lib.size_eq] at this; omega
                    have u2 : IntKind.i64.wrap ((I1 : Int) + 1) = (I2 : Int) := by rw [IntWalk.i64_in _ (by omega)]; omega
                    have HI2 := Lib.hid hI2
                    clear hI2
                    obtain ⟨D, hD⟩ : ∃ D, lead digB (s.data.toList.drop I2) = D := ⟨_, rfl⟩
                    have hDs : I2 + D ≤ s.size := by have := lead_le digB (s.data.toList.drop I2); rw [hD, List.length_drop, ← Lib.size_eq] at this; omega
                    have HD := Lib.hid hD
                    obtain ⟨E2, hE2'⟩ : ∃ E2, I2 + D = E2 := ⟨_, rfl⟩
                    have HE2 := Lib.hid hE2'
                    have hIE : I2 ≤ E2 := by omega
                    have hE2s : E2 ≤ s.size := by omega
                    clear hD hE2' hDs
                    go_upto_if 46 with (first | (go_at_call 72; ((with_reducible refine (c1 _).mono ?_); rintro e w' ⟨rfl, rfl⟩)) | (go_at_call 78; ((with_reducible refine (c2 _).mono ?_); rintro e w' ⟨rfl, rfl⟩)))
                    go_cut [5, 6] (fun a b wx => ∃ (en : Nat) (P : Int), a = .int .i64 en ∧ b = .int .i64 P ∧ Hid (num s.data.toList = numOut k F en P) ∧ -2000000 ≤ P ∧ P ≤ 2000000 ∧ wx = w)
                    case first =>
                      go_wp2_with (first | (go_at_call 72; ((with_reducible refine (c3 _).mono ?_); rintro e w' ⟨rfl, rfl⟩)))
                      clear c1 c2 c3
                      go_loop [8, 11] (fun a b => ∃ m2 X : Nat, a = .int .i64 m2 ∧ b = .int .i64 X ∧ I2 ≤ m2 ∧ m2 ≤ E2 ∧ X ≤ 1000000 ∧ Hid (X = satV ((s.data.toList.drop I2).take (m2 - I2)))) (fun a _ => E2 - (intOf a).toNat)
                      case atStart => exact ⟨I2, 0, rfl, rfl, Nat.le_refl _, hIE, by omega, Lib.hid (by rw [Nat.sub_self]; rfl)⟩
                      case round =>
                        obtain ⟨m2, X, rfl, rfl, hm1, hm2, hX, HX⟩ := hrel
                        by_cases hl2 : m2 < E2
                        · have hdg : digB (atB s.data.toList m2) = true := by
                            have h := at_lt (p := digB) (l := s.data.toList.drop I2) (k := m2 - I2) (by rw [HD.out]; have := HE2.out; omega)
                            rw [at_drop, show I2 + (m2 - I2) = m2 by omega] at h; exact h
                          have hm2s : m2 < s.size := by omega
                          have hm2i : (m2 : Int) < (s.size : Int) := by omega
                          have hCe : atB s.data.toList m2 = s[m2]'hm2s := by unfold atB; rw [str_get s m2 hm2s]; rfl
                          have hsn : (s.data.toList.drop I2).take (m2 + 1 - I2) = (s.data.toList.drop I2).take (m2 - I2) ++ [atB s.data.toList m2] := by
                            rw [show m2 + 1 - I2 = (m2 - I2) + 1 by omega, List.take_add_one, List.getElem?_drop, show I2 + (m2 - I2) = m2 by omega, str_get s m2 hm2s, hCe]; rfl
                          have HXn : Hid (min (X * 10 + ((s[m2]'hm2s).toNat - 48)) 1000000 = satV ((s.data.toList.drop I2).take (m2 + 1 - I2))) := Lib.hid (by rw [hsn, sat_snoc, ← HX.out, hCe])
                          have c1 := fun Wd => at_any s m2 Wd (by omega)
                          have c2 := fun Wd => rdigit_any (atB s.data.toList m2) Wd
                          rw [hdg] at c2
                          rw [hCe] at c1 c2 hdg
                          have hdb : 48 ≤ (s[m2]'hm2s).toNat ∧ (s[m2]'hm2s).toNat ≤ 57 := by unfold digB at hdg; simpa using hdg
                          clear hdg hCe hsn
                          obtain ⟨Y, hY⟩ : ∃ Y, min (X * 10 + ((s[m2]'hm2s).toNat - 48)) 1000000 = Y := ⟨_, rfl⟩
                          rw [hY] at HXn
                          have hYb : Y ≤ 1000000 := by omega
                          have hYi : min ((X : Int) * 10 + ((s[m2]'hm2s).toNat : Int) - 48) 1000000 = (Y : Int) := by omega
                          clear hY
                          have w2 : IntKind.i64.wrap ((m2 : Int) + 1) = ((m2 + 1 : Nat) : Int) := by rw [IntWalk.i64_in _ (by omega)]; omega
                          go_wp2_with (first | (go_at_call 72; ((with_reducible refine (c1 _).mono ?_); rintro e w' ⟨rfl, rfl⟩)) | (go_at_call 78; ((with_reducible refine (c2 _).mono ?_); rintro e w' ⟨rfl, rfl⟩)))
                          go_round
                          case rel => exact ⟨m2 + 1, Y, rfl, by first | rfl | (rw [← hYi]) | (congr 1; omega), by omega, by omega, hYb, HXn⟩
                          case measure => simp [intOf]; omega
                        · obtain rfl : m2 = E2 := by omega
                          have hdg : digB (atB s.data.toList m2) = false := by
                            have h := at_end (p := digB) (by decide) (s.data.toList.drop I2)
                            rw [at_drop, HD.out, HE2.out] at h; exact h
                          have c1 := fun Wd => at_any s m2 Wd (by omega)
                          have c2 := fun Wd => rdigit_any (atB s.data.toList m2) Wd
                          rw [hdg] at c2
                          clear hdg
                          by_cases hD0 : D = 0
                          · have hnl : ¬ (I2 : Int) < (m2 : Int) := by have := HE2.out; omega
                            have HN : Hid (num s.data.toList = numOut k F m (-(F : Int))) := Lib.hid (by
                              have he : expo (s.data.toList.drop (k + 1 + F)) = 0 := by rw [HE0.out]; exact exp_zero (g := 1) (I2 := I2) HEe.out HI1.out HSg.out (by have := HI2.out; omega) (by rw [HD.out]; exact hD0)
                              have h := num_plain HW.out HC.out HF.out he
                              rw [HE0.out] at h; exact h)
                            clear hD0
                            go_wp2_with (first | (go_at_call 72; ((with_reducible refine (c1 _).mono ?_); rintro e w' ⟨rfl, rfl⟩)) | (go_at_call 78; ((with_reducible refine (c2 _).mono ?_); rintro e w' ⟨rfl, rfl⟩)))
                            go_meet
                            case rel => exact ⟨m, -(F : Int), rfl, rfl, HN, by omega, by omega, rfl⟩
                          · have hnl : (I2 : Int) < (m2 : Int) := by have := HE2.out; omega
                            have HN : Hid (num s.data.toList = numOut k F m2 (-(F : Int) + (X : Int))) := Lib.hid (by
                              have h := num_exp (g := 1) (D := D) (m := false) HW.out HC.out HF.out (by rw [HE0.out]; exact HEe.out) (by rw [HE0.out, HI1.out]; exact HSg.out) (by rw [HE0.out, HI1.out]; exact HMi.out) (by rw [HE0.out, HI1.out, HI2.out]; exact HD.out) (by omega)
                              rw [HE0.out, HI1.out, HI2.out, HE2.out] at h
                              have hx := HX.out; rw [show m2 - I2 = D by have := HE2.out; omega] at hx
                              rw [← hx] at h; exact h)
                            have v4 : IntKind.i64.wrap (-(F : Int) + (X : Int)) = -(F : Int) + (X : Int) := IntWalk.i64_in _ (by omega)
                            clear hD0
                            go_wp2_with (first | (go_at_call 72; ((with_reducible refine (c1 _).mono ?_); rintro e w' ⟨rfl, rfl⟩)) | (go_at_call 78; ((with_reducible refine (c2 _).mono ?_); rintro e w' ⟨rfl, rfl⟩)))
                            go_meet
                            case rel => exact ⟨m2, -(F : Int) + (X : Int), rfl, by first | rfl | (congr 1; omega), HN, by omega, by omega, rfl⟩
                    case rest =>
                      obtain ⟨en, P, rfl, rfl, HN, hP1, hP2, rfl⟩ := hcut
                      have hcn := HCN.out
                      have HR2 : Hid (R = numOut k F en P) := Lib.hid (by rw [← HR.out]; exact HN.out)
                      by_cases h15 : (15 : Int) < (CN : Int)
                      · have HV : Hid (R = (9, en)) := Lib.hid (by rw [HR2.out]; unfold numOut; rw [if_neg (by omega)])
                        go_wp2_with fail
                        go_ret2
                        exact ⟨by rw [HV.out]; rfl, rfl⟩
                      · by_cases hlo : P < -22
                        · have HV : Hid (R = (9, en)) := Lib.hid (by rw [HR2.out]; unfold numOut; rw [if_neg (by omega)])
                          go_wp2_with fail
                          go_ret2
                          exact ⟨by rw [HV.out]; rfl, rfl⟩
                        · by_cases hhi : (22 : Int) < P
                          · have HV : Hid (R = (9, en)) := Lib.hid (by rw [HR2.out]; unfold numOut; rw [if_neg (by omega)])
                            go_wp2_with fail
                            go_ret2
                            exact ⟨by rw [HV.out]; rfl, rfl⟩
                          · have HV : Hid (R = (6, en)) := Lib.hid (by rw [HR2.out]; unfold numOut; rw [if_pos (by omega)])
                            go_wp2_with fail
                            go_ret2
                            exact ⟨by rw [HV.out]; rfl, rfl⟩
                  · have HSg : Hid (sgn (s.data.toList.drop I1) = 0) := Lib.hid (by rw [sgn_at, at_drop, Nat.add_zero, if_neg (by intro h; rcases h with h | h; exact hS1 h; exact hS2 h)])
                    have HMi : Hid (decide (atB s.data.toList I1 = 45) = false) := Lib.hid (decide_eq_false hS1)
                    have q1 : (((atB s.data.toList I1).toNat : Int) == 45) = false := by rw [u8_eq (c := atB s.data.toList I1) (k := 45) (n := 45) rfl]; simp [hS1]
                    have q2 : (((atB s.data.toList I1).toNat : Int) == 43) = false := by rw [u8_eq (c := atB s.data.toList I1) (k := 43) (n := 43) rfl]; simp [hS2]
                    clear hS1 hS2
                    obtain ⟨I2, hI2⟩ : ∃ I2, I1 + 0 = I2 := ⟨_, rfl⟩
                    have hI2s : I2 ≤ s.size := by have := sgn_le (s.data.toList.drop I1); rw [HSg.out, List.length_drop, ← Lib.size_eq] at this; omega
                    have HI2 := Lib.hid hI2
                    obtain rfl : I1 = I2 := by omega
                    clear hI2
                    obtain ⟨D, hD⟩ : ∃ D, lead digB (s.data.toList.drop I1) = D := ⟨_, rfl⟩
                    have hDs : I1 + D ≤ s.size := by have := lead_le digB (s.data.toList.drop I1); rw [hD, List.length_drop, ← Lib.size_eq] at this; omega
                    have HD := Lib.hid hD
                    obtain ⟨E2, hE2'⟩ : ∃ E2, I1 + D = E2 := ⟨_, rfl⟩
                    have HE2 := Lib.hid hE2'
                    have hIE : I1 ≤ E2 := by omega
                    have hE2s : E2 ≤ s.size := by omega
                    clear hD hE2' hDs
                    go_upto_if 46 with (first | (go_at_call 72; ((with_reducible refine (c1 _).mono ?_); rintro e w' ⟨rfl, rfl⟩)) | (go_at_call 78; ((with_reducible refine (c2 _).mono ?_); rintro e w' ⟨rfl, rfl⟩)))
                    go_cut [5, 6] (fun a b wx => ∃ (en : Nat) (P : Int), a = .int .i64 en ∧ b = .int .i64 P ∧ Hid (num s.data.toList = numOut k F en P) ∧ -2000000 ≤ P ∧ P ≤ 2000000 ∧ wx = w)
                    case first =>
                      go_wp2_with (first | (go_at_call 72; ((with_reducible refine (c3 _).mono ?_); rintro e w' ⟨rfl, rfl⟩)))
                      clear q1 q2
                      clear c1 c2 c3
                      go_loop [8, 11] (fun a b => ∃ m2 X : Nat, a = .int .i64 m2 ∧ b = .int .i64 X ∧ I1 ≤ m2 ∧ m2 ≤ E2 ∧ X ≤ 1000000 ∧ Hid (X = satV ((s.data.toList.drop I1).take (m2 - I1)))) (fun a _ => E2 - (intOf a).toNat)
                      case atStart => exact ⟨I1, 0, rfl, rfl, Nat.le_refl _, hIE, by omega, Lib.hid (by rw [Nat.sub_self]; rfl)⟩
                      case round =>
                        obtain ⟨m2, X, rfl, rfl, hm1, hm2, hX, HX⟩ := hrel
                        by_cases hl2 : m2 < E2
                        · have hdg : digB (atB s.data.toList m2) = true := by
                            have h := at_lt (p := digB) (l := s.data.toList.drop I1) (k := m2 - I1) (by rw [HD.out]; have := HE2.out; omega)
                            rw [at_drop, show I1 + (m2 - I1) = m2 by omega] at h; exact h
                          have hm2s : m2 < s.size := by omega
                          have hm2i : (m2 : Int) < (s.size : Int) := by omega
                          have hCe : atB s.data.toList m2 = s[m2]'hm2s := by unfold atB; rw [str_get s m2 hm2s]; rfl
                          have hsn : (s.data.toList.drop I1).take (m2 + 1 - I1) = (s.data.toList.drop I1).take (m2 - I1) ++ [atB s.data.toList m2] := by
                            rw [show m2 + 1 - I1 = (m2 - I1) + 1 by omega, List.take_add_one, List.getElem?_drop, show I1 + (m2 - I1) = m2 by omega, str_get s m2 hm2s, hCe]; rfl
                          have HXn : Hid (min (X * 10 + ((s[m2]'hm2s).toNat - 48)) 1000000 = satV ((s.data.toList.drop I1).take (m2 + 1 - I1))) := Lib.hid (by rw [hsn, sat_snoc, ← HX.out, hCe])
                          have c1 := fun Wd => at_any s m2 Wd (by omega)
                          have c2 := fun Wd => rdigit_any (atB s.data.toList m2) Wd
                          rw [hdg] at c2
                          rw [hCe] at c1 c2 hdg
                          have hdb : 48 ≤ (s[m2]'hm2s).toNat ∧ (s[m2]'hm2s).toNat ≤ 57 := by unfold digB at hdg; simpa using hdg
                          clear hdg hCe hsn
                          obtain ⟨Y, hY⟩ : ∃ Y, min (X * 10 + ((s[m2]'hm2s).toNat - 48)) 1000000 = Y := ⟨_, rfl⟩
                          rw [hY] at HXn
                          have hYb : Y ≤ 1000000 := by omega
                          have hYi : min ((X : Int) * 10 + ((s[m2]'hm2s).toNat : Int) - 48) 1000000 = (Y : Int) := by omega
                          clear hY
                          have w2 : IntKind.i64.wrap ((m2 : Int) + 1) = ((m2 + 1 : Nat) : Int) := by rw [IntWalk.i64_in _ (by omega)]; omega
                          go_wp2_with (first | (go_at_call 72; ((with_reducible refine (c1 _).mono ?_); rintro e w' ⟨rfl, rfl⟩)) | (go_at_call 78; ((with_reducible refine (c2 _).mono ?_); rintro e w' ⟨rfl, rfl⟩)))
                          go_round
                          case rel => exact ⟨m2 + 1, Y, rfl, by first | rfl | (rw [← hYi]) | (congr 1; omega), by omega, by omega, hYb, HXn⟩
                          case measure => simp [intOf]; omega
                        · obtain rfl : m2 = E2 := by omega
                          have hdg : digB (atB s.data.toList m2) = false := by
                            have h := at_end (p := digB) (by decide) (s.data.toList.drop I1)
                            rw [at_drop, HD.out, HE2.out] at h; exact h
                          have c1 := fun Wd => at_any s m2 Wd (by omega)
                          have c2 := fun Wd => rdigit_any (atB s.data.toList m2) Wd
                          rw [hdg] at c2
                          clear hdg
                          by_cases hD0 : D = 0
                          · have hnl : ¬ (I1 : Int) < (m2 : Int) := by have := HE2.out; omega
                            have HN : Hid (num s.data.toList = numOut k F m (-(F : Int))) := Lib.hid (by
                              have he : expo (s.data.toList.drop (k + 1 + F)) = 0 := by rw [HE0.out]; exact exp_zero (g := 0) (I2 := I1) HEe.out HI1.out HSg.out (by have := HI2.out; omega) (by rw [HD.out]; exact hD0)
                              have h := num_plain HW.out HC.out HF.out he
                              rw [HE0.out] at h; exact h)
                            clear hD0
                            go_wp2_with (first | (go_at_call 72; ((with_reducible refine (c1 _).mono ?_); rintro e w' ⟨rfl, rfl⟩)) | (go_at_call 78; ((with_reducible refine (c2 _).mono ?_); rintro e w' ⟨rfl, rfl⟩)))
                            go_meet
                            case rel => exact ⟨m, -(F : Int), rfl, rfl, HN, by omega, by omega, rfl⟩
                          · have hnl : (I1 : Int) < (m2 : Int) := by have := HE2.out; omega
                            have HN : Hid (num s.data.toList = numOut k F m2 (-(F : Int) + (X : Int))) := Lib.hid (by
                              have h := num_exp (g := 0) (D := D) (m := false) HW.out HC.out HF.out (by rw [HE0.out]; exact HEe.out) (by rw [HE0.out, HI1.out]; exact HSg.out) (by rw [HE0.out, HI1.out]; exact HMi.out) (by rw [HE0.out, HI1.out]; exact HD.out) (by omega)
                              rw [HE0.out, HI1.out, HE2.out] at h
                              have hx := HX.out; rw [show m2 - I1 = D by have := HE2.out; omega] at hx
                              rw [← hx] at h; exact h)
                            have v4 : IntKind.i64.wrap (-(F : Int) + (X : Int)) = -(F : Int) + (X : Int) := IntWalk.i64_in _ (by omega)
                            clear hD0
                            go_wp2_with (first | (go_at_call 72; ((with_reducible refine (c1 _).mono ?_); rintro e w' ⟨rfl, rfl⟩)) | (go_at_call 78; ((with_reducible refine (c2 _).mono ?_); rintro e w' ⟨rfl, rfl⟩)))
                            go_meet
                            case rel => exact ⟨m2, -(F : Int) + (X : Int), rfl, by first | rfl | (congr 1; omega), HN, by omega, by omega, rfl⟩
                    case rest =>
                      obtain ⟨en, P, rfl, rfl, HN, hP1, hP2, rfl⟩ := hcut
                      have hcn := HCN.out
                      have HR2 : Hid (R = numOut k F en P) := Lib.hid (by rw [← HR.out]; exact HN.out)
                      by_cases h15 : (15 : Int) < (CN : Int)
                      · have HV : Hid (R = (9, en)) := Lib.hid (by rw [HR2.out]; unfold numOut; rw [if_neg (by omega)])
                        go_wp2_with fail
                        go_ret2
                        exact ⟨by rw [HV.out]; rfl, rfl⟩
                      · by_cases hlo : P < -22
                        · have HV : Hid (R = (9, en)) := Lib.hid (by rw [HR2.out]; unfold numOut; rw [if_neg (by omega)])
                          go_wp2_with fail
                          go_ret2
                          exact ⟨by rw [HV.out]; rfl, rfl⟩
                        · by_cases hhi : (22 : Int) < P
                          · have HV : Hid (R = (9, en)) := Lib.hid (by rw [HR2.out]; unfold numOut; rw [if_neg (by omega)])
                            go_wp2_with fail
                            go_ret2
                            exact ⟨by rw [HV.out]; rfl, rfl⟩
                          · have HV : Hid (R = (6, en)) := Lib.hid (by rw [HR2.out]; unfold numOut; rw [if_pos (by omega)])
                            go_wp2_with fail
                            go_ret2
                            exact ⟨by rw [HV.out]; rfl, rfl⟩
              · have eN : (((69 : UInt8).toNat : Nat) : Int) = 69 := rfl
                rw [hEe, eN] at c1 c2
                clear eN hE1 hE2 hEe
                by_cases hS1 : atB s.data.toList I1 = 45
                · have HSg : Hid (sgn (s.data.toList.drop I1) = 1) := Lib.hid (by rw [sgn_at, at_drop, Nat.add_zero, hS1]; rfl)
                  have HMi : Hid (decide (atB s.data.toList I1 = 45) = true) := Lib.hid (decide_eq_true hS1)
                  have eN : (((45 : UInt8).toNat : Nat) : Int) = 45 := rfl
                  rw [hS1, eN] at c3
                  clear eN hS1
                  obtain ⟨I2, hI2⟩ : ∃ I2, I1 + 1 = I2 := ⟨_, rfl⟩
                  have hI2s : I2 ≤ s.size := by have := sgn_le (s.data.toList.drop I1); rw [HSg.out, List.length_drop, ← Lib.size_eq] at this; omega
                  have u2 : IntKind.i64.wrap ((I1 : Int) + 1) = (I2 : Int) := by rw [IntWalk.i64_in _ (by omega)]; omega
                  have HI2 := Lib.hid hI2
                  clear hI2
                  obtain ⟨D, hD⟩ : ∃ D, lead digB (s.data.toList.drop I2) = D := ⟨_, rfl⟩
                  have hDs : I2 + D ≤ s.size := by have := lead_le digB (s.data.toList.drop I2); rw [hD, List.length_drop, ← Lib.size_eq] at this; omega
                  have HD := Lib.hid hD
                  obtain ⟨E2, hE2'⟩ : ∃ E2, I2 + D = E2 := ⟨_, rfl⟩
                  have HE2 := Lib.hid hE2'
                  have hIE : I2 ≤ E2 := by omega
                  have hE2s : E2 ≤ s.size := by omega
                  clear hD hE2' hDs
                  go_upto_if 46 with (first | (go_at_call 72; ((with_reducible refine (c1 _).mono ?_); rintro e w' ⟨rfl, rfl⟩)) | (go_at_call 78; ((with_reducible refine (c2 _).mono ?_); rintro e w' ⟨rfl, rfl⟩)))
                  go_cut [5, 6] (fun a b wx => ∃ (en : Nat) (P : Int), a = .int .i64 en ∧ b = .int .i64 P ∧ Hid (num s.data.toList = numOut k F en P) ∧ -2000000 ≤ P ∧ P ≤ 2000000 ∧ wx = w)
                  case first =>
                    go_wp2_with (first | (go_at_call 72; ((with_reducible refine (c3 _).mono ?_); rintro e w' ⟨rfl, rfl⟩)))
                    clear c1 c2 c3
                    go_loop [8, 11] (fun a b => ∃ m2 X : Nat, a = .int .i64 m2 ∧ b = .int .i64 X ∧ I2 ≤ m2 ∧ m2 ≤ E2 ∧ X ≤ 1000000 ∧ Hid (X = satV ((s.data.toList.drop I2).take (m2 - I2)))) (fun a _ => E2 - (intOf a).toNat)
                    case atStart => exact ⟨I2, 0, rfl, rfl, Nat.le_refl _, hIE, by omega, Lib.hid (by rw [Nat.sub_self]; rfl)⟩
                    case round =>
                      obtain ⟨m2, X, rfl, rfl, hm1, hm2, hX, HX⟩ := hrel
                      by_cases hl2 : m2 < E2
                      · have hdg : digB (atB s.data.toList m2) = true := by
                          have h := at_lt (p := digB) (l := s.data.toList.drop I2) (k := m2 - I2) (by rw [HD.out]; have := HE2.out; omega)
                          rw [at_drop, show I2 + (m2 - I2) = m2 by omega] at h; exact h
                        have hm2s : m2 < s.size := by omega
                        have hm2i : (m2 : Int) < (s.size : Int) := by omega
                        have hCe : atB s.data.toList m2 = s[m2]'hm2s := by unfold atB; rw [str_get s m2 hm2s]; rfl
                        have hsn : (s.data.toList.drop I2).take (m2 + 1 - I2) = (s.data.toList.drop I2).take (m2 - I2) ++ [atB s.data.toList m2] := by
                          rw [show m2 + 1 - I2 = (m2 - I2) + 1 by omega, List.take_add_one, List.getElem?_drop, show I2 + (m2 - I2) = m2 by omega, str_get s m2 hm2s, hCe]; rfl
                        have HXn : Hid (min (X * 10 + ((s[m2]'hm2s).toNat - 48)) 1000000 = satV ((s.data.toList.drop I2).take (m2 + 1 - I2))) := Lib.hid (by rw [hsn, sat_snoc, ← HX.out, hCe])
                        have c1 := fun Wd => at_any s m2 Wd (by omega)
                        have c2 := fun Wd => rdigit_any (atB s.data.toList m2) Wd
                        rw [hdg] at c2
                        rw [hCe] at c1 c2 hdg
                        have hdb : 48 ≤ (s[m2]'hm2s).toNat ∧ (s[m2]'hm2s).toNat ≤ 57 := by unfold digB at hdg; simpa using hdg
                        clear hdg hCe hsn
                        obtain ⟨Y, hY⟩ : ∃ Y, min (X * 10 + ((s[m2]'hm2s).toNat - 48)) 1000000 = Y := ⟨_, rfl⟩
                        rw [hY] at HXn
                        have hYb : Y ≤ 1000000 := by omega
                        have hYi : min ((X : Int) * 10 + ((s[m2]'hm2s).toNat : Int) - 48) 1000000 = (Y : Int) := by omega
                        clear hY
                        have w2 : IntKind.i64.wrap ((m2 : Int) + 1) = ((m2 + 1 : Nat) : Int) := by rw [IntWalk.i64_in _ (by omega)]; omega
                        go_wp2_with (first | (go_at_call 72; ((with_reducible refine (c1 _).mono ?_); rintro e w' ⟨rfl, rfl⟩)) | (go_at_call 78; ((with_reducible refine (c2 _).mono ?_); rintro e w' ⟨rfl, rfl⟩)))
                        go_round
                        case rel => exact ⟨m2 + 1, Y, rfl, by first | rfl | (rw [← hYi]) | (congr 1; omega), by omega, by omega, hYb, HXn⟩
                        case measure => simp [intOf]; omega
                      · obtain rfl : m2 = E2 := by omega
                        have hdg : digB (atB s.data.toList m2) = false := by
                          have h := at_end (p := digB) (by decide) (s.data.toList.drop I2)
                          rw [at_drop, HD.out, HE2.out] at h; exact h
                        have c1 := fun Wd => at_any s m2 Wd (by omega)
                        have c2 := fun Wd => rdigit_any (atB s.data.toList m2) Wd
                        rw [hdg] at c2
                        clear hdg
                        by_cases hD0 : D = 0
                        · have hnl : ¬ (I2 : Int) < (m2 : Int) := by have := HE2.out; omega
                          have HN : Hid (num s.data.toList = numOut k F m (-(F : Int))) := Lib.hid (by
                            have he : expo (s.data.toList.drop (k + 1 + F)) = 0 := by rw [HE0.out]; exact exp_zero (g := 1) (I2 := I2) HEe.out HI1.out HSg.out (by have := HI2.out; omega) (by rw [HD.out]; exact hD0)
                            have h := num_plain HW.out HC.out HF.out he
                            rw [HE0.out] at h; exact h)
                          clear hD0
                          go_wp2_with (first | (go_at_call 72; ((with_reducible refine (c1 _).mono ?_); rintro e w' ⟨rfl, rfl⟩)) | (go_at_call 78; ((with_reducible refine (c2 _).mono ?_); rintro e w' ⟨rfl, rfl⟩)))
                          go_meet
                          case rel => exact ⟨m, -(F : Int), rfl, rfl, HN, by omega, by omega, rfl⟩
                        · have hnl : (I2 : Int) < (m2 : Int) := by have := HE2.out; omega
                          have HN : Hid (num s.data.toList = numOut k F m2 (-(F : Int) + -(X : Int))) := Lib.hid (by
                            have h := num_exp (g := 1) (D := D) (m := true) HW.out HC.out HF.out (by rw [HE0.out]; exact HEe.out) (by rw [HE0.out, HI1.out]; exact HSg.out) (by rw [HE0.out, HI1.out]; exact HMi.out) (by rw [HE0.out, HI1.out, HI2.out]; exact HD.out) (by omega)
                            rw [HE0.out, HI1.out, HI2.out, HE2.out] at h
                            have hx := HX.out; rw [show m2 - I2 = D by have := HE2.out; omega] at hx
                            rw [← hx] at h; exact h)
                          have v3 : IntKind.i64.wrap (-(X : Int)) = -(X : Int) := IntWalk.i64_in _ (by omega)
                          have v4 : IntKind.i64.wrap (-(F : Int) + -(X : Int)) = -(F : Int) + -(X : Int) := IntWalk.i64_in _ (by omega)
                          clear hD0
                          go_wp2_with (first | (go_at_call 72; ((with_reducible refine (c1 _).mono ?_); rintro e w' ⟨rfl, rfl⟩)) | (go_at_call 78; ((with_reducible refine (c2 _).mono ?_); rintro e w' ⟨rfl, rfl⟩)))
                          go_meet
                          case rel => exact ⟨m2, -(F : Int) + -(X : Int), rfl, by first | rfl | (congr 1; omega), HN, by omega, by omega, rfl⟩
                  case rest =>
                    obtain ⟨en, P, rfl, rfl, HN, hP1, hP2, rfl⟩ := hcut
                    have hcn := HCN.out
                    have HR2 : Hid (R = numOut k F en P) := Lib.hid (by rw [← HR.out]; exact HN.out)
                    by_cases h15 : (15 : Int) < (CN : Int)
                    · have HV : Hid (R = (9, en)) := Lib.hid (by rw [HR2.out]; unfold numOut; rw [if_neg (by omega)])
                      go_wp2_with fail
                      go_ret2
                      exact ⟨by rw [HV.out]; rfl, rfl⟩
                    · by_cases hlo : P < -22
                      · have HV : Hid (R = (9, en)) := Lib.hid (by rw [HR2.out]; unfold numOut; rw [if_neg (by omega)])
                        go_wp2_with fail
                        go_ret2
                        exact ⟨by rw [HV.out]; rfl, rfl⟩
                      · by_cases hhi : (22 : Int) < P
                        · have HV : Hid (R = (9, en)) := Lib.hid (by rw [HR2.out]; unfold numOut; rw [if_neg (by omega)])
                          go_wp2_with fail
                          go_ret2
                          exact ⟨by rw [HV.out]; rfl, rfl⟩
                        · have HV : Hid (R = (6, en)) := Lib.hid (by rw [HR2.out]; unfold numOut; rw [if_pos (by omega)])
                          go_wp2_with fail
                          go_ret2
                          exact ⟨by rw [HV.out]; rfl, rfl⟩
                · by_cases hS2 : atB s.data.toList I1 = 43
                  · have HSg : Hid (sgn (s.data.toList.drop I1) = 1) := Lib.hid (by rw [sgn_at, at_drop, Nat.add_zero, hS2]; rfl)
                    have HMi : Hid (decide (atB s.data.toList I1 = 45) = false) := Lib.hid (decide_eq_false hS1)
                    have eN : (((43 : UInt8).toNat : Nat) : Int) = 43 := rfl
                    rw [hS2, eN] at c3
                    clear eN hS1 hS2
                    obtain ⟨I2, hI2⟩ : ∃ I2, I1 + 1 = I2 := ⟨_, rfl⟩
                    have hI2s : I2 ≤ s.size := by have := sgn_le (s.data.toList.drop I1); rw [HSg.out, List.length_drop, ← Lib.size_eq] at this; omega
                    have u2 : IntKind.i64.wrap ((I1 : Int) + 1) = (I2 : Int) := by rw [IntWalk.i64_in _ (by omega)]; omega
                    have HI2 := Lib.hid hI2
                    clear hI2
                    obtain ⟨D, hD⟩ : ∃ D, lead digB (s.data.toList.drop I2) = D := ⟨_, rfl⟩
                    have hDs : I2 + D ≤ s.size := by have := lead_le digB (s.data.toList.drop I2); rw [hD, List.length_drop, ← Lib.size_eq] at this; omega
                    have HD := Lib.hid hD
                    obtain ⟨E2, hE2'⟩ : ∃ E2, I2 + D = E2 := ⟨_, rfl⟩
                    have HE2 := Lib.hid hE2'
                    have hIE : I2 ≤ E2 := by omega
                    have hE2s : E2 ≤ s.size := by omega
                    clear hD hE2' hDs
                    go_upto_if 46 with (first | (go_at_call 72; ((with_reducible refine (c1 _).mono ?_); rintro e w' ⟨rfl, rfl⟩)) | (go_at_call 78; ((with_reducible refine (c2 _).mono ?_); rintro e w' ⟨rfl, rfl⟩)))
                    go_cut [5, 6] (fun a b wx => ∃ (en : Nat) (P : Int), a = .int .i64 en ∧ b = .int .i64 P ∧ Hid (num s.data.toList = numOut k F en P) ∧ -2000000 ≤ P ∧ P ≤ 2000000 ∧ wx = w)
                    case first =>
                      go_wp2_with (first | (go_at_call 72; ((with_reducible refine (c3 _).mono ?_); rintro e w' ⟨rfl, rfl⟩)))
                      clear c1 c2 c3
                      go_loop [8, 11] (fun a b => ∃ m2 X : Nat, a = .int .i64 m2 ∧ b = .int .i64 X ∧ I2 ≤ m2 ∧ m2 ≤ E2 ∧ X ≤ 1000000 ∧ Hid (X = satV ((s.data.toList.drop I2).take (m2 - I2)))) (fun a _ => E2 - (intOf a).toNat)
                      case atStart => exact ⟨I2, 0, rfl, rfl, Nat.le_refl _, hIE, by omega, Lib.hid (by rw [Nat.sub_self]; rfl)⟩
                      case round =>
                        obtain ⟨m2, X, rfl, rfl, hm1, hm2, hX, HX⟩ := hrel
                        by_cases hl2 : m2 < E2
                        · have hdg : digB (atB s.data.toList m2) = true := by
                            have h := at_lt (p := digB) (l := s.data.toList.drop I2) (k := m2 - I2) (by rw [HD.out]; have := HE2.out; omega)
                            rw [at_drop, show I2 + (m2 - I2) = m2 by omega] at h; exact h
                          have hm2s : m2 < s.size := by omega
                          have hm2i : (m2 : Int) < (s.size : Int) := by omega
                          have hCe : atB s.data.toList m2 = s[m2]'hm2s := by unfold atB; rw [str_get s m2 hm2s]; rfl
                          have hsn : (s.data.toList.drop I2).take (m2 + 1 - I2) = (s.data.toList.drop I2).take (m2 - I2) ++ [atB s.data.toList m2] := by
                            rw [show m2 + 1 - I2 = (m2 - I2) + 1 by omega, List.take_add_one, List.getElem?_drop, show I2 + (m2 - I2) = m2 by omega, str_get s m2 hm2s, hCe]; rfl
                          have HXn : Hid (min (X * 10 + ((s[m2]'hm2s).toNat - 48)) 1000000 = satV ((s.data.toList.drop I2).take (m2 + 1 - I2))) := Lib.hid (by rw [hsn, sat_snoc, ← HX.out, hCe])
                          have c1 := fun Wd => at_any s m2 Wd (by omega)
                          have c2 := fun Wd => rdigit_any (atB s.data.toList m2) Wd
                          rw [hdg] at c2
                          rw [hCe] at c1 c2 hdg
                          have hdb : 48 ≤ (s[m2]'hm2s).toNat ∧ (s[m2]'hm2s).toNat ≤ 57 := by unfold digB at hdg; simpa using hdg
                          clear hdg hCe hsn
                          obtain ⟨Y, hY⟩ : ∃ Y, min (X * 10 + ((s[m2]'hm2s).toNat - 48)) 1000000 = Y := ⟨_, rfl⟩
                          rw [hY] at HXn
                          have hYb : Y ≤ 1000000 := by omega
                          have hYi : min ((X : Int) * 10 + ((s[m2]'hm2s).toNat : Int) - 48) 1000000 = (Y : Int) := by omega
                          clear hY
                          have w2 : IntKind.i64.wrap ((m2 : Int) + 1) = ((m2 + 1 : Nat) : Int) := by rw [IntWalk.i64_in _ (by omega)]; omega
                          go_wp2_with (first | (go_at_call 72; ((with_reducible refine (c1 _).mono ?_); rintro e w' ⟨rfl, rfl⟩)) | (go_at_call 78; ((with_reducible refine (c2 _).mono ?_); rintro e w' ⟨rfl, rfl⟩)))
                          go_round
                          case rel => exact ⟨m2 + 1, Y, rfl, by first | rfl | (rw [← hYi]) | (congr 1; omega), by omega, by omega, hYb, HXn⟩
                          case measure => simp [intOf]; omega
                        · obtain rfl : m2 = E2 := by omega
                          have hdg : digB (atB s.data.toList m2) = false := by
                            have h := at_end (p := digB) (by decide) (s.data.toList.drop I2)
                            rw [at_drop, HD.out, HE2.out] at h; exact h
                          have c1 := fun Wd => at_any s m2 Wd (by omega)
                          have c2 := fun Wd => rdigit_any (atB s.data.toList m2) Wd
                          rw [hdg] at c2
                          clear hdg
                          by_cases hD0 : D = 0
                          · have hnl : ¬ (I2 : Int) < (m2 : Int) := by have := HE2.out; omega
                            have HN : Hid (num s.data.toList = numOut k F m (-(F : Int))) := Lib.hid (by
                              have he : expo (s.data.toList.drop (k + 1 + F)) = 0 := by rw [HE0.out]; exact exp_zero (g := 1) (I2 := I2) HEe.out HI1.out HSg.out (by have := HI2.out; omega) (by rw [HD.out]; exact hD0)
                              have h := num_plain HW.out HC.out HF.out he
                              rw [HE0.out] at h; exact h)
                            clear hD0
                            go_wp2_with (first | (go_at_call 72; ((with_reducible refine (c1 _).mono ?_); rintro e w' ⟨rfl, rfl⟩)) | (go_at_call 78; ((with_reducible refine (c2 _).mono ?_); rintro e w' ⟨rfl, rfl⟩)))
                            go_meet
                            case rel => exact ⟨m, -(F : Int), rfl, rfl, HN, by omega, by omega, rfl⟩
                          · have hnl : (I2 : Int) < (m2 : Int) := by have := HE2.out; omega
                            have HN : Hid (num s.data.toList = numOut k F m2 (-(F : Int) + (X : Int))) := Lib.hid (by
                              have h := num_exp (g := 1) (D := D) (m := false) HW.out HC.out HF.out (by rw [HE0.out]; exact HEe.out) (by rw [HE0.out, HI1.out]; exact HSg.out) (by rw [HE0.out, HI1.out]; exact HMi.out) (by rw [HE0.out, HI1.out, HI2.out]; exact HD.out) (by omega)
                              rw [HE0.out, HI1.out, HI2.out, HE2.out] at h
                              have hx := HX.out; rw [show m2 - I2 = D by have := HE2.out; omega] at hx
                              rw [← hx] at h; exact h)
                            have v4 : IntKind.i64.wrap (-(F : Int) + (X : Int)) = -(F : Int) + (X : Int) := IntWalk.i64_in _ (by omega)
                            clear hD0
                            go_wp2_with (first | (go_at_call 72; ((with_reducible refine (c1 _).mono ?_); rintro e w' ⟨rfl, rfl⟩)) | (go_at_call 78; ((with_reducible refine (c2 _).mono ?_); rintro e w' ⟨rfl, rfl⟩)))
                            go_meet
                            case rel => exact ⟨m2, -(F : Int) + (X : Int), rfl, by first | rfl | (congr 1; omega), HN, by omega, by omega, rfl⟩
                    case rest =>
                      obtain ⟨en, P, rfl, rfl, HN, hP1, hP2, rfl⟩ := hcut
                      have hcn := HCN.out
                      have HR2 : Hid (R = numOut k F en P) := Lib.hid (by rw [← HR.out]; exact HN.out)
                      by_cases h15 : (15 : Int) < (CN : Int)
                      · have HV : Hid (R = (9, en)) := Lib.hid (by rw [HR2.out]; unfold numOut; rw [if_neg (by omega)])
                        go_wp2_with fail
                        go_ret2
                        exact ⟨by rw [HV.out]; rfl, rfl⟩
                      · by_cases hlo : P < -22
                        · have HV : Hid (R = (9, en)) := Lib.hid (by rw [HR2.out]; unfold numOut; rw [if_neg (by omega)])
                          go_wp2_with fail
                          go_ret2
                          exact ⟨by rw [HV.out]; rfl, rfl⟩
                        · by_cases hhi : (22 : Int) < P
                          · have HV : Hid (R = (9, en)) := Lib.hid (by rw [HR2.out]; unfold numOut; rw [if_neg (by omega)])
                            go_wp2_with fail
                            go_ret2
                            exact ⟨by rw [HV.out]; rfl, rfl⟩
                          · have HV : Hid (R = (6, en)) := Lib.hid (by rw [HR2.out]; unfold numOut; rw [if_pos (by omega)])
                            go_wp2_with fail
                            go_ret2
                            exact ⟨by rw [HV.out]; rfl, rfl⟩
                  · have HSg : Hid (sgn (s.data.toList.drop I1) = 0) := Lib.hid (by rw [sgn_at, at_drop, Nat.add_zero, if_neg (by intro h; rcases h with h | h; exact hS1 h; exact hS2 h)])
                    have HMi : Hid (decide (atB s.data.toList I1 = 45) = false) := Lib.hid (decide_eq_false hS1)
                    have q1 : (((atB s.data.toList I1).toNat : Int) == 45) = false := by rw [u8_eq (c := atB s.data.toList I1) (k := 45) (n := 45) rfl]; simp [hS1]
                    have q2 : (((atB s.data.toList I1).toNat : Int) == 43) = false := by rw [u8_eq (c := atB s.data.toList I1) (k := 43) (n := 43) rfl]; simp [hS2]
                    clear hS1 hS2
                    obtain ⟨I2, hI2⟩ : ∃ I2, I1 + 0 = I2 := ⟨_, rfl⟩
                    have hI2s : I2 ≤ s.size := by have := sgn_le (s.data.toList.drop I1); rw [HSg.out, List.length_drop, ← Lib.size_eq] at this; omega
                    have HI2 := Lib.hid hI2
                    obtain rfl : I1 = I2 := by omega
                    clear hI2
                    obtain ⟨D, hD⟩ : ∃ D, lead digB (s.data.toList.drop I1) = D := ⟨_, rfl⟩
                    have hDs : I1 + D ≤ s.size := by have := lead_le digB (s.data.toList.drop I1); rw [hD, List.length_drop, ← Lib.size_eq] at this; omega
                    have HD := Lib.hid hD
                    obtain ⟨E2, hE2'⟩ : ∃ E2, I1 + D = E2 := ⟨_, rfl⟩
                    have HE2 := Lib.hid hE2'
                    have hIE : I1 ≤ E2 := by omega
                    have hE2s : E2 ≤ s.size := by omega
                    clear hD hE2' hDs
                    go_upto_if 46 with (first | (go_at_call 72; ((with_reducible refine (c1 _).mono ?_); rintro e w' ⟨rfl, rfl⟩)) | (go_at_call 78; ((with_reducible refine (c2 _).mono ?_); rintro e w' ⟨rfl, rfl⟩)))
                    go_cut [5, 6] (fun a b wx => ∃ (en : Nat) (P : Int), a = .int .i64 en ∧ b = .int .i64 P ∧ Hid (num s.data.toList = numOut k F en P) ∧ -2000000 ≤ P ∧ P ≤ 2000000 ∧ wx = w)
                    case first =>
                      go_wp2_with (first | (go_at_call 72; ((with_reducible refine (c3 _).mono ?_); rintro e w' ⟨rfl, rfl⟩)))
                      clear q1 q2
                      clear c1 c2 c3
                      go_loop [8, 11] (fun a b => ∃ m2 X : Nat, a = .int .i64 m2 ∧ b = .int .i64 X ∧ I1 ≤ m2 ∧ m2 ≤ E2 ∧ X ≤ 1000000 ∧ Hid (X = satV ((s.data.toList.drop I1).take (m2 - I1)))) (fun a _ => E2 - (intOf a).toNat)
                      case atStart => exact ⟨I1, 0, rfl, rfl, Nat.le_refl _, hIE, by omega, Lib.hid (by rw [Nat.sub_self]; rfl)⟩
                      case round =>
                        obtain ⟨m2, X, rfl, rfl, hm1, hm2, hX, HX⟩ := hrel
                        by_cases hl2 : m2 < E2
                        · have hdg : digB (atB s.data.toList m2) = true := by
                            have h := at_lt (p := digB) (l := s.data.toList.drop I1) (k := m2 - I1) (by rw [HD.out]; have := HE2.out; omega)
                            rw [at_drop, show I1 + (m2 - I1) = m2 by omega] at h; exact h
                          have hm2s : m2 < s.size := by omega
                          have hm2i : (m2 : Int) < (s.size : Int) := by omega
                          have hCe : atB s.data.toList m2 = s[m2]'hm2s := by unfold atB; rw [str_get s m2 hm2s]; rfl
                          have hsn : (s.data.toList.drop I1).take (m2 + 1 - I1) = (s.data.toList.drop I1).take (m2 - I1) ++ [atB s.data.toList m2] := by
                            rw [show m2 + 1 - I1 = (m2 - I1) + 1 by omega, List.take_add_one, List.getElem?_drop, show I1 + (m2 - I1) = m2 by omega, str_get s m2 hm2s, hCe]; rfl
                          have HXn : Hid (min (X * 10 + ((s[m2]'hm2s).toNat - 48)) 1000000 = satV ((s.data.toList.drop I1).take (m2 + 1 - I1))) := Lib.hid (by rw [hsn, sat_snoc, ← HX.out, hCe])
                          have c1 := fun Wd => at_any s m2 Wd (by omega)
                          have c2 := fun Wd => rdigit_any (atB s.data.toList m2) Wd
                          rw [hdg] at c2
                          rw [hCe] at c1 c2 hdg
                          have hdb : 48 ≤ (s[m2]'hm2s).toNat ∧ (s[m2]'hm2s).toNat ≤ 57 := by unfold digB at hdg; simpa using hdg
                          clear hdg hCe hsn
                          obtain ⟨Y, hY⟩ : ∃ Y, min (X * 10 + ((s[m2]'hm2s).toNat - 48)) 1000000 = Y := ⟨_, rfl⟩
                          rw [hY] at HXn
                          have hYb : Y ≤ 1000000 := by omega
                          have hYi : min ((X : Int) * 10 + ((s[m2]'hm2s).toNat : Int) - 48) 1000000 = (Y : Int) := by omega
                          clear hY
                          have w2 : IntKind.i64.wrap ((m2 : Int) + 1) = ((m2 + 1 : Nat) : Int) := by rw [IntWalk.i64_in _ (by omega)]; omega
                          go_wp2_with (first | (go_at_call 72; ((with_reducible refine (c1 _).mono ?_); rintro e w' ⟨rfl, rfl⟩)) | (go_at_call 78; ((with_reducible refine (c2 _).mono ?_); rintro e w' ⟨rfl, rfl⟩)))
                          go_round
                          case rel => exact ⟨m2 + 1, Y, rfl, by first | rfl | (rw [← hYi]) | (congr 1; omega), by omega, by omega, hYb, HXn⟩
                          case measure => simp [intOf]; omega
                        · obtain rfl : m2 = E2 := by omega
                          have hdg : digB (atB s.data.toList m2) = false := by
                            have h := at_end (p := digB) (by decide) (s.data.toList.drop I1)
                            rw [at_drop, HD.out, HE2.out] at h; exact h
                          have c1 := fun Wd => at_any s m2 Wd (by omega)
                          have c2 := fun Wd => rdigit_any (atB s.data.toList m2) Wd
                          rw [hdg] at c2
                          clear hdg
                          by_cases hD0 : D = 0
                          · have hnl : ¬ (I1 : Int) < (m2 : Int) := by have := HE2.out; omega
                            have HN : Hid (num s.data.toList = numOut k F m (-(F : Int))) := Lib.hid (by
                              have he : expo (s.data.toList.drop (k + 1 + F)) = 0 := by rw [HE0.out]; exact exp_zero (g := 0) (I2 := I1) HEe.out HI1.out HSg.out (by have := HI2.out; omega) (by rw [HD.out]; exact hD0)
                              have h := num_plain HW.out HC.out HF.out he
                              rw [HE0.out] at h; exact h)
                            clear hD0
                            go_wp2_with (first | (go_at_call 72; ((with_reducible refine (c1 _).mono ?_); rintro e w' ⟨rfl, rfl⟩)) | (go_at_call 78; ((with_reducible refine (c2 _).mono ?_); rintro e w' ⟨rfl, rfl⟩)))
                            go_meet
                            case rel => exact ⟨m, -(F : Int), rfl, rfl, HN, by omega, by omega, rfl⟩
                          · have hnl : (I1 : Int) < (m2 : Int) := by have := HE2.out; omega
                            have HN : Hid (num s.data.toList = numOut k F m2 (-(F : Int) + (X : Int))) := Lib.hid (by
                              have h := num_exp (g := 0) (D := D) (m := false) HW.out HC.out HF.out (by rw [HE0.out]; exact HEe.out) (by rw [HE0.out, HI1.out]; exact HSg.out) (by rw [HE0.out, HI1.out]; exact HMi.out) (by rw [HE0.out, HI1.out]; exact HD.out) (by omega)
                              rw [HE0.out, HI1.out, HE2.out] at h
                              have hx := HX.out; rw [show m2 - I1 = D by have := HE2.out; omega] at hx
                              rw [← hx] at h; exact h)
                            have v4 : IntKind.i64.wrap (-(F : Int) + (X : Int)) = -(F : Int) + (X : Int) := IntWalk.i64_in _ (by omega)
                            clear hD0
                            go_wp2_with (first | (go_at_call 72; ((with_reducible refine (c1 _).mono ?_); rintro e w' ⟨rfl, rfl⟩)) | (go_at_call 78; ((with_reducible refine (c2 _).mono ?_); rintro e w' ⟨rfl, rfl⟩)))
                            go_meet
                            case rel => exact ⟨m2, -(F : Int) + (X : Int), rfl, by first | rfl | (congr 1; omega), HN, by omega, by omega, rfl⟩
                    case rest =>
                      obtain ⟨en, P, rfl, rfl, HN, hP1, hP2, rfl⟩ := hcut
                      have hcn := HCN.out
                      have HR2 : Hid (R = numOut k F en P) := Lib.hid (by rw [← HR.out]; exact HN.out)
                      by_cases h15 : (15 : Int) < (CN : Int)
                      · have HV : Hid (R = (9, en)) := Lib.hid (by rw [HR2.out]; unfold numOut; rw [if_neg (by omega)])
                        go_wp2_with fail
                        go_ret2
                        exact ⟨by rw [HV.out]; rfl, rfl⟩
                      · by_cases hlo : P < -22
                        · have HV : Hid (R = (9, en)) := Lib.hid (by rw [HR2.out]; unfold numOut; rw [if_neg (by omega)])
                          go_wp2_with fail
                          go_ret2
                          exact ⟨by rw [HV.out]; rfl, rfl⟩
                        · by_cases hhi : (22 : Int) < P
                          · have HV : Hid (R = (9, en)) := Lib.hid (by rw [HR2.out]; unfold numOut; rw [if_neg (by omega)])
                            go_wp2_with fail
                            go_ret2
                            exact ⟨by rw [HV.out]; rfl, rfl⟩
                          · have HV : Hid (R = (6, en)) := Lib.hid (by rw [HR2.out]; unfold numOut; rw [if_pos (by omega)])
                            go_wp2_with fail
                            go_ret2
                            exact ⟨by rw [HV.out]; rfl, rfl⟩
            · have q1 : (atB s.data.toList m == 101) = false := by simp; exact fun h => hEe (.inl h)
              have q2 : (atB s.data.toList m == 69) = false := by simp; exact fun h => hEe (.inr h)
              rw [q1] at hE1
              rw [q2] at hE2
              have HN : Hid (num s.data.toList = numOut k F m (-(F : Int))) := Lib.hid (by
                have he : expo (s.data.toList.drop (k + 1 + F)) = 0 := exp_none (by rw [at_drop, Nat.add_zero, HE0.out]; exact ⟨fun h => hEe (.inl h), fun h => hEe (.inr h)⟩)
                have h := num_plain HW.out HC.out HF.out he
                rw [HE0.out] at h; exact h)
              clear q1 q2 hEe
              generalize atB s.data.toList m = C at *
              go_upto_if 46 with (first | (go_at_call 72; ((with_reducible refine (c1 _).mono ?_); rintro e w' ⟨rfl, rfl⟩)) | (go_at_call 78; ((with_reducible refine (c2 _).mono ?_); rintro e w' ⟨rfl, rfl⟩)))
              go_cut [5, 6] (fun a b wx => ∃ (en : Nat) (P : Int), a = .int .i64 en ∧ b = .int .i64 P ∧ Hid (num s.data.toList = numOut k F en P) ∧ -2000000 ≤ P ∧ P ≤ 2000000 ∧ wx = w)
              case first =>
                go_wp2_with fail
                go_meet
                case rel => exact ⟨m, -(F : Int), rfl, rfl, HN, by omega, by omega, rfl⟩
              case rest =>
                obtain ⟨en, P, rfl, rfl, HN, hP1, hP2, rfl⟩ := hcut
                have hcn := HCN.out
                have HR2 : Hid (R = numOut k F en P) := Lib.hid (by rw [← HR.out]; exact HN.out)
                by_cases h15 : (15 : Int) < (CN : Int)
                · have HV : Hid (R = (9, en)) := Lib.hid (by rw [HR2.out]; unfold numOut; rw [if_neg (by omega)])
                  go_wp2_with fail
                  go_ret2
                  exact ⟨by rw [HV.out]; rfl, rfl⟩
                · by_cases hlo : P < -22
                  · have HV : Hid (R = (9, en)) := Lib.hid (by rw [HR2.out]; unfold numOut; rw [if_neg (by omega)])
                    go_wp2_with fail
                    go_ret2
                    exact ⟨by rw [HV.out]; rfl, rfl⟩
                  · by_cases hhi : (22 : Int) < P
                    · have HV : Hid (R = (9, en)) := Lib.hid (by rw [HR2.out]; unfold numOut; rw [if_neg (by omega)])
                      go_wp2_with fail
                      go_ret2
                      exact ⟨by rw [HV.out]; rfl, rfl⟩
                    · have HV : Hid (R = (6, en)) := Lib.hid (by rw [HR2.out]; unfold numOut; rw [if_pos (by omega)])
                      go_wp2_with fail
                      go_ret2
                      exact ⟨by rw [HV.out]; rfl, rfl⟩
      · have HV : Hid (R = (5, k)) := Lib.hid (by
          rw [← HR.out, num_eq, HW.out, if_neg]
          intro h; apply h46; unfold atB; rw [h]; rfl)
        have q : (((atB s.data.toList k).toNat : Int) != 46) = true := by rw [u8_ne (c := atB s.data.toList k) (k := 46) (n := 46) rfl]; simp [h46]
        clear hdg h46
        generalize atB s.data.toList k = C at *
        go_wp2_with (first | (go_at_call 72; ((with_reducible refine (c1 _).mono ?_); rintro e w' ⟨rfl, rfl⟩)) | (go_at_call 78; ((with_reducible refine (c2 _).mono ?_); rintro e w' ⟨rfl, rfl⟩)))
        go_ret2
        exact ⟨by rw [HV.out]; rfl, rfl⟩
end Go.Proofs.YtingfomfibhnhaaGreatDoor
