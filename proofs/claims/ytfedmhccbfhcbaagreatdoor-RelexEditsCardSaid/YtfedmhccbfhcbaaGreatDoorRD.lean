/-
  The document's text.
-/
import Derived.Test.YtfedmhccbfhcbaaGreatDoorRA
namespace Go.Proofs.YtfedmhccbfhcbaaGreatDoor
open Go.RowKit

def TInv (l : List UInt8) (B : Bool) (k : Nat) : Prop := quoR l = shN k (quo (if B then 2 else 0) (l.drop k))
theorem t_end {l : List UInt8} {B : Bool} {k : Nat} (h : TInv l B k) (hk : l.length ≤ k) : quoR l = (9, k) := by
  unfold TInv at h
  rw [h, List.drop_eq_nil_of_le hk, quo_nil]; rfl
theorem t_line {l : List UInt8} {B : Bool} {k : Nat} {c : UInt8} (h : TInv l B k) (hc : l[k]? = some c) (h2 : (c == 10) = true) : quoR l = (9, k) := by
  have h1 : ¬ (c == 34) = true := by rw [beq_iff_eq] at h2; subst h2; decide
  unfold TInv at h
  rw [h, drop_at hc]
  cases B
  · show shN k (quo 0 _) = _
    rw [quo_zero, if_neg h1, if_pos h2]; rfl
  · show shN k (quo 2 _) = _
    rw [quo_2, if_neg h1, if_pos h2]; rfl
theorem t_close {l : List UInt8} {B : Bool} {k : Nat} {c : UInt8} (h : TInv l B k) (hc : l[k]? = some c) (h1 : (c == 34) = true) : quoR l = (if B then 9 else 7, k + 1) := by
  unfold TInv at h
  rw [h, drop_at hc]
  cases B
  · show shN k (quo 0 _) = _
    rw [quo_zero, if_pos h1]; rfl
  · show shN k (quo 2 _) = _
    rw [quo_2, if_pos h1]; rfl
theorem t_else {l : List UInt8} {B : Bool} {k : Nat} {c : UInt8} (h : TInv l B k) (hc : l[k]? = some c) (h1 : (c == 34) = false) (h2 : (c == 10) = false) (h3 : (c == 92) = false ∨ B = true) : TInv l B (k + 1) := by
  unfold TInv at *
  rw [h, drop_at hc]
  cases B
  · have h3' : (c == 92) = false := by rcases h3 with h3 | h3; exact h3; cases h3
    show shN k (quo 0 _) = shN (k + 1) (quo 0 _)
    rw [quo_zero, if_neg (by simp [h1]), if_neg (by simp [h2]), if_neg (by simp [h3']), addN_sh, shN_add]
  · show shN k (quo 2 _) = shN (k + 1) (quo 2 _)
    rw [quo_2, if_neg (by simp [h1]), if_neg (by simp [h2]), addN_sh, shN_add]
theorem one_at (l : List UInt8) (i : Nat) : oneB [110, 116, 92, 34] (l.drop i) = if escB (atB l i) then 1 else 0 := by
  cases hd : l.drop i with
  | nil =>
    have h : l[i]? = none := by
      rw [List.getElem?_eq_none]
      have := congrArg List.length hd
      rw [List.length_drop, List.length_nil] at this; omega
    unfold atB; rw [h]; rfl
  | cons c r =>
    have h : l[i]? = some c := by
      have := List.getElem?_drop (xs := l) (i := i) (j := 0)
      rw [hd] at this; simpa using this.symm
    rw [escB_one]; unfold atB; rw [h]; rfl
theorem t_esc {l : List UInt8} {k : Nat} {c : UInt8} (h : TInv l false k) (hc : l[k]? = some c) (h3 : (c == 92) = true) (h4 : escB (atB l (k + 1)) = true) : TInv l false (k + 2) ∧ k + 2 ≤ l.length := by
  have h1 : (c == 34) = false := by rw [beq_iff_eq] at h3; subst h3; decide
  have h2 : (c == 10) = false := by rw [beq_iff_eq] at h3; subst h3; decide
  exact quo_esc (l := l) (k := k) h hc h1 h2 h3 (by rw [one_at, if_pos h4]; decide)
theorem t_bad {l : List UInt8} {k : Nat} {c : UInt8} (h : TInv l false k) (hc : l[k]? = some c) (h3 : (c == 92) = true) (h4 : escB (atB l (k + 1)) = false) : TInv l true (k + 1) := by
  have h1 : (c == 34) = false := by rw [beq_iff_eq] at h3; subst h3; decide
  have h2 : (c == 10) = false := by rw [beq_iff_eq] at h3; subst h3; decide
  unfold TInv at *
  have h5 : oneB [110, 116, 92, 34] (l.drop (k + 1)) = 0 := by rw [one_at, if_neg (by simp [h4])]
  rw [h, drop_at hc]
  show shN k (quo 0 _) = shN (k + 1) (quo 2 _)
  rw [quo_zero, if_neg (by simp [h1]), if_neg (by simp [h2]), if_pos h3, addN_sh, shN_add, quo_bad h5]
set_option maxRecDepth 100000 in
set_option maxHeartbeats 8000000 in
theorem rtext_any (s : ByteArray) (w : World) (hz : s.size ≤ 1000000) (h0 : s.data.toList[0]? = some 34) : Calls Tryz.prog 37 #[.string s] w fun e w' => e = .returned (.tuple #[.int .u8 (quoR s.data.toList).1, .int .i64 (quoR s.data.toList).2]) ∧ w = w' := by
  have hls : s.data.toList.length = s.size := (Lib.size_eq s).symm
  have HL := Lib.hid hls
  have HI : Hid (TInv s.data.toList false 1) := Lib.hid (by unfold TInv quoR; rw [if_pos h0]; rfl)
  have HZ : 1 ≤ s.size := by rw [← hls]; exact (List.getElem?_eq_some_iff.1 h0).1
  clear hls h0
  obtain ⟨R, hR⟩ : ∃ R, quoR s.data.toList = R := ⟨_, rfl⟩
  rw [hR]
  have HR := Lib.hid hR
  clear hR
  go_enter Tryz.func37, Tryz.ntmps37
  go_wp2_with fail
  go_loop [4, 5, 6] (fun b i _ => ∃ (B : Bool) (k : Nat), b = .bool B ∧ i = .int .i64 k ∧ k ≤ s.size ∧ Hid (TInv s.data.toList B k)) (fun _ i _ => s.size - (intOf i).toNat)
  case atStart => exact ⟨false, 1, rfl, rfl, HZ, HI⟩
  case round =>
    clear HI
    obtain ⟨B, k, rfl, rfl, hk, HI⟩ := hrel
    by_cases hlt : k < s.size
    · have hlt' : (k : Int) < (s.size : Int) := by omega
      have hgc := Lib.hid (str_get s k hlt)
      have e1 : (((s[k]'hlt).toNat : Int) == 34) = ((s[k]'hlt) == 34) := u8_eq rfl
      have e2 : (((s[k]'hlt).toNat : Int) != 10) = !((s[k]'hlt) == 10) := u8_ne rfl
      have e3 : (((s[k]'hlt).toNat : Int) == 92) = ((s[k]'hlt) == 92) := u8_eq rfl
      have w1 : IntKind.i64.wrap ((k : Int) + 1) = ((k + 1 : Nat) : Int) := by rw [IntWalk.i64_in _ (by omega)]; omega
      have w2 : IntKind.i64.wrap (((k + 1 : Nat) : Int) + 1) = ((k + 2 : Nat) : Int) := by rw [IntWalk.i64_in _ (by omega)]; omega
      cases b2 : ((s[k]'hlt) == 10) with
      | true =>
        rw [b2] at e2
        have HN : Hid (R = (9, k)) := Lib.hid (by rw [← HR.out]; exact t_line HI.out hgc.out b2)
        clear b2 e1 e3
        go_wp2_with fail
        go_ret2
        exact ⟨by rw [HN.out]; rfl, rfl⟩
      | false =>
        rw [b2] at e2
        cases b1 : ((s[k]'hlt) == 34) with
        | true =>
          rw [b1] at e1
          have HN : Hid (R = (if B then 9 else 7, k + 1)) := Lib.hid (by rw [← HR.out]; exact t_close HI.out hgc.out b1)
          clear b1 b2 e3
          cases B
          all_goals
            go_wp2_with fail
            go_ret2
            exact ⟨by rw [HN.out]; rfl, rfl⟩
        | false =>
          rw [b1] at e1
          cases b3 : ((s[k]'hlt) == 92) with
          | false =>
            rw [b3] at e3
            have HN := Lib.hid (t_else HI.out hgc.out b1 b2 (.inl b3))
            clear b1 b2 b3
            go_wp2_with fail
            go_round
            case rel => exact ⟨B, k + 1, rfl, rfl, by omega, HN⟩
            case measure => simp [intOf]; omega
          | true =>
            rw [b3] at e3
            cases B with
            | true =>
              have HN := Lib.hid (t_else HI.out hgc.out b1 b2 (.inr rfl))
              clear b1 b2 b3
              go_wp2_with fail
              go_round
              case rel => exact ⟨true, k + 1, rfl, rfl, by omega, HN⟩
              case measure => simp [intOf]; omega
            | false =>
              obtain ⟨K1, hK1⟩ : ∃ K1, k + 1 = K1 := ⟨_, rfl⟩
              obtain ⟨K2, hK2⟩ : ∃ K2, K1 + 1 = K2 := ⟨_, rfl⟩
              have HYes := Lib.hid (t_esc HI.out hgc.out b3)
              have HNo := Lib.hid (t_bad HI.out hgc.out b3)
              rw [show k + 2 = K2 by omega, hK1] at HYes
              rw [hK1] at HNo
              have u1 : IntKind.i64.wrap ((k : Int) + 1) = (K1 : Int) := by rw [IntWalk.i64_in _ (by omega)]; omega
              have u2 : IntKind.i64.wrap ((K1 : Int) + 1) = (K2 : Int) := by rw [IntWalk.i64_in _ (by omega)]; omega
              have c1 := fun Wd => at_any s K1 Wd (by omega)
              have hE : escB (atB s.data.toList K1) = (atB s.data.toList K1 == 110 || atB s.data.toList K1 == 116 || atB s.data.toList K1 == 92 || atB s.data.toList K1 == 34) := rfl
              have f1 : (((atB s.data.toList K1).toNat : Int) == 110) = (atB s.data.toList K1 == 110) := u8_eq rfl
              have f2 : (((atB s.data.toList K1).toNat : Int) == 116) = (atB s.data.toList K1 == 116) := u8_eq rfl
              have f3 : (((atB s.data.toList K1).toNat : Int) == 92) = (atB s.data.toList K1 == 92) := u8_eq rfl
              have f4 : (((atB s.data.toList K1).toNat : Int) == 34) = (atB s.data.toList K1 == 34) := u8_eq rfl
              have hkK : k < K1 ∧ K1 < K2 := by omega
              have hK1s : K1 ≤ s.size := by omega
              clear b1 b2 b3 w1 w2 hK1 hK2
              cases hA : escB (atB s.data.toList K1) with
              | true =>
                have HN := Lib.hid (HYes.out hA).1
                have hk2 : K2 ≤ s.size := by rw [← HL.out]; exact (HYes.out hA).2
                rw [hA] at hE
                clear hA HYes HNo
                generalize (atB s.data.toList K1 == 110) = A1 at *
                generalize (atB s.data.toList K1 == 116) = A2 at *
                generalize (atB s.data.toList K1 == 92) = A3 at *
                generalize (atB s.data.toList K1 == 34) = A4 at *
                generalize atB s.data.toList K1 = C at *
                have hW : A1 = true ∨ (A1 = false ∧ A2 = true) ∨ (A1 = false ∧ A2 = false ∧ A3 = true) ∨ (A1 = false ∧ A2 = false ∧ A3 = false ∧ A4 = true) := by
                  revert hE; cases A1 <;> cases A2 <;> cases A3 <;> cases A4 <;> simp
                clear hE
                rcases hW with rfl | ⟨rfl, rfl⟩ | ⟨rfl, rfl, rfl⟩ | ⟨rfl, rfl, rfl, rfl⟩
                all_goals
                  go_wp2_with (go_at_call 29; ((with_reducible refine (c1 _).mono ?_); rintro e w' ⟨rfl, rfl⟩))
                  go_round
                  case rel => exact ⟨false, K2, rfl, rfl, hk2, HN⟩
                  case measure => simp [intOf]; omega
              | false =>
                have HN := Lib.hid (HNo.out hA)
                rw [hA] at hE
                clear hA HYes HNo
                generalize (atB s.data.toList K1 == 110) = A1 at *
                generalize (atB s.data.toList K1 == 116) = A2 at *
                generalize (atB s.data.toList K1 == 92) = A3 at *
                generalize (atB s.data.toList K1 == 34) = A4 at *
                generalize atB s.data.toList K1 = C at *
                have hW : A1 = false ∧ A2 = false ∧ A3 = false ∧ A4 = false := by
                  revert hE; cases A1 <;> cases A2 <;> cases A3 <;> cases A4 <;> simp
                clear hE
                obtain ⟨rfl, rfl, rfl, rfl⟩ := hW
                go_wp2_with (go_at_call 29; ((with_reducible refine (c1 _).mono ?_); rintro e w' ⟨rfl, rfl⟩))
                go_round
                case rel => exact ⟨true, K1, rfl, rfl, hK1s, HN⟩
                case measure => simp [intOf]; omega
    · have hlt' : ¬ (k : Int) < (s.size : Int) := by omega
      have hke : k = s.size := by omega
      have HN : Hid (R = (9, k)) := Lib.hid (by rw [← HR.out]; exact t_end HI.out (by rw [HL.out]; omega))
      clear hke
      go_wp2_with fail
      go_ret2
      exact ⟨by rw [HN.out]; rfl, rfl⟩
end Go.Proofs.YtfedmhccbfhcbaaGreatDoor
