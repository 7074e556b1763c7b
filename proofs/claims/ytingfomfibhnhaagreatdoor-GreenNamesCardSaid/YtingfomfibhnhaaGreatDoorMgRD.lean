/-
  The document's text.
  The document's Cut.
  The document's Tokens, One, Same.
  LexTokens: the walk of the law.
-/
import Derived.Test.YtingfomfibhnhaaGreatDoorMgRA
import Derived.Test.YtingfomfibhnhaaGreatDoorMgRC
import Derived.Test.YtingfomfibhnhaaGreatDoorMgH
import Derived.Test.YtingfomfibhnhaaGreatDoorMgM
namespace Go.Proofs.YtingfomfibhnhaaGreatDoor
open Go.RowKit

def TInv (l : List UInt8) (B : Bool) (k : Nat) : Prop := quoR l = shN k (quo (if B then 2 else 0) (l.drop k))
theorem t_end {l : List UInt8} {B : Bool} {k : Nat} (h : TInv l B k) (hk : l.length ≤ k) : quoR l = (9, k) := by
  unfold TInv at h
  rw [h, List.drop_eq_nil_of_le hk, quo_nil]; rfl
theorem t_line {l : List UInt8} {B : Bool} {k : Nat} {c : UInt8} (h : TInv l B k) (hc : l[k]? = some c) (h2 : (c == 10) = true) : quoR l = (9, k) := by
  have h1 : ¬ (c == 34) = true := by rw [beq_iff_eq] at h2; subst h2; decide
  unfold TInv at h
  rw [h, drop_at hc]
  cases B
  · show shN k (quo 0 _) = _
    rw [quo_zero, if_neg h1, if_pos h2]; rfl
  · show shN k (quo 2 _) = _
    rw [quo_2, if_neg h1, if_pos h2]; rfl
theorem t_close {l : List UInt8} {B : Bool} {k : Nat} {c : UInt8} (h : TInv l B k) (hc : l[k]? = some c) (h1 : (c == 34) = true) : quoR l = (if B then 9 else 7, k + 1) := by
  unfold TInv at h
  rw [h, drop_at hc]
  cases B
  · show shN k (quo 0 _) = _
    rw [quo_zero, if_pos h1]; rfl
  · show shN k (quo 2 _) = _
    rw [quo_2, if_pos h1]; rfl
theorem t_else {l : List UInt8} {B : Bool} {k : Nat} {c : UInt8} (h : TInv l B k) (hc : l[k]? = some c) (h1 : (c == 34) = false) (h2 : (c == 10) = false) (h3 : (c == 92) = false ∨ B = true) : TInv l B (k + 1) := by
  unfold TInv at *
  rw [h, drop_at hc]
  cases B
  · have h3' : (c == 92) = false := by rcases h3 with h3 | h3; exact h3; cases h3
    show shN k (quo 0 _) = shN (k + 1) (quo 0 _)
    rw [quo_zero, if_neg (by simp [h1]), if_neg (by simp [h2]), if_neg (by simp [h3']), addN_sh, shN_add]
  · show shN k (quo 2 _) = shN (k + 1) (quo 2 _)
    rw [quo_2, if_neg (by simp [h1]), if_neg (by simp [h2]), addN_sh, shN_add]
theorem one_at (l : List UInt8) (i : Nat) : oneB [110, 116, 92, 34] (l.drop i) = if escB (atB l i) then 1 else 0 := by
  cases hd : l.drop i with
  | nil =>
    have h : l[i]? = none := by
      rw [List.getElem?_eq_none]
      have := congrArg List.length hd
      rw [List.length_drop, List.length_nil] at this; omega
    unfold atB; rw [h]; rfl
  | cons c r =>
    have h : l[i]? = some c := by
      have := List.getElem?_drop (xs := l) (i := i) (j := 0)
      rw [hd] at this; simpa using this.symm
    rw [escB_one]; unfold atB; rw [h]; rfl
theorem t_esc {l : List UInt8} {k : Nat} {c : UInt8} (h : TInv l false k) (hc : l[k]? = some c) (h3 : (c == 92) = true) (h4 : escB (atB l (k + 1)) = true) : TInv l false (k + 2) ∧ k + 2 ≤ l.length := by
  have h1 : (c == 34) = false := by rw [beq_iff_eq] at h3; subst h3; decide
  have h2 : (c == 10) = false := by rw [beq_iff_eq] at h3; subst h3; decide
  exact quo_esc (l := l) (k := k) h hc h1 h2 h3 (by rw [one_at, if_pos h4]; decide)
theorem t_bad {l : List UInt8} {k : Nat} {c : UInt8} (h : TInv l false k) (hc : l[k]? = some c) (h3 : (c == 92) = true) (h4 : escB (atB l (k + 1)) = false) : TInv l true (k + 1) := by
  have h1 : (c == 34) = false := by rw [beq_iff_eq] at h3; subst h3; decide
  have h2 : (c == 10) = false := by rw [beq_iff_eq] at h3; subst h3; decide
  unfold TInv at *
  have h5 : oneB [110, 116, 92, 34] (l.drop (k + 1)) = 0 := by rw [one_at, if_neg (by simp [h4])]
  rw [h, drop_at hc]
  show shN k (quo 0 _) = shN (k + 1) (quo 2 _)
  rw [quo_zero, if_neg (by simp [h1]), if_neg (by simp [h2]), if_pos h3, addN_sh, shN_add, quo_bad h5]
set_option maxRecDepth 100000 in
set_option maxHeartbeats 8000000 in
theorem rtext_any (s : ByteArray) (w : World) (hz : s.size ≤ 1000000) (h0 : s.data.toList[0]? = some 34) : Calls Tryz.prog 80 #[.string s] w fun e w' => e = .returned (.tuple #[.int .u8 (quoR s.data.toList).1, .int .i64 (quoR s.data.toList).2]) ∧ w = w' := by
  have hls : s.data.toList.length = s.size := (Lib.size_eq s).symm
  have HL := Lib.hid hls
  have HI : Hid (TInv s.data.toList false 1) := Lib.hid (by unfold TInv quoR; rw [if_pos h0]; rfl)
  have HZ : 1 ≤ s.size := by rw [← hls]; exact (List.getElem?_eq_some_iff.1 h0).1
  clear hls h0
  obtain ⟨R, hR⟩ : ∃ R, quoR s.data.toList = R := ⟨_, rfl⟩
  rw [hR]
  have HR := Lib.hid hR
  clear hR
  go_enter Tryz.func80, Tryz.ntmps80
  go_wp2_with fail
  go_loop [4, 5, 6] (fun b i _ => ∃ (B : Bool) (k : Nat), b = .bool B ∧ i = .int .i64 k ∧ k ≤ s.size ∧ Hid (TInv s.data.toList B k)) (fun _ i _ => s.size - (intOf i).toNat)
  case atStart => exact ⟨false, 1, rfl, rfl, HZ, HI⟩
  case round =>
    clear HI
    obtain ⟨B, k, rfl, rfl, hk, HI⟩ := hrel
    by_cases hlt : k < s.size
    · have hlt' : (k : Int) < (s.size : Int) := by omega
      have hgc := Lib.hid (str_get s k hlt)
      have e1 : (((s[k]'hlt).toNat : Int) == 34) = ((s[k]'hlt) == 34) := u8_eq rfl
      have e2 : (((s[k]'hlt).toNat : Int) != 10) = !((s[k]'hlt) == 10) := u8_ne rfl
      have e3 : (((s[k]'hlt).toNat : Int) == 92) = ((s[k]'hlt) == 92) := u8_eq rfl
      have w1 : IntKind.i64.wrap ((k : Int) + 1) = ((k + 1 : Nat) : Int) := by rw [IntWalk.i64_in _ (by omega)]; omega
      have w2 : IntKind.i64.wrap (((k + 1 : Nat) : Int) + 1) = ((k + 2 : Nat) : Int) := by rw [IntWalk.i64_in _ (by omega)]; omega
      cases b2 : ((s[k]'hlt) == 10) with
      | true =>
        rw [b2] at e2
        have HN : Hid (R = (9, k)) := Lib.hid (by rw [← HR.out]; exact t_line HI.out hgc.out b2)
        clear b2 e1 e3
        go_wp2_with fail
        go_ret2
        exact ⟨by rw [HN.out]; rfl, rfl⟩
      | false =>
        rw [b2] at e2
        cases b1 : ((s[k]'hlt) == 34) with
        | true =>
          rw [b1] at e1
          have HN : Hid (R = (if B then 9 else 7, k + 1)) := Lib.hid (by rw [← HR.out]; exact t_close HI.out hgc.out b1)
          clear b1 b2 e3
          cases B
          all_goals
            go_wp2_with fail
            go_ret2
            exact ⟨by rw [HN.out]; rfl, rfl⟩
        | false =>
          rw [b1] at e1
          cases b3 : ((s[k]'hlt) == 92) with
          | false =>
            rw [b3] at e3
            have HN := Lib.hid (t_else HI.out hgc.out b1 b2 (.inl b3))
            clear b1 b2 b3
            go_wp2_with fail
            go_round
            case rel => exact ⟨B, k + 1, rfl, rfl, by omega, HN⟩
            case measure => simp [intOf]; omega
          | true =>
            rw [b3] at e3
            cases B with
            | true =>
              have HN := Lib.hid (t_else HI.out hgc.out b1 b2 (.inr rfl))
              clear b1 b2 b3
              go_wp2_with fail
              go_round
              case rel => exact ⟨true, k + 1, rfl, rfl, by omega, HN⟩
              case measure => simp [intOf]; omega
            | false =>
              obtain ⟨K1, hK1⟩ : ∃ K1, k + 1 = K1 := ⟨_, rfl⟩
              obtain ⟨K2, hK2⟩ : ∃ K2, K1 + 1 = K2 := ⟨_, rfl⟩
              have HYes := Lib.hid (t_esc HI.out hgc.out b3)
              have HNo := Lib.hid (t_bad HI.out hgc.out b3)
              rw [show k + 2 = K2 by omega, hK1] at HYes
              rw [hK1] at HNo
              have u1 : IntKind.i64.wrap ((k : Int) + 1) = (K1 : Int) := by rw [IntWalk.i64_in _ (by omega)]; omega
              have u2 : IntKind.i64.wrap ((K1 : Int) + 1) = (K2 : Int) := by rw [IntWalk.i64_in _ (by omega)]; omega
              have c1 := fun Wd => at_any s K1 Wd (by omega)
              have hE : escB (atB s.data.toList K1) = (atB s.data.toList K1 == 110 || atB s.data.toList K1 == 116 || atB s.data.toList K1 == 92 || atB s.data.toList K1 == 34) := rfl
              have f1 : (((atB s.data.toList K1).toNat : Int) == 110) = (atB s.data.toList K1 == 110) := u8_eq rfl
              have f2 : (((atB s.data.toList K1).toNat : Int) == 116) = (atB s.data.toList K1 == 116) := u8_eq rfl
              have f3 : (((atB s.data.toList K1).toNat : Int) == 92) = (atB s.data.toList K1 == 92) := u8_eq rfl
              have f4 : (((atB s.data.toList K1).toNat : Int) == 34) = (atB s.data.toList K1 == 34) := u8_eq rfl
              have hkK : k < K1 ∧ K1 < K2 := by omega
              have hK1s : K1 ≤ s.size := by omega
              clear b1 b2 b3 w1 w2 hK1 hK2
              cases hA : escB (atB s.data.toList K1) with
              | true =>
                have HN := Lib.hid (HYes.out hA).1
                have hk2 : K2 ≤ s.size := by rw [← HL.out]; exact (HYes.out hA).2
                rw [hA] at hE
                clear hA HYes HNo
                generalize (atB s.data.toList K1 == 110) = A1 at *
                generalize (atB s.data.toList K1 == 116) = A2 at *
                generalize (atB s.data.toList K1 == 92) = A3 at *
                generalize (atB s.data.toList K1 == 34) = A4 at *
                generalize atB s.data.toList K1 = C at *
                have hW : A1 = true ∨ (A1 = false ∧ A2 = true) ∨ (A1 = false ∧ A2 = false ∧ A3 = true) ∨ (A1 = false ∧ A2 = false ∧ A3 = false ∧ A4 = true) := by
                  revert hE; cases A1 <;> cases A2 <;> cases A3 <;> cases A4 <;> simp
                clear hE
                rcases hW with rfl | ⟨rfl, rfl⟩ | ⟨rfl, rfl, rfl⟩ | ⟨rfl, rfl, rfl, rfl⟩
                all_goals
                  go_wp2_with (go_at_call 72; ((with_reducible refine (c1 _).mono ?_); rintro e w' ⟨rfl, rfl⟩))
                  go_round
                  case rel => exact ⟨false, K2, rfl, rfl, hk2, HN⟩
                  case measure => simp [intOf]; omega
              | false =>
                have HN := Lib.hid (HNo.out hA)
                rw [hA] at hE
                clear hA HYes HNo
                generalize (atB s.data.toList K1 == 110) = A1 at *
                generalize (atB s.data.toList K1 == 116) = A2 at *
                generalize (atB s.data.toList K1 == 92) = A3 at *
                generalize (atB s.data.toList K1 == 34) = A4 at *
                generalize atB s.data.toList K1 = C at *
                have hW : A1 = false ∧ A2 = false ∧ A3 = false ∧ A4 = false := by
                  revert hE; cases A1 <;> cases A2 <;> cases A3 <;> cases A4 <;> simp
                clear hE
                obtain ⟨rfl, rfl, rfl, rfl⟩ := hW
                go_wp2_with (go_at_call 72; ((with_reducible refine (c1 _).mono ?_); rintro e w' ⟨rfl, rfl⟩))
                go_round
                case rel => exact ⟨true, K1, rfl, rfl, hK1s, HN⟩
                case measure => simp [intOf]; omega
    · have hlt' : ¬ (k : Int) < (s.size : Int) := by omega
      have hke : k = s.size := by omega
      have HN : Hid (R = (9, k)) := Lib.hid (by rw [← HR.out]; exact t_end HI.out (by rw [HL.out]; omega))
      clear hke
      go_wp2_with fail
      go_ret2
      exact ⟨by rw [HN.out]; rfl, rfl⟩
end Go.Proofs.YtingfomfibhnhaaGreatDoor
namespace Go.Proofs.YtingfomfibhnhaaGreatDoor
open Go.RowKit

theorem head_at {s : ByteArray} (h0 : 0 < s.size) : ∃ r, s.data.toList = (s[0]'h0) :: r := by
  have hg := str_get s 0 h0
  cases hl : s.data.toList with
  | nil => rw [hl] at hg; cases hg
  | cons c r => rw [hl] at hg; exact ⟨r, by rw [← Option.some.inj hg]⟩
theorem cut_cons (c : UInt8) (r : List UInt8) : cut (c :: r) = if blankB c then (1, lead blankB (c :: r))
  else if opens (c :: r) then (if (rem 0 false (c :: r)).2 then 2 else 9, (rem 0 false (c :: r)).1)
  else if lowB c then (nameK ((c :: r).take (lead inB (c :: r))), lead inB (c :: r))
  else if digB c then num (c :: r)
  else if c == 34 then addN (quo 0 r)
  else if twosL.contains ((c :: r).take 2) then (8, 2)
  else if onesL.contains c then (8, 1)
  else (9, runeN (c :: r)) := rfl
def twosC2 : Array Value := #[.string ⟨#[45, 62]⟩, .string ⟨#[58, 58]⟩, .string ⟨#[60, 62]⟩, .string ⟨#[60, 61]⟩, .string ⟨#[62, 61]⟩, .string ⟨#[43, 46]⟩, .string ⟨#[45, 46]⟩, .string ⟨#[42, 46]⟩, .string ⟨#[47, 46]⟩, .string ⟨#[38, 38]⟩, .string ⟨#[124, 124]⟩]
theorem twos_cell (k : Nat) (h : k < 11) : twosC2[k]? = some (.string (twoS k)) := by
  rcases (by omega : k = 0 ∨ k = 1 ∨ k = 2 ∨ k = 3 ∨ k = 4 ∨ k = 5 ∨ k = 6 ∨ k = 7 ∨ k = 8 ∨ k = 9 ∨ k = 10) with rfl | rfl | rfl | rfl | rfl | rfl | rfl | rfl | rfl | rfl | rfl <;> rfl
def onesB : ByteArray := ⟨#[40, 41, 91, 93, 44, 59, 124, 61, 60, 62, 43, 45, 42, 47, 94, 64]⟩
theorem ones_get (k : Nat) (h : k < 16) : onesB[k]'h = onesL.getD k 0 := by
  rcases (by omega : k = 0 ∨ k = 1 ∨ k = 2 ∨ k = 3 ∨ k = 4 ∨ k = 5 ∨ k = 6 ∨ k = 7 ∨ k = 8 ∨ k = 9 ∨ k = 10 ∨ k = 11 ∨ k = 12 ∨ k = 13 ∨ k = 14 ∨ k = 15) with rfl | rfl | rfl | rfl | rfl | rfl | rfl | rfl | rfl | rfl | rfl | rfl | rfl | rfl | rfl | rfl <;> rfl
def CutEnd (V : Nat × Nat) (w : World) (e : Ending) (w' : World) : Prop := e = .returned (.tuple #[.int .u8 V.1, .int .i64 V.2]) ∧ Below w.heap.size w w'
set_option maxRecDepth 100000 in
set_option maxHeartbeats 8000000 in
theorem rcut_blank (s : ByteArray) (w : World) (hz : s.size ≤ 1000000) (h0 : 0 < s.size) (hB : blankB (s[0]'h0) = true) : Calls Tryz.prog 61 #[.string s] w (CutEnd (cut s.data.toList) w) := by
  obtain ⟨r, hr⟩ := head_at h0
  have hc : cut s.data.toList = (1, lead blankB s.data.toList) := by rw [hr, cut_cons, if_pos hB]
  obtain ⟨M, hM⟩ : ∃ M, lead blankB s.data.toList = M := ⟨_, rfl⟩
  have hMs : M ≤ s.size := by rw [← hM, Lib.size_eq]; exact lead_le _ _
  rw [hc, hM]
  have HM := Lib.hid hM
  have h0i : (0 : Int) < (s.size : Int) := by omega
  have cb := fun Wd => rblank_any (s[0]'h0) Wd
  rw [hB] at cb
  clear hc hM hr hB
  go_enter Tryz.func61, Tryz.ntmps61
  go_wp2_with (first | (go_at_call 71; ((with_reducible refine (cb _).mono ?_); rintro e w' ⟨rfl, rfl⟩)))
  clear cb
  go_loop [5] (fun i => ∃ k : Nat, i = .int .i64 k ∧ k ≤ M) (fun i => M - (intOf i).toNat)
  case atStart => exact ⟨0, rfl, Nat.zero_le _⟩
  case round =>
    obtain ⟨k, rfl, hk⟩ := hrel
    by_cases hlt : k < M
    · have c1 := fun Wd => at_any s k Wd (by omega)
      have c2 := fun Wd => rblank_any (atB s.data.toList k) Wd
      rw [at_lt (p := blankB) (by rw [HM.out]; exact hlt)] at c2
      generalize atB s.data.toList k = C at *
      have w1 : IntKind.i64.wrap ((k : Int) + 1) = ((k + 1 : Nat) : Int) := by rw [IntWalk.i64_in _ (by omega)]; omega
      go_wp2_with (first | (go_at_call 72; ((with_reducible refine (c1 _).mono ?_); rintro e w' ⟨rfl, rfl⟩)) | (go_at_call 71; ((with_reducible refine (c2 _).mono ?_); rintro e w' ⟨rfl, rfl⟩)))
      go_round
      case rel => exact ⟨k + 1, rfl, by omega⟩
      case measure => simp [intOf]; omega
    · obtain rfl : k = M := by omega
      have c1 := fun Wd => at_any s k Wd (by omega)
      have hdg := at_end (p := blankB) (by decide) s.data.toList
      rw [HM.out] at hdg
      have c2 := fun Wd => rblank_any (atB s.data.toList k) Wd
      rw [hdg] at c2
      clear hdg
      generalize atB s.data.toList k = C at *
      go_wp2_with (first | (go_at_call 72; ((with_reducible refine (c1 _).mono ?_); rintro e w' ⟨rfl, rfl⟩)) | (go_at_call 71; ((with_reducible refine (c2 _).mono ?_); rintro e w' ⟨rfl, rfl⟩)))
      go_ret2
      exact ⟨rfl, Below.refl _ _⟩
set_option maxRecDepth 100000 in
set_option maxHeartbeats 8000000 in
theorem rcut_remark (s : ByteArray) (w : World) (hz : s.size ≤ 1000000) (h0 : 0 < s.size) (hB : blankB (s[0]'h0) = false) (hO : opens s.data.toList = true) : Calls Tryz.prog 61 #[.string s] w (CutEnd (cut s.data.toList) w) := by
  obtain ⟨r, hr⟩ := head_at h0
  have h0i : (0 : Int) < (s.size : Int) := by omega
  have cb := fun Wd => rblank_any (s[0]'h0) Wd
  rw [hB] at cb
  have ch := fun Wd => rhas_any s 0 ⟨#[40, 42]⟩ Wd (by omega)
  have eh : hasB s.data.toList 0 (⟨#[40, 42]⟩ : ByteArray).data.toList = opens s.data.toList := has_pre rfl
  rw [eh, hO] at ch
  have ez : (((0 : Nat)) : Int) = 0 := rfl
  rw [ez] at ch
  clear eh ez
  have hc : cut s.data.toList = (if (rem 0 false s.data.toList).2 then 2 else 9, (rem 0 false s.data.toList).1) := by
    rw [hr] at hO ⊢
    rw [cut_cons, if_neg (by simp [hB]), if_pos hO]
  have cr := fun Wd => rremark_any s Wd hz hO
  rw [hc]
  obtain ⟨R, hR⟩ : ∃ R, rem 0 false s.data.toList = R := ⟨_, rfl⟩
  rw [hR] at cr ⊢
  obtain ⟨n, b⟩ := R
  clear hc hR hr hB hO
  cases b
  all_goals
    go_enter Tryz.func61, Tryz.ntmps61
    go_wp2_with (first | (go_at_call 71; ((with_reducible refine (cb _).mono ?_); rintro e w' ⟨rfl, rfl⟩)) | (go_at_call 73; ((with_reducible refine (ch _).mono ?_); rintro e w' ⟨rfl, rfl⟩)) | (go_at_call 74; ((with_reducible refine (cr _).mono ?_); rintro e w' ⟨rfl, rfl⟩)))
    go_ret2
    exact ⟨rfl, Below.refl _ _⟩
set_option maxRecDepth 100000 in
set_option maxHeartbeats 8000000 in
theorem rcut_name (s : ByteArray) (w : World) (hz : s.size ≤ 1000000) (h0 : 0 < s.size) (hB : blankB (s[0]'h0) = false) (hO : opens s.data.toList = false) (hL : lowB (s[0]'h0) = true) : Calls Tryz.prog 61 #[.string s] w (CutEnd (cut s.data.toList) w) := by
  obtain ⟨r, hr⟩ := head_at h0
  have h0i : (0 : Int) < (s.size : Int) := by omega
  have cb := fun Wd => rblank_any (s[0]'h0) Wd
  rw [hB] at cb
  have ch := fun Wd => rhas_any s 0 ⟨#[40, 42]⟩ Wd (by omega)
  have eh : hasB s.data.toList 0 (⟨#[40, 42]⟩ : ByteArray).data.toList = opens s.data.toList := has_pre rfl
  rw [eh, hO] at ch
  have ez : (((0 : Nat)) : Int) = 0 := rfl
  rw [ez] at ch
  clear eh ez
  have cl := fun Wd => rlow_any (s[0]'h0) Wd
  rw [hL] at cl
  have hc : cut s.data.toList = (nameK (s.data.toList.take (lead inB s.data.toList)), lead inB s.data.toList) := by
    rw [hr] at hO ⊢
    rw [cut_cons, if_neg (by simp [hB]), if_neg (by simp [hO]), if_pos hL]
  obtain ⟨M, hM⟩ : ∃ M, lead inB s.data.toList = M := ⟨_, rfl⟩
  have hMs : M ≤ s.size := by rw [← hM, Lib.size_eq]; exact lead_le _ _
  rw [hc, hM]
  have HM := Lib.hid hM
  clear hc hM hr hB hO hL
  go_enter Tryz.func61, Tryz.ntmps61
  go_wp2_with (first | (go_at_call 71; ((with_reducible refine (cb _).mono ?_); rintro e w' ⟨rfl, rfl⟩)) | (go_at_call 73; ((with_reducible refine (ch _).mono ?_); rintro e w' ⟨rfl, rfl⟩)) | (go_at_call 75; ((with_reducible refine (cl _).mono ?_); rintro e w' ⟨rfl, rfl⟩)))
  clear cb ch cl
  go_loop [5] (fun i => ∃ k : Nat, i = .int .i64 k ∧ k ≤ M) (fun i => M - (intOf i).toNat)
  case atStart => exact ⟨0, rfl, Nat.zero_le _⟩
  case round =>
    obtain ⟨k, rfl, hk⟩ := hrel
    by_cases hlt : k < M
    · have c1 := fun Wd => at_any s k Wd (by omega)
      have c2 := fun Wd => rbehind_any (atB s.data.toList k) Wd
      rw [at_lt (p := inB) (by rw [HM.out]; exact hlt)] at c2
      generalize atB s.data.toList k = C at *
      have w1 : IntKind.i64.wrap ((k : Int) + 1) = ((k + 1 : Nat) : Int) := by rw [IntWalk.i64_in _ (by omega)]; omega
      go_wp2_with (first | (go_at_call 72; ((with_reducible refine (c1 _).mono ?_); rintro e w' ⟨rfl, rfl⟩)) | (go_at_call 76; ((with_reducible refine (c2 _).mono ?_); rintro e w' ⟨rfl, rfl⟩)))
      go_round
      case rel => exact ⟨k + 1, rfl, by omega⟩
      case measure => simp [intOf]; omega
    · obtain rfl : k = M := by omega
      have c1 := fun Wd => at_any s k Wd (by omega)
      have hdg := at_end (p := inB) (by decide) s.data.toList
      rw [HM.out] at hdg
      have c2 := fun Wd => rbehind_any (atB s.data.toList k) Wd
      rw [hdg] at c2
      clear hdg
      generalize atB s.data.toList k = C at *
      have hki : (k : Int) ≤ (s.size : Int) := by omega
      have hkz : (0 : Int) ≤ (k : Int) := by omega
      obtain ⟨T, hT⟩ : ∃ T, s.extract 0 k = T := ⟨_, rfl⟩
      have hTl : T.data.toList = s.data.toList.take k := by rw [← hT, Utf.extract_list, List.drop_zero]
      have hTe : (T.toList == [95]) = (T.data.toList == [95]) := by rw [Lib.toList_data]
      rw [← hTl]
      have HTL := Lib.hid hTl
      have cw := fun Wd => rword_any T Wd
      clear hTl
      by_cases hU : T.data.toList = [95]
      · have HN : Hid (nameK T.data.toList = 8) := Lib.hid (by unfold nameK; rw [if_pos hU])
        have hk1 : k = 1 := by
          have := congrArg List.length HTL.out
          rw [hU, List.length_take, ← Lib.size_eq] at this
          simp at this; omega
        have HK1 := Lib.hid hk1
        rw [hU] at hTe
        clear hU hk1
        go_wp2_with (first | (go_at_call 72; ((with_reducible refine (c1 _).mono ?_); rintro e w' ⟨rfl, rfl⟩)) | (go_at_call 76; ((with_reducible refine (c2 _).mono ?_); rintro e w' ⟨rfl, rfl⟩)))
        go_ret2
        exact ⟨by rw [← HTL.out, HN.out, HK1.out]; rfl, Below.refl _ _⟩
      · have hTf : (T.toList == [95]) = false := by rw [hTe, beq_eq_false_iff_ne]; exact hU
        clear hTe
        cases hW : wordsL.contains T.data.toList with
        | true =>
          have HN : Hid (nameK T.data.toList = 3) := Lib.hid (by unfold nameK; rw [if_neg hU, if_pos hW])
          rw [hW] at cw
          clear hU hW
          go_wp2_with (first | (go_at_call 72; ((with_reducible refine (c1 _).mono ?_); rintro e w' ⟨rfl, rfl⟩)) | (go_at_call 76; ((with_reducible refine (c2 _).mono ?_); rintro e w' ⟨rfl, rfl⟩)) | (go_at_call 77; ((with_reducible refine (cw _).mono ?_); rintro e w2 ⟨rfl, hb2⟩)))
          go_ret2
          exact ⟨by rw [← HTL.out, HN.out]; rfl, hb2⟩
        | false =>
          have HN : Hid (nameK T.data.toList = 4) := Lib.hid (by unfold nameK; rw [if_neg hU, if_neg (by simp only [hW]; decide)])
          rw [hW] at cw
          clear hU hW
          go_wp2_with (first | (go_at_call 72; ((with_reducible refine (c1 _).mono ?_); rintro e w' ⟨rfl, rfl⟩)) | (go_at_call 76; ((with_reducible refine (c2 _).mono ?_); rintro e w' ⟨rfl, rfl⟩)) | (go_at_call 77; ((with_reducible refine (cw _).mono ?_); rintro e w2 ⟨rfl, hb2⟩)))
          go_ret2
          exact ⟨by rw [← HTL.out, HN.out]; rfl, hb2⟩
set_option maxRecDepth 100000 in
set_option maxHeartbeats 8000000 in
theorem rcut_num (s : ByteArray) (w : World) (hz : s.size ≤ 1000000) (h0 : 0 < s.size) (hB : blankB (s[0]'h0) = false) (hO : opens s.data.toList = false) (hL : lowB (s[0]'h0) = false) (hD : digB (s[0]'h0) = true) : Calls Tryz.prog 61 #[.string s] w (CutEnd (cut s.data.toList) w) := by
  obtain ⟨r, hr⟩ := head_at h0
  have h0i : (0 : Int) < (s.size : Int) := by omega
  have cb := fun Wd => rblank_any (s[0]'h0) Wd
  rw [hB] at cb
  have ch := fun Wd => rhas_any s 0 ⟨#[40, 42]⟩ Wd (by omega)
  have eh : hasB s.data.toList 0 (⟨#[40, 42]⟩ : ByteArray).data.toList = opens s.data.toList := has_pre rfl
  rw [eh, hO] at ch
  have ez : (((0 : Nat)) : Int) = 0 := rfl
  rw [ez] at ch
  clear eh ez
  have cl := fun Wd => rlow_any (s[0]'h0) Wd
  rw [hL] at cl
  have cd := fun Wd => rdigit_any (s[0]'h0) Wd
  rw [hD] at cd
  have hc : cut s.data.toList = num s.data.toList := by
    rw [hr] at hO ⊢
    rw [cut_cons, if_neg (by simp [hB]), if_neg (by simp [hO]), if_neg (by simp [hL]), if_pos hD]
  have cn := fun Wd => rnumber_any s Wd hz
  rw [hc]
  generalize num s.data.toList = R at *
  clear hc hr hB hO hL hD
  go_enter Tryz.func61, Tryz.ntmps61
  go_wp2_with (first | (go_at_call 71; ((with_reducible refine (cb _).mono ?_); rintro e w' ⟨rfl, rfl⟩)) | (go_at_call 73; ((with_reducible refine (ch _).mono ?_); rintro e w' ⟨rfl, rfl⟩)) | (go_at_call 75; ((with_reducible refine (cl _).mono ?_); rintro e w' ⟨rfl, rfl⟩)) | (go_at_call 78; ((with_reducible refine (cd _).mono ?_); rintro e w' ⟨rfl, rfl⟩)) | (go_at_call 79; ((with_reducible refine (cn _).mono ?_); rintro e w' ⟨rfl, rfl⟩)))
  go_ret2
  exact ⟨rfl, Below.refl _ _⟩
set_option maxRecDepth 100000 in
set_option maxHeartbeats 8000000 in
theorem rcut_text (s : ByteArray) (w : World) (hz : s.size ≤ 1000000) (h0 : 0 < s.size) (hB : blankB (s[0]'h0) = false) (hO : opens s.data.toList = false) (hL : lowB (s[0]'h0) = false) (hD : digB (s[0]'h0) = false) (hQ : ((s[0]'h0) == 34) = true) : Calls Tryz.prog 61 #[.string s] w (CutEnd (cut s.data.toList) w) := by
  obtain ⟨r, hr⟩ := head_at h0
  have h0i : (0 : Int) < (s.size : Int) := by omega
  have cb := fun Wd => rblank_any (s[0]'h0) Wd
  rw [hB] at cb
  have ch := fun Wd => rhas_any s 0 ⟨#[40, 42]⟩ Wd (by omega)
  have eh : hasB s.data.toList 0 (⟨#[40, 42]⟩ : ByteArray).data.toList = opens s.data.toList := has_pre rfl
  rw [eh, hO] at ch
  have ez : (((0 : Nat)) : Int) = 0 := rfl
  rw [ez] at ch
  clear eh ez
  have cl := fun Wd => rlow_any (s[0]'h0) Wd
  rw [hL] at cl
  have cd := fun Wd => rdigit_any (s[0]'h0) Wd
  rw [hD] at cd
  have hq : (((s[0]'h0).toNat : Int) == 34) = true := by rw [u8_eq (c := s[0]'h0) (k := 34) (n := 34) rfl]; exact hQ
  have h34 : s.data.toList[0]? = some 34 := by rw [hr]; rw [beq_iff_eq] at hQ; rw [hQ]; rfl
  have hc : cut s.data.toList = quoR s.data.toList := by
    unfold quoR
    rw [if_pos h34]
    rw [hr] at hO ⊢
    rw [cut_cons, if_neg (by simp [hB]), if_neg (by simp [hO]), if_neg (by simp [hL]), if_neg (by simp [hD]), if_pos hQ, addN_sh]
    rfl
  have cn := fun Wd => rtext_any s Wd hz h34
  rw [hc]
  generalize quoR s.data.toList = R at *
  clear hc hr hB hO hL hD hQ h34
  go_enter Tryz.func61, Tryz.ntmps61
  go_wp2_with (first | (go_at_call 71; ((with_reducible refine (cb _).mono ?_); rintro e w' ⟨rfl, rfl⟩)) | (go_at_call 73; ((with_reducible refine (ch _).mono ?_); rintro e w' ⟨rfl, rfl⟩)) | (go_at_call 75; ((with_reducible refine (cl _).mono ?_); rintro e w' ⟨rfl, rfl⟩)) | (go_at_call 78; ((with_reducible refine (cd _).mono ?_); rintro e w' ⟨rfl, rfl⟩)) | (go_at_call 80; ((with_reducible refine (cn _).mono ?_); rintro e w' ⟨rfl, rfl⟩)))
  go_ret2
  exact ⟨rfl, Below.refl _ _⟩
set_option maxRecDepth 100000 in
set_option maxHeartbeats 8000000 in
theorem rcut_sign (s : ByteArray) (w : World) (hz : s.size ≤ 1000000) (h0 : 0 < s.size) (hE : Env w) (hB : blankB (s[0]'h0) = false) (hO : opens s.data.toList = false) (hL : lowB (s[0]'h0) = false) (hD : digB (s[0]'h0) = false) (hQ : ((s[0]'h0) == 34) = false) : Calls Tryz.prog 61 #[.string s] w (CutEnd (cut s.data.toList) w) := by
  obtain ⟨r, hr⟩ := head_at h0
  have h0i : (0 : Int) < (s.size : Int) := by omega
  have cb := fun Wd => rblank_any (s[0]'h0) Wd
  rw [hB] at cb
  have ch := fun Wd => rhas_any s 0 ⟨#[40, 42]⟩ Wd (by omega)
  have eh : hasB s.data.toList 0 (⟨#[40, 42]⟩ : ByteArray).data.toList = opens s.data.toList := has_pre rfl
  rw [eh, hO] at ch
  have ez : (((0 : Nat)) : Int) = 0 := rfl
  rw [ez] at ch
  clear eh ez
  have cl := fun Wd => rlow_any (s[0]'h0) Wd
  rw [hL] at cl
  have cd := fun Wd => rdigit_any (s[0]'h0) Wd
  rw [hD] at cd
  have hq : (((s[0]'h0).toNat : Int) == 34) = false := by rw [u8_eq (c := s[0]'h0) (k := 34) (n := 34) rfl]; exact hQ
  have hc : cut s.data.toList = if twosL.contains (s.data.toList.take 2) then (8, 2) else if onesL.contains (s[0]'h0) then (8, 1) else (9, runeN s.data.toList) := by
    rw [hr] at hO ⊢
    rw [cut_cons, if_neg (by simp [hB]), if_neg (by simp [hO]), if_neg (by simp [hL]), if_neg (by simp [hD]), if_neg (by simp [hQ])]
  have HC := Lib.hid hc
  have hba : Below w.heap.size w (w.alloc (.cells twosC2 9)) := galloc2 (Below.refl _ _) (Nat.le_refl _) _
  have hn := heap_alloc_new w (.cells twosC2 9)
  have HE1 := Lib.hid (hE.below hba hE.size)
  have HB := Lib.hid hba
  have HN := Lib.hid hn
  clear hba hn hc hr hB hO hL hD hQ hE
  obtain ⟨R, hR⟩ : ∃ R, cut s.data.toList = R := ⟨_, rfl⟩
  rw [hR] at HC ⊢
  clear hR
  obtain ⟨w1, hw1⟩ : ∃ w1, w.alloc (.cells twosC2 9) = w1 := ⟨_, rfl⟩
  rw [hw1] at HB HN HE1
  unfold twosC2 at hw1
  go_enter Tryz.func61, Tryz.ntmps61
  go_wp2_with (first | (go_at_call 71; ((with_reducible refine (cb _).mono ?_); rintro e w' ⟨rfl, rfl⟩)) | (go_at_call 73; ((with_reducible refine (ch _).mono ?_); rintro e w' ⟨rfl, rfl⟩)) | (go_at_call 75; ((with_reducible refine (cl _).mono ?_); rintro e w' ⟨rfl, rfl⟩)) | (go_at_call 78; ((with_reducible refine (cd _).mono ?_); rintro e w' ⟨rfl, rfl⟩)))
  clear cb ch cl cd
  go_loop [9] (fun i => ∃ k : Nat, i = .int .i64 k ∧ k ≤ 11 ∧ Hid (∀ j, j < k → Lib.hasPrefix s.data.toList (twosL.getD j []) = false)) (fun i => 11 - (intOf i).toNat)
  case atStart => exact ⟨0, rfl, by omega, Lib.hid (fun j hj => by omega)⟩
  case round =>
    obtain ⟨k, rfl, hk, HJ⟩ := hrel
    by_cases hlt : k < 11
    · have hlt' : (k : Int) < 11 := by omega
      have hx : w1.cell? ⟨w.heap.size, k, none⟩ = some (.string (twoS k)) := (cellH HN.out k).trans (twos_cell k hlt)
      have c1 := fun W => rhas_any s 0 (twoS k) W (by omega)
      have e1 : hasB s.data.toList 0 (twoS k).data.toList = Lib.hasPrefix s.data.toList (twosL.getD k []) := has_pre (two_getD k hlt).1
      have ez : (((0 : Nat)) : Int) = 0 := rfl
      rw [e1, ez] at c1
      generalize twoS k = TS at *
      clear e1 ez
      have w1' : IntKind.i64.wrap ((k : Int) + 1) = ((k + 1 : Nat) : Int) := by rw [IntWalk.i64_in _ (by omega)]; omega
      cases hb : Lib.hasPrefix s.data.toList (twosL.getD k []) with
      | true =>
        rw [hb] at c1
        have HV : Hid (R = (8, 2)) := Lib.hid (by
          have h := two_yes hlt hb
          unfold twoR at h
          by_cases g : twosL.contains (s.data.toList.take 2) = true
          · rw [HC.out, if_pos g]
          · rw [if_neg g] at h; cases h)
        clear hb
        go_wp2_with (first | (go_at_call 73; ((with_reducible refine (c1 _).mono ?_); rintro e w' ⟨rfl, rfl⟩)))
        go_ret2
        exact ⟨by rw [HV.out]; rfl, HB.out⟩
      | false =>
        rw [hb] at c1
        have HJ2 : Hid (∀ j, j < k + 1 → Lib.hasPrefix s.data.toList (twosL.getD j []) = false) := Lib.hid (fun j hj => by
          rcases Nat.lt_or_ge j k with g | g
          · exact HJ.out j g
          · obtain rfl : j = k := by omega
            exact hb)
        clear hb
        go_wp2_with (first | (go_at_call 73; ((with_reducible refine (c1 _).mono ?_); rintro e w' ⟨rfl, rfl⟩)))
        go_round
        case rel => exact ⟨k + 1, rfl, by omega, HJ2⟩
        case measure => simp [intOf]; omega
    · obtain rfl : k = 11 := by omega
      have HC2 : Hid (R = if onesL.contains (s[0]'h0) then (8, 1) else (9, runeN s.data.toList)) := Lib.hid (by
        have h := two_no HJ.out
        unfold twoR at h
        by_cases g : twosL.contains (s.data.toList.take 2) = true
        · rw [if_pos g] at h; cases h
        · rw [HC.out, if_neg g])
      have hlt' : ¬ (((11 : Nat) : Int) < 11) := by omega
      go_wp2_with fail
      go_loop [11] (fun i => ∃ k : Nat, i = .int .i64 k ∧ k ≤ 16 ∧ Hid (∀ j, j < k → (onesL.getD j 0 == (s[0]'h0)) = false)) (fun i => 16 - (intOf i).toNat)
      case atStart => exact ⟨0, rfl, by omega, Lib.hid (fun j hj => by omega)⟩
      case round =>
        obtain ⟨k, rfl, hk2, HJ2⟩ := hrel
        by_cases hl2 : k < 16
        · have hl2' : (k : Int) < 16 := by omega
          have hog := ones_get k hl2
          unfold onesB at hog
          have heq : (((onesL.getD k 0).toNat : Int) == ((s[0]'h0).toNat : Int)) = (onesL.getD k 0 == (s[0]'h0)) := u8_eq rfl
          obtain ⟨O, hOe⟩ : ∃ O, onesL.getD k 0 = O := ⟨_, rfl⟩
          rw [hOe] at hog heq
          have HOe := Lib.hid hOe
          clear hOe
          have w1' : IntKind.i64.wrap ((k : Int) + 1) = ((k + 1 : Nat) : Int) := by rw [IntWalk.i64_in _ (by omega)]; omega
          cases hb : (O == (s[0]'h0)) with
          | true =>
            rw [hb] at heq
            have HV : Hid (R = (8, 1)) := Lib.hid (by rw [HC2.out, if_pos (has_at (l := onesL) (d := 0) hl2 (by rw [HOe.out]; exact hb))])
            clear hb
            go_wp2_with fail
            go_ret2
            exact ⟨by rw [HV.out]; rfl, HB.out⟩
          | false =>
            rw [hb] at heq
            have HJ3 : Hid (∀ j, j < k + 1 → (onesL.getD j 0 == (s[0]'h0)) = false) := Lib.hid (fun j hj => by
              rcases Nat.lt_or_ge j k with g | g
              · exact HJ2.out j g
              · obtain rfl : j = k := by omega
                rw [HOe.out]; exact hb)
            clear hb
            go_wp2_with fail
            go_round
            case rel => exact ⟨k + 1, rfl, by omega, HJ3⟩
            case measure => simp [intOf]; omega
        · obtain rfl : k = 16 := by omega
          have HV : Hid (R = (9, runeN s.data.toList)) := Lib.hid (by rw [HC2.out, if_neg (by rw [has_not (l := onesL) (d := 0) HJ2.out]; decide)])
          have hl2' : ¬ (((16 : Nat) : Int) < 16) := by omega
          have cr := Utf.rrune_any s w1
          rw [rune_n] at cr
          generalize runeN s.data.toList = n at *
          go_wp2_with (go_at_call 70; ((with_reducible refine cr.mono ?_); rintro e w2 ⟨rfl, hb2⟩))
          go_ret2
          exact ⟨by rw [HV.out]; rfl, HB.out.trans (hb2.mono HB.out.size)⟩
theorem rcut_any (s : ByteArray) (w : World) (hz : s.size ≤ 1000000) (h0 : 0 < s.size) (hE : Env w) : Calls Tryz.prog 61 #[.string s] w (CutEnd (cut s.data.toList) w) := by
  cases hB : blankB (s[0]'h0) with
  | true => exact rcut_blank s w hz h0 hB
  | false =>
    cases hO : opens s.data.toList with
    | true => exact rcut_remark s w hz h0 hB hO
    | false =>
      cases hL : lowB (s[0]'h0) with
      | true => exact rcut_name s w hz h0 hB hO hL
      | false =>
        cases hD : digB (s[0]'h0) with
        | true => exact rcut_num s w hz h0 hB hO hL hD
        | false =>
          cases hQ : ((s[0]'h0) == 34) with
          | true => exact rcut_text s w hz h0 hB hO hL hD hQ
          | false => exact rcut_sign s w hz h0 hE hB hO hL hD hQ
end Go.Proofs.YtingfomfibhnhaaGreatDoor
namespace Go.Proofs.YtingfomfibhnhaaGreatDoor
open Go.RowKit

set_option maxRecDepth 100000 in
set_option maxHeartbeats 16000000 in
theorem rtokens_any (s : ByteArray) (w : World) (hz : s.size ≤ 1000000) (hE : Env w) : Calls Tryz.prog 46 #[.string s] w (TokEnd (tokL s.data.toList) (tokE s.data.toList) w) := by
  have hls : s.data.toList.length = s.size := (Lib.size_eq s).symm
  have hL : tokL s.data.toList = if tokE s.data.toList = 0 then toks s.data.toList else [] := rfl
  have hK : tokE s.data.toList = if 65536 < s.size then 40 else if valB s.data.toList then 0 else 4 := by rw [← hls]; rfl
  generalize tokE s.data.toList = K at *
  generalize tokL s.data.toList = E at *
  by_cases h1 : 65536 < s.size
  · have h1' : (65536 : Int) < (s.size : Int) := by omega
    have HK : Hid (K = 40) := Lib.hid (by rw [hK, if_pos h1])
    have HL : Hid (E = []) := Lib.hid (by rw [hL, HK.out]; rfl)
    clear hL hK hls hE
    go_enter Tryz.func46, Tryz.ntmps46
    go_wp2_with fail
    go_ret2
    exact ⟨.slice none 0 0, by rw [HK.out]; rfl, by rw [HL.out]; exact World.ownsRow_nil _ _ _ _, Below.refl _ _⟩
  · have h1' : ¬ (65536 : Int) < (s.size : Int) := by omega
    rw [if_neg h1] at hK
    have hv := Utf.rvalid_any s w
    rw [val_eq] at hv
    cases hV : valB s.data.toList with
    | false =>
      have HK : Hid (K = 4) := Lib.hid (by rw [hK, hV]; rfl)
      have HL : Hid (E = []) := Lib.hid (by rw [hL, HK.out]; rfl)
      rw [hV] at hv
      clear hL hK hls hE hV
      go_enter Tryz.func46, Tryz.ntmps46
      go_wp2_with (go_at_call 60; refine hv.mono ?_; rintro e w1 ⟨rfl, hb⟩)
      go_ret2
      exact ⟨.slice none 0 0, by rw [HK.out]; rfl, by rw [HL.out]; exact World.ownsRow_nil _ _ _ _, hb⟩
    | true =>
      have HK : Hid (K = 0) := Lib.hid (by rw [hK, hV]; rfl)
      have HLL : Hid (E = toks s.data.toList) := Lib.hid (by rw [hL, HK.out]; rfl)
      rw [hV] at hv
      have HE := Lib.hid hE
      clear hL hK hls hE hV
      obtain ⟨i32, hi9, hz0, hz1, hz2⟩ := info_parts info32
      obtain ⟨EV, hEV⟩ : ∃ EV, toks s.data.toList = EV := ⟨_, rfl⟩
      have hfew : EV.length ≤ 1000000 := by rw [← hEV]; have := toks_len s.data.toList; rw [← Lib.size_eq] at this; omega
      have H0 : Hid (EV = [] ++ toks s.data.toList) := Lib.hid hEV.symm
      rw [hEV] at HLL
      clear hEV
      go_enter Tryz.func46, Tryz.ntmps46
      go_wp2_with fail
      refine hv.mono ?_
      rintro e w1 ⟨rfl, hb1⟩
      have HB1 := Lib.hid hb1
      have HE1 := Lib.hid (HE.out.below hb1 HE.out.size)
      clear hb1 hv
      go_wp2_with fail
      go_loopw [0, 4] (fun v ov wr => ∃ (X : ByteArray) (E : List Tok), v = .string X ∧ X.size ≤ s.size ∧ Hid (EV = E ++ toks X.data.toList) ∧ Hid (ToksAt w1.heap.size wr ov E) ∧ Hid (Below w1.heap.size w1 wr)) (fun v _ _ => strLen v)
      case atStart => exact ⟨s, [], rfl, Nat.le_refl _, H0, Lib.hid (World.ownsRow_nil _ _ _ _), Lib.hid (Below.refl _ _)⟩
      case round =>
        obtain ⟨X, E, rfl, hX, HV, HO, HB⟩ := hrel
        obtain ⟨po, co, rfl⟩ := owns_shape HO.out
        by_cases h0 : 0 < X.size
        · have e0 := Utf.isEmpty_no h0
          have hne : X.data.toList ≠ [] := by intro x; rw [Lib.size_eq, x] at h0; simp at h0
          have HN := Lib.hid (toks_snoc HV.out hne)
          have hbd := cut_bd X.data.toList hne
          rw [← Lib.size_eq] at hbd
          have HEr := HE1.out.below HB.out HE1.out.size
          have hc := rcut_any X wr (by omega) h0 HEr
          have HEl : Hid (E.length + 1 ≤ 1000000) := Lib.hid (by have := congrArg List.length HN.out; rw [List.length_append, List.length_append] at this; simp only [List.length_cons, List.length_nil] at this; omega)
          generalize cut X.data.toList = C at hc HN hbd
          obtain ⟨k, n⟩ := C
          have hn0 : 0 < n := hbd.1
          have hnX : n ≤ X.size := hbd.2
          have hnX' : (n : Int) ≤ (X.size : Int) := by omega
          have hn0' : (0 : Int) ≤ (n : Int) := by omega
          have HZ : Hid ((X.extract n X.size).size < X.size) := Lib.hid (by rw [ext_size]; omega)
          have HN2 : Hid (EV = (E ++ [(k, X.data.toList.take n)]) ++ toks (X.extract n X.size).data.toList) := Lib.hid (by rw [ext_list]; exact HN.out)
          clear hbd HN HEr
          go_wp2_with fail
          refine hc.mono ?_
          rintro e wf ⟨rfl, hbf⟩
          have HOf := Lib.hid (HO.out.below hbf)
          have HBf := Lib.hid (HB.out.trans (hbf.mono HB.out.size))
          clear hbf hc
          obtain ⟨wa, hwa⟩ : ∃ wa, wf.alloc (.cells #[.int .u8 k, .string (X.extract 0 n)] 25) = wa := ⟨_, rfl⟩
          have NW : Hid (∀ (j : Nat) u, ([.int .u8 k, .string (X.extract 0 n)] : List Value)[j]? = some u → wa.cell? ((⟨wf.heap.size, 0, none⟩ : Addr).add j) = some u) := Lib.hid (by rw [← hwa]; exact World.news_of_block (heap_alloc_new wf _))
          have ba : Below wf.heap.size wf wa := by rw [← hwa]; exact galloc2 (Below.refl _ _) (Nat.le_refl _) _
          have OW : Hid (wa.ownsRow w1.heap.size 25 2 _ E.length (E.flatMap tokC)) := Lib.hid (owns_below HOf.out ba)
          have BA : Hid (Below w1.heap.size w1 wa) := Lib.hid (HBf.out.trans (ba.mono HBf.out.size))
          clear ba
          subst hwa
          go_wp2_with (at_builtin; refine wpList_append_own _ rfl _ _ 51 rfl w1.heap.size 25 i32 (.agg #[.int .u8 0, .string ⟨#[]⟩]) 2 24 und26 hi9 hz0 hz1 hz2 rfl (by decide) _ _ _ rfl OW.out ⟨wf.heap.size, 0, none⟩ 1 1 [.int .u8 k, .string (X.extract 0 n)] rfl rfl NW.out (by simp [Value.oneCell']) ?c3 ?c4 ?c5 ?_)
          case c3 => have := HEl.out; unfold maxLen; omega
          case c4 => have := HEl.out; omega
          case c5 => first | exact BA.out.size | (have := BA.out.size; simpa using this)
          intro v' w2 hown hgrow _
          have O1 : Hid (ToksAt w1.heap.size w2 v' (E ++ [(k, X.data.toList.take n)])) := Lib.hid (by
            unfold ToksAt; rw [List.length_append, List.flatMap_append]
            rw [tok_cell] at hown
            exact hown)
          have B1 : Hid (Below w1.heap.size w1 w2) := Lib.hid (BA.out.grown hgrow BA.out.size (fun k h => (OW.out.lt k h).1))
          clear hown hgrow
          go_wp2_with fail
          go_roundw
          case rel => exact ⟨X.extract n X.size, E ++ [(k, X.data.toList.take n)], rfl, by have := HZ.out; omega, HN2, O1, B1⟩
          case measure => exact HZ.out
        · have h0' : X.size = 0 := by omega
          have e0 := Utf.isEmpty_yes h0'
          have hne : X.data.toList = [] := List.length_eq_zero_iff.1 (by rw [← Lib.size_eq]; exact h0')
          have HR : Hid (EV = E) := Lib.hid (by rw [HV.out, hne, toks_nil, List.append_nil])
          clear h0 h0' hne
          go_wp2_with fail
          go_ret2
          exact ⟨_, by rw [HK.out]; rfl, by rw [HLL.out, HR.out]; exact owns_base HO.out HB1.out.size, HB1.out.trans (HB.out.mono HB1.out.size)⟩
set_option maxRecDepth 100000 in
set_option maxHeartbeats 4000000 in
theorem rone_any (s : ByteArray) (w : World) (hz : s.size ≤ 1000000) (hE : Env w) : Calls Tryz.prog 69 #[.string s] w (OneEnd (oneT s.data.toList) (oneE s.data.toList) w) := by
  have hc := rtokens_any s (w.alloc (.cells #[.int .u8 0, .string ⟨#[]⟩] 25)) hz (hE.below (galloc2 (Below.refl _ _) (Nat.le_refl _) _) hE.size)
  have hL : tokL s.data.toList = if tokE s.data.toList = 0 then toks s.data.toList else [] := rfl
  have hK : oneE s.data.toList = if tokE s.data.toList = 0 then (if (toks s.data.toList).length = 1 then 0 else 4) else tokE s.data.toList := rfl
  have hT : oneT s.data.toList = if oneE s.data.toList = 0 then (toks s.data.toList).headD (0, []) else (0, []) := rfl
  have hew : tokE s.data.toList = 0 ∨ (tokE s.data.toList = 40 ∨ tokE s.data.toList = 4) := by unfold tokE; split; exact .inr (.inl rfl); split; exact .inl rfl; exact .inr (.inr rfl)
  generalize tokE s.data.toList = K1 at *
  generalize tokL s.data.toList = E1 at *
  generalize oneE s.data.toList = K2 at *
  generalize oneT s.data.toList = T2 at *
  generalize hE2 : toks s.data.toList = E2 at *
  have ba : Below w.heap.size w (w.alloc (.cells #[.int .u8 0, .string ⟨#[]⟩] 25)) := galloc2 (Below.refl _ _) (Nat.le_refl _) _
  have hz1 : (w.alloc (.cells #[.int .u8 0, .string ⟨#[]⟩] 25)).heap.size = w.heap.size + 1 := by simp
  have hn := heap_alloc_new w (.cells #[.int .u8 0, .string ⟨#[]⟩] 25)
  clear hE2 hE
  generalize hv : w.alloc (.cells #[.int .u8 0, .string ⟨#[]⟩] 25) = v0 at *
  rcases hew with rfl | hew
  · rw [if_pos rfl] at hL hK
    by_cases h1 : E2.length = 1
    · obtain ⟨⟨k, t⟩, rfl⟩ := List.length_eq_one_iff.1 h1
      have HK : Hid (K2 = 0) := Lib.hid (by rw [hK]; rfl)
      have HT : Hid (T2 = (k, t)) := Lib.hid (by rw [hT, HK.out]; rfl)
      have HL : Hid (E1 = [(k, t)]) := Lib.hid hL
      have HA := Lib.hid ba
      have HZ := Lib.hid hz1
      have HN := Lib.hid hn
      clear hL hK hT h1 ba hz1 hn
      go_enter Tryz.func69, Tryz.ntmps69
      go_wp2_with fail
      refine hc.mono ?_
      rintro e w1 ⟨v, rfl, hTk, hb⟩
      rw [HL.out] at hTk
      obtain ⟨g, cap, rfl, q0, q1⟩ := tok_at hTk (i := 0) (t := (k, t)) rfl
      have HB := Lib.hid (HA.out.trans (hb.mono HA.out.size))
      have hN1 : w1.heap[w.heap.size]? = some (.cells #[.int .u8 0, .string ⟨#[]⟩] 25 (0, 0)) := (hb.block _ (by have := HZ.out; omega)).trans HN.out
      have HN1 := Lib.hid hN1
      have p0 : w1.cell? ⟨w.heap.size, 0, none⟩ = some (.int .u8 0) := by rw [cellH hN1]; rfl
      have p1 : w1.cell? ⟨w.heap.size, 1, none⟩ = some (.string ⟨#[]⟩) := by rw [cellH hN1]; rfl
      have pf : ∀ o, w1.frozen? ⟨w.heap.size, o, none⟩ = false := fun o => Lib.frozen_of_heap hN1 o
      have q0' : w1.cell? ⟨g, 0, none⟩ = some (.int .u8 k) := q0
      have q1' : w1.cell? ⟨g, 1, none⟩ = some (.string ⟨t.toArray⟩) := q1
      clear hTk hb hN1 q0 q1 hv hc
      go_wp2_with fail
      have kF := heap_setCell_same _ _ 1 _ _ (.string ⟨t.toArray⟩) (heap_setCell_same _ _ 0 _ _ (.int .u8 k) HN1.out)
      have z0 := cellH kF 0
      have z1 := cellH kF 1
      refine bodyPost_ret (v := .tuple #[tokA (k, t), .int .i64 0]) (by simp at z0 z1; simp [results, Tryz.results69, go_sem, tokA, bl, z0, z1]) rfl ⟨by rw [HK.out, HT.out], ?_⟩
      exact (HB.out.setCell (p := ⟨w.heap.size, 0, none⟩) (Nat.le_refl _) _).setCell (p := ⟨w.heap.size, 1, none⟩) (Nat.le_refl _) _
    · have HK : Hid (K2 = 4) := Lib.hid (by rw [hK, if_neg h1])
      have HT : Hid (T2 = (0, [])) := Lib.hid (by rw [hT, HK.out]; rfl)
      have HL : Hid (E1 = E2) := Lib.hid hL
      have HA := Lib.hid ba
      have HZ := Lib.hid hz1
      have HN := Lib.hid hn
      have q : ((E2.length : Int) != 1) = true := by rw [bne_iff_ne]; omega
      clear hL hK hT ba hz1 hn
      go_enter Tryz.func69, Tryz.ntmps69
      go_wp2_with fail
      refine hc.mono ?_
      rintro e w1 ⟨v, rfl, hTk, hb⟩
      rw [HL.out] at hTk
      obtain ⟨po, co, rfl⟩ := owns_shape hTk
      have HB := Lib.hid (HA.out.trans (hb.mono HA.out.size))
      have hN1 : w1.heap[w.heap.size]? = some (.cells #[.int .u8 0, .string ⟨#[]⟩] 25 (0, 0)) := (hb.block _ (by have := HZ.out; omega)).trans HN.out
      have HN1 := Lib.hid hN1
      have p0 : w1.cell? ⟨w.heap.size, 0, none⟩ = some (.int .u8 0) := by rw [cellH hN1]; rfl
      have p1 : w1.cell? ⟨w.heap.size, 1, none⟩ = some (.string ⟨#[]⟩) := by rw [cellH hN1]; rfl
      have pf : ∀ o, w1.frozen? ⟨w.heap.size, o, none⟩ = false := fun o => Lib.frozen_of_heap hN1 o
      clear hTk hb hN1 hv hc
      go_wp2_with fail
      have kF := heap_setCell_same _ _ 1 _ _ (.string ⟨#[]⟩) (heap_setCell_same _ _ 0 _ _ (.int .u8 0) HN1.out)
      have z0 := cellH kF 0
      have z1 := cellH kF 1
      refine bodyPost_ret (v := .tuple #[tokA (0, []), .int .i64 4]) (by simp at z0 z1; simp [results, Tryz.results69, go_sem, tokA, bl, z0, z1]) rfl ⟨by rw [HK.out, HT.out], ?_⟩
      exact (HB.out.setCell (p := ⟨w.heap.size, 0, none⟩) (Nat.le_refl _) _).setCell (p := ⟨w.heap.size, 1, none⟩) (Nat.le_refl _) _
  · have hne : K1 ≠ 0 := by omega
    rw [if_neg hne] at hL hK
    have HK : Hid (K2 = K1) := Lib.hid hK
    have HT : Hid (T2 = (0, [])) := Lib.hid (by rw [hT, hK, if_neg hne])
    have HL : Hid (E1 = []) := Lib.hid hL
    have HA := Lib.hid ba
    have HZ := Lib.hid hz1
    have HN := Lib.hid hn
    have q : ((K1 : Int) != 0) = true := by rw [bne_iff_ne]; exact hne
    clear hL hK hT ba hz1 hn hew hne
    go_enter Tryz.func69, Tryz.ntmps69
    go_wp2_with fail
    refine hc.mono ?_
    rintro e w1 ⟨v, rfl, hTk, hb⟩
    rw [HL.out] at hTk
    obtain ⟨po, co, rfl⟩ := owns_shape hTk
    have HB := Lib.hid (HA.out.trans (hb.mono HA.out.size))
    have hN1 : w1.heap[w.heap.size]? = some (.cells #[.int .u8 0, .string ⟨#[]⟩] 25 (0, 0)) := (hb.block _ (by have := HZ.out; omega)).trans HN.out
    have HN1 := Lib.hid hN1
    have p0 : w1.cell? ⟨w.heap.size, 0, none⟩ = some (.int .u8 0) := by rw [cellH hN1]; rfl
    have p1 : w1.cell? ⟨w.heap.size, 1, none⟩ = some (.string ⟨#[]⟩) := by rw [cellH hN1]; rfl
    have pf : ∀ o, w1.frozen? ⟨w.heap.size, o, none⟩ = false := fun o => Lib.frozen_of_heap hN1 o
    clear hTk hb hN1 hv hc
    go_wp2_with fail
    have kF := heap_setCell_same _ _ 1 _ _ (.string ⟨#[]⟩) (heap_setCell_same _ _ 0 _ _ (.int .u8 0) HN1.out)
    have z0 := cellH kF 0
    have z1 := cellH kF 1
    refine bodyPost_ret (v := .tuple #[tokA (0, []), .int .i64 K1]) (by simp at z0 z1; simp [results, Tryz.results69, go_sem, tokA, bl, z0, z1]) rfl ⟨by rw [HK.out, HT.out], ?_⟩
    exact (HB.out.setCell (p := ⟨w.heap.size, 0, none⟩) (Nat.le_refl _) _).setCell (p := ⟨w.heap.size, 1, none⟩) (Nat.le_refl _) _
set_option maxRecDepth 100000 in
set_option maxHeartbeats 4000000 in
theorem same_any (B1 B2 : Nat) (v1 v2 : Value) (E : List Tok) (w : World) (h1 : ToksAt B1 w v1 E) (h2 : ToksAt B2 w v2 E) (hl : E.length ≤ 10000000) : Calls Tryz.prog 24 #[v1, v2] w fun e w' => e = .returned (.bool true) ∧ Below w.heap.size w w' := by
  obtain ⟨p1, k1, rfl⟩ := owns_shape h1
  obtain ⟨p2, k2, rfl⟩ := owns_shape h2
  have H1 := Lib.hid h1
  have H2 := Lib.hid h2
  clear h1 h2
  go_enter Tryz.func24, Tryz.ntmps24
  go_wp2_with fail
  go_loopw [5] (fun m wi => ∃ j : Nat, m = .int .i64 j ∧ j ≤ E.length ∧ Hid (Below w.heap.size w wi)) (fun m _ => E.length - (intOf m).toNat)
  case atStart => exact ⟨0, rfl, Nat.zero_le _, Lib.hid (Below.refl _ _)⟩
  case round =>
    obtain ⟨j, rfl, hj, HBi⟩ := hrel
    by_cases hjl : j < E.length
    · have hjl' : (j : Int) < (E.length : Int) := by omega
      have hej := List.getElem?_eq_getElem hjl
      obtain ⟨g2, cap2, he2, r0, r1⟩ := tok_at (H1.out.below HBi.out) hej
      obtain ⟨g3, cap3, he5, s0, s1⟩ := tok_at (H2.out.below HBi.out) hej
      injection he2 with he3 _ he4
      subst he3
      subst he4
      injection he5 with he6 _ he7
      subst he6
      subst he7
      generalize E[j] = t2 at *
      obtain ⟨d2, tt2⟩ := t2
      obtain ⟨Q2, rfl⟩ : ∃ Q2 : ByteArray, tt2 = Q2.data.toList := ⟨⟨tt2.toArray⟩, rfl⟩
      have hQ2 : (⟨Q2.data.toList.toArray⟩ : ByteArray) = Q2 := (ba_of Q2 rfl).symm
      have r0' : wr.cell? ⟨g2, j * 2, none⟩ = some (.int .u8 d2) := r0
      have r1' : wr.cell? ⟨g2, j * 2 + 1, none⟩ = some (.string Q2) := by rw [← hQ2]; exact r1
      have s0' : wr.cell? ⟨g3, j * 2, none⟩ = some (.int .u8 d2) := s0
      have s1' : wr.cell? ⟨g3, j * 2 + 1, none⟩ = some (.string Q2) := by rw [← hQ2]; exact s1
      have hn2 := fun W => neq_tok d2 Q2 W
      have u4' : IntKind.i64.wrap ((j : Int) + 1) = ((j + 1 : Nat) : Int) := by rw [IntWalk.i64_in _ (by omega)]; omega
      clear hej r0 r1 s0 s1 hQ2
      go_wp2_with fail
      go_quiet (fail)
      have HB9 := Lib.hid (HBi.out.trans ((drewN_below wr nq).mono HBi.out.size))
      clear r0' r1' s0' s1' hn2
      generalize wr.drewN nq = w9 at *
      go_wp2_with fail
      go_roundw
      case rel => exact ⟨j + 1, rfl, by omega, HB9⟩
      case measure => simp [intOf]; omega
    · have hjl' : ¬ (j : Int) < (E.length : Int) := by omega
      go_wp2_with fail
      go_ret
      exact ⟨rfl, HBi.out⟩
end Go.Proofs.YtingfomfibhnhaaGreatDoor
namespace Go.Proofs.YtingfomfibhnhaaGreatDoor
open Go.RowKit

set_option maxRecDepth 100000 in
theorem eql_tok (k : Int) (T : ByteArray) (W : World) : (binOp .eql 25 (.agg #[.int .u8 k, .string T]) (.agg #[.int .u8 k, .string T])).run Tryz.prog W = .ok (.bool true) W := by
  simp [go_sem]
def OneEnd4 (c : Nat) (Q : ByteArray) (k : Int) (w : World) (e : Ending) (w' : World) : Prop := e = .returned (.tuple #[.agg #[.int .u8 c, .string Q], .int .i64 k]) ∧ Below w.heap.size w w'
end Go.Proofs.YtingfomfibhnhaaGreatDoor
