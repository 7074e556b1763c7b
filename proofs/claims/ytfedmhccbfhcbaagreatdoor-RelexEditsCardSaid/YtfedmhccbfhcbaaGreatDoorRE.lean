/-
  The document's Cut.
-/
import Derived.Test.YtfedmhccbfhcbaaGreatDoorRB
import Derived.Test.YtfedmhccbfhcbaaGreatDoorRC
import Derived.Test.YtfedmhccbfhcbaaGreatDoorRD
import Derived.Test.YtfedmhccbfhcbaaGreatDoorK
namespace Go.Proofs.YtfedmhccbfhcbaaGreatDoor
open Go.RowKit

theorem head_at {s : ByteArray} (h0 : 0 < s.size) : ∃ r, s.data.toList = (s[0]'h0) :: r := by
  have hg := str_get s 0 h0
  cases hl : s.data.toList with
  | nil => rw [hl] at hg; cases hg
  | cons c r => rw [hl] at hg; exact ⟨r, by rw [← Option.some.inj hg]⟩
theorem cut_cons (c : UInt8) (r : List UInt8) : cut (c :: r) = if blankB c then (1, lead blankB (c :: r))
  else if opens (c :: r) then (if (rem 0 false (c :: r)).2 then 2 else 9, (rem 0 false (c :: r)).1)
  else if lowB c then (nameK ((c :: r).take (lead inB (c :: r))), lead inB (c :: r))
  else if digB c then num (c :: r)
  else if c == 34 then addN (quo 0 r)
  else if twosL.contains ((c :: r).take 2) then (8, 2)
  else if onesL.contains c then (8, 1)
  else (9, runeN (c :: r)) := rfl
def twosC2 : Array Value := #[.string ⟨#[45, 62]⟩, .string ⟨#[58, 58]⟩, .string ⟨#[60, 62]⟩, .string ⟨#[60, 61]⟩, .string ⟨#[62, 61]⟩, .string ⟨#[43, 46]⟩, .string ⟨#[45, 46]⟩, .string ⟨#[42, 46]⟩, .string ⟨#[47, 46]⟩, .string ⟨#[38, 38]⟩, .string ⟨#[124, 124]⟩]
theorem twos_cell (k : Nat) (h : k < 11) : twosC2[k]? = some (.string (twoS k)) := by
  rcases (by omega : k = 0 ∨ k = 1 ∨ k = 2 ∨ k = 3 ∨ k = 4 ∨ k = 5 ∨ k = 6 ∨ k = 7 ∨ k = 8 ∨ k = 9 ∨ k = 10) with rfl | rfl | rfl | rfl | rfl | rfl | rfl | rfl | rfl | rfl | rfl <;> rfl
def onesB : ByteArray := ⟨#[40, 41, 91, 93, 44, 59, 124, 61, 60, 62, 43, 45, 42, 47, 94, 64]⟩
theorem ones_get (k : Nat) (h : k < 16) : onesB[k]'h = onesL.getD k 0 := by
  rcases (by omega : k = 0 ∨ k = 1 ∨ k = 2 ∨ k = 3 ∨ k = 4 ∨ k = 5 ∨ k = 6 ∨ k = 7 ∨ k = 8 ∨ k = 9 ∨ k = 10 ∨ k = 11 ∨ k = 12 ∨ k = 13 ∨ k = 14 ∨ k = 15) with rfl | rfl | rfl | rfl | rfl | rfl | rfl | rfl | rfl | rfl | rfl | rfl | rfl | rfl | rfl | rfl <;> rfl
def CutEnd (V : Nat × Nat) (w : World) (e : Ending) (w' : World) : Prop := e = .returned (.tuple #[.int .u8 V.1, .int .i64 V.2]) ∧ Below w.heap.size w w'
set_option maxRecDepth 100000 in
set_option maxHeartbeats 8000000 in
theorem rcut_blank (s : ByteArray) (w : World) (hz : s.size ≤ 1000000) (h0 : 0 < s.size) (hB : blankB (s[0]'h0) = true) : Calls Tryz.prog 21 #[.string s] w (CutEnd (cut s.data.toList) w) := by
  obtain ⟨r, hr⟩ := head_at h0
  have hc : cut s.data.toList = (1, lead blankB s.data.toList) := by rw [hr, cut_cons, if_pos hB]
  obtain ⟨M, hM⟩ : ∃ M, lead blankB s.data.toList = M := ⟨_, rfl⟩
  have hMs : M ≤ s.size := by rw [← hM, Lib.size_eq]; exact lead_le _ _
  rw [hc, hM]
  have HM := Lib.hid hM
  have h0i : (0 : Int) < (s.size : Int) := by omega
  have cb := fun Wd => rblank_any (s[0]'h0) Wd
  rw [hB] at cb
  clear hc hM hr hB
  go_enter Tryz.func21, Tryz.ntmps21
  go_wp2_with (first | (go_at_call 28; ((with_reducible refine (cb _).mono ?_); rintro e w' ⟨rfl, rfl⟩)))
  clear cb
  go_loop [5] (fun i => ∃ k : Nat, i = .int .i64 k ∧ k ≤ M) (fun i => M - (intOf i).toNat)
  case atStart => exact ⟨0, rfl, Nat.zero_le _⟩
  case round =>
    obtain ⟨k, rfl, hk⟩ := hrel
    by_cases hlt : k < M
    · have c1 := fun Wd => at_any s k Wd (by omega)
      have c2 := fun Wd => rblank_any (atB s.data.toList k) Wd
      rw [at_lt (p := blankB) (by rw [HM.out]; exact hlt)] at c2
      generalize atB s.data.toList k = C at *
      have w1 : IntKind.i64.wrap ((k : Int) + 1) = ((k + 1 : Nat) : Int) := by rw [IntWalk.i64_in _ (by omega)]; omega
      go_wp2_with (first | (go_at_call 29; ((with_reducible refine (c1 _).mono ?_); rintro e w' ⟨rfl, rfl⟩)) | (go_at_call 28; ((with_reducible refine (c2 _).mono ?_); rintro e w' ⟨rfl, rfl⟩)))
      go_round
      case rel => exact ⟨k + 1, rfl, by omega⟩
      case measure => simp [intOf]; omega
    · obtain rfl : k = M := by omega
      have c1 := fun Wd => at_any s k Wd (by omega)
      have hdg := at_end (p := blankB) (by decide) s.data.toList
      rw [HM.out] at hdg
      have c2 := fun Wd => rblank_any (atB s.data.toList k) Wd
      rw [hdg] at c2
      clear hdg
      generalize atB s.data.toList k = C at *
      go_wp2_with (first | (go_at_call 29; ((with_reducible refine (c1 _).mono ?_); rintro e w' ⟨rfl, rfl⟩)) | (go_at_call 28; ((with_reducible refine (c2 _).mono ?_); rintro e w' ⟨rfl, rfl⟩)))
      go_ret2
      exact ⟨rfl, Below.refl _ _⟩
set_option maxRecDepth 100000 in
set_option maxHeartbeats 8000000 in
theorem rcut_remark (s : ByteArray) (w : World) (hz : s.size ≤ 1000000) (h0 : 0 < s.size) (hB : blankB (s[0]'h0) = false) (hO : opens s.data.toList = true) : Calls Tryz.prog 21 #[.string s] w (CutEnd (cut s.data.toList) w) := by
  obtain ⟨r, hr⟩ := head_at h0
  have h0i : (0 : Int) < (s.size : Int) := by omega
  have cb := fun Wd => rblank_any (s[0]'h0) Wd
  rw [hB] at cb
  have ch := fun Wd => rhas_any s 0 ⟨#[40, 42]⟩ Wd (by omega)
  have eh : hasB s.data.toList 0 (⟨#[40, 42]⟩ : ByteArray).data.toList = opens s.data.toList := has_pre rfl
  rw [eh, hO] at ch
  have ez : (((0 : Nat)) : Int) = 0 := rfl
  rw [ez] at ch
  clear eh ez
  have hc : cut s.data.toList = (if (rem 0 false s.data.toList).2 then 2 else 9, (rem 0 false s.data.toList).1) := by
    rw [hr] at hO ⊢
    rw [cut_cons, if_neg (by simp [hB]), if_pos hO]
  have cr := fun Wd => rremark_any s Wd hz hO
  rw [hc]
  obtain ⟨R, hR⟩ : ∃ R, rem 0 false s.data.toList = R := ⟨_, rfl⟩
  rw [hR] at cr ⊢
  obtain ⟨n, b⟩ := R
  clear hc hR hr hB hO
  cases b
  all_goals
    go_enter Tryz.func21, Tryz.ntmps21
    go_wp2_with (first | (go_at_call 28; ((with_reducible refine (cb _).mono ?_); rintro e w' ⟨rfl, rfl⟩)) | (go_at_call 30; ((with_reducible refine (ch _).mono ?_); rintro e w' ⟨rfl, rfl⟩)) | (go_at_call 31; ((with_reducible refine (cr _).mono ?_); rintro e w' ⟨rfl, rfl⟩)))
    go_ret2
    exact ⟨rfl, Below.refl _ _⟩
set_option maxRecDepth 100000 in
set_option maxHeartbeats 8000000 in
theorem rcut_name (s : ByteArray) (w : World) (hz : s.size ≤ 1000000) (h0 : 0 < s.size) (hB : blankB (s[0]'h0) = false) (hO : opens s.data.toList = false) (hL : lowB (s[0]'h0) = true) : Calls Tryz.prog 21 #[.string s] w (CutEnd (cut s.data.toList) w) := by
  obtain ⟨r, hr⟩ := head_at h0
  have h0i : (0 : Int) < (s.size : Int) := by omega
  have cb := fun Wd => rblank_any (s[0]'h0) Wd
  rw [hB] at cb
  have ch := fun Wd => rhas_any s 0 ⟨#[40, 42]⟩ Wd (by omega)
  have eh : hasB s.data.toList 0 (⟨#[40, 42]⟩ : ByteArray).data.toList = opens s.data.toList := has_pre rfl
  rw [eh, hO] at ch
  have ez : (((0 : Nat)) : Int) = 0 := rfl
  rw [ez] at ch
  clear eh ez
  have cl := fun Wd => rlow_any (s[0]'h0) Wd
  rw [hL] at cl
  have hc : cut s.data.toList = (nameK (s.data.toList.take (lead inB s.data.toList)), lead inB s.data.toList) := by
    rw [hr] at hO ⊢
    rw [cut_cons, if_neg (by simp [hB]), if_neg (by simp [hO]), if_pos hL]
  obtain ⟨M, hM⟩ : ∃ M, lead inB s.data.toList = M := ⟨_, rfl⟩
  have hMs : M ≤ s.size := by rw [← hM, Lib.size_eq]; exact lead_le _ _
  rw [hc, hM]
  have HM := Lib.hid hM
  clear hc hM hr hB hO hL
  go_enter Tryz.func21, Tryz.ntmps21
  go_wp2_with (first | (go_at_call 28; ((with_reducible refine (cb _).mono ?_); rintro e w' ⟨rfl, rfl⟩)) | (go_at_call 30; ((with_reducible refine (ch _).mono ?_); rintro e w' ⟨rfl, rfl⟩)) | (go_at_call 32; ((with_reducible refine (cl _).mono ?_); rintro e w' ⟨rfl, rfl⟩)))
  clear cb ch cl
  go_loop [5] (fun i => ∃ k : Nat, i = .int .i64 k ∧ k ≤ M) (fun i => M - (intOf i).toNat)
  case atStart => exact ⟨0, rfl, Nat.zero_le _⟩
  case round =>
    obtain ⟨k, rfl, hk⟩ := hrel
    by_cases hlt : k < M
    · have c1 := fun Wd => at_any s k Wd (by omega)
      have c2 := fun Wd => rbehind_any (atB s.data.toList k) Wd
      rw [at_lt (p := inB) (by rw [HM.out]; exact hlt)] at c2
      generalize atB s.data.toList k = C at *
      have w1 : IntKind.i64.wrap ((k : Int) + 1) = ((k + 1 : Nat) : Int) := by rw [IntWalk.i64_in _ (by omega)]; omega
      go_wp2_with (first | (go_at_call 29; ((with_reducible refine (c1 _).mono ?_); rintro e w' ⟨rfl, rfl⟩)) | (go_at_call 33; ((with_reducible refine (c2 _).mono ?_); rintro e w' ⟨rfl, rfl⟩)))
      go_round
      case rel => exact ⟨k + 1, rfl, by omega⟩
      case measure => simp [intOf]; omega
    · obtain rfl : k = M := by omega
      have c1 := fun Wd => at_any s k Wd (by omega)
      have hdg := at_end (p := inB) (by decide) s.data.toList
      rw [HM.out] at hdg
      have c2 := fun Wd => rbehind_any (atB s.data.toList k) Wd
      rw [hdg] at c2
      clear hdg
      generalize atB s.data.toList k = C at *
      have hki : (k : Int) ≤ (s.size : Int) := by omega
      have hkz : (0 : Int) ≤ (k : Int) := by omega
      obtain ⟨T, hT⟩ : ∃ T, s.extract 0 k = T := ⟨_, rfl⟩
      have hTl : T.data.toList = s.data.toList.take k := by rw [← hT, Utf.extract_list, List.drop_zero]
      have hTe : (T.toList == [95]) = (T.data.toList == [95]) := by rw [Lib.toList_data]
      rw [← hTl]
      have HTL := Lib.hid hTl
      have cw := fun Wd => rword_any T Wd
      clear hTl
      by_cases hU : T.data.toList = [95]
      · have HN : Hid (nameK T.data.toList = 8) := Lib.hid (by unfold nameK; rw [if_pos hU])
        have hk1 : k = 1 := by
          have := congrArg List.length HTL.out
          rw [hU, List.length_take, ← Lib.size_eq] at this
          simp at this; omega
        have HK1 := Lib.hid hk1
        rw [hU] at hTe
        clear hU hk1
        go_wp2_with (first | (go_at_call 29; ((with_reducible refine (c1 _).mono ?_); rintro e w' ⟨rfl, rfl⟩)) | (go_at_call 33; ((with_reducible refine (c2 _).mono ?_); rintro e w' ⟨rfl, rfl⟩)))
        go_ret2
        exact ⟨by rw [← HTL.out, HN.out, HK1.out]; rfl, Below.refl _ _⟩
      · have hTf : (T.toList == [95]) = false := by rw [hTe, beq_eq_false_iff_ne]; exact hU
        clear hTe
        cases hW : wordsL.contains T.data.toList with
        | true =>
          have HN : Hid (nameK T.data.toList = 3) := Lib.hid (by unfold nameK; rw [if_neg hU, if_pos hW])
          rw [hW] at cw
          clear hU hW
          go_wp2_with (first | (go_at_call 29; ((with_reducible refine (c1 _).mono ?_); rintro e w' ⟨rfl, rfl⟩)) | (go_at_call 33; ((with_reducible refine (c2 _).mono ?_); rintro e w' ⟨rfl, rfl⟩)) | (go_at_call 34; ((with_reducible refine (cw _).mono ?_); rintro e w2 ⟨rfl, hb2⟩)))
          go_ret2
          exact ⟨by rw [← HTL.out, HN.out]; rfl, hb2⟩
        | false =>
          have HN : Hid (nameK T.data.toList = 4) := Lib.hid (by unfold nameK; rw [if_neg hU, if_neg (by simp only [hW]; decide)])
          rw [hW] at cw
          clear hU hW
          go_wp2_with (first | (go_at_call 29; ((with_reducible refine (c1 _).mono ?_); rintro e w' ⟨rfl, rfl⟩)) | (go_at_call 33; ((with_reducible refine (c2 _).mono ?_); rintro e w' ⟨rfl, rfl⟩)) | (go_at_call 34; ((with_reducible refine (cw _).mono ?_); rintro e w2 ⟨rfl, hb2⟩)))
          go_ret2
          exact ⟨by rw [← HTL.out, HN.out]; rfl, hb2⟩
set_option maxRecDepth 100000 in
set_option maxHeartbeats 8000000 in
theorem rcut_num (s : ByteArray) (w : World) (hz : s.size ≤ 1000000) (h0 : 0 < s.size) (hB : blankB (s[0]'h0) = false) (hO : opens s.data.toList = false) (hL : lowB (s[0]'h0) = false) (hD : digB (s[0]'h0) = true) : Calls Tryz.prog 21 #[.string s] w (CutEnd (cut s.data.toList) w) := by
  obtain ⟨r, hr⟩ := head_at h0
  have h0i : (0 : Int) < (s.size : Int) := by omega
  have cb := fun Wd => rblank_any (s[0]'h0) Wd
  rw [hB] at cb
  have ch := fun Wd => rhas_any s 0 ⟨#[40, 42]⟩ Wd (by omega)
  have eh : hasB s.data.toList 0 (⟨#[40, 42]⟩ : ByteArray).data.toList = opens s.data.toList := has_pre rfl
  rw [eh, hO] at ch
  have ez : (((0 : Nat)) : Int) = 0 := rfl
  rw [ez] at ch
  clear eh ez
  have cl := fun Wd => rlow_any (s[0]'h0) Wd
  rw [hL] at cl
  have cd := fun Wd => rdigit_any (s[0]'h0) Wd
  rw [hD] at cd
  have hc : cut s.data.toList = num s.data.toList := by
    rw [hr] at hO ⊢
    rw [cut_cons, if_neg (by simp [hB]), if_neg (by simp [hO]), if_neg (by simp [hL]), if_pos hD]
  have cn := fun Wd => rnumber_any s Wd hz
  rw [hc]
  generalize num s.data.toList = R at *
  clear hc hr hB hO hL hD
  go_enter Tryz.func21, Tryz.ntmps21
  go_wp2_with (first | (go_at_call 28; ((with_reducible refine (cb _).mono ?_); rintro e w' ⟨rfl, rfl⟩)) | (go_at_call 30; ((with_reducible refine (ch _).mono ?_); rintro e w' ⟨rfl, rfl⟩)) | (go_at_call 32; ((with_reducible refine (cl _).mono ?_); rintro e w' ⟨rfl, rfl⟩)) | (go_at_call 35; ((with_reducible refine (cd _).mono ?_); rintro e w' ⟨rfl, rfl⟩)) | (go_at_call 36; ((with_reducible refine (cn _).mono ?_); rintro e w' ⟨rfl, rfl⟩)))
  go_ret2
  exact ⟨rfl, Below.refl _ _⟩
set_option maxRecDepth 100000 in
set_option maxHeartbeats 8000000 in
theorem rcut_text (s : ByteArray) (w : World) (hz : s.size ≤ 1000000) (h0 : 0 < s.size) (hB : blankB (s[0]'h0) = false) (hO : opens s.data.toList = false) (hL : lowB (s[0]'h0) = false) (hD : digB (s[0]'h0) = false) (hQ : ((s[0]'h0) == 34) = true) : Calls Tryz.prog 21 #[.string s] w (CutEnd (cut s.data.toList) w) := by
  obtain ⟨r, hr⟩ := head_at h0
  have h0i : (0 : Int) < (s.size : Int) := by omega
  have cb := fun Wd => rblank_any (s[0]'h0) Wd
  rw [hB] at cb
  have ch := fun Wd => rhas_any s 0 ⟨#[40, 42]⟩ Wd (by omega)
  have eh : hasB s.data.toList 0 (⟨#[40, 42]⟩ : ByteArray).data.toList = opens s.data.toList := has_pre rfl
  rw [eh, hO] at ch
  have ez : (((0 : Nat)) : Int) = 0 := rfl
  rw [ez] at ch
  clear eh ez
  have cl := fun Wd => rlow_any (s[0]'h0) Wd
  rw [hL] at cl
  have cd := fun Wd => rdigit_any (s[0]'h0) Wd
  rw [hD] at cd
  have hq : (((s[0]'h0).toNat : Int) == 34) = true := by rw [u8_eq (c := s[0]'h0) (k := 34) (n := 34) rfl]; exact hQ
  have h34 : s.data.toList[0]? = some 34 := by rw [hr]; rw [beq_iff_eq] at hQ; rw [hQ]; rfl
  have hc : cut s.data.toList = quoR s.data.toList := by
    unfold quoR
    rw [if_pos h34]
    rw [hr] at hO ⊢
    rw [cut_cons, if_neg (by simp [hB]), if_neg (by simp [hO]), if_neg (by simp [hL]), if_neg (by simp [hD]), if_pos hQ, addN_sh]
    rfl
  have cn := fun Wd => rtext_any s Wd hz h34
  rw [hc]
  generalize quoR s.data.toList = R at *
  clear hc hr hB hO hL hD hQ h34
  go_enter Tryz.func21, Tryz.ntmps21
  go_wp2_with (first | (go_at_call 28; ((with_reducible refine (cb _).mono ?_); rintro e w' ⟨rfl, rfl⟩)) | (go_at_call 30; ((with_reducible refine (ch _).mono ?_); rintro e w' ⟨rfl, rfl⟩)) | (go_at_call 32; ((with_reducible refine (cl _).mono ?_); rintro e w' ⟨rfl, rfl⟩)) | (go_at_call 35; ((with_reducible refine (cd _).mono ?_); rintro e w' ⟨rfl, rfl⟩)) | (go_at_call 37; ((with_reducible refine (cn _).mono ?_); rintro e w' ⟨rfl, rfl⟩)))
  go_ret2
  exact ⟨rfl, Below.refl _ _⟩
set_option maxRecDepth 100000 in
set_option maxHeartbeats 8000000 in
theorem rcut_sign (s : ByteArray) (w : World) (hz : s.size ≤ 1000000) (h0 : 0 < s.size) (hE : Env w) (hB : blankB (s[0]'h0) = false) (hO : opens s.data.toList = false) (hL : lowB (s[0]'h0) = false) (hD : digB (s[0]'h0) = false) (hQ : ((s[0]'h0) == 34) = false) : Calls Tryz.prog 21 #[.string s] w (CutEnd (cut s.data.toList) w) := by
  obtain ⟨r, hr⟩ := head_at h0
  have h0i : (0 : Int) < (s.size : Int) := by omega
  have cb := fun Wd => rblank_any (s[0]'h0) Wd
  rw [hB] at cb
  have ch := fun Wd => rhas_any s 0 ⟨#[40, 42]⟩ Wd (by omega)
  have eh : hasB s.data.toList 0 (⟨#[40, 42]⟩ : ByteArray).data.toList = opens s.data.toList := has_pre rfl
  rw [eh, hO] at ch
  have ez : (((0 : Nat)) : Int) = 0 := rfl
  rw [ez] at ch
  clear eh ez
  have cl := fun Wd => rlow_any (s[0]'h0) Wd
  rw [hL] at cl
  have cd := fun Wd => rdigit_any (s[0]'h0) Wd
  rw [hD] at cd
  have hq : (((s[0]'h0).toNat : Int) == 34) = false := by rw [u8_eq (c := s[0]'h0) (k := 34) (n := 34) rfl]; exact hQ
  have hc : cut s.data.toList = if twosL.contains (s.data.toList.take 2) then (8, 2) else if onesL.contains (s[0]'h0) then (8, 1) else (9, runeN s.data.toList) := by
    rw [hr] at hO ⊢
    rw [cut_cons, if_neg (by simp [hB]), if_neg (by simp [hO]), if_neg (by simp [hL]), if_neg (by simp [hD]), if_neg (by simp [hQ])]
  have HC := Lib.hid hc
  have hba : Below w.heap.size w (w.alloc (.cells twosC2 9)) := galloc2 (Below.refl _ _) (Nat.le_refl _) _
  have hn := heap_alloc_new w (.cells twosC2 9)
  have HE1 := Lib.hid (hE.below hba hE.size)
  have HB := Lib.hid hba
  have HN := Lib.hid hn
  clear hba hn hc hr hB hO hL hD hQ hE
  obtain ⟨R, hR⟩ : ∃ R, cut s.data.toList = R := ⟨_, rfl⟩
  rw [hR] at HC ⊢
  clear hR
  obtain ⟨w1, hw1⟩ : ∃ w1, w.alloc (.cells twosC2 9) = w1 := ⟨_, rfl⟩
  rw [hw1] at HB HN HE1
  unfold twosC2 at hw1
  go_enter Tryz.func21, Tryz.ntmps21
  go_wp2_with (first | (go_at_call 28; ((with_reducible refine (cb _).mono ?_); rintro e w' ⟨rfl, rfl⟩)) | (go_at_call 30; ((with_reducible refine (ch _).mono ?_); rintro e w' ⟨rfl, rfl⟩)) | (go_at_call 32; ((with_reducible refine (cl _).mono ?_); rintro e w' ⟨rfl, rfl⟩)) | (go_at_call 35; ((with_reducible refine (cd _).mono ?_); rintro e w' ⟨rfl, rfl⟩)))
  clear cb ch cl cd
  go_loop [9] (fun i => ∃ k : Nat, i = .int .i64 k ∧ k ≤ 11 ∧ Hid (∀ j, j < k → Lib.hasPrefix s.data.toList (twosL.getD j []) = false)) (fun i => 11 - (intOf i).toNat)
  case atStart => exact ⟨0, rfl, by omega, Lib.hid (fun j hj => by omega)⟩
  case round =>
    obtain ⟨k, rfl, hk, HJ⟩ := hrel
    by_cases hlt : k < 11
    · have hlt' : (k : Int) < 11 := by omega
      have hx : w1.cell? ⟨w.heap.size, k, none⟩ = some (.string (twoS k)) := (cellH HN.out k).trans (twos_cell k hlt)
      have c1 := fun W => rhas_any s 0 (twoS k) W (by omega)
      have e1 : hasB s.data.toList 0 (twoS k).data.toList = Lib.hasPrefix s.data.toList (twosL.getD k []) := has_pre (two_getD k hlt).1
      have ez : (((0 : Nat)) : Int) = 0 := rfl
      rw [e1, ez] at c1
      generalize twoS k = TS at *
      clear e1 ez
      have w1' : IntKind.i64.wrap ((k : Int) + 1) = ((k + 1 : Nat) : Int) := by rw [IntWalk.i64_in _ (by omega)]; omega
      cases hb : Lib.hasPrefix s.data.toList (twosL.getD k []) with
      | true =>
        rw [hb] at c1
        have HV : Hid (R = (8, 2)) := Lib.hid (by
          have h := two_yes hlt hb
          unfold twoR at h
          by_cases g : twosL.contains (s.data.toList.take 2) = true
          · rw [HC.out, if_pos g]
          · rw [if_neg g] at h; cases h)
        clear hb
        go_wp2_with (first | (go_at_call 30; ((with_reducible refine (c1 _).mono ?_); rintro e w' ⟨rfl, rfl⟩)))
        go_ret2
        exact ⟨by rw [HV.out]; rfl, HB.out⟩
      | false =>
        rw [hb] at c1
        have HJ2 : Hid (∀ j, j < k + 1 → Lib.hasPrefix s.data.toList (twosL.getD j []) = false) := Lib.hid (fun j hj => by
          rcases Nat.lt_or_ge j k with g | g
          · exact HJ.out j g
          · obtain rfl : j = k := by omega
            exact hb)
        clear hb
        go_wp2_with (first | (go_at_call 30; ((with_reducible refine (c1 _).mono ?_); rintro e w' ⟨rfl, rfl⟩)))
        go_round
        case rel => exact ⟨k + 1, rfl, by omega, HJ2⟩
        case measure => simp [intOf]; omega
    · obtain rfl : k = 11 := by omega
      have HC2 : Hid (R = if onesL.contains (s[0]'h0) then (8, 1) else (9, runeN s.data.toList)) := Lib.hid (by
        have h := two_no HJ.out
        unfold twoR at h
        by_cases g : twosL.contains (s.data.toList.take 2) = true
        · rw [if_pos g] at h; cases h
        · rw [HC.out, if_neg g])
      have hlt' : ¬ (((11 : Nat) : Int) < 11) := by omega
      go_wp2_with fail
      go_loop [11] (fun i => ∃ k : Nat, i = .int .i64 k ∧ k ≤ 16 ∧ Hid (∀ j, j < k → (onesL.getD j 0 == (s[0]'h0)) = false)) (fun i => 16 - (intOf i).toNat)
      case atStart => exact ⟨0, rfl, by omega, Lib.hid (fun j hj => by omega)⟩
      case round =>
        obtain ⟨k, rfl, hk2, HJ2⟩ := hrel
        by_cases hl2 : k < 16
        · have hl2' : (k : Int) < 16 := by omega
          have hog := ones_get k hl2
          unfold onesB at hog
          have heq : (((onesL.getD k 0).toNat : Int) == ((s[0]'h0).toNat : Int)) = (onesL.getD k 0 == (s[0]'h0)) := u8_eq rfl
          obtain ⟨O, hOe⟩ : ∃ O, onesL.getD k 0 = O := ⟨_, rfl⟩
          rw [hOe] at hog heq
          have HOe := Lib.hid hOe
          clear hOe
          have w1' : IntKind.i64.wrap ((k : Int) + 1) = ((k + 1 : Nat) : Int) := by rw [IntWalk.i64_in _ (by omega)]; omega
          cases hb : (O == (s[0]'h0)) with
          | true =>
            rw [hb] at heq
            have HV : Hid (R = (8, 1)) := Lib.hid (by rw [HC2.out, if_pos (has_at (l := onesL) (d := 0) hl2 (by rw [HOe.out]; exact hb))])
            clear hb
            go_wp2_with fail
            go_ret2
            exact ⟨by rw [HV.out]; rfl, HB.out⟩
          | false =>
            rw [hb] at heq
            have HJ3 : Hid (∀ j, j < k + 1 → (onesL.getD j 0 == (s[0]'h0)) = false) := Lib.hid (fun j hj => by
              rcases Nat.lt_or_ge j k with g | g
              · exact HJ2.out j g
              · obtain rfl : j = k := by omega
                rw [HOe.out]; exact hb)
            clear hb
            go_wp2_with fail
            go_round
            case rel => exact ⟨k + 1, rfl, by omega, HJ3⟩
            case measure => simp [intOf]; omega
        · obtain rfl : k = 16 := by omega
          have HV : Hid (R = (9, runeN s.data.toList)) := Lib.hid (by rw [HC2.out, if_neg (by rw [has_not (l := onesL) (d := 0) HJ2.out]; decide)])
          have hl2' : ¬ (((16 : Nat) : Int) < 16) := by omega
          have cr := Utf.rrune_any s w1
          rw [rune_n] at cr
          generalize runeN s.data.toList = n at *
          go_wp2_with (go_at_call 27; ((with_reducible refine cr.mono ?_); rintro e w2 ⟨rfl, hb2⟩))
          go_ret2
          exact ⟨by rw [HV.out]; rfl, HB.out.trans (hb2.mono HB.out.size)⟩
theorem rcut_any (s : ByteArray) (w : World) (hz : s.size ≤ 1000000) (h0 : 0 < s.size) (hE : Env w) : Calls Tryz.prog 21 #[.string s] w (CutEnd (cut s.data.toList) w) := by
  cases hB : blankB (s[0]'h0) with
  | true => exact rcut_blank s w hz h0 hB
  | false =>
    cases hO : opens s.data.toList with
    | true => exact rcut_remark s w hz h0 hB hO
    | false =>
      cases hL : lowB (s[0]'h0) with
      | true => exact rcut_name s w hz h0 hB hO hL
      | false =>
        cases hD : digB (s[0]'h0) with
        | true => exact rcut_num s w hz h0 hB hO hL hD
        | false =>
          cases hQ : ((s[0]'h0) == 34) with
          | true => exact rcut_text s w hz h0 hB hO hL hD hQ
          | false => exact rcut_sign s w hz h0 hE hB hO hL hD hQ
end Go.Proofs.YtfedmhccbfhcbaaGreatDoor
