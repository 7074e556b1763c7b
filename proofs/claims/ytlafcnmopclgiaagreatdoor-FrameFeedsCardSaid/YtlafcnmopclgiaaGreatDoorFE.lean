/-
  The document's loops: find, low, named, trim, number.
-/
import Derived.Test.YtlafcnmopclgiaaGreatDoorFD
import Derived.Test.YtlafcnmopclgiaaGreatDoorA
import Derived.Outline
namespace Go.Proofs.YtlafcnmopclgiaaGreatDoor
open Go.RowKit

theorem ex_list (s : ByteArray) (a b : Nat) : (s.extract a b).data.toList = (s.data.toList.drop a).take (b - a) := by
  rw [ByteArray.data_extract, Array.toList_extract, List.extract_eq_take_drop]
theorem noOcc_next {s p : List UInt8} {k : Nat} (h : Lib.NoOcc s p k) (hk : Lib.occAt s p k = false) : Lib.NoOcc s p (k + 1) := by
  intro j hj
  rcases Nat.lt_or_ge j k with g | g
  · exact h j g
  · obtain rfl : j = k := by omega
    exact hk
theorem noOcc_all {s p : List UInt8} {k : Nat} (h : Lib.NoOcc s p k) (hk : s.length < k + p.length) : Lib.index s p = -1 := by
  rcases index_nat' s p with h1 | ⟨i, h1, h2, h3, _⟩
  · exact h1
  · rw [h i (by omega)] at h3; cases h3
theorem clen_get (k : Nat) (h : k < (⟨#[99, 111, 110, 116, 101, 110, 116, 45, 108, 101, 110, 103, 116, 104]⟩ : ByteArray).size) : (⟨#[99, 111, 110, 116, 101, 110, 116, 45, 108, 101, 110, 103, 116, 104]⟩ : ByteArray)[k]'h = clen.getD k 0 := by
  rw [getD_get (by exact h)]; rfl
theorem occ_eq {s p : List UInt8} {k : Nat} (_hk : k + p.length ≤ s.length) : ((s.drop k).take p.length == p) = Lib.occAt s p k := by
  unfold Lib.occAt
  rw [Bool.eq_iff_iff, beq_iff_eq, List.isPrefixOf_iff_prefix]
  constructor
  · intro h; refine ⟨(s.drop k).drop p.length, ?_⟩; have e := List.take_append_drop p.length (s.drop k); rw [h] at e; exact e
  · rintro ⟨r, hr⟩; rw [← hr, List.take_left]
set_option maxHeartbeats 1000000 in
theorem find_any (s p : ByteArray) (w : World) (hz : s.size ≤ 1000000000) (hp : p.size ≤ 100) :
    Calls Tryz.prog 22 #[.string s, .string p, .int .i64 0] w fun e w' => e = .returned (.int .i64 (Lib.index s.data.toList p.data.toList)) ∧ w' = w := by
  have hls : s.data.toList.length = s.size := (Lib.size_eq s).symm
  have hlp : p.data.toList.length = p.size := (Lib.size_eq p).symm
  obtain ⟨V, hV⟩ : ∃ V, Lib.index s.data.toList p.data.toList = V := ⟨_, rfl⟩
  have HV := Lib.hid hV
  rw [hV]
  clear hV
  go_enter Tryz.func22, Tryz.ntmps22
  go_wp2_with fail
  go_loop [7] (fun i => ∃ k : Nat, i = .int .i64 k ∧ k ≤ s.size + 1 ∧ Hid (Lib.NoOcc s.data.toList p.data.toList k)) (fun i => s.size + 1 - (intOf i).toNat)
  case atStart => exact ⟨0, rfl, Nat.zero_le _, Lib.hid (fun j hj => by omega)⟩
  case round =>
    obtain ⟨k, rfl, hk, HN⟩ := hrel
    have hw : IntKind.i64.wrap ((k : Int) + (p.size : Int)) = ((k + p.size : Nat) : Int) := by rw [IntWalk.i64_in _ (by omega)]; omega
    have hw2 : IntKind.i64.wrap ((k : Int) + 1) = ((k + 1 : Nat) : Int) := by rw [IntWalk.i64_in _ (by omega)]; omega
    by_cases hlt : k + p.size ≤ s.size
    · have hq : ((s.extract k (k + p.size)).toList == p.toList) = Lib.occAt s.data.toList p.data.toList k := by
        rw [Lib.toList_data, Lib.toList_data, ex_list, Nat.add_sub_cancel_left, ← hlp]; exact occ_eq (by omega)
      obtain ⟨y, hy⟩ : ∃ y, k + p.size = y := ⟨_, rfl⟩
      rw [hy] at hw hq
      have hlt' : (y : Int) ≤ (s.size : Int) := by omega
      have hky : (k : Int) ≤ (y : Int) := by omega
      have hd : decide (y ≤ s.size) = true := decide_eq_true (by omega)
      have HO : Hid (Lib.occAt s.data.toList p.data.toList k = true → V = k) := Lib.hid fun ho => by
        rw [← HV.out]; exact Lib.index_first (by omega) ho HN.out
      have HO2 : Hid (Lib.occAt s.data.toList p.data.toList k = false → Lib.NoOcc s.data.toList p.data.toList (k + 1)) := Lib.hid fun ho => noOcc_next HN.out ho
      generalize Lib.occAt s.data.toList p.data.toList k = O at *
      cases O with
      | true =>
        go_wp2_with fail
        go_ret
        exact ⟨by rw [HO.out trivial]; rfl, rfl⟩
      | false =>
        go_wp2_with fail
        go_round
        case rel => exact ⟨k + 1, by go_num, by omega, Lib.hid (HO2.out rfl)⟩
        case measure => simp [intOf]; omega
    · obtain ⟨y, hy⟩ : ∃ y, k + p.size = y := ⟨_, rfl⟩
      rw [hy] at hw
      have hlt' : ¬ (y : Int) ≤ (s.size : Int) := by omega
      have hd : decide (y ≤ s.size) = false := decide_eq_false (by omega)
      have HO : Hid (V = -1) := Lib.hid (by rw [← HV.out]; exact noOcc_all HN.out (by omega))
      go_wp2_with fail
      go_ret
      exact ⟨by rw [HO.out]; rfl, rfl⟩
theorem low_any (c : UInt8) (w : World) : Calls Tryz.prog 60 #[.int .u8 c.toNat] w fun e w' => e = .returned (.int .u8 (low c).toNat) ∧ w' = w := by
  by_cases h1 : 65 ≤ c.toNat
  · have h1' : (65 : Int) ≤ (c.toNat : Int) := by omega
    by_cases h2 : c.toNat ≤ 90
    · have h2' : (c.toNat : Int) ≤ 90 := by omega
      have HB : Hid ((low c).toNat = c.toNat + 32) := Lib.hid (by unfold low; rw [if_pos ⟨h1, h2⟩, UInt8.toNat_add]; show (c.toNat + 32) % 256 = _; omega)
      have hw : IntKind.u8.wrap ((c.toNat : Int) + 32) = ((c.toNat + 32 : Nat) : Int) := by unfold IntKind.wrap; simp [IntKind.bits, IntKind.signed]; omega
      clear h1 h2
      go_enter Tryz.func60, Tryz.ntmps60
      go_wp2
      go_ret
      exact ⟨by rw [HB.out]; rfl, rfl⟩
    · have h2' : ¬ (c.toNat : Int) ≤ 90 := by omega
      have HB : Hid (low c = c) := Lib.hid (by unfold low; rw [if_neg (by omega)])
      clear h1 h2
      go_enter Tryz.func60, Tryz.ntmps60
      go_wp2
      go_ret
      exact ⟨by rw [HB.out]; rfl, rfl⟩
  · have h1' : ¬ (65 : Int) ≤ (c.toNat : Int) := by omega
    have HB : Hid (low c = c) := Lib.hid (by unfold low; rw [if_neg (by omega)])
    clear h1
    go_enter Tryz.func60, Tryz.ntmps60
    go_wp2
    go_ret
    exact ⟨by rw [HB.out]; rfl, rfl⟩
/-- What named answers: the flag, where it is a name; whether it is one. -/
def NamedEnd (V FV : Bool) (w : World) (e : Ending) (w' : World) : Prop := ∃ q, e = .returned (.tuple #[.bool q, .bool V]) ∧ (V = true → q = FV) ∧ w' = w
set_option maxRecDepth 100000 in
set_option maxHeartbeats 2000000 in
theorem named_any (s : ByteArray) (w : World) (hz : s.size ≤ 1000000000) :
    Calls Tryz.prog 38 #[.string s] w (NamedEnd (isName s.data.toList) (Lib.equalFold s.data.toList clen) w) := by
  have hls : s.data.toList.length = s.size := (Lib.size_eq s).symm
  have hemp : s.toList.isEmpty = s.data.toList.isEmpty := by rw [Lib.toList_data]
  have HV : Hid (isName s.data.toList = (s.data.toList.all nameC && !s.data.toList.isEmpty)) := rfl
  have HF : Hid (isF s.data.toList s.size = Lib.equalFold s.data.toList clen) := Lib.hid (by rw [← hls]; exact isF_end _)
  have H0 : Hid (isF s.data.toList 0 = decide (s.size = 14)) := Lib.hid (by unfold isF; rw [hls]; simp)
  have h14 : ((s.size : Int) == 14) = decide (s.size = 14) := by rw [Bool.eq_iff_iff, beq_iff_eq, decide_eq_true_iff]; omega
  generalize isName s.data.toList = V at HV ⊢
  generalize Lib.equalFold s.data.toList clen = FV at *
  generalize hE : s.data.toList.isEmpty = E at *
  generalize hd14 : decide (s.size = 14) = D14 at *
  have HE := Lib.hid hE
  clear hE hd14
  have fin : ∀ (q V2 : Bool) (e : Ending), V2 = V → (V2 = true → q = FV) → e = .returned (.tuple #[.bool q, .bool V2]) → NamedEnd V FV w e w := fun q V2 e h1 h2 h3 => ⟨q, by rw [h3, h1], h1 ▸ h2, rfl⟩
  have FIN := Lib.hid fin
  clear fin
  go_enter Tryz.func38, Tryz.ntmps38
  go_wp2_with fail
  go_loop [4, 5] (fun q i => ∃ k : Nat, i = .int .i64 k ∧ k ≤ s.size ∧ q = .bool (isF s.data.toList k) ∧ Hid (∀ (j : Nat) c, j < k → s.data.toList[j]? = some c → nameC c = true)) (fun _ i => s.size - (intOf i).toNat)
  case atStart => exact ⟨0, rfl, Nat.zero_le _, by rw [H0.out], Lib.hid (fun j c hj => by omega)⟩
  case round =>
    obtain ⟨k, rfl, hk, rfl, HJ⟩ := hrel
    by_cases hlt : k < s.size
    · have hlt' : (k : Int) < (s.size : Int) := by omega
      have hget : s.data.toList.getD k 0 = s[k]'hlt := by
        rw [getD_get (by omega)]; rfl
      have HS : Hid (nameC (s.data.toList.getD k 0) = true → ∀ (j : Nat) c, j < k + 1 → s.data.toList[j]? = some c → nameC c = true) := Lib.hid (until_succ (by omega) HJ.out)
      have HN : Hid (nameC (s.data.toList.getD k 0) = false → s.data.toList.all nameC = false) := Lib.hid (all_not (by omega))
      have HX := isF_next s.data.toList k
      have H14 : Hid (isF s.data.toList k = true → k < 14) := Lib.hid fun h => by have := isF_long _ _ h; omega
      have hw : IntKind.i64.wrap ((k : Int) + 1) = ((k + 1 : Nat) : Int) := by rw [IntWalk.i64_in _ (by omega)]; omega
      rw [hget] at HS HN HX
      have hlow := low_any (s[k]'hlt) w
      have HLN := low_name (s[k]'hlt)
      generalize nameC (s[k]'hlt) = C at *
      generalize low (s[k]'hlt) = lc at *
      clear hget
      have HCx : Hid (∀ (x : Int), x = (lc.toNat : Int) → (97 ≤ x ∧ x ≤ 122 ∧ C = true) ∨ (97 ≤ x ∧ ¬ x ≤ 122 ∧ 48 ≤ x ∧ ¬ x ≤ 57 ∧ (x != 45) = true ∧ C = false) ∨ (¬ 97 ≤ x ∧ 48 ≤ x ∧ x ≤ 57 ∧ C = true) ∨ (¬ 97 ≤ x ∧ 48 ≤ x ∧ ¬ x ≤ 57 ∧ (x != 45) = true ∧ C = false) ∨ (¬ 97 ≤ x ∧ ¬ 48 ≤ x ∧ (x != 45) = false ∧ C = true) ∨ (¬ 97 ≤ x ∧ ¬ 48 ≤ x ∧ (x != 45) = true ∧ C = false)) := Lib.hid fun x hx => by
        have e1 : (lc == 45) = decide (x = 45) := by
          rw [Bool.eq_iff_iff, beq_iff_eq, decide_eq_true_iff, hx]
          exact ⟨fun h => by rw [h]; rfl, fun h => UInt8.toNat_inj.1 (by show lc.toNat = 45; omega)⟩
        have e2 : (x != 45) = !decide (x = 45) := by
          rw [Bool.eq_iff_iff]; simp
        rw [e1] at HLN
        rw [e2]
        have hn : (97 ≤ lc.toNat ∧ lc.toNat ≤ 122) ↔ (97 ≤ x ∧ x ≤ 122) := by omega
        have hm : (48 ≤ lc.toNat ∧ lc.toNat ≤ 57) ↔ (48 ≤ x ∧ x ≤ 57) := by omega
        rw [HLN]
        by_cases a1 : 97 ≤ x <;> by_cases a2 : x ≤ 122 <;> by_cases a3 : 48 ≤ x <;> by_cases a4 : x ≤ 57 <;> by_cases a5 : x = 45 <;> simp [hn, hm, a1, a2, a3, a4, a5] <;> omega
      clear HLN
      have hcx := HCx.out _ rfl
      clear HCx
      obtain ⟨q2, hq2⟩ : ∃ q2, isF s.data.toList (k + 1) = q2 := ⟨_, rfl⟩
      rw [hq2] at HX
      have HQ2 := Lib.hid hq2
      have HXX := Lib.hid HX
      clear hq2 HX
      generalize isF s.data.toList k = q at *
      rcases hcx with ⟨a1, a2, rfl⟩ | ⟨a1, a2, a3, a4, a5, rfl⟩ | ⟨a1, a2, a3, rfl⟩ | ⟨a1, a2, a3, a4, a5, rfl⟩ | ⟨a1, a2, a3, rfl⟩ | ⟨a1, a2, a3, rfl⟩
      · cases q with
        | false =>
          go_wp2_with fail
          refine hlow.mono ?_
          rintro e w1 ⟨rfl, rfl⟩
          go_wp2_with fail
          go_round
          case rel => exact ⟨k + 1, by go_num, by omega, by rw [HQ2.out, HXX.out]; rfl, Lib.hid (HS.out trivial)⟩
          case measure => simp [intOf]; omega
        | true =>
          have hk14 : k < 14 := H14.out rfl
          have hk14' : (k : Int) < 14 := by omega
          go_wp2_with fail
          refine hlow.mono ?_
          rintro e w1 ⟨rfl, rfl⟩
          go_wp2_with fail
          go_round
          case rel =>
            refine ⟨k + 1, by go_num, by omega, ?_, Lib.hid (HS.out trivial)⟩
            rw [HQ2.out, HXX.out, Bool.true_and]
            refine congrArg Value.bool ?_
            exact (u8_eq rfl).trans (congrArg (lc == ·) (clen_get k (by exact hk14)))
          case measure => simp [intOf]; omega
      · have b1 := decide_eq_false a2
        have b2 := decide_eq_false a4
        go_wp2_with fail
        refine hlow.mono ?_
        rintro e w1 ⟨rfl, rfl⟩
        go_wp2_with fail
        go_ret2
        exact FIN.out false false _ (by rw [HV.out, HN.out trivial]; rfl) (fun h => by cases h) rfl
      · cases q with
        | false =>
          go_wp2_with fail
          refine hlow.mono ?_
          rintro e w1 ⟨rfl, rfl⟩
          go_wp2_with fail
          go_round
          case rel => exact ⟨k + 1, by go_num, by omega, by rw [HQ2.out, HXX.out]; rfl, Lib.hid (HS.out trivial)⟩
          case measure => simp [intOf]; omega
        | true =>
          have hk14 : k < 14 := H14.out rfl
          have hk14' : (k : Int) < 14 := by omega
          go_wp2_with fail
          refine hlow.mono ?_
          rintro e w1 ⟨rfl, rfl⟩
          go_wp2_with fail
          go_round
          case rel =>
            refine ⟨k + 1, by go_num, by omega, ?_, Lib.hid (HS.out trivial)⟩
            rw [HQ2.out, HXX.out, Bool.true_and]
            refine congrArg Value.bool ?_
            exact (u8_eq rfl).trans (congrArg (lc == ·) (clen_get k (by exact hk14)))
          case measure => simp [intOf]; omega
      · have b2 := decide_eq_false a3
        go_wp2_with fail
        refine hlow.mono ?_
        rintro e w1 ⟨rfl, rfl⟩
        go_wp2_with fail
        go_ret2
        exact FIN.out false false _ (by rw [HV.out, HN.out trivial]; rfl) (fun h => by cases h) rfl
      · cases q with
        | false =>
          go_wp2_with fail
          refine hlow.mono ?_
          rintro e w1 ⟨rfl, rfl⟩
          go_wp2_with fail
          go_round
          case rel => exact ⟨k + 1, by go_num, by omega, by rw [HQ2.out, HXX.out]; rfl, Lib.hid (HS.out trivial)⟩
          case measure => simp [intOf]; omega
        | true =>
          have hk14 : k < 14 := H14.out rfl
          have hk14' : (k : Int) < 14 := by omega
          go_wp2_with fail
          refine hlow.mono ?_
          rintro e w1 ⟨rfl, rfl⟩
          go_wp2_with fail
          go_round
          case rel =>
            refine ⟨k + 1, by go_num, by omega, ?_, Lib.hid (HS.out trivial)⟩
            rw [HQ2.out, HXX.out, Bool.true_and]
            refine congrArg Value.bool ?_
            exact (u8_eq rfl).trans (congrArg (lc == ·) (clen_get k (by exact hk14)))
          case measure => simp [intOf]; omega
      · go_wp2_with fail
        refine hlow.mono ?_
        rintro e w1 ⟨rfl, rfl⟩
        go_wp2_with fail
        go_ret2
        exact FIN.out false false _ (by rw [HV.out, HN.out trivial]; rfl) (fun h => by cases h) rfl
    · obtain rfl : k = s.size := by omega
      have hlt' : ¬ (s.size : Int) < (s.size : Int) := by omega
      have HA : Hid (V = !E) := Lib.hid (by rw [HV.out, all_until HJ.out (by omega), Bool.true_and])
      have hF := HF.out
      cases E with
      | true =>
        go_wp2_with fail
        go_ret2
        exact FIN.out FV false _ (by rw [HA.out]; rfl) (fun h => by cases h) rfl
      | false =>
        go_wp2_with fail
        go_ret2
        exact FIN.out FV true _ (by rw [HA.out]; rfl) (fun _ => rfl) rfl
end Go.Proofs.YtlafcnmopclgiaaGreatDoor
