/-
  Names and numbers: isLetter, isDigit, isName, isNumber.
-/
import Derived.Test.YtlafcnmopclgiaaGreatDoorProg
import Derived.Test.YtlafcnmopclgiaaGreatDoorFA
import Derived.WalkKit
import Derived.WalkLawsBesides
import Derived.IntWalk
import Derived.Deep.RegionHeld3
import Derived.Deep.QuietTactic
import Derived.BigQuiet
import Derived.WalkSpells
import Derived.Below
import Derived.Lib.Hide
import Derived.Lib.ConvBytes
import Derived.OwnWalkIn
import Derived.LoopIn
namespace Go.Proofs.YtlafcnmopclgiaaGreatDoor
open Go.RowKit

theorem isDigit_any (c : UInt8) (w : World) : Calls Tryz.prog 48 #[.int .u8 c.toNat] w fun e w' => e = .returned (.bool (isDig c)) ∧ w' = w := by
  by_cases h1 : 48 ≤ c.toNat
  · have h1' : (48 : Int) ≤ (c.toNat : Int) := by omega
    by_cases h2 : c.toNat ≤ 57
    · have h2' : (c.toNat : Int) ≤ 57 := by omega
      have HB : Hid (isDig c = true) := Lib.hid (by unfold isDig; simp [h1, h2])
      clear h1 h2
      go_enter Tryz.func48, Tryz.ntmps48
      go_wp2
      go_ret
      exact ⟨by rw [HB.out]; rfl, rfl⟩
    · have h2' : ¬ (c.toNat : Int) ≤ 57 := by omega
      have HB : Hid (isDig c = false) := Lib.hid (by unfold isDig; simp [h2])
      clear h1 h2
      go_enter Tryz.func48, Tryz.ntmps48
      go_wp2
      go_ret
      exact ⟨by rw [HB.out]; rfl, rfl⟩
  · have h1' : ¬ (48 : Int) ≤ (c.toNat : Int) := by omega
    have HB : Hid (isDig c = false) := Lib.hid (by unfold isDig; simp [h1])
    clear h1
    go_enter Tryz.func48, Tryz.ntmps48
    go_wp2
    go_ret
    exact ⟨by rw [HB.out]; rfl, rfl⟩
theorem isLetter_any (c : UInt8) (w : World) : Calls Tryz.prog 47 #[.int .u8 c.toNat] w fun e w' => e = .returned (.bool (isLet c)) ∧ w' = w := by
  by_cases h1 : 97 ≤ c.toNat
  · have h1' : (97 : Int) ≤ (c.toNat : Int) := by omega
    have h65 : (65 : Int) ≤ (c.toNat : Int) := by omega
    have h90 : ¬ (c.toNat : Int) ≤ 90 := by omega
    by_cases h2 : c.toNat ≤ 122
    · have h2' : (c.toNat : Int) ≤ 122 := by omega
      have HB : Hid (isLet c = true) := Lib.hid (by unfold isLet; simp [h1, h2])
      clear h1 h2
      go_enter Tryz.func47, Tryz.ntmps47
      go_wp2
      go_ret
      exact ⟨by rw [HB.out]; rfl, rfl⟩
    · have h2' : ¬ (c.toNat : Int) ≤ 122 := by omega
      have HB : Hid (isLet c = false) := Lib.hid (by unfold isLet; simp [h2]; omega)
      clear h1 h2
      go_enter Tryz.func47, Tryz.ntmps47
      go_wp2
      go_ret
      exact ⟨by rw [HB.out]; rfl, rfl⟩
  · have h1' : ¬ (97 : Int) ≤ (c.toNat : Int) := by omega
    by_cases h3 : 65 ≤ c.toNat
    · have h3' : (65 : Int) ≤ (c.toNat : Int) := by omega
      by_cases h4 : c.toNat ≤ 90
      · have h4' : (c.toNat : Int) ≤ 90 := by omega
        have HB : Hid (isLet c = true) := Lib.hid (by unfold isLet; simp [h3, h4])
        clear h1 h3 h4
        go_enter Tryz.func47, Tryz.ntmps47
        go_wp2
        go_ret
        exact ⟨by rw [HB.out]; rfl, rfl⟩
      · have h4' : ¬ (c.toNat : Int) ≤ 90 := by omega
        have HB : Hid (isLet c = false) := Lib.hid (by unfold isLet; simp [h1, h4])
        clear h1 h3 h4
        go_enter Tryz.func47, Tryz.ntmps47
        go_wp2
        go_ret
        exact ⟨by rw [HB.out]; rfl, rfl⟩
    · have h3' : ¬ (65 : Int) ≤ (c.toNat : Int) := by omega
      have HB : Hid (isLet c = false) := Lib.hid (by unfold isLet; simp [h1, h3])
      clear h1 h3
      go_enter Tryz.func47, Tryz.ntmps47
      go_wp2
      go_ret
      exact ⟨by rw [HB.out]; rfl, rfl⟩
theorem u8_eq {c k : UInt8} {n : Int} (h : (k.toNat : Int) = n) : ((c.toNat : Int) == n) = (c == k) := by
  rw [Bool.eq_iff_iff, beq_iff_eq, beq_iff_eq, ← h]
  exact ⟨fun e => UInt8.toNat_inj.1 (by omega), fun e => by rw [e]⟩
theorem bytesWorld_below (w : World) (e : TypeId) (s : ByteArray) : Below w.heap.size w (Lib.bytesWorld w e s) :=
  ⟨rfl, rfl, rfl, by rw [Lib.bytesWorld_size]; omega, fun k hk => Lib.bytesWorld_at_old w e s k hk⟩
theorem getD_get {l : List UInt8} {k : Nat} (h : k < l.length) : l.getD k 0 = l[k] := by
  rw [List.getD_eq_getElem?_getD, List.getElem?_eq_getElem h]; rfl
/-- A row of a text's bytes lies at g. -/
def BRow (w : World) (g : Nat) (l : List UInt8) : Prop := ∀ i, i < l.length → w.cell? ⟨g, i, none⟩ = some (.int .u8 (l.getD i 0).toNat)
theorem all_until {p : UInt8 → Bool} {l : List UInt8} {k : Nat} (h : ∀ (j : Nat) c, j < k → l[j]? = some c → p c = true) (hk : l.length ≤ k) : l.all p = true := by
  rw [List.all_eq_true]
  intro c hc
  obtain ⟨j, hj, rfl⟩ := List.getElem_of_mem hc
  exact h j _ (by omega) (List.getElem?_eq_getElem hj)
theorem all_not {p : UInt8 → Bool} {l : List UInt8} {k : Nat} (hk : k < l.length) (h : p (l.getD k 0) = false) : l.all p = false := by
  rw [Bool.eq_false_iff]
  intro ha
  have := List.all_eq_true.1 ha (l.getD k 0) (by rw [getD_get hk]; exact List.getElem_mem _)
  rw [h] at this; cases this
theorem until_succ {p : UInt8 → Bool} {l : List UInt8} {k : Nat} (hk : k < l.length) (h : ∀ (j : Nat) c, j < k → l[j]? = some c → p c = true) (hc : p (l.getD k 0) = true) : ∀ (j : Nat) c, j < k + 1 → l[j]? = some c → p c = true := by
  intro j c hj hjc
  rcases Nat.lt_or_ge j k with g | g
  · exact h j c g hjc
  · obtain rfl : j = k := by omega
    rw [getD_get hk] at hc
    rw [List.getElem?_eq_getElem hk] at hjc
    rw [← Option.some.inj hjc]; exact hc
set_option maxHeartbeats 1000000 in
theorem isName_any (s : ByteArray) (w : World) (hz : s.size ≤ 1000000000) :
    Calls Tryz.prog 33 #[.string s] w fun e w' => e = .returned (.bool (isName s.data.toList)) ∧ Below w.heap.size w w' := by
  have hcv := Lib.run_convert_string_bytes (P := Tryz.prog) w 9 30 5 s Tryz.underlying9 Tryz.underlying30 Tryz.underlying5
  have hB := Lib.hid (bytesWorld_below w 5 s)
  have hR : Hid (BRow (Lib.bytesWorld w 5 s) w.heap.size s.data.toList) := Lib.hid fun i hi => Lib.bytesWorld_cell w 5 s i (by rw [Lib.size_eq]; exact hi)
  have hlen : s.data.toList.length = s.size := (Lib.size_eq s).symm
  have hemp : s.toList.isEmpty = s.data.toList.isEmpty := by rw [Lib.toList_data]
  have HV : Hid (isName s.data.toList = (s.data.toList.all nameC && !s.data.toList.isEmpty)) := rfl
  generalize isName s.data.toList = V at HV ⊢
  generalize hg : grownCap w s.size 0 5 = cap at *
  generalize Lib.bytesWorld w 5 s = w1 at *
  clear hg
  generalize hE : s.data.toList.isEmpty = E at *
  have HE := Lib.hid hE
  clear hE
  go_enter Tryz.func33, Tryz.ntmps33
  go_wp2_with fail
  go_loop [8] (fun i => ∃ k : Nat, i = .int .i64 k ∧ k ≤ s.size ∧ Hid (∀ (j : Nat) c, j < k → s.data.toList[j]? = some c → nameC c = true)) (fun i => s.size - (intOf i).toNat)
  case atStart => exact ⟨0, rfl, Nat.zero_le _, Lib.hid (fun j c hj => by omega)⟩
  case round =>
    obtain ⟨k, rfl, hk, HJ⟩ := hrel
    by_cases hlt : k < s.size
    · have hlt' : (k : Int) < (s.size : Int) := by omega
      have hc := hR.out k (by rw [hlen]; exact hlt)
      have HS : Hid (nameC (s.data.toList.getD k 0) = true → ∀ (j : Nat) c, j < k + 1 → s.data.toList[j]? = some c → nameC c = true) := Lib.hid (until_succ (by rw [hlen]; exact hlt) HJ.out)
      have HN : Hid (nameC (s.data.toList.getD k 0) = false → s.data.toList.all nameC = false) := Lib.hid (all_not (by rw [hlen]; exact hlt))
      have hw : IntKind.i64.wrap ((k : Int) + 1) = ((k + 1 : Nat) : Int) := by rw [IntWalk.i64_in _ (by omega)]; omega
      generalize s.data.toList.getD k 0 = c at *
      have hl := isLetter_any c
      have hd := isDigit_any c
      have he : ((c.toNat : Int) == 45) = (c == 45) := u8_eq rfl
      have he2 : ((c.toNat : Int) != 45) = !(c == 45) := by unfold bne; rw [he]
      have HC : Hid (nameC c = (isLet c || isDig c || c == 45)) := rfl
      generalize nameC c = C at *
      generalize isLet c = b1 at *
      generalize isDig c = b2 at *
      generalize (c == 45) = b3 at *
      cases b1 with
      | true =>
        go_wp2_with fail
        refine (hl _).mono ?_
        rintro e w' ⟨rfl, rfl⟩
        go_wp2_with fail
        go_round
        case rel => exact ⟨k + 1, by go_num, by omega, Lib.hid (HS.out (by rw [HC.out]; rfl))⟩
        case measure => simp [intOf]; omega
      | false =>
        cases b2 with
        | true =>
          go_wp2_with fail
          refine (hl _).mono ?_
          rintro e w' ⟨rfl, rfl⟩
          go_wp2_with fail
          refine (hd _).mono ?_
          rintro e w' ⟨rfl, rfl⟩
          go_wp2_with fail
          go_round
          case rel => exact ⟨k + 1, by go_num, by omega, Lib.hid (HS.out (by rw [HC.out]; rfl))⟩
          case measure => simp [intOf]; omega
        | false =>
          cases b3 with
          | true =>
            go_wp2_with fail
            refine (hl _).mono ?_
            rintro e w' ⟨rfl, rfl⟩
            go_wp2_with fail
            refine (hd _).mono ?_
            rintro e w' ⟨rfl, rfl⟩
            go_wp2_with fail
            go_round
            case rel => exact ⟨k + 1, by go_num, by omega, Lib.hid (HS.out (by rw [HC.out]; rfl))⟩
            case measure => simp [intOf]; omega
          | false =>
            go_wp2_with fail
            refine (hl _).mono ?_
            rintro e w' ⟨rfl, rfl⟩
            go_wp2_with fail
            refine (hd _).mono ?_
            rintro e w' ⟨rfl, rfl⟩
            go_wp2_with fail
            go_ret
            exact ⟨by rw [HV.out, HN.out (by rw [HC.out]; rfl)]; rfl, hB.out⟩
    · obtain rfl : k = s.size := by omega
      have hlt' : ¬ (s.size : Int) < (s.size : Int) := by omega
      go_wp2_with fail
      go_ret
      exact ⟨by rw [HV.out, all_until HJ.out (by rw [hlen]; exact Nat.le_refl _), Bool.true_and]; rfl, hB.out⟩
set_option maxHeartbeats 1000000 in
theorem isNumber_any (s : ByteArray) (w : World) (hz : s.size ≤ 1000000000) :
    Calls Tryz.prog 36 #[.string s] w fun e w' => e = .returned (.bool (isNumb s.data.toList)) ∧ Below w.heap.size w w' := by
  have hcv := Lib.run_convert_string_bytes (P := Tryz.prog) w 9 30 5 s Tryz.underlying9 Tryz.underlying30 Tryz.underlying5
  have hB := Lib.hid (bytesWorld_below w 5 s)
  have hR : Hid (BRow (Lib.bytesWorld w 5 s) w.heap.size s.data.toList) := Lib.hid fun i hi => Lib.bytesWorld_cell w 5 s i (by rw [Lib.size_eq]; exact hi)
  have hlen : s.data.toList.length = s.size := (Lib.size_eq s).symm
  have hemp : s.toList.isEmpty = s.data.toList.isEmpty := by rw [Lib.toList_data]
  have h48 : (s.toList == [48]) = (s.data.toList == [48]) := by rw [Lib.toList_data]
  have HV : Hid (isNumb s.data.toList = (s.data.toList.all isDig && (s.data.toList == [48] || (!s.data.toList.isEmpty && s.data.toList.head? != some 48)))) := rfl
  generalize isNumb s.data.toList = V at HV ⊢
  generalize hg : grownCap w s.size 0 5 = cap at *
  generalize Lib.bytesWorld w 5 s = w1 at *
  clear hg
  have HE : Hid (s.data.toList.isEmpty = false → 0 < s.size ∧ ∀ h : 0 < s.size, (s.data.toList.head? != some 48) = !(s[0]'h == 48)) := Lib.hid fun hE => by
    have hpos : 0 < s.size := by rw [← hlen]; cases hl : s.data.toList with
      | nil => rw [hl] at hE; cases hE
      | cons => simp
    refine ⟨hpos, fun h => ?_⟩
    have : s.data.toList.head? = some (s[0]'h) := by
      rw [List.head?_eq_getElem?, Array.getElem?_toList, Array.getElem?_eq_getElem (by exact h)]; rfl
    rw [this]; rfl
  generalize hE : s.data.toList.isEmpty = E at *
  generalize (s.data.toList == [48]) = Z at *
  generalize (s.data.toList.head? != some 48) = D at *
  go_enter Tryz.func36, Tryz.ntmps36
  go_wp2_with fail
  go_loop [8] (fun i => ∃ k : Nat, i = .int .i64 k ∧ k ≤ s.size ∧ Hid (∀ (j : Nat) c, j < k → s.data.toList[j]? = some c → isDig c = true)) (fun i => s.size - (intOf i).toNat)
  case atStart => exact ⟨0, rfl, Nat.zero_le _, Lib.hid (fun j c hj => by omega)⟩
  case round =>
    obtain ⟨k, rfl, hk, HJ⟩ := hrel
    by_cases hlt : k < s.size
    · have hlt' : (k : Int) < (s.size : Int) := by omega
      have hc := hR.out k (by rw [hlen]; exact hlt)
      have HS : Hid (isDig (s.data.toList.getD k 0) = true → ∀ (j : Nat) c, j < k + 1 → s.data.toList[j]? = some c → isDig c = true) := Lib.hid (until_succ (by rw [hlen]; exact hlt) HJ.out)
      have HN : Hid (isDig (s.data.toList.getD k 0) = false → s.data.toList.all isDig = false) := Lib.hid (all_not (by rw [hlen]; exact hlt))
      have hw : IntKind.i64.wrap ((k : Int) + 1) = ((k + 1 : Nat) : Int) := by rw [IntWalk.i64_in _ (by omega)]; omega
      generalize s.data.toList.getD k 0 = c at *
      have hd := isDigit_any c
      generalize isDig c = b2 at *
      cases b2 with
      | true =>
        go_wp2_with fail
        refine (hd _).mono ?_
        rintro e w' ⟨rfl, rfl⟩
        go_wp2_with fail
        go_round
        case rel => exact ⟨k + 1, by go_num, by omega, Lib.hid (HS.out (by trivial))⟩
        case measure => simp [intOf]; omega
      | false =>
        go_wp2_with fail
        refine (hd _).mono ?_
        rintro e w' ⟨rfl, rfl⟩
        go_wp2_with fail
        go_ret
        exact ⟨by rw [HV.out, HN.out (by trivial)]; rfl, hB.out⟩
    · obtain rfl : k = s.size := by omega
      have hlt' : ¬ (s.size : Int) < (s.size : Int) := by omega
      have HA : Hid (V = (Z || (!E && D))) := Lib.hid (by rw [HV.out, all_until HJ.out (by rw [hlen]; exact Nat.le_refl _), Bool.true_and])
      cases Z with
      | true =>
        go_wp2_with fail
        go_ret
        exact ⟨by rw [HA.out]; rfl, hB.out⟩
      | false =>
        cases E with
        | true =>
          go_wp2_with fail
          go_ret
          exact ⟨by rw [HA.out]; rfl, hB.out⟩
        | false =>
          obtain ⟨hpos, hhd⟩ := HE.out rfl
          have HD := Lib.hid (hhd hpos)
          have hpos' : (0 : Int) < (s.size : Int) := by omega
          have he : (((s[0]'hpos).toNat : Int) == 48) = (s[0]'hpos == 48) := u8_eq rfl
          have he2 : (((s[0]'hpos).toNat : Int) != 48) = !(s[0]'hpos == 48) := by unfold bne; rw [he]
          clear hhd
          go_wp2_with fail
          go_ret
          exact ⟨by rw [HA.out, HD.out]; rfl, hB.out⟩
end Go.Proofs.YtlafcnmopclgiaaGreatDoor
