/-
  quoted.
-/
import Derived.Test.YtfedmhccbfhcbaaGreatDoorF
namespace Go.Proofs.YtfedmhccbfhcbaaGreatDoor
open Go.RowKit

def shN (k : Nat) (x : Nat × Nat) : Nat × Nat := (x.1, k + x.2)
def quoR (l : List UInt8) : Nat × Nat := if l[0]? = some 34 then shN 1 (quo 0 (l.drop 1)) else (0, 0)
theorem quo_nil (st : Nat) : quo st [] = (9, 0) := by cases st <;> rfl
theorem quo_zero (c : UInt8) (r : List UInt8) : quo 0 (c :: r) = if c == 34 then (7, 1) else if c == 10 then (9, 0) else if c == 92 then addN (quo 1 r) else addN (quo 0 r) := rfl
theorem quo_one (c : UInt8) (r : List UInt8) : quo 1 (c :: r) = if escB c then addN (quo 0 r) else if c == 10 then (9, 0) else addN (quo 2 r) := rfl
theorem quo_2 (c : UInt8) (r : List UInt8) : quo 2 (c :: r) = if c == 34 then (9, 1) else if c == 10 then (9, 0) else addN (quo 2 r) := rfl
theorem escB_one (c : UInt8) (r : List UInt8) : oneB [110, 116, 92, 34] (c :: r) = if escB c then 1 else 0 := by
  show (if [110, 116, 92, 34].contains c then 1 else 0) = _
  congr 1; unfold escB; simp [Bool.or_assoc]
theorem quo_bad {l : List UInt8} (h : oneB [110, 116, 92, 34] l = 0) : quo 1 l = quo 2 l := by
  cases l with
  | nil => rfl
  | cons c r =>
    rw [escB_one] at h
    have he : ¬ escB c = true := fun x => by rw [if_pos x] at h; cases h
    have h34 : ¬ (c == 34) = true := fun x => he (by unfold escB; simp [x])
    rw [quo_one, quo_2, if_neg he, if_neg h34]
theorem shN_add (a b : Nat) (x : Nat × Nat) : shN a (shN b x) = shN (a + b) x := by unfold shN; simp; omega
theorem addN_sh (x : Nat × Nat) : addN x = shN 1 x := by unfold addN shN; simp; omega
theorem drop_at {l : List UInt8} {k : Nat} {c : UInt8} (h : l[k]? = some c) : l.drop k = c :: l.drop (k + 1) := by
  have hk : k < l.length := (List.getElem?_eq_some_iff.1 h).1
  rw [List.drop_eq_getElem_cons hk, (List.getElem?_eq_some_iff.1 h).2]
def QuoInv (l : List UInt8) (k : Nat) : Prop := quoR l = shN k (quo 0 (l.drop k))
theorem quo_end {l : List UInt8} {k : Nat} (h : QuoInv l k) (hk : l.length ≤ k) : quoR l = (9, k) := by
  unfold QuoInv at h
  rw [h, List.drop_eq_nil_of_le hk, quo_nil]; rfl
theorem quo_close {l : List UInt8} {k : Nat} {c : UInt8} (h : QuoInv l k) (hc : l[k]? = some c) (h1 : (c == 34) = true) : quoR l = (7, k + 1) := by
  unfold QuoInv at h
  rw [h, drop_at hc, quo_zero, if_pos h1]; rfl
theorem quo_line {l : List UInt8} {k : Nat} {c : UInt8} (h : QuoInv l k) (hc : l[k]? = some c) (h1 : (c == 34) = false) (h2 : (c == 10) = true) : quoR l = (9, k) := by
  unfold QuoInv at h
  rw [h, drop_at hc, quo_zero, if_neg (by simp [h1]), if_pos h2]; rfl
theorem quo_else {l : List UInt8} {k : Nat} {c : UInt8} (h : QuoInv l k) (hc : l[k]? = some c) (h1 : (c == 34) = false) (h2 : (c == 10) = false) (h3 : (c == 92) = false) : QuoInv l (k + 1) := by
  unfold QuoInv at *
  rw [h, drop_at hc, quo_zero, if_neg (by simp [h1]), if_neg (by simp [h2]), if_neg (by simp [h3]), addN_sh, shN_add]
theorem quo_esc {l : List UInt8} {k : Nat} {c : UInt8} (h : QuoInv l k) (hc : l[k]? = some c) (h1 : (c == 34) = false) (h2 : (c == 10) = false) (h3 : (c == 92) = true) (h4 : oneB [110, 116, 92, 34] (l.drop (k + 1)) ≠ 0) : QuoInv l (k + 2) ∧ k + 2 ≤ l.length := by
  unfold QuoInv at *
  rw [h, drop_at hc, quo_zero, if_neg (by simp [h1]), if_neg (by simp [h2]), if_pos h3, addN_sh, shN_add]
  cases hd : l.drop (k + 1) with
  | nil => rw [hd] at h4; exact absurd rfl h4
  | cons d r =>
    rw [hd, escB_one] at h4
    have he : escB d = true := by
      apply Classical.byContradiction; intro x; rw [if_neg x] at h4; exact h4 rfl
    have hr : l.drop (k + 2) = r := by
      have := List.drop_drop (i := 1) (j := k + 1) (l := l)
      rw [hd] at this; exact this.symm
    have hlen := congrArg List.length hd
    rw [List.length_drop, List.length_cons] at hlen
    rw [quo_one, if_pos he, addN_sh, shN_add, hr]
    exact ⟨rfl, by omega⟩
theorem quo_spoil {l : List UInt8} {k : Nat} {c : UInt8} (h : QuoInv l k) (hc : l[k]? = some c) (h1 : (c == 34) = false) (h2 : (c == 10) = false) (h3 : (c == 92) = true) (h4 : oneB [110, 116, 92, 34] (l.drop (k + 1)) = 0) : quoR l = (9, k + 1 + (quo 2 (l.drop (k + 1))).2) := by
  unfold QuoInv at h
  have hq := quo_two (l.drop (k + 1))
  rw [h, drop_at hc, quo_zero, if_neg (by simp [h1]), if_neg (by simp [h2]), if_pos h3, addN_sh, shN_add, quo_bad h4, hq]; rfl
set_option maxHeartbeats 4000000 in
theorem quoted_any (s : ByteArray) (w : World) (hz : s.size ≤ 1000000000) : Calls Tryz.prog 58 #[.string s] w fun e w' => e = .returned (.tuple #[.int .u8 (quoR s.data.toList).1, .int .i64 (quoR s.data.toList).2]) ∧ w = w' := by
  have c1 := fun W => one_any s ⟨#[34]⟩ W
  simp only at c1
  have hls : s.data.toList.length = s.size := (Lib.size_eq s).symm
  have HL := Lib.hid hls
  clear hls
  have h1 : oneB [34] s.data.toList = if s.data.toList[0]? = some 34 then 1 else 0 := by
    cases s.data.toList with
    | nil => rfl
    | cons c r =>
      show (if [34].contains c then 1 else 0) = if some c = some 34 then 1 else 0
      by_cases g : c = 34
      · subst g; rfl
      · rw [if_neg (by simp [g]), if_neg (by simp [g])]
  rw [h1] at c1
  clear h1
  by_cases h0 : s.data.toList[0]? = some 34
  · have HI : Hid (QuoInv s.data.toList 1) := Lib.hid (by unfold QuoInv quoR; rw [if_pos h0])
    have HZ : 1 ≤ s.size := by rw [← HL.out]; exact (List.getElem?_eq_some_iff.1 h0).1
    rw [if_pos h0] at c1
    clear h0
    go_enter Tryz.func58, Tryz.ntmps58
    go_wp2_with (go_at_call 73; ((with_reducible refine (c1 _).mono ?_); rintro e w' ⟨rfl, rfl⟩))
    clear c1
    go_loop [4] (fun i => ∃ k : Nat, i = .int .i64 k ∧ k ≤ s.size ∧ Hid (QuoInv s.data.toList k)) (fun i => s.size - (intOf i).toNat)
    case atStart => exact ⟨1, rfl, HZ, HI⟩
    case round =>
      clear HI
      obtain ⟨k, rfl, hk, HI⟩ := hrel
      by_cases hlt : k < s.size
      · have hlt' : (k : Int) < (s.size : Int) := by omega
        have hgc := Lib.hid (str_get s k hlt)
        have e1 : (((s[k]'hlt).toNat : Int) == 34) = ((s[k]'hlt) == 34) := u8_eq rfl
        have e2 : (((s[k]'hlt).toNat : Int) == 10) = ((s[k]'hlt) == 10) := u8_eq rfl
        have e3 : (((s[k]'hlt).toNat : Int) == 92) = ((s[k]'hlt) == 92) := u8_eq rfl
        have w1 : IntKind.i64.wrap ((k : Int) + 1) = ((k + 1 : Nat) : Int) := by rw [IntWalk.i64_in _ (by omega)]; omega
        have w2 : IntKind.i64.wrap (((k + 1 : Nat) : Int) + 1) = ((k + 2 : Nat) : Int) := by rw [IntWalk.i64_in _ (by omega)]; omega
        cases b1 : ((s[k]'hlt) == 34) with
        | true =>
          rw [b1] at e1
          have HN := Lib.hid (quo_close HI.out hgc.out b1)
          clear b1 e2 e3
          go_wp2_with fail
          go_ret2
          exact ⟨by rw [HN.out]; rfl, rfl⟩
        | false =>
          rw [b1] at e1
          cases b2 : ((s[k]'hlt) == 10) with
          | true =>
            rw [b2] at e2
            have HN := Lib.hid (quo_line HI.out hgc.out b1 b2)
            clear b1 b2 e3
            go_wp2_with fail
            go_ret2
            exact ⟨by rw [HN.out]; rfl, rfl⟩
          | false =>
            rw [b2] at e2
            cases b3 : ((s[k]'hlt) == 92) with
            | false =>
              rw [b3] at e3
              have HN := Lib.hid (quo_else HI.out hgc.out b1 b2 b3)
              clear b1 b2 b3
              go_wp2_with fail
              go_round
              case rel => exact ⟨k + 1, rfl, by omega, HN⟩
              case measure => simp [intOf]; omega
            | true =>
              rw [b3] at e3
              have c2 := fun W => one_any (s.extract (k + 1) s.size) ⟨#[110, 116, 92, 34]⟩ W
              rw [ext_list] at c2
              simp only at c2
              have hk1 : ((k + 1 : Nat) : Int) ≤ (s.size : Int) := by omega
              by_cases h4 : oneB [110, 116, 92, 34] (s.data.toList.drop (k + 1)) = 0
              · have HN := Lib.hid (quo_spoil HI.out hgc.out b1 b2 b3 h4)
                have c3 := fun W => spoilt_any (s.extract (k + 1) s.size) W (by rw [ext_size]; omega)
                rw [ext_list] at c3
                have hle := quo_le (s.data.toList.drop (k + 1)) 2
                rw [List.length_drop, HL.out] at hle
                rw [h4] at c2
                generalize (quo 2 (s.data.toList.drop (k + 1))).2 = m at *
                have w3 : IntKind.i64.wrap (((k + 1 : Nat) : Int) + (m : Int)) = ((k + 1 + m : Nat) : Int) := by rw [IntWalk.i64_in _ (by omega)]; omega
                have hm9 : m ≤ 1000000000 := by omega
                have w4 : IntKind.i64.wrap ((k : Int) + 1 + (m : Int)) = (k : Int) + 1 + (m : Int) := by rw [IntWalk.i64_in _ (by omega)]
                clear b1 b2 b3 h4 hle w3
                go_wp2_with (first | (go_at_call 73; ((with_reducible refine (c2 _).mono ?_); rintro e w' ⟨rfl, rfl⟩)) | (go_at_call 74; ((with_reducible refine (c3 _).mono ?_); rintro e w' ⟨rfl, rfl⟩)))
                go_ret2
                exact ⟨by rw [HN.out]; rfl, rfl⟩
              · have HN := Lib.hid (quo_esc HI.out hgc.out b1 b2 b3 h4)
                have h5 : oneB [110, 116, 92, 34] (s.data.toList.drop (k + 1)) = 1 := by
                  have := (oneB_le [110, 116, 92, 34] (s.data.toList.drop (k + 1))).2
                  omega
                have hk2 : k + 2 ≤ s.size := by rw [← HL.out]; exact HN.out.2
                rw [h5] at c2
                clear b1 b2 b3 h4 h5
                go_wp2_with (go_at_call 73; ((with_reducible refine (c2 _).mono ?_); rintro e w' ⟨rfl, rfl⟩))
                go_round
                case rel => exact ⟨k + 2, rfl, hk2, Lib.hid HN.out.1⟩
                case measure => simp [intOf]; omega
      · have hlt' : ¬ (k : Int) < (s.size : Int) := by omega
        have hke : k = s.size := by omega
        have HN := Lib.hid (quo_end HI.out (by rw [HL.out]; omega))
        rw [hke] at HN
        clear hke
        go_wp2_with fail
        go_ret2
        exact ⟨by rw [HN.out]; rfl, rfl⟩
  · have HN : Hid (quoR s.data.toList = (0, 0)) := Lib.hid (by unfold quoR; rw [if_neg h0])
    rw [if_neg h0] at c1
    clear h0
    go_enter Tryz.func58, Tryz.ntmps58
    go_wp2_with (go_at_call 73; ((with_reducible refine (c1 _).mono ?_); rintro e w' ⟨rfl, rfl⟩))
    go_ret2
    exact ⟨by rw [HN.out]; rfl, rfl⟩
end Go.Proofs.YtfedmhccbfhcbaaGreatDoor
