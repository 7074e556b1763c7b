/-
  The reference: digit, run, power; what a text begins with.
-/
import Derived.Test.YtgcpgieojckheaaGreatDoorMgH
namespace Go.Proofs.YtgcpgieojckheaaGreatDoor
open Go.RowKit Go.Shelf

/-- Does a text begin with this byte? -/
def hd (c : UInt8) (l : List UInt8) : Bool := l.head? == some c
theorem minus_hd (l : List UInt8) : minusOf l = if hd 45 l then (true, l.drop 1) else (false, l) := by
  cases l with
  | nil => rfl
  | cons a r =>
    by_cases h : a = 45
    · subst h; rfl
    · have : hd 45 (a :: r) = false := by simp [hd, h]
      rw [this]
      unfold minusOf
      split
      · rename_i e; simp at e; exact absurd e.1 h
      · rfl
theorem frac_hd (l : List UInt8) : fracOf l = if hd 46 l then (if digs (l.drop 1) = [] then none else some (digs (l.drop 1), past (l.drop 1))) else some ([], l) := by
  cases l with
  | nil => rfl
  | cons a r =>
    by_cases h : a = 46
    · subst h; rfl
    · have : hd 46 (a :: r) = false := by simp [hd, h]
      rw [this]
      unfold fracOf
      split
      · rename_i e; simp at e; exact absurd e.1 h
      · rfl
theorem sign_hd (l : List UInt8) : signOf l = if hd 43 l || hd 45 l then (hd 45 l, l.drop 1) else (false, l) := by
  cases l with
  | nil => rfl
  | cons a r =>
    by_cases h : a = 45
    · subst h; rfl
    · by_cases h2 : a = 43
      · subst h2; rfl
      · have e1 : hd 45 (a :: r) = false := by simp [hd, h]
        have e2 : hd 43 (a :: r) = false := by simp [hd, h2]
        rw [e1, e2]
        unfold signOf
        split
        · rename_i e; simp at e; exact absurd e.1 h
        · rename_i e; simp at e; exact absurd e.1 h2
        · rfl
theorem exp_hd (l : List UInt8) : expOf l = if hd 101 l || hd 69 l then (if digs (signOf (l.drop 1)).2 = [] then none else some ((signOf (l.drop 1)).1, digs (signOf (l.drop 1)).2, past (signOf (l.drop 1)).2)) else some (false, [], l) := by
  cases l with
  | nil => rfl
  | cons a r =>
    unfold expOf
    dsimp only
    by_cases h : a = 101 ∨ a = 69
    · rw [if_pos h]
      have : (hd 101 (a :: r) || hd 69 (a :: r)) = true := by simp [hd]; exact h
      rw [this]; rfl
    · rw [if_neg h]
      have : (hd 101 (a :: r) || hd 69 (a :: r)) = false := by
        simp [hd]; exact ⟨fun e => h (.inl e), fun e => h (.inr e)⟩
      rw [this]; rfl
theorem get_list {s : ByteArray} {i : Nat} (h : i < s.size) : s.data.toList[i]? = some (s[i]'h) := by rw [Array.getElem?_toList, Array.getElem?_eq_getElem (by exact h)]; rfl
theorem hd_at {s : ByteArray} {i : Nat} (h : i < s.size) (c : UInt8) : hd c (s.data.toList.drop i) = ((((s[i]'h).toNat : Int)) == (c.toNat : Int)) := by
  unfold hd
  rw [List.head?_drop, get_list h]
  by_cases e : s[i] = c
  · rw [e]; simp
  · have h1 : ¬ (((s[i]'h).toNat : Int) = (c.toNat : Int)) := fun x => e (UInt8.toNat_inj.1 (by omega))
    rw [beq_eq_false_iff_ne.2 h1]
    simp [e]
theorem hd_end {s : ByteArray} {i : Nat} (h : ¬ i < s.size) (c : UInt8) : hd c (s.data.toList.drop i) = false := by
  unfold hd
  rw [List.head?_drop, List.getElem?_eq_none (by rw [← Lib.size_eq]; omega)]
  rfl
theorem drop_digs (l : List UInt8) (i : Nat) : l.drop (i + (digs (l.drop i)).length) = past (l.drop i) := by
  rw [← List.drop_drop]
  have := digs_past (l.drop i)
  conv => lhs; arg 2; rw [← this]
  exact List.drop_left
theorem take_digs (l : List UInt8) (i : Nat) : (l.drop i).take (digs (l.drop i)).length = digs (l.drop i) := by
  have := digs_past (l.drop i)
  conv => lhs; arg 2; rw [← this]
  exact List.take_left
theorem digs_le (s : ByteArray) (i : Nat) (h : i ≤ s.size) : i + (digs (s.data.toList.drop i)).length ≤ s.size := by
  have h1 := digs_past (s.data.toList.drop i)
  have h2 := congrArg List.length h1
  rw [List.length_append, List.length_drop, ← Lib.size_eq] at h2
  omega

theorem rdigit_any (c : Nat) (w : World) (hc : c < 256) : Calls Tryz.prog 166 #[.int .u8 c] w fun e w' => e = .returned (.bool (decide (48 ≤ c) && decide (c ≤ 57))) ∧ w = w' := by
  by_cases h1 : 48 ≤ c
  · have h1' : (48 : Int) ≤ (c : Int) := by omega
    by_cases h2 : c ≤ 57
    · have h2' : (c : Int) ≤ 57 := by omega
      go_enter Tryz.func166, Tryz.ntmps166
      go_wp2
      go_ret
      exact ⟨by rw [decide_eq_true h1, decide_eq_true h2]; rfl, rfl⟩
    · have h2' : ¬ (c : Int) ≤ 57 := by omega
      go_enter Tryz.func166, Tryz.ntmps166
      go_wp2
      go_ret
      exact ⟨rfl, rfl⟩
  · have h1' : ¬ (48 : Int) ≤ (c : Int) := by omega
    go_enter Tryz.func166, Tryz.ntmps166
    go_wp2
    go_ret
    exact ⟨rfl, rfl⟩
set_option maxHeartbeats 1000000 in
theorem rrun_any (s : ByteArray) (i : Nat) (w : World) (hs : s.size ≤ 1000000000) (hi : i ≤ s.size) :
    Calls Tryz.prog 118 #[.string s, .int .i64 i] w fun e w' => e = .returned (.int .i64 ((digs (s.data.toList.drop i)).length : Nat)) ∧ w = w' := by
  go_enter Tryz.func118, Tryz.ntmps118
  go_wp2
  go_loop [5] (fun n => ∃ k : Nat, n = .int .i64 k ∧ i + k ≤ s.size ∧ Hid (∀ (j : Nat) c, j < k → (s.data.toList.drop i)[j]? = some c → isDig c = true)) (fun n => s.size - (intOf n).toNat)
  case atStart => exact ⟨0, rfl, hi, Lib.hid (fun j c hj => absurd hj (Nat.not_lt_zero _))⟩
  case round =>
    obtain ⟨k, rfl, hk, HK⟩ := hrel
    have hw1 : IntKind.i64.wrap ((i : Int) + k) = ((i + k : Nat) : Int) := by rw [IntWalk.i64_in _ (by omega)]; omega
    have hsum : (i : Int) + k = ((i + k : Nat) : Int) := by omega
    obtain ⟨m, hm⟩ : ∃ m, i + k = m := ⟨_, rfl⟩
    have hkb : (k : Int) ≤ 1000000000 := by omega
    have hkb2 : k ≤ s.size := by omega
    rw [hm] at hw1 hk
    have HM := Lib.hid hm
    clear hm hsum
    by_cases hlt : m < s.size
    · have hlt' : (m : Int) < (s.size : Int) := by omega
      have hat : Hid ((s.data.toList.drop i)[k]? = some (s[m]'hlt)) := Lib.hid (by rw [List.getElem?_drop, HM.out]; exact get_list hlt)
      have hdg := rdigit_any (s[m]'hlt).toNat w (UInt8.toNat_lt _)
      by_cases hd : isDig (s[m]'hlt) = true
      · have e : (decide (48 ≤ (s[m]'hlt).toNat) && decide ((s[m]'hlt).toNat ≤ 57)) = true := hd
        rw [e] at hdg
        have HD := Lib.hid hd
        clear e hd
        go_wp2_with fail
        refine hdg.mono ?_
        rintro e w1 ⟨rfl, rfl⟩
        go_wp2
        go_round
        case rel =>
          refine ⟨k + 1, by go_num, by have := HM.out; omega, Lib.hid fun j c hj hc => ?_⟩
          rcases Nat.lt_succ_iff_lt_or_eq.1 hj with g | g
          · exact HK.out j c g hc
          · subst g
            rw [hat.out] at hc
            rw [← Option.some.inj hc]; exact HD.out
        case measure => have := HM.out; simp [intOf]; omega
      · have e : (decide (48 ≤ (s[m]'hlt).toNat) && decide ((s[m]'hlt).toNat ≤ 57)) = false := by simpa [isDig] using hd
        rw [e] at hdg
        have HE : Hid ((digs (s.data.toList.drop i)).length = k) := Lib.hid (by
          have := digs_take (s.data.toList.drop i) k HK.out (by rw [List.length_drop, ← Lib.size_eq]; have := HM.out; omega) (fun c hc => by
            rw [hat.out] at hc
            rw [← Option.some.inj hc]; simpa using hd)
          rw [this.1, List.length_take, List.length_drop, ← Lib.size_eq]; have := HM.out; omega)
        clear e hd
        go_wp2_with fail
        refine hdg.mono ?_
        rintro e w1 ⟨rfl, rfl⟩
        go_wp2
        go_ret
        exact ⟨by rw [HE.out]; rfl, rfl⟩
    · have hlt' : ¬ (m : Int) < (s.size : Int) := by omega
      have HE : Hid ((digs (s.data.toList.drop i)).length = k) := Lib.hid (by
        have := digs_take (s.data.toList.drop i) k HK.out (by rw [List.length_drop, ← Lib.size_eq]; have := HM.out; omega) (fun c hc => by
          rw [List.getElem?_drop, List.getElem?_eq_none (by rw [← Lib.size_eq]; have := HM.out; omega)] at hc; cases hc)
        rw [this.1, List.length_take, List.length_drop, ← Lib.size_eq]; have := HM.out; omega)
      go_wp2
      go_ret
      exact ⟨by rw [HE.out]; rfl, rfl⟩
/-- The bound up to which the reference reads a power. -/
def farR : Nat := 100000000
theorem farR_eq : farR = 100000000 := rfl
/-- What power answers of digits: the number, or one that is too far. -/
def PowN (B : Nat) (l : List UInt8) (n : Nat) : Prop := (n = num l ∨ (B ≤ n ∧ n ≤ num l)) ∧ n ≤ 10 * B + 9
def PowNEnd (B : Nat) (l : List UInt8) (w : World) (e : Ending) (w' : World) : Prop := ∃ n : Nat, PowN B l n ∧ e = .returned (.int .i64 n) ∧ w = w'
set_option maxHeartbeats 1000000 in
theorem rpower_any (s : ByteArray) (w : World) (hd : ∀ c ∈ s.data.toList, isDig c = true) (hl : s.size ≤ 1000000000) :
    Calls Tryz.prog 119 #[.string s] w (PowNEnd farR s.data.toList w) := by
  have HD : Hid (∀ (k : Nat) (hk : k < s.size), isDig (s[k]'hk) = true ∧ num (s.data.toList.take (k + 1)) = num (s.data.toList.take k) * 10 + ((s[k]'hk).toNat - 48)) := Lib.hid fun k hk => by
    have hk' : k < s.data.toList.length := by rw [← Lib.size_eq]; exact hk
    have e : s.data.toList[k] = s[k]'hk := rfl
    refine ⟨?_, ?_⟩
    · rw [← e]; exact hd _ (List.getElem_mem _)
    · rw [num_take _ k hk', e]
  have HN : Hid (∀ k, num (s.data.toList.take k) ≤ num s.data.toList) := Lib.hid fun k => num_take_le _ k
  have HT : Hid (num (s.data.toList.take s.size) = num s.data.toList) := Lib.hid (by rw [List.take_of_length_le (by rw [← Lib.size_eq]; exact Nat.le_refl _)])
  have hfar : farR = 100000000 := farR_eq
  have HF := Lib.hid hfar
  clear hd hfar
  go_enter Tryz.func119, Tryz.ntmps119
  go_wp2
  go_loop [3, 4] (fun n i => ∃ k : Nat, i = .int .i64 k ∧ k ≤ s.size ∧ n = .int .i64 (num (s.data.toList.take k) : Nat) ∧ num (s.data.toList.take k) ≤ 1000000009) (fun _ i => s.size - (intOf i).toNat)
  case atStart => exact ⟨0, rfl, Nat.zero_le _, rfl, by simp [num]⟩
  case round =>
    obtain ⟨k, rfl, hk, rfl, hn⟩ := hrel
    have hle := HN.out k
    by_cases hlt : k < s.size
    · have hlt' : (k : Int) < (s.size : Int) := by omega
      obtain ⟨hdg, hstep⟩ := HD.out k hlt
      have hd9 := isDig_iff.1 hdg
      have HS := Lib.hid hstep
      clear hdg hstep
      generalize num (s.data.toList.take k) = m at *
      by_cases hm : m < 100000000
      · have hm' : (m : Int) < 100000000 := by omega
        have hw1 : IntKind.i64.wrap ((m : Int) * 10) = (m : Int) * 10 := IntWalk.i64_in _ (by omega)
        have hw2 : IntKind.i64.wrap (((s[k]'hlt).toNat : Int)) = ((s[k]'hlt).toNat : Int) := IntWalk.i64_in _ (by omega)
        have hw3 : IntKind.i64.wrap ((m : Int) * 10 + ((s[k]'hlt).toNat : Int)) = (m : Int) * 10 + ((s[k]'hlt).toNat : Int) := IntWalk.i64_in _ (by omega)
        have hw4 : IntKind.i64.wrap ((m : Int) * 10 + ((s[k]'hlt).toNat : Int) - 48) = (m : Int) * 10 + ((s[k]'hlt).toNat : Int) - 48 := IntWalk.i64_in _ (by omega)
        go_wp2
        go_round
        case rel => exact ⟨k + 1, by go_num, by omega, by rw [HS.out]; congr 1; omega, by rw [HS.out]; omega⟩
        case measure => simp [intOf]; omega
      · have hm' : ¬ (m : Int) < 100000000 := by omega
        have HM : Hid (PowN farR s.data.toList m) := Lib.hid ⟨.inr ⟨by rw [HF.out]; omega, hle⟩, by rw [HF.out]; omega⟩
        have hdm : decide ((m : Int) < 100000000) = false := decide_eq_false hm'
        go_wp2
        go_ret
        exact ⟨_, HM.out, rfl, rfl⟩
    · obtain rfl : k = s.size := by omega
      have HM : Hid (PowN farR s.data.toList (num (s.data.toList.take s.size))) := Lib.hid ⟨.inl HT.out, by rw [HF.out]; omega⟩
      generalize num (s.data.toList.take s.size) = m at *
      clear HT
      go_wp2
      go_ret
      exact ⟨_, HM.out, rfl, rfl⟩
end Go.Proofs.YtgcpgieojckheaaGreatDoor
