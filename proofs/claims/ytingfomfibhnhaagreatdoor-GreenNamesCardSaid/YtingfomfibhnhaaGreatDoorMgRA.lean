/-
  The document's bytes: blank, low, digit, behind; At, has.
  The document's remark, Word.
-/
import Derived.Test.YtingfomfibhnhaaGreatDoorMgD
import Derived.Test.YtingfomfibhnhaaGreatDoorMgH
namespace Go.Proofs.YtingfomfibhnhaaGreatDoor
open Go.RowKit

theorem rdigit_any (c : UInt8) (w : World) : Calls Tryz.prog 78 #[.int .u8 c.toNat] w fun e w' => e = .returned (.bool (digB c)) ∧ w = w' := by
  have HB : Hid (digB c = (decide ((48 : Int) ≤ c.toNat) && decide ((c.toNat : Int) ≤ 57))) := Lib.hid (by unfold digB; congr 1 <;> (apply decide_eq_decide.2; omega))
  by_cases h1 : (48 : Int) ≤ c.toNat
  all_goals
    by_cases h2 : (c.toNat : Int) ≤ 57
  all_goals
    go_enter Tryz.func78, Tryz.ntmps78
    go_wp2
    go_ret
    exact ⟨by rw [HB.out]; simp [h1, h2], rfl⟩
theorem rlow_any (c : UInt8) (w : World) : Calls Tryz.prog 75 #[.int .u8 c.toNat] w fun e w' => e = .returned (.bool (lowB c)) ∧ w = w' := by
  have HB : Hid (lowB c = ((decide ((97 : Int) ≤ c.toNat) && decide ((c.toNat : Int) ≤ 122)) || c == 95)) := Lib.hid (by unfold lowB; congr 2 <;> (apply decide_eq_decide.2; omega))
  have e1 : ((c.toNat : Int) == 95) = (c == 95) := u8_eq rfl
  generalize (c == 95) = B at *
  by_cases h1 : (97 : Int) ≤ c.toNat
  all_goals
    by_cases h2 : (c.toNat : Int) ≤ 122
  all_goals
    cases B
  all_goals
    go_enter Tryz.func75, Tryz.ntmps75
    go_wp2
    go_ret
    exact ⟨by rw [HB.out]; simp [h1, h2], rfl⟩
theorem rblank_any (c : UInt8) (w : World) : Calls Tryz.prog 71 #[.int .u8 c.toNat] w fun e w' => e = .returned (.bool (blankB c)) ∧ w = w' := by
  have HB : Hid (blankB c = (c == 32 || c == 9 || c == 10 || c == 13)) := rfl
  have e1 : ((c.toNat : Int) == 32) = (c == 32) := u8_eq rfl
  have e2 : ((c.toNat : Int) == 9) = (c == 9) := u8_eq rfl
  have e3 : ((c.toNat : Int) == 10) = (c == 10) := u8_eq rfl
  have e4 : ((c.toNat : Int) == 13) = (c == 13) := u8_eq rfl
  generalize (c == 32) = B1 at *
  generalize (c == 9) = B2 at *
  generalize (c == 10) = B3 at *
  generalize (c == 13) = B4 at *
  cases B1
  all_goals
    cases B2
  all_goals
    cases B3
  all_goals
    go_enter Tryz.func71, Tryz.ntmps71
    go_wp2
    go_ret
    exact ⟨by rw [HB.out]; simp, rfl⟩
theorem rbehind_any (c : UInt8) (w : World) : Calls Tryz.prog 76 #[.int .u8 c.toNat] w fun e w' => e = .returned (.bool (inB c)) ∧ w = w' := by
  have HB : Hid (inB c = (lowB c || (decide ((65 : Int) ≤ c.toNat) && decide ((c.toNat : Int) ≤ 90)) || digB c || c == 39)) := Lib.hid (by unfold inB upB; congr 3; congr 1 <;> (apply decide_eq_decide.2; omega))
  have e1 : ((c.toNat : Int) == 39) = (c == 39) := u8_eq rfl
  have hs := fun w => rlow_any c w
  have hd := fun w => rdigit_any c w
  generalize (c == 39) = B at *
  generalize lowB c = L at *
  generalize digB c = D at *
  cases L
  all_goals
    cases D
  all_goals
    rcases (by omega : ¬ (65 : Int) ≤ c.toNat ∨ ((65 : Int) ≤ c.toNat ∧ (c.toNat : Int) ≤ 90) ∨ ((65 : Int) ≤ c.toNat ∧ ¬ (c.toNat : Int) ≤ 90)) with h1 | ⟨h1, h2⟩ | ⟨h1, h2⟩
  all_goals
    cases B
  all_goals
    go_enter Tryz.func76, Tryz.ntmps76
    go_wp2_with (first | (go_at_call 75; refine (hs _).mono ?_; rintro e w' ⟨rfl, rfl⟩) | (go_at_call 78; refine (hd _).mono ?_; rintro e w' ⟨rfl, rfl⟩))
    go_ret
    exact ⟨by rw [HB.out]; first | (simp [*]; done) | (simp [*]; omega), rfl⟩
def atB (l : List UInt8) (i : Nat) : UInt8 := (l[i]?).getD 0
theorem at_any (s : ByteArray) (i : Nat) (w : World) (hi : i ≤ 1000000000) : Calls Tryz.prog 72 #[.string s, .int .i64 i] w fun e w' => e = .returned (.int .u8 (atB s.data.toList i).toNat) ∧ w = w' := by
  have h0 : ¬ (i : Int) < 0 := by omega
  by_cases h : i < s.size
  · have h1 : ¬ (s.size : Int) ≤ (i : Int) := by omega
    have h2 : (i : Int) < (s.size : Int) := by omega
    have HV : Hid (atB s.data.toList i = s[i]'h) := Lib.hid (by unfold atB; rw [str_get s i h]; rfl)
    go_enter Tryz.func72, Tryz.ntmps72
    go_wp2_with fail
    go_ret
    exact ⟨by rw [HV.out]; rfl, rfl⟩
  · have h1 : (s.size : Int) ≤ (i : Int) := by omega
    have HV : Hid (atB s.data.toList i = 0) := Lib.hid (by unfold atB; rw [List.getElem?_eq_none (by rw [← Lib.size_eq]; omega)]; rfl)
    go_enter Tryz.func72, Tryz.ntmps72
    go_wp2_with fail
    go_ret
    exact ⟨by rw [HV.out]; rfl, rfl⟩
def hasB (l : List UInt8) (i : Nat) (t : List UInt8) : Bool := decide (i + 2 ≤ l.length) && ((l.drop i).take 2 == t)
theorem has_pre {l t : List UInt8} {i : Nat} (ht : t.length = 2) : hasB l i t = t.isPrefixOf (l.drop i) := by
  unfold hasB
  rw [two_pre t _ ht]
  by_cases h : i + 2 ≤ l.length
  · rw [decide_eq_true h, Bool.true_and]
  · rw [decide_eq_false h, Bool.false_and]
    symm
    rw [beq_eq_false_iff_ne]
    intro e
    have := congrArg List.length e
    rw [List.length_take, List.length_drop, ht] at this; omega
set_option maxHeartbeats 1000000 in
theorem rhas_any (s : ByteArray) (i : Nat) (t : ByteArray) (w : World) (hi : i ≤ 1000000000) : Calls Tryz.prog 73 #[.string s, .int .i64 i, .string t] w fun e w' => e = .returned (.bool (hasB s.data.toList i t.data.toList)) ∧ w = w' := by
  have w1 : IntKind.i64.wrap ((i : Int) + 2) = ((i + 2 : Nat) : Int) := by rw [IntWalk.i64_in _ (by omega)]; omega
  have hB : hasB s.data.toList i t.data.toList = (decide (i + 2 ≤ s.size) && ((s.extract i (i + 2)).toList == t.toList)) := by
    unfold hasB
    rw [← Lib.size_eq, Lib.toList_data, Lib.toList_data, Utf.extract_list, List.drop_take, Nat.add_sub_cancel_left]
  by_cases h : i + 2 ≤ s.size
  · have h1 : ((i + 2 : Nat) : Int) ≤ (s.size : Int) := by omega
    rw [decide_eq_true h, Bool.true_and] at hB
    have HB := Lib.hid hB
    clear hB
    go_enter Tryz.func73, Tryz.ntmps73
    go_wp2_with fail
    go_ret
    exact ⟨by rw [HB.out]; rfl, rfl⟩
  · have h1 : ¬ ((i + 2 : Nat) : Int) ≤ (s.size : Int) := by omega
    rw [decide_eq_false h, Bool.false_and] at hB
    have HB := Lib.hid hB
    clear hB
    go_enter Tryz.func73, Tryz.ntmps73
    go_wp2_with fail
    go_ret
    exact ⟨by rw [HB.out]; rfl, rfl⟩
end Go.Proofs.YtingfomfibhnhaaGreatDoor
namespace Go.Proofs.YtingfomfibhnhaaGreatDoor
open Go.RowKit

theorem rem_done {l : List UInt8} {k : Nat} (h : RemInv l 1 k) (hc : closes (l.drop k) = true) (ho : opens (l.drop k) = false) : rem 0 false l = (k + 2, true) := by
  have e := h.2.2
  rw [rem_closes hc ho, if_pos (by omega)] at e
  rw [e]; show (2 + k, true) = _; rw [Nat.add_comm]
theorem rem_stop {l : List UInt8} {o k : Nat} (h : RemInv l o k) (hk : l.length ≤ k) : rem 0 false l = (l.length, false) := by
  have e := h.2.2
  rw [List.drop_eq_nil_of_le hk, rem_nil] at e
  have e2 : (rem 0 false l).2 = false := by rw [e]; rfl
  have e3 := rem_open l 0 false e2
  exact Prod.ext e3 e2
set_option maxHeartbeats 4000000 in
theorem rremark_any (s : ByteArray) (w : World) (hz : s.size ≤ 1000000) (ho : opens s.data.toList = true) : Calls Tryz.prog 74 #[.string s] w fun e w' => e = .returned (.tuple #[.int .i64 (rem 0 false s.data.toList).1, .bool (rem 0 false s.data.toList).2]) ∧ w = w' := by
  have hls : s.data.toList.length = s.size := (Lib.size_eq s).symm
  have HL := Lib.hid hls
  have H0 := Lib.hid (remInv_open (remInv_start s.data.toList) (by rw [List.drop_zero]; exact ho))
  have h2 := opens_len ho
  rw [hls] at h2
  clear hls
  obtain ⟨R, hR⟩ : ∃ R, rem 0 false s.data.toList = R := ⟨_, rfl⟩
  obtain ⟨R1, R2⟩ := R
  rw [hR]
  have HR := Lib.hid hR
  have HO := Lib.hid ho
  clear hR ho
  go_enter Tryz.func74, Tryz.ntmps74
  go_wp2_with fail
  go_loop [4, 5] (fun a i => ∃ o k : Nat, a = .int .i64 o ∧ i = .int .i64 k ∧ k ≤ s.size ∧ 1 ≤ o ∧ Hid (RemInv s.data.toList o k)) (fun _ i => s.size - (intOf i).toNat)
  case atStart => exact ⟨1, 2, rfl, rfl, h2, Nat.le_refl _, H0⟩
  case round =>
    clear H0
    obtain ⟨o, k, rfl, rfl, hk, h1o, HI⟩ := hrel
    by_cases hlt : k < s.size
    · have hlt' : (k : Int) < (s.size : Int) := by omega
      have c2 := fun W => rhas_any s k ⟨#[40, 42]⟩ W (by omega)
      have c3 := fun W => rhas_any s k ⟨#[42, 41]⟩ W (by omega)
      have e2 : hasB s.data.toList k (⟨#[40, 42]⟩ : ByteArray).data.toList = opens (s.data.toList.drop k) := has_pre rfl
      have e3 : hasB s.data.toList k (⟨#[42, 41]⟩ : ByteArray).data.toList = closes (s.data.toList.drop k) := has_pre rfl
      rw [e2] at c2
      rw [e3] at c3
      clear e2 e3
      have hov := HI.out.2.1
      have w1 : IntKind.i64.wrap ((o : Int) + 1) = ((o + 1 : Nat) : Int) := by rw [IntWalk.i64_in _ (by omega)]; omega
      have w2 : IntKind.i64.wrap ((k : Int) + 2) = ((k + 2 : Nat) : Int) := by rw [IntWalk.i64_in _ (by omega)]; omega
      have w3 : IntKind.i64.wrap ((k : Int) + 1) = ((k + 1 : Nat) : Int) := by rw [IntWalk.i64_in _ (by omega)]; omega
      have w4 : IntKind.i64.wrap ((o : Int) - 1) = ((o - 1 : Nat) : Int) := by rw [IntWalk.i64_in _ (by omega)]; omega
      cases ho : opens (s.data.toList.drop k) with
      | true =>
        rw [ho] at c2
        have h2 := opens_len ho
        rw [List.length_drop, HL.out] at h2
        have HN := Lib.hid (remInv_open HI.out ho)
        clear ho c3
        go_wp2_with (go_at_call 73; refine (c2 _).mono ?_; rintro e w' ⟨rfl, rfl⟩)
        go_round
        case rel => exact ⟨o + 1, k + 2, rfl, rfl, by omega, by omega, HN⟩
        case measure => simp [intOf]; omega
      | false =>
        rw [ho] at c2
        cases hc : closes (s.data.toList.drop k) with
        | true =>
          rw [hc] at c3
          have h2 := closes_len hc
          rw [List.length_drop, HL.out] at h2
          by_cases g : o = 1
          · have q : (((o - 1 : Nat) : Int) == 0) = true := by rw [g]; rfl
            have HN : Hid (R1 = k + 2 ∧ R2 = true) := Lib.hid (by
              have hi := HI.out
              rw [g] at hi
              have := rem_done hi hc ho
              rw [HR.out] at this; injection this with a b; exact ⟨a, b⟩)
            clear ho hc g
            go_wp2_with (first | (go_at_call 73; ((with_reducible refine (c2 _).mono ?_); rintro e w' ⟨rfl, rfl⟩)) | (go_at_call 73; ((with_reducible refine (c3 _).mono ?_); rintro e w' ⟨rfl, rfl⟩)))
            go_ret2
            exact ⟨by rw [HN.out.1, HN.out.2]; rfl, rfl⟩
          · have q : (((o - 1 : Nat) : Int) == 0) = false := beq_eq_false_iff_ne.2 (by omega)
            have HN := Lib.hid (remInv_close HI.out (by omega) hc ho)
            clear ho hc
            go_wp2_with (first | (go_at_call 73; ((with_reducible refine (c2 _).mono ?_); rintro e w' ⟨rfl, rfl⟩)) | (go_at_call 73; ((with_reducible refine (c3 _).mono ?_); rintro e w' ⟨rfl, rfl⟩)))
            go_round
            case rel => exact ⟨o - 1, k + 2, rfl, rfl, by omega, by omega, HN⟩
            case measure => simp [intOf]; omega
        | false =>
          rw [hc] at c3
          have HN := Lib.hid (remInv_else HI.out h1o (by rw [HL.out]; exact hlt) hc ho)
          clear ho hc
          go_wp2_with (first | (go_at_call 73; ((with_reducible refine (c2 _).mono ?_); rintro e w' ⟨rfl, rfl⟩)) | (go_at_call 73; ((with_reducible refine (c3 _).mono ?_); rintro e w' ⟨rfl, rfl⟩)))
          go_round
          case rel => exact ⟨o, k + 1, rfl, rfl, by omega, h1o, HN⟩
          case measure => simp [intOf]; omega
    · have hlt' : ¬ (k : Int) < (s.size : Int) := by omega
      have HN : Hid (R1 = s.size ∧ R2 = false) := Lib.hid (by
        have := rem_stop HI.out (by rw [HL.out]; omega)
        rw [HR.out, HL.out] at this; injection this with a b; exact ⟨a, b⟩)
      go_wp2_with fail
      go_ret2
      exact ⟨by rw [HN.out.1, HN.out.2]; rfl, rfl⟩
def wordsC : Array Value := #[.string ⟨#[108, 101, 116]⟩, .string ⟨#[114, 101, 99]⟩, .string ⟨#[105, 110]⟩, .string ⟨#[102, 117, 110]⟩, .string ⟨#[105, 102]⟩, .string ⟨#[116, 104, 101, 110]⟩, .string ⟨#[101, 108, 115, 101]⟩, .string ⟨#[109, 97, 116, 99, 104]⟩, .string ⟨#[119, 105, 116, 104]⟩, .string ⟨#[116, 114, 117, 101]⟩, .string ⟨#[102, 97, 108, 115, 101]⟩, .string ⟨#[109, 111, 100]⟩]
theorem words_cell (k : Nat) (h : k < 12) : wordsC[k]? = some (.string ⟨(wordsL.getD k []).toArray⟩) := by
  rcases (by omega : k = 0 ∨ k = 1 ∨ k = 2 ∨ k = 3 ∨ k = 4 ∨ k = 5 ∨ k = 6 ∨ k = 7 ∨ k = 8 ∨ k = 9 ∨ k = 10 ∨ k = 11) with rfl | rfl | rfl | rfl | rfl | rfl | rfl | rfl | rfl | rfl | rfl | rfl <;> rfl
def WordEnd (b : Bool) (w : World) (e : Ending) (w' : World) : Prop := e = .returned (.bool b) ∧ Below w.heap.size w w'
theorem has_at {α : Type} [BEq α] [LawfulBEq α] {l : List α} {x d : α} {k : Nat} (hk : k < l.length) (h : (l.getD k d == x) = true) : l.contains x = true := by
  rw [beq_iff_eq] at h
  rw [List.contains_iff_mem, ← h, List.getD_eq_getElem?_getD, List.getElem?_eq_getElem hk]
  exact List.getElem_mem _
theorem has_not {α : Type} [BEq α] [LawfulBEq α] {l : List α} {x d : α} (h : ∀ k, k < l.length → (l.getD k d == x) = false) : l.contains x = false := by
  apply Classical.byContradiction; intro hc
  have hc2 : l.contains x = true := by simpa using hc
  obtain ⟨k, hk, e⟩ := List.getElem_of_mem (List.contains_iff_mem.1 hc2)
  have := h k hk
  rw [List.getD_eq_getElem?_getD, List.getElem?_eq_getElem hk] at this
  simp only [Option.getD_some, e, beq_self_eq_true] at this
  cases this
set_option maxRecDepth 100000 in
set_option maxHeartbeats 4000000 in
theorem rword_any (s : ByteArray) (w : World) : Calls Tryz.prog 77 #[.string s] w (WordEnd (wordsL.contains s.data.toList) w) := by
  have hb : Below w.heap.size w (w.alloc (.cells wordsC 9)) := galloc2 (Below.refl _ _) (Nat.le_refl _) _
  have hn := heap_alloc_new w (.cells wordsC 9)
  have HB := Lib.hid hb
  have HN := Lib.hid hn
  clear hb hn
  obtain ⟨R, hR⟩ : ∃ R, wordsL.contains s.data.toList = R := ⟨_, rfl⟩
  rw [hR]
  have HR := Lib.hid hR
  clear hR
  obtain ⟨w1, hw1⟩ : ∃ w1, w.alloc (.cells wordsC 9) = w1 := ⟨_, rfl⟩
  rw [hw1] at HB HN
  unfold wordsC at hw1
  go_enter Tryz.func77, Tryz.ntmps77
  go_wp2_with fail
  go_loop [4] (fun i => ∃ k : Nat, i = .int .i64 k ∧ k ≤ 12 ∧ Hid (∀ j, j < k → (wordsL.getD j [] == s.data.toList) = false)) (fun i => 12 - (intOf i).toNat)
  case atStart => exact ⟨0, rfl, by omega, Lib.hid (fun j hj => by omega)⟩
  case round =>
    obtain ⟨k, rfl, hk, HJ⟩ := hrel
    by_cases hlt : k < 12
    · have hlt' : (k : Int) < 12 := by omega
      have hx : w1.cell? ⟨w.heap.size, k, none⟩ = some (.string ⟨(wordsL.getD k []).toArray⟩) := (cellH HN.out k).trans (words_cell k hlt)
      have hq : ((⟨(wordsL.getD k []).toArray⟩ : ByteArray).toList == s.toList) = (wordsL.getD k [] == s.data.toList) := by rw [Lib.toList_data, Lib.toList_data]
      generalize (⟨(wordsL.getD k []).toArray⟩ : ByteArray) = TS at *
      have w1' : IntKind.i64.wrap ((k : Int) + 1) = ((k + 1 : Nat) : Int) := by rw [IntWalk.i64_in _ (by omega)]; omega
      cases hb : (wordsL.getD k [] == s.data.toList) with
      | true =>
        rw [hb] at hq
        have HV : Hid (R = true) := Lib.hid (by rw [← HR.out]; exact has_at hlt hb)
        clear hb
        go_wp2_with fail
        go_ret
        exact ⟨by rw [HV.out]; rfl, HB.out⟩
      | false =>
        rw [hb] at hq
        have HJ2 : Hid (∀ j, j < k + 1 → (wordsL.getD j [] == s.data.toList) = false) := Lib.hid (fun j hj => by
          rcases Nat.lt_or_ge j k with g | g
          · exact HJ.out j g
          · obtain rfl : j = k := by omega
            exact hb)
        clear hb
        go_wp2_with fail
        go_round
        case rel => exact ⟨k + 1, rfl, by omega, HJ2⟩
        case measure => simp [intOf]; omega
    · obtain rfl : k = 12 := by omega
      have HV : Hid (R = false) := Lib.hid (by rw [← HR.out]; exact has_not HJ.out)
      have hlt' : ¬ (((12 : Nat) : Int) < 12) := by omega
      go_wp2_with fail
      go_ret
      exact ⟨by rw [HV.out]; rfl, HB.out⟩
end Go.Proofs.YtingfomfibhnhaaGreatDoor
