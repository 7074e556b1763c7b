/-
  remark, twoByteSign.
-/
import Derived.Test.YtfedmhccbfhcbaaGreatDoorD
import Derived.Laws.Rows
namespace Go.Proofs.YtfedmhccbfhcbaaGreatDoor
open Go.RowKit

theorem has_any (s p : ByteArray) (w : World) : Calls Tryz.prog 65 #[.string s, .string p] w fun e w' => e = .returned (.bool (Lib.hasPrefix s.data.toList p.data.toList)) ∧ w = w' :=
  (Tryz.strings_HasPrefix s p w).mono fun _ _ h => ⟨h.1, h.2.symm⟩
def remR (l : List UInt8) : Nat × Nat := if opens l then (if (rem 0 false l).2 then 2 else 9, (rem 0 false l).1) else (0, 0)
def addK (k : Nat) (x : Nat × Bool) : Nat × Bool := (x.1 + k, x.2)
theorem closes_len {l : List UInt8} (h : closes l = true) : 2 ≤ l.length := by
  unfold closes at h
  have := (List.isPrefixOf_iff_prefix.1 h).length_le
  simpa using this
theorem rem_opens {l : List UInt8} {o : Nat} (h : opens l = true) : rem o false l = addK 2 (rem (o + 1) false (l.drop 2)) := by
  match l, opens_len h with
  | c :: d :: r, _ =>
    rw [rem_false, if_pos h, rem_true, if_neg (by omega)]
    rfl
theorem rem_closes {l : List UInt8} {o : Nat} (h : closes l = true) (ho : opens l = false) : rem o false l = if o - 1 = 0 then (2, true) else addK 2 (rem (o - 1) false (l.drop 2)) := by
  match l, closes_len h with
  | c :: d :: r, _ =>
    rw [rem_false, if_neg (by simp [ho]), if_pos h, rem_true]
    split <;> rfl
theorem rem_else {l : List UInt8} {o : Nat} (hl : 0 < l.length) (h : closes l = false) (ho : opens l = false) : rem o false l = addK 1 (rem o false (l.drop 1)) := by
  match l, hl with
  | c :: r, _ =>
    rw [rem_false, if_neg (by simp [ho]), if_neg (by simp [h])]
    rfl
theorem addK_add (a b : Nat) (x : Nat × Bool) : addK a (addK b x) = addK (a + b) x := by unfold addK; simp; omega
def RemInv (l : List UInt8) (o k : Nat) : Prop := (o = 0 → k = 0) ∧ o ≤ k ∧ rem 0 false l = addK k (rem o false (l.drop k))
theorem remInv_start (l : List UInt8) : RemInv l 0 0 := ⟨fun _ => rfl, Nat.le_refl _, rfl⟩
theorem remInv_open {l : List UInt8} {o k : Nat} (h : RemInv l o k) (ho : opens (l.drop k) = true) : RemInv l (o + 1) (k + 2) :=
  ⟨fun x => by omega, by have := h.2.1; omega, by rw [h.2.2, rem_opens ho, addK_add, List.drop_drop]⟩
theorem remInv_close {l : List UInt8} {o k : Nat} (h : RemInv l o k) (h1 : 2 ≤ o) (hc : closes (l.drop k) = true) (ho : opens (l.drop k) = false) : RemInv l (o - 1) (k + 2) :=
  ⟨fun x => by omega, by have := h.2.1; omega, by rw [h.2.2, rem_closes hc ho, if_neg (by omega), addK_add, List.drop_drop]⟩
theorem remInv_else {l : List UInt8} {o k : Nat} (h : RemInv l o k) (h1 : 1 ≤ o) (hk : k < l.length) (hc : closes (l.drop k) = false) (ho : opens (l.drop k) = false) : RemInv l o (k + 1) :=
  ⟨fun x => by omega, by have := h.2.1; omega, by rw [h.2.2, rem_else (by rw [List.length_drop]; omega) hc ho, addK_add, List.drop_drop]⟩
theorem remInv_some {l : List UInt8} {o k : Nat} (h : RemInv l o k) (hl : opens l = true) (ho : opens (l.drop k) = false) : 1 ≤ o := by
  rcases Nat.eq_zero_or_pos o with g | g
  · have := h.1 g
    subst this
    rw [List.drop_zero, hl] at ho; cases ho
  · exact g
theorem remInv_done {l : List UInt8} {k : Nat} (h : RemInv l 1 k) (hl : opens l = true) (hc : closes (l.drop k) = true) (ho : opens (l.drop k) = false) : remR l = (2, k + 2) := by
  have e := h.2.2
  rw [rem_closes hc ho, if_pos (by omega)] at e
  unfold remR
  rw [if_pos hl, e]; simp [addK]; omega
theorem remInv_end {l : List UInt8} {o k : Nat} (h : RemInv l o k) (hl : opens l = true) (hk : l.length ≤ k) : remR l = (9, l.length) := by
  have e := h.2.2
  rw [List.drop_eq_nil_of_le hk, rem_nil] at e
  have e2 : (rem 0 false l).2 = false := by rw [e]; rfl
  have e3 := rem_open l 0 false e2
  unfold remR
  rw [if_pos hl, e2, e3]; rfl
set_option maxHeartbeats 4000000 in
theorem remark_any (s : ByteArray) (w : World) (hz : s.size ≤ 1000000000) : Calls Tryz.prog 54 #[.string s] w fun e w' => e = .returned (.tuple #[.int .u8 (remR s.data.toList).1, .int .i64 (remR s.data.toList).2]) ∧ w = w' := by
  have c1 := fun W => has_any s ⟨#[40, 42]⟩ W
  have e1 : Lib.hasPrefix s.data.toList (⟨#[40, 42]⟩ : ByteArray).data.toList = opens s.data.toList := rfl
  rw [e1] at c1
  have hls : s.data.toList.length = s.size := (Lib.size_eq s).symm
  have HL := Lib.hid hls
  clear hls e1
  obtain ⟨R, hR⟩ : ∃ R, remR s.data.toList = R := ⟨_, rfl⟩
  obtain ⟨R1, R2⟩ := R
  rw [hR]
  have HR := Lib.hid hR
  clear hR
  cases ho : opens s.data.toList with
  | false =>
    rw [ho] at c1
    have HN : Hid (R1 = 0 ∧ R2 = 0) := Lib.hid (by have := HR.out; unfold remR at this; rw [if_neg (by simp [ho])] at this; injection this with a b; exact ⟨a.symm, b.symm⟩)
    clear ho
    go_enter Tryz.func54, Tryz.ntmps54
    go_wp2_with (go_at_call 65; refine (c1 _).mono ?_; rintro e w' ⟨rfl, rfl⟩)
    go_ret2
    exact ⟨by rw [HN.out.1, HN.out.2]; rfl, rfl⟩
  | true =>
    rw [ho] at c1
    have HO := Lib.hid ho
    clear ho
    go_enter Tryz.func54, Tryz.ntmps54
    go_wp2_with (go_at_call 65; refine (c1 _).mono ?_; rintro e w' ⟨rfl, rfl⟩)
    clear c1
    go_loop [4, 5] (fun a i => ∃ o k : Nat, a = .int .i64 o ∧ i = .int .i64 k ∧ k ≤ s.size ∧ Hid (RemInv s.data.toList o k)) (fun _ i => s.size - (intOf i).toNat)
    case atStart => exact ⟨0, 0, rfl, rfl, Nat.zero_le _, Lib.hid (remInv_start _)⟩
    case round =>
      obtain ⟨o, k, rfl, rfl, hk, HI⟩ := hrel
      by_cases hlt : k < s.size
      · have hlt' : (k : Int) < (s.size : Int) := by omega
        have c2 := fun W => has_any (s.extract k s.size) ⟨#[40, 42]⟩ W
        have e2 : Lib.hasPrefix (s.extract k s.size).data.toList (⟨#[40, 42]⟩ : ByteArray).data.toList = opens (s.data.toList.drop k) := by rw [ext_list]; rfl
        have c3 := fun W => has_any (s.extract k s.size) ⟨#[42, 41]⟩ W
        have e3 : Lib.hasPrefix (s.extract k s.size).data.toList (⟨#[42, 41]⟩ : ByteArray).data.toList = closes (s.data.toList.drop k) := by rw [ext_list]; rfl
        rw [e2] at c2
        rw [e3] at c3
        clear e2 e3
        have hov := HI.out.2.1
        have w1 : IntKind.i64.wrap ((o : Int) + 1) = ((o + 1 : Nat) : Int) := by rw [IntWalk.i64_in _ (by omega)]; omega
        have w2 : IntKind.i64.wrap ((k : Int) + 2) = ((k + 2 : Nat) : Int) := by rw [IntWalk.i64_in _ (by omega)]; omega
        have w3 : IntKind.i64.wrap ((k : Int) + 1) = ((k + 1 : Nat) : Int) := by rw [IntWalk.i64_in _ (by omega)]; omega
        cases ho : opens (s.data.toList.drop k) with
        | true =>
          rw [ho] at c2
          have h2 := opens_len ho
          rw [List.length_drop, HL.out] at h2
          have HN := Lib.hid (remInv_open HI.out ho)
          have q : (((o + 1 : Nat) : Int) == 0) = false := beq_eq_false_iff_ne.2 (by omega)
          clear ho c3
          go_wp2_with (go_at_call 65; refine (c2 _).mono ?_; rintro e w' ⟨rfl, rfl⟩)
          go_round
          case rel => exact ⟨o + 1, k + 2, rfl, rfl, by omega, HN⟩
          case measure => simp [intOf]; omega
        | false =>
          rw [ho] at c2
          have ho1 := remInv_some HI.out HO.out ho
          have w4 : IntKind.i64.wrap ((o : Int) - 1) = ((o - 1 : Nat) : Int) := by rw [IntWalk.i64_in _ (by omega)]; omega
          cases hc : closes (s.data.toList.drop k) with
          | true =>
            rw [hc] at c3
            have h2 := closes_len hc
            rw [List.length_drop, HL.out] at h2
            by_cases g : o = 1
            · have q : (((o - 1 : Nat) : Int) == 0) = true := by rw [g]; rfl
              have HN : Hid (R1 = 2 ∧ R2 = k + 2) := Lib.hid (by
                have hi := HI.out
                rw [g] at hi
                have := remInv_done hi HO.out hc ho
                rw [HR.out] at this; injection this with a b; exact ⟨a, b⟩)
              clear ho hc g
              go_wp2_with (first | (go_at_call 65; ((with_reducible refine (c2 _).mono ?_); rintro e w' ⟨rfl, rfl⟩)) | (go_at_call 65; ((with_reducible refine (c3 _).mono ?_); rintro e w' ⟨rfl, rfl⟩)))
              go_ret2
              exact ⟨by rw [HN.out.1, HN.out.2]; rfl, rfl⟩
            · have q : (((o - 1 : Nat) : Int) == 0) = false := beq_eq_false_iff_ne.2 (by omega)
              have HN := Lib.hid (remInv_close HI.out (by omega) hc ho)
              clear ho hc
              go_wp2_with (first | (go_at_call 65; ((with_reducible refine (c2 _).mono ?_); rintro e w' ⟨rfl, rfl⟩)) | (go_at_call 65; ((with_reducible refine (c3 _).mono ?_); rintro e w' ⟨rfl, rfl⟩)))
              go_round
              case rel => exact ⟨o - 1, k + 2, rfl, rfl, by omega, HN⟩
              case measure => simp [intOf]; omega
          | false =>
            rw [hc] at c3
            have q : ((o : Int) == 0) = false := beq_eq_false_iff_ne.2 (by omega)
            have HN := Lib.hid (remInv_else HI.out ho1 (by rw [HL.out]; exact hlt) hc ho)
            clear ho hc
            go_wp2_with (first | (go_at_call 65; ((with_reducible refine (c2 _).mono ?_); rintro e w' ⟨rfl, rfl⟩)) | (go_at_call 65; ((with_reducible refine (c3 _).mono ?_); rintro e w' ⟨rfl, rfl⟩)))
            go_round
            case rel => exact ⟨o, k + 1, rfl, rfl, by omega, HN⟩
            case measure => simp [intOf]; omega
      · have hlt' : ¬ (k : Int) < (s.size : Int) := by omega
        have HN : Hid (R1 = 9 ∧ R2 = s.size) := Lib.hid (by
          have := remInv_end HI.out HO.out (by rw [HL.out]; omega)
          rw [HR.out, HL.out] at this; injection this with a b; exact ⟨a, b⟩)
        go_wp2_with fail
        go_ret2
        exact ⟨by rw [HN.out.1, HN.out.2]; rfl, rfl⟩

/-! ### the signs of two bytes -/
def twoS (k : Nat) : ByteArray := ⟨(twosL.getD k []).toArray⟩
def TwosAt (w : World) : Prop := ∀ i, i < 11 → w.cell? ⟨0, i, none⟩ = some (.string (twoS i))
def twosC : Array Value := #[.string (twoS 0), .string (twoS 1), .string (twoS 2), .string (twoS 3), .string (twoS 4), .string (twoS 5), .string (twoS 6), .string (twoS 7), .string (twoS 8), .string (twoS 9), .string (twoS 10)]
theorem TwosAt.below {n : Nat} {W W' : World} (h : TwosAt W) (hb : Below n W W') (hn : 1 ≤ n) : TwosAt W' := fun i hi => (hb.cell (p := ⟨0, i, none⟩) (by show 0 < n; omega)).trans (h i hi)
theorem run_twos (w : World) (h : TwosAt w) : (loadVar 110 ⟨0, 0, none⟩).run Tryz.prog w = .ok (.agg twosC) w := by
  have hl : (loadCells ⟨0, 0, none⟩ twosC.toList.length).run Tryz.prog w = .ok twosC.toList.toArray w :=
    run_loadCells_list (P := Tryz.prog) w ⟨0, 0, none⟩ twosC.toList (fun j v hv => by
      have hadd : (⟨0, 0, none⟩ : Addr).add j = ⟨0, j, none⟩ := by unfold Addr.add; split <;> simp_all
      rw [hadd]
      have hj : j < 11 := by
        rcases Nat.lt_or_ge j 11 with g | g
        · exact g
        · rw [List.getElem?_eq_none (by exact g)] at hv; cases hv
      rw [h j hj]
      have hc : ∀ j, j < 11 → twosC.toList[j]? = some (Value.string (twoS j)) := by
        intro j hj
        match j, hj with
        | 0, _ => rfl
        | 1, _ => rfl
        | 2, _ => rfl
        | 3, _ => rfl
        | 4, _ => rfl
        | 5, _ => rfl
        | 6, _ => rfl
        | 7, _ => rfl
        | 8, _ => rfl
        | 9, _ => rfl
        | 10, _ => rfl
      rw [hc j hj] at hv
      exact hv)
  have hagg : (isAgg 110).run Tryz.prog w = .ok true w := by
    unfold isAgg
    rw [Sem.run_bind, run_underlying Tryz.underlying110 w]
    rfl
  cases hq : Tryz.prog.info? 110 with
  | none =>
    have : (Tryz.prog.info? 110).map (·.size) = some 11 := by kernel_rfl
    rw [hq] at this; cases this
  | some i =>
    have hs : i.size = twosC.size := by
      have : (Tryz.prog.info? 110).map (·.size) = some 11 := by kernel_rfl
      rw [hq] at this; exact Option.some.inj this
    simp only [Array.length_toList, Array.toArray_toList] at hl
    simp [loadVar, Sem.run_bind, hagg, sizeOf, typeInfo, hq, hs, hl]
theorem wpList_load_it {P : Program} {ops : Array Oper} {rest : List Oper} {o : Oper} {a : Act} {w : World} {Q : Exit → Act → World → Prop} (hgd : o.guard = none) (ty : TypeId) (x : Operand) (ho : o.op = .load ty x)
    (p : Addr) (hx : a.eval x = .pointer (some p)) (v : Value) (hr : (loadVar ty p).run P w = .ok v w)
    (h : wpList P ops Q rest (a.put o.dst v) w) : wpList P ops Q (o :: rest) a w :=
  wpList_plain hgd fun _ hK => by
    unfold Oper.wp execOp
    simp only [ho, hx, Instr.loadAt, Instr.sureAddr, Sem.run_bind, Sem.run_pure, Result.andThen_ok, hr]
    exact hK _ _ h
theorem idx_two0 (W : World) : (Instr.index 110 (.agg twosC) (.int .i64 0)).run Tryz.prog W = .ok (.string (twoS 0)) W := by kernel_rfl
theorem idx_two1 (W : World) : (Instr.index 110 (.agg twosC) (.int .i64 1)).run Tryz.prog W = .ok (.string (twoS 1)) W := by kernel_rfl
theorem idx_two2 (W : World) : (Instr.index 110 (.agg twosC) (.int .i64 2)).run Tryz.prog W = .ok (.string (twoS 2)) W := by kernel_rfl
theorem idx_two3 (W : World) : (Instr.index 110 (.agg twosC) (.int .i64 3)).run Tryz.prog W = .ok (.string (twoS 3)) W := by kernel_rfl
theorem idx_two4 (W : World) : (Instr.index 110 (.agg twosC) (.int .i64 4)).run Tryz.prog W = .ok (.string (twoS 4)) W := by kernel_rfl
theorem idx_two5 (W : World) : (Instr.index 110 (.agg twosC) (.int .i64 5)).run Tryz.prog W = .ok (.string (twoS 5)) W := by kernel_rfl
theorem idx_two6 (W : World) : (Instr.index 110 (.agg twosC) (.int .i64 6)).run Tryz.prog W = .ok (.string (twoS 6)) W := by kernel_rfl
theorem idx_two7 (W : World) : (Instr.index 110 (.agg twosC) (.int .i64 7)).run Tryz.prog W = .ok (.string (twoS 7)) W := by kernel_rfl
theorem idx_two8 (W : World) : (Instr.index 110 (.agg twosC) (.int .i64 8)).run Tryz.prog W = .ok (.string (twoS 8)) W := by kernel_rfl
theorem idx_two9 (W : World) : (Instr.index 110 (.agg twosC) (.int .i64 9)).run Tryz.prog W = .ok (.string (twoS 9)) W := by kernel_rfl
theorem idx_two10 (W : World) : (Instr.index 110 (.agg twosC) (.int .i64 10)).run Tryz.prog W = .ok (.string (twoS 10)) W := by kernel_rfl
theorem idx_twos (k : Nat) (hk : k < 11) (W : World) : (Instr.index 110 (.agg twosC) (.int .i64 k)).run Tryz.prog W = .ok (.string (twoS k)) W := by
  rcases (by omega : k = 0 ∨ k = 1 ∨ k = 2 ∨ k = 3 ∨ k = 4 ∨ k = 5 ∨ k = 6 ∨ k = 7 ∨ k = 8 ∨ k = 9 ∨ k = 10) with rfl | rfl | rfl | rfl | rfl | rfl | rfl | rfl | rfl | rfl | rfl
  · exact idx_two0 W
  · exact idx_two1 W
  · exact idx_two2 W
  · exact idx_two3 W
  · exact idx_two4 W
  · exact idx_two5 W
  · exact idx_two6 W
  · exact idx_two7 W
  · exact idx_two8 W
  · exact idx_two9 W
  · exact idx_two10 W
def twoR (l : List UInt8) : Nat × Nat := if twosL.contains (l.take 2) then (8, 2) else (0, 0)
theorem two_pre (x l : List UInt8) (hx : x.length = 2) : x.isPrefixOf l = (l.take 2 == x) := by
  rw [Bool.eq_iff_iff, List.isPrefixOf_iff_prefix, beq_iff_eq, List.prefix_iff_eq_take, hx]
  exact ⟨fun h => h.symm, fun h => h.symm⟩
theorem two_getD (k : Nat) (h : k < 11) : (twosL.getD k []).length = 2 ∧ twosL.getD k [] ∈ twosL := by
  match k, h with
  | 0, _ => decide
  | 1, _ => decide
  | 2, _ => decide
  | 3, _ => decide
  | 4, _ => decide
  | 5, _ => decide
  | 6, _ => decide
  | 7, _ => decide
  | 8, _ => decide
  | 9, _ => decide
  | 10, _ => decide
theorem two_yes {l : List UInt8} {k : Nat} (hk : k < 11) (h : Lib.hasPrefix l (twosL.getD k []) = true) : twoR l = (8, 2) := by
  have h1 : (twosL.getD k []).isPrefixOf l = true := h
  rw [two_pre _ _ (two_getD k hk).1, beq_iff_eq] at h1
  unfold twoR
  rw [if_pos (List.contains_iff_mem.2 (by rw [h1]; exact (two_getD k hk).2))]
theorem two_no {l : List UInt8} (h : ∀ k, k < 11 → Lib.hasPrefix l (twosL.getD k []) = false) : twoR l = (0, 0) := by
  unfold twoR
  rw [if_neg]
  intro hc
  obtain ⟨k, hk, e⟩ := List.getElem_of_mem (List.contains_iff_mem.1 hc)
  have hk' : k < 11 := hk
  have h1 : (twosL.getD k []).isPrefixOf l = false := h k hk'
  rw [two_pre _ _ (two_getD k hk').1] at h1
  have e2 : twosL.getD k [] = l.take 2 := by rw [List.getD_eq_getElem?_getD, List.getElem?_eq_getElem hk]; exact e
  rw [e2, beq_self_eq_true] at h1; cases h1
set_option maxHeartbeats 4000000 in
theorem twoByteSign_any (s : ByteArray) (w : World) (hT : TwosAt w) : Calls Tryz.prog 59 #[.string s] w fun e w' => e = .returned (.tuple #[.int .u8 (twoR s.data.toList).1, .int .i64 (twoR s.data.toList).2]) ∧ w = w' := by
  have HR := Lib.hid (run_twos w hT)
  obtain ⟨T, hTT⟩ : ∃ T : Value, .agg twosC = T := ⟨_, rfl⟩
  have HX : Hid (∀ (k : Nat), k < 11 → ∀ W, (Instr.index 110 T (.int .i64 k)).run Tryz.prog W = .ok (.string (twoS k)) W) := Lib.hid (by rw [← hTT]; exact idx_twos)
  rw [hTT] at HR
  clear hTT hT
  go_enter Tryz.func59, Tryz.ntmps59
  go_wp2_with (refine wpList_load_it rfl 110 _ rfl ⟨0, 0, none⟩ rfl T HR.out ?_)
  go_loop [7] (fun i => ∃ k : Nat, i = .int .i64 k ∧ k ≤ 11 ∧ Hid (∀ j, j < k → Lib.hasPrefix s.data.toList (twosL.getD j []) = false)) (fun i => 11 - (intOf i).toNat)
  case atStart => exact ⟨0, rfl, by omega, Lib.hid (fun j hj => by omega)⟩
  case round =>
    obtain ⟨k, rfl, hk, HJ⟩ := hrel
    by_cases hlt : k < 11
    · have hlt' : (k : Int) < 11 := by omega
      have hx := HX.out k hlt
      have c1 := fun W => has_any s (twoS k) W
      have e1 : (twoS k).data.toList = twosL.getD k [] := rfl
      rw [e1] at c1
      have hz2 : (twoS k).size = 2 := (two_getD k hlt).1
      generalize twoS k = TS at *
      clear e1
      have w1 : IntKind.i64.wrap ((k : Int) + 1) = ((k + 1 : Nat) : Int) := by rw [IntWalk.i64_in _ (by omega)]; omega
      cases hb : Lib.hasPrefix s.data.toList (twosL.getD k []) with
      | true =>
        rw [hb] at c1
        have HN := Lib.hid (two_yes hlt hb)
        clear hb
        go_wp2_with (go_at_call 65; refine (c1 _).mono ?_; rintro e w' ⟨rfl, rfl⟩)
        go_ret2
        exact ⟨by rw [HN.out]; rfl, rfl⟩
      | false =>
        rw [hb] at c1
        have HN : Hid (∀ j, j < k + 1 → Lib.hasPrefix s.data.toList (twosL.getD j []) = false) := Lib.hid (fun j hj => by
          rcases Nat.lt_or_ge j k with g | g
          · exact HJ.out j g
          · obtain rfl : j = k := by omega
            exact hb)
        clear hb
        go_wp2_with (go_at_call 65; refine (c1 _).mono ?_; rintro e w' ⟨rfl, rfl⟩)
        go_round
        case rel => exact ⟨k + 1, rfl, by omega, HN⟩
        case measure => simp [intOf]; omega
    · obtain rfl : k = 11 := by omega
      have HN := Lib.hid (two_no HJ.out)
      have hlt' : ¬ (((11 : Nat) : Int) < 11) := by omega
      go_wp2_with fail
      go_ret2
      exact ⟨by rw [HN.out]; rfl, rfl⟩
end Go.Proofs.YtfedmhccbfhcbaaGreatDoor
