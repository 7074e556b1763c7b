/-
  The reference: Int.
-/
import Derived.Test.YtgcpgieojckheaaGreatDoorAA
namespace Go.Proofs.YtgcpgieojckheaaGreatDoor
open Go.RowKit Go.Shelf

theorem num_take_lt (l : List UInt8) (h : ∀ c ∈ l, isDig c = true) : ∀ k, k ≤ l.length → num (l.take k) < 10 ^ k
  | 0, _ => by simp [num]
  | k + 1, hk => by
    have ih := num_take_lt l h k (by omega)
    have hd := isDig_iff.1 (h _ (List.getElem_mem (show k < l.length by omega)))
    rw [num_take l k (by omega), Nat.pow_succ]; omega
theorem num_take_ge (l : List UInt8) (h : ∀ c ∈ l, isDig c = true) (hf : l.head? ≠ some 48) : ∀ k, k < l.length → 10 ^ k ≤ num (l.take (k + 1))
  | 0, hk => by
    have hd := isDig_iff.1 (h _ (List.getElem_mem hk))
    rw [num_take l 0 hk]
    have : l[0].toNat ≠ 48 := fun e => hf (by
      rw [List.head?_eq_getElem?, List.getElem?_eq_getElem hk]
      exact congrArg some (UInt8.toNat_inj.1 e))
    simp [num]; omega
  | k + 1, hk => by
    have ih := num_take_ge l h hf k (by omega)
    rw [num_take l (k + 1) hk, Nat.pow_succ]; omega
theorem worth_big {n : Num} (hc : Canon n) (h0 : 0 ≤ n.exp) (h : (19 : Int) < n.digits.length + n.exp) (hn : n.digits ≠ []) : fits64 (worth n) = false := by
  obtain ⟨c, hcx⟩ : ∃ c : Nat, n.exp = (c : Int) := ⟨n.exp.toNat, by omega⟩
  have hl : 0 < n.digits.length := List.length_pos_iff.2 hn
  have g := num_take_ge n.digits hc.dig hc.first (n.digits.length - 1) (by omega)
  rw [show n.digits.length - 1 + 1 = n.digits.length by omega, List.take_length] at g
  have g2 : 10 ^ 19 ≤ num n.digits * 10 ^ c := by
    calc 10 ^ 19 ≤ 10 ^ (n.digits.length - 1 + c) := Nat.pow_le_pow_right (by omega) (by omega)
      _ = 10 ^ (n.digits.length - 1) * 10 ^ c := Nat.pow_add _ _ _
      _ ≤ num n.digits * 10 ^ c := Nat.mul_le_mul_right _ g
  have e2 : worth n = if n.neg then -((num n.digits * 10 ^ n.exp.toNat : Nat) : Int) else ((num n.digits * 10 ^ n.exp.toNat : Nat) : Int) := rfl
  rw [e2, hcx, show ((c : Nat) : Int).toNat = c from rfl]
  generalize num n.digits * 10 ^ c = V at *
  unfold fits64
  cases n.neg <;> simp <;> omega
theorem worth_full {n : Num} {c : Nat} (hcx : n.exp = (c : Int)) : worth n = if n.neg then -(num (n.digits ++ List.replicate c 48) : Int) else (num (n.digits ++ List.replicate c 48) : Int) := by
  have e2 : worth n = if n.neg then -((num n.digits * 10 ^ n.exp.toNat : Nat) : Int) else ((num n.digits * 10 ^ n.exp.toNat : Nat) : Int) := rfl
  rw [e2, hcx, num_zeros]; rfl
set_option maxHeartbeats 4000000 in
theorem rint_any (s : ByteArray) (w : World) (hs : s.size ≤ 30000) : Calls Tryz.prog 19 #[.string s] w (IntEnd s.data.toList w) := by
  have hr := rget_any s w hs
  generalize s.data.toList = l at *
  unfold GetEnd at hr
  obtain ⟨T, eT, hV⟩ := refV_eq (readR l).1
  rw [hV] at hr
  by_cases h0 : (readR l).2 = 0
  · obtain ⟨hc, hl⟩ := canon_read l
    have ho : intR l = if (readR l).1.exp < 0 then (0, 1) else if fits64 (worth (readR l).1) then (worth (readR l).1, 0) else (0, 64) := by unfold intR; rw [if_neg (by simpa using h0)]
    rw [h0] at hr
    generalize (readR l).1 = n at *
    by_cases hx : n.exp < 0
    · rw [if_pos hx] at ho
      have HO := Lib.hid ho
      generalize n.exp = x at *
      generalize n.neg = ng at *
      clear hc hl ho h0 eT hV
      go_enter Tryz.func19, Tryz.ntmps19
      go_wp2_with fail
      refine hr.mono ?_
      rintro e w1 ⟨rfl, hb⟩
      have HB := Lib.hid hb
      clear hb hr
      go_wp2
      go_ret2
      exact ⟨by rw [HO.out]; rfl, galloc HB.out _⟩
    · rw [if_neg hx] at ho
      have hxl := digits_len hl
      obtain ⟨c, hcx⟩ : ∃ c : Nat, n.exp = (c : Int) := ⟨n.exp.toNat, by omega⟩
      have hcn : ¬ ((c : Int) < 0) := by omega
      have hcd : decide ((c : Int) < 0) = false := decide_eq_false hcn
      have zT : T.size = n.digits.length := by rw [Lib.size_eq, eT]
      have hzT : T.size ≤ 200 := by omega
      have hcc : c ≤ 9999 := by omega
      have hwL : IntKind.i64.wrap ((T.size : Int) + c) = ((T.size + c : Nat) : Int) := by rw [IntWalk.i64_in _ (by omega)]; omega
      obtain ⟨L, hL⟩ : ∃ L, T.size + c = L := ⟨_, rfl⟩
      rw [hL] at hwL
      rw [hcx] at hr
      by_cases hbig : 19 < L
      · have hbig' : (19 : Int) < (L : Int) := by omega
        have hF : fits64 (worth n) = false := worth_big hc (by omega) (by omega) (fun h => by
          have h2 := (hc.zero h).2
          have z0 : T.size = 0 := by rw [zT, h]; rfl
          omega)
        rw [hF] at ho
        have HO := Lib.hid ho
        generalize n.neg = ng at *
        clear hc hl ho h0 eT hV hF hxl hx hcx zT
        go_enter Tryz.func19, Tryz.ntmps19
        go_wp2_with fail
        refine hr.mono ?_
        rintro e w1 ⟨rfl, hb⟩
        have HB := Lib.hid (galloc hb (.cells #[.bool ng, .string T, .int .i64 c] 73))
        have k := World.alloc_heap_new w1 (.cells #[.bool ng, .string T, .int .i64 c] 73)
        clear hb hr
        go_wp2_with fail
        generalize w1.alloc (.cells #[.bool ng, .string T, .int .i64 c] 73) = W0 at *
        obtain ⟨k0, k1, k2, _⟩ := cells3 k
        go_wp2
        go_ret2
        exact ⟨by rw [HO.out]; rfl, HB.out⟩
      · have hbig' : ¬ (19 : Int) < (L : Int) := by omega
        have hF : ∀ c' ∈ n.digits ++ List.replicate c 48, isDig c' = true := fun c' h => by
          rcases List.mem_append.1 h with h | h
          · exact hc.dig _ h
          · rw [List.eq_of_mem_replicate h]; rfl
        have hFL : (n.digits ++ List.replicate c 48).length = L := by rw [List.length_append, List.length_replicate]; omega
        have HW : Hid (worth n = if n.neg then -(num (n.digits ++ List.replicate c 48) : Int) else (num (n.digits ++ List.replicate c 48) : Int)) := Lib.hid (worth_full hcx)
        have HB1 : Hid (∀ k, k < L → num ((n.digits ++ List.replicate c 48).take k) < 1000000000000000000) := Lib.hid fun k hk => by
          have := num_take_lt _ hF k (by omega)
          exact Nat.lt_of_lt_of_le this (Nat.le_trans (Nat.pow_le_pow_right (by omega) (show k ≤ 18 by omega)) (by decide))
        have HB2 : Hid (num (n.digits ++ List.replicate c 48) < 10000000000000000000) := Lib.hid (by
          have := num_take_lt _ hF L (by omega)
          rw [← hFL, List.take_length] at this
          exact Nat.lt_of_lt_of_le this (Nat.le_trans (Nat.pow_le_pow_right (by omega) (show _ ≤ 19 by omega)) (by decide)))
        have HS1 : Hid (∀ k (h : k < T.size), num ((n.digits ++ List.replicate c 48).take (k + 1)) = num ((n.digits ++ List.replicate c 48).take k) * 10 + ((T[k]'h).toNat - 48) ∧ 48 ≤ (T[k]'h).toNat ∧ (T[k]'h).toNat ≤ 57) := Lib.hid fun k h => by
          have hk : k < (n.digits ++ List.replicate c 48).length := by omega
          have e : (n.digits ++ List.replicate c 48)[k] = T[k]'h := by
            rw [List.getElem_append_left (by omega)]
            simp only [← eT]; rfl
          have hd := isDig_iff.1 (hF _ (List.getElem_mem hk))
          rw [e] at hd
          rw [num_take _ k hk, e]
          exact ⟨rfl, hd.1, hd.2⟩
        have HS2 : Hid (∀ k, ¬ k < T.size → k < L → num ((n.digits ++ List.replicate c 48).take (k + 1)) = num ((n.digits ++ List.replicate c 48).take k) * 10) := Lib.hid fun k h h2 => by
          have hk : k < (n.digits ++ List.replicate c 48).length := by omega
          have e : (n.digits ++ List.replicate c 48)[k] = 48 := by
            rw [List.getElem_append_right (by omega)]; simp
          rw [num_take _ k hk, e]; rfl
        have HZ : Hid (n.digits = [] → T.toList.isEmpty = true ∧ worth n = 0) := Lib.hid fun h => ⟨empty_yes eT h, by rw [Num.canon_zero hc h]; rfl⟩
        have HN : Hid (n.digits ≠ [] → T.toList.isEmpty = false) := Lib.hid fun h => empty_no eT h
        have HTL : Hid (num ((n.digits ++ List.replicate c 48).take L) = num (n.digits ++ List.replicate c 48)) := Lib.hid (by rw [← hFL, List.take_length])
        have HO := Lib.hid ho
        generalize worth n = V at *
        generalize n.digits ++ List.replicate c 48 = F at *
        generalize n.digits = ds at *
        generalize n.neg = ng at *
        generalize n.exp = x at *
        clear hc hl ho h0 eT hV hxl hx hcx zT hF hFL
        go_enter Tryz.func19, Tryz.ntmps19
        go_wp2_with fail
        refine hr.mono ?_
        rintro e w1 ⟨rfl, hb⟩
        have HB := Lib.hid (galloc hb (.cells #[.bool ng, .string T, .int .i64 c] 73))
        have k := World.alloc_heap_new w1 (.cells #[.bool ng, .string T, .int .i64 c] 73)
        clear hb hr
        go_wp2_with fail
        generalize w1.alloc (.cells #[.bool ng, .string T, .int .i64 c] 73) = W0 at *
        obtain ⟨k0, k1, k2, _⟩ := cells3 k
        clear k
        go_wp2_with fail
        go_loop [6, 7] (fun u i => ∃ k : Nat, i = .int .i64 k ∧ k ≤ L ∧ u = .int .u64 (num (F.take k) : Nat)) (fun _ i => L - (intOf i).toNat)
        case atStart => exact ⟨0, rfl, by omega, by simp [num]⟩
        case round =>
          obtain ⟨k, rfl, hk, rfl⟩ := hrel
          by_cases hlt : k < L
          · have hlt' : (k : Int) < (L : Int) := by omega
            have hm := HB1.out k hlt
            by_cases ht : k < T.size
            · have ht' : (k : Int) < (T.size : Int) := by omega
              obtain ⟨hs1, hd1, hd2⟩ := HS1.out k ht
              have HS := Lib.hid hs1
              clear hs1
              generalize num (F.take k) = m at *
              have hw1 : IntKind.u64.wrap ((m : Int) * 10) = (m : Int) * 10 := by rw [IntKind.wrap_u64]; omega
              have hw2 : IntKind.u64.wrap (((T[k]'ht).toNat : Int)) = ((T[k]'ht).toNat : Int) := by rw [IntKind.wrap_u64]; omega
              have hw3 : IntKind.u64.wrap ((m : Int) * 10 + ((T[k]'ht).toNat : Int)) = (m : Int) * 10 + ((T[k]'ht).toNat : Int) := by rw [IntKind.wrap_u64]; omega
              have hw4 : IntKind.u64.wrap ((m : Int) * 10 + ((T[k]'ht).toNat : Int) - 48) = ((m * 10 + ((T[k]'ht).toNat - 48) : Nat) : Int) := by rw [IntKind.wrap_u64]; omega
              go_wp2
              go_round
              case rel => exact ⟨k + 1, by go_num, by omega, by rw [HS.out, Int.natCast_add, Int.natCast_mul]; rfl⟩
              case measure => simp [intOf]; omega
            · have ht' : ¬ (k : Int) < (T.size : Int) := by omega
              have HS := Lib.hid (HS2.out k ht hlt)
              generalize num (F.take k) = m at *
              have hw1 : IntKind.u64.wrap ((m : Int) * 10) = ((m * 10 : Nat) : Int) := by rw [IntKind.wrap_u64]; omega
              go_wp2
              go_round
              case rel => exact ⟨k + 1, by go_num, by omega, by rw [HS.out, Int.natCast_mul]; rfl⟩
              case measure => simp [intOf]; omega
          · have hlt' : ¬ (k : Int) < (L : Int) := by omega
            have ek : k = L := by omega
            subst ek
            rw [HTL.out]
            have hb2 := HB2.out
            generalize num F = m at *
            by_cases hds : ds = []
            · obtain ⟨he, hV0⟩ := HZ.out hds
              have HF : Hid (intR l = (0, 0)) := Lib.hid (by rw [HO.out, hV0]; rfl)
              clear hds hV0
              go_wp2
              go_ret2
              exact ⟨by rw [HF.out]; rfl, HB.out⟩
            · have he := HN.out hds
              clear hds
              cases ng with
              | true =>
                by_cases hle : m ≤ 9223372036854775808
                · have hle' : (m : Int) ≤ 9223372036854775808 := by omega
                  have HF : Hid (intR l = (-(m : Int), 0)) := Lib.hid (by
                    have hv : V = -(m : Int) := HW.out
                    rw [HO.out, hv, if_pos (by unfold fits64; simp; omega)])
                  obtain ⟨U, hU, hU2⟩ : ∃ U, IntKind.u64.wrap (-(m : Int)) = U ∧ IntKind.i64.wrap U = -(m : Int) := ⟨_, rfl, by rw [IntKind.wrap_u64, IntKind.wrap_i64]; omega⟩
                  go_wp2
                  go_ret2
                  exact ⟨by rw [HF.out]; rfl, HB.out⟩
                · have hle' : ¬ (m : Int) ≤ 9223372036854775808 := by omega
                  have HF : Hid (intR l = (0, 64)) := Lib.hid (by
                    have hv : V = -(m : Int) := HW.out
                    rw [HO.out, hv, if_neg (by unfold fits64; simp; omega)])
                  go_wp2
                  go_ret2
                  exact ⟨by rw [HF.out]; rfl, HB.out⟩
              | false =>
                by_cases hle : m < 9223372036854775808
                · have hle' : (m : Int) < 9223372036854775808 := by omega
                  have HF : Hid (intR l = ((m : Int), 0)) := Lib.hid (by
                    have hv : V = (m : Int) := HW.out
                    rw [HO.out, hv, if_pos (by unfold fits64; simp; omega)])
                  have hU : IntKind.i64.wrap (m : Int) = m := IntWalk.i64_in _ (by omega)
                  go_wp2
                  go_ret2
                  exact ⟨by rw [HF.out]; rfl, HB.out⟩
                · have hle' : ¬ (m : Int) < 9223372036854775808 := by omega
                  have HF : Hid (intR l = (0, 64)) := Lib.hid (by
                    have hv : V = (m : Int) := HW.out
                    rw [HO.out, hv, if_neg (by unfold fits64; simp; omega)])
                  go_wp2
                  go_ret2
                  exact ⟨by rw [HF.out]; rfl, HB.out⟩
  · have ho : intR l = (0, (readR l).2) := by unfold intR; rw [if_pos h0]
    have HO := Lib.hid ho
    generalize (readR l).2 = E at *
    have e1 : (E == 0) = false := by simpa using h0
    have e2 : (E != 0) = true := by simpa using h0
    generalize (readR l).1 = a at *
    clear hV eT ho h0
    go_enter Tryz.func19, Tryz.ntmps19
    go_wp2_with fail
    refine hr.mono ?_
    rintro e w1 ⟨rfl, hb1⟩
    have HB1 := Lib.hid hb1
    clear hb1 hr
    go_wp2
    go_ret2
    exact ⟨by rw [HO.out]; rfl, galloc HB1.out _⟩
end Go.Proofs.YtgcpgieojckheaaGreatDoor
