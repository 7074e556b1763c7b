/-
  The document's own answers for ropes: Ends, Most, Slice, Ahead, Line.
-/
import Derived.Test.YtbmcgmnmmnileaaAA
namespace Go.Proofs.Ytbmcgmnmmnileaa
open Go.RowKit Go.Shelf

theorem count_take_succ (s : ByteArray) (k : Nat) (h : k < s.size) : (s.data.toList.take (k + 1)).count 10 = (s.data.toList.take k).count 10 + if s[k]'h = 10 then 1 else 0 := by
  have e : s.data.toList[k]? = some (s[k]'h) := by
    rw [Array.getElem?_toList, Array.getElem?_eq_getElem (by exact h)]; rfl
  rw [List.take_add_one, e, List.count_append]
  by_cases g : s[k]'h = 10
  · simp [g]
  · simp [g]
theorem rends_any (s : ByteArray) (w : World) (hs : s.size ≤ 1000000) : Calls Try.prog 37 #[.string s] w fun e w' => e = .returned (.int .i64 (s.data.toList.count 10 : Nat)) ∧ w = w' := by
  have HS : Hid (s.data.toList.take s.size = s.data.toList) := Lib.hid (List.take_of_length_le (by rw [← Lib.size_eq]; exact Nat.le_refl _))
  have hz : ∀ k, (s.data.toList.take k).count 10 ≤ 1000000 := fun k => by
    have h1 := count_take_le s.data.toList k
    have h2 : s.data.toList.count 10 ≤ s.data.toList.length := List.count_le_length
    rw [← Lib.size_eq] at h2
    omega
  have HZ := Lib.hid hz
  clear hz
  go_enter Try.func37, Try.ntmps37
  go_wp2
  go_loop [3, 4] (fun c i => ∃ k : Nat, k ≤ s.size ∧ i = .int .i64 k ∧ c = .int .i64 ((s.data.toList.take k).count 10 : Nat)) (fun _ i => s.size - (intOf i).toNat)
  case atStart => exact ⟨0, Nat.zero_le _, rfl, rfl⟩
  case round =>
    obtain ⟨k, hk, rfl, rfl⟩ := hrel
    by_cases hlt : k < s.size
    · have hlt' : (k : Int) < (s.size : Int) := by omega
      have e := count_take_succ s k hlt
      have hb := HZ.out k
      by_cases g : s[k]'hlt = 10
      · have e10 : (((s[k]'hlt).toNat : Int) == 10) = true := by rw [g]; rfl
        rw [if_pos g] at e
        have HE := Lib.hid e
        generalize (s.data.toList.take k).count 10 = q at *
        clear e g
        go_wp2
        refine ⟨⟨k + 1, by omega, by simp, ?_⟩, by simp [intOf]; omega⟩
        rw [HE.out]; simp
      · have e10 : (((s[k]'hlt).toNat : Int) == 10) = false := by
          rw [beq_eq_false_iff_ne]; intro h; exact g (UInt8.toNat_inj.1 (by show (s[k]'hlt).toNat = 10; omega))
        rw [if_neg g, Nat.add_zero] at e
        have HE := Lib.hid e
        generalize (s.data.toList.take k).count 10 = q at *
        clear e g
        go_wp2
        refine ⟨⟨k + 1, by omega, by simp, ?_⟩, by simp [intOf]; omega⟩
        rw [HE.out, Nat.add_zero]
    · have hk2 : k = s.size := by omega
      have hlt' : ¬ (k : Int) < (s.size : Int) := by omega
      subst hk2
      rw [HS.out] at *
      go_wp2
      go_ret
      exact ⟨rfl, rfl⟩

def bits (n : Nat) : Nat := if h : 0 < n then bits (n / 2) + 1 else 0
termination_by n
decreasing_by omega
theorem bits_lt (n : Nat) : n < 2 ^ bits n := by
  induction n using Nat.strongRecOn with
  | _ n ih =>
    rw [bits]
    split
    · have := ih (n / 2) (by omega)
      rw [Nat.pow_succ]; omega
    · simp; omega
theorem bits_le (n : Nat) : bits n ≤ n := by
  induction n using Nat.strongRecOn with
  | _ n ih =>
    rw [bits]
    split
    · have := ih (n / 2) (by omega); omega
    · omega
theorem most_any (n : Nat) (w : World) (hn : n ≤ 1000000) : Calls Try.prog 38 #[.int .i64 n] w fun e w' => e = .returned (.int .i64 (2 + 2 * bits n : Nat)) ∧ w = w' := by
  have hb := bits_le n
  obtain ⟨R, hR⟩ : ∃ R, 2 + 2 * bits n = R := ⟨_, rfl⟩
  have HR := Lib.hid hR
  have hRz : R ≤ 3000000 := by omega
  rw [hR]
  clear hR hb
  go_enter Try.func38, Try.ntmps38
  go_wp2
  go_loop [0, 3] (fun i c => ∃ m t : Nat, m ≤ n ∧ i = .int .i64 m ∧ c = .int .i64 t ∧ t ≤ R ∧ Hid (t + 2 * bits m = R)) (fun i _ => (intOf i).toNat)
  case atStart => exact ⟨n, 2, Nat.le_refl _, rfl, rfl, by have := HR.out; omega, HR⟩
  case round =>
    obtain ⟨m, t, hm, rfl, rfl, ht, hr⟩ := hrel
    by_cases h0 : 0 < m
    · have h0' : (0 : Int) < (m : Int) := by omega
      have e := hr.out
      rw [bits, dif_pos h0] at e
      have HE : Hid (t + 2 + 2 * bits (m / 2) = R) := Lib.hid (by omega)
      have ht2 : t + 2 ≤ R := by omega
      obtain ⟨m2, hm2⟩ : ∃ m2, m / 2 = m2 := ⟨_, rfl⟩
      rw [hm2] at HE
      have hq : Int.tdiv (m : Int) 2 = (m2 : Int) := by rw [Int.tdiv_eq_ediv_of_nonneg (by omega)]; omega
      have hq2 : (m : Int) / 2 = (m2 : Int) := by omega
      have hm3 : m2 < m := by omega
      clear e hm2
      go_wp2
      refine ⟨⟨m2, t + 2, by omega, rfl, by simp, ht2, HE⟩, ?_⟩
      simp [intOf]; omega
    · have h0' : ¬ (0 : Int) < (m : Int) := by omega
      have hm0 : m = 0 := by omega
      subst hm0
      have e : t = R := by have e := hr.out; rw [bits] at e; simpa using e
      subst e
      go_wp2
      go_ret
      exact ⟨rfl, rfl⟩
theorem rslice_any (s : ByteArray) (a c : Int) (w : World) : Calls Try.prog 22 #[.agg #[.string s], .agg #[.int .i64 a, .int .i64 c]] w fun e w' => e = .returned (.tuple #[.string (sliceR s.data.toList a c).1, .int .i64 (sliceR s.data.toList a c).2]) ∧ Below w.heap.size w w' := by
  have hl : s.data.toList.length = s.size := (Lib.size_eq s).symm
  obtain ⟨W, hW⟩ : ∃ W, (w.alloc (.cells #[.string s] 42)).alloc (.cells #[.int .i64 a, .int .i64 c] 30) = W := ⟨_, rfl⟩
  have hB : Hid (Below w.heap.size w W) := Lib.hid (by rw [← hW]; exact ((Below.refl _ _).alloc (Nat.le_refl _) _).alloc (by simp) _)
  have x0 : W.cell? ⟨w.heap.size, 0, none⟩ = some (.string s) := by rw [← hW]; exact keepA _ (by simp)
  have y0 : W.cell? ⟨w.heap.size + 1, 0, none⟩ = some (.int .i64 a) := by rw [← hW]; simp
  have y1 : W.cell? ⟨w.heap.size + 1, 1, none⟩ = some (.int .i64 c) := by rw [← hW]; simp
  have hi := is_any W s a c
  unfold sliceR
  rw [hl]
  by_cases h : isSpan s.size a c = true
  · rw [if_pos h]
    rw [h] at hi
    have hsp : 0 ≤ a ∧ a ≤ c ∧ c ≤ s.size := by simpa [isSpan] using h
    obtain ⟨k, rfl⟩ := Int.eq_ofNat_of_zero_le hsp.1
    obtain ⟨d, rfl⟩ := Int.eq_ofNat_of_zero_le (show 0 ≤ c by omega)
    have e : (⟨(sub s.data.toList k d).toArray⟩ : ByteArray) = s.extract k d := by
      have e : (s.extract k d).data.toList = sub s.data.toList k d := by
        rw [ex_list]; unfold sub; simp only [Int.toNat_natCast]; rw [List.drop_take]
      rw [← e]
    rw [e]
    have g1 : (0 : Int) ≤ (k : Int) := by omega
    have g2 : (k : Int) ≤ (d : Int) := by omega
    have g3 : (d : Int) ≤ (s.size : Int) := by omega
    clear e h hsp hl
    go_enter Try.func22, Try.ntmps22
    go_wp2_with fail
    refine hi.mono ?_
    rintro e w1 ⟨rfl, hb⟩
    replace x0 := keepB hb x0
    replace y0 := keepB hb y0
    replace y1 := keepB hb y1
    have B1 := Lib.hid (hB.out.trans (hb.mono hB.out.size))
    clear hb hW
    go_wp2
    exact bodyPost_ret (v := .tuple #[.string (s.extract k d), .int .i64 0]) (by simp [results, Try.f22, go_sem]) rfl ⟨rfl, B1.out⟩
  · rw [if_neg h]
    rw [show isSpan s.size a c = false by simpa using h] at hi
    clear h hl
    go_enter Try.func22, Try.ntmps22
    go_wp2_with fail
    refine hi.mono ?_
    rintro e w1 ⟨rfl, hb⟩
    have B1 := Lib.hid (hB.out.trans (hb.mono hB.out.size))
    clear hb hW
    go_wp2
    exact bodyPost_ret (v := .tuple #[.string ⟨#[]⟩, .int .i64 1]) (by simp [results, Try.f22, go_sem]) rfl ⟨rfl, B1.out⟩

theorem rahead_any (s : ByteArray) (n : Int) (w : World) (hs : s.size ≤ 1000000) : Calls Try.prog 24 #[.agg #[.string s], .int .i64 n] w fun e w' => e = .returned (.tuple #[.int .i64 (aheadR s.data.toList n).1, .int .i64 (aheadR s.data.toList n).2]) ∧ Below w.heap.size w w' := by
  have hl : s.data.toList.length = s.size := (Lib.size_eq s).symm
  have hB : Below w.heap.size w (w.alloc (.cells #[.string s] 42)) := (Below.refl _ _).alloc (Nat.le_refl _) _
  by_cases h0 : n < 0
  · rw [aheadR_out _ _ (.inl h0)]
    clear hl
    go_enter Try.func24, Try.ntmps24
    go_wp2
    exact bodyPost_ret (v := .tuple #[.int .i64 0, .int .i64 1]) (by simp [results, Try.f24, go_sem]) rfl ⟨rfl, hB⟩
  · have hd : decide (n < 0) = false := decide_eq_false h0
    by_cases h1 : (s.size : Int) < n
    · rw [aheadR_out _ _ (.inr (by rw [hl]; exact h1))]
      clear hl
      go_enter Try.func24, Try.ntmps24
      go_wp2
      exact bodyPost_ret (v := .tuple #[.int .i64 0, .int .i64 1]) (by simp [results, Try.f24, go_sem]) rfl ⟨rfl, hB⟩
    · obtain ⟨k, rfl⟩ := Int.eq_ofNat_of_zero_le (show 0 ≤ n by omega)
      rw [aheadR_in _ _ (by rw [hl]; omega)]
      have hc := fun w => rends_any (s.extract 0 k) w (by rw [ex_size _ _ _ (by omega)]; omega)
      rw [ex_list, List.drop_zero, Nat.sub_zero] at hc
      have g1 : (0 : Int) ≤ (k : Int) := by omega
      have g2 : (k : Int) ≤ (s.size : Int) := by omega
      generalize (s.data.toList.take k).count 10 = q at *
      clear hl
      go_enter Try.func24, Try.ntmps24
      go_wp2_with fail
      refine (hc _).mono ?_
      rintro e w1 ⟨rfl, rfl⟩
      go_wp2
      exact bodyPost_ret (v := .tuple #[.int .i64 q, .int .i64 0]) (by simp [results, Try.f24, go_sem]) rfl ⟨rfl, hB⟩

theorem nth_at : ∀ (l : List UInt8) (i : Nat), l[i]? = some 10 → nth l ((l.take i).count 10 + 1) = i + 1
  | [], i, h => by simp at h
  | c :: l, 0, h => by
    have hc : c = 10 := by simpa using h
    subst hc
    rw [List.take_zero]
    show nth (10 :: l) (0 + 1) = 1
    rw [nth_hit, nth_zero]
  | c :: l, i + 1, h => by
    rw [List.getElem?_cons_succ] at h
    have e := nth_at l i h
    rw [List.take_succ_cons, List.count_cons]
    by_cases hc : c = 10
    · subst hc
      simp only [beq_self_eq_true, ite_true]
      rw [nth_hit, e]; omega
    · simp only [beq_iff_eq, hc, ite_false, Nat.add_zero]
      rw [nth_miss hc, e]; omega

set_option maxRecDepth 100000 in
set_option maxHeartbeats 1000000 in
theorem rline_any (s : ByteArray) (n : Int) (w : World) (hs : s.size ≤ 1000000) (hn : n ≤ 9223372036854775807) : Calls Try.prog 23 #[.agg #[.string s], .int .i64 n] w fun e w' => e = .returned (.tuple #[.int .i64 (lineR s.data.toList n).1, .int .i64 (lineR s.data.toList n).2]) ∧ Below w.heap.size w w' := by
  obtain ⟨W, hW⟩ : ∃ W, w.alloc (.cells #[.string s] 42) = W := ⟨_, rfl⟩
  have hB : Hid (Below w.heap.size w W) := Lib.hid (by rw [← hW]; exact (Below.refl _ _).alloc (Nat.le_refl _) _)
  have x0 : W.cell? ⟨w.heap.size, 0, none⟩ = some (.string s) := by rw [← hW]; simp
  by_cases h0 : n < 0
  · rw [show lineR s.data.toList n = (0, 1) by unfold lineR; rw [if_pos (.inl h0)]]
    have h0' : (n == 0) = false := by rw [beq_eq_false_iff_ne]; omega
    have h1' : ¬ 0 < n := by omega
    have h2' : decide (0 < n) = false := decide_eq_false h1'
    by_cases hz : 0 < s.size
    · have hz' : (0 : Int) < (s.size : Int) := by omega
      go_enter Try.func23, Try.ntmps23
      go_wp2
      clear hW
      go_loop [1, 6] (fun v i => v = .int .i64 n ∧ i = .int .i64 0) (fun _ _ => 0)
      case atStart => exact ⟨rfl, rfl⟩
      case round =>
        obtain ⟨rfl, rfl⟩ := hrel
        go_wp2
        exact bodyPost_ret (v := .tuple #[.int .i64 0, .int .i64 1]) (by simp [results, Try.f23, go_sem]) rfl ⟨rfl, hB.out⟩
    · have hz' : ¬ (0 : Int) < (s.size : Int) := by omega
      go_enter Try.func23, Try.ntmps23
      go_wp2
      clear hW
      go_loop [1, 6] (fun v i => v = .int .i64 n ∧ i = .int .i64 0) (fun _ _ => 0)
      case atStart => exact ⟨rfl, rfl⟩
      case round =>
        obtain ⟨rfl, rfl⟩ := hrel
        go_wp2
        exact bodyPost_ret (v := .tuple #[.int .i64 0, .int .i64 1]) (by simp [results, Try.f23, go_sem]) rfl ⟨rfl, hB.out⟩
  · obtain ⟨k, rfl⟩ := Int.eq_ofNat_of_zero_le (show 0 ≤ n by omega)
    by_cases hk : k = 0
    · subst hk
      rw [show lineR s.data.toList ((0 : Nat) : Int) = (0, 0) by rw [lineR_in _ _ (Nat.zero_le _), nth_zero]; rfl]
      go_enter Try.func23, Try.ntmps23
      go_wp2
      exact bodyPost_ret (v := .tuple #[.int .i64 0, .int .i64 0]) (by simp [results, Try.f23, go_sem]) rfl ⟨rfl, hB.out⟩
    · have hk' : ((k : Int) == 0) = false := by rw [beq_eq_false_iff_ne]; omega
      have HR : Hid (∀ i, i < s.size → s.data.toList[i]? = some 10 → (s.data.toList.take i).count 10 + 1 = k → lineR s.data.toList k = (((i + 1 : Nat) : Int), 0)) := Lib.hid fun i hi h e => by
        have h1 := nth_at _ _ h
        rw [e] at h1
        have h2 : k ≤ s.data.toList.count 10 := by
          have h3 := count_take_le s.data.toList (i + 1)
          have h4 := count_take_succ s i hi
          rw [if_pos (by
            have h5 : s.data.toList[i]? = some (s[i]'hi) := by
              rw [Array.getElem?_toList, Array.getElem?_eq_getElem (by exact hi)]; rfl
            rw [h5] at h; injection h)] at h4
          omega
        rw [lineR_in _ _ h2, h1]
      have HE : Hid (s.data.toList.count 10 < k → lineR s.data.toList k = (0, 1)) := Lib.hid fun h => by
        unfold lineR; rw [if_pos (.inr (by omega))]
      have HS : Hid (s.data.toList.take s.size = s.data.toList) := Lib.hid (List.take_of_length_le (by rw [← Lib.size_eq]; exact Nat.le_refl _))
      have HZ : Hid (k ≤ k) := Lib.hid (Nat.le_refl _)
      obtain ⟨p, q, hpq⟩ : ∃ p q, lineR s.data.toList k = (p, q) := ⟨_, _, rfl⟩
      rw [hpq] at HR HE ⊢
      clear hpq h0
      go_enter Try.func23, Try.ntmps23
      go_wp2
      clear hW
      go_loop [1, 6] (fun v i => ∃ m j : Nat, 0 < m ∧ v = .int .i64 m ∧ i = .int .i64 j ∧ j ≤ s.size ∧ Hid ((s.data.toList.take j).count 10 + m = k)) (fun _ i => s.size - (intOf i).toNat)
      case atStart => exact ⟨k, 0, by omega, rfl, rfl, Nat.zero_le _, Lib.hid (by rw [List.take_zero]; exact Nat.zero_add _)⟩
      case round =>
        obtain ⟨m, j, hm, rfl, rfl, hj, hr⟩ := hrel
        have hm' : (0 : Int) < (m : Int) := by omega
        by_cases hlt : j < s.size
        · have hlt' : (j : Int) < (s.size : Int) := by omega
          have e := count_take_succ s j hlt
          by_cases g : s[j]'hlt = 10
          · have e10 : (((s[j]'hlt).toNat : Int) == 10) = true := by rw [g]; rfl
            rw [if_pos g] at e
            by_cases hm1 : m = 1
            · subst hm1
              have h5 : s.data.toList[j]? = some 10 := by
                rw [Array.getElem?_toList, Array.getElem?_eq_getElem (by exact hlt)]; exact congrArg some g
              have hp := HR.out j hlt h5 hr.out
              injection hp with hp1 hp2
              subst hp1 hp2
              clear e g h5
              go_wp2
              exact bodyPost_ret (v := .tuple #[.int .i64 ((j + 1 : Nat) : Int), .int .i64 0]) (by simp [results, Try.f23, go_sem]) rfl ⟨rfl, hB.out⟩
            · obtain ⟨m2, rfl⟩ : ∃ m2, m = m2 + 1 := ⟨m - 1, by omega⟩
              have hm2 : ((m2 : Int) == 0) = false := by rw [beq_eq_false_iff_ne]; omega
              have hmz : IntKind.i64.wrap (m2 : Int) = (m2 : Int) := IntWalk.i64_in _ (by have := hr.out; omega)
              have hmy : wrap64 (m2 : Int) = (m2 : Int) := by have := hr.out; unfold wrap64; omega
              have hmu : (m2 : Int) ≤ 9223372036854775807 := by have := hr.out; omega
              have HN : Hid ((s.data.toList.take (j + 1)).count 10 + m2 = k) := Lib.hid (by rw [e]; have := hr.out; omega)
              clear e g
              go_wp2
              exact ⟨⟨m2, j + 1, by omega, rfl, by simp, by omega, HN⟩, by simp [intOf]; omega⟩
          · have e10 : (((s[j]'hlt).toNat : Int) == 10) = false := by
              rw [beq_eq_false_iff_ne]; intro h; exact g (UInt8.toNat_inj.1 (by show (s[j]'hlt).toNat = 10; omega))
            rw [if_neg g, Nat.add_zero] at e
            have HN : Hid ((s.data.toList.take (j + 1)).count 10 + m = k) := Lib.hid (by rw [e]; exact hr.out)
            clear e g
            go_wp2
            exact ⟨⟨m, j + 1, hm, rfl, by simp, by omega, HN⟩, by simp [intOf]; omega⟩
        · have hj2 : j = s.size := by omega
          have hlt' : ¬ (j : Int) < (s.size : Int) := by omega
          have hp := HE.out (by have := hr.out; rw [hj2, HS.out] at this; omega)
          injection hp with hp1 hp2
          subst hp1 hp2
          go_wp2
          exact bodyPost_ret (v := .tuple #[.int .i64 0, .int .i64 1]) (by simp [results, Try.f23, go_sem]) rfl ⟨rfl, hB.out⟩
end Go.Proofs.Ytbmcgmnmmnileaa
