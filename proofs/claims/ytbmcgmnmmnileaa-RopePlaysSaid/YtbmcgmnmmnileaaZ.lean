/-
  RopeKept: the law's walk.
-/
import Derived.Test.YtbmcgmnmmnileaaY
namespace Go.Proofs.Ytbmcgmnmmnileaa
open Go.RowKit Go.Shelf

theorem str_self (s : ByteArray) : (⟨s.data.toList.toArray⟩ : ByteArray) = s := rfl
theorem rp_replace_bad (w : World) (b : Nat) (l : List UInt8) (a c : Int) (s : ByteArray) (h : Rp w b l) (hs : isSpan l.length a c = false) :
    Calls Try.prog 10 #[.pointer (some ⟨b, 0, none⟩), .agg #[.int .i64 a, .int .i64 c], .string s] w fun e w' => e = .returned (.tuple #[.pointer none, .int .i64 1]) ∧ Below w.heap.size w w' := by
  obtain ⟨o, h1, rfl⟩ := h; exact replace_bad w b o a c s h1 hs
theorem isSpan_yes {n a c : Nat} (h1 : a ≤ c) (h2 : c ≤ n) : isSpan n a c = true := by simp [isSpan]; omega
set_option maxRecDepth 100000 in
theorem kept_long1 (s a b : ByteArray) (a0 c0 a1 c1 : Int) (w : World) (h : 5000 < s.size) : Calls Try.prog 5 #[.string s, .agg #[.int .i64 a0, .int .i64 c0], .agg #[.int .i64 a1, .int .i64 c1], .string a, .string b] w fun e w' => e = .returned (.bool true) ∧ Below w.heap.size w w' := by
  have h1 : (5000 : Int) < (s.size : Int) := by omega
  have hB : Below w.heap.size w ((w.alloc (.cells #[.int .i64 a0, .int .i64 c0] 30)).alloc (.cells #[.int .i64 a1, .int .i64 c1] 30)) := ((Below.refl _ _).alloc (Nat.le_refl _) _).alloc (by simp) _
  go_enter Try.func5, Try.ntmps5
  go_wp2_with fail
  refine (works_true _).mono ?_
  rintro e w1 ⟨rfl, hb⟩
  have B1 := Lib.hid (hB.trans (hb.mono hB.size))
  clear hb
  go_wp2_with fail
  refine (works_true _).mono ?_
  rintro e w2 ⟨rfl, hb⟩
  have B2 := Lib.hid (B1.out.trans (hb.mono B1.out.size))
  clear hb
  go_wp2
  go_ret
  exact ⟨rfl, B2.out⟩
set_option maxRecDepth 100000 in
theorem kept_long2 (s a b : ByteArray) (a0 c0 a1 c1 : Int) (w : World) (h0 : s.size ≤ 5000) (h : 3000 < a.size) : Calls Try.prog 5 #[.string s, .agg #[.int .i64 a0, .int .i64 c0], .agg #[.int .i64 a1, .int .i64 c1], .string a, .string b] w fun e w' => e = .returned (.bool true) ∧ Below w.heap.size w w' := by
  have h0' : ¬ (5000 : Int) < (s.size : Int) := by omega
  have hd : decide ((5000 : Int) < (s.size : Int)) = false := decide_eq_false h0'
  have h1 : (3000 : Int) < (a.size : Int) := by omega
  have hB : Below w.heap.size w ((w.alloc (.cells #[.int .i64 a0, .int .i64 c0] 30)).alloc (.cells #[.int .i64 a1, .int .i64 c1] 30)) := ((Below.refl _ _).alloc (Nat.le_refl _) _).alloc (by simp) _
  go_enter Try.func5, Try.ntmps5
  go_wp2_with fail
  refine (works_true _).mono ?_
  rintro e w1 ⟨rfl, hb⟩
  have B1 := Lib.hid (hB.trans (hb.mono hB.size))
  clear hb
  go_wp2_with fail
  refine (works_true _).mono ?_
  rintro e w2 ⟨rfl, hb⟩
  have B2 := Lib.hid (B1.out.trans (hb.mono B1.out.size))
  clear hb
  go_wp2
  go_ret
  exact ⟨rfl, B2.out⟩
set_option maxRecDepth 100000 in
theorem kept_long3 (s a b : ByteArray) (a0 c0 a1 c1 : Int) (w : World) (h0 : s.size ≤ 5000) (h2 : a.size ≤ 3000) (h : 3000 < b.size) : Calls Try.prog 5 #[.string s, .agg #[.int .i64 a0, .int .i64 c0], .agg #[.int .i64 a1, .int .i64 c1], .string a, .string b] w fun e w' => e = .returned (.bool true) ∧ Below w.heap.size w w' := by
  have h0' : ¬ (5000 : Int) < (s.size : Int) := by omega
  have hd : decide ((5000 : Int) < (s.size : Int)) = false := decide_eq_false h0'
  have h2' : ¬ (3000 : Int) < (a.size : Int) := by omega
  have hd2 : decide ((3000 : Int) < (a.size : Int)) = false := decide_eq_false h2'
  have h1 : (3000 : Int) < (b.size : Int) := by omega
  have hB : Below w.heap.size w ((w.alloc (.cells #[.int .i64 a0, .int .i64 c0] 30)).alloc (.cells #[.int .i64 a1, .int .i64 c1] 30)) := ((Below.refl _ _).alloc (Nat.le_refl _) _).alloc (by simp) _
  go_enter Try.func5, Try.ntmps5
  go_wp2_with fail
  refine (works_true _).mono ?_
  rintro e w1 ⟨rfl, hb⟩
  have B1 := Lib.hid (hB.trans (hb.mono hB.size))
  clear hb
  go_wp2_with fail
  refine (works_true _).mono ?_
  rintro e w2 ⟨rfl, hb⟩
  have B2 := Lib.hid (B1.out.trans (hb.mono B1.out.size))
  clear hb
  go_wp2
  go_ret
  exact ⟨rfl, B2.out⟩
set_option maxRecDepth 100000 in
set_option maxHeartbeats 1000000 in
theorem kept_bad (s a b : ByteArray) (a0 c0 a1 c1 : Int) (w : World) (hs : s.size ≤ 5000) (ha : a.size ≤ 3000) (hb0 : b.size ≤ 3000) (h : isSpan s.size a0 c0 = false) : Calls Try.prog 5 #[.string s, .agg #[.int .i64 a0, .int .i64 c0], .agg #[.int .i64 a1, .int .i64 c1], .string a, .string b] w fun e w' => e = .returned (.bool true) ∧ Below w.heap.size w w' := by
  have d1 : ¬ (5000 : Int) < (s.size : Int) := by omega
  have d2 : ¬ (3000 : Int) < (a.size : Int) := by omega
  have d3 : ¬ (3000 : Int) < (b.size : Int) := by omega
  have HS : Hid (s.data.toList.length = s.size) := Lib.hid (Lib.size_eq s).symm
  have HA : Hid (a.data.toList.length = a.size) := Lib.hid (Lib.size_eq a).symm
  obtain ⟨W0, hW0⟩ : ∃ W, (w.alloc (.cells #[.int .i64 a0, .int .i64 c0] 30)).alloc (.cells #[.int .i64 a1, .int .i64 c1] 30) = W := ⟨_, rfl⟩
  have B0 : Hid (Below w.heap.size w W0) := Lib.hid (by rw [← hW0]; exact ((Below.refl _ _).alloc (Nat.le_refl _) _).alloc (by simp) _)
  have x0 : W0.cell? ⟨w.heap.size, 0, none⟩ = some (.int .i64 a0) := by rw [← hW0]; exact keepA _ (by simp)
  have x1 : W0.cell? ⟨w.heap.size, 1, none⟩ = some (.int .i64 c0) := by rw [← hW0]; exact keepA _ (by simp)
  have y0 : W0.cell? ⟨w.heap.size + 1, 0, none⟩ = some (.int .i64 a1) := by rw [← hW0]; simp
  have y1 : W0.cell? ⟨w.heap.size + 1, 1, none⟩ = some (.int .i64 c1) := by rw [← hW0]; simp
  go_enter Try.func5, Try.ntmps5
  go_wp2_with fail
  refine (works_true _).mono ?_
  rintro e w1 ⟨rfl, hb⟩
  clear hW0
  replace x0 := keepB hb x0
  replace x1 := keepB hb x1
  replace y0 := keepB hb y0
  replace y1 := keepB hb y1
  have B1 := Lib.hid (B0.out.trans (hb.mono B0.out.size))
  clear hb
  go_wp2_with fail
  refine (rp_of s _ (by omega)).mono ?_
  rintro e w2 ⟨br, rfl, kr, hb⟩
  have R := Lib.hid kr
  clear kr
  replace x0 := keepB hb x0
  replace x1 := keepB hb x1
  replace y0 := keepB hb y0
  replace y1 := keepB hb y1
  have B2 := Lib.hid (B1.out.trans (hb.mono B1.out.size))
  clear hb
  have cr := fun w' (h' : Rp w' br s.data.toList) => rp_replace_bad w' br _ a0 c0 a h' (by rw [HS.out]; exact h)
  have ci := fun w' => is_any w' s a0 c0
  rw [h] at ci
  have ct := fun w' (h' : Rp w' br s.data.toList) => rp_string w' br _ h' (by rw [HS.out]; omega)
  rw [str_self] at ct
  clear h
  go_wp2_with fail
  refine (cr _ R.out).mono ?_
  rintro e w3 ⟨rfl, hb⟩
  replace x0 := keepB hb x0
  replace x1 := keepB hb x1
  replace y0 := keepB hb y0
  replace y1 := keepB hb y1
  have B3 := Lib.hid (B2.out.trans (hb.mono B2.out.size))
  replace R := Lib.hid (R.out.below (Nat.le_refl _) hb)
  clear hb
  go_wp2_with fail
  refine (ci _).mono ?_
  rintro e w4 ⟨rfl, hb⟩
  replace x0 := keepB hb x0
  replace x1 := keepB hb x1
  replace y0 := keepB hb y0
  replace y1 := keepB hb y1
  have B4 := Lib.hid (B3.out.trans (hb.mono B3.out.size))
  replace R := Lib.hid (R.out.below (Nat.le_refl _) hb)
  clear hb
  go_wp2_with fail
  refine (ct _ R.out).mono ?_
  rintro e w5 ⟨rfl, hb⟩
  replace x0 := keepB hb x0
  replace x1 := keepB hb x1
  replace y0 := keepB hb y0
  replace y1 := keepB hb y1
  have B5 := Lib.hid (B4.out.trans (hb.mono B4.out.size))
  replace R := Lib.hid (R.out.below (Nat.le_refl _) hb)
  clear hb
  go_wp2
  go_ret
  exact ⟨rfl, B5.out⟩
set_option maxRecDepth 100000 in
set_option maxHeartbeats 4000000 in
theorem kept_one (s a b : ByteArray) (ka kc : Nat) (a1 c1 : Int) (w : World) (hs : s.size ≤ 5000) (ha : a.size ≤ 3000) (hb0 : b.size ≤ 3000) (h1 : ka ≤ kc) (h2 : kc ≤ s.size) (h3 : isSpan s.size a1 c1 = false ∨ a1 < (kc : Int)) :
    Calls Try.prog 5 #[.string s, .agg #[.int .i64 ka, .int .i64 kc], .agg #[.int .i64 a1, .int .i64 c1], .string a, .string b] w fun e w' => e = .returned (.bool true) ∧ Below w.heap.size w w' := by
  have d1 : ¬ (5000 : Int) < (s.size : Int) := by omega
  have d2 : ¬ (3000 : Int) < (a.size : Int) := by omega
  have d3 : ¬ (3000 : Int) < (b.size : Int) := by omega
  have HS : Hid (s.data.toList.length = s.size) := Lib.hid (Lib.size_eq s).symm
  have HA : Hid (a.data.toList.length = a.size) := Lib.hid (Lib.size_eq a).symm
  obtain ⟨W0, hW0⟩ : ∃ W, (w.alloc (.cells #[.int .i64 ka, .int .i64 kc] 30)).alloc (.cells #[.int .i64 a1, .int .i64 c1] 30) = W := ⟨_, rfl⟩
  have B0 : Hid (Below w.heap.size w W0) := Lib.hid (by rw [← hW0]; exact ((Below.refl _ _).alloc (Nat.le_refl _) _).alloc (by simp) _)
  have x0 : W0.cell? ⟨w.heap.size, 0, none⟩ = some (.int .i64 ka) := by rw [← hW0]; exact keepA _ (by simp)
  have x1 : W0.cell? ⟨w.heap.size, 1, none⟩ = some (.int .i64 kc) := by rw [← hW0]; exact keepA _ (by simp)
  have y0 : W0.cell? ⟨w.heap.size + 1, 0, none⟩ = some (.int .i64 a1) := by rw [← hW0]; simp
  have y1 : W0.cell? ⟨w.heap.size + 1, 1, none⟩ = some (.int .i64 c1) := by rw [← hW0]; simp
  go_enter Try.func5, Try.ntmps5
  go_wp2_with fail
  refine (works_true _).mono ?_
  rintro e w1 ⟨rfl, hb⟩
  clear hW0
  replace x0 := keepB hb x0
  replace x1 := keepB hb x1
  replace y0 := keepB hb y0
  replace y1 := keepB hb y1
  have B1 := Lib.hid (B0.out.trans (hb.mono B0.out.size))
  clear hb
  go_wp2_with fail
  refine (rp_of s _ (by omega)).mono ?_
  rintro e w2 ⟨br, rfl, kr, hb⟩
  have R := Lib.hid kr
  clear kr
  replace x0 := keepB hb x0
  replace x1 := keepB hb x1
  replace y0 := keepB hb y0
  replace y1 := keepB hb y1
  have B2 := Lib.hid (B1.out.trans (hb.mono B1.out.size))
  clear hb
  obtain ⟨P, hP⟩ : ∃ P, put s.data.toList ka kc a.data.toList = P := ⟨_, rfl⟩
  have zP : P.length = s.size - (kc - ka) + a.size := by rw [← hP, put_len _ _ _ _ h1 (by rw [HS.out]; exact h2), HS.out, HA.out]
  have cr : ∀ w', Rp w' br s.data.toList → Calls Try.prog 10 #[.pointer (some ⟨br, 0, none⟩), .agg #[.int .i64 ka, .int .i64 kc], .string a] w' fun e w1 => ∃ b2, e = .returned (.tuple #[.pointer (some ⟨b2, 0, none⟩), .int .i64 0]) ∧ Rp w1 b2 P ∧ Below w'.heap.size w' w1 := fun w' h' => by
    rw [← hP]
    exact rp_replace w' br _ h' (by rw [HS.out]; omega) ka kc a h1 (by rw [HS.out]; exact h2) (by rw [HS.out]; omega)
  have ci := fun w' => is_any w' s ka kc
  rw [isSpan_yes h1 h2] at ci
  have cs := fun w' (h' : Rp w' br s.data.toList) => rp_slice w' br _ h' (by rw [HS.out]; omega) ka kc
  have eS : sliceR s.data.toList ka kc = (⟨(sub s.data.toList ka kc).toArray⟩, 0) := by unfold sliceR; rw [if_pos (by rw [HS.out]; exact isSpan_yes h1 h2)]
  rw [eS] at cs
  obtain ⟨O, hO⟩ : ∃ O : ByteArray, (⟨(sub s.data.toList ka kc).toArray⟩ : ByteArray) = O := ⟨_, rfl⟩
  have eO : O.data.toList = sub s.data.toList ka kc := by rw [← hO]
  have zO : O.size ≤ 5000 := by
    rw [Lib.size_eq, eO]
    have := sub_length s.data.toList ka kc
    rw [HS.out] at this
    omega
  simp only [hO] at cs
  have eb : put P ka (ka + a.data.toList.length) O.data.toList = s.data.toList := by rw [← hP, eO]; exact kept_back _ _ _ _ h1 (by rw [HS.out]; exact h2)
  rw [HA.out] at eb
  have zO2 : O.size = kc - ka := by
    have e := congrArg List.length eb
    rw [put_len _ _ _ _ (by omega) (by omega), HS.out, ← Lib.size_eq, zP] at e
    omega
  have ck : ∀ w' bp, Rp w' bp P → Calls Try.prog 10 #[.pointer (some ⟨bp, 0, none⟩), .agg #[.int .i64 ka, .int .i64 ((ka : Int) + a.size)], .string O] w' fun e w1 => ∃ b2, e = .returned (.tuple #[.pointer (some ⟨b2, 0, none⟩), .int .i64 0]) ∧ Rp w1 b2 s.data.toList ∧ Below w'.heap.size w' w1 := fun w' bp h' => by
    rw [← eb, show (ka : Int) + a.size = ((ka + a.size : Nat) : Int) by omega]
    exact rp_replace w' bp _ h' (by omega) ka (ka + a.size) O (by omega) (by omega) (by omega)
  have ctr := fun w' b' (h' : Rp w' b' s.data.toList) => rp_string w' b' _ h' (by rw [HS.out]; omega)
  rw [str_self] at ctr
  have ctp := fun w' b' (h' : Rp w' b' P) => rp_string w' b' _ h' (by omega)
  have cp := fun w' => put_ok w' s a ka kc h1 h2 (by omega) (by omega)
  rw [hP] at cp
  obtain ⟨PS, hPS⟩ : ∃ x : ByteArray, (⟨P.toArray⟩ : ByteArray) = x := ⟨_, rfl⟩
  rw [hPS] at cp
  simp only [hPS] at ctp
  have hwr : IntKind.i64.wrap ((ka : Int) + a.size) = (ka : Int) + a.size := IntWalk.i64_in _ (by omega)
  have HP := Lib.hid hP
  have ZP := Lib.hid zP
  clear hP hO eO eb hPS eS zP zO2
  go_wp2_with fail
  refine (cr _ R.out).mono ?_
  rintro e w3 ⟨bp, rfl, kp, hb⟩
  have PP := Lib.hid kp
  clear kp
  replace x0 := keepB hb x0
  replace x1 := keepB hb x1
  replace y0 := keepB hb y0
  replace y1 := keepB hb y1
  have B3 := Lib.hid (B2.out.trans (hb.mono B2.out.size))
  replace R := Lib.hid (R.out.below (Nat.le_refl _) hb)
  clear hb
  go_wp2_with fail
  refine (ci _).mono ?_
  rintro e w4 ⟨rfl, hb⟩
  replace x0 := keepB hb x0
  replace x1 := keepB hb x1
  replace y0 := keepB hb y0
  replace y1 := keepB hb y1
  have B4 := Lib.hid (B3.out.trans (hb.mono B3.out.size))
  replace R := Lib.hid (R.out.below (Nat.le_refl _) hb)
  replace PP := Lib.hid (PP.out.below (Nat.le_refl _) hb)
  clear hb
  go_wp2_with fail
  refine (cs _ R.out).mono ?_
  rintro e w5 ⟨rfl, hb⟩
  replace x0 := keepB hb x0
  replace x1 := keepB hb x1
  replace y0 := keepB hb y0
  replace y1 := keepB hb y1
  have B5 := Lib.hid (B4.out.trans (hb.mono B4.out.size))
  replace R := Lib.hid (R.out.below (Nat.le_refl _) hb)
  replace PP := Lib.hid (PP.out.below (Nat.le_refl _) hb)
  clear hb
  go_wp2_with fail
  refine (sp_any _ _ _).mono ?_
  rintro e w6 ⟨rfl, hb⟩
  replace x0 := keepB hb x0
  replace x1 := keepB hb x1
  replace y0 := keepB hb y0
  replace y1 := keepB hb y1
  have B6 := Lib.hid (B5.out.trans (hb.mono B5.out.size))
  replace R := Lib.hid (R.out.below (Nat.le_refl _) hb)
  replace PP := Lib.hid (PP.out.below (Nat.le_refl _) hb)
  clear hb
  go_wp2_with fail
  refine (ck _ bp PP.out).mono ?_
  rintro e w7 ⟨bk, rfl, kk, hb⟩
  have K := Lib.hid kk
  clear kk
  replace x0 := keepB hb x0
  replace x1 := keepB hb x1
  replace y0 := keepB hb y0
  replace y1 := keepB hb y1
  have B7 := Lib.hid (B6.out.trans (hb.mono B6.out.size))
  replace R := Lib.hid (R.out.below (Nat.le_refl _) hb)
  replace PP := Lib.hid (PP.out.below (Nat.le_refl _) hb)
  clear hb
  go_wp2
  have zx : w.heap.size < w7.heap.size := World.block_lt_of_cell? w7 ⟨w.heap.size, 0, none⟩ x0
  have zy : w.heap.size + 1 < w7.heap.size := World.block_lt_of_cell? w7 ⟨w.heap.size + 1, 0, none⟩ y0
  have tA := fun W' (hW : Below w7.heap.size w7 W') => ctr W' bk (K.out.below (Nat.le_refl _) hW)
  have tB := fun W' (hW : Below w7.heap.size w7 W') => ctp W' bp (PP.out.below (Nat.le_refl _) hW)
  have tD := fun W' (hW : Below w7.heap.size w7 W') => ctr W' br (R.out.below (Nat.le_refl _) hW)
  go_region_held3 (fun u => u.cell? ⟨w.heap.size, 0, none⟩ = some (.int .i64 ka) ∧ u.cell? ⟨w.heap.size, 1, none⟩ = some (.int .i64 kc)) (first | exact ⟨x0, x1⟩ | (with_reducible exact ⟨q0, q1⟩) | (with_reducible exact ⟨r0, r1⟩) | (with_reducible exact ⟨s0, s1⟩) | (with_reducible exact ⟨t0, t1⟩) | go_keep) (first | (go_at_call 18; (with_reducible refine Calls.mono (tA _ (Below.refl _ _).drew) ?_); rintro e v1 ⟨rfl, hb1⟩; have g1 := (Below.refl w7.heap.size w7).drew.trans hb1; have q0 := (g1.cell (p := ⟨w.heap.size, 0, none⟩) zx).trans x0; have q1 := (g1.cell (p := ⟨w.heap.size, 1, none⟩) zx).trans x1) | (go_at_call 18; (with_reducible refine Calls.mono (tB v1 g1) ?_); rintro e v2 ⟨rfl, hb2⟩; have g2 := gcall g1 hb2; have r0 := (g2.cell (p := ⟨w.heap.size, 0, none⟩) zx).trans x0; have r1 := (g2.cell (p := ⟨w.heap.size, 1, none⟩) zx).trans x1) | (go_at_call 26; (with_reducible refine Calls.mono (cp v2) ?_); rintro e v3 ⟨rfl, hb3⟩; have g3 := gcall g2 hb3; have s0 := (g3.cell (p := ⟨w.heap.size, 0, none⟩) zx).trans x0; have s1 := (g3.cell (p := ⟨w.heap.size, 1, none⟩) zx).trans x1) | (go_at_call 18; (with_reducible refine Calls.mono (tD v3 g3) ?_); rintro e v4 ⟨rfl, hb4⟩; have g4 := gcall g3 hb4; have t0 := (g4.cell (p := ⟨w.heap.size, 0, none⟩) zx).trans x0; have t1 := (g4.cell (p := ⟨w.heap.size, 1, none⟩) zx).trans x1; have m0 := (g4.cell (p := ⟨w.heap.size + 1, 0, none⟩) zy).trans y0; have m1 := (g4.cell (p := ⟨w.heap.size + 1, 1, none⟩) zy).trans y1))
  have B8 := Lib.hid (B7.out.trans (g4.mono B7.out.size))
  have R8 := Lib.hid (R.out.below (Nat.le_refl _) g4)
  have P8 := Lib.hid (PP.out.below (Nat.le_refl _) g4)
  have cj := fun w' => is_any w' s a1 c1
  clear g1 g2 g3 g4 hb1 hb2 hb3 hb4 q0 q1 r0 r1 s0 s1 x0 x1 y0 y1 tA tB tD
  by_cases h4 : isSpan s.size a1 c1 = false
  · rw [h4] at cj
    go_wp2_with fail
    refine (cj _).mono ?_
    rintro e w9 ⟨rfl, hb⟩
    have B9 := Lib.hid (B8.out.trans (hb.mono B8.out.size))
    clear hb
    go_wp2
    go_ret
    exact ⟨rfl, B9.out⟩
  · have h4' : isSpan s.size a1 c1 = true := by simpa using h4
    have h5 : a1 < (kc : Int) := by rcases h3 with h | h; exact absurd h h4; exact h
    rw [h4'] at cj
    clear h3 h4 h4'
    go_wp2_with fail
    refine (cj _).mono ?_
    rintro e w9 ⟨rfl, hb⟩
    replace t0 := keepB hb t0
    replace t1 := keepB hb t1
    replace m0 := keepB hb m0
    replace m1 := keepB hb m1
    have B9 := Lib.hid (B8.out.trans (hb.mono B8.out.size))
    clear hb
    go_wp2
    go_ret
    exact ⟨rfl, B9.out⟩
set_option maxRecDepth 100000 in
set_option maxHeartbeats 4000000 in
theorem kept_two_ok (s a b : ByteArray) (ka kc : Nat) (k1 d1_ : Nat) (w : World) (hs : s.size ≤ 5000) (ha : a.size ≤ 3000) (hb0 : b.size ≤ 3000) (h1 : ka ≤ kc) (h2 : kc ≤ s.size) (h3 : kc ≤ k1) (h4 : k1 ≤ d1_) (h5 : d1_ ≤ s.size) :
    Calls Try.prog 5 #[.string s, .agg #[.int .i64 ka, .int .i64 kc], .agg #[.int .i64 k1, .int .i64 d1_], .string a, .string b] w fun e w' => e = .returned (.bool true) ∧ Below w.heap.size w w' := by
  have d1 : ¬ (5000 : Int) < (s.size : Int) := by omega
  have d2 : ¬ (3000 : Int) < (a.size : Int) := by omega
  have d3 : ¬ (3000 : Int) < (b.size : Int) := by omega
  have HS : Hid (s.data.toList.length = s.size) := Lib.hid (Lib.size_eq s).symm
  have HA : Hid (a.data.toList.length = a.size) := Lib.hid (Lib.size_eq a).symm
  obtain ⟨W0, hW0⟩ : ∃ W, (w.alloc (.cells #[.int .i64 ka, .int .i64 kc] 30)).alloc (.cells #[.int .i64 k1, .int .i64 d1_] 30) = W := ⟨_, rfl⟩
  have B0 : Hid (Below w.heap.size w W0) := Lib.hid (by rw [← hW0]; exact ((Below.refl _ _).alloc (Nat.le_refl _) _).alloc (by simp) _)
  have x0 : W0.cell? ⟨w.heap.size, 0, none⟩ = some (.int .i64 ka) := by rw [← hW0]; exact keepA _ (by simp)
  have x1 : W0.cell? ⟨w.heap.size, 1, none⟩ = some (.int .i64 kc) := by rw [← hW0]; exact keepA _ (by simp)
  have y0 : W0.cell? ⟨w.heap.size + 1, 0, none⟩ = some (.int .i64 k1) := by rw [← hW0]; simp
  have y1 : W0.cell? ⟨w.heap.size + 1, 1, none⟩ = some (.int .i64 d1_) := by rw [← hW0]; simp
  go_enter Try.func5, Try.ntmps5
  go_wp2_with fail
  refine (works_true _).mono ?_
  rintro e w1 ⟨rfl, hb⟩
  clear hW0
  replace x0 := keepB hb x0
  replace x1 := keepB hb x1
  replace y0 := keepB hb y0
  replace y1 := keepB hb y1
  have B1 := Lib.hid (B0.out.trans (hb.mono B0.out.size))
  clear hb
  go_wp2_with fail
  refine (rp_of s _ (by omega)).mono ?_
  rintro e w2 ⟨br, rfl, kr, hb⟩
  have R := Lib.hid kr
  clear kr
  replace x0 := keepB hb x0
  replace x1 := keepB hb x1
  replace y0 := keepB hb y0
  replace y1 := keepB hb y1
  have B2 := Lib.hid (B1.out.trans (hb.mono B1.out.size))
  clear hb
  obtain ⟨P, hP⟩ : ∃ P, put s.data.toList ka kc a.data.toList = P := ⟨_, rfl⟩
  have zP : P.length = s.size - (kc - ka) + a.size := by rw [← hP, put_len _ _ _ _ h1 (by rw [HS.out]; exact h2), HS.out, HA.out]
  have cr : ∀ w', Rp w' br s.data.toList → Calls Try.prog 10 #[.pointer (some ⟨br, 0, none⟩), .agg #[.int .i64 ka, .int .i64 kc], .string a] w' fun e w1 => ∃ b2, e = .returned (.tuple #[.pointer (some ⟨b2, 0, none⟩), .int .i64 0]) ∧ Rp w1 b2 P ∧ Below w'.heap.size w' w1 := fun w' h' => by
    rw [← hP]
    exact rp_replace w' br _ h' (by rw [HS.out]; omega) ka kc a h1 (by rw [HS.out]; exact h2) (by rw [HS.out]; omega)
  have ci := fun w' => is_any w' s ka kc
  rw [isSpan_yes h1 h2] at ci
  have cs := fun w' (h' : Rp w' br s.data.toList) => rp_slice w' br _ h' (by rw [HS.out]; omega) ka kc
  have eS : sliceR s.data.toList ka kc = (⟨(sub s.data.toList ka kc).toArray⟩, 0) := by unfold sliceR; rw [if_pos (by rw [HS.out]; exact isSpan_yes h1 h2)]
  rw [eS] at cs
  obtain ⟨O, hO⟩ : ∃ O : ByteArray, (⟨(sub s.data.toList ka kc).toArray⟩ : ByteArray) = O := ⟨_, rfl⟩
  have eO : O.data.toList = sub s.data.toList ka kc := by rw [← hO]
  have zO : O.size ≤ 5000 := by
    rw [Lib.size_eq, eO]
    have := sub_length s.data.toList ka kc
    rw [HS.out] at this
    omega
  simp only [hO] at cs
  have eb : put P ka (ka + a.data.toList.length) O.data.toList = s.data.toList := by rw [← hP, eO]; exact kept_back _ _ _ _ h1 (by rw [HS.out]; exact h2)
  rw [HA.out] at eb
  have zO2 : O.size = kc - ka := by
    have e := congrArg List.length eb
    rw [put_len _ _ _ _ (by omega) (by omega), HS.out, ← Lib.size_eq, zP] at e
    omega
  have ck : ∀ w' bp, Rp w' bp P → Calls Try.prog 10 #[.pointer (some ⟨bp, 0, none⟩), .agg #[.int .i64 ka, .int .i64 ((ka : Int) + a.size)], .string O] w' fun e w1 => ∃ b2, e = .returned (.tuple #[.pointer (some ⟨b2, 0, none⟩), .int .i64 0]) ∧ Rp w1 b2 s.data.toList ∧ Below w'.heap.size w' w1 := fun w' bp h' => by
    rw [← eb, show (ka : Int) + a.size = ((ka + a.size : Nat) : Int) by omega]
    exact rp_replace w' bp _ h' (by omega) ka (ka + a.size) O (by omega) (by omega) (by omega)
  have ctr := fun w' b' (h' : Rp w' b' s.data.toList) => rp_string w' b' _ h' (by rw [HS.out]; omega)
  rw [str_self] at ctr
  have ctp := fun w' b' (h' : Rp w' b' P) => rp_string w' b' _ h' (by omega)
  have cp := fun w' => put_ok w' s a ka kc h1 h2 (by omega) (by omega)
  rw [hP] at cp
  obtain ⟨PS, hPS⟩ : ∃ x : ByteArray, (⟨P.toArray⟩ : ByteArray) = x := ⟨_, rfl⟩
  rw [hPS] at cp
  simp only [hPS] at ctp
  have hwr : IntKind.i64.wrap ((ka : Int) + a.size) = (ka : Int) + a.size := IntWalk.i64_in _ (by omega)
  have HP := Lib.hid hP
  have ZP := Lib.hid zP
  clear hP hO eO eb hPS eS zP zO2
  go_wp2_with fail
  refine (cr _ R.out).mono ?_
  rintro e w3 ⟨bp, rfl, kp, hb⟩
  have PP := Lib.hid kp
  clear kp
  replace x0 := keepB hb x0
  replace x1 := keepB hb x1
  replace y0 := keepB hb y0
  replace y1 := keepB hb y1
  have B3 := Lib.hid (B2.out.trans (hb.mono B2.out.size))
  replace R := Lib.hid (R.out.below (Nat.le_refl _) hb)
  clear hb
  go_wp2_with fail
  refine (ci _).mono ?_
  rintro e w4 ⟨rfl, hb⟩
  replace x0 := keepB hb x0
  replace x1 := keepB hb x1
  replace y0 := keepB hb y0
  replace y1 := keepB hb y1
  have B4 := Lib.hid (B3.out.trans (hb.mono B3.out.size))
  replace R := Lib.hid (R.out.below (Nat.le_refl _) hb)
  replace PP := Lib.hid (PP.out.below (Nat.le_refl _) hb)
  clear hb
  go_wp2_with fail
  refine (cs _ R.out).mono ?_
  rintro e w5 ⟨rfl, hb⟩
  replace x0 := keepB hb x0
  replace x1 := keepB hb x1
  replace y0 := keepB hb y0
  replace y1 := keepB hb y1
  have B5 := Lib.hid (B4.out.trans (hb.mono B4.out.size))
  replace R := Lib.hid (R.out.below (Nat.le_refl _) hb)
  replace PP := Lib.hid (PP.out.below (Nat.le_refl _) hb)
  clear hb
  go_wp2_with fail
  refine (sp_any _ _ _).mono ?_
  rintro e w6 ⟨rfl, hb⟩
  replace x0 := keepB hb x0
  replace x1 := keepB hb x1
  replace y0 := keepB hb y0
  replace y1 := keepB hb y1
  have B6 := Lib.hid (B5.out.trans (hb.mono B5.out.size))
  replace R := Lib.hid (R.out.below (Nat.le_refl _) hb)
  replace PP := Lib.hid (PP.out.below (Nat.le_refl _) hb)
  clear hb
  go_wp2_with fail
  refine (ck _ bp PP.out).mono ?_
  rintro e w7 ⟨bk, rfl, kk, hb⟩
  have K := Lib.hid kk
  clear kk
  replace x0 := keepB hb x0
  replace x1 := keepB hb x1
  replace y0 := keepB hb y0
  replace y1 := keepB hb y1
  have B7 := Lib.hid (B6.out.trans (hb.mono B6.out.size))
  replace R := Lib.hid (R.out.below (Nat.le_refl _) hb)
  replace PP := Lib.hid (PP.out.below (Nat.le_refl _) hb)
  clear hb
  go_wp2
  have zx : w.heap.size < w7.heap.size := World.block_lt_of_cell? w7 ⟨w.heap.size, 0, none⟩ x0
  have zy : w.heap.size + 1 < w7.heap.size := World.block_lt_of_cell? w7 ⟨w.heap.size + 1, 0, none⟩ y0
  have tA := fun W' (hW : Below w7.heap.size w7 W') => ctr W' bk (K.out.below (Nat.le_refl _) hW)
  have tB := fun W' (hW : Below w7.heap.size w7 W') => ctp W' bp (PP.out.below (Nat.le_refl _) hW)
  have tD := fun W' (hW : Below w7.heap.size w7 W') => ctr W' br (R.out.below (Nat.le_refl _) hW)
  go_region_held3 (fun u => u.cell? ⟨w.heap.size, 0, none⟩ = some (.int .i64 ka) ∧ u.cell? ⟨w.heap.size, 1, none⟩ = some (.int .i64 kc)) (first | exact ⟨x0, x1⟩ | (with_reducible exact ⟨q0, q1⟩) | (with_reducible exact ⟨r0, r1⟩) | (with_reducible exact ⟨s0, s1⟩) | (with_reducible exact ⟨t0, t1⟩) | go_keep) (first | (go_at_call 18; (with_reducible refine Calls.mono (tA _ (Below.refl _ _).drew) ?_); rintro e v1 ⟨rfl, hb1⟩; have g1 := (Below.refl w7.heap.size w7).drew.trans hb1; have q0 := (g1.cell (p := ⟨w.heap.size, 0, none⟩) zx).trans x0; have q1 := (g1.cell (p := ⟨w.heap.size, 1, none⟩) zx).trans x1) | (go_at_call 18; (with_reducible refine Calls.mono (tB v1 g1) ?_); rintro e v2 ⟨rfl, hb2⟩; have g2 := gcall g1 hb2; have r0 := (g2.cell (p := ⟨w.heap.size, 0, none⟩) zx).trans x0; have r1 := (g2.cell (p := ⟨w.heap.size, 1, none⟩) zx).trans x1) | (go_at_call 26; (with_reducible refine Calls.mono (cp v2) ?_); rintro e v3 ⟨rfl, hb3⟩; have g3 := gcall g2 hb3; have s0 := (g3.cell (p := ⟨w.heap.size, 0, none⟩) zx).trans x0; have s1 := (g3.cell (p := ⟨w.heap.size, 1, none⟩) zx).trans x1) | (go_at_call 18; (with_reducible refine Calls.mono (tD v3 g3) ?_); rintro e v4 ⟨rfl, hb4⟩; have g4 := gcall g3 hb4; have t0 := (g4.cell (p := ⟨w.heap.size, 0, none⟩) zx).trans x0; have t1 := (g4.cell (p := ⟨w.heap.size, 1, none⟩) zx).trans x1; have m0 := (g4.cell (p := ⟨w.heap.size + 1, 0, none⟩) zy).trans y0; have m1 := (g4.cell (p := ⟨w.heap.size + 1, 1, none⟩) zy).trans y1))
  have B8 := Lib.hid (B7.out.trans (g4.mono B7.out.size))
  have R8 := Lib.hid (R.out.below (Nat.le_refl _) g4)
  have P8 := Lib.hid (PP.out.below (Nat.le_refl _) g4)
  have cj := fun w' => is_any w' s k1 d1_
  rw [isSpan_yes h4 h5] at cj
  obtain ⟨Q, hQ⟩ : ∃ Q, put s.data.toList k1 d1_ b.data.toList = Q := ⟨_, rfl⟩
  have HB : b.data.toList.length = b.size := (Lib.size_eq b).symm
  have zQ : Q.length = s.size - (d1_ - k1) + b.size := by rw [← hQ, put_len _ _ _ _ h4 (by rw [HS.out]; exact h5), HS.out, HB]
  obtain ⟨T2, hT⟩ : ∃ T2, put Q ka kc a.data.toList = T2 := ⟨_, rfl⟩
  have eT : put P (k1 + a.size - (kc - ka)) (d1_ + a.size - (kc - ka)) b.data.toList = T2 := by
    rw [← HP.out, ← hT, ← hQ]
    have e := kept_two s.data.toList a.data.toList b.data.toList ka kc k1 d1_ h1 h3 h4 (by rw [HS.out]; exact h5)
    rw [HA.out] at e
    exact e
  have zT : T2.length ≤ 20000 := by rw [← hT, put_len _ _ _ _ h1 (by omega), HA.out]; omega
  have zP := ZP.out
  have c1 : ∀ w', Rp w' bp P → Calls Try.prog 10 #[.pointer (some ⟨bp, 0, none⟩), .agg #[.int .i64 ((k1 : Int) + ((a.size : Int) - ((kc : Int) - ka))), .int .i64 ((d1_ : Int) + ((a.size : Int) - ((kc : Int) - ka)))], .string b] w' fun e w1 => ∃ b2, e = .returned (.tuple #[.pointer (some ⟨b2, 0, none⟩), .int .i64 0]) ∧ Rp w1 b2 T2 ∧ Below w'.heap.size w' w1 := fun w' h' => by
    rw [← eT, show (k1 : Int) + ((a.size : Int) - ((kc : Int) - ka)) = ((k1 + a.size - (kc - ka) : Nat) : Int) by omega, show (d1_ : Int) + ((a.size : Int) - ((kc : Int) - ka)) = ((d1_ + a.size - (kc - ka) : Nat) : Int) by omega]
    exact rp_replace w' bp _ h' (by omega) _ _ b (by omega) (by omega) (by omega)
  have c2 : ∀ w', Rp w' br s.data.toList → Calls Try.prog 10 #[.pointer (some ⟨br, 0, none⟩), .agg #[.int .i64 k1, .int .i64 d1_], .string b] w' fun e w1 => ∃ b2, e = .returned (.tuple #[.pointer (some ⟨b2, 0, none⟩), .int .i64 0]) ∧ Rp w1 b2 Q ∧ Below w'.heap.size w' w1 := fun w' h' => by
    rw [← hQ]
    exact rp_replace w' br _ h' (by rw [HS.out]; omega) k1 d1_ b h4 (by rw [HS.out]; exact h5) (by rw [HS.out]; omega)
  have c3 : ∀ w' bq, Rp w' bq Q → Calls Try.prog 10 #[.pointer (some ⟨bq, 0, none⟩), .agg #[.int .i64 ka, .int .i64 kc], .string a] w' fun e w1 => ∃ b2, e = .returned (.tuple #[.pointer (some ⟨b2, 0, none⟩), .int .i64 0]) ∧ Rp w1 b2 T2 ∧ Below w'.heap.size w' w1 := fun w' bq h' => by
    rw [← hT]
    exact rp_replace w' bq _ h' (by omega) ka kc a h1 (by omega) (by omega)
  have c4 := fun w' b' (h' : Rp w' b' T2) => rp_string w' b' _ h' (by omega)
  obtain ⟨TS, hTS⟩ : ∃ x : ByteArray, (⟨T2.toArray⟩ : ByteArray) = x := ⟨_, rfl⟩
  simp only [hTS] at c4
  have hw1 : IntKind.i64.wrap ((kc : Int) - ka) = (kc : Int) - ka := IntWalk.i64_in _ (by omega)
  have hw2 : IntKind.i64.wrap ((a.size : Int) - ((kc : Int) - ka)) = (a.size : Int) - ((kc : Int) - ka) := IntWalk.i64_in _ (by omega)
  have hw3 : IntKind.i64.wrap ((k1 : Int) + ((a.size : Int) - ((kc : Int) - ka))) = (k1 : Int) + ((a.size : Int) - ((kc : Int) - ka)) := IntWalk.i64_in _ (by omega)
  have hw4 : IntKind.i64.wrap ((d1_ : Int) + ((a.size : Int) - ((kc : Int) - ka))) = (d1_ : Int) + ((a.size : Int) - ((kc : Int) - ka)) := IntWalk.i64_in _ (by omega)
  have h3' : ¬ (k1 : Int) < (kc : Int) := by omega
  clear g1 g2 g3 g4 hb1 hb2 hb3 hb4 q0 q1 r0 r1 s0 s1 x0 x1 y0 y1 tA tB tD hQ zQ hT eT zT zP hTS HB
  go_wp2_with fail
  refine (cj _).mono ?_
  rintro e w9 ⟨rfl, hb⟩
  replace t0 := keepB hb t0
  replace t1 := keepB hb t1
  replace m0 := keepB hb m0
  replace m1 := keepB hb m1
  have B9 := Lib.hid (B8.out.trans (hb.mono B8.out.size))
  replace R8 := Lib.hid (R8.out.below (Nat.le_refl _) hb)
  replace P8 := Lib.hid (P8.out.below (Nat.le_refl _) hb)
  clear hb
  go_wp2_with fail
  refine (sp_any _ _ _).mono ?_
  rintro e w10 ⟨rfl, hb⟩
  replace t0 := keepB hb t0
  replace t1 := keepB hb t1
  replace m0 := keepB hb m0
  replace m1 := keepB hb m1
  have B10 := Lib.hid (B9.out.trans (hb.mono B9.out.size))
  replace R8 := Lib.hid (R8.out.below (Nat.le_refl _) hb)
  replace P8 := Lib.hid (P8.out.below (Nat.le_refl _) hb)
  clear hb
  go_wp2_with fail
  refine (c1 _ P8.out).mono ?_
  rintro e w11 ⟨bo, rfl, ko, hb⟩
  have O1 := Lib.hid ko
  clear ko
  replace t0 := keepB hb t0
  replace t1 := keepB hb t1
  replace m0 := keepB hb m0
  replace m1 := keepB hb m1
  have B11 := Lib.hid (B10.out.trans (hb.mono B10.out.size))
  replace R8 := Lib.hid (R8.out.below (Nat.le_refl _) hb)
  clear hb
  go_wp2_with fail
  refine (c2 _ R8.out).mono ?_
  rintro e w12 ⟨bq, rfl, kq, hb⟩
  have Q1 := Lib.hid kq
  clear kq
  replace t0 := keepB hb t0
  replace t1 := keepB hb t1
  replace m0 := keepB hb m0
  replace m1 := keepB hb m1
  have B12 := Lib.hid (B11.out.trans (hb.mono B11.out.size))
  replace R8 := Lib.hid (R8.out.below (Nat.le_refl _) hb)
  replace O1 := Lib.hid (O1.out.below (Nat.le_refl _) hb)
  clear hb
  go_wp2_with fail
  refine (c3 _ bq Q1.out).mono ?_
  rintro e w13 ⟨bt, rfl, kt, hb⟩
  have T1 := Lib.hid kt
  clear kt
  replace t0 := keepB hb t0
  replace t1 := keepB hb t1
  replace m0 := keepB hb m0
  replace m1 := keepB hb m1
  have B13 := Lib.hid (B12.out.trans (hb.mono B12.out.size))
  replace R8 := Lib.hid (R8.out.below (Nat.le_refl _) hb)
  replace O1 := Lib.hid (O1.out.below (Nat.le_refl _) hb)
  clear hb
  go_wp2_with fail
  refine (c4 _ bo O1.out).mono ?_
  rintro e w14 ⟨rfl, hb⟩
  replace t0 := keepB hb t0
  replace t1 := keepB hb t1
  replace m0 := keepB hb m0
  replace m1 := keepB hb m1
  have B14 := Lib.hid (B13.out.trans (hb.mono B13.out.size))
  replace R8 := Lib.hid (R8.out.below (Nat.le_refl _) hb)
  replace T1 := Lib.hid (T1.out.below (Nat.le_refl _) hb)
  clear hb
  go_wp2_with fail
  refine (c4 _ bt T1.out).mono ?_
  rintro e w15 ⟨rfl, hb⟩
  replace t0 := keepB hb t0
  replace t1 := keepB hb t1
  replace m0 := keepB hb m0
  replace m1 := keepB hb m1
  have B15 := Lib.hid (B14.out.trans (hb.mono B14.out.size))
  replace R8 := Lib.hid (R8.out.below (Nat.le_refl _) hb)
  clear hb
  go_wp2_with fail
  refine (ctr _ br R8.out).mono ?_
  rintro e w16 ⟨rfl, hb⟩
  replace t0 := keepB hb t0
  replace t1 := keepB hb t1
  replace m0 := keepB hb m0
  replace m1 := keepB hb m1
  have B16 := Lib.hid (B15.out.trans (hb.mono B15.out.size))
  clear hb
  go_wp2
  go_ret
  exact ⟨rfl, B16.out⟩
theorem ropeKept_walk (s : ByteArray) (a0 c0 a1 c1 : Int) (a b : ByteArray) (w : World) : Calls Try.prog 5 #[.string s, .agg #[.int .i64 a0, .int .i64 c0], .agg #[.int .i64 a1, .int .i64 c1], .string a, .string b] w fun e w' => e = .returned (.bool true) ∧ Below w.heap.size w w' := by
  by_cases h1 : s.size ≤ 5000
  · by_cases h2 : a.size ≤ 3000
    · by_cases h3 : b.size ≤ 3000
      · by_cases h4 : isSpan s.size a0 c0 = true
        · have h5 : 0 ≤ a0 ∧ a0 ≤ c0 ∧ c0 ≤ s.size := by simpa [isSpan] using h4
          obtain ⟨ka, rfl⟩ := Int.eq_ofNat_of_zero_le h5.1
          obtain ⟨kc, rfl⟩ := Int.eq_ofNat_of_zero_le (show 0 ≤ c0 by omega)
          by_cases h6 : isSpan s.size a1 c1 = true ∧ (kc : Int) ≤ a1
          · have h7 : 0 ≤ a1 ∧ a1 ≤ c1 ∧ c1 ≤ s.size := by simpa [isSpan] using h6.1
            obtain ⟨k1, rfl⟩ := Int.eq_ofNat_of_zero_le h7.1
            obtain ⟨d1, rfl⟩ := Int.eq_ofNat_of_zero_le (show 0 ≤ c1 by omega)
            exact kept_two_ok s a b ka kc k1 d1 w h1 h2 h3 (by omega) (by omega) (by omega) (by omega) (by omega)
          · refine kept_one s a b ka kc a1 c1 w h1 h2 h3 (by omega) (by omega) ?_
            by_cases h8 : isSpan s.size a1 c1 = true
            · exact .inr (Classical.byContradiction fun g => h6 ⟨h8, by omega⟩)
            · exact .inl (by simpa using h8)
        · exact kept_bad s a b a0 c0 a1 c1 w h1 h2 h3 (by simpa using h4)
      · exact kept_long3 s a b a0 c0 a1 c1 w h1 h2 (by omega)
    · exact kept_long2 s a b a0 c0 a1 c1 w h1 (by omega)
  · exact kept_long1 s a b a0 c0 a1 c1 w (by omega)
end Go.Proofs.Ytbmcgmnmmnileaa
