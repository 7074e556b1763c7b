/-
  text; compareSizes; compare.
-/
import Derived.Test.YtgcpgieojckheaaGreatDoorL
namespace Go.Proofs.YtgcpgieojckheaaGreatDoor
open Go.RowKit Go.Shelf

theorem formatInt_any (x : Int) (w : World) (ht : Tab w) (h0 : -9223372036854775808 ≤ x) (h1 : x ≤ 9223372036854775807) :
    Calls Tryz.prog 51 #[.int .i64 x, .int .i64 10] w fun e w' => e = .returned (bl (Lib.itoa x)) ∧ Below w.heap.size w w' := by
  refine (Tryz.strconv_FormatInt_10 x h0 h1 w ht.1).mono ?_
  rintro e w' ⟨rfl, k, os, rfl⟩
  exact ⟨rfl, Lib.below_grow _ _ (Nat.le_refl _) k os⟩
theorem decDigits_le (u : Nat) : (Lib.decDigits u).length ≤ u + 1 := by
  induction u using Nat.strongRecOn with
  | _ u ih =>
    rw [Lib.decDigits]
    split
    · simp
    · have := ih (u / 10) (by omega)
      simp; omega
theorem itoa_len (x : Int) : (Lib.itoa x).length ≤ x.natAbs + 2 := by
  unfold Lib.itoa
  split
  · have := decDigits_le x.natAbs
    simp; omega
  · have := decDigits_le x.toNat
    omega
theorem digits_len {n : Num} (hl : tooLarge n = false) : n.digits.length ≤ 200 ∧ -9999 ≤ n.exp ∧ n.exp ≤ 9999 := by
  unfold tooLarge at hl
  simp at hl
  omega
theorem textD_len {n : Num} (hl : tooLarge n = false) : (textD n).length ≤ 200 := by
  have := (digits_len hl).1
  unfold textD; split
  · simp
  · exact this
theorem wholeForm_eq {n : Num} (hc : Canon n) : wholeForm n = sgn n.neg ++ textD n := by
  unfold wholeForm textD sgn
  by_cases h : n.digits = []
  · rw [if_pos h, if_pos h, (hc.zero h).1]; rfl
  · rw [if_neg h, if_neg h]
set_option maxHeartbeats 1000000 in
theorem text_any (n : Num) (w : World) (ht : Tab w) (hc : Canon n) (hl : tooLarge n = false) :
    Calls Tryz.prog 45 #[numV n] w fun e w' => e = .returned (bl (form n)) ∧ Below w.heap.size w w' := by
  obtain ⟨T, hT⟩ : ∃ t : ByteArray, (⟨(textD n).toArray⟩ : ByteArray) = t := ⟨_, rfl⟩
  have eT : T.data.toList = textD n := by rw [← hT]
  have hz : T.size ≤ 1000000000 := by rw [Lib.size_eq, eT]; have := textD_len hl; omega
  have hV : numV n = .agg #[.bool n.neg, .string T, .int .i64 n.exp] := by unfold numV bl; rw [hT]
  rw [hV]
  have hx := digits_len hl
  obtain ⟨s, hs⟩ : ∃ s : ByteArray, (⟨(sgn n.neg ++ T.data.toList).toArray⟩ : ByteArray) = s := ⟨_, rfl⟩
  have hi := fun W => integer_any n.neg T n.exp W hz
  unfold bl at hi
  rw [hs] at hi
  have es : s.data.toList = wholeForm n := by rw [← hs, wholeForm_eq hc, eT]
  by_cases h0 : n.exp = 0
  · have HF : Hid (Value.string s = bl (form n)) := Lib.hid (by
      unfold bl
      rw [of_list es]
      unfold form expForm
      rw [if_pos h0, List.append_nil])
    rw [h0] at hi ⊢
    clear hT eT hV hs es h0 hl hc hx
    go_enter Tryz.func45, Tryz.ntmps45
    go_wp2_with fail
    refine (hi _).mono ?_
    rintro e w1 ⟨rfl, hb⟩
    have HB := Lib.hid hb
    clear hb hi
    go_wp2
    go_ret
    exact ⟨by rw [← HF.out]; rfl, gcall (galloc (Below.refl _ _) _) HB.out⟩
  · obtain ⟨D, hD⟩ : ∃ s : ByteArray, (⟨(Lib.itoa n.exp).toArray⟩ : ByteArray) = s := ⟨_, rfl⟩
    have hf := fun W (hW : Below w.heap.size w W) => formatInt_any n.exp W (ht.below hW) (by omega) (by omega)
    unfold bl at hf
    rw [hD] at hf
    have HF : Hid (Value.string (s ++ (⟨#[101]⟩ : ByteArray) ++ D) = bl (form n)) := Lib.hid (by
      unfold bl
      have e1 : (s ++ (⟨#[101]⟩ : ByteArray) ++ D).data.toList = form n := by
        rw [app_list, app_list, es, ← hD]
        unfold form expForm
        rw [if_neg h0]
        simp
      rw [of_list e1])
    have zs : s.size ≤ 1000000001 := by rw [Lib.size_eq, es]; have := textD_len hl; rw [wholeForm_eq hc]; unfold sgn; split <;> simp <;> omega
    have zD : D.size ≤ 20000 := by rw [Lib.size_eq, ← hD]; have := itoa_len n.exp; simp; omega
    have za1 : ¬ 9223372036854775807 < s.size + 1 := by omega
    have za2 : ¬ 9223372036854775807 < s.size + 1 + D.size := by omega
    have h0' : (n.exp == 0) = false := by simpa using h0
    generalize n.exp = x at *
    generalize n.neg = ng at *
    clear hT eT hV hs es h0 hl hc hD
    go_enter Tryz.func45, Tryz.ntmps45
    go_wp2
    have B0 : Below w.heap.size w (w.alloc (.cells #[.bool ng, .string T, .int .i64 x] 68)) := galloc (Below.refl _ _) _
    have k := World.alloc_heap_new w (.cells #[.bool ng, .string T, .int .i64 x] 68)
    generalize w.alloc (.cells #[.bool ng, .string T, .int .i64 x] 68) = W0 at *
    obtain ⟨k0, k1, k2, _⟩ := cells3 k
    have hlt : w.heap.size < W0.heap.size := World.block_lt_of_cell? W0 _ k0
    have HB0 := Lib.hid B0
    clear B0 k
    go_region_held3 (fun u => u.cell? ⟨w.heap.size, 0, none⟩ = some (.bool ng) ∧ u.cell? ⟨w.heap.size, 1, none⟩ = some (.string T) ∧ u.cell? ⟨w.heap.size, 2, none⟩ = some (.int .i64 x)) (first | exact ⟨k0, k1, k2⟩ | (with_reducible exact ⟨j0, j1, j2⟩) | (with_reducible exact ⟨i0, i1, i2⟩) | go_keep) (first | (go_at_call 49; (with_reducible refine Calls.mono (hi _) ?_); rintro e v1 ⟨rfl, hb1⟩; have gg1 : Below w.heap.size w v1 := gcall HB0.out.drew hb1; have j0 := (hb1.cell (p := ⟨w.heap.size, 0, none⟩) hlt).trans k0; have j1 := (hb1.cell (p := ⟨w.heap.size, 1, none⟩) hlt).trans k1; have j2 := (hb1.cell (p := ⟨w.heap.size, 2, none⟩) hlt).trans k2; have hlt1 : w.heap.size < v1.heap.size := World.block_lt_of_cell? v1 _ j0) | (go_at_call 51; (with_reducible refine Calls.mono (hf _ gg1) ?_); rintro e v2 ⟨rfl, hb2⟩; have gg2 : Below w.heap.size w v2 := gcall gg1 hb2; have i0 := (hb2.cell (p := ⟨w.heap.size, 0, none⟩) hlt1).trans j0; have i1 := (hb2.cell (p := ⟨w.heap.size, 1, none⟩) hlt1).trans j1; have i2 := (hb2.cell (p := ⟨w.heap.size, 2, none⟩) hlt1).trans j2))
    have HG := Lib.hid gg2
    go_wp2
    go_ret
    exact ⟨by rw [← HF.out]; rfl, HG.out⟩

/-- Two worths lie in two boxes. -/
structure Two (N : Nat) (na : Bool) (TA : ByteArray) (ea : Int) (nb : Bool) (TB : ByteArray) (eb : Int) (W : World) : Prop where
  a : W.heap[N]? = some (.cells #[.bool na, .string TA, .int .i64 ea] 68 (0, 0))
  b : W.heap[N + 1]? = some (.cells #[.bool nb, .string TB, .int .i64 eb] 68 (0, 0))
theorem Two.cells {N : Nat} {na nb : Bool} {TA TB : ByteArray} {ea eb : Int} {W : World} (h : Two N na TA ea nb TB eb W) :
    W.cell? ⟨N, 0, none⟩ = some (.bool na) ∧ W.cell? ⟨N, 1, none⟩ = some (.string TA) ∧ W.cell? ⟨N, 2, none⟩ = some (.int .i64 ea) ∧ W.cell? ⟨N + 1, 0, none⟩ = some (.bool nb) ∧ W.cell? ⟨N + 1, 1, none⟩ = some (.string TB) ∧ W.cell? ⟨N + 1, 2, none⟩ = some (.int .i64 eb) := by
  obtain ⟨a, b, c, _⟩ := cells3 h.a
  obtain ⟨d, e, f, _⟩ := cells3 h.b
  exact ⟨a, b, c, d, e, f⟩
theorem Two.lt {N : Nat} {na nb : Bool} {TA TB : ByteArray} {ea eb : Int} {W : World} (h : Two N na TA ea nb TB eb W) : N + 1 < W.heap.size := (Array.getElem?_eq_some_iff.1 h.b).1
theorem Two.below {N : Nat} {na nb : Bool} {TA TB : ByteArray} {ea eb : Int} {W W' : World} (h : Two N na TA ea nb TB eb W) (hb : Below W.heap.size W W') : Two N na TA ea nb TB eb W' := by
  have := h.lt
  exact ⟨(hb.block _ (by omega)).trans h.a, (hb.block _ (by omega)).trans h.b⟩
theorem Two.here (w : World) (na : Bool) (TA : ByteArray) (ea : Int) (nb : Bool) (TB : ByteArray) (eb : Int) :
    Two w.heap.size na TA ea nb TB eb ((w.alloc (.cells #[.bool na, .string TA, .int .i64 ea] 68)).alloc (.cells #[.bool nb, .string TB, .int .i64 eb] 68)) ∧
      Below w.heap.size w ((w.alloc (.cells #[.bool na, .string TA, .int .i64 ea] 68)).alloc (.cells #[.bool nb, .string TB, .int .i64 eb] 68)) := by
  refine ⟨⟨(Below.heap_alloc _ _ _ (by simp)).trans (World.alloc_heap_new w _), ?_⟩, galloc (galloc (Below.refl _ _) _) _⟩
  have := World.alloc_heap_new (w.alloc (.cells #[.bool na, .string TA, .int .i64 ea] 68)) (.cells #[.bool nb, .string TB, .int .i64 eb] 68)
  have hz : (w.alloc (.cells #[.bool na, .string TA, .int .i64 ea] 68)).heap.size = w.heap.size + 1 := by simp
  rw [hz] at this
  exact this
theorem numV_eq (n : Num) : ∃ T : ByteArray, T.data.toList = textD n ∧ numV n = .agg #[.bool n.neg, .string T, .int .i64 n.exp] := ⟨⟨(textD n).toArray⟩, rfl, rfl⟩
def topT (n : Num) : Int := n.exp + ((textD n).length : Int)
def sizesT (a b : Num) : Int := if topT a ≠ topT b then cmpI (topT a) (topT b) else lex (textD a) (textD b)
theorem top_eq {n : Num} {T : ByteArray} (hT : T.data.toList = textD n) : n.exp + (T.size : Int) = topT n := by
  unfold topT; rw [Lib.size_eq, hT]
theorem cmpI_range (a b : Int) : -1 ≤ cmpI a b ∧ cmpI a b ≤ 1 := by
  unfold cmpI; split
  · omega
  · split <;> omega
theorem sizesT_range (a b : Num) : -1 ≤ sizesT a b ∧ sizesT a b ≤ 1 := by
  unfold sizesT
  split
  · exact cmpI_range _ _
  · have := lex_range (textD a) (textD b); omega
theorem sizesT_eq {a b : Num} (h : signN a = signN b) : signN a * sizesT a b = signN a * sizes a b := by
  by_cases ha : a.digits = []
  · have : signN a = 0 := by unfold signN; rw [if_pos ha]
    rw [this]; simp
  · have hb : b.digits ≠ [] := by
      intro hb
      have h1 : signN b = 0 := by unfold signN; rw [if_pos hb]
      rw [h1] at h
      unfold signN at h
      rw [if_neg ha] at h
      split at h <;> omega
    have e1 : textD a = a.digits := by unfold textD; rw [if_neg ha]
    have e2 : textD b = b.digits := by unfold textD; rw [if_neg hb]
    unfold sizesT sizes topT topN
    rw [e1, e2]
set_option maxHeartbeats 2000000 in
theorem sizes_any (a b : Num) (w : World) (la : tooLarge a = false) (lb : tooLarge b = false) :
    Calls Tryz.prog 91 #[numV a, numV b] w fun e w' => e = .returned (.int .i64 (sizesT a b)) ∧ Below w.heap.size w w' := by
  obtain ⟨TA, eA, hA⟩ := numV_eq a
  obtain ⟨TB, eB, hB⟩ := numV_eq b
  rw [hA, hB]
  have xa := digits_len la
  have xb := digits_len lb
  have za : TA.size ≤ 1000000000 := by rw [Lib.size_eq, eA]; have := textD_len la; omega
  have zb : TB.size ≤ 1000000000 := by rw [Lib.size_eq, eB]; have := textD_len lb; omega
  have cA := fun W => top_any a.neg TA a.exp W za (by omega) (by omega)
  have cB := fun W => top_any b.neg TB b.exp W zb (by omega) (by omega)
  rw [top_eq eA] at cA
  rw [top_eq eB] at cB
  have HS : Hid (sizesT a b = if topT a ≠ topT b then cmpI (topT a) (topT b) else lex (textD a) (textD b)) := Lib.hid rfl
  have cS : ∀ W, Calls Tryz.prog 138 #[.string TA, .string TB] W fun e w' => e = .returned (.int .i64 (lex (textD a) (textD b))) ∧ W = w' := fun W => (Tryz.strings_Compare TA TB W).mono (fun _ _ ⟨h1, h2⟩ => ⟨by
    rw [h1, compare_lex, eA, eB], h2.symm⟩)
  generalize lex (textD a) (textD b) = L at *
  generalize topT a = X at *
  generalize topT b = Y at *
  generalize sizesT a b = Z at *
  generalize a.neg = na at *
  generalize b.neg = nb at *
  generalize a.exp = ea at *
  generalize b.exp = eb at *
  clear hA hB eA eB xa xb za zb la lb
  obtain ⟨T0, B0⟩ := Two.here w na TA ea nb TB eb
  by_cases hXY : X = Y
  · subst hXY
    rw [if_neg (by simp)] at HS
    have hq1 : (X == X) = true := by simp
    have hq2 : (X != X) = false := by simp
    go_enter Tryz.func91, Tryz.ntmps91
    go_wp2
    generalize (w.alloc (.cells #[.bool na, .string TA, .int .i64 ea] 68)).alloc (.cells #[.bool nb, .string TB, .int .i64 eb] 68) = W0 at *
    have HB0 := Lib.hid B0
    have HT0 := Lib.hid T0
    have c0 := T0.cells
    clear T0 B0
    go_region_held3 (fun u => u.cell? ⟨w.heap.size, 0, none⟩ = some (.bool na) ∧ u.cell? ⟨w.heap.size, 1, none⟩ = some (.string TA) ∧ u.cell? ⟨w.heap.size, 2, none⟩ = some (.int .i64 ea) ∧ u.cell? ⟨w.heap.size + 1, 0, none⟩ = some (.bool nb) ∧ u.cell? ⟨w.heap.size + 1, 1, none⟩ = some (.string TB) ∧ u.cell? ⟨w.heap.size + 1, 2, none⟩ = some (.int .i64 eb)) (first | exact c0 | (with_reducible exact c1) | (with_reducible exact c2) | go_keep) (first | (go_at_call 136; (with_reducible refine Calls.mono (cA _) ?_); rintro e v1 ⟨rfl, hb1⟩; have gg1 : Below w.heap.size w v1 := gcall HB0.out.drew hb1; have T1 := HT0.out.below ((Below.refl _ _).drew.trans hb1); have c1 := T1.cells) | (go_at_call 136; (with_reducible refine Calls.mono (cB _) ?_); rintro e v2 ⟨rfl, hb2⟩; have gg2 : Below w.heap.size w v2 := gcall gg1 hb2; have T2 := T1.below hb2; have c2 := T2.cells))
    have HG2 := Lib.hid gg2
    obtain ⟨q0, q1, q2, q3, q4, q5⟩ := T2.cells
    clear c0 c1 c2 T1 T2 gg1 gg2 hb1 hb2 HB0 HT0
    go_wp2_with fail
    refine (cS _).mono ?_
    rintro e w1 ⟨rfl, rfl⟩
    go_wp2
    go_ret
    exact ⟨by rw [HS.out]; rfl, HG2.out⟩
  · rw [if_pos hXY] at HS
    have hq1 : (X == Y) = false := by simpa using hXY
    have hq2 : (X != Y) = true := by simpa using hXY
    clear hXY
    go_enter Tryz.func91, Tryz.ntmps91
    go_wp2
    generalize (w.alloc (.cells #[.bool na, .string TA, .int .i64 ea] 68)).alloc (.cells #[.bool nb, .string TB, .int .i64 eb] 68) = W0 at *
    have HB0 := Lib.hid B0
    have HT0 := Lib.hid T0
    have c0 := T0.cells
    clear T0 B0
    go_region_held3 (fun u => u.cell? ⟨w.heap.size, 0, none⟩ = some (.bool na) ∧ u.cell? ⟨w.heap.size, 1, none⟩ = some (.string TA) ∧ u.cell? ⟨w.heap.size, 2, none⟩ = some (.int .i64 ea) ∧ u.cell? ⟨w.heap.size + 1, 0, none⟩ = some (.bool nb) ∧ u.cell? ⟨w.heap.size + 1, 1, none⟩ = some (.string TB) ∧ u.cell? ⟨w.heap.size + 1, 2, none⟩ = some (.int .i64 eb)) (first | exact c0 | (with_reducible exact c1) | (with_reducible exact c2) | go_keep) (first | (go_at_call 136; (with_reducible refine Calls.mono (cA _) ?_); rintro e v1 ⟨rfl, hb1⟩; have gg1 : Below w.heap.size w v1 := gcall HB0.out.drew hb1; have T1 := HT0.out.below ((Below.refl _ _).drew.trans hb1); have c1 := T1.cells) | (go_at_call 136; (with_reducible refine Calls.mono (cB _) ?_); rintro e v2 ⟨rfl, hb2⟩; have gg2 : Below w.heap.size w v2 := gcall gg1 hb2; have T2 := T1.below hb2; have c2 := T2.cells))
    have HG2 := Lib.hid gg2
    have HT2 := Lib.hid T2
    have d0 := T2.cells
    clear c0 c1 c2 T1 T2 gg1 gg2 hb1 hb2 HB0 HT0
    go_wp2
    go_region_held3 (fun u => u.cell? ⟨w.heap.size, 0, none⟩ = some (.bool na) ∧ u.cell? ⟨w.heap.size, 1, none⟩ = some (.string TA) ∧ u.cell? ⟨w.heap.size, 2, none⟩ = some (.int .i64 ea) ∧ u.cell? ⟨w.heap.size + 1, 0, none⟩ = some (.bool nb) ∧ u.cell? ⟨w.heap.size + 1, 1, none⟩ = some (.string TB) ∧ u.cell? ⟨w.heap.size + 1, 2, none⟩ = some (.int .i64 eb)) (first | exact d0 | (with_reducible exact d1) | (with_reducible exact d2) | go_keep) (first | (go_at_call 136; (with_reducible refine Calls.mono (cA _) ?_); rintro e v3 ⟨rfl, hb3⟩; have gg3 : Below w.heap.size w v3 := gcall HG2.out.drew hb3; have T3 := HT2.out.below ((Below.refl _ _).drew.trans hb3); have d1 := T3.cells) | (go_at_call 136; (with_reducible refine Calls.mono (cB _) ?_); rintro e v4 ⟨rfl, hb4⟩; have gg4 : Below w.heap.size w v4 := gcall gg3 hb4; have T4 := T3.below hb4; have d2 := T4.cells) | (go_at_call 137; (with_reducible refine Calls.mono (compare64 _ _ _) ?_); rintro e v5 ⟨rfl, rfl⟩))
    have HG4 := Lib.hid gg4
    clear d0 d1 d2 T3 T4 gg3 gg4 hb3 hb4 HG2 HT2
    go_wp2
    go_ret
    exact ⟨by rw [HS.out]; rfl, HG4.out⟩
theorem compareInt_any (x y : Int) (w : World) : Calls Tryz.prog 90 #[.int .i64 x, .int .i64 y] w fun e w' => e = .returned (.int .i64 (cmpI x y)) ∧ w = w' :=
  (Tryz.cmp_Compare_int x y w).mono fun _ _ ⟨h1, h2⟩ => ⟨h1, h2.symm⟩
theorem mul_range {x y : Int} (h1 : x = -1 ∨ x = 0 ∨ x = 1) (h2 : -1 ≤ y) (h3 : y ≤ 1) : -1 ≤ x * y ∧ x * y ≤ 1 := by
  rcases h1 with rfl | rfl | rfl <;> omega
set_option maxHeartbeats 2000000 in
theorem compare_any (a b : Num) (w : World) (ka : Canon a) (kb : Canon b) (la : tooLarge a = false) (lb : tooLarge b = false) :
    Calls Tryz.prog 53 #[numV a, numV b] w fun e w' => e = .returned (.int .i64 (cmpN a b)) ∧ Below w.heap.size w w' := by
  obtain ⟨TA, eA, hA⟩ := numV_eq a
  obtain ⟨TB, eB, hB⟩ := numV_eq b
  have cA := fun W => sign_any a W ka
  have cB := fun W => sign_any b W kb
  have cS := fun W => sizes_any a b W la lb
  rw [hA, hB] at cS ⊢
  rw [hA] at cA
  rw [hB] at cB
  have HS : Hid (cmpN a b = if signN a ≠ signN b then cmpI (signN a) (signN b) else signN a * sizesT a b) := Lib.hid (by
    unfold cmpN
    by_cases h : signN a = signN b
    · rw [if_neg (by simpa using h), if_neg (by simpa using h), sizesT_eq h]
    · rw [if_pos h, if_pos h])
  have hr := sizesT_range a b
  have hm := mul_range (signN_range a) hr.1 hr.2
  generalize sizesT a b = Z at *
  generalize signN a = X at *
  generalize signN b = Y at *
  generalize cmpN a b = R at *
  generalize a.neg = na at *
  generalize b.neg = nb at *
  generalize a.exp = ea at *
  generalize b.exp = eb at *
  clear hA hB eA eB ka kb la lb hr
  obtain ⟨T0, B0⟩ := Two.here w na TA ea nb TB eb
  by_cases hXY : X = Y
  · subst hXY
    rw [if_neg (by simp)] at HS
    have hq1 : (X == X) = true := by simp
    have hq2 : (X != X) = false := by simp
    have hw : IntKind.i64.wrap (X * Z) = X * Z := IntWalk.i64_in _ (by omega)
    go_enter Tryz.func53, Tryz.ntmps53
    go_wp2
    generalize (w.alloc (.cells #[.bool na, .string TA, .int .i64 ea] 68)).alloc (.cells #[.bool nb, .string TB, .int .i64 eb] 68) = W0 at *
    have HB0 := Lib.hid B0
    have HT0 := Lib.hid T0
    have c0 := T0.cells
    clear T0 B0
    go_region_held3 (fun u => u.cell? ⟨w.heap.size, 0, none⟩ = some (.bool na) ∧ u.cell? ⟨w.heap.size, 1, none⟩ = some (.string TA) ∧ u.cell? ⟨w.heap.size, 2, none⟩ = some (.int .i64 ea) ∧ u.cell? ⟨w.heap.size + 1, 0, none⟩ = some (.bool nb) ∧ u.cell? ⟨w.heap.size + 1, 1, none⟩ = some (.string TB) ∧ u.cell? ⟨w.heap.size + 1, 2, none⟩ = some (.int .i64 eb)) (first | exact c0 | (with_reducible exact cv1) | (with_reducible exact cv2) | go_keep) (first | (go_at_call 89; (with_reducible refine Calls.mono (cA _) ?_); rintro e v1 ⟨rfl, hbv1⟩; have ggv1 : Below w.heap.size w v1 := gcall HB0.out.drew hbv1; have Tv1 := HT0.out.below ((Below.refl _ _).drew.trans hbv1); have cv1 := Tv1.cells) | (go_at_call 89; (with_reducible refine Calls.mono (cB _) ?_); rintro e v2 ⟨rfl, hbv2⟩; have ggv2 : Below w.heap.size w v2 := gcall ggv1 hbv2; have Tv2 := Tv1.below hbv2; have cv2 := Tv2.cells))
    have HG2 := Lib.hid ggv2
    have HT2 := Lib.hid Tv2
    have d0 := Tv2.cells
    clear c0 cv1 cv2 Tv1 Tv2 ggv1 ggv2 hbv1 hbv2 HB0 HT0
    go_wp2
    go_region_held3 (fun u => u.cell? ⟨w.heap.size, 0, none⟩ = some (.bool na) ∧ u.cell? ⟨w.heap.size, 1, none⟩ = some (.string TA) ∧ u.cell? ⟨w.heap.size, 2, none⟩ = some (.int .i64 ea) ∧ u.cell? ⟨w.heap.size + 1, 0, none⟩ = some (.bool nb) ∧ u.cell? ⟨w.heap.size + 1, 1, none⟩ = some (.string TB) ∧ u.cell? ⟨w.heap.size + 1, 2, none⟩ = some (.int .i64 eb)) (first | exact d0 | (with_reducible exact cv3) | (with_reducible exact cv4) | go_keep) (first | (go_at_call 89; (with_reducible refine Calls.mono (cA _) ?_); rintro e v3 ⟨rfl, hbv3⟩; have ggv3 : Below w.heap.size w v3 := gcall HG2.out.drew hbv3; have Tv3 := HT2.out.below ((Below.refl _ _).drew.trans hbv3); have cv3 := Tv3.cells) | (go_at_call 91; (with_reducible refine Calls.mono (cS _) ?_); rintro e v4 ⟨rfl, hbv4⟩; have ggv4 : Below w.heap.size w v4 := gcall ggv3 hbv4; have Tv4 := Tv3.below hbv4; have cv4 := Tv4.cells))
    have HG4 := Lib.hid ggv4
    clear d0 cv3 cv4 Tv3 Tv4 ggv3 ggv4 hbv3 hbv4 HG2 HT2
    go_wp2
    go_ret
    exact ⟨by rw [HS.out]; rfl, HG4.out⟩
  · rw [if_pos hXY] at HS
    have hq1 : (X == Y) = false := by simpa using hXY
    have hq2 : (X != Y) = true := by simpa using hXY
    clear hXY hm
    go_enter Tryz.func53, Tryz.ntmps53
    go_wp2
    generalize (w.alloc (.cells #[.bool na, .string TA, .int .i64 ea] 68)).alloc (.cells #[.bool nb, .string TB, .int .i64 eb] 68) = W0 at *
    have HB0 := Lib.hid B0
    have HT0 := Lib.hid T0
    have c0 := T0.cells
    clear T0 B0
    go_region_held3 (fun u => u.cell? ⟨w.heap.size, 0, none⟩ = some (.bool na) ∧ u.cell? ⟨w.heap.size, 1, none⟩ = some (.string TA) ∧ u.cell? ⟨w.heap.size, 2, none⟩ = some (.int .i64 ea) ∧ u.cell? ⟨w.heap.size + 1, 0, none⟩ = some (.bool nb) ∧ u.cell? ⟨w.heap.size + 1, 1, none⟩ = some (.string TB) ∧ u.cell? ⟨w.heap.size + 1, 2, none⟩ = some (.int .i64 eb)) (first | exact c0 | (with_reducible exact cv1) | (with_reducible exact cv2) | go_keep) (first | (go_at_call 89; (with_reducible refine Calls.mono (cA _) ?_); rintro e v1 ⟨rfl, hbv1⟩; have ggv1 : Below w.heap.size w v1 := gcall HB0.out.drew hbv1; have Tv1 := HT0.out.below ((Below.refl _ _).drew.trans hbv1); have cv1 := Tv1.cells) | (go_at_call 89; (with_reducible refine Calls.mono (cB _) ?_); rintro e v2 ⟨rfl, hbv2⟩; have ggv2 : Below w.heap.size w v2 := gcall ggv1 hbv2; have Tv2 := Tv1.below hbv2; have cv2 := Tv2.cells))
    have HG2 := Lib.hid ggv2
    have HT2 := Lib.hid Tv2
    have d0 := Tv2.cells
    clear c0 cv1 cv2 Tv1 Tv2 ggv1 ggv2 hbv1 hbv2 HB0 HT0
    go_wp2
    go_region_held3 (fun u => u.cell? ⟨w.heap.size, 0, none⟩ = some (.bool na) ∧ u.cell? ⟨w.heap.size, 1, none⟩ = some (.string TA) ∧ u.cell? ⟨w.heap.size, 2, none⟩ = some (.int .i64 ea) ∧ u.cell? ⟨w.heap.size + 1, 0, none⟩ = some (.bool nb) ∧ u.cell? ⟨w.heap.size + 1, 1, none⟩ = some (.string TB) ∧ u.cell? ⟨w.heap.size + 1, 2, none⟩ = some (.int .i64 eb)) (first | exact d0 | (with_reducible exact cv3) | (with_reducible exact cv4) | go_keep) (first | (go_at_call 89; (with_reducible refine Calls.mono (cA _) ?_); rintro e v3 ⟨rfl, hbv3⟩; have ggv3 : Below w.heap.size w v3 := gcall HG2.out.drew hbv3; have Tv3 := HT2.out.below ((Below.refl _ _).drew.trans hbv3); have cv3 := Tv3.cells) | (go_at_call 89; (with_reducible refine Calls.mono (cB _) ?_); rintro e v4 ⟨rfl, hbv4⟩; have ggv4 : Below w.heap.size w v4 := gcall ggv3 hbv4; have Tv4 := Tv3.below hbv4; have cv4 := Tv4.cells) | (go_at_call 90; (with_reducible refine Calls.mono (compareInt_any _ _ _) ?_); rintro e v5 ⟨rfl, rfl⟩))
    have HG4 := Lib.hid ggv4
    clear d0 cv3 cv4 Tv3 Tv4 ggv3 ggv4 hbv3 hbv4 HG2 HT2
    go_wp2
    go_ret
    exact ⟨by rw [HS.out]; rfl, HG4.out⟩
end Go.Proofs.YtgcpgieojckheaaGreatDoor
