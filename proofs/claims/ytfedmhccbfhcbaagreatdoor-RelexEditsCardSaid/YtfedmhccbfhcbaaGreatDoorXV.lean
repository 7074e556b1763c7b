/-
  The document's Relex.
-/
import Derived.Test.YtfedmhccbfhcbaaGreatDoorXU
import Derived.Test.YtfedmhccbfhcbaaGreatDoorXN
namespace Go.Proofs.YtfedmhccbfhcbaaGreatDoor
open Go.RowKit Go.Shelf

def RRlxEnd (s x : List UInt8) (f t : Int) (w : World) (e : Ending) (w' : World) : Prop := ∃ v, e = .returned (.tuple #[v, .int .i64 (kepA s x f t), .int .i64 (kepB s x f t), .int .i64 (doE s x f t)]) ∧ RowOwn w.heap.size w' v (doL s x f t) ∧ Below w.heap.size w w'
set_option maxRecDepth 100000 in
set_option maxHeartbeats 16000000 in
theorem rrelex_any (s x : ByteArray) (f t : Int) (w : World) (hs : s.size ≤ 900000) (hx : x.size ≤ 100000) (hE : Env w) : Calls Tryz.prog 9 #[.string s, edV f t x] w (RRlxEnd s.data.toList x.data.toList f t w) := by
  have hb1 : Below w.heap.size w (w.alloc (.cells #[.int .i64 f, .int .i64 t, .string x] 25)) := galloc2 (Below.refl _ _) (Nat.le_refl _) _
  have hn1 := heap_alloc_new w (.cells #[.int .i64 f, .int .i64 t, .string x] 25)
  generalize hw1 : w.alloc (.cells #[.int .i64 f, .int .i64 t, .string x] 25) = w1 at *
  have HB1 := Lib.hid hb1
  have b0 : w1.cell? ⟨w.heap.size, 0, none⟩ = some (.int .i64 f) := by rw [cellH hn1]; rfl
  have b1 : w1.cell? ⟨w.heap.size, 1, none⟩ = some (.int .i64 t) := by rw [cellH hn1]; rfl
  have b2 : w1.cell? ⟨w.heap.size, 2, none⟩ = some (.string x) := by rw [cellH hn1]; rfl
  have HE := Lib.hid hE
  have hdo := rdo_any s x f t w1 hs hx (HE.out.below hb1 HE.out.size)
  unfold DoEnd edV bl at hdo
  unfold edV
  by_cases hee : doE s.data.toList x.data.toList f t = 0
  · have hs0 := (do_good hee).1
    have hk0 := (do_good hee).2.2.2.1
    have hd0 := (do_good hee).2.2.2.2
    have hdl := doL_len (s := s.data.toList) (x := x.data.toList) (f := f) (t := t)
    have hka : kepA s.data.toList x.data.toList f t = aheadN (tokL s.data.toList) (doL s.data.toList x.data.toList f t) := if_pos hee
    have hkb : kepB s.data.toList x.data.toList f t = behN (tokL s.data.toList) (doL s.data.toList x.data.toList f t) := if_pos hee
    have hel := tokL_len s.data.toList
    rw [← Lib.size_eq] at hel
    have HEND : Hid (∀ v w', RowOwn w.heap.size w' v (doL s.data.toList x.data.toList f t) → Below w.heap.size w w' → RRlxEnd s.data.toList x.data.toList f t w (.returned (.tuple #[v, .int .i64 (aheadN (tokL s.data.toList) (doL s.data.toList x.data.toList f t)), .int .i64 (behN (tokL s.data.toList) (doL s.data.toList x.data.toList f t)), .int .i64 0])) w') := Lib.hid (fun v w' h1 h2 => ⟨v, by rw [hka, hkb, hee], h1, h2⟩)
    have hz65 : (doX s.data.toList x.data.toList f t).length ≤ 65536 := (tokE_zero hk0).1
    obtain ⟨T, hT⟩ : ∃ T : ByteArray, doX s.data.toList x.data.toList f t = T.data.toList := ⟨⟨(doX s.data.toList x.data.toList f t).toArray⟩, rfl⟩
    rw [hee, hT] at hdo
    rw [show (⟨T.data.toList.toArray⟩ : ByteArray) = T from (ba_of T rfl).symm] at hdo
    rw [hT] at hk0 hd0 hz65
    rw [← Lib.size_eq] at hz65
    have htk1 := fun W hE => rtokens_any s W (by omega) hE
    have htk2 := fun W hE => rtokens_any T W (by omega) hE
    unfold TokEnd at htk1 htk2
    rw [hs0] at htk1
    rw [hk0, ← hd0] at htk2
    generalize doL s.data.toList x.data.toList f t = D at *
    generalize tokL s.data.toList = E at *
    have HEL : Hid (E.length ≤ 900000) := Lib.hid (by omega)
    have HDL := Lib.hid hdl
    obtain ⟨A, hA⟩ : ∃ A, aheadN E D = A := ⟨_, rfl⟩
    have HA := Lib.hid hA
    have HAle := Lib.hid (aheadN_le E D)
    have HBE := Lib.hid (behN_ref E D)
    rw [hA] at HAle HBE HEND
    clear hs0 hk0 hd0 hka hkb hel hz65 hT hee hb1 hn1 hE hdl hA
    go_enter Tryz.func9, Tryz.ntmps9
    go_wp2_with fail
    refine hdo.mono ?_
    rintro e w2 ⟨rfl, hb2⟩
    have HB2 := Lib.hid (HB1.out.trans (hb2.mono HB1.out.size))
    clear hb2 hdo hw1 b0 b1 b2
    go_wp2_with fail
    refine (htk1 w2 (HE.out.below HB2.out HE.out.size)).mono ?_
    rintro e w3 ⟨v3, rfl, hT3, hb3⟩
    obtain ⟨q3, c3, rfl⟩ := owns_shape hT3
    have HB3 := Lib.hid (HB2.out.trans (hb3.mono HB2.out.size))
    have HT3 := Lib.hid hT3
    clear hb3 htk1 hT3
    go_wp2_with fail
    refine (htk2 w3 (HE.out.below HB3.out HE.out.size)).mono ?_
    rintro e w4 ⟨v4, rfl, hT4, hb4⟩
    obtain ⟨q4, c4, rfl⟩ := owns_shape hT4
    have HB4 := Lib.hid (HB3.out.trans (hb4.mono HB3.out.size))
    have HE4 := Lib.hid (HT3.out.below hb4).row
    have HD4 := Lib.hid hT4.row
    have HO4 : Hid (RowOwn w.heap.size w4 (.slice q4 D.length c4) D) := Lib.hid (.inr (owns_base hT4 HB3.out.size))
    have hal := alike_any _ _ E D w4 HE4.out HD4.out (by have := HEL.out; omega) (by have := HDL.out; omega)
    rw [HA.out] at hal
    clear hb4 htk2 hT4
    go_wp2_with fail
    refine hal.mono ?_
    rintro e w5 ⟨rfl, hm5⟩
    have hb5 := drew_below hm5
    have HB5 := Lib.hid (HB4.out.trans (hb5.mono HB4.out.size))
    have HE5 := Lib.hid (HE4.out.below hb5)
    have HD5 := Lib.hid (HD4.out.below hb5)
    have HO5 := Lib.hid (HO4.out.below hb5)
    have hcE : E.length ≤ c3 := by obtain ⟨_, _, e1, e2, _⟩ := HE4.out; cases e1; exact e2
    have hcD : D.length ≤ c4 := by obtain ⟨_, _, e1, e2, _⟩ := HD4.out; cases e1; exact e2
    have s3 := run_drop q3 E.length c3 A HAle.out.1
    have s4 := run_drop q4 D.length c4 A HAle.out.2
    have RE := HE5.out.drop A HAle.out.1
    have RD := HD5.out.drop A HAle.out.2
    obtain ⟨x3, hx3⟩ : ∃ x3, (if c3 = A then q3 else q3.map (·.add (A * 2))) = x3 := ⟨_, rfl⟩
    obtain ⟨x4, hx4⟩ : ∃ x4, (if c4 = A then q4 else q4.map (·.add (A * 2))) = x4 := ⟨_, rfl⟩
    rw [hx3] at s3 RE
    rw [hx4] at s4 RD
    generalize c3 - A = z3 at *
    generalize c4 - A = z4 at *
    have hle : (E.drop A).length ≤ 1000000 := by rw [List.length_drop]; have := HEL.out; omega
    have hld : (D.drop A).length ≤ 1000000 := by rw [List.length_drop]; have := HDL.out; omega
    generalize E.drop A = E9 at *
    generalize D.drop A = D9 at *
    generalize E.length - A = y3 at *
    generalize D.length - A = y4 at *
    have ht1 : ∀ W, Below w5.heap.size w5 W → Calls Tryz.prog 17 #[.slice x3 y3 z3] W (TurnEnd E9 W) := fun W hb => turned_any _ E9 W (RE.below hb) hle
    have ht2 : ∀ W, Below w5.heap.size w5 W → Calls Tryz.prog 17 #[.slice x4 y4 z4] W (TurnEnd D9 W) := fun W hb => turned_any _ D9 W (RD.below hb) hld
    unfold TurnEnd at ht1 ht2
    have hfl : E9.reverse.length ≤ 10000000 := by rw [List.length_reverse]; omega
    have hgl : D9.reverse.length ≤ 10000000 := by rw [List.length_reverse]; omega
    obtain ⟨Q, hQ⟩ : ∃ Q, behN E D = Q := ⟨_, rfl⟩
    rw [hQ] at HBE HEND
    generalize E9.reverse = F9 at *
    generalize D9.reverse = G9 at *
    have hal2 := fun (W : World) (v6 v7 : Value) (h6 : TokRow W v6 F9) (h7 : TokRow W v7 G9) => alike_any v6 v7 F9 G9 W h6 h7 hfl hgl
    rw [HBE.out] at hal2
    have ht1d : Calls Tryz.prog 17 #[.slice x3 y3 z3] w5.drew fun e w' => ∃ q c, e = .returned (.slice q F9.length c) ∧ Hid (TokRow w' (.slice q F9.length c) F9) ∧ Hid (Below w5.heap.size w5 w') := by
      refine (ht1 w5.drew (Below.refl _ _).drew).mono ?_
      rintro e w6 ⟨v6, rfl, hT6, hb6⟩
      obtain ⟨q6, c6, rfl⟩ := owns_shape hT6
      exact ⟨q6, c6, rfl, Lib.hid hT6.row, Lib.hid ((Below.refl w5.heap.size w5).drew.trans hb6)⟩
    have ht2d : ∀ W, Hid (Below w5.heap.size w5 W) → Calls Tryz.prog 17 #[.slice x4 y4 z4] W fun e w' => ∃ q c, e = .returned (.slice q G9.length c) ∧ Hid (TokRow w' (.slice q G9.length c) G9) ∧ Hid (Below W.heap.size W w') ∧ Hid (Below w5.heap.size w5 w') := by
      intro W hW
      refine (ht2 W hW.out).mono ?_
      rintro e w6 ⟨v6, rfl, hT6, hb6⟩
      obtain ⟨q6, c6, rfl⟩ := owns_shape hT6
      exact ⟨q6, c6, rfl, Lib.hid hT6.row, Lib.hid hb6, Lib.hid (hW.out.trans (hb6.mono hW.out.size))⟩
    have hal3 : ∀ (W0 W : World) q6 c6 q7 c7, Hid (TokRow W0 (.slice q6 F9.length c6) F9) → Hid (Below W0.heap.size W0 W) → Hid (Below w5.heap.size w5 W) → Hid (TokRow W (.slice q7 G9.length c7) G9) → Calls Tryz.prog 16 #[.slice q6 F9.length c6, .slice q7 G9.length c7] W fun e w' => e = .returned (.int .i64 Q) ∧ Hid (Below w5.heap.size w5 w') := by
      intro W0 W q6 c6 q7 c7 h1 h2 h3 h4
      refine (hal2 W _ _ (h1.out.below h2.out) h4.out).mono ?_
      rintro e w8 ⟨rfl, hm8⟩
      exact ⟨rfl, Lib.hid (h3.out.trans ((drew_below hm8).mono h3.out.size))⟩
    clear hal hm5 hb5 hx3 hx4 RE RD hcE hcD hQ hle hld hfl hgl ht1 ht2 hal2
    go_wp2_with fail
    go_region_with (first
      | (go_at_call 17; (with_reducible refine Calls.mono ht1d ?_); rintro e w6 ⟨q6, c6, rfl, HT6, HB6⟩)
      | (go_at_call 17; (with_reducible refine Calls.mono (ht2d _ HB6) ?_); rintro e w7 ⟨q7, c7, rfl, HT7, HB67, HB7⟩)
      | (go_at_call 16; (with_reducible refine Calls.mono (hal3 _ _ _ _ _ _ HT6 HB67 HB7 HT7) ?_); rintro e w8 ⟨rfl, HB8⟩))
    all_goals (go_wp2_with fail)
    all_goals (refine bodyPost_ret (v := .tuple #[.slice q4 D.length c4, .int .i64 A, .int .i64 Q, .int .i64 0]) (by simp [results, Tryz.results9, go_sem]) rfl (HEND.out _ _ (HO5.out.below HB8.out) (HB5.out.trans (HB8.out.mono HB5.out.size))))
  · have q : ((doE s.data.toList x.data.toList f t : Int) != 0) = true := by rw [bne_iff_ne]; exact hee
    obtain ⟨hx0, hl0⟩ := do_bad hee
    have hka : kepA s.data.toList x.data.toList f t = 0 := if_neg hee
    have hkb : kepB s.data.toList x.data.toList f t = 0 := if_neg hee
    have HEND : Hid (∀ w', Below w.heap.size w w' → RRlxEnd s.data.toList x.data.toList f t w (.returned (.tuple #[.slice none 0 0, .int .i64 0, .int .i64 0, .int .i64 (doE s.data.toList x.data.toList f t)])) w') := Lib.hid (fun w' h2 => ⟨.slice none 0 0, by rw [hka, hkb]; rfl, by rw [hl0]; exact .inl ⟨rfl, none, rfl⟩, h2⟩)
    generalize (⟨(doX s.data.toList x.data.toList f t).toArray⟩ : ByteArray) = T at *
    generalize doE s.data.toList x.data.toList f t = EE at *
    clear hx0 hl0 hka hkb hee hb1 hn1 hE
    go_enter Tryz.func9, Tryz.ntmps9
    go_wp2_with fail
    refine hdo.mono ?_
    rintro e w2 ⟨rfl, hb2⟩
    have HB2 := Lib.hid (HB1.out.trans (hb2.mono HB1.out.size))
    go_wp2_with fail
    refine bodyPost_ret (v := .tuple #[.slice none 0 0, .int .i64 0, .int .i64 0, .int .i64 EE]) (by simp [results, Tryz.results9, go_sem]) rfl (HEND.out _ HB2.out)
end Go.Proofs.YtfedmhccbfhcbaaGreatDoor
