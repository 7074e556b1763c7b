/-
  RelexAnew: the walk.
-/
import Derived.Test.YtfedmhccbfhcbaaDoorXL
namespace Go.Proofs.YtfedmhccbfhcbaaDoor
open Go.RowKit Go.Shelf

theorem do_good {s x : List UInt8} {f t : Int} (h : doE s x f t = 0) : tokE s = 0 ∧ isSp f t s.length = true ∧ doX s x f t = edL s x f.toNat t.toNat ∧ tokE (doX s x f t) = 0 ∧ doL s x f t = tokL (doX s x f t) := by
  have h0 := h
  unfold doE at h
  split at h
  · rename_i hs
    have h1 := h
    unfold edE at h
    split at h
    · rename_i hsp
      have hx : doX s x f t = edL s x f.toNat t.toNat := by unfold doX edX; rw [if_pos hs, if_pos h1]
      refine ⟨hs, hsp, hx, by rw [hx]; exact h, ?_⟩
      unfold doL tokL
      rw [if_pos h0, hx, if_pos h]
    · cases h
  · rename_i hs; exact absurd h hs
theorem do_bad {s x : List UInt8} {f t : Int} (h : doE s x f t ≠ 0) : doX s x f t = [] ∧ doL s x f t = [] := by
  refine ⟨?_, by unfold doL; rw [if_neg h]⟩
  unfold doE at h
  unfold doX edX
  split
  · rename_i hs; rw [if_pos hs] at h; rw [if_neg h]
  · rfl
def LawEnd (w : World) (e : Ending) (w' : World) : Prop := e = .returned (.bool true) ∧ Below w.heap.size w w'
set_option maxRecDepth 100000 in
set_option maxHeartbeats 16000000 in
theorem anew_walk (s x : ByteArray) (f t : Int) (w : World) (hm : s.size ≤ maxLen) (hE : Env w) : Calls Tryd.prog 4 #[.string s, edV f t x] w (LawEnd w) := by
  unfold maxLen at hm
  have HE := Lib.hid hE
  have hb1 : Below w.heap.size w (w.alloc (.cells #[.int .i64 f, .int .i64 t, .string x] 25)) := galloc2 (Below.refl _ _) (Nat.le_refl _) _
  have hn1 := heap_alloc_new w (.cells #[.int .i64 f, .int .i64 t, .string x] 25)
  have hz1 : (w.alloc (.cells #[.int .i64 f, .int .i64 t, .string x] 25)).heap.size = w.heap.size + 1 := by simp
  generalize hw1 : w.alloc (.cells #[.int .i64 f, .int .i64 t, .string x] 25) = w1 at *
  have HB1 := Lib.hid hb1
  have HN1 := Lib.hid hn1
  have HZ1 := Lib.hid hz1
  have b2 : w1.cell? ⟨w.heap.size, 2, none⟩ = some (.string x) := by rw [cellH hn1]; rfl
  have haw := awake_any w1 (hE.below hb1 hE.size)
  clear hb1 hn1 hE hz1
  unfold edV
  by_cases h8 : 4000 < s.size
  · have h8' : decide ((4000 : Int) < (s.size : Int)) = true := by rw [decide_eq_true]; omega
    go_enter Tryd.func4, Tryd.ntmps4
    go_wp2_with fail
    refine haw.mono ?_
    rintro e w2 ⟨rfl, hb2⟩
    go_wp2_with fail
    go_ret
    exact ⟨rfl, HB1.out.trans (hb2.mono HB1.out.size)⟩
  · have h8' : decide ((4000 : Int) < (s.size : Int)) = false := by rw [decide_eq_false]; omega
    by_cases h9 : 4000 < x.size
    · have h9' : decide ((4000 : Int) < (x.size : Int)) = true := by rw [decide_eq_true]; omega
      go_enter Tryd.func4, Tryd.ntmps4
      go_wp2_with fail
      refine haw.mono ?_
      rintro e w2 ⟨rfl, hb2⟩
      go_wp2_with fail
      go_ret
      exact ⟨rfl, HB1.out.trans (hb2.mono HB1.out.size)⟩
    · have h9' : decide ((4000 : Int) < (x.size : Int)) = false := by rw [decide_eq_false]; omega
      go_enter Tryd.func4, Tryd.ntmps4
      go_wp2_with fail
      refine haw.mono ?_
      rintro e w2 ⟨rfl, hb2⟩
      have HB2 := Lib.hid (HB1.out.trans (hb2.mono HB1.out.size))
      have HN2 := Lib.hid ((hb2.block w.heap.size (by have := HZ1.out; omega)).trans HN1.out)
      have b0 : w2.cell? ⟨w.heap.size, 0, none⟩ = some (.int .i64 f) := by rw [cellH HN2.out]; rfl
      have b1 : w2.cell? ⟨w.heap.size, 1, none⟩ = some (.int .i64 t) := by rw [cellH HN2.out]; rfl
      have b2 : w2.cell? ⟨w.heap.size, 2, none⟩ = some (.string x) := by rw [cellH HN2.out]; rfl
      clear haw hb2 hw1
      have hzs : s.size ≤ 4000 := by omega
      have hzx : x.size ≤ 4000 := by omega
      clear h8 h9 h8' h9'
      have hre := relex_any s x f t w2 (by omega) (by omega) (HE.out.below HB2.out HE.out.size)
      have hdo := fun W hE => do_any s x f t W (by omega) (by omega) hE
      have hgood := do_good (s := s.data.toList) (x := x.data.toList) (f := f) (t := t)
      have hbad := do_bad (s := s.data.toList) (x := x.data.toList) (f := f) (t := t)
      have hdl := doL_len (s := s.data.toList) (x := x.data.toList) (f := f) (t := t)
      unfold RlxEnd edV at hre
      unfold DoEnd edV bl at hdo
      generalize ((kepA s.data.toList x.data.toList f t : Nat) : Int) = A at *
      generalize ((kepB s.data.toList x.data.toList f t : Nat) : Int) = B at *
      generalize doL s.data.toList x.data.toList f t = D at *
      generalize doE s.data.toList x.data.toList f t = EE at *
      generalize doX s.data.toList x.data.toList f t = XX at *
      have HGOOD := Lib.hid hgood
      have HDL := Lib.hid hdl
      clear hgood hdl
      by_cases hee : EE = 0
      · subst hee
        obtain ⟨hs0, hsp, hx0, hk0, hd0⟩ := HGOOD.out rfl
        unfold isSp at hsp
        simp only [Bool.and_eq_true, decide_eq_true_eq] at hsp
        obtain ⟨q1, q2, q3⟩ := hsp
        obtain ⟨fn, rfl⟩ : ∃ fn : Nat, f = fn := ⟨f.toNat, by omega⟩
        obtain ⟨tn, rfl⟩ : ∃ tn : Nat, t = tn := ⟨t.toNat, by omega⟩
        have hls : s.data.toList.length = s.size := (Lib.size_eq s).symm
        rw [hls] at q3
        have hXX : (⟨XX.toArray⟩ : ByteArray) = s.extract 0 fn ++ x ++ s.extract tn s.size := by
          apply Utf.ba_ext
          rw [Utf.data_append, Utf.data_append, Utf.extract_list, ext_list, List.drop_zero]
          show XX = _
          rw [hx0]
          unfold edL
          rw [List.append_assoc]; rfl
        rw [hXX] at hdo
        have hX : XX = (s.extract 0 fn ++ x ++ s.extract tn s.size).data.toList := by rw [← hXX]
        obtain ⟨T, hT⟩ : ∃ T : ByteArray, s.extract 0 fn ++ x ++ s.extract tn s.size = T := ⟨_, rfl⟩
        have hTz : T.size ≤ 1000000 := by
          have h1 : T.size = XX.length := by rw [← hT, Lib.size_eq, ← hX]
          rw [h1, hx0, edL_len (by omega) (by rw [hls]; omega), hls]
          have : x.data.toList.length = x.size := (Lib.size_eq x).symm
          rw [this]
          omega
        have htk := fun W hE => tokens_any T W hTz hE
        rw [hT] at hdo hX
        rw [hX] at hk0 hd0
        unfold TokEnd at htk
        rw [hk0, ← hd0] at htk
        have hf2 : (fn : Int) ≤ (s.size : Int) := by omega
        have HTT := Lib.hid hT
        clear hbad HGOOD hs0 hk0 hd0 hX hXX hx0 hls hT q1 hTz
        go_wp2_with fail
        refine hre.mono ?_
        rintro e w3 ⟨v, rfl, hO, hb3⟩
        obtain ⟨q, c, rfl⟩ := own_shape hO
        have HB3 := Lib.hid (HB2.out.trans (hb3.mono HB2.out.size))
        have HN3 := Lib.hid ((hb3.block w.heap.size (Array.getElem?_eq_some_iff.1 HN2.out).1).trans HN2.out)
        have HZ3 := Lib.hid hb3.size
        have hn4 := heap_alloc_new w3 (.cells #[.int .i64 0, .int .i64 0] 29)
        have hb4 : Below w3.heap.size w3 (w3.alloc (.cells #[.int .i64 0, .int .i64 0] 29)) := galloc2 (Below.refl _ _) (Nat.le_refl _) _
        generalize hw4 : w3.alloc (.cells #[.int .i64 0, .int .i64 0] 29) = w4 at *
        have HB4 := Lib.hid (HB3.out.trans (hb4.mono HB3.out.size))
        have HN4 := Lib.hid ((hb4.block w.heap.size (Array.getElem?_eq_some_iff.1 HN3.out).1).trans HN3.out)
        have HK4 := Lib.hid hn4
        have HO4 := Lib.hid (hO.below hb4)
        have z0 : w4.cell? ⟨w3.heap.size, 0, none⟩ = some (.int .i64 0) := by rw [cellH hn4]; rfl
        have z1 : w4.cell? ⟨w3.heap.size, 1, none⟩ = some (.int .i64 0) := by rw [cellH hn4]; rfl
        have zf : ∀ o, w4.frozen? ⟨w3.heap.size, o, none⟩ = false := fun o => Lib.frozen_of_heap hn4 o
        have c0 : w4.cell? ⟨w.heap.size, 0, none⟩ = some (.int .i64 fn) := by rw [cellH HN4.out]; rfl
        have c1 : w4.cell? ⟨w.heap.size, 1, none⟩ = some (.int .i64 tn) := by rw [cellH HN4.out]; rfl
        have c2 : w4.cell? ⟨w.heap.size, 2, none⟩ = some (.string x) := by rw [cellH HN4.out]; rfl
        have far1 : ∀ (W : World) (o1 o2 : Nat) (x : Value), (W.setCell ⟨w3.heap.size, o1, none⟩ x).cell? ⟨w.heap.size, o2, none⟩ = W.cell? ⟨w.heap.size, o2, none⟩ := fun W o1 o2 x => set_far W _ _ _ _ _ (by have := HZ3.out; have := HB2.out.size; have := (Array.getElem?_eq_some_iff.1 HN3.out).1; omega)
        have HN5 := Lib.hid ((box_far2 (x := .int .i64 A) (y := .int .i64 B) (show w3.heap.size ≠ w.heap.size by have := (Array.getElem?_eq_some_iff.1 HN3.out).1; omega) w4).trans HN4.out)
        have HK5 := Lib.hid (box_set2 HK4.out (.int .i64 A) (.int .i64 B))
        have HB5 := Lib.hid (below_set2 (x := .int .i64 A) (y := .int .i64 B) HB4.out (show w.heap.size ≤ w3.heap.size by exact HB3.out.size))
        have HB35 := Lib.hid (below_set2 (x := .int .i64 A) (y := .int .i64 B) hb4 (Nat.le_refl _))
        have HO3 := Lib.hid hO
        clear hre hO hb3 hn4 hb4 b0 b1 b2
        go_wp2_with fail
        clear far1 z0 z1 zf c0 c1 c2
        generalize ((w4.setCell ⟨w3.heap.size, 0, none⟩ (.int .i64 A)).setCell ⟨w3.heap.size, 1, none⟩ (.int .i64 B)) = w5 at *
        refine (hdo w5 (HE.out.below HB5.out HE.out.size)).mono ?_
        rintro e w6 ⟨rfl, hb6⟩
        have HB6 := Lib.hid (HB5.out.trans (hb6.mono HB5.out.size))
        have HO6 := Lib.hid ((HO3.out.below HB35.out).below hb6)
        have HN6 := Lib.hid ((hb6.block w.heap.size (Array.getElem?_eq_some_iff.1 HN5.out).1).trans HN5.out)
        clear hb6 hdo hw4
        go_wp2_with fail
        refine (htk w6 (HE.out.below HB6.out HE.out.size)).mono ?_
        rintro e w7 ⟨v7, rfl, hT7, hb7⟩
        have HB7 := Lib.hid (HB6.out.trans (hb7.mono HB6.out.size))
        have HO7 := Lib.hid (HO6.out.below hb7)
        have HN7 := Lib.hid ((hb7.block w.heap.size (Array.getElem?_eq_some_iff.1 HN6.out).1).trans HN6.out)
        have HT7 := Lib.hid hT7
        obtain ⟨q7, c7, rfl⟩ := owns_shape hT7
        have b0 : w7.cell? ⟨w.heap.size, 0, none⟩ = some (.int .i64 fn) := by rw [cellH HN7.out]; rfl
        have b1 : w7.cell? ⟨w.heap.size, 1, none⟩ = some (.int .i64 tn) := by rw [cellH HN7.out]; rfl
        have b2 : w7.cell? ⟨w.heap.size, 2, none⟩ = some (.string x) := by rw [cellH HN7.out]; rfl
        clear hb7 htk hT7
        have hsm : ∀ n, Calls Tryd.prog 13 #[.slice q D.length c, .slice q7 D.length c7] (w7.drewN n) fun e w' => e = .returned (.bool true) ∧ ∃ m, w' = (w7.drewN n).drewN m := by
          intro n
          have hl : D.length ≤ 10000000 := by have := HDL.out; omega
          have hb := drewN_below w7 n
          have r1 := HO7.out.row.below hb
          have r2 := HT7.out.row.below hb
          have h := same_row _ _ D D (w7.drewN n) r1 r2 hl hl
          have hS : sameB D D = true := decide_eq_true rfl
          rw [hS] at h
          exact h
        have hq3 : (tn : Int) ≤ (s.size : Int) := q3
        have h0f : (0 : Int) ≤ (fn : Int) := by omega
        have h0t : (0 : Int) ≤ (tn : Int) := by omega
        have hTT := HTT.out
        rw [← hTT]
        go_wp2_with fail
        go_quiet ((go_at_call 13; exact Calls.quiet_of (hsm _)))
        go_wp2_with fail
        go_ret
        exact ⟨rfl, HB7.out.trans ((drewN_below w7 nq).mono HB7.out.size)⟩
      · obtain ⟨rfl, rfl⟩ := hbad hee
        have hq : ((EE : Int) != 0) = true := by rw [bne_iff_ne]; exact hee
        have hqq : ((EE : Int) == EE) = true := by rw [beq_iff_eq]
        clear hbad hee HGOOD
        go_wp2_with fail
        refine hre.mono ?_
        rintro e w3 ⟨v, rfl, hO, hb3⟩
        obtain ⟨q, c, rfl⟩ := own_shape hO
        have HB3 := Lib.hid (HB2.out.trans (hb3.mono HB2.out.size))
        have HN3 := Lib.hid ((hb3.block w.heap.size (Array.getElem?_eq_some_iff.1 HN2.out).1).trans HN2.out)
        have HZ3 := Lib.hid hb3.size
        have hn4 := heap_alloc_new w3 (.cells #[.int .i64 0, .int .i64 0] 29)
        have hb4 : Below w3.heap.size w3 (w3.alloc (.cells #[.int .i64 0, .int .i64 0] 29)) := galloc2 (Below.refl _ _) (Nat.le_refl _) _
        generalize hw4 : w3.alloc (.cells #[.int .i64 0, .int .i64 0] 29) = w4 at *
        have HB4 := Lib.hid (HB3.out.trans (hb4.mono HB3.out.size))
        have HN4 := Lib.hid ((hb4.block w.heap.size (Array.getElem?_eq_some_iff.1 HN3.out).1).trans HN3.out)
        have HK4 := Lib.hid hn4
        have HO4 := Lib.hid (hO.below hb4)
        have z0 : w4.cell? ⟨w3.heap.size, 0, none⟩ = some (.int .i64 0) := by rw [cellH hn4]; rfl
        have z1 : w4.cell? ⟨w3.heap.size, 1, none⟩ = some (.int .i64 0) := by rw [cellH hn4]; rfl
        have zf : ∀ o, w4.frozen? ⟨w3.heap.size, o, none⟩ = false := fun o => Lib.frozen_of_heap hn4 o
        have c0 : w4.cell? ⟨w.heap.size, 0, none⟩ = some (.int .i64 f) := by rw [cellH HN4.out]; rfl
        have c1 : w4.cell? ⟨w.heap.size, 1, none⟩ = some (.int .i64 t) := by rw [cellH HN4.out]; rfl
        have c2 : w4.cell? ⟨w.heap.size, 2, none⟩ = some (.string x) := by rw [cellH HN4.out]; rfl
        have far1 : ∀ (W : World) (o1 o2 : Nat) (x : Value), (W.setCell ⟨w3.heap.size, o1, none⟩ x).cell? ⟨w.heap.size, o2, none⟩ = W.cell? ⟨w.heap.size, o2, none⟩ := fun W o1 o2 x => set_far W _ _ _ _ _ (by have := HZ3.out; have := HB2.out.size; have := (Array.getElem?_eq_some_iff.1 HN3.out).1; omega)
        have HN5 := Lib.hid ((box_far2 (x := .int .i64 A) (y := .int .i64 B) (show w3.heap.size ≠ w.heap.size by have := (Array.getElem?_eq_some_iff.1 HN3.out).1; omega) w4).trans HN4.out)
        have HK5 := Lib.hid (box_set2 HK4.out (.int .i64 A) (.int .i64 B))
        have HB5 := Lib.hid (below_set2 (x := .int .i64 A) (y := .int .i64 B) HB4.out (show w.heap.size ≤ w3.heap.size by exact HB3.out.size))
        have HB35 := Lib.hid (below_set2 (x := .int .i64 A) (y := .int .i64 B) hb4 (Nat.le_refl _))
        have HO3 := Lib.hid hO
        clear hre hO hb3 hn4 hb4 b0 b1 b2
        go_wp2_with fail
        clear far1 z0 z1 zf c0 c1 c2
        generalize ((w4.setCell ⟨w3.heap.size, 0, none⟩ (.int .i64 A)).setCell ⟨w3.heap.size, 1, none⟩ (.int .i64 B)) = w5 at *
        refine (hdo w5 (HE.out.below HB5.out HE.out.size)).mono ?_
        rintro e w6 ⟨rfl, hb6⟩
        have HB6 := Lib.hid (HB5.out.trans (hb6.mono HB5.out.size))
        clear hb6 hdo hw4
        go_wp2_with fail
        go_ret
        exact ⟨rfl, HB6.out⟩
end Go.Proofs.YtfedmhccbfhcbaaDoor
