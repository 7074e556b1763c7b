/-
  RelexKeeps: the walk.
-/
import Derived.Test.YtfedmhccbfhcbaaDoorXN
namespace Go.Proofs.YtfedmhccbfhcbaaDoor
open Go.RowKit Go.Shelf

theorem take_same {a b : List Tok} {n : Nat} (h : n ≤ aheadN a b) : a.take n = b.take n := by
  apply List.ext_getElem?
  intro i
  by_cases hi : i < n
  · rw [List.getElem?_take_of_lt hi, List.getElem?_take_of_lt hi]; exact aheadN_at a b i (by omega)
  · rw [List.getElem?_eq_none (by rw [List.length_take]; omega), List.getElem?_eq_none (by rw [List.length_take]; omega)]
theorem drop_same {a b : List Tok} {n : Nat} (h : n ≤ aheadN a.reverse b.reverse) : a.drop (a.length - n) = b.drop (b.length - n) := by
  have h1 := take_same h
  rw [List.take_reverse, List.take_reverse] at h1
  exact List.reverse_inj.1 h1
theorem keeps_fact {s x : List UInt8} {f t : Int} (h : doE s x f t = 0) : keepN f.toNat (tokL s) ≤ aheadN (tokL s) (doL s x f t) := by
  obtain ⟨hs0, hsp, hx0, hk0, hd0⟩ := do_good h
  unfold isSp at hsp
  simp only [Bool.and_eq_true, decide_eq_true_eq] at hsp
  have hv := (tokE_zero hs0).2
  have he := (edit_toks s x f.toNat t.toNat hv (by omega) (by omega)).1
  have hk := keepN_le (toks s) f.toNat
  rw [hd0, tokL_good hk0, hx0, tokL_good hs0, he]
  apply aheadN_ge
  · exact hk
  · rw [List.length_append, List.length_take]; omega
  · intro i hi
    rw [List.getElem?_append_left (by rw [List.length_take]; omega), List.getElem?_take_of_lt hi]
theorem behN_le (a b : List Tok) : aheadN a b + behN a b ≤ a.length ∧ aheadN a b + behN a b ≤ b.length ∧ behN a b ≤ aheadN a.reverse b.reverse := by
  have := aheadN_le a b
  unfold behN; omega
set_option maxRecDepth 100000 in
set_option maxHeartbeats 16000000 in
theorem keeps_walk (s x : ByteArray) (f t : Int) (w : World) (hm : s.size ≤ maxLen) (hE : Env w) : Calls Tryd.prog 5 #[.string s, edV f t x] w (LawEnd w) := by
  unfold maxLen at hm
  have HE := Lib.hid hE
  have hb1 : Below w.heap.size w (w.alloc (.cells #[.int .i64 f, .int .i64 t, .string x] 25)) := galloc2 (Below.refl _ _) (Nat.le_refl _) _
  have hn1 := heap_alloc_new w (.cells #[.int .i64 f, .int .i64 t, .string x] 25)
  have hz1 : (w.alloc (.cells #[.int .i64 f, .int .i64 t, .string x] 25)).heap.size = w.heap.size + 1 := by simp
  generalize hw1 : w.alloc (.cells #[.int .i64 f, .int .i64 t, .string x] 25) = w1 at *
  have HB1 := Lib.hid hb1
  have HN1 := Lib.hid hn1
  have HZ1 := Lib.hid hz1
  have b2 : w1.cell? ⟨w.heap.size, 2, none⟩ = some (.string x) := by rw [cellH hn1]; rfl
  have haw := awake_any w1 (hE.below hb1 hE.size)
  clear hb1 hn1 hE hz1
  unfold edV
  by_cases h8 : 3000 < s.size
  · have h8' : decide ((3000 : Int) < (s.size : Int)) = true := by rw [decide_eq_true]; omega
    go_enter Tryd.func5, Tryd.ntmps5
    go_wp2_with fail
    refine haw.mono ?_
    rintro e w2 ⟨rfl, hb2⟩
    go_wp2_with fail
    go_ret
    exact ⟨rfl, HB1.out.trans (hb2.mono HB1.out.size)⟩
  · have h8' : decide ((3000 : Int) < (s.size : Int)) = false := by rw [decide_eq_false]; omega
    by_cases h9 : 3000 < x.size
    · have h9' : decide ((3000 : Int) < (x.size : Int)) = true := by rw [decide_eq_true]; omega
      go_enter Tryd.func5, Tryd.ntmps5
      go_wp2_with fail
      refine haw.mono ?_
      rintro e w2 ⟨rfl, hb2⟩
      go_wp2_with fail
      go_ret
      exact ⟨rfl, HB1.out.trans (hb2.mono HB1.out.size)⟩
    · have h9' : decide ((3000 : Int) < (x.size : Int)) = false := by rw [decide_eq_false]; omega
      go_enter Tryd.func5, Tryd.ntmps5
      go_wp2_with fail
      refine haw.mono ?_
      rintro e w2 ⟨rfl, hb2⟩
      have HB2 := Lib.hid (HB1.out.trans (hb2.mono HB1.out.size))
      have HN2 := Lib.hid ((hb2.block w.heap.size (by have := HZ1.out; omega)).trans HN1.out)
      have b0 : w2.cell? ⟨w.heap.size, 0, none⟩ = some (.int .i64 f) := by rw [cellH HN2.out]; rfl
      have b1 : w2.cell? ⟨w.heap.size, 1, none⟩ = some (.int .i64 t) := by rw [cellH HN2.out]; rfl
      have b2 : w2.cell? ⟨w.heap.size, 2, none⟩ = some (.string x) := by rw [cellH HN2.out]; rfl
      clear haw hb2 hw1
      have hzs : s.size ≤ 3000 := by omega
      have hzx : x.size ≤ 3000 := by omega
      clear h8 h9 h8' h9'
      have hre := relex_any s x f t w2 (by omega) (by omega) (HE.out.below HB2.out HE.out.size)
      have hgood := do_good (s := s.data.toList) (x := x.data.toList) (f := f) (t := t)
      have hfact := keeps_fact (s := s.data.toList) (x := x.data.toList) (f := f) (t := t)
      have hdl := doL_len (s := s.data.toList) (x := x.data.toList) (f := f) (t := t)
      have hel := tokL_len s.data.toList
      rw [← Lib.size_eq] at hel
      unfold RlxEnd edV at hre
      have hka : kepA s.data.toList x.data.toList f t = if doE s.data.toList x.data.toList f t = 0 then aheadN (tokL s.data.toList) (doL s.data.toList x.data.toList f t) else 0 := rfl
      have hkb : kepB s.data.toList x.data.toList f t = if doE s.data.toList x.data.toList f t = 0 then behN (tokL s.data.toList) (doL s.data.toList x.data.toList f t) else 0 := rfl
      have htk := fun W hE => tokens_any s W (by omega) hE
      unfold TokEnd at htk
      generalize kepA s.data.toList x.data.toList f t = A at *
      generalize kepB s.data.toList x.data.toList f t = B at *
      generalize doL s.data.toList x.data.toList f t = D at *
      generalize doE s.data.toList x.data.toList f t = EE at *
      generalize doX s.data.toList x.data.toList f t = XX at *
      have hflat : tokE s.data.toList = 0 → flatN (tokL s.data.toList) = s.size := by
        intro h; rw [tokL_good h, flatN_toks, Lib.size_eq]
      generalize tokL s.data.toList = E at *
      have HGOOD := Lib.hid hgood
      have HFACT := Lib.hid hfact
      have HDL := Lib.hid hdl
      have HEL : Hid (E.length ≤ 10000) := Lib.hid (by omega)
      clear hgood hdl hfact hel
      by_cases hee : EE = 0
      · subst hee
        rw [if_pos rfl] at hka hkb
        have hs0 := (HGOOD.out rfl).1
        have hsp := (HGOOD.out rfl).2.1
        unfold isSp at hsp
        simp only [Bool.and_eq_true, decide_eq_true_eq] at hsp
        obtain ⟨qq1, qq2, qq3⟩ := hsp
        obtain ⟨fn, rfl⟩ : ∃ fn : Nat, f = fn := ⟨f.toNat, by omega⟩
        have hfz : fn ≤ s.size := by rw [Lib.size_eq]; omega
        have H5 : Hid (keepN fn E ≤ A) := Lib.hid (by rw [hka]; exact HFACT.out rfl)
        have HFL : Hid (flatN E ≤ 3000) := Lib.hid (by rw [hflat hs0]; exact hzs)
        have HAB : Hid (A + B ≤ E.length ∧ A + B ≤ D.length) := Lib.hid (by rw [hka, hkb]; exact ⟨(behN_le E D).1, (behN_le E D).2.1⟩)
        have HTA : Hid (E.take A = D.take A) := Lib.hid (take_same (by rw [hka]; exact Nat.le_refl _))
        have HTB : Hid (E.drop (E.length - B) = D.drop (D.length - B)) := Lib.hid (drop_same (by rw [hkb]; exact (behN_le E D).2.2))
        obtain ⟨KN, hKN⟩ : ∃ KN, keepN fn E = KN := ⟨_, rfl⟩
        have HKS := Lib.hid (keepN_step E fn)
        have HKL := Lib.hid (keepN_le E fn)
        rw [hKN] at HKS HKL H5
        have HKA := H5
        rw [hs0] at htk
        clear HGOOD HFACT hs0 hka hkb hflat hKN qq1 qq2 qq3 H5
        go_wp2_with fail
        refine hre.mono ?_
        rintro e w3 ⟨v, rfl, hO, hb3⟩
        obtain ⟨q, c, rfl⟩ := own_shape hO
        have HB3 := Lib.hid (HB2.out.trans (hb3.mono HB2.out.size))
        have HN3 := Lib.hid ((hb3.block w.heap.size (Array.getElem?_eq_some_iff.1 HN2.out).1).trans HN2.out)
        have HZ3 := Lib.hid hb3.size
        have hn4 := heap_alloc_new w3 (.cells #[.int .i64 0, .int .i64 0] 29)
        have hb4 : Below w3.heap.size w3 (w3.alloc (.cells #[.int .i64 0, .int .i64 0] 29)) := galloc2 (Below.refl _ _) (Nat.le_refl _) _
        generalize hw4 : w3.alloc (.cells #[.int .i64 0, .int .i64 0] 29) = w4 at *
        have HB4 := Lib.hid (HB3.out.trans (hb4.mono HB3.out.size))
        have HN4 := Lib.hid ((hb4.block w.heap.size (Array.getElem?_eq_some_iff.1 HN3.out).1).trans HN3.out)
        have HK4 := Lib.hid hn4
        have HO4 := Lib.hid (hO.below hb4)
        have z0 : w4.cell? ⟨w3.heap.size, 0, none⟩ = some (.int .i64 0) := by rw [cellH hn4]; rfl
        have z1 : w4.cell? ⟨w3.heap.size, 1, none⟩ = some (.int .i64 0) := by rw [cellH hn4]; rfl
        have zf : ∀ o, w4.frozen? ⟨w3.heap.size, o, none⟩ = false := fun o => Lib.frozen_of_heap hn4 o
        have c0 : w4.cell? ⟨w.heap.size, 0, none⟩ = some (.int .i64 fn) := by rw [cellH HN4.out]; rfl
        have c1 : w4.cell? ⟨w.heap.size, 1, none⟩ = some (.int .i64 t) := by rw [cellH HN4.out]; rfl
        have c2 : w4.cell? ⟨w.heap.size, 2, none⟩ = some (.string x) := by rw [cellH HN4.out]; rfl
        have far1 : ∀ (W : World) (o1 o2 : Nat) (x : Value), (W.setCell ⟨w3.heap.size, o1, none⟩ x).cell? ⟨w.heap.size, o2, none⟩ = W.cell? ⟨w.heap.size, o2, none⟩ := fun W o1 o2 x => set_far W _ _ _ _ _ (by have := HZ3.out; have := HB2.out.size; have := (Array.getElem?_eq_some_iff.1 HN3.out).1; omega)
        have HN5 := Lib.hid ((box_far2 (x := .int .i64 A) (y := .int .i64 B) (show w3.heap.size ≠ w.heap.size by have := (Array.getElem?_eq_some_iff.1 HN3.out).1; omega) w4).trans HN4.out)
        have HK5 := Lib.hid (box_set2 HK4.out (.int .i64 A) (.int .i64 B))
        have HB5 := Lib.hid (below_set2 (x := .int .i64 A) (y := .int .i64 B) HB4.out (show w.heap.size ≤ w3.heap.size by exact HB3.out.size))
        have HB35 := Lib.hid (below_set2 (x := .int .i64 A) (y := .int .i64 B) hb4 (Nat.le_refl _))
        have HO3 := Lib.hid hO
        clear hre hO hb3 hn4 hb4 b0 b1 b2
        go_wp2_with fail
        clear far1 z0 z1 zf c0 c1 c2
        generalize ((w4.setCell ⟨w3.heap.size, 0, none⟩ (.int .i64 A)).setCell ⟨w3.heap.size, 1, none⟩ (.int .i64 B)) = w5 at *
        refine (htk w5 (HE.out.below HB5.out HE.out.size)).mono ?_
        rintro e w6 ⟨v6, rfl, hT6, hb6⟩
        obtain ⟨q6, c6, rfl⟩ := owns_shape hT6
        have HT6 := Lib.hid hT6
        have HB6 := Lib.hid (HB5.out.trans (hb6.mono HB5.out.size))
        have HO6 := Lib.hid ((HO3.out.below HB35.out).below hb6)
        have HN6 := Lib.hid ((hb6.block w.heap.size (Array.getElem?_eq_some_iff.1 HN5.out).1).trans HN5.out)
        have HK6 := Lib.hid ((hb6.block w3.heap.size (Array.getElem?_eq_some_iff.1 HK5.out).1).trans HK5.out)
        clear hb6 htk hw4 hT6
        go_wp2_with fail
        go_loopw [10, 11] (fun at_ n wr => ∃ k : Nat, at_ = .int .i64 (flatN (E.take k)) ∧ n = .int .i64 k ∧ k ≤ KN ∧ Hid (Below w6.heap.size w6 wr)) (fun _ n _ => E.length - (intOf n).toNat)
        case atStart => exact ⟨0, rfl, rfl, Nat.zero_le _, Lib.hid (Below.refl _ _)⟩
        case round =>
        obtain ⟨k, rfl, rfl, hk, HBr⟩ := hrel
        have m0 : wr.cell? ⟨w.heap.size, 0, none⟩ = some (.int .i64 fn) := by rw [cellH ((HBr.out.block w.heap.size (Array.getElem?_eq_some_iff.1 HN6.out).1).trans HN6.out)]; rfl
        obtain ⟨fk, hfk⟩ : ∃ fk, flatN (E.take k) = fk := ⟨_, rfl⟩
        have HFK := Lib.hid hfk
        have hfkl := flatN_take_le E k
        rw [hfk] at hfkl ⊢
        clear hfk
        by_cases hlt : k < E.length
        · have hlt2 : (k : Int) < (E.length : Int) := by omega
          have hx := List.getElem?_eq_getElem hlt
          generalize E[k] = t9 at hx
          have hiff := HKS.out k t9 hk hx
          have hsum := flatN_take_succ hx
          have hle := flatN_take_le E (k + 1)
          rw [hsum] at hle
          obtain ⟨g, o, c', he, hc', r0, r1⟩ := (HT6.out.row.below HBr.out).at hx
          cases he
          obtain ⟨kx, tx⟩ := t9
          change wr.cell? ⟨g, o + k * 2 + 1, none⟩ = some (bl tx) at r1
          change flatN (E.take k) + tx.length ≤ flatN E at hle
          change (flatN (E.take k) + tx.length + 3 ≤ fn ↔ k + 1 ≤ KN) at hiff
          change flatN (E.take (k + 1)) = flatN (E.take k) + tx.length at hsum
          unfold bl at r1
          have hq : (⟨tx.toArray⟩ : ByteArray).size = tx.length := ba_size tx
          rw [HFK.out] at hle hiff hsum
          generalize (⟨tx.toArray⟩ : ByteArray) = Q at *
          obtain ⟨tl, htl⟩ : ∃ tl, tx.length = tl := ⟨_, rfl⟩
          rw [htl] at hle hiff hsum hq
          obtain ⟨s1, hs1⟩ : ∃ s1, fk + tl = s1 := ⟨_, rfl⟩
          rw [hs1] at hsum hiff hle
          have HSU := Lib.hid hsum
          have hfl := HFL.out
          obtain ⟨s2, hs2⟩ : ∃ s2, s1 + 2 = s2 := ⟨_, rfl⟩
          have u1 : IntKind.i64.wrap ((fk : Int) + (Q.size : Int)) = (s1 : Int) := by rw [hq, IntWalk.i64_in _ (by omega)]; omega
          have u2 : IntKind.i64.wrap ((k : Int) + 1) = ((k + 1 : Nat) : Int) := by have := HEL.out; rw [IntWalk.i64_in _ (by omega)]; omega
          have u3 : IntKind.i64.wrap ((s1 : Int) + 2) = (s2 : Int) := by rw [IntWalk.i64_in _ (by omega)]; omega
          clear hx hsum hc' r0 hq htl hs1
          by_cases hgo : s1 + 3 ≤ fn
          · have hng : (s2 : Int) < (fn : Int) := by omega
            have hk1 := hiff.1 hgo
            clear hiff hs2
            go_wp2_with fail
            go_quiet (fail)
            have HB9 := Lib.hid (HBr.out.trans ((drewN_below wr nq).mono HBr.out.size))
            have r1' : (wr.drewN nq).cell? ⟨g, o + k * 2 + 1, none⟩ = some (.string Q) := r1
            clear m0 r1
            generalize wr.drewN nq = w9 at *
            go_wp2_with fail
            go_roundw
            case rel => exact ⟨k + 1, by rw [HSU.out], rfl, hk1, HB9⟩
            case measure => simp [intOf]; omega
          · have hng : decide ((s2 : Int) < (fn : Int)) = false := by rw [decide_eq_false]; omega
            have hng2 : decide (s2 < fn) = false := by rw [decide_eq_false]; omega
            have HKK : Hid (k = KN) := Lib.hid (by have := mt hiff.2 hgo; omega)
            clear hiff hs2
            go_wp2_with fail
            go_quiet (fail)
            have HB69 := Lib.hid (HBr.out.trans ((drewN_below wr nq).mono HBr.out.size))
            clear m0 r1 HSU u1 u2 u3
            generalize wr.drewN nq = w9 at *
            obtain rfl := HKK.out
            have HNN : Hid (w9.heap[w3.heap.size]? = some (.cells #[.int .i64 A, .int .i64 B] 29 (0, 0))) := Lib.hid ((HB69.out.block w3.heap.size (Array.getElem?_eq_some_iff.1 HK6.out).1).trans HK6.out)
            have n0 : w9.cell? ⟨w3.heap.size, 0, none⟩ = some (.int .i64 A) := by rw [cellH HNN.out]; rfl
            have n1 : w9.cell? ⟨w3.heap.size, 1, none⟩ = some (.int .i64 B) := by rw [cellH HNN.out]; rfl
            have HB9 := Lib.hid (HB6.out.trans (HB69.out.mono HB6.out.size))
            have hab := HAB.out
            have hel := HEL.out
            have hdl := HDL.out
            have g1 : decide ((A : Int) < (k : Int)) = false := by rw [decide_eq_false]; have := HKA.out; omega
            obtain ⟨SAB, hSAB⟩ : ∃ S, A + B = S := ⟨_, rfl⟩
            rw [hSAB] at hab
            have u1 : IntKind.i64.wrap ((A : Int) + (B : Int)) = (SAB : Int) := by rw [IntWalk.i64_in _ (by omega)]; omega
            have g2 : decide ((D.length : Int) < (SAB : Int)) = false := by rw [decide_eq_false]; omega
            have g3 : decide ((E.length : Int) < (SAB : Int)) = false := by rw [decide_eq_false]; omega
            have g1' : decide (A < k) = false := by rw [decide_eq_false]; have := HKA.out; omega
            have g2' : decide (D.length < SAB) = false := by rw [decide_eq_false]; omega
            have g3' : decide (E.length < SAB) = false := by rw [decide_eq_false]; omega
            have g4 : decide ((A : Int) < 0) = false := by rw [decide_eq_false]; omega
            have g5 : decide ((B : Int) < 0) = false := by rw [decide_eq_false]; omega
            obtain ⟨iE, hiE⟩ : ∃ i, E.length - B = i := ⟨_, rfl⟩
            obtain ⟨iD, hiD⟩ : ∃ i, D.length - B = i := ⟨_, rfl⟩
            have u2 : IntKind.i64.wrap ((E.length : Int) - (B : Int)) = (iE : Int) := by rw [IntWalk.i64_in _ (by omega)]; omega
            have u3 : IntKind.i64.wrap ((D.length : Int) - (B : Int)) = (iD : Int) := by rw [IntWalk.i64_in _ (by omega)]; omega
            have RE9 := HT6.out.row.below HB69.out
            have RD9 := HO6.out.row.below HB69.out
            have hcE : E.length ≤ c6 := by obtain ⟨_, _, e1, e2, _⟩ := RE9; cases e1; exact e2
            have hcD : D.length ≤ c := by obtain ⟨_, _, e1, e2, _⟩ := RD9; cases e1; exact e2
            have s1 := run_take (some ⟨g, o, none⟩) E.length c6 A (by omega)
            have s2 := run_take q D.length c A (by omega)
            have s3 := run_drop (some ⟨g, o, none⟩) E.length c6 iE (by omega)
            have s4 := run_drop q D.length c iD (by omega)
            have hs1 : ∀ n, Calls Tryd.prog 13 #[.slice (some ⟨g, o, none⟩) A c6, .slice q A c] (w9.drewN n) fun e w' => e = .returned (.bool true) ∧ ∃ m, w' = (w9.drewN n).drewN m := by
              intro n
              have h := same_row _ _ (E.take A) (D.take A) (w9.drewN n) ((RE9.take A (by omega)).below (drewN_below w9 n)) ((RD9.take A (by omega)).below (drewN_below w9 n)) (by rw [List.length_take]; omega) (by rw [List.length_take]; omega)
              rw [show sameB (E.take A) (D.take A) = true from decide_eq_true HTA.out] at h
              exact h
            have hs2 : ∀ n, Calls Tryd.prog 13 #[.slice (if c6 = iE then (some ⟨g, o, none⟩) else (some (⟨g, o, none⟩ : Addr)).map (·.add (iE * 2))) (E.length - iE) (c6 - iE), .slice (if c = iD then q else q.map (·.add (iD * 2))) (D.length - iD) (c - iD)] (w9.drewN n) fun e w' => e = .returned (.bool true) ∧ ∃ m, w' = (w9.drewN n).drewN m := by
              intro n
              have h := same_row _ _ (E.drop iE) (D.drop iD) (w9.drewN n) ((RE9.drop iE (by omega)).below (drewN_below w9 n)) ((RD9.drop iD (by omega)).below (drewN_below w9 n)) (by rw [List.length_drop]; omega) (by rw [List.length_drop]; omega)
              rw [show sameB (E.drop iE) (D.drop iD) = true from decide_eq_true (by rw [← hiE, ← hiD]; exact HTB.out)] at h
              exact h
            obtain ⟨x3, hx3⟩ : ∃ x3, (if c6 = iE then (some ⟨g, o, none⟩) else (some (⟨g, o, none⟩ : Addr)).map (·.add (iE * 2))) = x3 := ⟨_, rfl⟩
            obtain ⟨x4, hx4⟩ : ∃ x4, (if c = iD then q else q.map (·.add (iD * 2))) = x4 := ⟨_, rfl⟩
            rw [hx3] at s3 hs2
            rw [hx4] at s4 hs2
            generalize E.length - iE = y3 at *
            generalize D.length - iD = y4 at *
            generalize c6 - iE = z3 at *
            generalize c - iD = z4 at *
            clear hx3 hx4 RE9 RD9 hcE hcD hSAB hab hiE hiD hel hdl
            go_wp2_with fail
            go_quiet ((go_at_call 13; first | with_reducible exact Calls.quiet_of (hs1 _) | with_reducible exact Calls.quiet_of (hs2 _)))
            go_wp2_with fail
            go_ret
            exact ⟨rfl, HB9.out.trans ((drewN_below w9 nq).mono HB9.out.size)⟩
        · have hlt' : decide ((k : Int) < (E.length : Int)) = false := by rw [decide_eq_false]; omega
          have HKK : Hid (k = KN) := Lib.hid (by have := HKL.out; omega)
          go_wp2_with fail
          go_quiet (fail)
          have HB69 := Lib.hid (HBr.out.trans ((drewN_below wr nq).mono HBr.out.size))
          clear m0
          generalize wr.drewN nq = w9 at *
          obtain rfl := HKK.out
          have HNN : Hid (w9.heap[w3.heap.size]? = some (.cells #[.int .i64 A, .int .i64 B] 29 (0, 0))) := Lib.hid ((HB69.out.block w3.heap.size (Array.getElem?_eq_some_iff.1 HK6.out).1).trans HK6.out)
          have n0 : w9.cell? ⟨w3.heap.size, 0, none⟩ = some (.int .i64 A) := by rw [cellH HNN.out]; rfl
          have n1 : w9.cell? ⟨w3.heap.size, 1, none⟩ = some (.int .i64 B) := by rw [cellH HNN.out]; rfl
          have HB9 := Lib.hid (HB6.out.trans (HB69.out.mono HB6.out.size))
          have hab := HAB.out
          have hel := HEL.out
          have hdl := HDL.out
          have g1 : decide ((A : Int) < (k : Int)) = false := by rw [decide_eq_false]; have := HKA.out; omega
          obtain ⟨SAB, hSAB⟩ : ∃ S, A + B = S := ⟨_, rfl⟩
          rw [hSAB] at hab
          have u1 : IntKind.i64.wrap ((A : Int) + (B : Int)) = (SAB : Int) := by rw [IntWalk.i64_in _ (by omega)]; omega
          have g2 : decide ((D.length : Int) < (SAB : Int)) = false := by rw [decide_eq_false]; omega
          have g3 : decide ((E.length : Int) < (SAB : Int)) = false := by rw [decide_eq_false]; omega
          have g1' : decide (A < k) = false := by rw [decide_eq_false]; have := HKA.out; omega
          have g2' : decide (D.length < SAB) = false := by rw [decide_eq_false]; omega
          have g3' : decide (E.length < SAB) = false := by rw [decide_eq_false]; omega
          have g4 : decide ((A : Int) < 0) = false := by rw [decide_eq_false]; omega
          have g5 : decide ((B : Int) < 0) = false := by rw [decide_eq_false]; omega
          obtain ⟨iE, hiE⟩ : ∃ i, E.length - B = i := ⟨_, rfl⟩
          obtain ⟨iD, hiD⟩ : ∃ i, D.length - B = i := ⟨_, rfl⟩
          have u2 : IntKind.i64.wrap ((E.length : Int) - (B : Int)) = (iE : Int) := by rw [IntWalk.i64_in _ (by omega)]; omega
          have u3 : IntKind.i64.wrap ((D.length : Int) - (B : Int)) = (iD : Int) := by rw [IntWalk.i64_in _ (by omega)]; omega
          have RE9 := HT6.out.row.below HB69.out
          have RD9 := HO6.out.row.below HB69.out
          have hcE : E.length ≤ c6 := by obtain ⟨_, _, e1, e2, _⟩ := RE9; cases e1; exact e2
          have hcD : D.length ≤ c := by obtain ⟨_, _, e1, e2, _⟩ := RD9; cases e1; exact e2
          have s1 := run_take q6 E.length c6 A (by omega)
          have s2 := run_take q D.length c A (by omega)
          have s3 := run_drop q6 E.length c6 iE (by omega)
          have s4 := run_drop q D.length c iD (by omega)
          have hs1 : ∀ n, Calls Tryd.prog 13 #[.slice q6 A c6, .slice q A c] (w9.drewN n) fun e w' => e = .returned (.bool true) ∧ ∃ m, w' = (w9.drewN n).drewN m := by
            intro n
            have h := same_row _ _ (E.take A) (D.take A) (w9.drewN n) ((RE9.take A (by omega)).below (drewN_below w9 n)) ((RD9.take A (by omega)).below (drewN_below w9 n)) (by rw [List.length_take]; omega) (by rw [List.length_take]; omega)
            rw [show sameB (E.take A) (D.take A) = true from decide_eq_true HTA.out] at h
            exact h
          have hs2 : ∀ n, Calls Tryd.prog 13 #[.slice (if c6 = iE then q6 else q6.map (·.add (iE * 2))) (E.length - iE) (c6 - iE), .slice (if c = iD then q else q.map (·.add (iD * 2))) (D.length - iD) (c - iD)] (w9.drewN n) fun e w' => e = .returned (.bool true) ∧ ∃ m, w' = (w9.drewN n).drewN m := by
            intro n
            have h := same_row _ _ (E.drop iE) (D.drop iD) (w9.drewN n) ((RE9.drop iE (by omega)).below (drewN_below w9 n)) ((RD9.drop iD (by omega)).below (drewN_below w9 n)) (by rw [List.length_drop]; omega) (by rw [List.length_drop]; omega)
            rw [show sameB (E.drop iE) (D.drop iD) = true from decide_eq_true (by rw [← hiE, ← hiD]; exact HTB.out)] at h
            exact h
          obtain ⟨x3, hx3⟩ : ∃ x3, (if c6 = iE then q6 else q6.map (·.add (iE * 2))) = x3 := ⟨_, rfl⟩
          obtain ⟨x4, hx4⟩ : ∃ x4, (if c = iD then q else q.map (·.add (iD * 2))) = x4 := ⟨_, rfl⟩
          rw [hx3] at s3 hs2
          rw [hx4] at s4 hs2
          generalize E.length - iE = y3 at *
          generalize D.length - iD = y4 at *
          generalize c6 - iE = z3 at *
          generalize c - iD = z4 at *
          clear hx3 hx4 RE9 RD9 hcE hcD hSAB hab hiE hiD hel hdl
          go_wp2_with fail
          go_quiet ((go_at_call 13; first | with_reducible exact Calls.quiet_of (hs1 _) | with_reducible exact Calls.quiet_of (hs2 _)))
          go_wp2_with fail
          go_ret
          exact ⟨rfl, HB9.out.trans ((drewN_below w9 nq).mono HB9.out.size)⟩
      · have hq : ((EE : Int) != 0) = true := by rw [bne_iff_ne]; exact hee
        clear hee HGOOD HFACT htk hflat hka hkb
        go_wp2_with fail
        refine hre.mono ?_
        rintro e w3 ⟨v, rfl, hO, hb3⟩
        obtain ⟨q, c, rfl⟩ := own_shape hO
        have HB3 := Lib.hid (HB2.out.trans (hb3.mono HB2.out.size))
        have HN3 := Lib.hid ((hb3.block w.heap.size (Array.getElem?_eq_some_iff.1 HN2.out).1).trans HN2.out)
        have HZ3 := Lib.hid hb3.size
        have hn4 := heap_alloc_new w3 (.cells #[.int .i64 0, .int .i64 0] 29)
        have hb4 : Below w3.heap.size w3 (w3.alloc (.cells #[.int .i64 0, .int .i64 0] 29)) := galloc2 (Below.refl _ _) (Nat.le_refl _) _
        generalize hw4 : w3.alloc (.cells #[.int .i64 0, .int .i64 0] 29) = w4 at *
        have HB4 := Lib.hid (HB3.out.trans (hb4.mono HB3.out.size))
        have HN4 := Lib.hid ((hb4.block w.heap.size (Array.getElem?_eq_some_iff.1 HN3.out).1).trans HN3.out)
        have HK4 := Lib.hid hn4
        have HO4 := Lib.hid (hO.below hb4)
        have z0 : w4.cell? ⟨w3.heap.size, 0, none⟩ = some (.int .i64 0) := by rw [cellH hn4]; rfl
        have z1 : w4.cell? ⟨w3.heap.size, 1, none⟩ = some (.int .i64 0) := by rw [cellH hn4]; rfl
        have zf : ∀ o, w4.frozen? ⟨w3.heap.size, o, none⟩ = false := fun o => Lib.frozen_of_heap hn4 o
        have c0 : w4.cell? ⟨w.heap.size, 0, none⟩ = some (.int .i64 f) := by rw [cellH HN4.out]; rfl
        have c1 : w4.cell? ⟨w.heap.size, 1, none⟩ = some (.int .i64 t) := by rw [cellH HN4.out]; rfl
        have c2 : w4.cell? ⟨w.heap.size, 2, none⟩ = some (.string x) := by rw [cellH HN4.out]; rfl
        have far1 : ∀ (W : World) (o1 o2 : Nat) (x : Value), (W.setCell ⟨w3.heap.size, o1, none⟩ x).cell? ⟨w.heap.size, o2, none⟩ = W.cell? ⟨w.heap.size, o2, none⟩ := fun W o1 o2 x => set_far W _ _ _ _ _ (by have := HZ3.out; have := HB2.out.size; have := (Array.getElem?_eq_some_iff.1 HN3.out).1; omega)
        have HN5 := Lib.hid ((box_far2 (x := .int .i64 A) (y := .int .i64 B) (show w3.heap.size ≠ w.heap.size by have := (Array.getElem?_eq_some_iff.1 HN3.out).1; omega) w4).trans HN4.out)
        have HK5 := Lib.hid (box_set2 HK4.out (.int .i64 A) (.int .i64 B))
        have HB5 := Lib.hid (below_set2 (x := .int .i64 A) (y := .int .i64 B) HB4.out (show w.heap.size ≤ w3.heap.size by exact HB3.out.size))
        have HB35 := Lib.hid (below_set2 (x := .int .i64 A) (y := .int .i64 B) hb4 (Nat.le_refl _))
        have HO3 := Lib.hid hO
        clear hre hO hb3 hn4 hb4 b0 b1 b2
        go_wp2_with fail
        clear far1 z0 z1 zf c0 c1 c2
        go_ret
        exact ⟨rfl, HB5.out⟩
end Go.Proofs.YtfedmhccbfhcbaaDoor
