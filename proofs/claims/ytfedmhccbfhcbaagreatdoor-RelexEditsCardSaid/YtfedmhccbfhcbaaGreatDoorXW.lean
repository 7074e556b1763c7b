/-
  RelexEdits: the walk.
-/
import Derived.Test.YtfedmhccbfhcbaaGreatDoorXV
import Derived.Test.YtfedmhccbfhcbaaGreatDoorXL
namespace Go.Proofs.YtfedmhccbfhcbaaGreatDoor
open Go.RowKit Go.Shelf

theorem neq_kept (A B : Int) (W : World) : (binOp .neq 32 (.agg #[.int .i64 A, .int .i64 B]) (.agg #[.int .i64 A, .int .i64 B])).run Tryz.prog W = .ok (.bool false) W := by simp [go_sem]
set_option maxRecDepth 100000 in
set_option maxHeartbeats 16000000 in
theorem edits_walk (s x : ByteArray) (f t : Int) (w : World) (hm : s.size ≤ maxLen) (hE : Env w) : Calls Tryz.prog 3 #[.string s, edV f t x] w (LawEnd w) := by
  unfold maxLen at hm
  have HE := Lib.hid hE
  have hb1 : Below w.heap.size w (w.alloc (.cells #[.int .i64 f, .int .i64 t, .string x] 25)) := galloc2 (Below.refl _ _) (Nat.le_refl _) _
  have hn1 := heap_alloc_new w (.cells #[.int .i64 f, .int .i64 t, .string x] 25)
  generalize hw1 : w.alloc (.cells #[.int .i64 f, .int .i64 t, .string x] 25) = w1 at *
  have HB1 := Lib.hid hb1
  have HN1 := Lib.hid hn1
  have b0 : w1.cell? ⟨w.heap.size, 0, none⟩ = some (.int .i64 f) := by rw [cellH hn1]; rfl
  have b1 : w1.cell? ⟨w.heap.size, 1, none⟩ = some (.int .i64 t) := by rw [cellH hn1]; rfl
  have b2 : w1.cell? ⟨w.heap.size, 2, none⟩ = some (.string x) := by rw [cellH hn1]; rfl
  have haw := fun W hE => awake_any W hE
  clear hb1 hn1 hE
  unfold edV
  by_cases h8 : 2000 < s.size
  · have h8' : (2000 : Int) < (s.size : Int) := by omega
    have h8d : decide ((2000 : Int) < (s.size : Int)) = true := decide_eq_true h8'
    go_enter Tryz.func3, Tryz.ntmps3
    go_wp2_with fail
    refine (haw w1 (HE.out.below HB1.out HE.out.size)).mono ?_
    rintro e w2 ⟨rfl, hb2⟩
    go_wp2_with fail
    go_ret
    exact ⟨rfl, HB1.out.trans (hb2.mono HB1.out.size)⟩
  · have h8' : decide ((2000 : Int) < (s.size : Int)) = false := by rw [decide_eq_false]; omega
    by_cases h9 : 2000 < x.size
    · have h9' : (2000 : Int) < (x.size : Int) := by omega
      have h9d : decide ((2000 : Int) < (x.size : Int)) = true := decide_eq_true h9'
      go_enter Tryz.func3, Tryz.ntmps3
      go_wp2_with fail
      refine (haw w1 (HE.out.below HB1.out HE.out.size)).mono ?_
      rintro e w2 ⟨rfl, hb2⟩
      go_wp2_with fail
      go_ret
      exact ⟨rfl, HB1.out.trans (hb2.mono HB1.out.size)⟩
    · have h9' : decide ((2000 : Int) < (x.size : Int)) = false := by rw [decide_eq_false]; omega
      have hdo := do_any s x f t w1 (by omega) (by omega) (HE.out.below HB1.out HE.out.size)
      have hrdo := fun W hE => rdo_any s x f t W (by omega) (by omega) hE
      have hre := fun W hE => relex_any s x f t W (by omega) (by omega) hE
      have hrre := fun W hE => rrelex_any s x f t W (by omega) (by omega) hE
      have HDL : Hid ((doL s.data.toList x.data.toList f t).length ≤ 65536) := Lib.hid doL_len
      unfold DoEnd edV bl at hdo hrdo
      unfold RlxEnd edV at hre
      unfold RRlxEnd edV at hrre
      generalize ((kepA s.data.toList x.data.toList f t : Nat) : Int) = A at *
      generalize ((kepB s.data.toList x.data.toList f t : Nat) : Int) = B at *
      generalize (⟨(doX s.data.toList x.data.toList f t).toArray⟩ : ByteArray) = T at *
      generalize doE s.data.toList x.data.toList f t = EE at *
      generalize doL s.data.toList x.data.toList f t = D at *
      have hk2 := neq_kept A B
      clear h8 h9
      go_enter Tryz.func3, Tryz.ntmps3
      go_wp2_with fail
      refine hdo.mono ?_
      rintro e w2 ⟨rfl, hb2⟩
      have HB2 := Lib.hid (HB1.out.trans (hb2.mono HB1.out.size))
      have HN2 := Lib.hid ((hb2.block w.heap.size (Array.getElem?_eq_some_iff.1 HN1.out).1).trans HN1.out)
      have c0 : w2.cell? ⟨w.heap.size, 0, none⟩ = some (.int .i64 f) := by rw [cellH HN2.out]; rfl
      have c1 : w2.cell? ⟨w.heap.size, 1, none⟩ = some (.int .i64 t) := by rw [cellH HN2.out]; rfl
      have c2 : w2.cell? ⟨w.heap.size, 2, none⟩ = some (.string x) := by rw [cellH HN2.out]; rfl
      clear hb2 hdo hw1 b0 b1 b2
      go_wp2_with fail
      refine (hrdo w2 (HE.out.below HB2.out HE.out.size)).mono ?_
      rintro e w3 ⟨rfl, hb3⟩
      have HB3 := Lib.hid (HB2.out.trans (hb3.mono HB2.out.size))
      have HN3 := Lib.hid ((hb3.block w.heap.size (Array.getElem?_eq_some_iff.1 HN2.out).1).trans HN2.out)
      have b0 : w3.cell? ⟨w.heap.size, 0, none⟩ = some (.int .i64 f) := by rw [cellH HN3.out]; rfl
      have b1 : w3.cell? ⟨w.heap.size, 1, none⟩ = some (.int .i64 t) := by rw [cellH HN3.out]; rfl
      have b2 : w3.cell? ⟨w.heap.size, 2, none⟩ = some (.string x) := by rw [cellH HN3.out]; rfl
      clear hb3 hrdo c0 c1 c2
      go_wp2_with fail
      refine (hre w3 (HE.out.below HB3.out HE.out.size)).mono ?_
      rintro e w4 ⟨v4, rfl, hO4, hb4⟩
      obtain ⟨q4, c4, rfl⟩ := own_shape hO4
      have HB4 := Lib.hid (HB3.out.trans (hb4.mono HB3.out.size))
      have HN4 := Lib.hid ((hb4.block w.heap.size (Array.getElem?_eq_some_iff.1 HN3.out).1).trans HN3.out)
      have hn5 := heap_alloc_new w4 (.cells #[.int .i64 0, .int .i64 0] 32)
      have hb5 : Below w4.heap.size w4 (w4.alloc (.cells #[.int .i64 0, .int .i64 0] 32)) := galloc2 (Below.refl _ _) (Nat.le_refl _) _
      generalize hw5 : w4.alloc (.cells #[.int .i64 0, .int .i64 0] 32) = w5 at *
      have HB5 := Lib.hid (HB4.out.trans (hb5.mono HB4.out.size))
      have HN5 := Lib.hid ((hb5.block w.heap.size (Array.getElem?_eq_some_iff.1 HN4.out).1).trans HN4.out)
      have z0 : w5.cell? ⟨w4.heap.size, 0, none⟩ = some (.int .i64 0) := by rw [cellH hn5]; rfl
      have z1 : w5.cell? ⟨w4.heap.size, 1, none⟩ = some (.int .i64 0) := by rw [cellH hn5]; rfl
      have zf : ∀ o, w5.frozen? ⟨w4.heap.size, o, none⟩ = false := fun o => Lib.frozen_of_heap hn5 o
      have e0 : w5.cell? ⟨w.heap.size, 0, none⟩ = some (.int .i64 f) := by rw [cellH HN5.out]; rfl
      have e1 : w5.cell? ⟨w.heap.size, 1, none⟩ = some (.int .i64 t) := by rw [cellH HN5.out]; rfl
      have e2 : w5.cell? ⟨w.heap.size, 2, none⟩ = some (.string x) := by rw [cellH HN5.out]; rfl
      have hlt4 : w.heap.size < w4.heap.size := (Array.getElem?_eq_some_iff.1 HN4.out).1
      have far1 : ∀ (W : World) (o1 o2 : Nat) (x : Value), (W.setCell ⟨w4.heap.size, o1, none⟩ x).cell? ⟨w.heap.size, o2, none⟩ = W.cell? ⟨w.heap.size, o2, none⟩ := fun W o1 o2 x => set_far W _ _ _ _ _ (by omega)
      have HN6 := Lib.hid ((box_far2 (x := .int .i64 A) (y := .int .i64 B) (show w4.heap.size ≠ w.heap.size by omega) w5).trans HN5.out)
      have HK6 := Lib.hid (box_set2 hn5 (.int .i64 A) (.int .i64 B))
      have HB6 := Lib.hid (below_set2 (x := .int .i64 A) (y := .int .i64 B) HB5.out (show w.heap.size ≤ w4.heap.size by omega))
      have HB46 := Lib.hid (below_set2 (x := .int .i64 A) (y := .int .i64 B) hb5 (Nat.le_refl _))
      have HO4 := Lib.hid hO4
      have HZ4 := Lib.hid hlt4
      have HZ34 := Lib.hid hb4.size
      have HZ3 : Hid (w.heap.size < w3.heap.size) := Lib.hid (Array.getElem?_eq_some_iff.1 HN3.out).1
      clear hO4 hb4 hn5 hb5 hlt4 b0 b1 b2
      go_wp2_with fail
      clear far1 z0 z1 zf e0 e1 e2
      generalize ((w5.setCell ⟨w4.heap.size, 0, none⟩ (.int .i64 A)).setCell ⟨w4.heap.size, 1, none⟩ (.int .i64 B)) = w6 at *
      refine (hrre w6 (HE.out.below HB6.out HE.out.size)).mono ?_
      rintro e w7 ⟨v7, rfl, hO7, hb7⟩
      obtain ⟨q7, c7, rfl⟩ := own_shape hO7
      have HB7 := Lib.hid (HB6.out.trans (hb7.mono HB6.out.size))
      have HN7 := Lib.hid ((hb7.block w.heap.size (Array.getElem?_eq_some_iff.1 HN6.out).1).trans HN6.out)
      have HK7 := Lib.hid ((hb7.block w4.heap.size (Array.getElem?_eq_some_iff.1 HK6.out).1).trans HK6.out)
      have HL7 := Lib.hid ((HO4.out.below HB46.out).below hb7)
      have HM7 := Lib.hid hO7
      have HZ6 := Lib.hid HB46.out.size
      have hsm : ∀ W, Hid (Below w7.heap.size w7 W) → Calls Tryz.prog 10 #[.slice q4 D.length c4, .slice q7 D.length c7] W fun e w' => e = .returned (.bool true) ∧ ∃ m, w' = W.drewN m := by
        intro W hW
        have h := same_row _ _ D D W (HL7.out.below hW.out).row (HM7.out.below hW.out).row (by have := HDL.out; omega) (by have := HDL.out; omega)
        rw [show sameB D D = true from decide_eq_true rfl] at h
        exact h
      have HR7 : Hid (Below w7.heap.size w7 w7) := Lib.hid (Below.refl _ _)
      clear hO7 hb7 hrre hw5
      go_wp2_with fail
      refine (hsm _ HR7).mono ?_
      rintro e w8 ⟨rfl, hm8⟩
      have HB78 := Lib.hid (drew_below hm8)
      have HB8 := Lib.hid (HB7.out.trans (HB78.out.mono HB7.out.size))
      have HN8 := Lib.hid ((HB78.out.block w.heap.size (Array.getElem?_eq_some_iff.1 HN7.out).1).trans HN7.out)
      have HK8 := Lib.hid ((HB78.out.block w4.heap.size (Array.getElem?_eq_some_iff.1 HK7.out).1).trans HK7.out)
      have n0 : w8.cell? ⟨w4.heap.size, 0, none⟩ = some (.int .i64 A) := by rw [cellH HK8.out]; rfl
      have n1 : w8.cell? ⟨w4.heap.size, 1, none⟩ = some (.int .i64 B) := by rw [cellH HK8.out]; rfl
      have HL8 := Lib.hid (HL7.out.below HB78.out)
      have HM8 := Lib.hid (HM7.out.below HB78.out)
      have HEL := HDL.out
      clear hm8 hsm
      go_wp2_with fail
      clear n0 n1
      by_cases hd0 : D = []
      · subst hd0
        go_loopw [16] (fun i wr => i = .int .i64 0 ∧ wr = w8) (fun _ _ => 0)
        case atStart => exact ⟨rfl, rfl⟩
        case round =>
        obtain ⟨rfl, rfl⟩ := hrel
        have HNZ := HN8
        have HBZ := HB8
        have HMZ := HM8
        -- behind the loop
        have d0 : wr.cell? ⟨w.heap.size, 0, none⟩ = some (.int .i64 f) := by rw [cellH HNZ.out]; rfl
        have d1 : wr.cell? ⟨w.heap.size, 1, none⟩ = some (.int .i64 t) := by rw [cellH HNZ.out]; rfl
        have d2 : wr.cell? ⟨w.heap.size, 2, none⟩ = some (.string x) := by rw [cellH HNZ.out]; rfl
        go_wp2_with fail
        refine (hre wr (HE.out.below HBZ.out HE.out.size)).mono ?_
        rintro e wY ⟨vY, rfl, hOY, hbY⟩
        obtain ⟨qY, cY, rfl⟩ := own_shape hOY
        have HBY := Lib.hid (HBZ.out.trans (hbY.mono HBZ.out.size))
        have hdl := HDL.out
        have hsmY := same_row _ _ ([] : List Tok) [] wY hOY.row (HMZ.out.below hbY).row (by omega) (by omega)
        rw [show sameB ([] : List Tok) [] = true from decide_eq_true rfl] at hsmY
        clear hOY hbY hdl d0 d1 d2 hre
        go_wp2_with (go_at_call 10; refine hsmY.mono ?_; rintro e wX ⟨rfl, hmX⟩)
        have HBX := Lib.hid (HBY.out.trans ((drew_below hmX).mono HBY.out.size))
        refine (haw wX (HE.out.below HBX.out HE.out.size)).mono ?_
        rintro e wV ⟨rfl, hbV⟩
        go_wp2_with fail
        go_ret
        exact ⟨rfl, HBX.out.trans (hbV.mono HBX.out.size)⟩
      · have hdl0 : 0 < D.length := List.length_pos_iff.2 hd0
        rcases HL8.out with ⟨h, _⟩ | hown
        · exact absurd h hd0
        obtain ⟨_, hw2⟩ := hown
        rcases hw2 with ⟨_, h⟩ | ⟨g, cap, cur, hv, hg, hcur, hcap, _, hcs, _⟩
        · omega
        cases hv
        have HG : Hid (w.heap.size < g ∧ g < w6.heap.size) := Lib.hid (by
          have h1 := HZ3.out
          refine ⟨by omega, ?_⟩
          rcases HO4.out with ⟨h, _⟩ | ⟨_, h⟩
          · exact absurd h hd0
          · rcases h with ⟨_, h⟩ | ⟨g', _, _, e, _, h', _⟩
            · omega
            · cases e
              have := (Array.getElem?_eq_some_iff.1 h').1
              have := HZ6.out
              omega)
        have HC : Hid (D.length * 2 ≤ cur.size) := Lib.hid (by rw [hcs]; omega)
        have HCU := Lib.hid hcur
        clear hd0 hg hcap hcs hcur
        go_loopw [16] (fun i wr => ∃ (k : Nat) (cs : Array Value), i = .int .i64 k ∧ k ≤ D.length ∧ Hid (wr.heap[g]? = some (.cells cs 39 (0, 0)) ∧ D.length * 2 ≤ cs.size) ∧ Hid (wr.heap[w.heap.size]? = some (.cells #[.int .i64 f, .int .i64 t, .string x] 25 (0, 0))) ∧ Hid (RowOwn w6.heap.size wr (.slice q7 D.length c7) D) ∧ Hid (Below w.heap.size w wr)) (fun i _ => D.length - (intOf i).toNat)
        case atStart => exact ⟨0, cur, rfl, Nat.zero_le _, Lib.hid ⟨HCU.out, HC.out⟩, HN8, HM8, HB8⟩
        case round =>
        obtain ⟨k, cs, rfl, hk, HCS, HNZ, HMZ, HBZ⟩ := hrel
        by_cases hlt : k < D.length
        · have hlt' : (k : Int) < (D.length : Int) := by omega
          obtain ⟨hcs1, hcs2⟩ := HCS.out
          have u4 : IntKind.i64.wrap ((k : Int) + 1) = ((k + 1 : Nat) : Int) := by rw [IntWalk.i64_in _ (by omega)]; omega
          obtain ⟨old, hold⟩ : ∃ old, wr.cell? ⟨g, k * 2 + 1, none⟩ = some old := by
            refine ⟨cs[k * 2 + 1]'(by omega), ?_⟩
            rw [cellH hcs1, Array.getElem?_eq_getElem (by omega)]
          have hfz : wr.frozen? ⟨g, k * 2 + 1, none⟩ = false := Lib.frozen_of_heap hcs1 _
          have hk9 := heap_setCell_same wr g (k * 2 + 1) cs 39 (.string ⟨#[115, 112, 111, 105, 108, 116]⟩) hcs1
          have HC9 : Hid ((wr.setCell ⟨g, k * 2 + 1, none⟩ (.string ⟨#[115, 112, 111, 105, 108, 116]⟩)).heap[g]? = some (.cells (cs.setIfInBounds (k * 2 + 1) (.string ⟨#[115, 112, 111, 105, 108, 116]⟩)) 39 (0, 0)) ∧ D.length * 2 ≤ (cs.setIfInBounds (k * 2 + 1) (.string ⟨#[115, 112, 111, 105, 108, 116]⟩)).size) := Lib.hid ⟨hk9, by simpa using hcs2⟩
          have HN9 := Lib.hid ((heap_setCell_other wr ⟨g, k * 2 + 1, none⟩ w.heap.size (.string ⟨#[115, 112, 111, 105, 108, 116]⟩) (by have := HG.out.1; show w.heap.size ≠ g; omega)).trans HNZ.out)
          have HM9 := Lib.hid (HMZ.out.set (b := g) (o := k * 2 + 1) HG.out.2 (.string ⟨#[115, 112, 111, 105, 108, 116]⟩))
          have HB9 := Lib.hid (HBZ.out.setCell (p := ⟨g, k * 2 + 1, none⟩) (by have := HG.out.1; show w.heap.size ≤ g; omega) (.string ⟨#[115, 112, 111, 105, 108, 116]⟩))
          clear hcs1 hcs2 hk9
          go_wp2_with fail
          go_roundw
          case rel => exact ⟨k + 1, _, rfl, by omega, HC9, HN9, HM9, HB9⟩
          case measure => simp [intOf]; omega
        · have hlt' : ¬ (k : Int) < (D.length : Int) := by omega
          -- behind the loop
          have d0 : wr.cell? ⟨w.heap.size, 0, none⟩ = some (.int .i64 f) := by rw [cellH HNZ.out]; rfl
          have d1 : wr.cell? ⟨w.heap.size, 1, none⟩ = some (.int .i64 t) := by rw [cellH HNZ.out]; rfl
          have d2 : wr.cell? ⟨w.heap.size, 2, none⟩ = some (.string x) := by rw [cellH HNZ.out]; rfl
          go_wp2_with fail
          refine (hre wr (HE.out.below HBZ.out HE.out.size)).mono ?_
          rintro e wY ⟨vY, rfl, hOY, hbY⟩
          obtain ⟨qY, cY, rfl⟩ := own_shape hOY
          have HBY := Lib.hid (HBZ.out.trans (hbY.mono HBZ.out.size))
          have hdl := HDL.out
          have hsmY := same_row _ _ D D wY hOY.row (HMZ.out.below hbY).row (by omega) (by omega)
          rw [show sameB D D = true from decide_eq_true rfl] at hsmY
          clear hOY hbY hdl d0 d1 d2 hre
          go_wp2_with (go_at_call 10; refine hsmY.mono ?_; rintro e wX ⟨rfl, hmX⟩)
          have HBX := Lib.hid (HBY.out.trans ((drew_below hmX).mono HBY.out.size))
          refine (haw wX (HE.out.below HBX.out HE.out.size)).mono ?_
          rintro e wV ⟨rfl, hbV⟩
          go_wp2_with fail
          go_ret
          exact ⟨rfl, HBX.out.trans (hbV.mono HBX.out.size)⟩
end Go.Proofs.YtfedmhccbfhcbaaGreatDoor
