/-
  The reference's Parse.
-/
import Derived.Test.YtgcpgieojckheaaGreatDoorMgKH
import Derived.Test.YtgcpgieojckheaaGreatDoorMgJP9
namespace Go.Proofs.YtgcpgieojckheaaGreatDoor.Json
open Go.RowKit Go.Shelf

theorem Below.four {n R : Nat} {a w : World} {p q u v : Value} (h : Below n a w) (hR : n ≤ R) : Below n a ((((w.setCell ⟨R, 0, none⟩ p).setCell ⟨R, 1, none⟩ q).setCell ⟨R, 2, none⟩ u).setCell ⟨R, 3, none⟩ v) :=
  (((h.setCell (p := ⟨R, 0, none⟩) hR _).setCell (p := ⟨R, 1, none⟩) hR _).setCell (p := ⟨R, 2, none⟩) hR _).setCell (p := ⟨R, 3, none⟩) hR _
theorem parse_few {l : List UInt8} (h : l.length ≤ 262144) : parse l = outG (wholeG l) := parse_out h
set_option maxHeartbeats 8000000 in
set_option maxRecDepth 100000 in
theorem rparse_any (W : World) (s : ByteArray) (h8 : 8 ≤ W.heap.size) (hz : s.size ≤ 30000) :
    Calls Tryz.prog 37 #[.string s] W fun e w' => ∃ v, e = .returned (.tuple #[v, .int .i64 (parse s.data.toList).2]) ∧ JVal (fun g => W.heap.size ≤ g) w' (parse s.data.toList).1 v ∧ Below W.heap.size W w' := by
  rw [parse_out (by rw [← Lib.size_eq]; omega)]
  obtain ⟨W0, hW0⟩ : ∃ W0, (W.alloc (Obj.cells #[Value.int IntKind.u8 0, Value.string { data := #[] }, Value.slice none 0 0, Value.slice none 0 0] 47)).alloc (.cells #[.string s, .int .i64 0, .int .i64 0, .int .i64 0] 102) = W0 := ⟨_, rfl⟩
  have hb0 : Below W.heap.size W W0 := by rw [← hW0]; exact galloc (galloc (Below.refl _ _) _) _
  have hR0 : W0.heap[W.heap.size]? = some (.cells #[.int .u8 0, .string ⟨#[]⟩, .slice none 0 0, .slice none 0 0] 47 (0, 0)) := by rw [← hW0]; exact ((galloc (Below.refl _ (W.alloc _)) _).block _ (by simp)).trans (World.alloc_heap_new W _)
  have hP0 : RAt W0 (W.heap.size + 1) s 0 0 0 := by
    have := World.alloc_heap_new (W.alloc (Obj.cells #[Value.int IntKind.u8 0, Value.string { data := #[] }, Value.slice none 0 0, Value.slice none 0 0] 47)) (.cells #[.string s, .int .i64 0, .int .i64 0, .int .i64 0] 102)
    rw [World.size_alloc] at this
    rw [← hW0]; exact this
  have hs0 : W0.heap.size = W.heap.size + 2 := by rw [← hW0]; simp
  have hlen : ¬ (262144 : Int) < (s.size : Int) := by omega
  obtain ⟨O, hO⟩ : ∃ O, outG (wholeG s.data.toList) = O := ⟨_, rfl⟩
  rw [hO]
  obtain ⟨R, hR⟩ : ∃ R, W.heap.size = R := ⟨_, rfl⟩
  rw [hR] at hR0 hP0 hs0
  obtain ⟨b, hb⟩ : ∃ b, R + 1 = b := ⟨_, rfl⟩
  rw [hb] at hP0
  have hWR : W.heap.size ≤ R := by omega
  have hbR : b ≠ R := by omega
  have b8 : 8 ≤ b := by omega
  have HRe := Lib.hid hR
  have Hbe := Lib.hid hb
  have HB0 := Lib.hid hb0
  have HR := Lib.hid hR0
  have HW0 := Lib.hid hW0
  have HWs := Lib.hid hs0
  have HO := Lib.hid hO
  have HFIN : Hid (∀ w (c : Int), But b W0 w → O = (.zero, c) → ∃ v, Ending.returned (.tuple #[.agg #[.int .u8 0, .string ⟨#[]⟩, .slice none 0 0, .slice none 0 0], .int .i64 c]) = .returned (.tuple #[v, .int .i64 O.2]) ∧ JVal (fun g => W.heap.size ≤ g) ((((w.setCell ⟨R, 0, none⟩ (.int .u8 0)).setCell ⟨R, 1, none⟩ (.string ⟨#[]⟩)).setCell ⟨R, 2, none⟩ (.slice none 0 0)).setCell ⟨R, 3, none⟩ (.slice none 0 0)) O.1 v ∧ Below W.heap.size W ((((w.setCell ⟨R, 0, none⟩ (.int .u8 0)).setCell ⟨R, 1, none⟩ (.string ⟨#[]⟩)).setCell ⟨R, 2, none⟩ (.slice none 0 0)).setCell ⟨R, 3, none⟩ (.slice none 0 0))) := Lib.hid (fun w c h e => by
    rw [e]
    exact ⟨_, rfl, JVal.leaf _ _ 0 [], Below.four (hb0.trans (h.below (by omega) (by omega))) hWR⟩)
  have HRW : Hid (∀ w, But b W0 w → w.heap[R]? = some (.cells #[.int .u8 0, .string ⟨#[]⟩, .slice none 0 0, .slice none 0 0] 47 (0, 0))) := Lib.hid (fun w hw => (hw.block R (by rw [hs0]; omega) (fun e => hbR e.symm)).trans hR0)
  have hbl := rblanks_any W0 b s 0 0 hP0 (Nat.zero_le _) (by omega)
  rw [List.drop_zero] at hbl
  clear hP0 hb0 hR0 hO hW0 hs0 hR hb
  go_enter Tryz.func37, Tryz.ntmps37
  go_wp2_with fail
  rw [HW0.out, HRe.out, Hbe.out]
  refine hbl.mono ?_
  rintro e w1 ⟨k1, hk1, hk1s, rfl, hP1, hb1, hd1⟩
  have HP1 := Lib.hid hP1
  have HB1 := Lib.hid hb1
  have hsk1 : skip (s.data.toList.drop k1) = s.data.toList.drop k1 := by rw [← hd1, skip_skip]
  have hval := rvalue_any 64 w1 b s k1 0 1 (by omega) (by omega) b8 hk1s hz hP1 hsk1
  have HWV : Hid (O = outG (match value 64 (s.data.toList.drop k1) 0 with | .error e => .error e | .ok (j, r, n) => if skip r = [] then .ok (j, [], n) else .error 4)) := Lib.hid (by
    rw [← HO.out]; unfold wholeG; rw [← value_skip 64 s.data.toList 0, hd1]; rfl)
  clear hP1 hb1 hd1 hbl hsk1 HO
  go_wp2_with fail
  refine hval.mono ?_
  intro e w2 h2
  clear hval
  cases hE : value 64 (s.data.toList.drop k1) 0 with
  | error c =>
    rw [hE] at h2
    obtain ⟨hc, k2, n2, kd, tx, pc, nc, cc, pd, nd, cd, rfl, hP2, hb2⟩ := h2
    have HOE : Hid (O = (.zero, c)) := Lib.hid (by rw [HWV.out, hE]; rfl)
    obtain ⟨w3, hw3⟩ : ∃ w3, w2.alloc (.cells #[.int .u8 kd, .string tx, .slice pc nc cc, .slice pd nd cd] 47) = w3 := ⟨_, rfl⟩
    have HP3 : Hid (RAt w3 b s k2 n2 c) := Lib.hid (by rw [← hw3]; exact hP2.below (galloc (Below.refl _ _) _))
    have HB3 : Hid (But b W0 w3) := Lib.hid ((HB1.out.trans hb2).trans (by rw [← hw3]; exact But.of (galloc (Below.refl _ _) _)))
    have HW3 := Lib.hid hw3
    have HC := Lib.hid hc
    have e1 : (c == 0) = false := by simpa using hc
    have e2 : (c != 0) = true := by simpa using hc
    clear hE HWV hP2 hb2 hw3 hc
    go_wp2_with fail
    rw [HW3.out]
    refine (rblanks_err w3 b s k2 n2 c HP3.out HC.out).mono ?_
    rintro e w4 ⟨rfl, hP4, hb4⟩
    obtain ⟨p0, p1, p2, p3, pf⟩ := hP4.cells
    have HB4 := Lib.hid (HB3.out.trans hb4)
    obtain ⟨q0, q1, q2, q3, qf⟩ := zeros_at (HRW.out _ HB4.out)
    clear hP4 hb4
    go_wp2_with fail
    go_region
    all_goals go_wp2
    all_goals (
      obtain ⟨z0, z1, z2, z3⟩ := four_set (p := .int .u8 0) (q := .string ⟨#[]⟩) (u := .slice none 0 0) (v := .slice none 0 0) (HRW.out _ HB4.out)
      refine bodyPost_ret (v := .tuple #[.agg #[.int .u8 0, .string ⟨#[]⟩, .slice none 0 0, .slice none 0 0], .int .i64 c]) (by simp [results, Tryz.results37, go_sem, z0, z1, z2, z3]) rfl ?_
      exact HFIN.out w4.drew c (HB4.out.trans (But.of (Below.refl _ w4).drew)) HOE.out)
  | ok p =>
    obtain ⟨j, r, n⟩ := p
    rw [hE] at h2
    obtain ⟨k2, v, hk2, hk2s, hr2, rfl, hjv, hP2, hb2⟩ := h2
    obtain ⟨kd, tx, pc, nc, cc, pd, nd, cd, hva, hjA⟩ := jval_four hjv
    rw [hva]
    have HWV2 : Hid (O = outG (if skip (s.data.toList.drop k2) = [] then .ok (j, [], n) else .error 4)) := Lib.hid (by rw [HWV.out, hE, ← hr2])
    obtain ⟨w3, hw3⟩ : ∃ w3, w2.alloc (.cells #[.int .u8 kd, .string tx, .slice pc nc cc, .slice pd nd cd] 47) = w3 := ⟨_, rfl⟩
    have hb3 : Below w2.heap.size w2 w3 := by rw [← hw3]; exact galloc (Below.refl _ _) _
    have HP3 : Hid (RAt w3 b s k2 n 0) := Lib.hid (hP2.below hb3)
    have HB13 : Hid (But b w1 w3) := Lib.hid (hb2.trans (But.of hb3))
    have HB3 : Hid (But b W0 w3) := Lib.hid ((HB1.out.trans hb2).trans (But.of hb3))
    have hV3 : w3.heap[w2.heap.size]? = some (.cells #[.int .u8 kd, .string tx, .slice pc nc cc, .slice pd nd cd] 47 (0, 0)) := by rw [← hw3]; exact World.alloc_heap_new w2 _
    obtain ⟨V, hVe⟩ : ∃ V, w2.heap.size = V := ⟨_, rfl⟩
    rw [hVe] at hV3
    have HJ3 : Hid (JAt (fun g => w1.heap.size ≤ g) w3 j [.int .u8 kd, .string tx, .slice pc nc cc, .slice pd nd cd]) := Lib.hid (JAt.world ⟨hb3.size, fun i hi _ => hb3.block i hi⟩ j _ hjA)
    have HV3 := Lib.hid hV3
    have HVe := Lib.hid hVe
    have HW3 := Lib.hid hw3
    have hs1 : R + 2 ≤ w1.heap.size := by have := HB1.out.size; have := HWs.out; omega
    have hVR : R < V := by have := hb2.size; omega
    have hbV : b ≠ V := by have := Hbe.out; have := hb2.size; omega
    clear hE HWV hP2 hb2 hb3 hw3 hV3 hVe hjv hva hjA hr2
    go_wp2_with fail
    rw [HW3.out, HVe.out]
    refine (rblanks_any w3 b s k2 n HP3.out hk2s (by omega)).mono ?_
    rintro e w4 ⟨k4, hk4, hk4s, rfl, hP4, hb4, hd4⟩
    have HP4 := Lib.hid hP4
    obtain ⟨p0, p1, p2, p3, pf⟩ := hP4.cells
    have HB4 := Lib.hid (HB3.out.trans hb4)
    have HV4 := Lib.hid ((hb4.block V (Array.getElem?_eq_some_iff.1 HV3.out).1 (fun e => hbV e.symm)).trans HV3.out)
    have HJ4 : Hid (JAt (fun g => w1.heap.size ≤ g) w4 j [.int .u8 kd, .string tx, .slice pc nc cc, .slice pd nd cd]) := Lib.hid (JAt.world ⟨hb4.size, fun i hi h => hb4.block i hi (by have h : w1.heap.size ≤ i := h; have := Hbe.out; omega)⟩ j _ HJ3.out)
    have HWV3 : Hid (O = outG (if s.data.toList.drop k4 = [] then .ok (j, [], n) else .error 4)) := Lib.hid (by rw [HWV2.out, hd4])
    clear hP4 hb4 hd4 HWV2 HW3 HVe
    rcases Nat.lt_or_ge k4 s.size with hlt | hge
    · have hlt' : (k4 : Int) < (s.size : Int) := by omega
      have HOE : Hid (O = (.zero, 4)) := Lib.hid (by
        rw [HWV3.out, if_neg]
        · rfl
        · intro e
          have := congrArg List.length e
          rw [List.length_drop, ← Lib.size_eq] at this
          simp at this; omega)
      clear HWV3
      go_wp2_with fail
      refine (fail_any w4 b s k4 n 0 4 HP4.out).mono ?_
      rintro e w5 ⟨rfl, hP5, hb5⟩
      rw [if_pos rfl] at hP5
      obtain ⟨r0, r1, r2, r3, rf⟩ := hP5.cells
      have HB5 := Lib.hid (HB4.out.trans hb5)
      obtain ⟨q0, q1, q2, q3, qf⟩ := zeros_at (HRW.out _ HB5.out)
      clear hP5 hb5 p0 p1 p2 p3 pf
      go_wp2_with fail
      go_region
      all_goals go_wp2
      all_goals (
        obtain ⟨z0, z1, z2, z3⟩ := four_set (p := .int .u8 0) (q := .string ⟨#[]⟩) (u := .slice none 0 0) (v := .slice none 0 0) (HRW.out _ HB5.out)
        refine bodyPost_ret (v := .tuple #[.agg #[.int .u8 0, .string ⟨#[]⟩, .slice none 0 0, .slice none 0 0], .int .i64 4]) (by simp [results, Tryz.results37, go_sem, z0, z1, z2, z3]) rfl ?_
        exact HFIN.out w5.drew 4 (HB5.out.trans (But.of (Below.refl _ w5).drew)) HOE.out)
    · obtain rfl : k4 = s.size := by omega
      have hlt' : ¬ (s.size : Int) < (s.size : Int) := by omega
      have HOK : Hid (O = (j, 0)) := Lib.hid (by rw [HWV3.out, if_pos (List.drop_of_length_le (by rw [← Lib.size_eq]; exact Nat.le_refl _))]; rfl)
      obtain ⟨q0, q1, q2, q3, qf⟩ := zeros_at (HRW.out _ HB4.out)
      obtain ⟨v0, v1, v2, v3⟩ : w4.cell? ⟨V, 0, none⟩ = some (.int .u8 kd) ∧ w4.cell? ⟨V, 1, none⟩ = some (.string tx) ∧ w4.cell? ⟨V, 2, none⟩ = some (.slice pc nc cc) ∧ w4.cell? ⟨V, 3, none⟩ = some (.slice pd nd cd) :=
        ⟨by rw [cellH HV4.out]; rfl, by rw [cellH HV4.out]; rfl, by rw [cellH HV4.out]; rfl, by rw [cellH HV4.out]; rfl⟩
      clear HWV3
      go_wp2
      obtain ⟨z0, z1, z2, z3⟩ := four_set (p := .int .u8 kd) (q := .string tx) (u := .slice pc nc cc) (v := .slice pd nd cd) (HRW.out _ HB4.out)
      refine bodyPost_ret (v := .tuple #[.agg #[.int .u8 kd, .string tx, .slice pc nc cc, .slice pd nd cd], .int .i64 0]) (by simp [results, Tryz.results37, go_sem, z0, z1, z2, z3]) rfl ?_
      rw [HOK.out]
      refine ⟨_, rfl, ⟨_, _, _, _, rfl, ?_⟩, Below.four (HB0.out.trans (HB4.out.below (by have := Hbe.out; omega) (by have := HWs.out; omega))) hWR⟩
      refine JAt.mono (S := fun g => R + 1 ≤ g) (fun i _ h => by have h : R + 1 ≤ i := h; show W.heap.size ≤ i; omega) _ _ (jfour (JAt.mono (fun i _ h => by have h : w1.heap.size ≤ i := h; show R + 1 ≤ i; omega) _ _ HJ4.out))
end Go.Proofs.YtgcpgieojckheaaGreatDoor.Json
