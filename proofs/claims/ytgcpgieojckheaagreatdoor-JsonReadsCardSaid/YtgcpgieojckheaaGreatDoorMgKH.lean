/-
  The reference's value, all ways.
-/
import Derived.Test.YtgcpgieojckheaaGreatDoorMgKG
namespace Go.Proofs.YtgcpgieojckheaaGreatDoor.Json
open Go.RowKit Go.Shelf

theorem jval_four {S : Nat → Prop} {w : World} {j : Json.J} {v : Value} (h : JVal S w j v) : ∃ (kd : Nat) (tx : ByteArray) (pc : Option Addr) (nc cc : Nat) (pd : Option Addr) (nd cd : Nat), v = .agg #[.int .u8 kd, .string tx, .slice pc nc cc, .slice pd nd cd] ∧ JAt S w j [.int .u8 kd, .string tx, .slice pc nc cc, .slice pd nd cd] := by
  obtain ⟨va, vb, vc, vd, rfl, hj⟩ := h
  cases j with
  | mk kk tt ns ls =>
    have hj' := hj
    unfold JAt at hj
    obtain ⟨c, d, vs, he, ⟨_, pc, cc, hc, _⟩, ⟨_, pd, cd, hd, _⟩, _⟩ := hj
    simp only [List.cons.injEq, and_true] at he
    obtain ⟨rfl, rfl, rfl, rfl⟩ := he
    subst hc hd
    exact ⟨kk, ⟨tt.toArray⟩, pc, _, cc, pd, _, cd, rfl, hj'⟩
set_option maxRecDepth 100000 in
set_option maxHeartbeats 4000000 in
theorem rvalue_zero (W : World) (b : Nat) (s : ByteArray) (x n dp : Nat) (hn : n ≤ 65536) (hd : 64 < dp) (hdp : dp ≤ 1000) (h : RAt W b s x n 0) :
    Calls Tryz.prog 69 #[.pointer (some ⟨b, 0, none⟩), .int .i64 dp] W (RVal W b s x (.error 61)) := by
  have hblt := h.lt
  obtain ⟨W0, hW0⟩ : ∃ W0, W.alloc (Obj.cells #[Value.int IntKind.u8 0, Value.string { data := #[] }, Value.slice none 0 0, Value.slice none 0 0] 47) = W0 := ⟨_, rfl⟩
  have hb0 : Below W.heap.size W W0 := by rw [← hW0]; exact galloc (Below.refl _ _) _
  have hR0 : W0.heap[W.heap.size]? = some (.cells #[.int .u8 0, .string ⟨#[]⟩, .slice none 0 0, .slice none 0 0] 47 (0, 0)) := by rw [← hW0]; exact World.alloc_heap_new W _
  have hs0 : W0.heap.size = W.heap.size + 1 := by rw [← hW0]; simp
  have hP0 := h.below hb0
  obtain ⟨R, hR⟩ : ∃ R, W.heap.size = R := ⟨_, rfl⟩
  rw [hR] at hR0 hs0
  have hbR : b ≠ R := by omega
  have hWR : W.heap.size ≤ R := by omega
  have HRe := Lib.hid hR
  have HB0 := Lib.hid (But.of (b := b) hb0)
  have HP0 := Lib.hid hP0
  have HR := Lib.hid hR0
  have HW0 := Lib.hid hW0
  have HWs := Lib.hid hs0
  have HRW : Hid (∀ w, But b W0 w → w.heap[R]? = some (.cells #[.int .u8 0, .string ⟨#[]⟩, .slice none 0 0, .slice none 0 0] 47 (0, 0))) := Lib.hid (fun w hw => (hw.block R (by rw [hs0]; exact Nat.lt_succ_self _) (fun e => hbR e.symm)).trans hR0)
  clear h hb0 hP0 hR0 hW0 hs0 hR
  have hwn : IntKind.i64.wrap ((n : Int) + 1) = ((n + 1 : Nat) : Int) := by rw [IntWalk.i64_in _ (by omega)]; omega
  obtain ⟨n1, hn1⟩ : ∃ n1, n + 1 = n1 := ⟨_, rfl⟩
  rw [hn1] at hwn
  have hd' : (64 : Int) < (dp : Int) := by omega
  have HCC : Hid ((61 : Int) ≠ 0) := Lib.hid (by decide)
  have fin : Hid (∀ w, RAt w b s x n1 61 → But b W0 w → RVal W b s x (.error 61) (.returned (.agg #[.int .u8 0, .string ⟨#[]⟩, .slice none 0 0, .slice none 0 0])) ((((w.setCell ⟨R, 0, none⟩ (.int .u8 0)).setCell ⟨R, 1, none⟩ (.string ⟨#[]⟩)).setCell ⟨R, 2, none⟩ (.slice none 0 0)).setCell ⟨R, 3, none⟩ (.slice none 0 0))) := Lib.hid (fun w h1 h2 => rval_bad (kd := 0) (by decide) h1 (HB0.out.trans h2) hWR hbR)
  by_cases hm : 65536 < n1
  · have hm' : (65536 : Int) < (n1 : Int) := by omega
    clear hd hm hn1
    go_enter Tryz.func69, Tryz.ntmps69
    go_wp2_with fail
    rw [HW0.out, HRe.out]
    refine (fail_any W0 b s x n 0 61 HP0.out).mono ?_
    rintro e w1 ⟨rfl, hP1, hb1⟩
    rw [if_pos rfl] at hP1
    have HB1 := Lib.hid hb1
    obtain ⟨k0, k1, k2, k3, kf⟩ := hP1.cells
    have HP2 := Lib.hid (hP1.set2 n1)
    have HB2 := Lib.hid (hb1.trans (But.set b w1 2 (.int .i64 n1)))
    obtain ⟨m0, m1, m2, m3, mf⟩ := HP2.out.cells
    clear hP1 hb1
    go_wp2_with fail
    refine (fail_any _ b s x n1 61 40 HP2.out).mono ?_
    rintro e w3 ⟨rfl, hP3, hb3⟩
    rw [if_neg HCC.out] at hP3
    have HP3 := Lib.hid hP3
    have HB3 := Lib.hid (HB2.out.trans hb3)
    clear hP3 hb3
    obtain ⟨q0, q1, q2, q3, qf⟩ := zeros_at (HRW.out _ HB3.out)
    obtain ⟨j0, j1, j2, j3, jf⟩ := HP3.out.cells
    go_wp2
    obtain ⟨z0, z1, z2, z3⟩ := four_set (p := .int .u8 0) (q := .string ⟨#[]⟩) (u := .slice none 0 0) (v := .slice none 0 0) (HRW.out _ HB3.out)
    exact bodyPost_ret (v := .agg #[.int .u8 0, .string ⟨#[]⟩, .slice none 0 0, .slice none 0 0]) (by simp [results, Tryz.results69, go_sem, z0, z1, z2, z3]) rfl (fin.out _ HP3.out HB3.out)
  · have hm' : ¬ (65536 : Int) < (n1 : Int) := by omega
    clear hd hm hn1
    go_enter Tryz.func69, Tryz.ntmps69
    go_wp2_with fail
    rw [HW0.out, HRe.out]
    refine (fail_any W0 b s x n 0 61 HP0.out).mono ?_
    rintro e w1 ⟨rfl, hP1, hb1⟩
    rw [if_pos rfl] at hP1
    have HB1 := Lib.hid hb1
    obtain ⟨k0, k1, k2, k3, kf⟩ := hP1.cells
    have HP2 := Lib.hid (hP1.set2 n1)
    have HB2 := Lib.hid (hb1.trans (But.set b w1 2 (.int .i64 n1)))
    obtain ⟨m0, m1, m2, m3, mf⟩ := HP2.out.cells
    clear hP1 hb1
    obtain ⟨q0, q1, q2, q3, qf⟩ := zeros_at (HRW.out _ HB2.out)
    go_wp2
    obtain ⟨z0, z1, z2, z3⟩ := four_set (p := .int .u8 0) (q := .string ⟨#[]⟩) (u := .slice none 0 0) (v := .slice none 0 0) (HRW.out _ HB2.out)
    exact bodyPost_ret (v := .agg #[.int .u8 0, .string ⟨#[]⟩, .slice none 0 0, .slice none 0 0]) (by simp [results, Tryz.results69, go_sem, z0, z1, z2, z3]) rfl (fin.out _ HP2.out HB2.out)
set_option maxRecDepth 100000 in
set_option maxHeartbeats 16000000 in
theorem rvalue_one (d : Nat) (W : World) (b : Nat) (s : ByteArray) (x n dp : Nat) (hn : n ≤ 65536) (hd : dp ≤ 64) (b8 : 8 ≤ b) (hx : x ≤ s.size) (hz : s.size ≤ 30000) (h : RAt W b s x n 0) (hsk : skip (s.data.toList.drop x) = s.data.toList.drop x)
    (hV : ∀ x n w, x ≤ s.size → n ≤ 65536 → skip (s.data.toList.drop x) = s.data.toList.drop x → RAt w b s x n 0 → Calls Tryz.prog 69 #[.pointer (some ⟨b, 0, none⟩), .int .i64 ((dp + 1 : Nat) : Int)] w (RVal w b s x (value d (s.data.toList.drop x) n))) :
    Calls Tryz.prog 69 #[.pointer (some ⟨b, 0, none⟩), .int .i64 dp] W (RVal W b s x (value (d + 1) (s.data.toList.drop x) n)) := by
  obtain ⟨G, hG⟩ : ∃ G, value (d + 1) (s.data.toList.drop x) n = G := ⟨_, rfl⟩
  rw [hG]
  have hblt := h.lt
  obtain ⟨W0, hW0⟩ : ∃ W0, W.alloc (Obj.cells #[Value.int IntKind.u8 0, Value.string { data := #[] }, Value.slice none 0 0, Value.slice none 0 0] 47) = W0 := ⟨_, rfl⟩
  have hb0 : Below W.heap.size W W0 := by rw [← hW0]; exact galloc (Below.refl _ _) _
  have hR0 : W0.heap[W.heap.size]? = some (.cells #[.int .u8 0, .string ⟨#[]⟩, .slice none 0 0, .slice none 0 0] 47 (0, 0)) := by rw [← hW0]; exact World.alloc_heap_new W _
  have hs0 : W0.heap.size = W.heap.size + 1 := by rw [← hW0]; simp
  have hP0 := h.below hb0
  obtain ⟨R, hR⟩ : ∃ R, W.heap.size = R := ⟨_, rfl⟩
  rw [hR] at hR0 hs0
  have hbR : b ≠ R := by omega
  have hWR : W.heap.size ≤ R := by omega
  have HRe := Lib.hid hR
  have HB0 := Lib.hid (But.of (b := b) hb0)
  have HP0 := Lib.hid hP0
  have HR := Lib.hid hR0
  have HW0 := Lib.hid hW0
  have HWs := Lib.hid hs0
  have HRW : Hid (∀ w, But b W0 w → w.heap[R]? = some (.cells #[.int .u8 0, .string ⟨#[]⟩, .slice none 0 0, .slice none 0 0] 47 (0, 0))) := Lib.hid (fun w hw => (hw.block R (by rw [hs0]; exact Nat.lt_succ_self _) (fun e => hbR e.symm)).trans hR0)
  clear h hb0 hP0 hR0 hW0 hs0 hR
  have hwn : IntKind.i64.wrap ((n : Int) + 1) = ((n + 1 : Nat) : Int) := by rw [IntWalk.i64_in _ (by omega)]; omega
  obtain ⟨n1, hn1⟩ : ∃ n1, n + 1 = n1 := ⟨_, rfl⟩
  rw [hn1] at hwn
  have hd' : ¬ (64 : Int) < (dp : Int) := by omega
  have HG := Lib.hid hG
  have HV := Lib.hid hV
  have HSK := Lib.hid hsk
  clear hG hV hsk
  obtain ⟨w1, hW1⟩ : ∃ w1, W.alloc (Obj.cells #[Value.int IntKind.u8 0, Value.string { data := #[] }, Value.slice none 0 0, Value.slice none 0 0] 47) = w1 := ⟨_, rfl⟩
  have hw1 : w1 = W0 := by rw [← hW1]; exact HW0.out
  have hb1 : But b W0 w1 := by rw [hw1]; exact But.refl _ _
  have hP1 : RAt w1 b s x n 0 := by rw [hw1]; exact HP0.out
  have hRe := HRe.out
  clear hw1 HW0
  obtain ⟨k0, k1, k2, k3, kf⟩ := hP1.cells
  obtain ⟨w2, hW2⟩ : ∃ w2, w1.setCell ⟨b, 2, none⟩ (.int .i64 n1) = w2 := ⟨_, rfl⟩
  have hP2 : RAt w2 b s x n1 0 := by rw [← hW2]; exact hP1.set2 n1
  have hB2 : But b W0 w2 := by rw [← hW2]; exact hb1.trans (But.set b w1 2 (.int .i64 n1))
  obtain ⟨m0, m1, m2, m3, mf⟩ := hP2.cells
  have HP2 := Lib.hid hP2
  have HB2 := Lib.hid hB2
  clear hP1 hb1 hP2 hB2
  by_cases hm : 65536 < n1
  · have hm' : (65536 : Int) < (n1 : Int) := by omega
    have HGE : Hid (G = .error 40) := Lib.hid (by rw [← HG.out, value_few _ (by omega)])
    clear hn1 HG HV HSK hm
    go_enter Tryz.func69, Tryz.ntmps69
    go_wp2_with fail
    refine (fail_any w2 b s x n1 0 40 HP2.out).mono ?_
    rintro e w3 ⟨rfl, hP3, hb3⟩
    rw [if_pos rfl] at hP3
    have HP3 := Lib.hid hP3
    have HB3 := Lib.hid (HB2.out.trans hb3)
    clear hP3 hb3 k0 k1 k2 k3 kf m0 m1 m2 m3 mf
    obtain ⟨q0, q1, q2, q3, qf⟩ := zeros_at (HRW.out _ HB3.out)
    obtain ⟨j0, j1, j2, j3, jf⟩ := HP3.out.cells
    go_wp2
    obtain ⟨z0, z1, z2, z3⟩ := four_set (p := .int .u8 0) (q := .string ⟨#[]⟩) (u := .slice none 0 0) (v := .slice none 0 0) (HRW.out _ HB3.out)
    rw [HGE.out]
    exact bodyPost_ret (v := .agg #[.int .u8 0, .string ⟨#[]⟩, .slice none 0 0, .slice none 0 0]) (by simp [results, Tryz.results69, go_sem, z0, z1, z2, z3]) rfl (rval_bad (kd := 0) (by decide) HP3.out (HB0.out.trans HB3.out) hWR hbR)
  · have hm' : ¬ (65536 : Int) < (n1 : Int) := by omega
    have hn65 : n < 65536 := by omega
    by_cases h1 : ∃ r, s.data.toList.drop x = [110, 117, 108, 108] ++ r
    · obtain ⟨r, hr⟩ := h1
      have hlen := congrArg List.length hr
      rw [List.length_drop, ← Lib.size_eq, List.length_append] at hlen
      have hxp : x + 4 ≤ s.size := by simp at hlen; omega
      have hdp : s.data.toList.drop (x + 4) = r := by rw [← List.drop_drop, hr]; rfl
      have HG2 : Hid (G = .ok (.mk 1 [] [] [], s.data.toList.drop (x + 4), n1)) := Lib.hid (by rw [← HG.out, hr, value_110 hn65 (by rw [← hr, HSK.out, hr]; rfl), ← hn1, hdp]; exact word_yes (p := [110, 117, 108, 108]))
      have HY : Hid (∀ w, RAt w b s x n1 0 → Calls Tryz.prog 106 #[.pointer (some ⟨b, 0, none⟩), .string ⟨#[110, 117, 108, 108]⟩] w fun e w' => e = .returned (.bool true) ∧ RAt w' b s (x + 4) n1 0 ∧ But b w w') := Lib.hid (fun w hw => rtake_yes w b s [110, 117, 108, 108] x n1 r hw (by omega) (by simp) hr hx)
      clear hr hlen hdp hn1 HG HV HSK hm
      go_enter Tryz.func69, Tryz.ntmps69
      have ht := HY.out w2 HP2.out
      go_wp2_with fail
      refine ht.mono ?_
      rintro e w3 ⟨rfl, hP, hb⟩
      have HP3 := Lib.hid hP
      have HB3 := Lib.hid (HB2.out.trans hb)
      clear hP hb ht
      clear k0 k1 k2 k3 kf m0 m1 m2 m3 mf
      obtain ⟨q0, q1, q2, q3, qf⟩ := zeros_at (HRW.out _ HB3.out)
      go_wp2
      obtain ⟨z0, z1, z2, z3⟩ := four_set (p := .int .u8 1) (q := .string ⟨#[]⟩) (u := .slice none 0 0) (v := .slice none 0 0) (HRW.out _ HB3.out)
      rw [HG2.out]
      exact bodyPost_ret (v := .agg #[.int .u8 1, .string ⟨#[]⟩, .slice none 0 0, .slice none 0 0]) (by simp [results, Tryz.results69, go_sem, z0, z1, z2, z3]) rfl (rval_ok (kd := 1) (Nat.le_add_right x 4) hxp rfl (jleaf _ _ 1 []) HP3.out (HB0.out.trans HB3.out) hWR hbR)
    by_cases h2 : ∃ r, s.data.toList.drop x = [116, 114, 117, 101] ++ r
    · obtain ⟨r, hr⟩ := h2
      have hlen := congrArg List.length hr
      rw [List.length_drop, ← Lib.size_eq, List.length_append] at hlen
      have hxp : x + 4 ≤ s.size := by simp at hlen; omega
      have hdp : s.data.toList.drop (x + 4) = r := by rw [← List.drop_drop, hr]; rfl
      have HG2 : Hid (G = .ok (.mk 2 [] [] [], s.data.toList.drop (x + 4), n1)) := Lib.hid (by rw [← HG.out, hr, value_116 hn65 (by rw [← hr, HSK.out, hr]; rfl), ← hn1, hdp]; exact word_yes (p := [116, 114, 117, 101]))
      have HT1 : Hid (∀ w, RAt w b s x n1 0 → Calls Tryz.prog 106 #[.pointer (some ⟨b, 0, none⟩), .string ⟨#[110, 117, 108, 108]⟩] w fun e w' => e = .returned (.bool false) ∧ Below w.heap.size w w') := Lib.hid (fun w hw => rtake_no w b s [110, 117, 108, 108] x n1 hw hx (by omega) (by simp) (fun r e => h1 ⟨r, e⟩))
      have HY : Hid (∀ w, RAt w b s x n1 0 → Calls Tryz.prog 106 #[.pointer (some ⟨b, 0, none⟩), .string ⟨#[116, 114, 117, 101]⟩] w fun e w' => e = .returned (.bool true) ∧ RAt w' b s (x + 4) n1 0 ∧ But b w w') := Lib.hid (fun w hw => rtake_yes w b s [116, 114, 117, 101] x n1 r hw (by omega) (by simp) hr hx)
      clear hr hlen hdp hn1 HG HV HSK hm
      go_enter Tryz.func69, Tryz.ntmps69
      have ht := HT1.out w2 HP2.out
      go_wp2_with fail
      refine ht.mono ?_
      rintro e w3 ⟨rfl, hb⟩
      have HP3 := Lib.hid (HP2.out.below hb)
      have HB3 := Lib.hid (HB2.out.trans (But.of hb))
      clear hb ht
      have ht := HY.out w3 HP3.out
      go_wp2_with fail
      refine ht.mono ?_
      rintro e w4 ⟨rfl, hP, hb⟩
      have HP4 := Lib.hid hP
      have HB4 := Lib.hid (HB3.out.trans hb)
      clear hP hb ht
      clear k0 k1 k2 k3 kf m0 m1 m2 m3 mf
      obtain ⟨q0, q1, q2, q3, qf⟩ := zeros_at (HRW.out _ HB4.out)
      go_wp2
      obtain ⟨z0, z1, z2, z3⟩ := four_set (p := .int .u8 2) (q := .string ⟨#[]⟩) (u := .slice none 0 0) (v := .slice none 0 0) (HRW.out _ HB4.out)
      rw [HG2.out]
      exact bodyPost_ret (v := .agg #[.int .u8 2, .string ⟨#[]⟩, .slice none 0 0, .slice none 0 0]) (by simp [results, Tryz.results69, go_sem, z0, z1, z2, z3]) rfl (rval_ok (kd := 2) (Nat.le_add_right x 4) hxp rfl (jleaf _ _ 2 []) HP4.out (HB0.out.trans HB4.out) hWR hbR)
    by_cases h3 : ∃ r, s.data.toList.drop x = [102, 97, 108, 115, 101] ++ r
    · obtain ⟨r, hr⟩ := h3
      have hlen := congrArg List.length hr
      rw [List.length_drop, ← Lib.size_eq, List.length_append] at hlen
      have hxp : x + 5 ≤ s.size := by simp at hlen; omega
      have hdp : s.data.toList.drop (x + 5) = r := by rw [← List.drop_drop, hr]; rfl
      have HG2 : Hid (G = .ok (.mk 3 [] [] [], s.data.toList.drop (x + 5), n1)) := Lib.hid (by rw [← HG.out, hr, value_102 hn65 (by rw [← hr, HSK.out, hr]; rfl), ← hn1, hdp]; exact word_yes (p := [102, 97, 108, 115, 101]))
      have HT1 : Hid (∀ w, RAt w b s x n1 0 → Calls Tryz.prog 106 #[.pointer (some ⟨b, 0, none⟩), .string ⟨#[110, 117, 108, 108]⟩] w fun e w' => e = .returned (.bool false) ∧ Below w.heap.size w w') := Lib.hid (fun w hw => rtake_no w b s [110, 117, 108, 108] x n1 hw hx (by omega) (by simp) (fun r e => h1 ⟨r, e⟩))
      have HT2 : Hid (∀ w, RAt w b s x n1 0 → Calls Tryz.prog 106 #[.pointer (some ⟨b, 0, none⟩), .string ⟨#[116, 114, 117, 101]⟩] w fun e w' => e = .returned (.bool false) ∧ Below w.heap.size w w') := Lib.hid (fun w hw => rtake_no w b s [116, 114, 117, 101] x n1 hw hx (by omega) (by simp) (fun r e => h2 ⟨r, e⟩))
      have HY : Hid (∀ w, RAt w b s x n1 0 → Calls Tryz.prog 106 #[.pointer (some ⟨b, 0, none⟩), .string ⟨#[102, 97, 108, 115, 101]⟩] w fun e w' => e = .returned (.bool true) ∧ RAt w' b s (x + 5) n1 0 ∧ But b w w') := Lib.hid (fun w hw => rtake_yes w b s [102, 97, 108, 115, 101] x n1 r hw (by omega) (by simp) hr hx)
      clear hr hlen hdp hn1 HG HV HSK hm
      go_enter Tryz.func69, Tryz.ntmps69
      have ht := HT1.out w2 HP2.out
      go_wp2_with fail
      refine ht.mono ?_
      rintro e w3 ⟨rfl, hb⟩
      have HP3 := Lib.hid (HP2.out.below hb)
      have HB3 := Lib.hid (HB2.out.trans (But.of hb))
      clear hb ht
      have ht := HT2.out w3 HP3.out
      go_wp2_with fail
      refine ht.mono ?_
      rintro e w4 ⟨rfl, hb⟩
      have HP4 := Lib.hid (HP3.out.below hb)
      have HB4 := Lib.hid (HB3.out.trans (But.of hb))
      clear hb ht
      have ht := HY.out w4 HP4.out
      go_wp2_with fail
      refine ht.mono ?_
      rintro e w5 ⟨rfl, hP, hb⟩
      have HP5 := Lib.hid hP
      have HB5 := Lib.hid (HB4.out.trans hb)
      clear hP hb ht
      clear k0 k1 k2 k3 kf m0 m1 m2 m3 mf
      obtain ⟨q0, q1, q2, q3, qf⟩ := zeros_at (HRW.out _ HB5.out)
      go_wp2
      obtain ⟨z0, z1, z2, z3⟩ := four_set (p := .int .u8 3) (q := .string ⟨#[]⟩) (u := .slice none 0 0) (v := .slice none 0 0) (HRW.out _ HB5.out)
      rw [HG2.out]
      exact bodyPost_ret (v := .agg #[.int .u8 3, .string ⟨#[]⟩, .slice none 0 0, .slice none 0 0]) (by simp [results, Tryz.results69, go_sem, z0, z1, z2, z3]) rfl (rval_ok (kd := 3) (Nat.le_add_right x 5) hxp rfl (jleaf _ _ 3 []) HP5.out (HB0.out.trans HB5.out) hWR hbR)
    by_cases h4 : ∃ r, s.data.toList.drop x = 34 :: r
    · obtain ⟨r, hr⟩ := h4
      have HG2 : Hid (G = strV n1 (quoted (s.data.toList.drop x))) := Lib.hid (by rw [← HG.out, hr, value_34 hn65 (by rw [← hr, HSK.out, hr]), ← hn1])
      have HN : Hid (nextN (s.data.toList.drop x) = 34) := Lib.hid (by rw [hr]; rfl)
      have HT1 : Hid (∀ w, RAt w b s x n1 0 → Calls Tryz.prog 106 #[.pointer (some ⟨b, 0, none⟩), .string ⟨#[110, 117, 108, 108]⟩] w fun e w' => e = .returned (.bool false) ∧ Below w.heap.size w w') := Lib.hid (fun w hw => rtake_no w b s [110, 117, 108, 108] x n1 hw hx (by omega) (by simp) (fun r e => h1 ⟨r, e⟩))
      have HT2 : Hid (∀ w, RAt w b s x n1 0 → Calls Tryz.prog 106 #[.pointer (some ⟨b, 0, none⟩), .string ⟨#[116, 114, 117, 101]⟩] w fun e w' => e = .returned (.bool false) ∧ Below w.heap.size w w') := Lib.hid (fun w hw => rtake_no w b s [116, 114, 117, 101] x n1 hw hx (by omega) (by simp) (fun r e => h2 ⟨r, e⟩))
      have HT3 : Hid (∀ w, RAt w b s x n1 0 → Calls Tryz.prog 106 #[.pointer (some ⟨b, 0, none⟩), .string ⟨#[102, 97, 108, 115, 101]⟩] w fun e w' => e = .returned (.bool false) ∧ Below w.heap.size w w') := Lib.hid (fun w hw => rtake_no w b s [102, 97, 108, 115, 101] x n1 hw hx (by omega) (by simp) (fun r e => h3 ⟨r, e⟩))
      clear hr hn1 HG HV HSK hm
      go_enter Tryz.func69, Tryz.ntmps69
      have ht := HT1.out w2 HP2.out
      go_wp2_with fail
      refine ht.mono ?_
      rintro e w3 ⟨rfl, hb⟩
      have HP3 := Lib.hid (HP2.out.below hb)
      have HB3 := Lib.hid (HB2.out.trans (But.of hb))
      clear hb ht
      have ht := HT2.out w3 HP3.out
      go_wp2_with fail
      refine ht.mono ?_
      rintro e w4 ⟨rfl, hb⟩
      have HP4 := Lib.hid (HP3.out.below hb)
      have HB4 := Lib.hid (HB3.out.trans (But.of hb))
      clear hb ht
      have ht := HT3.out w4 HP4.out
      go_wp2_with fail
      refine ht.mono ?_
      rintro e w5 ⟨rfl, hb⟩
      have HP5 := Lib.hid (HP4.out.below hb)
      have HB5 := Lib.hid (HB4.out.trans (But.of hb))
      clear hb ht
      have hnx := rnext_any w5 b s x n1 HP5.out hx
      rw [HN.out] at hnx
      go_wp2_with fail
      refine hnx.mono ?_
      rintro e w6 ⟨rfl, hb⟩
      have HP6 := Lib.hid (HP5.out.below hb)
      have HB6 := Lib.hid (HB5.out.trans (But.of hb))
      clear hb hnx
      go_wp2_with fail
      refine (rstr_any w6 b s x n1 HP6.out b8 hx hz).mono ?_
      intro e w7 h7
      clear k0 k1 k2 k3 kf m0 m1 m2 m3 mf
      generalize quoted (s.data.toList.drop x) = Q5 at h7 HG2
      cases Q5 with
      | none =>
        obtain ⟨kA, T, rfl, hPA, hbA⟩ := h7
        have HPA := Lib.hid hPA
        have HBA := Lib.hid (HB6.out.trans hbA)
        clear hPA hbA
        obtain ⟨q0, q1, q2, q3, qf⟩ := zeros_at (HRW.out _ HBA.out)
        go_wp2
        obtain ⟨z0, z1, z2, z3⟩ := four_set (p := .int .u8 5) (q := .string T) (u := .slice none 0 0) (v := .slice none 0 0) (HRW.out _ HBA.out)
        rw [HG2.out]
        exact bodyPost_ret (v := .agg #[.int .u8 5, .string T, .slice none 0 0, .slice none 0 0]) (by simp [results, Tryz.results69, go_sem, z0, z1, z2, z3]) rfl (rval_bad (kd := 5) (by decide) HPA.out (HB0.out.trans HBA.out) hWR hbR)
      | some p =>
        obtain ⟨t, r⟩ := p
        obtain ⟨kA, hkA, hkAs, hrA, rfl, hPA, hbA⟩ := h7
        have HPA := Lib.hid hPA
        have HBA := Lib.hid (HB6.out.trans hbA)
        obtain ⟨T, hT⟩ : ∃ T : ByteArray, (⟨t.toArray⟩ : ByteArray) = T := ⟨_, rfl⟩
        have HBT : Hid (bl t = .string T) := Lib.hid (by unfold bl; rw [hT])
        rw [HBT.out]
        have HRA := Lib.hid hrA
        clear hPA hbA hT hrA
        obtain ⟨q0, q1, q2, q3, qf⟩ := zeros_at (HRW.out _ HBA.out)
        go_wp2
        obtain ⟨z0, z1, z2, z3⟩ := four_set (p := .int .u8 5) (q := .string T) (u := .slice none 0 0) (v := .slice none 0 0) (HRW.out _ HBA.out)
        rw [HG2.out]
        exact bodyPost_ret (v := .agg #[.int .u8 5, .string T, .slice none 0 0, .slice none 0 0]) (by simp [results, Tryz.results69, go_sem, z0, z1, z2, z3]) rfl (rval_ok (kd := 5) hkA hkAs HRA.out (by rw [← HBT.out]; exact jleaf _ _ 5 t) HPA.out (HB0.out.trans HBA.out) hWR hbR)
    by_cases h5 : ∃ r, s.data.toList.drop x = 91 :: r
    · obtain ⟨r, hr⟩ := h5
      have hdc := drop_cons hr
      have hx1 : x + 1 ≤ s.size := by have := hdc.1; rw [← Lib.size_eq] at this; omega
      have HG2 : Hid (G = arrV (listL (elA (value d)) 93 [] (s.data.toList.drop (x + 1)) n1)) := Lib.hid (by rw [← HG.out, value_arr hn65 (by rw [HSK.out]; exact hr), ← hn1, ← hdc.2.2])
      have HN : Hid (∀ r, s.data.toList.drop x ≠ 34 :: r) := Lib.hid (fun r e => h4 ⟨r, e⟩)
      have HT1 : Hid (∀ w, RAt w b s x n1 0 → Calls Tryz.prog 106 #[.pointer (some ⟨b, 0, none⟩), .string ⟨#[110, 117, 108, 108]⟩] w fun e w' => e = .returned (.bool false) ∧ Below w.heap.size w w') := Lib.hid (fun w hw => rtake_no w b s [110, 117, 108, 108] x n1 hw hx (by omega) (by simp) (fun r e => h1 ⟨r, e⟩))
      have HT2 : Hid (∀ w, RAt w b s x n1 0 → Calls Tryz.prog 106 #[.pointer (some ⟨b, 0, none⟩), .string ⟨#[116, 114, 117, 101]⟩] w fun e w' => e = .returned (.bool false) ∧ Below w.heap.size w w') := Lib.hid (fun w hw => rtake_no w b s [116, 114, 117, 101] x n1 hw hx (by omega) (by simp) (fun r e => h2 ⟨r, e⟩))
      have HT3 : Hid (∀ w, RAt w b s x n1 0 → Calls Tryz.prog 106 #[.pointer (some ⟨b, 0, none⟩), .string ⟨#[102, 97, 108, 115, 101]⟩] w fun e w' => e = .returned (.bool false) ∧ Below w.heap.size w w') := Lib.hid (fun w hw => rtake_no w b s [102, 97, 108, 115, 101] x n1 hw hx (by omega) (by simp) (fun r e => h3 ⟨r, e⟩))
      have HY : Hid (∀ w, RAt w b s x n1 0 → Calls Tryz.prog 106 #[.pointer (some ⟨b, 0, none⟩), .string ⟨#[91]⟩] w fun e w' => e = .returned (.bool true) ∧ RAt w' b s (x + 1) n1 0 ∧ But b w w') := Lib.hid (fun w hw => rtake_yes w b s [91] x n1 r hw (by omega) (by simp) hr hx)
      clear hr hdc hn1 HG HSK hm h1 h2 h3 h4
      go_enter Tryz.func69, Tryz.ntmps69
      have ht := HT1.out w2 HP2.out
      go_wp2_with fail
      refine ht.mono ?_
      rintro e w3 ⟨rfl, hb⟩
      have HP3 := Lib.hid (HP2.out.below hb)
      have HB3 := Lib.hid (HB2.out.trans (But.of hb))
      clear hb ht
      have ht := HT2.out w3 HP3.out
      go_wp2_with fail
      refine ht.mono ?_
      rintro e w4 ⟨rfl, hb⟩
      have HP4 := Lib.hid (HP3.out.below hb)
      have HB4 := Lib.hid (HB3.out.trans (But.of hb))
      clear hb ht
      have ht := HT3.out w4 HP4.out
      go_wp2_with fail
      refine ht.mono ?_
      rintro e w5 ⟨rfl, hb⟩
      have HP5 := Lib.hid (HP4.out.below hb)
      have HB5 := Lib.hid (HB4.out.trans (But.of hb))
      clear hb ht
      have hnx := rnext_any w5 b s x n1 HP5.out hx
      have e34 := next_ne HN.out (n := 34) rfl (by decide)
      generalize nextN (s.data.toList.drop x) = NN at hnx e34
      go_wp2_with fail
      refine hnx.mono ?_
      rintro e w6 ⟨rfl, hb⟩
      have HP6 := Lib.hid (HP5.out.below hb)
      have HB6 := Lib.hid (HB5.out.trans (But.of hb))
      clear hb hnx
      have ht := HY.out w6 HP6.out
      go_wp2_with fail
      refine ht.mono ?_
      rintro e w7 ⟨rfl, hP, hb⟩
      have HP7 := Lib.hid hP
      have HB7 := Lib.hid (HB6.out.trans hb)
      clear hP hb ht
      clear k0 k1 k2 k3 kf m0 m1 m2 m3 mf
      go_wp2_with fail
      refine (rlist_arr (v := value d) w7 b s (x + 1) n1 dp HP7.out hx1 hz (by omega) (by omega) (value_uses d) (value_skip d) (fun l n j r n2 h => (value_fine d l n j r n2 h).2.2.2.2) HV.out).mono ?_
      intro e w9 h9
      generalize listL (elA (value d)) 93 [] (s.data.toList.drop (x + 1)) n1 = G5 at h9 HG2
      cases G5 with
      | error c =>
        obtain ⟨hc, kA, nA, rfl, hPA, hbA⟩ := h9
        have HPA := Lib.hid hPA
        have HCA := Lib.hid hc
        have HBA := Lib.hid (HB7.out.trans hbA)
        clear hPA hbA hc
        obtain ⟨q0, q1, q2, q3, qf⟩ := zeros_at (HRW.out _ HBA.out)
        go_wp2
        obtain ⟨z0, z1, z2, z3⟩ := four_set (p := .int .u8 6) (q := .string ⟨#[]⟩) (u := .slice none 0 0) (v := .slice none 0 0) (HRW.out _ HBA.out)
        rw [HG2.out]
        exact bodyPost_ret (v := .agg #[.int .u8 6, .string ⟨#[]⟩, .slice none 0 0, .slice none 0 0]) (by simp [results, Tryz.results69, go_sem, z0, z1, z2, z3]) rfl (rval_bad (kd := 6) HCA.out HPA.out (HB0.out.trans HBA.out) hWR hbR)
      | ok p =>
        obtain ⟨js, r, n2⟩ := p
        obtain ⟨kA, pd, cd, hkA, hkAs, hrA, rfl, hrow, hPA, hbA⟩ := h9
        have HPA := Lib.hid hPA
        have HBA := Lib.hid (HB7.out.trans hbA)
        have HRA := Lib.hid hrA
        have HJA : Hid (JAt (fun g => R + 1 ≤ g) w9 (.mk 6 [] [] js) [.int .u8 6, .string ⟨#[]⟩, .slice none 0 0, .slice pd js.length cd]) := Lib.hid (by
          have hsw : R + 1 ≤ w7.heap.size := by have := HB7.out.size; rw [HWs.out] at this; exact this
          obtain ⟨vs, g1, g2⟩ := hrow
          unfold JAt
          exact ⟨_, _, vs, rfl, SlIn.nil _ _ _, g1.mono (fun k _ h => Nat.le_trans hsw h), JsAt.mono (fun k _ h => Nat.le_trans hsw h) js vs g2⟩)
        clear hPA hbA hrA hrow
        obtain ⟨q0, q1, q2, q3, qf⟩ := zeros_at (HRW.out _ HBA.out)
        go_wp2
        obtain ⟨z0, z1, z2, z3⟩ := four_set (p := .int .u8 6) (q := .string ⟨#[]⟩) (u := .slice none 0 0) (v := .slice pd js.length cd) (HRW.out _ HBA.out)
        rw [HG2.out]
        exact bodyPost_ret (v := .agg #[.int .u8 6, .string ⟨#[]⟩, .slice none 0 0, .slice pd js.length cd]) (by simp [results, Tryz.results69, go_sem, z0, z1, z2, z3]) rfl (rval_ok (kd := 6) (Nat.le_trans (Nat.le_succ x) hkA) hkAs HRA.out HJA.out HPA.out (HB0.out.trans HBA.out) hWR hbR)
    by_cases h6 : ∃ r, s.data.toList.drop x = 123 :: r
    · obtain ⟨r, hr⟩ := h6
      have hdc := drop_cons hr
      have hx1 : x + 1 ≤ s.size := by have := hdc.1; rw [← Lib.size_eq] at this; omega
      have HG2 : Hid (G = objV (listL (elM (value d)) 125 ([], []) (s.data.toList.drop (x + 1)) n1)) := Lib.hid (by rw [← HG.out, value_obj hn65 (by rw [HSK.out]; exact hr), ← hn1, ← hdc.2.2])
      have HN : Hid (∀ r, s.data.toList.drop x ≠ 34 :: r) := Lib.hid (fun r e => h4 ⟨r, e⟩)
      have HT1 : Hid (∀ w, RAt w b s x n1 0 → Calls Tryz.prog 106 #[.pointer (some ⟨b, 0, none⟩), .string ⟨#[110, 117, 108, 108]⟩] w fun e w' => e = .returned (.bool false) ∧ Below w.heap.size w w') := Lib.hid (fun w hw => rtake_no w b s [110, 117, 108, 108] x n1 hw hx (by omega) (by simp) (fun r e => h1 ⟨r, e⟩))
      have HT2 : Hid (∀ w, RAt w b s x n1 0 → Calls Tryz.prog 106 #[.pointer (some ⟨b, 0, none⟩), .string ⟨#[116, 114, 117, 101]⟩] w fun e w' => e = .returned (.bool false) ∧ Below w.heap.size w w') := Lib.hid (fun w hw => rtake_no w b s [116, 114, 117, 101] x n1 hw hx (by omega) (by simp) (fun r e => h2 ⟨r, e⟩))
      have HT3 : Hid (∀ w, RAt w b s x n1 0 → Calls Tryz.prog 106 #[.pointer (some ⟨b, 0, none⟩), .string ⟨#[102, 97, 108, 115, 101]⟩] w fun e w' => e = .returned (.bool false) ∧ Below w.heap.size w w') := Lib.hid (fun w hw => rtake_no w b s [102, 97, 108, 115, 101] x n1 hw hx (by omega) (by simp) (fun r e => h3 ⟨r, e⟩))
      have HT5 : Hid (∀ w, RAt w b s x n1 0 → Calls Tryz.prog 106 #[.pointer (some ⟨b, 0, none⟩), .string ⟨#[91]⟩] w fun e w' => e = .returned (.bool false) ∧ Below w.heap.size w w') := Lib.hid (fun w hw => rtake_no w b s [91] x n1 hw hx (by omega) (by simp) (fun r e => h5 ⟨r, e⟩))
      have HY : Hid (∀ w, RAt w b s x n1 0 → Calls Tryz.prog 106 #[.pointer (some ⟨b, 0, none⟩), .string ⟨#[123]⟩] w fun e w' => e = .returned (.bool true) ∧ RAt w' b s (x + 1) n1 0 ∧ But b w w') := Lib.hid (fun w hw => rtake_yes w b s [123] x n1 r hw (by omega) (by simp) hr hx)
      clear hr hdc hn1 HG HSK hm h1 h2 h3 h4 h5
      go_enter Tryz.func69, Tryz.ntmps69
      have ht := HT1.out w2 HP2.out
      go_wp2_with fail
      refine ht.mono ?_
      rintro e w3 ⟨rfl, hb⟩
      have HP3 := Lib.hid (HP2.out.below hb)
      have HB3 := Lib.hid (HB2.out.trans (But.of hb))
      clear hb ht
      have ht := HT2.out w3 HP3.out
      go_wp2_with fail
      refine ht.mono ?_
      rintro e w4 ⟨rfl, hb⟩
      have HP4 := Lib.hid (HP3.out.below hb)
      have HB4 := Lib.hid (HB3.out.trans (But.of hb))
      clear hb ht
      have ht := HT3.out w4 HP4.out
      go_wp2_with fail
      refine ht.mono ?_
      rintro e w5 ⟨rfl, hb⟩
      have HP5 := Lib.hid (HP4.out.below hb)
      have HB5 := Lib.hid (HB4.out.trans (But.of hb))
      clear hb ht
      have hnx := rnext_any w5 b s x n1 HP5.out hx
      have e34 := next_ne HN.out (n := 34) rfl (by decide)
      generalize nextN (s.data.toList.drop x) = NN at hnx e34
      go_wp2_with fail
      refine hnx.mono ?_
      rintro e w6 ⟨rfl, hb⟩
      have HP6 := Lib.hid (HP5.out.below hb)
      have HB6 := Lib.hid (HB5.out.trans (But.of hb))
      clear hb hnx
      have ht := HT5.out w6 HP6.out
      go_wp2_with fail
      refine ht.mono ?_
      rintro e w7 ⟨rfl, hb⟩
      have HP7 := Lib.hid (HP6.out.below hb)
      have HB7 := Lib.hid (HB6.out.trans (But.of hb))
      clear hb ht
      have ht := HY.out w7 HP7.out
      go_wp2_with fail
      refine ht.mono ?_
      rintro e w8 ⟨rfl, hP, hb⟩
      have HP8 := Lib.hid hP
      have HB8 := Lib.hid (HB7.out.trans hb)
      clear hP hb ht
      clear k0 k1 k2 k3 kf m0 m1 m2 m3 mf
      go_wp2_with fail
      refine (rlist_obj (v := value d) w8 b s (x + 1) n1 dp HP8.out b8 hx1 hz (by omega) (by omega) (value_uses d) (value_skip d) (fun l n j r n2 h => (value_fine d l n j r n2 h).2.2.2.2) HV.out (fun k n c w hc hn h => rvalue_err w b s k n (dp + 1) c hc hn (by omega) h)).mono ?_
      intro e w9 h9
      generalize listL (elM (value d)) 125 ([], []) (s.data.toList.drop (x + 1)) n1 = G5 at h9 HG2
      cases G5 with
      | error c =>
        obtain ⟨hc, kA, nA, rfl, hPA, hbA⟩ := h9
        have HPA := Lib.hid hPA
        have HCA := Lib.hid hc
        have HBA := Lib.hid (HB8.out.trans hbA)
        clear hPA hbA hc
        obtain ⟨q0, q1, q2, q3, qf⟩ := zeros_at (HRW.out _ HBA.out)
        go_wp2
        obtain ⟨z0, z1, z2, z3⟩ := four_set (p := .int .u8 7) (q := .string ⟨#[]⟩) (u := .slice none 0 0) (v := .slice none 0 0) (HRW.out _ HBA.out)
        rw [HG2.out]
        exact bodyPost_ret (v := .agg #[.int .u8 7, .string ⟨#[]⟩, .slice none 0 0, .slice none 0 0]) (by simp [results, Tryz.results69, go_sem, z0, z1, z2, z3]) rfl (rval_bad (kd := 7) HCA.out HPA.out (HB0.out.trans HBA.out) hWR hbR)
      | ok p =>
        obtain ⟨⟨ns, js⟩, r, n2⟩ := p
        obtain ⟨kA, pc, cc, pd, cd, hkA, hkAs, hrA, rfl, hnam, hrow, hPA, hbA⟩ := h9
        have HPA := Lib.hid hPA
        have HBA := Lib.hid (HB8.out.trans hbA)
        have HRA := Lib.hid hrA
        have HJA : Hid (JAt (fun g => R + 1 ≤ g) w9 (.mk 7 [] ns js) [.int .u8 7, .string ⟨#[]⟩, .slice pc ns.length cc, .slice pd js.length cd]) := Lib.hid (by
          have hsw : R + 1 ≤ w8.heap.size := by have := HB8.out.size; rw [HWs.out] at this; exact this
          obtain ⟨vs, g1, g2⟩ := hrow
          unfold JAt
          exact ⟨_, _, vs, rfl, hnam.mono (fun k _ h => Nat.le_trans hsw h), g1.mono (fun k _ h => Nat.le_trans hsw h), JsAt.mono (fun k _ h => Nat.le_trans hsw h) js vs g2⟩)
        clear hPA hbA hrA hrow hnam
        obtain ⟨q0, q1, q2, q3, qf⟩ := zeros_at (HRW.out _ HBA.out)
        go_wp2
        obtain ⟨z0, z1, z2, z3⟩ := four_set (p := .int .u8 7) (q := .string ⟨#[]⟩) (u := .slice pc ns.length cc) (v := .slice pd js.length cd) (HRW.out _ HBA.out)
        rw [HG2.out]
        exact bodyPost_ret (v := .agg #[.int .u8 7, .string ⟨#[]⟩, .slice pc ns.length cc, .slice pd js.length cd]) (by simp [results, Tryz.results69, go_sem, z0, z1, z2, z3]) rfl (rval_ok (kd := 7) (Nat.le_trans (Nat.le_succ x) hkA) hkAs HRA.out HJA.out HPA.out (HB0.out.trans HBA.out) hWR hbR)
    have HG2 : Hid (G = number (s.data.toList.drop x) n1) := Lib.hid (by rw [← HG.out, value_rest hn65 HSK.out (fun r e => h1 ⟨r, e⟩) (fun r e => h2 ⟨r, e⟩) (fun r e => h3 ⟨r, e⟩) (fun r e => h4 ⟨r, e⟩) (fun r e => h5 ⟨r, e⟩) (fun r e => h6 ⟨r, e⟩), ← hn1])
    have HN : Hid (∀ r, s.data.toList.drop x ≠ 34 :: r) := Lib.hid (fun r e => h4 ⟨r, e⟩)
    have HT1 : Hid (∀ w, RAt w b s x n1 0 → Calls Tryz.prog 106 #[.pointer (some ⟨b, 0, none⟩), .string ⟨#[110, 117, 108, 108]⟩] w fun e w' => e = .returned (.bool false) ∧ Below w.heap.size w w') := Lib.hid (fun w hw => rtake_no w b s [110, 117, 108, 108] x n1 hw hx (by omega) (by simp) (fun r e => h1 ⟨r, e⟩))
    have HT2 : Hid (∀ w, RAt w b s x n1 0 → Calls Tryz.prog 106 #[.pointer (some ⟨b, 0, none⟩), .string ⟨#[116, 114, 117, 101]⟩] w fun e w' => e = .returned (.bool false) ∧ Below w.heap.size w w') := Lib.hid (fun w hw => rtake_no w b s [116, 114, 117, 101] x n1 hw hx (by omega) (by simp) (fun r e => h2 ⟨r, e⟩))
    have HT3 : Hid (∀ w, RAt w b s x n1 0 → Calls Tryz.prog 106 #[.pointer (some ⟨b, 0, none⟩), .string ⟨#[102, 97, 108, 115, 101]⟩] w fun e w' => e = .returned (.bool false) ∧ Below w.heap.size w w') := Lib.hid (fun w hw => rtake_no w b s [102, 97, 108, 115, 101] x n1 hw hx (by omega) (by simp) (fun r e => h3 ⟨r, e⟩))
    have HT5 : Hid (∀ w, RAt w b s x n1 0 → Calls Tryz.prog 106 #[.pointer (some ⟨b, 0, none⟩), .string ⟨#[91]⟩] w fun e w' => e = .returned (.bool false) ∧ Below w.heap.size w w') := Lib.hid (fun w hw => rtake_no w b s [91] x n1 hw hx (by omega) (by simp) (fun r e => h5 ⟨r, e⟩))
    have HT6 : Hid (∀ w, RAt w b s x n1 0 → Calls Tryz.prog 106 #[.pointer (some ⟨b, 0, none⟩), .string ⟨#[123]⟩] w fun e w' => e = .returned (.bool false) ∧ Below w.heap.size w w') := Lib.hid (fun w hw => rtake_no w b s [123] x n1 hw hx (by omega) (by simp) (fun r e => h6 ⟨r, e⟩))
    clear hn1 HG HV HSK hm h1 h2 h3 h4 h5 h6
    go_enter Tryz.func69, Tryz.ntmps69
    have ht := HT1.out w2 HP2.out
    go_wp2_with fail
    refine ht.mono ?_
    rintro e w3 ⟨rfl, hb⟩
    have HP3 := Lib.hid (HP2.out.below hb)
    have HB3 := Lib.hid (HB2.out.trans (But.of hb))
    clear hb ht
    have ht := HT2.out w3 HP3.out
    go_wp2_with fail
    refine ht.mono ?_
    rintro e w4 ⟨rfl, hb⟩
    have HP4 := Lib.hid (HP3.out.below hb)
    have HB4 := Lib.hid (HB3.out.trans (But.of hb))
    clear hb ht
    have ht := HT3.out w4 HP4.out
    go_wp2_with fail
    refine ht.mono ?_
    rintro e w5 ⟨rfl, hb⟩
    have HP5 := Lib.hid (HP4.out.below hb)
    have HB5 := Lib.hid (HB4.out.trans (But.of hb))
    clear hb ht
    have hnx := rnext_any w5 b s x n1 HP5.out hx
    have e34 := next_ne HN.out (n := 34) rfl (by decide)
    generalize nextN (s.data.toList.drop x) = NN at hnx e34
    go_wp2_with fail
    refine hnx.mono ?_
    rintro e w6 ⟨rfl, hb⟩
    have HP6 := Lib.hid (HP5.out.below hb)
    have HB6 := Lib.hid (HB5.out.trans (But.of hb))
    clear hb hnx
    have ht := HT5.out w6 HP6.out
    go_wp2_with fail
    refine ht.mono ?_
    rintro e w7 ⟨rfl, hb⟩
    have HP7 := Lib.hid (HP6.out.below hb)
    have HB7 := Lib.hid (HB6.out.trans (But.of hb))
    clear hb ht
    have ht := HT6.out w7 HP7.out
    go_wp2_with fail
    refine ht.mono ?_
    rintro e w8 ⟨rfl, hb⟩
    have HP8 := Lib.hid (HP7.out.below hb)
    have HB8 := Lib.hid (HB7.out.trans (But.of hb))
    clear hb ht
    clear k0 k1 k2 k3 kf m0 m1 m2 m3 mf
    go_wp2_with fail
    refine (rnumber_any w8 b s x n1 HP8.out hx hz).mono ?_
    intro e w9 h9
    generalize number (s.data.toList.drop x) n1 = G5 at h9 HG2
    cases G5 with
    | error c =>
      obtain ⟨hc, kA, nA, kd, tx, pc, nc, cc, pd, nd, cd, rfl, hPA, hbA⟩ := h9
      have HPA := Lib.hid hPA
      have HCA := Lib.hid hc
      have HBA := Lib.hid (HB8.out.trans hbA)
      clear hPA hbA hc
      obtain ⟨q0, q1, q2, q3, qf⟩ := zeros_at (HRW.out _ HBA.out)
      go_wp2
      obtain ⟨z0, z1, z2, z3⟩ := four_set (p := .int .u8 kd) (q := .string tx) (u := .slice pc nc cc) (v := .slice pd nd cd) (HRW.out _ HBA.out)
      rw [HG2.out]
      exact bodyPost_ret (v := .agg #[.int .u8 kd, .string tx, .slice pc nc cc, .slice pd nd cd]) (by simp [results, Tryz.results69, go_sem, z0, z1, z2, z3]) rfl (rval_bad HCA.out HPA.out (HB0.out.trans HBA.out) hWR hbR)
    | ok p =>
      obtain ⟨j, r, n2⟩ := p
      obtain ⟨kA, v, hkA, hkAs, hrA, rfl, hjv, hPA, hbA⟩ := h9
      obtain ⟨kd, tx, pc, nc, cc, pd, nd, cd, hva, hjA⟩ := jval_four hjv
      have HPA := Lib.hid hPA
      have HBA := Lib.hid (HB8.out.trans hbA)
      have HRA := Lib.hid hrA
      have HJA : Hid (JAt (fun g => R + 1 ≤ g) w9 j [.int .u8 kd, .string tx, .slice pc nc cc, .slice pd nd cd]) := Lib.hid (by
        have hsw : R + 1 ≤ w8.heap.size := by have := HB8.out.size; rw [HWs.out] at this; exact this
        exact JAt.mono (fun k _ h => Nat.le_trans hsw h) _ _ hjA)
      rw [hva]
      clear hPA hbA hrA hjv hva hjA
      obtain ⟨q0, q1, q2, q3, qf⟩ := zeros_at (HRW.out _ HBA.out)
      go_wp2
      obtain ⟨z0, z1, z2, z3⟩ := four_set (p := .int .u8 kd) (q := .string tx) (u := .slice pc nc cc) (v := .slice pd nd cd) (HRW.out _ HBA.out)
      rw [HG2.out]
      exact bodyPost_ret (v := .agg #[.int .u8 kd, .string tx, .slice pc nc cc, .slice pd nd cd]) (by simp [results, Tryz.results69, go_sem, z0, z1, z2, z3]) rfl (rval_ok hkA hkAs HRA.out HJA.out HPA.out (HB0.out.trans HBA.out) hWR hbR)
theorem rvalue_any : ∀ (d : Nat) (W : World) (b : Nat) (s : ByteArray) (x n dp : Nat), d + dp = 65 → n ≤ 65536 → 8 ≤ b → x ≤ s.size → s.size ≤ 30000 → RAt W b s x n 0 → skip (s.data.toList.drop x) = s.data.toList.drop x →
    Calls Tryz.prog 69 #[.pointer (some ⟨b, 0, none⟩), .int .i64 dp] W (RVal W b s x (value d (s.data.toList.drop x) n))
  | 0, W, b, s, x, n, dp, hd, hn, b8, hx, hz, h, hsk => rvalue_zero W b s x n dp hn (by omega) (by omega) h
  | d + 1, W, b, s, x, n, dp, hd, hn, b8, hx, hz, h, hsk => rvalue_one d W b s x n dp hn (by omega) b8 hx hz h hsk (fun x2 n2 w h1 h2 h3 h4 => rvalue_any d w b s x2 n2 (dp + 1) (by omega) h2 b8 h1 hz h4 h3)
end Go.Proofs.YtgcpgieojckheaaGreatDoor.Json
