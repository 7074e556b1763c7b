/-
  The reference's value.
-/
import Derived.Test.YtgcpgieojckheaaGreatDoorMgKF
import Derived.Test.YtgcpgieojckheaaGreatDoorMgKD
import Derived.Test.YtgcpgieojckheaaGreatDoorMgJM3
namespace Go.Proofs.YtgcpgieojckheaaGreatDoor.Json
open Go.RowKit Go.Shelf

theorem own_nil4 : (ownR []).2 = 4 := by decide +kernel
theorem number_not {c : UInt8} {r : List UInt8} {n : Nat} (h : isNumc c = false) : number (c :: r) n = .error 4 := by
  unfold number
  rw [List.takeWhile_cons, h]
  show (if (ownR []).2 = 0 then _ else Except.error (ownR []).2) = _
  rw [own_nil4]; rfl
theorem word_no {p l : List UInt8} {k n : Nat} (h : ∀ r, l ≠ p ++ r) : word p k l n = .error 4 := by
  unfold word
  rw [if_neg]
  intro hp
  obtain ⟨t, ht⟩ := List.isPrefixOf_iff_prefix.1 hp
  exact h t ht.symm
/-- What neither a word nor a String nor a list begins is read as a number. -/
theorem value_rest {d n : Nat} {l : List UInt8} (hn : n < 65536) (hs : skip l = l) (h1 : ∀ r, l ≠ [110, 117, 108, 108] ++ r) (h2 : ∀ r, l ≠ [116, 114, 117, 101] ++ r) (h3 : ∀ r, l ≠ [102, 97, 108, 115, 101] ++ r) (h4 : ∀ r, l ≠ 34 :: r) (h5 : ∀ r, l ≠ 91 :: r) (h6 : ∀ r, l ≠ 123 :: r) :
    value (d + 1) l n = number l (n + 1) := by
  by_cases e1 : ∃ r, l = 110 :: r
  · obtain ⟨r, rfl⟩ := e1
    rw [value_110 hn hs, word_no h1, number_not (by decide)]
  · by_cases e2 : ∃ r, l = 116 :: r
    · obtain ⟨r, rfl⟩ := e2
      rw [value_116 hn hs, word_no h2, number_not (by decide)]
    · by_cases e3 : ∃ r, l = 102 :: r
      · obtain ⟨r, rfl⟩ := e3
        rw [value_102 hn hs, word_no h3, number_not (by decide)]
      · rw [value_num hn (by
          rw [hs]
          rintro c (rfl | rfl | rfl | rfl | rfl | rfl) r e
          · exact e1 ⟨r, e⟩
          · exact e2 ⟨r, e⟩
          · exact e3 ⟨r, e⟩
          · exact h4 r e
          · exact h5 r e
          · exact h6 r e), hs]
theorem word_yes {p r : List UInt8} {k n : Nat} : word p k (p ++ r) n = .ok (.mk k [] [] [], r, n) := word_text
theorem rnext_any (W : World) (b : Nat) (s : ByteArray) (x n : Nat) (h : RAt W b s x n 0) (_hx : x ≤ s.size) :
    Calls Tryz.prog 105 #[.pointer (some ⟨b, 0, none⟩)] W fun r w' => r = .returned (.int .u8 (nextN (s.data.toList.drop x))) ∧ Below W.heap.size W w' := by
  cases hd : s.data.toList.drop x with
  | nil =>
    refine rnext_none W b s x n 0 h ?_
    have h1 := congrArg List.length hd
    rw [List.length_drop, ← Lib.size_eq] at h1
    simp at h1
    simp; omega
  | cons c r =>
    obtain ⟨h1, h2, _⟩ := drop_cons hd
    rw [← Lib.size_eq] at h1
    rw [get_list h1] at h2
    have := rnext_in W b s x n h h1
    rw [Option.some.inj h2] at this; exact this
set_option maxRecDepth 100000 in
set_option maxHeartbeats 4000000 in
theorem rvalue_err (W : World) (b : Nat) (s : ByteArray) (x n dp : Nat) (c : Int) (hc : c ≠ 0) (hn : n ≤ 65536) (hdp : dp ≤ 1000) (h : RAt W b s x n c) :
    Calls Tryz.prog 69 #[.pointer (some ⟨b, 0, none⟩), .int .i64 dp] W (RBad W b s x c) := by
  have hblt := h.lt
  obtain ⟨W0, hW0⟩ : ∃ W0, W.alloc (Obj.cells #[Value.int IntKind.u8 0, Value.string { data := #[] }, Value.slice none 0 0, Value.slice none 0 0] 47) = W0 := ⟨_, rfl⟩
  have hb0 : Below W.heap.size W W0 := by rw [← hW0]; exact galloc (Below.refl _ _) _
  have hR0 : W0.heap[W.heap.size]? = some (.cells #[.int .u8 0, .string ⟨#[]⟩, .slice none 0 0, .slice none 0 0] 47 (0, 0)) := by rw [← hW0]; exact World.alloc_heap_new W _
  have hs0 : W0.heap.size = W.heap.size + 1 := by rw [← hW0]; simp
  have hP0 := h.below hb0
  obtain ⟨R, hR⟩ : ∃ R, W.heap.size = R := ⟨_, rfl⟩
  rw [hR] at hR0 hs0
  have hbR : b ≠ R := by omega
  have hWR : W.heap.size ≤ R := by omega
  have HRe := Lib.hid hR
  have HB0 := Lib.hid (But.of (b := b) hb0)
  have HP0 := Lib.hid hP0
  have HR := Lib.hid hR0
  have HW0 := Lib.hid hW0
  have HWs := Lib.hid hs0
  have HRW : Hid (∀ w, But b W0 w → w.heap[R]? = some (.cells #[.int .u8 0, .string ⟨#[]⟩, .slice none 0 0, .slice none 0 0] 47 (0, 0))) := Lib.hid (fun w hw => (hw.block R (by rw [hs0]; exact Nat.lt_succ_self _) (fun e => hbR e.symm)).trans hR0)
  clear h hb0 hP0 hR0 hW0 hs0 hR
  have hwn : IntKind.i64.wrap ((n : Int) + 1) = ((n + 1 : Nat) : Int) := by rw [IntWalk.i64_in _ (by omega)]; omega
  obtain ⟨n1, hn1⟩ : ∃ n1, n + 1 = n1 := ⟨_, rfl⟩
  rw [hn1] at hwn
  have e2 : (c != 0) = true := by simpa using hc
  have HCC := Lib.hid hc
  have fin : Hid (∀ w, RAt w b s x n1 c → But b W0 w → RBad W b s x c (.returned (.agg #[.int .u8 0, .string ⟨#[]⟩, .slice none 0 0, .slice none 0 0])) ((((w.setCell ⟨R, 0, none⟩ (.int .u8 0)).setCell ⟨R, 1, none⟩ (.string ⟨#[]⟩)).setCell ⟨R, 2, none⟩ (.slice none 0 0)).setCell ⟨R, 3, none⟩ (.slice none 0 0))) := Lib.hid (fun w h1 h2 => by
    have := rfour (p := .int .u8 0) (q := .string ⟨#[]⟩) (u := .slice none 0 0) (v := .slice none 0 0) h1 (HB0.out.trans h2) hWR hbR
    exact ⟨0, ⟨#[]⟩, none, 0, 0, none, 0, 0, n1, rfl, this.1, this.2⟩)
  clear hc
  by_cases hd : 64 < dp
  · have hd' : (64 : Int) < (dp : Int) := by omega
    by_cases hm : 65536 < n1
    · have hm' : (65536 : Int) < (n1 : Int) := by omega
      clear hd hm hn1
      go_enter Tryz.func69, Tryz.ntmps69
      go_wp2_with fail
      rw [HW0.out, HRe.out]
      refine (fail_any W0 b s x n c 61 HP0.out).mono ?_
      rintro e w1 ⟨rfl, hP1, hb1⟩
      rw [if_neg HCC.out] at hP1
      have HB1 := Lib.hid hb1
      obtain ⟨k0, k1, k2, k3, kf⟩ := hP1.cells
      have HP2 := Lib.hid (hP1.set2 n1)
      have HB2 := Lib.hid (hb1.trans (But.set b w1 2 (.int .i64 n1)))
      obtain ⟨m0, m1, m2, m3, mf⟩ := HP2.out.cells
      clear hP1 hb1
      go_wp2_with fail
      refine (fail_any _ b s x n1 c 40 HP2.out).mono ?_
      rintro e w3 ⟨rfl, hP3, hb3⟩
      rw [if_neg HCC.out] at hP3
      have HP3 := Lib.hid hP3
      have HB3 := Lib.hid (HB2.out.trans hb3)
      clear hP3 hb3
      obtain ⟨q0, q1, q2, q3, qf⟩ := zeros_at (HRW.out _ HB3.out)
      obtain ⟨j0, j1, j2, j3, jf⟩ := HP3.out.cells
      go_wp2
      obtain ⟨z0, z1, z2, z3⟩ := four_set (p := .int .u8 0) (q := .string ⟨#[]⟩) (u := .slice none 0 0) (v := .slice none 0 0) (HRW.out _ HB3.out)
      exact bodyPost_ret (v := .agg #[.int .u8 0, .string ⟨#[]⟩, .slice none 0 0, .slice none 0 0]) (by simp [results, Tryz.results69, go_sem, z0, z1, z2, z3]) rfl (fin.out _ HP3.out HB3.out)
    · have hm' : ¬ (65536 : Int) < (n1 : Int) := by omega
      clear hd hm hn1
      go_enter Tryz.func69, Tryz.ntmps69
      go_wp2_with fail
      rw [HW0.out, HRe.out]
      refine (fail_any W0 b s x n c 61 HP0.out).mono ?_
      rintro e w1 ⟨rfl, hP1, hb1⟩
      rw [if_neg HCC.out] at hP1
      have HB1 := Lib.hid hb1
      obtain ⟨k0, k1, k2, k3, kf⟩ := hP1.cells
      have HP2 := Lib.hid (hP1.set2 n1)
      have HB2 := Lib.hid (hb1.trans (But.set b w1 2 (.int .i64 n1)))
      obtain ⟨m0, m1, m2, m3, mf⟩ := HP2.out.cells
      clear hP1 hb1
      obtain ⟨q0, q1, q2, q3, qf⟩ := zeros_at (HRW.out _ HB2.out)
      go_wp2
      obtain ⟨z0, z1, z2, z3⟩ := four_set (p := .int .u8 0) (q := .string ⟨#[]⟩) (u := .slice none 0 0) (v := .slice none 0 0) (HRW.out _ HB2.out)
      exact bodyPost_ret (v := .agg #[.int .u8 0, .string ⟨#[]⟩, .slice none 0 0, .slice none 0 0]) (by simp [results, Tryz.results69, go_sem, z0, z1, z2, z3]) rfl (fin.out _ HP2.out HB2.out)
  · have hd' : ¬ (64 : Int) < (dp : Int) := by omega
    by_cases hm : 65536 < n1
    · have hm' : (65536 : Int) < (n1 : Int) := by omega
      clear hd hm hn1
      obtain ⟨w1, hW1⟩ : ∃ w1, W.alloc (Obj.cells #[Value.int IntKind.u8 0, Value.string { data := #[] }, Value.slice none 0 0, Value.slice none 0 0] 47) = w1 := ⟨_, rfl⟩
      have hw1 : w1 = W0 := by rw [← hW1]; exact HW0.out
      have hb1 : But b W0 w1 := by rw [hw1]; exact But.refl _ _
      have hP1 : RAt w1 b s x n c := by rw [hw1]; exact HP0.out
      have hRe := HRe.out
      clear hw1 HW0
      have HB1 := Lib.hid hb1
      obtain ⟨k0, k1, k2, k3, kf⟩ := hP1.cells
      have HP2 := Lib.hid (hP1.set2 n1)
      have HB2 := Lib.hid (hb1.trans (But.set b w1 2 (.int .i64 n1)))
      obtain ⟨m0, m1, m2, m3, mf⟩ := HP2.out.cells
      clear hP1 hb1
      go_enter Tryz.func69, Tryz.ntmps69
      go_wp2_with fail
      refine (fail_any _ b s x n1 c 40 HP2.out).mono ?_
      rintro e w3 ⟨rfl, hP3, hb3⟩
      rw [if_neg HCC.out] at hP3
      have HP3 := Lib.hid hP3
      have HB3 := Lib.hid (HB2.out.trans hb3)
      clear hP3 hb3
      obtain ⟨q0, q1, q2, q3, qf⟩ := zeros_at (HRW.out _ HB3.out)
      obtain ⟨j0, j1, j2, j3, jf⟩ := HP3.out.cells
      go_wp2
      obtain ⟨z0, z1, z2, z3⟩ := four_set (p := .int .u8 0) (q := .string ⟨#[]⟩) (u := .slice none 0 0) (v := .slice none 0 0) (HRW.out _ HB3.out)
      exact bodyPost_ret (v := .agg #[.int .u8 0, .string ⟨#[]⟩, .slice none 0 0, .slice none 0 0]) (by simp [results, Tryz.results69, go_sem, z0, z1, z2, z3]) rfl (fin.out _ HP3.out HB3.out)
    · have hm' : ¬ (65536 : Int) < (n1 : Int) := by omega
      clear hd hm hn1
      obtain ⟨w1, hW1⟩ : ∃ w1, W.alloc (Obj.cells #[Value.int IntKind.u8 0, Value.string { data := #[] }, Value.slice none 0 0, Value.slice none 0 0] 47) = w1 := ⟨_, rfl⟩
      have hw1 : w1 = W0 := by rw [← hW1]; exact HW0.out
      have hb1 : But b W0 w1 := by rw [hw1]; exact But.refl _ _
      have hP1 : RAt w1 b s x n c := by rw [hw1]; exact HP0.out
      have hRe := HRe.out
      clear hw1 HW0
      have HB1 := Lib.hid hb1
      obtain ⟨k0, k1, k2, k3, kf⟩ := hP1.cells
      have HP2 := Lib.hid (hP1.set2 n1)
      have HB2 := Lib.hid (hb1.trans (But.set b w1 2 (.int .i64 n1)))
      obtain ⟨m0, m1, m2, m3, mf⟩ := HP2.out.cells
      clear hP1 hb1
      go_enter Tryz.func69, Tryz.ntmps69
      obtain ⟨q0, q1, q2, q3, qf⟩ := zeros_at (HRW.out _ HB2.out)
      go_wp2
      obtain ⟨z0, z1, z2, z3⟩ := four_set (p := .int .u8 0) (q := .string ⟨#[]⟩) (u := .slice none 0 0) (v := .slice none 0 0) (HRW.out _ HB2.out)
      exact bodyPost_ret (v := .agg #[.int .u8 0, .string ⟨#[]⟩, .slice none 0 0, .slice none 0 0]) (by simp [results, Tryz.results69, go_sem, z0, z1, z2, z3]) rfl (fin.out _ HP2.out HB2.out)

end Go.Proofs.YtgcpgieojckheaaGreatDoor.Json
