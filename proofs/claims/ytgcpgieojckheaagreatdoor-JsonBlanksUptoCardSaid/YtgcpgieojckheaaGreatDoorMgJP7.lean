/-
  The parser's value.
-/
import Derived.Test.YtgcpgieojckheaaGreatDoorMgJP6
namespace Go.Proofs.YtgcpgieojckheaaGreatDoor.Json
open Go.RowKit Go.Shelf

theorem word_end (W : World) (b : Nat) (s : ByteArray) (x y z : Nat) (p : List UInt8) (k : Nat) (h : PAt W b s x y z) (hx : x ≤ s.size) (hz : s.size ≤ 1000000) (hpz : p.length ≤ 10) :
    Calls Tryz.prog 141 #[.pointer (some ⟨b, 0, none⟩), .string ⟨p.toArray⟩, .int .u8 k] W (ValEnd W b s x y (word p k (s.data.toList.drop x) z)) := by
  have hps : (⟨p.toArray⟩ : ByteArray).size = p.length := by rw [Lib.size_eq]
  unfold word
  cases hp : p.isPrefixOf (s.data.toList.drop x) with
  | false =>
    rw [if_neg (by decide)]
    exact word_bad W b s x y z ⟨p.toArray⟩ k h hx (by unfold Lib.hasPrefix; exact hp)
  | true =>
    rw [if_pos rfl]
    refine (word_ok W b s x y z ⟨p.toArray⟩ k h hx hz (by omega) (by unfold Lib.hasPrefix; exact hp)).mono ?_
    rintro e w' ⟨rfl, h1, h2⟩
    have hl := (List.isPrefixOf_iff_prefix.1 hp).length_le
    rw [List.length_drop, ← Lib.size_eq] at hl
    rw [hps] at h1
    exact ⟨x + p.length, _, by omega, by omega, by rw [List.drop_drop], rfl, JVal.leaf _ _ k [], h1, h2⟩
theorem number_end (W : World) (b : Nat) (s : ByteArray) (x y z : Nat) (h : PAt W b s x y z) (hx : x ≤ s.size) (hz : s.size ≤ 1000000) (ht : Tab W) (b1 : b ≠ 1) (b2 : b ≠ 2) :
    Calls Tryz.prog 145 #[.pointer (some ⟨b, 0, none⟩)] W (ValEnd W b s x y (number (s.data.toList.drop x) z)) := by
  unfold number
  by_cases ho : (ownR ((s.data.toList.drop x).takeWhile isNumc)).2 = 0
  · rw [if_pos ho]
    refine (number_ok W b s x y z h hx hz ht b1 b2 ho).mono ?_
    rintro e w' ⟨k, h1, h2, rfl, h3, h4, h5⟩
    exact ⟨k, _, h1, h2, h5, rfl, JVal.leaf _ _ 4 _, h3, h4⟩
  · rw [if_neg ho]
    exact number_bad W b s x y z h hx hz ht b1 b2 ho
theorem value_few {d n : Nat} (l : List UInt8) (hn : 65536 ≤ n) : value (d + 1) l n = .error 40 := by unfold value; rw [if_pos hn]
theorem value_110 {d n : Nat} {l r : List UInt8} (hn : n < 65536) (h : skip l = 110 :: r) : value (d + 1) l n = word [110, 117, 108, 108] 1 (110 :: r) (n + 1) := by unfold value; rw [if_neg (by omega), h]; rfl
theorem value_116 {d n : Nat} {l r : List UInt8} (hn : n < 65536) (h : skip l = 116 :: r) : value (d + 1) l n = word [116, 114, 117, 101] 2 (116 :: r) (n + 1) := by unfold value; rw [if_neg (by omega), h]; rfl
theorem value_102 {d n : Nat} {l r : List UInt8} (hn : n < 65536) (h : skip l = 102 :: r) : value (d + 1) l n = word [102, 97, 108, 115, 101] 3 (102 :: r) (n + 1) := by unfold value; rw [if_neg (by omega), h]; rfl
/-- A String as a value. -/
def strV (n : Nat) : Option (List UInt8 × List UInt8) → Got J
  | none => .error 4
  | some (t, r) => .ok (.mk 5 t [] [], r, n)
theorem value_34 {d n : Nat} {l r : List UInt8} (hn : n < 65536) (h : skip l = 34 :: r) : value (d + 1) l n = strV (n + 1) (quoted (34 :: r)) := by
  unfold value; rw [if_neg (by omega), h]
  simp only
  cases quoted (34 :: r) with
  | none => rfl
  | some p => rfl
theorem value_num {d n : Nat} {l : List UInt8} (hn : n < 65536) (h : ∀ c, c = 110 ∨ c = 116 ∨ c = 102 ∨ c = 34 ∨ c = 91 ∨ c = 123 → ∀ r, skip l ≠ c :: r) : value (d + 1) l n = number (skip l) (n + 1) := by
  unfold value; rw [if_neg (by omega)]
  split
  · rename_i r e; exact absurd e (h _ (by simp) r)
  · rename_i r e; exact absurd e (h _ (by simp) r)
  · rename_i r e; exact absurd e (h _ (by simp) r)
  · rename_i r e; exact absurd e (h _ (by simp) r)
  · rename_i r e; exact absurd e (h _ (by simp) r)
  · rename_i r e; exact absurd e (h _ (by simp) r)
  · rfl
theorem val_end {W : World} {b R : Nat} {s : ByteArray} {x y k n kd : Nat} {j : Json.J} {r : List UInt8} {tx : ByteArray} {c d : Value} {w1 : World}
    (hx : x ≤ k) (hk : k ≤ s.size) (hr : r = s.data.toList.drop k) (hJ : JAt (fun g => R + 1 ≤ g) w1 j [.int .u8 kd, .string tx, c, d]) (hP : PAt w1 b s k y n) (hB : But b W w1) (hWR : W.heap.size ≤ R) (hb : b ≠ R) :
    ValEnd W b s x y (.ok (j, r, n)) (.returned (.agg #[.int .u8 kd, .string tx, c, d])) ((((w1.setCell ⟨R, 0, none⟩ (.int .u8 kd)).setCell ⟨R, 1, none⟩ (.string tx)).setCell ⟨R, 2, none⟩ c).setCell ⟨R, 3, none⟩ d) := by
  refine ⟨k, _, hx, hk, hr, rfl, ⟨_, _, _, _, rfl, ?_⟩, (((hP.other hb).other hb).other hb).other hb, (((hB.fresh hWR).fresh hWR).fresh hWR).fresh hWR⟩
  refine JAt.mono (S := fun g => R + 1 ≤ g) (fun i _ h => by have h : R + 1 ≤ i := h; show W.heap.size ≤ i; omega) _ _ (JAt.world ⟨by simp, fun i hi h => ?_⟩ _ _ hJ)
  have h : R + 1 ≤ i := h
  exact ((Only.set R _ 3 _).block i (by omega)).trans (((Only.set R _ 2 _).block i (by omega)).trans (((Only.set R _ 1 _).block i (by omega)).trans ((Only.set R _ 0 _).block i (by omega))))
theorem zeros_at {w : World} {R : Nat} (h : w.heap[R]? = some (.cells #[.int .u8 0, .string ⟨#[]⟩, .slice none 0 0, .slice none 0 0] 47 (0, 0))) :
    w.cell? ⟨R, 0, none⟩ = some (.int .u8 0) ∧ w.cell? ⟨R, 1, none⟩ = some (.string ⟨#[]⟩) ∧ w.cell? ⟨R, 2, none⟩ = some (.slice none 0 0) ∧ w.cell? ⟨R, 3, none⟩ = some (.slice none 0 0) ∧ ∀ o, w.frozen? ⟨R, o, none⟩ = false :=
  ⟨by rw [cellH h]; rfl, by rw [cellH h]; rfl, by rw [cellH h]; rfl, by rw [cellH h]; rfl, fun o => Lib.frozen_of_heap h o⟩
theorem four_set {w : World} {R : Nat} {p q u v : Value} (h : w.heap[R]? = some (.cells #[.int .u8 0, .string ⟨#[]⟩, .slice none 0 0, .slice none 0 0] 47 (0, 0))) :
    ((((w.setCell ⟨R, 0, none⟩ p).setCell ⟨R, 1, none⟩ q).setCell ⟨R, 2, none⟩ u).setCell ⟨R, 3, none⟩ v).cell? ⟨R, 0, none⟩ = some p ∧ ((((w.setCell ⟨R, 0, none⟩ p).setCell ⟨R, 1, none⟩ q).setCell ⟨R, 2, none⟩ u).setCell ⟨R, 3, none⟩ v).cell? ⟨R, 1, none⟩ = some q ∧
    ((((w.setCell ⟨R, 0, none⟩ p).setCell ⟨R, 1, none⟩ q).setCell ⟨R, 2, none⟩ u).setCell ⟨R, 3, none⟩ v).cell? ⟨R, 2, none⟩ = some u ∧ ((((w.setCell ⟨R, 0, none⟩ p).setCell ⟨R, 1, none⟩ q).setCell ⟨R, 2, none⟩ u).setCell ⟨R, 3, none⟩ v).cell? ⟨R, 3, none⟩ = some v := by
  have kF := heap_setCell_same _ _ 3 _ _ v (heap_setCell_same _ _ 2 _ _ u (heap_setCell_same _ _ 1 _ _ q (heap_setCell_same _ _ 0 _ _ p h)))
  exact ⟨by rw [cellH kF]; rfl, by rw [cellH kF]; rfl, by rw [cellH kF]; rfl, by rw [cellH kF]; rfl⟩
theorem next_ne {l : List UInt8} {c : UInt8} {n : Int} (h : ∀ r, l ≠ c :: r) (hn : (c.toNat : Int) = n) (h0 : n ≠ 0) : ((nextN l : Int) == n) = false := by
  rcases next_is l c n hn h0 with ⟨_, _, r, hr⟩ | ⟨h1, _, _⟩
  · exact absurd hr (h r)
  · exact h1
set_option maxRecDepth 100000 in
set_option maxHeartbeats 8000000 in
theorem value_one (d : Nat) (W : World) (b : Nat) (s : ByteArray) (x y z : Nat) (hP : PAt W b s x y z) (hT : TabsJ W) (hb8 : 8 ≤ b) (hx : x ≤ s.size) (hz : s.size ≤ 300000) (hy : y < 64)
    (hV : ∀ x z w, x ≤ s.size → PAt w b s x (y + 1) z → TabsJ w → 8 ≤ w.heap.size → Calls Tryz.prog 93 #[.pointer (some ⟨b, 0, none⟩)] w (ValEnd w b s x (y + 1) (value d (s.data.toList.drop x) z))) :
    Calls Tryz.prog 93 #[.pointer (some ⟨b, 0, none⟩)] W (ValEnd W b s x y (value (d + 1) (s.data.toList.drop x) z)) := by
  have hblt := hP.lt
  obtain ⟨G, hG⟩ : ∃ G, value (d + 1) (s.data.toList.drop x) z = G := ⟨_, rfl⟩
  rw [hG]
  obtain ⟨W0, hW0⟩ : ∃ W0, W.alloc (Obj.cells #[Value.int IntKind.u8 0, Value.string { data := #[] }, Value.slice none 0 0, Value.slice none 0 0] 47) = W0 := ⟨_, rfl⟩
  have hb0 : Below W.heap.size W W0 := by rw [← hW0]; exact galloc (Below.refl _ _) _
  have hR0 : W0.heap[W.heap.size]? = some (.cells #[.int .u8 0, .string ⟨#[]⟩, .slice none 0 0, .slice none 0 0] 47 (0, 0)) := by rw [← hW0]; exact World.alloc_heap_new W _
  have hs0 : W0.heap.size = W.heap.size + 1 := by rw [← hW0]; simp
  have hbl := blanks_any W0 b s x y z (hP.below hb0) hx (by omega)
  obtain ⟨R, hR⟩ : ∃ R, W.heap.size = R := ⟨_, rfl⟩
  rw [hR] at hR0 hs0
  have hbR : b ≠ R := by omega
  have hWR : W.heap.size ≤ R := by omega
  have HRe := Lib.hid hR
  have HB0 := Lib.hid (But.of (b := b) hb0)
  have HR := Lib.hid hR0
  have HG := Lib.hid hG
  have HW0 := Lib.hid hW0
  have HW1s := Lib.hid hs0
  have HT := Lib.hid (hT.but (But.of (b := b) hb0) hb8 (by omega))
  have HV := Lib.hid hV
  clear hP hb0 hR0 hG hW0 hs0 hR hT hV
  go_enter Tryz.func93, Tryz.ntmps93
  go_wp2_with fail
  rw [HW0.out, HRe.out]
  refine hbl.mono ?_
  rintro e w1 ⟨k1, hk1x, hk1, rfl, hP1, hb1, hd1⟩
  have HP1 := Lib.hid hP1
  have HB1 := Lib.hid hb1
  have HD1 := Lib.hid hd1
  clear hP1 hb1 hd1 hbl HW0
  rcases Nat.lt_or_ge z 65536 with hz1 | hz1
  · go_wp2_with fail
    refine (begin_ok w1 b s k1 y z HP1.out hy hz1).mono ?_
    rintro e w3 ⟨rfl, hP3, hb3⟩
    have HP3 := Lib.hid hP3
    have HB3 := Lib.hid (HB1.out.trans hb3)
    clear hP3 hb3
    have hnx := next_any w3 b s k1 y (z + 1) HP3.out hk1
    have HTW : Hid (∀ w, But b W0 w → TabsJ w) := Lib.hid (fun w h => HT.out.but h hb8 (by have := HW1s.out; omega))
    by_cases h110 : ∃ r, s.data.toList.drop k1 = 110 :: r
    · obtain ⟨r1, hr1⟩ := h110
      have HG2 : Hid (G = (word [110, 117, 108, 108] 1 (110 :: r1) (z + 1))) := Lib.hid (by rw [← HG.out, value_110 hz1 (by rw [HD1.out]; exact hr1)])
      have hN : nextN (s.data.toList.drop k1) = 110 := by rw [hr1]; rfl
      have hcall : ∀ w, PAt w b s k1 y (z + 1) → But b W0 w → Calls Tryz.prog 141 #[.pointer (some ⟨b, 0, none⟩), .string ⟨#[110, 117, 108, 108]⟩, .int .u8 1] w (ValEnd w b s k1 y (word [110, 117, 108, 108] 1 (110 :: r1) (z + 1))) := fun w hw hb => by
        have := word_end w b s k1 y (z + 1) [110, 117, 108, 108] 1 hw hk1 (by omega) (by decide)
        rw [hr1] at this; exact this
      rw [hN] at hnx
      have HCALL := Lib.hid hcall
      clear hr1 hN hcall HG HD1
      go_wp2_with fail
      refine hnx.mono ?_
      rintro e w4 ⟨rfl, hb4⟩
      have HP4 := Lib.hid (HP3.out.below hb4)
      have HB4 := Lib.hid (HB3.out.trans (But.of hb4))
      clear hb4 hnx
      go_wp2_with fail
      refine (HCALL.out w4 HP4.out HB4.out).mono ?_
      intro e w5 h5
      clear HCALL
      generalize (word [110, 117, 108, 108] 1 (110 :: r1) (z + 1)) = G5 at h5 HG2
      cases G5 with
      | error c =>
        obtain ⟨rfl, hb5⟩ := h5
        have HB5 := Lib.hid ((HB0.out.trans HB4.out).trans hb5)
        clear hb5
        go_wp2_with fail
        rw [HG2.out]
        exact ⟨rfl, rfl, HB5.out⟩
      | ok p =>
        obtain ⟨j, r5, n5⟩ := p
        obtain ⟨k5, kd, tx, pc, nc, cc, pd, nd, cd, hk5, hk5s, hr5, rfl, hj5, hP5, hb5⟩ := val_ok h5
        have hR5 := ((HB4.out.trans hb5).block R (by rw [HW1s.out]; exact Nat.lt_succ_self _) (fun e => hbR e.symm)).trans HR.out
        obtain ⟨q0, q1, q2, q3, qf⟩ := zeros_at hR5
        have hsz4 := HB4.out.size
        rw [HW1s.out] at hsz4
        have HV := Lib.hid (val_end (W := W) (R := R) (Nat.le_trans hk1x hk5) hk5s hr5 (JAt.mono (fun i _ h => by have h : w4.heap.size ≤ i := h; show R + 1 ≤ i; omega) _ _ hj5) hP5 ((HB0.out.trans HB4.out).trans hb5) hWR hbR)
        have HR5 := Lib.hid hR5
        clear hr5 hj5 hP5 hb5 hR5
        go_wp2
        obtain ⟨z0, z1, z2, z3⟩ := four_set (p := .int .u8 kd) (q := .string tx) (u := .slice pc nc cc) (v := .slice pd nd cd) HR5.out
        rw [HG2.out]
        exact bodyPost_ret (v := .agg #[.int .u8 kd, .string tx, .slice pc nc cc, .slice pd nd cd]) (by simp [results, Tryz.results93, go_sem, z0, z1, z2, z3]) rfl HV.out
    by_cases h116 : ∃ r, s.data.toList.drop k1 = 116 :: r
    · obtain ⟨r1, hr1⟩ := h116
      have HG2 : Hid (G = (word [116, 114, 117, 101] 2 (116 :: r1) (z + 1))) := Lib.hid (by rw [← HG.out, value_116 hz1 (by rw [HD1.out]; exact hr1)])
      have hN : nextN (s.data.toList.drop k1) = 116 := by rw [hr1]; rfl
      have hcall : ∀ w, PAt w b s k1 y (z + 1) → But b W0 w → Calls Tryz.prog 141 #[.pointer (some ⟨b, 0, none⟩), .string ⟨#[116, 114, 117, 101]⟩, .int .u8 2] w (ValEnd w b s k1 y (word [116, 114, 117, 101] 2 (116 :: r1) (z + 1))) := fun w hw hb => by
        have := word_end w b s k1 y (z + 1) [116, 114, 117, 101] 2 hw hk1 (by omega) (by decide)
        rw [hr1] at this; exact this
      rw [hN] at hnx
      have HCALL := Lib.hid hcall
      clear hr1 hN hcall HG HD1
      go_wp2_with fail
      refine hnx.mono ?_
      rintro e w4 ⟨rfl, hb4⟩
      have HP4 := Lib.hid (HP3.out.below hb4)
      have HB4 := Lib.hid (HB3.out.trans (But.of hb4))
      clear hb4 hnx
      go_wp2_with fail
      refine (HCALL.out w4 HP4.out HB4.out).mono ?_
      intro e w5 h5
      clear HCALL
      generalize (word [116, 114, 117, 101] 2 (116 :: r1) (z + 1)) = G5 at h5 HG2
      cases G5 with
      | error c =>
        obtain ⟨rfl, hb5⟩ := h5
        have HB5 := Lib.hid ((HB0.out.trans HB4.out).trans hb5)
        clear hb5
        go_wp2_with fail
        rw [HG2.out]
        exact ⟨rfl, rfl, HB5.out⟩
      | ok p =>
        obtain ⟨j, r5, n5⟩ := p
        obtain ⟨k5, kd, tx, pc, nc, cc, pd, nd, cd, hk5, hk5s, hr5, rfl, hj5, hP5, hb5⟩ := val_ok h5
        have hR5 := ((HB4.out.trans hb5).block R (by rw [HW1s.out]; exact Nat.lt_succ_self _) (fun e => hbR e.symm)).trans HR.out
        obtain ⟨q0, q1, q2, q3, qf⟩ := zeros_at hR5
        have hsz4 := HB4.out.size
        rw [HW1s.out] at hsz4
        have HV := Lib.hid (val_end (W := W) (R := R) (Nat.le_trans hk1x hk5) hk5s hr5 (JAt.mono (fun i _ h => by have h : w4.heap.size ≤ i := h; show R + 1 ≤ i; omega) _ _ hj5) hP5 ((HB0.out.trans HB4.out).trans hb5) hWR hbR)
        have HR5 := Lib.hid hR5
        clear hr5 hj5 hP5 hb5 hR5
        go_wp2
        obtain ⟨z0, z1, z2, z3⟩ := four_set (p := .int .u8 kd) (q := .string tx) (u := .slice pc nc cc) (v := .slice pd nd cd) HR5.out
        rw [HG2.out]
        exact bodyPost_ret (v := .agg #[.int .u8 kd, .string tx, .slice pc nc cc, .slice pd nd cd]) (by simp [results, Tryz.results93, go_sem, z0, z1, z2, z3]) rfl HV.out
    by_cases h102 : ∃ r, s.data.toList.drop k1 = 102 :: r
    · obtain ⟨r1, hr1⟩ := h102
      have HG2 : Hid (G = (word [102, 97, 108, 115, 101] 3 (102 :: r1) (z + 1))) := Lib.hid (by rw [← HG.out, value_102 hz1 (by rw [HD1.out]; exact hr1)])
      have hN : nextN (s.data.toList.drop k1) = 102 := by rw [hr1]; rfl
      have hcall : ∀ w, PAt w b s k1 y (z + 1) → But b W0 w → Calls Tryz.prog 141 #[.pointer (some ⟨b, 0, none⟩), .string ⟨#[102, 97, 108, 115, 101]⟩, .int .u8 3] w (ValEnd w b s k1 y (word [102, 97, 108, 115, 101] 3 (102 :: r1) (z + 1))) := fun w hw hb => by
        have := word_end w b s k1 y (z + 1) [102, 97, 108, 115, 101] 3 hw hk1 (by omega) (by decide)
        rw [hr1] at this; exact this
      rw [hN] at hnx
      have HCALL := Lib.hid hcall
      clear hr1 hN hcall HG HD1
      go_wp2_with fail
      refine hnx.mono ?_
      rintro e w4 ⟨rfl, hb4⟩
      have HP4 := Lib.hid (HP3.out.below hb4)
      have HB4 := Lib.hid (HB3.out.trans (But.of hb4))
      clear hb4 hnx
      go_wp2_with fail
      refine (HCALL.out w4 HP4.out HB4.out).mono ?_
      intro e w5 h5
      clear HCALL
      generalize (word [102, 97, 108, 115, 101] 3 (102 :: r1) (z + 1)) = G5 at h5 HG2
      cases G5 with
      | error c =>
        obtain ⟨rfl, hb5⟩ := h5
        have HB5 := Lib.hid ((HB0.out.trans HB4.out).trans hb5)
        clear hb5
        go_wp2_with fail
        rw [HG2.out]
        exact ⟨rfl, rfl, HB5.out⟩
      | ok p =>
        obtain ⟨j, r5, n5⟩ := p
        obtain ⟨k5, kd, tx, pc, nc, cc, pd, nd, cd, hk5, hk5s, hr5, rfl, hj5, hP5, hb5⟩ := val_ok h5
        have hR5 := ((HB4.out.trans hb5).block R (by rw [HW1s.out]; exact Nat.lt_succ_self _) (fun e => hbR e.symm)).trans HR.out
        obtain ⟨q0, q1, q2, q3, qf⟩ := zeros_at hR5
        have hsz4 := HB4.out.size
        rw [HW1s.out] at hsz4
        have HV := Lib.hid (val_end (W := W) (R := R) (Nat.le_trans hk1x hk5) hk5s hr5 (JAt.mono (fun i _ h => by have h : w4.heap.size ≤ i := h; show R + 1 ≤ i; omega) _ _ hj5) hP5 ((HB0.out.trans HB4.out).trans hb5) hWR hbR)
        have HR5 := Lib.hid hR5
        clear hr5 hj5 hP5 hb5 hR5
        go_wp2
        obtain ⟨z0, z1, z2, z3⟩ := four_set (p := .int .u8 kd) (q := .string tx) (u := .slice pc nc cc) (v := .slice pd nd cd) HR5.out
        rw [HG2.out]
        exact bodyPost_ret (v := .agg #[.int .u8 kd, .string tx, .slice pc nc cc, .slice pd nd cd]) (by simp [results, Tryz.results93, go_sem, z0, z1, z2, z3]) rfl HV.out
    by_cases h34 : ∃ r, s.data.toList.drop k1 = 34 :: r
    · obtain ⟨r1, hr1⟩ := h34
      have HG2 : Hid (G = (strV (z + 1) (quoted (34 :: r1)))) := Lib.hid (by rw [← HG.out, value_34 hz1 (by rw [HD1.out]; exact hr1)])
      have hN : nextN (s.data.toList.drop k1) = 34 := by rw [hr1]; rfl
      have hcall : ∀ w, PAt w b s k1 y (z + 1) → But b W0 w → Calls Tryz.prog 142 #[.pointer (some ⟨b, 0, none⟩)] w (StrEnd w b s k1 y (z + 1) (quoted (34 :: r1))) := fun w hw hb => by
        have ht := HTW.out w hb
        have := quoted_any w b s k1 y (z + 1) hw ht.1 ht.2.2 hb8 hk1 (by omega)
        rw [hr1] at this; exact this
      rw [hN] at hnx
      have HCALL := Lib.hid hcall
      clear hr1 hN hcall HG HD1
      go_wp2_with fail
      refine hnx.mono ?_
      rintro e w4 ⟨rfl, hb4⟩
      have HP4 := Lib.hid (HP3.out.below hb4)
      have HB4 := Lib.hid (HB3.out.trans (But.of hb4))
      clear hb4 hnx
      go_wp2_with fail
      refine (HCALL.out w4 HP4.out HB4.out).mono ?_
      intro e w5 h5
      clear HCALL
      generalize quoted (34 :: r1) = Q5 at h5 HG2
      cases Q5 with
      | none =>
        obtain ⟨rfl, hb5⟩ := h5
        have HB5 := Lib.hid ((HB0.out.trans HB4.out).trans hb5)
        clear hb5
        go_wp2_with fail
        rw [HG2.out]
        exact ⟨rfl, rfl, HB5.out⟩
      | some p =>
        obtain ⟨t, r5⟩ := p
        obtain ⟨k5, hk5, hk5s, hr5, rfl, hP5, hb5⟩ := h5
        have hR5 := ((HB4.out.trans hb5).block R (by rw [HW1s.out]; exact Nat.lt_succ_self _) (fun e => hbR e.symm)).trans HR.out
        obtain ⟨q0, q1, q2, q3, qf⟩ := zeros_at hR5
        obtain ⟨tx, htx⟩ : ∃ tx : ByteArray, (⟨t.toArray⟩ : ByteArray) = tx := ⟨_, rfl⟩
        have hbl : bl t = .string tx := by unfold bl; rw [htx]
        have hj5 : JAt (fun g => R + 1 ≤ g) w5 (.mk 5 t [] []) [.int .u8 5, .string tx, .slice none 0 0, .slice none 0 0] := by
          unfold JAt
          exact ⟨_, _, [], by rw [hbl]; rfl, SlIn.nil _ _ _, SlIn.nil _ _ _, by unfold JsAt; rfl⟩
        have HVE := Lib.hid (val_end (W := W) (R := R) (kd := 5) (Nat.le_trans hk1x hk5) hk5s hr5 hj5 hP5 ((HB0.out.trans HB4.out).trans hb5) hWR hbR)
        have HR5 := Lib.hid hR5
        rw [hbl]
        clear hr5 hj5 hP5 hb5 hR5 hbl htx
        go_wp2
        obtain ⟨z0, z1, z2, z3⟩ := four_set (p := .int .u8 5) (q := .string tx) (u := .slice none 0 0) (v := .slice none 0 0) HR5.out
        rw [HG2.out]
        exact bodyPost_ret (v := .agg #[.int .u8 5, .string tx, .slice none 0 0, .slice none 0 0]) (by simp [results, Tryz.results93, go_sem, z0, z1, z2, z3]) rfl HVE.out
    by_cases h91 : ∃ r, s.data.toList.drop k1 = 91 :: r
    · obtain ⟨r1, hr1⟩ := h91
      have HG2 : Hid (G = (arrV (listL (elA (value d)) 93 [] r1 (z + 1)))) := Lib.hid (by rw [← HG.out, value_arr hz1 (by rw [HD1.out]; exact hr1)])
      have hN : nextN (s.data.toList.drop k1) = 91 := by rw [hr1]; rfl
      have hcall : ∀ w, PAt w b s k1 y (z + 1) → But b W0 w → Calls Tryz.prog 143 #[.pointer (some ⟨b, 0, none⟩)] w (ValEnd w b s k1 y (arrV (listL (elA (value d)) 93 [] r1 (z + 1)))) := fun w hw hb => array_any w b s k1 y (z + 1) r1 hw (HTW.out w hb) hb8 hz hr1 (by omega) (value_uses d) (value_skip d) HV.out
      rw [hN] at hnx
      have HCALL := Lib.hid hcall
      clear hr1 hN hcall HG HD1
      go_wp2_with fail
      refine hnx.mono ?_
      rintro e w4 ⟨rfl, hb4⟩
      have HP4 := Lib.hid (HP3.out.below hb4)
      have HB4 := Lib.hid (HB3.out.trans (But.of hb4))
      clear hb4 hnx
      go_wp2_with fail
      refine (HCALL.out w4 HP4.out HB4.out).mono ?_
      intro e w5 h5
      clear HCALL
      generalize (arrV (listL (elA (value d)) 93 [] r1 (z + 1))) = G5 at h5 HG2
      cases G5 with
      | error c =>
        obtain ⟨rfl, hb5⟩ := h5
        have HB5 := Lib.hid ((HB0.out.trans HB4.out).trans hb5)
        clear hb5
        go_wp2_with fail
        rw [HG2.out]
        exact ⟨rfl, rfl, HB5.out⟩
      | ok p =>
        obtain ⟨j, r5, n5⟩ := p
        obtain ⟨k5, kd, tx, pc, nc, cc, pd, nd, cd, hk5, hk5s, hr5, rfl, hj5, hP5, hb5⟩ := val_ok h5
        have hR5 := ((HB4.out.trans hb5).block R (by rw [HW1s.out]; exact Nat.lt_succ_self _) (fun e => hbR e.symm)).trans HR.out
        obtain ⟨q0, q1, q2, q3, qf⟩ := zeros_at hR5
        have hsz4 := HB4.out.size
        rw [HW1s.out] at hsz4
        have HV := Lib.hid (val_end (W := W) (R := R) (Nat.le_trans hk1x hk5) hk5s hr5 (JAt.mono (fun i _ h => by have h : w4.heap.size ≤ i := h; show R + 1 ≤ i; omega) _ _ hj5) hP5 ((HB0.out.trans HB4.out).trans hb5) hWR hbR)
        have HR5 := Lib.hid hR5
        clear hr5 hj5 hP5 hb5 hR5
        go_wp2
        obtain ⟨z0, z1, z2, z3⟩ := four_set (p := .int .u8 kd) (q := .string tx) (u := .slice pc nc cc) (v := .slice pd nd cd) HR5.out
        rw [HG2.out]
        exact bodyPost_ret (v := .agg #[.int .u8 kd, .string tx, .slice pc nc cc, .slice pd nd cd]) (by simp [results, Tryz.results93, go_sem, z0, z1, z2, z3]) rfl HV.out
    by_cases h123 : ∃ r, s.data.toList.drop k1 = 123 :: r
    · obtain ⟨r1, hr1⟩ := h123
      have HG2 : Hid (G = (objV (listL (elM (value d)) 125 ([], []) r1 (z + 1)))) := Lib.hid (by rw [← HG.out, value_obj hz1 (by rw [HD1.out]; exact hr1)])
      have hN : nextN (s.data.toList.drop k1) = 123 := by rw [hr1]; rfl
      have hcall : ∀ w, PAt w b s k1 y (z + 1) → But b W0 w → Calls Tryz.prog 144 #[.pointer (some ⟨b, 0, none⟩)] w (ValEnd w b s k1 y (objV (listL (elM (value d)) 125 ([], []) r1 (z + 1)))) := fun w hw hb => object_any w b s k1 y (z + 1) r1 hw (HTW.out w hb) hb8 hz hr1 (by omega) (value_uses d) HV.out
      rw [hN] at hnx
      have HCALL := Lib.hid hcall
      clear hr1 hN hcall HG HD1
      go_wp2_with fail
      refine hnx.mono ?_
      rintro e w4 ⟨rfl, hb4⟩
      have HP4 := Lib.hid (HP3.out.below hb4)
      have HB4 := Lib.hid (HB3.out.trans (But.of hb4))
      clear hb4 hnx
      go_wp2_with fail
      refine (HCALL.out w4 HP4.out HB4.out).mono ?_
      intro e w5 h5
      clear HCALL
      generalize (objV (listL (elM (value d)) 125 ([], []) r1 (z + 1))) = G5 at h5 HG2
      cases G5 with
      | error c =>
        obtain ⟨rfl, hb5⟩ := h5
        have HB5 := Lib.hid ((HB0.out.trans HB4.out).trans hb5)
        clear hb5
        go_wp2_with fail
        rw [HG2.out]
        exact ⟨rfl, rfl, HB5.out⟩
      | ok p =>
        obtain ⟨j, r5, n5⟩ := p
        obtain ⟨k5, kd, tx, pc, nc, cc, pd, nd, cd, hk5, hk5s, hr5, rfl, hj5, hP5, hb5⟩ := val_ok h5
        have hR5 := ((HB4.out.trans hb5).block R (by rw [HW1s.out]; exact Nat.lt_succ_self _) (fun e => hbR e.symm)).trans HR.out
        obtain ⟨q0, q1, q2, q3, qf⟩ := zeros_at hR5
        have hsz4 := HB4.out.size
        rw [HW1s.out] at hsz4
        have HV := Lib.hid (val_end (W := W) (R := R) (Nat.le_trans hk1x hk5) hk5s hr5 (JAt.mono (fun i _ h => by have h : w4.heap.size ≤ i := h; show R + 1 ≤ i; omega) _ _ hj5) hP5 ((HB0.out.trans HB4.out).trans hb5) hWR hbR)
        have HR5 := Lib.hid hR5
        clear hr5 hj5 hP5 hb5 hR5
        go_wp2
        obtain ⟨z0, z1, z2, z3⟩ := four_set (p := .int .u8 kd) (q := .string tx) (u := .slice pc nc cc) (v := .slice pd nd cd) HR5.out
        rw [HG2.out]
        exact bodyPost_ret (v := .agg #[.int .u8 kd, .string tx, .slice pc nc cc, .slice pd nd cd]) (by simp [results, Tryz.results93, go_sem, z0, z1, z2, z3]) rfl HV.out
    · have HG2 : Hid (G = (number (s.data.toList.drop k1) (z + 1))) := Lib.hid (by
        rw [← HG.out, value_num hz1 (by
          rw [HD1.out]
          rintro c (rfl | rfl | rfl | rfl | rfl | rfl) r e
          · exact h110 ⟨r, e⟩
          · exact h116 ⟨r, e⟩
          · exact h102 ⟨r, e⟩
          · exact h34 ⟨r, e⟩
          · exact h91 ⟨r, e⟩
          · exact h123 ⟨r, e⟩), HD1.out])
      have e110 := next_ne (fun r e => h110 ⟨r, e⟩) (n := 110) rfl (by decide)
      have e116 := next_ne (fun r e => h116 ⟨r, e⟩) (n := 116) rfl (by decide)
      have e102 := next_ne (fun r e => h102 ⟨r, e⟩) (n := 102) rfl (by decide)
      have e34 := next_ne (fun r e => h34 ⟨r, e⟩) (n := 34) rfl (by decide)
      have e91 := next_ne (fun r e => h91 ⟨r, e⟩) (n := 91) rfl (by decide)
      have e123 := next_ne (fun r e => h123 ⟨r, e⟩) (n := 123) rfl (by decide)
      have hcall : ∀ w, PAt w b s k1 y (z + 1) → But b W0 w → Calls Tryz.prog 145 #[.pointer (some ⟨b, 0, none⟩)] w (ValEnd w b s k1 y (number (s.data.toList.drop k1) (z + 1))) := fun w hw hb => number_end w b s k1 y (z + 1) hw hk1 (by omega) (HTW.out w hb).2.1 (by omega) (by omega)
      generalize nextN (s.data.toList.drop k1) = N at hnx e110 e116 e102 e34 e91 e123
      have HCALL := Lib.hid hcall
      clear hcall HG HD1 h110 h116 h102 h34 h91 h123
      go_wp2_with fail
      refine hnx.mono ?_
      rintro e w4 ⟨rfl, hb4⟩
      have HP4 := Lib.hid (HP3.out.below hb4)
      have HB4 := Lib.hid (HB3.out.trans (But.of hb4))
      clear hb4 hnx
      go_wp2_with fail
      refine (HCALL.out w4 HP4.out HB4.out).mono ?_
      intro e w5 h5
      clear HCALL
      generalize (number (s.data.toList.drop k1) (z + 1)) = G5 at h5 HG2
      cases G5 with
      | error c =>
        obtain ⟨rfl, hb5⟩ := h5
        have HB5 := Lib.hid ((HB0.out.trans HB4.out).trans hb5)
        clear hb5
        go_wp2_with fail
        rw [HG2.out]
        exact ⟨rfl, rfl, HB5.out⟩
      | ok p =>
        obtain ⟨j, r5, n5⟩ := p
        obtain ⟨k5, kd, tx, pc, nc, cc, pd, nd, cd, hk5, hk5s, hr5, rfl, hj5, hP5, hb5⟩ := val_ok h5
        have hR5 := ((HB4.out.trans hb5).block R (by rw [HW1s.out]; exact Nat.lt_succ_self _) (fun e => hbR e.symm)).trans HR.out
        obtain ⟨q0, q1, q2, q3, qf⟩ := zeros_at hR5
        have hsz4 := HB4.out.size
        rw [HW1s.out] at hsz4
        have HV := Lib.hid (val_end (W := W) (R := R) (Nat.le_trans hk1x hk5) hk5s hr5 (JAt.mono (fun i _ h => by have h : w4.heap.size ≤ i := h; show R + 1 ≤ i; omega) _ _ hj5) hP5 ((HB0.out.trans HB4.out).trans hb5) hWR hbR)
        have HR5 := Lib.hid hR5
        clear hr5 hj5 hP5 hb5 hR5
        go_wp2
        obtain ⟨z0, z1, z2, z3⟩ := four_set (p := .int .u8 kd) (q := .string tx) (u := .slice pc nc cc) (v := .slice pd nd cd) HR5.out
        rw [HG2.out]
        exact bodyPost_ret (v := .agg #[.int .u8 kd, .string tx, .slice pc nc cc, .slice pd nd cd]) (by simp [results, Tryz.results93, go_sem, z0, z1, z2, z3]) rfl HV.out
  · have HG2 : Hid (G = .error 40) := Lib.hid (by rw [← HG.out, value_few _ hz1])
    go_wp2_with fail
    refine (begin_many w1 b s k1 y z HP1.out hy hz1).mono ?_
    rintro e w3 ⟨rfl, hb3⟩
    have HB3 := Lib.hid ((HB0.out.trans HB1.out).trans hb3)
    clear hb3
    go_wp2_with fail
    rw [HG2.out]
    exact ⟨rfl, rfl, HB3.out⟩
set_option maxRecDepth 100000 in
set_option maxHeartbeats 2000000 in
theorem value_zero (W : World) (b : Nat) (s : ByteArray) (x y z : Nat) (hP : PAt W b s x y z) (hx : x ≤ s.size) (hz : s.size ≤ 1000000) (hy : 64 ≤ y) :
    Calls Tryz.prog 93 #[.pointer (some ⟨b, 0, none⟩)] W (Bad 61 b W) := by
  obtain ⟨W0, hW0⟩ : ∃ W0, W.alloc (Obj.cells #[Value.int IntKind.u8 0, Value.string { data := #[] }, Value.slice none 0 0, Value.slice none 0 0] 47) = W0 := ⟨_, rfl⟩
  have hb0 : Below W.heap.size W W0 := by rw [← hW0]; exact galloc (Below.refl _ _) _
  have hbl := blanks_any W0 b s x y z (hP.below hb0) hx hz
  have HB0 := Lib.hid (But.of (b := b) hb0)
  have HW0 := Lib.hid hW0
  clear hP hb0 hW0
  go_enter Tryz.func93, Tryz.ntmps93
  go_wp2_with fail
  rw [HW0.out]
  refine hbl.mono ?_
  rintro e w1 ⟨k1, hk1x, hk1, rfl, hP1, hb1, hd1⟩
  have HP1 := Lib.hid hP1
  have HB1 := Lib.hid (HB0.out.trans hb1)
  clear hP1 hb1 hd1 hbl HW0
  go_wp2_with fail
  refine (begin_deep w1 b s k1 y z HP1.out hy).mono ?_
  rintro e w3 ⟨rfl, hb3⟩
  have HB3 := Lib.hid (HB1.out.trans hb3)
  clear hb3
  go_wp2_with fail
  exact ⟨rfl, rfl, HB3.out⟩
theorem value_any : ∀ (d : Nat) (W : World) (b : Nat) (s : ByteArray) (x y z : Nat), PAt W b s x y z → TabsJ W → 8 ≤ b → x ≤ s.size → s.size ≤ 300000 → y + d = 64 →
    Calls Tryz.prog 93 #[.pointer (some ⟨b, 0, none⟩)] W (ValEnd W b s x y (value d (s.data.toList.drop x) z))
  | 0, W, b, s, x, y, z, hP, hT, hb8, hx, hz, hy => value_zero W b s x y z hP hx (by omega) (by omega)
  | d + 1, W, b, s, x, y, z, hP, hT, hb8, hx, hz, hy => value_one d W b s x y z hP hT hb8 hx hz (by omega) (fun x2 z2 w h1 h2 h3 _ => value_any d w b s x2 (y + 1) z2 h2 h3 hb8 h1 hz (by omega))
end Go.Proofs.YtgcpgieojckheaaGreatDoor.Json
