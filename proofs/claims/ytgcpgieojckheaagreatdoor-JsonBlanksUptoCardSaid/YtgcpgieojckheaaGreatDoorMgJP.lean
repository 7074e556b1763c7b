/-
  The parser's list by an Array's closure.
  The parser's list over an Object's closure.
-/
import Derived.Test.YtgcpgieojckheaaGreatDoorMgJO
import Derived.Test.YtgcpgieojckheaaGreatDoorMgJP0
namespace Go.Proofs.YtgcpgieojckheaaGreatDoor.Json
open Go.RowKit Go.Shelf

theorem next_is (l : List UInt8) (c : UInt8) (n : Int) (hn : (c.toNat : Int) = n) (h0 : n ≠ 0) :
    (((nextN l : Int) == n) = true ∧ ((nextN l : Int) != n) = false ∧ ∃ r, l = c :: r) ∨ (((nextN l : Int) == n) = false ∧ ((nextN l : Int) != n) = true ∧ ∀ r, l ≠ c :: r) := by
  cases l with
  | nil =>
    have e : ((nextN [] : Int) == n) = false := by rw [beq_eq_false_iff_ne]; exact fun e => h0 e.symm
    exact .inr ⟨e, by unfold bne; rw [e]; rfl, fun r h => by cases h⟩
  | cons d r =>
    have e : ((nextN (d :: r) : Int) == n) = (d == c) := u8_eq hn
    by_cases h : d = c
    · have e2 : (d == c) = true := by rw [h]; simp
      exact .inl ⟨by rw [e, e2], by unfold bne; rw [e, e2]; rfl, r, by rw [h]⟩
    · have e2 : (d == c) = false := beq_eq_false_iff_ne.2 h
      exact .inr ⟨by rw [e, e2], by unfold bne; rw [e, e2]; rfl, fun r2 h2 => by cases h2; exact h rfl⟩
/-- What a list, or an element, ends in. -/
def ListEnd {α : Type} (St : α → World → Prop) (W : World) (b : Nat) (s : ByteArray) (x y : Nat) : Got α → Ending → World → Prop
  | .ok (a, r, n), e, w' => ∃ k, x ≤ k ∧ k ≤ s.size ∧ r = s.data.toList.drop k ∧ e = .returned NoVal ∧ PAt w' b s k y n ∧ St a w'
  | .error c, e, w' => Bad c b W e w'
/-- The loop's state. -/
def LInv {α : Type} (el : α → List UInt8 → Nat → Got α) (shut : UInt8) (St : α → World → Prop) (b : Nat) (s : ByteArray) (y1 k n : Nat) (a : α) (len : α → Nat) (G : Got α) (wr : World) : Prop :=
  PAt wr b s k y1 n ∧ St a wr ∧ G = restA el shut a (s.data.toList.drop k) n ∧ len a ≤ k ∧ skip (s.data.toList.drop k) = s.data.toList.drop k
set_option maxRecDepth 100000 in
set_option maxHeartbeats 8000000 in
theorem list183 {α : Type} (el : α → List UInt8 → Nat → Got α) (St : α → World → Prop) (len : α → Nat) (W : World) (b P J : Nat) (s : ByteArray) (x y z : Nat) (w0 : World) (a0 : α) (r : List UInt8)
    (hu : UsesL el) (hsk : ∀ a l n, el a (skip l) n = el a l n) (hlen : ∀ a l n a2 r n2, el a l n = .ok (a2, r, n2) → len a2 ≤ len a + 1)
    (hSB : ∀ a w, St a w → But b W w) (hSt : ∀ a w w', St a w → But b w w' → St a w')
    (hEl : ∀ a x z w, x ≤ s.size → skip (s.data.toList.drop x) = s.data.toList.drop x → len a ≤ s.size → St a w → PAt w b s x (y + 1) z → Calls Tryz.prog 183 #[.pointer (some ⟨J, 0, none⟩), .pointer (some ⟨P, 0, none⟩)] w (ListEnd St W b s x (y + 1) (el a (s.data.toList.drop x) z)))
    (hS : St a0 w0) (ha0 : len a0 = 0) (hP : PAt w0 b s x y z) (hr : s.data.toList.drop x = 91 :: r) (hy : y ≤ 100) (hz : s.size ≤ 1000000) :
    Calls Tryz.prog 182 #[.pointer (some ⟨b, 0, none⟩), .int .u8 91, .int .u8 93, .func (.func 183) #[] #[.pointer (some ⟨J, 0, none⟩), .pointer (some ⟨P, 0, none⟩)]] w0 (ListEnd St W b s x y (listL el 93 a0 r z)) := by
  obtain ⟨G, hG⟩ : ∃ G, listL el 93 a0 r z = G := ⟨_, rfl⟩
  rw [hG]
  have hq := (drop_cons hr).2.2
  have hq1 : x + 1 ≤ s.size := by have := (drop_cons hr).1; rw [← Lib.size_eq] at this; omega
  have hn1 := need_yes w0 b s x y z 91 r hP hz hr
  obtain ⟨y1, hy1⟩ : ∃ y1, y + 1 = y1 := ⟨_, rfl⟩
  rw [hy1] at hEl
  have hw1 : IntKind.i64.wrap ((y : Int) + 1) = (y1 : Int) := by rw [IntWalk.i64_in _ (by omega)]; omega
  have hw2 : IntKind.i64.wrap ((y1 : Int) - 1) = (y : Int) := by rw [IntWalk.i64_in _ (by omega)]; omega
  have HG : Hid (G = listL el 93 a0 (s.data.toList.drop (x + 1)) z) := Lib.hid (by rw [← hG, hq])
  have HS := Lib.hid hS
  have HEl := Lib.hid hEl
  have HU := Lib.hid hu
  have HK := Lib.hid hsk
  have HL := Lib.hid hlen
  have HSB := Lib.hid hSB
  have HSt := Lib.hid hSt
  have HA0 := Lib.hid ha0
  clear hG hS hP hr hq hEl hu hsk hlen hSB hSt hy1 ha0
  go_enter Tryz.func182, Tryz.ntmps182
  go_wp2_with fail
  refine hn1.mono ?_
  rintro e w1 ⟨rfl, hP1, hb1⟩
  have HS1 := Lib.hid (HSt.out _ _ _ HS.out hb1)
  obtain ⟨k0, k1, k2, k3, kf⟩ := hP1.cells
  have HP1 := Lib.hid (hP1.set2 y1)
  have HS2 := Lib.hid (HSt.out _ _ _ HS1.out (But.set b w1 2 (.int .i64 y1)))
  clear hP1 hb1 hn1
  go_wp2_with fail
  clear k0 k1 k2 k3 kf
  generalize w1.setCell ⟨b, 2, none⟩ (.int .i64 y1) = w2 at *
  refine (blanks_any w2 b s (x + 1) y1 z HP1.out hq1 hz).mono ?_
  rintro e w3 ⟨k, hk1, hk2, rfl, hP3, hb3, hd3⟩
  have HP3 := Lib.hid hP3
  have HS3 := Lib.hid (HSt.out _ _ _ HS2.out hb3)
  have HD3 := Lib.hid hd3
  clear hP3 hb3 hd3
  have hnx := next_any w3 b s k y1 z HP3.out hk2
  rcases next_is (s.data.toList.drop k) 93 93 rfl (by decide) with ⟨_, hne, r2, hr2⟩ | ⟨_, hne, hno⟩
  · have HG2 : Hid (G = .ok (a0, s.data.toList.drop (k + 1), z)) := Lib.hid (by rw [HG.out, listL_shut (by rw [HD3.out]; exact hr2), (drop_cons hr2).2.2])
    have hk3 : k + 1 ≤ s.size := by have := (drop_cons hr2).1; rw [← Lib.size_eq] at this; omega
    have hnd := fun w hw => need_yes w b s k y1 z 93 r2 hw hz hr2
    clear hr2
    generalize nextN (s.data.toList.drop k) = N at hnx hne
    go_wp2_with fail
    refine hnx.mono ?_
    rintro e w4 ⟨rfl, hb4⟩
    have HP4 := Lib.hid (HP3.out.below hb4)
    have HS4 := Lib.hid (HSt.out _ _ _ HS3.out (But.of hb4))
    clear hb4 hnx
    go_wp2_with fail
    refine (hnd w4 HP4.out).mono ?_
    rintro e w5 ⟨rfl, hP5, hb5⟩
    have HS5 := Lib.hid (HSt.out _ _ _ HS4.out hb5)
    obtain ⟨k0, k1, k2, k3, kf⟩ := hP5.cells
    have HP5 := Lib.hid (hP5.set2 y)
    have HS6 := Lib.hid (HSt.out _ _ _ HS5.out (But.set b w5 2 (.int .i64 y)))
    clear hP5 hb5 hnd
    go_wp2
    go_end0
    rw [HG2.out]
    exact ⟨k + 1, by omega, hk3, rfl, rfl, HP5.out, HS6.out⟩
  · have HG2 : Hid (G = thenL el 93 (el a0 (s.data.toList.drop k) z)) := Lib.hid (by rw [HG.out, listL_el (by rw [HD3.out]; exact hno), HD3.out])
    clear hno
    generalize nextN (s.data.toList.drop k) = N at hnx hne
    go_wp2_with fail
    refine hnx.mono ?_
    rintro e w4 ⟨rfl, hb4⟩
    have HP4 := Lib.hid (HP3.out.below hb4)
    have HS4 := Lib.hid (HSt.out _ _ _ HS3.out (But.of hb4))
    clear hb4 hnx
    go_wp2_with fail
    refine (HEl.out a0 k z w4 hk2 (by rw [← HD3.out, skip_skip]) (by rw [HA0.out]; omega) HS4.out HP4.out).mono ?_
    intro e w5 h5
    cases hE : el a0 (s.data.toList.drop k) z with
    | error c =>
      rw [hE] at h5
      obtain ⟨rfl, hb5⟩ := h5
      have HG3 : Hid (G = .error c) := Lib.hid (by rw [HG2.out, hE]; rfl)
      have HB5 := Lib.hid hb5
      clear hE hb5
      go_wp2_with fail
      rw [HG3.out]
      exact ⟨rfl, rfl, HB5.out⟩
    | ok p =>
      obtain ⟨a1, r3, n3⟩ := p
      rw [hE] at h5
      obtain ⟨k5, hk5, hk5s, hr5, rfl, hP5, hS5⟩ := h5
      have hla := HL.out _ _ _ _ _ _ hE
      rw [HA0.out] at hla
      have HG3 : Hid (G = restA el 93 a1 (s.data.toList.drop k5) n3) := Lib.hid (by rw [HG2.out, hE, ← hr5]; rfl)
      have HP5 := Lib.hid hP5
      have HS5 := Lib.hid hS5
      clear hE hr5 hP5 hS5
      go_wp2_with fail
      refine (blanks_any w5 b s k5 y1 n3 HP5.out hk5s hz).mono ?_
      rintro e w6 ⟨k6, hk6, hk6s, rfl, hP6, hb6, hd6⟩
      have HI : Hid (LInv el 93 St b s y1 k6 n3 a1 len G w6) := Lib.hid ⟨hP6, HSt.out _ _ _ HS5.out hb6, by rw [HG3.out, ← hd6, rest_skip HU.out], by omega, by rw [← hd6, skip_skip]⟩
      clear hP6 hb6 hd6 HG3 HG2
      go_wp2_with fail
      go_loopw [] (fun wr => ∃ (k n : Nat) (a : α), x + 1 ≤ k ∧ k ≤ s.size ∧ Hid (LInv el 93 St b s y1 k n a len G wr)) (fun wr => s.size - stands b wr)
      case atStart => exact ⟨k6, n3, a1, by omega, hk6s, HI⟩
      case round =>
        obtain ⟨k, n, a, hxk, hk, HK2⟩ := hrel
        have hnx := next_any wr b s k y1 n HK2.out.1 hk
        have hla := HK2.out.2.2.2.1
        rcases next_is (s.data.toList.drop k) 44 44 rfl (by decide) with ⟨heq, _, r2, hr2⟩ | ⟨heq, _, hno⟩
        · have HG4 : Hid (G = thenL el 93 (el a (s.data.toList.drop (k + 1)) n)) := Lib.hid (by rw [HK2.out.2.2.1, rest_comma HU.out (by rw [HK2.out.2.2.2.2]; exact hr2), (drop_cons hr2).2.2])
          have hk3 : k + 1 ≤ s.size := by have := (drop_cons hr2).1; rw [← Lib.size_eq] at this; omega
          have hnd := fun w hw => need_yes w b s k y1 n 44 r2 hw hz hr2
          clear hr2
          generalize nextN (s.data.toList.drop k) = N at hnx heq
          go_wp2_with fail
          refine hnx.mono ?_
          rintro e w7 ⟨rfl, hb7⟩
          have HP7 := Lib.hid (HK2.out.1.below hb7)
          have HS7 := Lib.hid (HSt.out _ _ _ HK2.out.2.1 (But.of hb7))
          clear hb7 hnx
          go_wp2_with fail
          refine (hnd w7 HP7.out).mono ?_
          rintro e w8 ⟨rfl, hP8, hb8⟩
          have HP8 := Lib.hid hP8
          have HS8 := Lib.hid (HSt.out _ _ _ HS7.out hb8)
          clear hP8 hb8 hnd
          go_wp2_with fail
          refine (blanks_any w8 b s (k + 1) y1 n HP8.out hk3 hz).mono ?_
          rintro e w9 ⟨k9, hk9, hk9s, rfl, hP9, hb9, hd9⟩
          have HP9 := Lib.hid hP9
          have HS9 := Lib.hid (HSt.out _ _ _ HS8.out hb9)
          have HG5 : Hid (G = thenL el 93 (el a (s.data.toList.drop k9) n)) := Lib.hid (by rw [HG4.out, ← hd9, HK.out])
          have HD9 : Hid (skip (s.data.toList.drop k9) = s.data.toList.drop k9) := Lib.hid (by rw [← hd9, skip_skip])
          clear hP9 hb9 hd9 HG4
          go_wp2_with fail
          refine (HEl.out a k9 n w9 hk9s HD9.out (by omega) HS9.out HP9.out).mono ?_
          intro e w10 h10
          cases hE : el a (s.data.toList.drop k9) n with
          | error c =>
            rw [hE] at h10
            obtain ⟨rfl, hb10⟩ := h10
            have HG6 : Hid (G = .error c) := Lib.hid (by rw [HG5.out, hE]; rfl)
            have HB10 := Lib.hid hb10
            clear hE hb10
            go_wp2_with fail
            rw [HG6.out]
            exact ⟨rfl, rfl, HB10.out⟩
          | ok p =>
            obtain ⟨a2, r4, n4⟩ := p
            rw [hE] at h10
            obtain ⟨k10, hk10, hk10s, hr10, rfl, hP10, hS10⟩ := h10
            have hla2 := HL.out _ _ _ _ _ _ hE
            have HG6 : Hid (G = restA el 93 a2 (s.data.toList.drop k10) n4) := Lib.hid (by rw [HG5.out, hE, ← hr10]; rfl)
            have HP10 := Lib.hid hP10
            have HS10 := Lib.hid hS10
            clear hE hr10 hP10 hS10
            go_wp2_with fail
            refine (blanks_any w10 b s k10 y1 n4 HP10.out hk10s hz).mono ?_
            rintro e w11 ⟨k11, hk11, hk11s, rfl, hP11, hb11, hd11⟩
            have HI2 : Hid (LInv el 93 St b s y1 k11 n4 a2 len G w11) := Lib.hid ⟨hP11, HSt.out _ _ _ HS10.out hb11, by rw [HG6.out, ← hd11, rest_skip HU.out], by omega, by rw [← hd11, skip_skip]⟩
            have hst : stands b w11 = k11 := stands_at hP11
            clear hP11 hb11 hd11 HG6 HG5
            go_wp2_with fail
            exact ⟨⟨k11, n4, a2, by omega, hk11s, HI2⟩, by rw [stands_at HK2.out.1, hst]; omega⟩
        · have HNO := Lib.hid hno
          clear hno
          have hnx0 := hnx
          clear hnx
          rcases next_is (s.data.toList.drop k) 93 93 rfl (by decide) with ⟨_, _, r2, hr2⟩ | ⟨_, _, hno2⟩
          · have HG4 : Hid (G = .ok (a, s.data.toList.drop (k + 1), n)) := Lib.hid (by rw [HK2.out.2.2.1, rest_shut (by decide) (by rw [HK2.out.2.2.2.2]; exact hr2), (drop_cons hr2).2.2])
            have hk3 : k + 1 ≤ s.size := by have := (drop_cons hr2).1; rw [← Lib.size_eq] at this; omega
            have hnd := fun w hw => need_yes w b s k y1 n 93 r2 hw hz hr2
            clear hr2
            generalize nextN (s.data.toList.drop k) = N at hnx0 heq
            go_wp2_with fail
            refine hnx0.mono ?_
            rintro e w7 ⟨rfl, hb7⟩
            have HP7 := Lib.hid (HK2.out.1.below hb7)
            have HS7 := Lib.hid (HSt.out _ _ _ HK2.out.2.1 (But.of hb7))
            clear hb7 hnx0
            go_wp2_with fail
            refine (hnd w7 HP7.out).mono ?_
            rintro e w8 ⟨rfl, hP8, hb8⟩
            have HS8 := Lib.hid (HSt.out _ _ _ HS7.out hb8)
            obtain ⟨k0, k1, k2, k3, kf⟩ := hP8.cells
            have HP8 := Lib.hid (hP8.set2 y)
            have HS9 := Lib.hid (HSt.out _ _ _ HS8.out (But.set b w8 2 (.int .i64 y)))
            clear hP8 hb8 hnd
            go_wp2
            go_end0
            rw [HG4.out]
            exact ⟨k + 1, by omega, hk3, rfl, rfl, HP8.out, HS9.out⟩
          · have HG4 : Hid (G = .error 4) := Lib.hid (by rw [HK2.out.2.2.1, rest_else (by rw [HK2.out.2.2.2.2]; exact HNO.out) (by rw [HK2.out.2.2.2.2]; exact hno2)])
            have hnd := fun w hw => need_no w b s k y1 n 93 hw hk hno2
            clear hno2
            generalize nextN (s.data.toList.drop k) = N at hnx0 heq
            go_wp2_with fail
            refine hnx0.mono ?_
            rintro e w7 ⟨rfl, hb7⟩
            have HP7 := Lib.hid (HK2.out.1.below hb7)
            have HS7 := Lib.hid (HSB.out _ _ (HSt.out _ _ _ HK2.out.2.1 (But.of hb7)))
            clear hb7 hnx0
            go_wp2_with fail
            refine (hnd w7 HP7.out).mono ?_
            rintro e w8 ⟨rfl, hb8⟩
            have HB8 := Lib.hid (HS7.out.trans hb8)
            clear hb8 hnd
            go_wp2_with fail
            rw [HG4.out]
            exact ⟨rfl, rfl, HB8.out⟩
end Go.Proofs.YtgcpgieojckheaaGreatDoor.Json
namespace Go.Proofs.YtgcpgieojckheaaGreatDoor.Json
open Go.RowKit Go.Shelf

set_option maxRecDepth 100000 in
set_option maxHeartbeats 8000000 in
theorem list184 {α : Type} (el : α → List UInt8 → Nat → Got α) (St : α → World → Prop) (len : α → Nat) (W : World) (b P K J : Nat) (s : ByteArray) (x y z : Nat) (w0 : World) (a0 : α) (r : List UInt8)
    (hu : UsesL el) (hsk : ∀ a l n, el a (skip l) n = el a l n) (hlen : ∀ a l n a2 r n2, el a l n = .ok (a2, r, n2) → len a2 ≤ len a + 1)
    (hSB : ∀ a w, St a w → But b W w) (hSt : ∀ a w w', St a w → But b w w' → St a w')
    (hEl : ∀ a x z w, x ≤ s.size → skip (s.data.toList.drop x) = s.data.toList.drop x → len a ≤ s.size → St a w → PAt w b s x (y + 1) z → Calls Tryz.prog 184 #[.pointer (some ⟨P, 0, none⟩), .pointer (some ⟨K, 0, none⟩), .pointer (some ⟨J, 0, none⟩)] w (ListEnd St W b s x (y + 1) (el a (s.data.toList.drop x) z)))
    (hS : St a0 w0) (ha0 : len a0 = 0) (hP : PAt w0 b s x y z) (hr : s.data.toList.drop x = 123 :: r) (hy : y ≤ 100) (hz : s.size ≤ 1000000) :
    Calls Tryz.prog 182 #[.pointer (some ⟨b, 0, none⟩), .int .u8 123, .int .u8 125, .func (.func 184) #[] #[.pointer (some ⟨P, 0, none⟩), .pointer (some ⟨K, 0, none⟩), .pointer (some ⟨J, 0, none⟩)]] w0 (ListEnd St W b s x y (listL el 125 a0 r z)) := by
  obtain ⟨G, hG⟩ : ∃ G, listL el 125 a0 r z = G := ⟨_, rfl⟩
  rw [hG]
  have hq := (drop_cons hr).2.2
  have hq1 : x + 1 ≤ s.size := by have := (drop_cons hr).1; rw [← Lib.size_eq] at this; omega
  have hn1 := need_yes w0 b s x y z 123 r hP hz hr
  obtain ⟨y1, hy1⟩ : ∃ y1, y + 1 = y1 := ⟨_, rfl⟩
  rw [hy1] at hEl
  have hw1 : IntKind.i64.wrap ((y : Int) + 1) = (y1 : Int) := by rw [IntWalk.i64_in _ (by omega)]; omega
  have hw2 : IntKind.i64.wrap ((y1 : Int) - 1) = (y : Int) := by rw [IntWalk.i64_in _ (by omega)]; omega
  have HG : Hid (G = listL el 125 a0 (s.data.toList.drop (x + 1)) z) := Lib.hid (by rw [← hG, hq])
  have HS := Lib.hid hS
  have HEl := Lib.hid hEl
  have HU := Lib.hid hu
  have HK := Lib.hid hsk
  have HL := Lib.hid hlen
  have HSB := Lib.hid hSB
  have HSt := Lib.hid hSt
  have HA0 := Lib.hid ha0
  clear hG hS hP hr hq hEl hu hsk hlen hSB hSt hy1 ha0
  go_enter Tryz.func182, Tryz.ntmps182
  go_wp2_with fail
  refine hn1.mono ?_
  rintro e w1 ⟨rfl, hP1, hb1⟩
  have HS1 := Lib.hid (HSt.out _ _ _ HS.out hb1)
  obtain ⟨k0, k1, k2, k3, kf⟩ := hP1.cells
  have HP1 := Lib.hid (hP1.set2 y1)
  have HS2 := Lib.hid (HSt.out _ _ _ HS1.out (But.set b w1 2 (.int .i64 y1)))
  clear hP1 hb1 hn1
  go_wp2_with fail
  clear k0 k1 k2 k3 kf
  generalize w1.setCell ⟨b, 2, none⟩ (.int .i64 y1) = w2 at *
  refine (blanks_any w2 b s (x + 1) y1 z HP1.out hq1 hz).mono ?_
  rintro e w3 ⟨k, hk1, hk2, rfl, hP3, hb3, hd3⟩
  have HP3 := Lib.hid hP3
  have HS3 := Lib.hid (HSt.out _ _ _ HS2.out hb3)
  have HD3 := Lib.hid hd3
  clear hP3 hb3 hd3
  have hnx := next_any w3 b s k y1 z HP3.out hk2
  rcases next_is (s.data.toList.drop k) 125 125 rfl (by decide) with ⟨_, hne, r2, hr2⟩ | ⟨_, hne, hno⟩
  · have HG2 : Hid (G = .ok (a0, s.data.toList.drop (k + 1), z)) := Lib.hid (by rw [HG.out, listL_shut (by rw [HD3.out]; exact hr2), (drop_cons hr2).2.2])
    have hk3 : k + 1 ≤ s.size := by have := (drop_cons hr2).1; rw [← Lib.size_eq] at this; omega
    have hnd := fun w hw => need_yes w b s k y1 z 125 r2 hw hz hr2
    clear hr2
    generalize nextN (s.data.toList.drop k) = N at hnx hne
    go_wp2_with fail
    refine hnx.mono ?_
    rintro e w4 ⟨rfl, hb4⟩
    have HP4 := Lib.hid (HP3.out.below hb4)
    have HS4 := Lib.hid (HSt.out _ _ _ HS3.out (But.of hb4))
    clear hb4 hnx
    go_wp2_with fail
    refine (hnd w4 HP4.out).mono ?_
    rintro e w5 ⟨rfl, hP5, hb5⟩
    have HS5 := Lib.hid (HSt.out _ _ _ HS4.out hb5)
    obtain ⟨k0, k1, k2, k3, kf⟩ := hP5.cells
    have HP5 := Lib.hid (hP5.set2 y)
    have HS6 := Lib.hid (HSt.out _ _ _ HS5.out (But.set b w5 2 (.int .i64 y)))
    clear hP5 hb5 hnd
    go_wp2
    go_end0
    rw [HG2.out]
    exact ⟨k + 1, by omega, hk3, rfl, rfl, HP5.out, HS6.out⟩
  · have HG2 : Hid (G = thenL el 125 (el a0 (s.data.toList.drop k) z)) := Lib.hid (by rw [HG.out, listL_el (by rw [HD3.out]; exact hno), HD3.out])
    clear hno
    generalize nextN (s.data.toList.drop k) = N at hnx hne
    go_wp2_with fail
    refine hnx.mono ?_
    rintro e w4 ⟨rfl, hb4⟩
    have HP4 := Lib.hid (HP3.out.below hb4)
    have HS4 := Lib.hid (HSt.out _ _ _ HS3.out (But.of hb4))
    clear hb4 hnx
    go_wp2_with fail
    refine (HEl.out a0 k z w4 hk2 (by rw [← HD3.out, skip_skip]) (by rw [HA0.out]; omega) HS4.out HP4.out).mono ?_
    intro e w5 h5
    cases hE : el a0 (s.data.toList.drop k) z with
    | error c =>
      rw [hE] at h5
      obtain ⟨rfl, hb5⟩ := h5
      have HG3 : Hid (G = .error c) := Lib.hid (by rw [HG2.out, hE]; rfl)
      have HB5 := Lib.hid hb5
      clear hE hb5
      go_wp2_with fail
      rw [HG3.out]
      exact ⟨rfl, rfl, HB5.out⟩
    | ok p =>
      obtain ⟨a1, r3, n3⟩ := p
      rw [hE] at h5
      obtain ⟨k5, hk5, hk5s, hr5, rfl, hP5, hS5⟩ := h5
      have hla := HL.out _ _ _ _ _ _ hE
      rw [HA0.out] at hla
      have HG3 : Hid (G = restA el 125 a1 (s.data.toList.drop k5) n3) := Lib.hid (by rw [HG2.out, hE, ← hr5]; rfl)
      have HP5 := Lib.hid hP5
      have HS5 := Lib.hid hS5
      clear hE hr5 hP5 hS5
      go_wp2_with fail
      refine (blanks_any w5 b s k5 y1 n3 HP5.out hk5s hz).mono ?_
      rintro e w6 ⟨k6, hk6, hk6s, rfl, hP6, hb6, hd6⟩
      have HI : Hid (LInv el 125 St b s y1 k6 n3 a1 len G w6) := Lib.hid ⟨hP6, HSt.out _ _ _ HS5.out hb6, by rw [HG3.out, ← hd6, rest_skip HU.out], by omega, by rw [← hd6, skip_skip]⟩
      clear hP6 hb6 hd6 HG3 HG2
      go_wp2_with fail
      go_loopw [] (fun wr => ∃ (k n : Nat) (a : α), x + 1 ≤ k ∧ k ≤ s.size ∧ Hid (LInv el 125 St b s y1 k n a len G wr)) (fun wr => s.size - stands b wr)
      case atStart => exact ⟨k6, n3, a1, by omega, hk6s, HI⟩
      case round =>
        obtain ⟨k, n, a, hxk, hk, HK2⟩ := hrel
        have hnx := next_any wr b s k y1 n HK2.out.1 hk
        have hla := HK2.out.2.2.2.1
        rcases next_is (s.data.toList.drop k) 44 44 rfl (by decide) with ⟨heq, _, r2, hr2⟩ | ⟨heq, _, hno⟩
        · have HG4 : Hid (G = thenL el 125 (el a (s.data.toList.drop (k + 1)) n)) := Lib.hid (by rw [HK2.out.2.2.1, rest_comma HU.out (by rw [HK2.out.2.2.2.2]; exact hr2), (drop_cons hr2).2.2])
          have hk3 : k + 1 ≤ s.size := by have := (drop_cons hr2).1; rw [← Lib.size_eq] at this; omega
          have hnd := fun w hw => need_yes w b s k y1 n 44 r2 hw hz hr2
          clear hr2
          generalize nextN (s.data.toList.drop k) = N at hnx heq
          go_wp2_with fail
          refine hnx.mono ?_
          rintro e w7 ⟨rfl, hb7⟩
          have HP7 := Lib.hid (HK2.out.1.below hb7)
          have HS7 := Lib.hid (HSt.out _ _ _ HK2.out.2.1 (But.of hb7))
          clear hb7 hnx
          go_wp2_with fail
          refine (hnd w7 HP7.out).mono ?_
          rintro e w8 ⟨rfl, hP8, hb8⟩
          have HP8 := Lib.hid hP8
          have HS8 := Lib.hid (HSt.out _ _ _ HS7.out hb8)
          clear hP8 hb8 hnd
          go_wp2_with fail
          refine (blanks_any w8 b s (k + 1) y1 n HP8.out hk3 hz).mono ?_
          rintro e w9 ⟨k9, hk9, hk9s, rfl, hP9, hb9, hd9⟩
          have HP9 := Lib.hid hP9
          have HS9 := Lib.hid (HSt.out _ _ _ HS8.out hb9)
          have HG5 : Hid (G = thenL el 125 (el a (s.data.toList.drop k9) n)) := Lib.hid (by rw [HG4.out, ← hd9, HK.out])
          have HD9 : Hid (skip (s.data.toList.drop k9) = s.data.toList.drop k9) := Lib.hid (by rw [← hd9, skip_skip])
          clear hP9 hb9 hd9 HG4
          go_wp2_with fail
          refine (HEl.out a k9 n w9 hk9s HD9.out (by omega) HS9.out HP9.out).mono ?_
          intro e w10 h10
          cases hE : el a (s.data.toList.drop k9) n with
          | error c =>
            rw [hE] at h10
            obtain ⟨rfl, hb10⟩ := h10
            have HG6 : Hid (G = .error c) := Lib.hid (by rw [HG5.out, hE]; rfl)
            have HB10 := Lib.hid hb10
            clear hE hb10
            go_wp2_with fail
            rw [HG6.out]
            exact ⟨rfl, rfl, HB10.out⟩
          | ok p =>
            obtain ⟨a2, r4, n4⟩ := p
            rw [hE] at h10
            obtain ⟨k10, hk10, hk10s, hr10, rfl, hP10, hS10⟩ := h10
            have hla2 := HL.out _ _ _ _ _ _ hE
            have HG6 : Hid (G = restA el 125 a2 (s.data.toList.drop k10) n4) := Lib.hid (by rw [HG5.out, hE, ← hr10]; rfl)
            have HP10 := Lib.hid hP10
            have HS10 := Lib.hid hS10
            clear hE hr10 hP10 hS10
            go_wp2_with fail
            refine (blanks_any w10 b s k10 y1 n4 HP10.out hk10s hz).mono ?_
            rintro e w11 ⟨k11, hk11, hk11s, rfl, hP11, hb11, hd11⟩
            have HI2 : Hid (LInv el 125 St b s y1 k11 n4 a2 len G w11) := Lib.hid ⟨hP11, HSt.out _ _ _ HS10.out hb11, by rw [HG6.out, ← hd11, rest_skip HU.out], by omega, by rw [← hd11, skip_skip]⟩
            have hst : stands b w11 = k11 := stands_at hP11
            clear hP11 hb11 hd11 HG6 HG5
            go_wp2_with fail
            exact ⟨⟨k11, n4, a2, by omega, hk11s, HI2⟩, by rw [stands_at HK2.out.1, hst]; omega⟩
        · have HNO := Lib.hid hno
          clear hno
          have hnx0 := hnx
          clear hnx
          rcases next_is (s.data.toList.drop k) 125 125 rfl (by decide) with ⟨_, _, r2, hr2⟩ | ⟨_, _, hno2⟩
          · have HG4 : Hid (G = .ok (a, s.data.toList.drop (k + 1), n)) := Lib.hid (by rw [HK2.out.2.2.1, rest_shut (by decide) (by rw [HK2.out.2.2.2.2]; exact hr2), (drop_cons hr2).2.2])
            have hk3 : k + 1 ≤ s.size := by have := (drop_cons hr2).1; rw [← Lib.size_eq] at this; omega
            have hnd := fun w hw => need_yes w b s k y1 n 125 r2 hw hz hr2
            clear hr2
            generalize nextN (s.data.toList.drop k) = N at hnx0 heq
            go_wp2_with fail
            refine hnx0.mono ?_
            rintro e w7 ⟨rfl, hb7⟩
            have HP7 := Lib.hid (HK2.out.1.below hb7)
            have HS7 := Lib.hid (HSt.out _ _ _ HK2.out.2.1 (But.of hb7))
            clear hb7 hnx0
            go_wp2_with fail
            refine (hnd w7 HP7.out).mono ?_
            rintro e w8 ⟨rfl, hP8, hb8⟩
            have HS8 := Lib.hid (HSt.out _ _ _ HS7.out hb8)
            obtain ⟨k0, k1, k2, k3, kf⟩ := hP8.cells
            have HP8 := Lib.hid (hP8.set2 y)
            have HS9 := Lib.hid (HSt.out _ _ _ HS8.out (But.set b w8 2 (.int .i64 y)))
            clear hP8 hb8 hnd
            go_wp2
            go_end0
            rw [HG4.out]
            exact ⟨k + 1, by omega, hk3, rfl, rfl, HP8.out, HS9.out⟩
          · have HG4 : Hid (G = .error 4) := Lib.hid (by rw [HK2.out.2.2.1, rest_else (by rw [HK2.out.2.2.2.2]; exact HNO.out) (by rw [HK2.out.2.2.2.2]; exact hno2)])
            have hnd := fun w hw => need_no w b s k y1 n 125 hw hk hno2
            clear hno2
            generalize nextN (s.data.toList.drop k) = N at hnx0 heq
            go_wp2_with fail
            refine hnx0.mono ?_
            rintro e w7 ⟨rfl, hb7⟩
            have HP7 := Lib.hid (HK2.out.1.below hb7)
            have HS7 := Lib.hid (HSB.out _ _ (HSt.out _ _ _ HK2.out.2.1 (But.of hb7)))
            clear hb7 hnx0
            go_wp2_with fail
            refine (hnd w7 HP7.out).mono ?_
            rintro e w8 ⟨rfl, hb8⟩
            have HB8 := Lib.hid (HS7.out.trans hb8)
            clear hb8 hnd
            go_wp2_with fail
            rw [HG4.out]
            exact ⟨rfl, rfl, HB8.out⟩
end Go.Proofs.YtgcpgieojckheaaGreatDoor.Json
