/-
  LexNames: the walk of the law.
-/
import Derived.Test.YtaofpefmniadiaaDoorRK
namespace Go.Proofs.YtaofpefmniadiaaDoor
open Go.RowKit
attribute [local go_sem ↓] Go.wp_at_zero Go.wp_at_succ

set_option maxRecDepth 100000 in
set_option maxHeartbeats 16000000 in
theorem names_walk (w : World) (hE : Env w) : Calls Tryd.prog 3 #[] w (WorksEnd w) := by
  have HE := Lib.hid hE
  clear hE
  obtain ⟨X1, m1, t1⟩ := many_most
  obtain ⟨X2, m2, t2⟩ := many_over
  have M1 := Lib.hid m1
  have M2 := Lib.hid m2
  have T1 := Lib.hid t1
  have T2 := Lib.hid t2
  clear m1 m2 t1 t2
  go_enter Tryd.func3, Tryd.ntmps3
  go_wp2_with fail
  refine (works_any w HE.out).mono ?_
  rintro e w1 ⟨rfl, hb1⟩
  have HB1 := Lib.hid hb1
  have HE1 := Lib.hid (HE.out.below hb1 HE.out.size)
  clear hb1 HE
  go_wp2_with fail
  have HB0 := Lib.hid (galloc2 (Below.refl w1.heap.size w1) (Nat.le_refl _) (.cells nmCells 23))
  have HN0 : Hid (Nm w1.heap.size (w1.alloc (.cells nmCells 23))) := Lib.hid (World.alloc_heap_new w1 _)
  go_loopw [87] (fun i wr => ∃ k : Nat, i = .int .i64 k ∧ k ≤ 55 ∧ Hid (Below w1.heap.size w1 wr) ∧ Hid (Nm w1.heap.size wr)) (fun i _ => 55 - (intOf i).toNat)
  case atStart => exact ⟨0, rfl, Nat.zero_le _, HB0, HN0⟩
  case round =>
    clear HB0 HN0
    obtain ⟨k, rfl, hk, HB, HN⟩ := hrel
    by_cases hlt : k < 55
    · have hlt' : (k : Int) < 55 := by omega
      obtain ⟨a, b, c1, c2, hz, ho⟩ := HN.out.at hlt
      have HO := Lib.hid ho
      clear ho
      have BW : Below w1.heap.size w1 (wr.alloc (.cells #[.string a, .string b] 23)) := galloc2 HB.out HB.out.size _
      have k0 : (wr.alloc (.cells #[.string a, .string b] 23)).cell? ⟨wr.heap.size, 0, none⟩ = some (.string a) := by simp
      have k1 : (wr.alloc (.cells #[.string a, .string b] 23)).cell? ⟨wr.heap.size, 1, none⟩ = some (.string b) := by simp
      have hz0 : wr.heap.size < (wr.alloc (.cells #[.string a, .string b] 23)).heap.size := by simp
      have hN : w1.heap.size < wr.heap.size := (Array.getElem?_eq_some_iff.1 HN.out).1
      have HN1 : Hid (Nm w1.heap.size (wr.alloc (.cells #[.string a, .string b] 23))) := Lib.hid ((Below.heap_alloc _ _ _ hN).trans HN.out)
      go_wp2_with fail
      generalize wr.alloc (.cells #[.string a, .string b] 23) = W0 at *
      have hN0 : w1.heap.size < W0.heap.size := by omega
      generalize wr.heap.size = n at *
      clear HB HN c1 c2
      have g1 : (b.toList != b.toList) = false := by simp
      go_region_held3 (fun u => u.cell? ⟨n, 0, none⟩ = some (.string a) ∧ u.cell? ⟨n, 1, none⟩ = some (.string b)) (first | exact ⟨k0, k1⟩ | exact ⟨p0, p1⟩ | go_keep) (first | (go_at_call 8; (with_reducible refine Calls.mono (kinds_to a b _ (by omega) (HE1.out.below (n := w1.heap.size) (by first | exact BW | exact BW.drew | exact galloc2 BW BW.size _ | exact (galloc2 BW BW.size _).drew) HE1.out.size) HO.out) ?_); rintro e w2 ⟨rfl, hb2⟩; have G2 : Below w1.heap.size w1 w2 := gcall2 (by first | exact BW | exact BW.drew | exact galloc2 BW BW.size _ | exact (galloc2 BW BW.size _).drew) hb2 (Nat.le_refl _); have D2 : Below W0.heap.size W0 w2 := gcall2 (by first | exact Below.refl _ _ | exact (Below.refl _ _).drew) hb2 (Nat.le_refl _); have p0 := (D2.cell (p := ⟨n, 0, none⟩) hz0).trans k0; have p1 := (D2.cell (p := ⟨n, 1, none⟩) hz0).trans k1))
      all_goals
        have HN2 : Hid (Nm w1.heap.size w2) := Lib.hid ((D2.block _ hN0).trans HN1.out)
        have HG2 := Lib.hid G2
        clear hb2 G2 D2 p0 p1 k0 k1 BW
        go_wp2_with fail
        go_roundw
        case rel => exact ⟨k + 1, by go_num, by omega, HG2, HN2⟩
        case measure => simp [intOf]; omega
    · obtain rfl : k = 55 := by omega
      clear HN hk hlt
      generalize hW : wr = v0 at *
      clear hW
      go_wp2_with fail
      refine (tok_ff _ (HE1.out.below HB.out HE1.out.size)).mono ?_
      rintro e v1 ⟨p1, d1, rfl, hb⟩
      have C1 := Lib.hid (gcall2 HB.out hb (Nat.le_refl _))
      clear hb HB
      go_wp2_with fail
      refine (M1.out _).mono ?_
      rintro e v2 ⟨rfl, hb⟩
      have C2 := Lib.hid (gcall2 C1.out hb (Nat.le_refl _))
      clear hb C1
      go_wp2_with fail
      refine (T1.out _ (HE1.out.below C2.out HE1.out.size)).mono ?_
      rintro e v3 ⟨p2, d2, rfl, hb⟩
      have C3 := Lib.hid (gcall2 C2.out hb (Nat.le_refl _))
      clear hb C2
      go_wp2_with fail
      refine (M2.out _).mono ?_
      rintro e v4 ⟨rfl, hb⟩
      have C4 := Lib.hid (gcall2 C3.out hb (Nat.le_refl _))
      clear hb C3
      go_wp2_with fail
      refine (T2.out _ (HE1.out.below C4.out HE1.out.size)).mono ?_
      rintro e v5 ⟨p3, d3, rfl, hb⟩
      have C5 := Lib.hid (gcall2 C4.out hb (Nat.le_refl _))
      clear hb C4
      go_wp2_with fail
      refine (on1 _ (HE1.out.below (n := w1.heap.size) C5.out HE1.out.size)).mono ?_
      rintro e v6 ⟨rfl, hb⟩
      have C6 := Lib.hid (gcall2 C5.out hb (Nat.le_refl _))
      clear hb C5
      go_wp2_with fail
      refine (on2 _ (HE1.out.below (n := w1.heap.size) (galloc2 C6.out C6.out.size _) HE1.out.size)).mono ?_
      rintro e v7 ⟨rfl, hb⟩
      have C7 := Lib.hid (gcall2 (galloc2 C6.out C6.out.size _) hb (Nat.le_refl _))
      clear hb C6
      go_wp2_with fail
      refine (on3 _ (HE1.out.below (n := w1.heap.size) (galloc2 C7.out C7.out.size _) HE1.out.size)).mono ?_
      rintro e v8 ⟨rfl, hb⟩
      have C8 := Lib.hid (gcall2 (galloc2 C7.out C7.out.size _) hb (Nat.le_refl _))
      clear hb C7
      obtain ⟨hF, hG⟩ := boxes_new v8
      obtain ⟨⟨a0, a1⟩, ⟨b0, b1⟩, ⟨c0, c1⟩, d0, d1⟩ := hF.cells
      go_wp2_with fail
      refine (ap1 _ (HE1.out.below (n := w1.heap.size) (gcall2 C8.out hG (Nat.le_refl _)) HE1.out.size)).mono ?_
      rintro e v9 ⟨rfl, hb⟩
      have F9 := Lib.hid (hF.below hb)
      have C9 := Lib.hid (gcall2 (gcall2 C8.out hG (Nat.le_refl _)) hb (Nat.le_refl _))
      clear hb hF hG C8 a0 a1 b0 b1 c0 c1 d0 d1
      obtain ⟨⟨a0, a1⟩, ⟨b0, b1⟩, ⟨c0, c1⟩, d0, d1⟩ := F9.out.cells
      go_wp2_with fail
      refine (ap2 _ (HE1.out.below (n := w1.heap.size) C9.out HE1.out.size)).mono ?_
      rintro e v10 ⟨rfl, hb⟩
      have F10 := Lib.hid (F9.out.below hb)
      have C10 := Lib.hid (gcall2 C9.out hb (Nat.le_refl _))
      clear hb C9 F9 a0 a1 b0 b1 c0 c1 d0 d1
      obtain ⟨⟨a0, a1⟩, ⟨b0, b1⟩, ⟨c0, c1⟩, d0, d1⟩ := F10.out.cells
      go_wp2_with fail
      refine (ap3 _ (HE1.out.below (n := w1.heap.size) C10.out HE1.out.size)).mono ?_
      rintro e v11 ⟨rfl, hb⟩
      have F11 := Lib.hid (F10.out.below hb)
      have C11 := Lib.hid (gcall2 C10.out hb (Nat.le_refl _))
      clear hb C10 F10 a0 a1 b0 b1 c0 c1 d0 d1
      obtain ⟨⟨a0, a1⟩, ⟨b0, b1⟩, ⟨c0, c1⟩, d0, d1⟩ := F11.out.cells
      go_wp2_with fail
      refine (ap4 _ (HE1.out.below (n := w1.heap.size) C11.out HE1.out.size)).mono ?_
      rintro e v12 ⟨rfl, hb⟩
      have F12 := Lib.hid (F11.out.below hb)
      have C12 := Lib.hid (gcall2 C11.out hb (Nat.le_refl _))
      clear hb C11 F11 a0 a1 b0 b1 c0 c1 d0 d1
      obtain ⟨⟨a0, a1⟩, ⟨b0, b1⟩, ⟨c0, c1⟩, d0, d1⟩ := F12.out.cells
      go_wp2_with fail
      refine (ap5 _ (HE1.out.below (n := w1.heap.size) C12.out HE1.out.size)).mono ?_
      rintro e v13 ⟨rfl, hb⟩
      have F13 := Lib.hid (F12.out.below hb)
      have C13 := Lib.hid (gcall2 C12.out hb (Nat.le_refl _))
      clear hb C12 F12 a0 a1 b0 b1 c0 c1 d0 d1
      obtain ⟨⟨a0, a1⟩, ⟨b0, b1⟩, ⟨c0, c1⟩, d0, d1⟩ := F13.out.cells
      go_wp2_with fail
      refine (ahead_yes _ _).mono ?_
      rintro e v14 ⟨rfl, hb⟩
      have F14 := Lib.hid (F13.out.below hb)
      have C14 := Lib.hid (gcall2 C13.out hb (Nat.le_refl _))
      clear hb C13 F13 a0 a1 b0 b1 c0 c1 d0 d1
      obtain ⟨⟨a0, a1⟩, ⟨b0, b1⟩, ⟨c0, c1⟩, d0, d1⟩ := F14.out.cells
      go_wp2_with fail
      refine (ahead_no _ _).mono ?_
      rintro e v15 ⟨rfl, hb⟩
      have F15 := Lib.hid (F14.out.below hb)
      have C15 := Lib.hid (gcall2 C14.out hb (Nat.le_refl _))
      clear hb C14 F14 a0 a1 b0 b1 c0 c1 d0 d1
      go_wp2_with fail
      go_ret
      exact ⟨rfl, HB1.out.trans (C15.out.mono HB1.out.size)⟩
end Go.Proofs.YtaofpefmniadiaaDoor

