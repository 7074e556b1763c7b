/-
  The walk of the law UtfNames.
-/
import Derived.Test.YtffldjlgmbiplaaDoorQ
namespace Go.Proofs.YtffldjlgmbiplaaDoor
open Go.RowKit

/-- The rows of the examples: a text, its first code point, its number of bytes. -/
def nmS : Nat → ByteArray
  | 0 => ⟨#[]⟩
  | 1 => ⟨#[237, 160, 128]⟩
  | 2 => ⟨#[192, 128]⟩
  | 3 => ⟨#[244, 144, 128, 128]⟩
  | 4 => ⟨#[244, 143, 191, 191, 33]⟩
  | 5 => ⟨#[239, 191, 189]⟩
  | 6 => ⟨#[226, 130]⟩
  | 7 => ⟨#[0]⟩
  | 8 => ⟨#[127, 122]⟩
  | 9 => ⟨#[194, 128]⟩
  | 10 => ⟨#[223, 191]⟩
  | 11 => ⟨#[224, 160, 128]⟩
  | 12 => ⟨#[240, 144, 128, 128]⟩
  | 13 => ⟨#[128]⟩
  | _ => ⟨#[]⟩
def nmP : Nat → Int
  | 0 => (-1)
  | 1 => (-1)
  | 2 => (-1)
  | 3 => (-1)
  | 4 => 1114111
  | 5 => 65533
  | 6 => (-1)
  | 7 => 0
  | 8 => 127
  | 9 => 128
  | 10 => 2047
  | 11 => 2048
  | 12 => 65536
  | 13 => (-1)
  | _ => 0
def nmN : Nat → Nat
  | 0 => 0
  | 1 => 1
  | 2 => 1
  | 3 => 1
  | 4 => 4
  | 5 => 3
  | 6 => 1
  | 7 => 1
  | 8 => 1
  | 9 => 2
  | 10 => 2
  | 11 => 3
  | 12 => 4
  | 13 => 1
  | _ => 0
def tabC : Array Value := #[.string ⟨#[]⟩, .int .i64 (-1), .int .i64 0, .string ⟨#[237, 160, 128]⟩, .int .i64 (-1), .int .i64 1, .string ⟨#[192, 128]⟩, .int .i64 (-1), .int .i64 1, .string ⟨#[244, 144, 128, 128]⟩, .int .i64 (-1), .int .i64 1, .string ⟨#[244, 143, 191, 191, 33]⟩, .int .i64 1114111, .int .i64 4, .string ⟨#[239, 191, 189]⟩, .int .i64 65533, .int .i64 3, .string ⟨#[226, 130]⟩, .int .i64 (-1), .int .i64 1, .string ⟨#[0]⟩, .int .i64 0, .int .i64 1, .string ⟨#[127, 122]⟩, .int .i64 127, .int .i64 1, .string ⟨#[194, 128]⟩, .int .i64 128, .int .i64 2, .string ⟨#[223, 191]⟩, .int .i64 2047, .int .i64 2, .string ⟨#[224, 160, 128]⟩, .int .i64 2048, .int .i64 3, .string ⟨#[240, 144, 128, 128]⟩, .int .i64 65536, .int .i64 4, .string ⟨#[128]⟩, .int .i64 (-1), .int .i64 1]
theorem below14 {p : Nat → Prop} (h : p 0 ∧ p 1 ∧ p 2 ∧ p 3 ∧ p 4 ∧ p 5 ∧ p 6 ∧ p 7 ∧ p 8 ∧ p 9 ∧ p 10 ∧ p 11 ∧ p 12 ∧ p 13) : ∀ k, k < 14 → p k := by
  obtain ⟨h0, h1, h2, h3, h4, h5, h6, h7, h8, h9, h10, h11, h12, h13⟩ := h
  intro k hk
  match k, hk with
  | 0, _ => exact h0
  | 1, _ => exact h1
  | 2, _ => exact h2
  | 3, _ => exact h3
  | 4, _ => exact h4
  | 5, _ => exact h5
  | 6, _ => exact h6
  | 7, _ => exact h7
  | 8, _ => exact h8
  | 9, _ => exact h9
  | 10, _ => exact h10
  | 11, _ => exact h11
  | 12, _ => exact h12
  | 13, _ => exact h13
  | k + 14, hk => omega
theorem tab_cells : ∀ k, k < 14 → tabC[k * 3]? = some (.string (nmS k)) ∧ tabC[k * 3 + 1]? = some (.int .i64 (nmP k)) ∧ tabC[k * 3 + 2]? = some (.int .i64 (nmN k)) :=
  below14 ⟨⟨rfl, rfl, rfl⟩, ⟨rfl, rfl, rfl⟩, ⟨rfl, rfl, rfl⟩, ⟨rfl, rfl, rfl⟩, ⟨rfl, rfl, rfl⟩, ⟨rfl, rfl, rfl⟩, ⟨rfl, rfl, rfl⟩, ⟨rfl, rfl, rfl⟩, ⟨rfl, rfl, rfl⟩, ⟨rfl, rfl, rfl⟩, ⟨rfl, rfl, rfl⟩, ⟨rfl, rfl, rfl⟩, ⟨rfl, rfl, rfl⟩, ⟨rfl, rfl, rfl⟩⟩
theorem nm_rune : ∀ k, k < 14 → rp (nmS k) = nmP k ∧ rn (nmS k) = nmN k :=
  below14 ⟨⟨by kernel_rfl, by kernel_rfl⟩, ⟨by kernel_rfl, by kernel_rfl⟩, ⟨by kernel_rfl, by kernel_rfl⟩, ⟨by kernel_rfl, by kernel_rfl⟩, ⟨by kernel_rfl, by kernel_rfl⟩, ⟨by kernel_rfl, by kernel_rfl⟩, ⟨by kernel_rfl, by kernel_rfl⟩, ⟨by kernel_rfl, by kernel_rfl⟩, ⟨by kernel_rfl, by kernel_rfl⟩, ⟨by kernel_rfl, by kernel_rfl⟩, ⟨by kernel_rfl, by kernel_rfl⟩, ⟨by kernel_rfl, by kernel_rfl⟩, ⟨by kernel_rfl, by kernel_rfl⟩, ⟨by kernel_rfl, by kernel_rfl⟩⟩
theorem nm_put : ∀ k, k < 14 → (decide (nmP k < 0) || ((putB (nmP k)).toList == ((nmS k).extract 0 (nmN k)).toList)) = true :=
  below14 ⟨by kernel_rfl, by kernel_rfl, by kernel_rfl, by kernel_rfl, by kernel_rfl, by kernel_rfl, by kernel_rfl, by kernel_rfl, by kernel_rfl, by kernel_rfl, by kernel_rfl, by kernel_rfl, by kernel_rfl, by kernel_rfl⟩
theorem nm_le : ∀ k, k < 14 → nmN k ≤ (nmS k).size :=
  below14 ⟨by decide, by decide, by decide, by decide, by decide, by decide, by decide, by decide, by decide, by decide, by decide, by decide, by decide, by decide⟩

theorem nq1 : (halfH 119070 = 55348) ∧ (halfL 119070 = 56606) := ⟨by kernel_rfl, by kernel_rfl⟩
theorem nq2 : (halfH 65535 = 0) ∧ (halfL 65535 = 0) := ⟨by kernel_rfl, by kernel_rfl⟩
theorem nq3 : (pairP 55348 56606 = 119070) ∧ (pairQ 55348 56606 = true) := ⟨by kernel_rfl, by kernel_rfl⟩
theorem nq4 : (pairP 56606 55348 = 0) ∧ (pairQ 56606 55348 = false) := ⟨by kernel_rfl, by kernel_rfl⟩
theorem nq5 : (pairP 56320 56320 = 0) ∧ (pairQ 56320 56320 = false) := ⟨by kernel_rfl, by kernel_rfl⟩
theorem nq6 : (pairP 56319 57344 = 0) ∧ (pairQ 56319 57344 = false) := ⟨by kernel_rfl, by kernel_rfl⟩
theorem nq7 : uN (seqB (putB 65536)) = 2 := by kernel_rfl
theorem nq8 : uN (seqB (putB 65535)) = 1 := by kernel_rfl
theorem nq9 : unitS ⟨#[97, 98]⟩ 3 = (0, 1) := by kernel_rfl
theorem nq10 : unitS ⟨#[97, 98]⟩ (-1) = (0, 1) := by kernel_rfl
theorem nq11 : byteS ⟨#[97, 98]⟩ 3 = (0, 1) := by kernel_rfl
theorem nq12 : byteS ⟨#[97, 98]⟩ (-1) = (0, 1) := by kernel_rfl
theorem nq13 : byteS ⟨#[]⟩ 0 = (0, 0) := by kernel_rfl
theorem nq14 : putB 55296 = ⟨#[]⟩ := by kernel_rfl
theorem nq15 : putB (-1) = ⟨#[]⟩ := by kernel_rfl
theorem nq16 : putB 1114112 = ⟨#[]⟩ := by kernel_rfl

set_option maxRecDepth 100000 in
set_option maxHeartbeats 1600000 in
theorem utfNames_walk (w : World) (hT : Lib.Utf8Tabs 0 1 w) :
    Calls Tryd.prog 3 #[] w fun e w' => e = .returned (.bool true) ∧ Below w.heap.size w w' := by
  have h2 := tabs_size hT
  have cw := works_any
  go_enter Tryd.func3, Tryd.ntmps3
  go_wp2_with fail
  refine (cw _ hT).mono ?_
  rintro e w1 ⟨rfl, hb1⟩
  go_wp2_with fail
  clear cw
  have hblk : (w1.alloc (.cells tabC 23)).heap[w1.heap.size]? = some (.cells tabC 23 (0, 0)) := World.alloc_heap_new w1 _
  have hB0 : Below w.heap.size w (w1.alloc (.cells tabC 23)) := hb1.alloc hb1.size _
  unfold tabC at hB0
  generalize hW : w1.alloc _ = W0 at hB0 ⊢
  have hblk2 : W0.heap[w1.heap.size]? = some (.cells tabC 23 (0, 0)) := by rw [← hW]; exact hblk
  clear hW hblk
  go_loopw [2, 3, 4, 49] (fun _ _ _ i wr => ∃ k : Nat, k ≤ 14 ∧ i = .int .i64 k ∧ wr.heap[w1.heap.size]? = some (.cells tabC 23 (0, 0)) ∧ Below w.heap.size w wr) (fun _ _ _ i _ => 14 - (intOf i).toNat)
  case atStart => exact ⟨0, by omega, rfl, hblk2, hB0⟩
  case round =>
    obtain ⟨k, hk, rfl, hbl, hB⟩ := hrel
    clear hblk2 hB0
    by_cases hlt : k < 14
    · obtain ⟨t0, t1, t2⟩ := tab_cells k hlt
      have hc0 : wr.cell? ⟨w1.heap.size, k * 3, none⟩ = some (.string (nmS k)) := by simp [World.cell?, hbl, t0]
      have hc1 : wr.cell? ⟨w1.heap.size, k * 3 + 1, none⟩ = some (.int .i64 (nmP k)) := by simp [World.cell?, hbl, t1]
      have hc2 : wr.cell? ⟨w1.heap.size, k * 3 + 2, none⟩ = some (.int .i64 (nmN k)) := by simp [World.cell?, hbl, t2]
      have hblt : w1.heap.size < wr.heap.size := (Array.getElem?_eq_some_iff.1 hbl).1
      have HBL := Lib.hid hbl
      clear t0 t1 t2 hbl
      have hrn := nm_rune k hlt
      have hle := nm_le k hlt
      have hpt := nm_put k hlt
      have c9 := fun w hT => rune_any (nmS k) w hT
      simp only [hrn.1, hrn.2] at c9
      clear hrn
      generalize nmS k = S at *
      generalize nmP k = P at *
      generalize nmN k = N at *
      go_wp2_with fail
      have hT1 : Lib.Utf8Tabs 0 1 (wr.alloc (.cells #[.string S, .int .i64 P, .int .i64 N] 23)) := tabs_below hT (hB.alloc hB.size _) h2
      refine (c9 _ hT1).mono ?_
      rintro e w2 ⟨rfl, hb2⟩
      have hnew : (wr.alloc (.cells #[.string S, .int .i64 P, .int .i64 N] 23)).heap[wr.heap.size]? = some (.cells #[.string S, .int .i64 P, .int .i64 N] 23) := World.alloc_heap_new wr _
      have hn2 : w2.heap[wr.heap.size]? = some (.cells #[.string S, .int .i64 P, .int .i64 N] 23) := (hb2.block _ (by simp)).trans hnew
      have q0 : w2.cell? ⟨wr.heap.size, 0, none⟩ = some (.string S) := by simp [World.cell?, hn2]
      have q1 : w2.cell? ⟨wr.heap.size, 1, none⟩ = some (.int .i64 P) := by simp [World.cell?, hn2]
      have q2 : w2.cell? ⟨wr.heap.size, 2, none⟩ = some (.int .i64 N) := by simp [World.cell?, hn2]
      have HB2 : Hid (w2.heap[w1.heap.size]? = some (.cells tabC 23 (0, 0))) := (hb2.block _ (by simp; omega)).trans ((Below.heap_alloc _ _ _ hblt).trans HBL.out)
      have hBel : Below w.heap.size w w2 := (hB.alloc hB.size _).trans (hb2.mono (by simp; have := hB.size; omega))
      have c10 : ∀ w, Calls Tryd.prog 10 #[.int .i64 P] w fun e w' => e = .returned (.string (putB P)) ∧ w' = w := fun w => (put_any P w).mono fun e w' ⟨he, hw⟩ => ⟨he, hw.symm⟩
      clear c9 hT1 hnew hn2 hb2 hc0 hc1 hc2
      by_cases hP : P < 0
      · have d0 : decide (0 ≤ P) = false := decide_eq_false (by omega)
        clear hpt c10
        go_wp2_with fail
        go_quiet (fail)
        go_wp2
        go_roundw
        case rel => exact ⟨k + 1, by omega, by go_num, HB2.out, ⟨hBel.os, hBel.tape, hBel.output, hBel.size, hBel.block⟩⟩
        case measure => simp [intOf]; omega
      · have d0 : decide (0 ≤ P) = true := decide_eq_true (by omega)
        have hP0 : 0 ≤ P := by omega
        rw [decide_eq_false hP, Bool.false_or] at hpt
        have hpn : ((putB P).toList != (S.extract 0 N).toList) = false := by simp only [bne, hpt]; rfl
        generalize putB P = q at *
        have hN0 : (0 : Int) ≤ N := by omega
        have hN1 : (N : Int) ≤ S.size := by omega
        go_wp2_with fail
        go_quiet ((go_at_call 10; exact Calls.quiet_of_same (c10 _)))
        go_wp2
        go_roundw
        case rel => exact ⟨k + 1, by omega, by go_num, HB2.out, ⟨hBel.os, hBel.tape, hBel.output, hBel.size, hBel.block⟩⟩
        case measure => simp [intOf]; omega
    · obtain rfl : k = 14 := by omega
      have x0 := hB
      clear hB hk hlt hbl
      have h1 := halves_any 119070
      simp only [nq1] at h1
      have h2a := halves_any 65535
      simp only [nq2] at h2a
      have p1 := pair_any 55348 56606
      simp only [nq3] at p1
      have p2 := pair_any 56606 55348
      simp only [nq4] at p2
      have p3 := pair_any 56320 56320
      simp only [nq5] at p3
      have p4 := pair_any 56319 57344
      simp only [nq6] at p4
      have u1 := put_any 65536
      have u2 := put_any 65535
      have l1 := fun w hT => len_any (putB 65536) w (by decide) hT
      simp only [nq7] at l1
      have l2 := fun w hT => len_any (putB 65535) w (by decide) hT
      simp only [nq8] at l2
      have a1 := fun w hT => unit_any ⟨#[97, 98]⟩ 3 w (by decide) hT
      simp only [nq9] at a1
      have a2 := fun w hT => unit_any ⟨#[97, 98]⟩ (-1) w (by decide) hT
      simp only [nq10] at a2
      have b1 := fun w hT => byte_any ⟨#[97, 98]⟩ 3 w (by decide) hT
      simp only [nq11] at b1
      have b2 := fun w hT => byte_any ⟨#[97, 98]⟩ (-1) w (by decide) hT
      simp only [nq12] at b2
      have b3 := fun w hT => byte_any ⟨#[]⟩ 0 w (by decide) hT
      simp only [nq13] at b3
      have e1 := put_any 55296
      simp only [nq14] at e1
      have e2 := put_any (-1)
      simp only [nq15] at e2
      have e3 := put_any 1114112
      simp only [nq16] at e3
      generalize putB 65536 = t1 at *
      generalize putB 65535 = t2 at *
      go_wp2_with fail
      refine (h1 _).mono ?_
      rintro e w' ⟨rfl, rfl⟩
      go_wp2_with fail
      refine (h2a _).mono ?_
      rintro e w' ⟨rfl, rfl⟩
      go_wp2_with fail
      refine (p1 _).mono ?_
      rintro e w' ⟨rfl, rfl⟩
      go_wp2_with fail
      refine (p2 _).mono ?_
      rintro e w' ⟨rfl, rfl⟩
      go_wp2_with fail
      refine (p3 _).mono ?_
      rintro e w' ⟨rfl, rfl⟩
      go_wp2_with fail
      refine (p4 _).mono ?_
      rintro e w' ⟨rfl, rfl⟩
      go_wp2_with fail
      refine (u1 _).mono ?_
      rintro e w' ⟨rfl, rfl⟩
      go_wp2_with fail
      refine (l1 _ (tabs_below hT x0 h2)).mono ?_
      rintro e y1 ⟨rfl, z1⟩
      have x1 := x0.trans (z1.mono x0.size)
      go_wp2_with fail
      refine (u2 _).mono ?_
      rintro e w' ⟨rfl, rfl⟩
      go_wp2_with fail
      refine (l2 _ (tabs_below hT x1 h2)).mono ?_
      rintro e y2 ⟨rfl, z2⟩
      have x2 := x1.trans (z2.mono x1.size)
      go_wp2_with fail
      refine (a1 _ (tabs_below hT x2 h2)).mono ?_
      rintro e y3 ⟨rfl, z3⟩
      have x3 := x2.trans (z3.mono x2.size)
      go_wp2_with fail
      refine (a2 _ (tabs_below hT x3 h2)).mono ?_
      rintro e y4 ⟨rfl, z4⟩
      have x4 := x3.trans (z4.mono x3.size)
      go_wp2_with fail
      refine (b1 _ (tabs_below hT x4 h2)).mono ?_
      rintro e y5 ⟨rfl, z5⟩
      have x5 := x4.trans (z5.mono x4.size)
      go_wp2_with fail
      refine (b2 _ (tabs_below hT x5 h2)).mono ?_
      rintro e y6 ⟨rfl, z6⟩
      have x6 := x5.trans (z6.mono x5.size)
      go_wp2_with fail
      refine (b3 _ (tabs_below hT x6 h2)).mono ?_
      rintro e y7 ⟨rfl, z7⟩
      have x7 := x6.trans (z7.mono x6.size)
      go_wp2_with fail
      refine (e1 _).mono ?_
      rintro e w' ⟨rfl, rfl⟩
      go_wp2_with fail
      refine (e2 _).mono ?_
      rintro e w' ⟨rfl, rfl⟩
      go_wp2_with fail
      refine (e3 _).mono ?_
      rintro e w' ⟨rfl, rfl⟩
      go_wp2
      go_ret
      exact ⟨rfl, x7⟩
end Go.Proofs.YtffldjlgmbiplaaDoor
