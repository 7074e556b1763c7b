/-
  awake: the first example, by the contracts.
-/
import Derived.Test.YtfhkahnajjbohaaDoorR
namespace Go.Proofs.YtfhkahnajjbohaaDoor
open Go.RowKit Go.Shelf

def tA : ByteArray := ⟨#[97, 10, 195, 169, 13, 10, 240, 159, 152, 128, 120]⟩
theorem tA_valid : validS tA = true := by kernel_rfl
theorem tA_lines : linesB tA = [(0, 1), (2, 4), (6, 11)] := by kernel_rfl

theorem below_step {w1 W w4 : World} (h : Below w1.heap.size w1 W) (hb : Below W.heap.size W w4) : Below w1.heap.size w1 w4 := h.trans (hb.mono h.size)
theorem keepB {W w' : World} (hb : Below W.heap.size W w') {a : Addr} {v : Value} (h : W.cell? a = some v) : w'.cell? a = some v := (hb.cell (World.block_lt_of_cell? W a h)).trans h
theorem keepA {W : World} (o : Obj) {a : Addr} {v : Value} (h : W.cell? a = some v) : (W.alloc o).cell? a = some v := (World.cell?_alloc_some W a o (by rw [h]; rfl)).trans h

/-- New, at a text that it takes, as its callers use it. -/
theorem new_ix (s : ByteArray) (w : World) (hs : s.size ≤ 65536) (hv : validS s = true) (hT : Lib.Utf8Tabs 1 2 w) :
    Calls Tryd.prog 10 #[.string s] w fun e W' => ∃ b, e = .returned (.tuple #[.pointer (some ⟨b, 0, none⟩), .int .i64 0]) ∧ Ix W' b s (linesB s) ∧ Below w.heap.size w W' :=
  (new_ok s w hs hv hT).mono fun _ _ ⟨b, he, hi, _, hb⟩ => ⟨b, he, hi.ix (linesB_pos s), hb⟩

def LA : List (Nat × Nat) := [(0, 1), (2, 4), (6, 11)]
theorem aw_lines (W : World) (b : Nat) (h : Ix W b tA LA) : Calls Tryd.prog 13 #[.pointer (some ⟨b, 0, none⟩)] W fun e w' => e = .returned (.int .i64 3) ∧ W = w' := lines_any b tA LA W h
theorem aw_line (W : World) (b : Nat) (h : Ix W b tA LA) : Calls Tryd.prog 14 #[.pointer (some ⟨b, 0, none⟩), .int .i64 1] W fun e w' => e = .returned (.tuple #[.agg #[.int .i64 2, .int .i64 4], .int .i64 0]) ∧ Below W.heap.size W w' :=
  line_ok b tA LA W h 1 (2, 4) rfl
theorem aw_off11 (W : World) (b : Nat) (h : Ix W b tA LA) : Calls Tryd.prog 15 #[.pointer (some ⟨b, 0, none⟩), .agg #[.int .i64 1, .int .i64 1]] W fun e w' => e = .returned (.tuple #[.int .i64 4, .int .i64 0]) ∧ Below W.heap.size W w' := by
  have := offset_ok b tA LA W h 1 1 (2, 4) rfl (by decide) (by decide) (by decide)
  rw [show bu (tA.extract (2, 4).1 (2, 4).2) 1 = (2, true) by kernel_rfl] at this
  exact this
theorem aw_off22 (W : World) (b : Nat) (h : Ix W b tA LA) : Calls Tryd.prog 15 #[.pointer (some ⟨b, 0, none⟩), .agg #[.int .i64 2, .int .i64 2]] W fun e w' => e = .returned (.tuple #[.int .i64 10, .int .i64 0]) ∧ Below W.heap.size W w' := by
  have := offset_ok b tA LA W h 2 2 (6, 11) rfl (by decide) (by decide) (by decide)
  rw [show bu (tA.extract (6, 11).1 (6, 11).2) 2 = (4, true) by kernel_rfl] at this
  exact this
theorem aw_off21 (W : World) (b : Nat) (h : Ix W b tA LA) : Calls Tryd.prog 15 #[.pointer (some ⟨b, 0, none⟩), .agg #[.int .i64 2, .int .i64 1]] W fun e w' => e = .returned (.tuple #[.int .i64 0, .int .i64 60]) ∧ Below W.heap.size W w' := by
  have := offset_ok b tA LA W h 2 1 (6, 11) rfl (by decide) (by decide) (by decide)
  rw [show bu (tA.extract (6, 11).1 (6, 11).2) 1 = (4, false) by kernel_rfl] at this
  exact this
theorem aw_off12 (W : World) (b : Nat) (h : Ix W b tA LA) : Calls Tryd.prog 15 #[.pointer (some ⟨b, 0, none⟩), .agg #[.int .i64 1, .int .i64 2]] W fun e w' => e = .returned (.tuple #[.int .i64 0, .int .i64 60]) ∧ Below W.heap.size W w' := by
  have := offset_ok b tA LA W h 1 2 (2, 4) rfl (by decide) (by decide) (by decide)
  rw [show bu (tA.extract (2, 4).1 (2, 4).2) 2 = (2, false) by kernel_rfl] at this
  exact this
theorem LA_rising : Rising LA := by have := (linesB_ls tA).rising; rwa [tA_lines] at this
theorem LA_cut (off : Int) (i : Nat) (hi : i ≤ 3) (h0 : 0 < i ↔ (0 : Int) ≤ off) (h1 : 1 < i ↔ (2 : Int) ≤ off) (h2 : 2 < i ↔ (6 : Int) ≤ off) : CutAt LA off i := by
  refine ⟨hi, fun k x hx => ?_⟩
  match k, hx with
  | 0, hx => simp [LA] at hx; subst hx; exact h0
  | 1, hx => simp [LA] at hx; subst hx; exact h1
  | 2, hx => simp [LA] at hx; subst hx; exact h2
  | k + 3, hx => simp [LA] at hx
theorem aw_pos5 (W : World) (b : Nat) (h : Ix W b tA LA) : Calls Tryd.prog 17 #[.pointer (some ⟨b, 0, none⟩), .int .i64 5] W fun e w' => e = .returned (.tuple #[.agg #[.int .i64 1, .int .i64 1], .int .i64 0]) ∧ Below W.heap.size W w' := by
  have := pos_ok b tA LA W h (by decide) LA_rising 5 (by decide) (by decide) (by kernel_rfl) 1 (LA_cut _ _ (by decide) (by decide) (by decide) (by decide)) (2, 4) rfl (by decide) (by decide) (by decide)
  rw [show un (tA.extract (2, 4).1 (min 5 (2, 4).2)) = 1 by kernel_rfl] at this
  exact this
theorem aw_pos3 (W : World) (b : Nat) (h : Ix W b tA LA) : Calls Tryd.prog 17 #[.pointer (some ⟨b, 0, none⟩), .int .i64 3] W fun e w' => e = .returned (.tuple #[.agg #[.int .i64 0, .int .i64 0], .int .i64 1]) ∧ Below W.heap.size W w' :=
  pos_in b tA LA W h 3 (by decide) (by kernel_rfl)
theorem aw_pos11 (W : World) (b : Nat) (h : Ix W b tA LA) : Calls Tryd.prog 17 #[.pointer (some ⟨b, 0, none⟩), .int .i64 11] W fun e w' => e = .returned (.tuple #[.agg #[.int .i64 2, .int .i64 3], .int .i64 0]) ∧ Below W.heap.size W w' := by
  have := pos_ok b tA LA W h (by decide) LA_rising 11 (by decide) (by decide) (by kernel_rfl) 2 (LA_cut _ _ (by decide) (by decide) (by decide) (by decide)) (6, 11) rfl (by decide) (by decide) (by decide)
  rw [show un (tA.extract (6, 11).1 (min 11 (6, 11).2)) = 3 by kernel_rfl] at this
  exact this

set_option maxRecDepth 100000 in
set_option maxHeartbeats 4000000 in
theorem awake_any (w : World) (hT : Lib.Utf8Tabs 1 2 w) :
    Calls Tryd.prog 9 #[] w fun e w' => e = .returned (.bool true) ∧ Below w.heap.size w w' := by
  have hN := new_ix tA w (by decide) tA_valid hT
  rw [tA_lines] at hN
  go_enter Tryd.func9, Tryd.ntmps9
  go_wp2_with fail
  refine Calls.mono hN ?_
  rintro e w1 ⟨b, rfl, hI, hb1⟩
  clear hN hT
  have HI : Hid (Ix w1 b tA LA) := Lib.hid hI
  clear hI
  have hB1 := Below.refl w1.heap.size w1
  go_wp2_with fail
  refine (aw_lines w1 b HI.out).mono ?_
  rintro e w1' ⟨rfl, rfl⟩
  go_wp2_with fail
  refine (aw_line _ b (HI.out.below (Nat.le_refl _) hB1)).mono ?_
  rintro e w2 ⟨rfl, hb2⟩
  have hB2 := below_step hB1 hb2
  clear hB1 hb2
  obtain ⟨v2, hv2⟩ : ∃ v, w2.alloc (.cells #[.int .i64 2, .int .i64 4] 32) = v := ⟨_, rfl⟩
  have hA2 : Below w1.heap.size w1 v2 := by rw [← hv2]; exact hB2.alloc hB2.size _
  have c2_0 : v2.cell? ⟨w2.heap.size, 0, none⟩ = some (.int .i64 2) := by rw [← hv2]; simp
  have c2_1 : v2.cell? ⟨w2.heap.size, 1, none⟩ = some (.int .i64 4) := by rw [← hv2]; simp
  clear hB2
  go_wp2_with fail
  refine (aw_off11 _ b (HI.out.below (Nat.le_refl _) hA2)).mono ?_
  rintro e w3 ⟨rfl, hb3⟩
  have hB3 := below_step hA2 hb3
  replace c2_0 := keepB hb3 c2_0
  replace c2_1 := keepB hb3 c2_1
  clear hA2 hb3
  go_wp2_with fail
  refine (aw_off22 _ b (HI.out.below (Nat.le_refl _) hB3)).mono ?_
  rintro e w4 ⟨rfl, hb4⟩
  have hB4 := below_step hB3 hb4
  replace c2_0 := keepB hb4 c2_0
  replace c2_1 := keepB hb4 c2_1
  clear hB3 hb4
  go_wp2_with fail
  refine (aw_off21 _ b (HI.out.below (Nat.le_refl _) hB4)).mono ?_
  rintro e w5 ⟨rfl, hb5⟩
  have hB5 := below_step hB4 hb5
  replace c2_0 := keepB hb5 c2_0
  replace c2_1 := keepB hb5 c2_1
  clear hB4 hb5
  go_wp2_with fail
  refine (aw_off12 _ b (HI.out.below (Nat.le_refl _) hB5)).mono ?_
  rintro e w6 ⟨rfl, hb6⟩
  have hB6 := below_step hB5 hb6
  replace c2_0 := keepB hb6 c2_0
  replace c2_1 := keepB hb6 c2_1
  clear hB5 hb6
  go_wp2_with fail
  refine (aw_pos5 _ b (HI.out.below (Nat.le_refl _) hB6)).mono ?_
  rintro e w7 ⟨rfl, hb7⟩
  have hB7 := below_step hB6 hb7
  replace c2_0 := keepB hb7 c2_0
  replace c2_1 := keepB hb7 c2_1
  clear hB6 hb7
  obtain ⟨v7, hv7⟩ : ∃ v, w7.alloc (.cells #[.int .i64 1, .int .i64 1] 37) = v := ⟨_, rfl⟩
  have hA7 : Below w1.heap.size w1 v7 := by rw [← hv7]; exact hB7.alloc hB7.size _
  replace c2_0 : v7.cell? ⟨w2.heap.size, 0, none⟩ = some (.int .i64 2) := by rw [← hv7]; exact keepA _ c2_0
  replace c2_1 : v7.cell? ⟨w2.heap.size, 1, none⟩ = some (.int .i64 4) := by rw [← hv7]; exact keepA _ c2_1
  have c7_0 : v7.cell? ⟨w7.heap.size, 0, none⟩ = some (.int .i64 1) := by rw [← hv7]; simp
  have c7_1 : v7.cell? ⟨w7.heap.size, 1, none⟩ = some (.int .i64 1) := by rw [← hv7]; simp
  clear hB7
  go_wp2_with fail
  refine (aw_pos3 _ b (HI.out.below (Nat.le_refl _) hA7)).mono ?_
  rintro e w8 ⟨rfl, hb8⟩
  have hB8 := below_step hA7 hb8
  replace c2_0 := keepB hb8 c2_0
  replace c2_1 := keepB hb8 c2_1
  replace c7_0 := keepB hb8 c7_0
  replace c7_1 := keepB hb8 c7_1
  clear hA7 hb8
  replace c2_0 := keepA (.cells #[.int .i64 0, .int .i64 0] 37) c2_0
  replace c2_1 := keepA (.cells #[.int .i64 0, .int .i64 0] 37) c2_1
  replace c7_0 := keepA (.cells #[.int .i64 0, .int .i64 0] 37) c7_0
  replace c7_1 := keepA (.cells #[.int .i64 0, .int .i64 0] 37) c7_1
  have hA8 := hB8.alloc hB8.size (.cells #[.int .i64 0, .int .i64 0] 37)
  clear hB8
  go_wp2_with fail
  refine (aw_pos11 _ b (HI.out.below (Nat.le_refl _) hA8)).mono ?_
  rintro e w9 ⟨rfl, hb9⟩
  have hB9 := below_step hA8 hb9
  replace c2_0 := keepB hb9 c2_0
  replace c2_1 := keepB hb9 c2_1
  replace c7_0 := keepB hb9 c7_0
  replace c7_1 := keepB hb9 c7_1
  clear hA8 hb9
  obtain ⟨v9, hv9⟩ : ∃ v, w9.alloc (.cells #[.int .i64 2, .int .i64 3] 37) = v := ⟨_, rfl⟩
  have hA9 : Below w1.heap.size w1 v9 := by rw [← hv9]; exact hB9.alloc hB9.size _
  replace c2_0 : v9.cell? ⟨w2.heap.size, 0, none⟩ = some (.int .i64 2) := by rw [← hv9]; exact keepA _ c2_0
  replace c2_1 : v9.cell? ⟨w2.heap.size, 1, none⟩ = some (.int .i64 4) := by rw [← hv9]; exact keepA _ c2_1
  replace c7_0 : v9.cell? ⟨w7.heap.size, 0, none⟩ = some (.int .i64 1) := by rw [← hv9]; exact keepA _ c7_0
  replace c7_1 : v9.cell? ⟨w7.heap.size, 1, none⟩ = some (.int .i64 1) := by rw [← hv9]; exact keepA _ c7_1
  have c9_0 : v9.cell? ⟨w9.heap.size, 0, none⟩ = some (.int .i64 2) := by rw [← hv9]; simp
  have c9_1 : v9.cell? ⟨w9.heap.size, 1, none⟩ = some (.int .i64 3) := by rw [← hv9]; simp
  clear hB9
  go_wp2
  go_ret
  exact ⟨rfl, hb1.trans (hA9.mono hb1.size)⟩
end Go.Proofs.YtfhkahnajjbohaaDoor
