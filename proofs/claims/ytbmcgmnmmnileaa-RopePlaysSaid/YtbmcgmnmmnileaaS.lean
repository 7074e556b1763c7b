/-
  Replace, at any span and any text that is not too long for the machine.
-/
import Derived.Test.YtbmcgmnmmnileaaR
namespace Go.Proofs.Ytbmcgmnmmnileaa
open Go.RowKit Go.Shelf

theorem replace_nil (w : World) (a c : Int) (s : ByteArray) : Calls Try.prog 10 #[.pointer none, .agg #[.int .i64 a, .int .i64 c], .string s] w fun e w' => e = .returned (.tuple #[.pointer none, .int .i64 2]) ∧ Below w.heap.size w w' := by
  have hB : Below w.heap.size w (w.alloc (.cells #[.int .i64 a, .int .i64 c] 30)) := (Below.refl _ _).alloc (Nat.le_refl _) _
  go_enter Try.func10, Try.ntmps10
  go_wp2
  exact bodyPost_ret (v := .tuple #[.pointer none, .int .i64 2]) (by simp [results, Try.f10, go_sem]) rfl ⟨rfl, hB⟩
theorem replace_bad (w : World) (b : Nat) (o : Option T) (a c : Int) (s : ByteArray) (hR : RAt w b o) (h : isSpan (textO o).length a c = false) :
    Calls Try.prog 10 #[.pointer (some ⟨b, 0, none⟩), .agg #[.int .i64 a, .int .i64 c], .string s] w fun e w' => e = .returned (.tuple #[.pointer none, .int .i64 1]) ∧ Below w.heap.size w w' := by
  have hB : Below w.heap.size w (w.alloc (.cells #[.int .i64 a, .int .i64 c] 30)) := (Below.refl _ _).alloc (Nat.le_refl _) _
  have hh := has_any _ b o a c (hR.below (Nat.le_refl _) hB)
  rw [h] at hh
  clear hR h
  go_enter Try.func10, Try.ntmps10
  go_wp2_with fail
  refine hh.mono ?_
  rintro e w1 ⟨rfl, hb1⟩
  go_wp2
  exact bodyPost_ret (v := .tuple #[.pointer none, .int .i64 1]) (by simp [results, Try.f10, go_sem]) rfl ⟨rfl, hB.trans (hb1.mono hB.size)⟩
set_option maxRecDepth 100000 in
set_option maxHeartbeats 2000000 in
theorem replace_large (w : World) (b : Nat) (o : Option T) (a c : Int) (s : ByteArray) (hR : RAt w b o) (h : isSpan (textO o).length a c = true) (hs : (textO o).length ≤ 65536) (hz : s.size ≤ 1000000000) (hl : 65536 < ((textO o).length : Int) - (c - a) + s.size) :
    Calls Try.prog 10 #[.pointer (some ⟨b, 0, none⟩), .agg #[.int .i64 a, .int .i64 c], .string s] w fun e w' => e = .returned (.tuple #[.pointer none, .int .i64 40]) ∧ Below w.heap.size w w' := by
  have hsp : 0 ≤ a ∧ a ≤ c ∧ c ≤ (textO o).length := by simpa [isSpan] using h
  obtain ⟨hs0, hs1, hs3⟩ := hsp
  obtain ⟨W, hW⟩ : ∃ W, w.alloc (.cells #[.int .i64 a, .int .i64 c] 30) = W := ⟨_, rfl⟩
  have hB : Below w.heap.size w W := by rw [← hW]; exact (Below.refl _ _).alloc (Nat.le_refl _) _
  have x0 : W.cell? ⟨w.heap.size, 0, none⟩ = some (.int .i64 a) := by rw [← hW]; simp
  have x1 : W.cell? ⟨w.heap.size, 1, none⟩ = some (.int .i64 c) := by rw [← hW]; simp
  have hR1 := hR.below (Nat.le_refl _) hB
  have hh := has_any W b o a c hR1
  rw [h] at hh
  have hRR := Lib.hid hR1
  have hln := fun w1 (hb : Below W.heap.size W w1) => len_any w1 b o (hRR.out.below (Nat.le_refl _) hb)
  have hwr : IntKind.i64.wrap (c - a) = c - a := IntWalk.i64_in _ (by omega)
  have hwr2 : IntKind.i64.wrap (((textO o).length : Int) - (c - a)) = ((textO o).length : Int) - (c - a) := IntWalk.i64_in _ (by omega)
  have hwr3 : IntKind.i64.wrap (((textO o).length : Int) - (c - a) + s.size) = ((textO o).length : Int) - (c - a) + s.size := IntWalk.i64_in _ (by omega)
  clear hR h hR1
  go_enter Try.func10, Try.ntmps10
  go_wp2_with fail
  refine hh.mono ?_
  rintro e w1 ⟨rfl, hb1⟩
  clear hW hh
  replace x0 := keepB hb1 x0
  replace x1 := keepB hb1 x1
  have hzz : w.heap.size < w1.heap.size := World.block_lt_of_cell? w1 ⟨w.heap.size, 0, none⟩ x0
  generalize (textO o).length = n at *
  have hBB := Lib.hid (hB.trans (hb1.mono hB.size))
  go_wp2
  go_region_held3 (fun u => u.cell? ⟨w.heap.size, 0, none⟩ = some (.int .i64 a) ∧ u.cell? ⟨w.heap.size, 1, none⟩ = some (.int .i64 c)) (first | exact ⟨x0, x1⟩ | exact ⟨p0, p1⟩ | go_keep) (first | (go_at_call 14; (with_reducible refine Calls.mono (hln _ hb1.drew) ?_); rintro e w2 ⟨rfl, hb2⟩; have p0 := (hb2.cell (p := ⟨w.heap.size, 0, none⟩) hzz).trans x0; have p1 := (hb2.cell (p := ⟨w.heap.size, 1, none⟩) hzz).trans x1))
  go_wp2
  exact bodyPost_ret (v := .tuple #[.pointer none, .int .i64 40]) (by simp [results, Try.f10, go_sem]) rfl ⟨rfl, hBB.out.trans (((Below.refl _ _).drew.trans hb2).mono hBB.out.size)⟩
end Go.Proofs.Ytbmcgmnmmnileaa
