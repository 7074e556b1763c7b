/-
  Slice and String.
-/
import Derived.Test.YtbmcgmnmmnileaaP
namespace Go.Proofs.Ytbmcgmnmmnileaa
open Go.RowKit Go.Shelf

theorem slice_nil (w : World) (a c : Int) : Calls Try.prog 16 #[.pointer none, .agg #[.int .i64 a, .int .i64 c]] w fun e w' => e = .returned (.tuple #[.string ⟨#[]⟩, .int .i64 2]) ∧ Below w.heap.size w w' := by
  have hB : Below w.heap.size w (w.alloc (.cells #[.int .i64 a, .int .i64 c] 30)) := (Below.refl _ _).alloc (Nat.le_refl _) _
  go_enter Try.func16, Try.ntmps16
  go_wp2
  exact bodyPost_ret (v := .tuple #[.string ⟨#[]⟩, .int .i64 2]) (by simp [results, Try.f16, go_sem]) rfl ⟨rfl, hB⟩

theorem slice_bad (w : World) (b : Nat) (o : Option T) (a c : Int) (hR : RAt w b o) (h : isSpan (textO o).length a c = false) :
    Calls Try.prog 16 #[.pointer (some ⟨b, 0, none⟩), .agg #[.int .i64 a, .int .i64 c]] w fun e w' => e = .returned (.tuple #[.string ⟨#[]⟩, .int .i64 1]) ∧ Below w.heap.size w w' := by
  have hB : Below w.heap.size w (w.alloc (.cells #[.int .i64 a, .int .i64 c] 30)) := (Below.refl _ _).alloc (Nat.le_refl _) _
  have hh := has_any _ b o a c (hR.below (Nat.le_refl _) hB)
  rw [h] at hh
  clear hR h
  go_enter Try.func16, Try.ntmps16
  go_wp2_with fail
  refine hh.mono ?_
  rintro e w1 ⟨rfl, hb1⟩
  go_wp2
  exact bodyPost_ret (v := .tuple #[.string ⟨#[]⟩, .int .i64 1]) (by simp [results, Try.f16, go_sem]) rfl ⟨rfl, hB.trans (hb1.mono hB.size)⟩

/-- write, of a tree or nil. -/
theorem write_o (o : Option T) (w0 w : World) (B bb : Nat) (p : Option Addr) (a c : Int) (hA : AtO w0 (.pointer p) o) (h0 : w0.heap.size ≤ B) (hb : Below B w0 w) (hBw : B ≤ w.heap.size)
    (hL : Lib.BuilderAt 70 5 B bb (.pointer (some ⟨bb, 0, none⟩)) [] w) (ha : 0 ≤ a) (hc : c ≤ (textO o).length) (hs : (textO o).length ≤ 1000000) :
    Calls Try.prog 35 #[.pointer p, .pointer (some ⟨bb, 0, none⟩), .int .i64 a, .int .i64 c] w (Wrote B bb w [] (sub (textO o) a c)) := by
  cases o with
  | none =>
    have h : c ≤ a := by have : c ≤ (([] : List UInt8).length : Int) := hc; simp at this; omega
    refine (write_none w _ bb a c h).mono ?_
    rintro e w' ⟨rfl, rfl⟩
    exact ⟨rfl, by rw [sub_none _ a c h]; exact hL, Below.refl _ _, Nat.le_refl _⟩
  | some t =>
    obtain ⟨bt, e, hA⟩ := hA
    injection e with e
    subst e
    have e : (textO (some t)).length = t.size := T.size_text t
    rw [e] at hc hs
    exact write_any t w0 w B bb bt [] a c hA h0 hb hBw hL ha hc (by simp; omega)

set_option maxRecDepth 100000 in
set_option maxHeartbeats 2000000 in
theorem slice_ok (w : World) (b : Nat) (o : Option T) (a c : Int) (hR : RAt w b o) (h : isSpan (textO o).length a c = true) (hs : (textO o).length ≤ 1000000) :
    Calls Try.prog 16 #[.pointer (some ⟨b, 0, none⟩), .agg #[.int .i64 a, .int .i64 c]] w fun e w' => e = .returned (.tuple #[.string ⟨(sub (textO o) a c).toArray⟩, .int .i64 0]) ∧ Below w.heap.size w w' := by
  have hsp : 0 ≤ a ∧ a ≤ c ∧ c ≤ (textO o).length := by simpa [isSpan] using h
  obtain ⟨hs0, hs1, hs2⟩ := hsp
  obtain ⟨W, hW⟩ : ∃ W, w.alloc (.cells #[.int .i64 a, .int .i64 c] 30) = W := ⟨_, rfl⟩
  have hB : Below w.heap.size w W := by rw [← hW]; exact (Below.refl _ _).alloc (Nat.le_refl _) _
  have x0 : W.cell? ⟨w.heap.size, 0, none⟩ = some (.int .i64 a) := by rw [← hW]; simp
  have x1 : W.cell? ⟨w.heap.size, 1, none⟩ = some (.int .i64 c) := by rw [← hW]; simp
  have hlt := hR.lt
  have hR1 := hR.below (Nat.le_refl _) hB
  have hh := has_any W b o a c hR1
  rw [h] at hh
  obtain ⟨p, h1, h2, _⟩ := hR1
  have c0 : W.cell? ⟨b, 0, none⟩ = some (.pointer p) := by rw [cellH h1]; rfl
  have hw := fun w1 (hb : Below W.heap.size W w1) => write_o o w1
  have H2 := Lib.hid h2
  have hwr : IntKind.i64.wrap (c - a) = c - a := IntWalk.i64_in _ (by omega)
  have hg0 : Hid (c - a = ((c - a).toNat : Int)) := Lib.hid (by omega)
  have hg1 : (c - a).toNat ≤ 281474976710656 := by omega
  clear hR h h1 h2
  go_enter Try.func16, Try.ntmps16
  go_wp2_with fail
  refine hh.mono ?_
  rintro e w1 ⟨rfl, hb1⟩
  clear hW hh
  replace x0 := keepB hb1 x0
  replace x1 := keepB hb1 x1
  replace c0 := keepB hb1 c0
  have A1 := Lib.hid (H2.out.below (Nat.le_refl _) hb1)
  have hBB := hB.trans (hb1.mono hB.size)
  have gA : Below w1.heap.size w1 (w1.alloc (.cells #[.pointer none, .slice none 0 0] 70)) := (Below.refl _ _).alloc (Nat.le_refl _) _
  have hgr := Try.Builder_Grow_fresh w1.heap.size w1.heap.size (c - a).toNat (w1.alloc (.cells #[.pointer none, .slice none 0 0] 70)) (Nat.le_refl _) (World.alloc_heap_new w1 _) gA.size hg1
  rw [← hg0.out] at hgr
  clear hg0
  have y0 := keepB gA x0
  have y1 := keepB gA x1
  have z0 := keepB gA c0
  have hzz : w.heap.size < w1.heap.size := World.block_lt_of_cell? w1 ⟨w.heap.size, 0, none⟩ x0
  have hzb : b < w1.heap.size := World.block_lt_of_cell? w1 ⟨b, 0, none⟩ c0
  go_wp2_with fail
  refine hgr.mono ?_
  rintro e w2 ⟨rfl, hbu, hb2⟩
  clear hgr
  replace y0 := (hb2.cell (p := ⟨w.heap.size, 0, none⟩) hzz).trans y0
  replace y1 := (hb2.cell (p := ⟨w.heap.size, 1, none⟩) hzz).trans y1
  replace z0 := (hb2.cell (p := ⟨b, 0, none⟩) hzb).trans z0
  have hwt := fun W' (hW : Below w1.heap.size w2 W') (hb : Lib.BuilderAt 70 5 w1.heap.size w1.heap.size (.pointer (some ⟨w1.heap.size, 0, none⟩)) [] W') => write_o o w1 W' w1.heap.size w1.heap.size p a c A1.out (Nat.le_refl _) ((gA.trans hb2).trans hW) (Nat.le_trans gA.size (Nat.le_trans hb2.size hW.size)) hb hs0 hs2 hs
  have HB := Lib.hid hbu
  have hg12 := gA.size
  clear hbu x0 x1 c0
  go_wp2
  go_region_held3 (fun u => u.cell? ⟨b, 0, none⟩ = some (.pointer p) ∧ u.cell? ⟨w.heap.size, 0, none⟩ = some (.int .i64 a) ∧ u.cell? ⟨w.heap.size, 1, none⟩ = some (.int .i64 c)) (first | exact ⟨z0, y0, y1⟩ | exact ⟨p0, p1, p2⟩ | go_keep) (first | (go_at_call 35; (with_reducible refine Calls.mono (hwt _ (Below.refl _ _).drew HB.out.drew) ?_); rintro e w3 ⟨rfl, hbu, hb3, hz3⟩; have p0 := (hb3.cell (p := ⟨b, 0, none⟩) hzb).trans z0; have p1 := (hb3.cell (p := ⟨w.heap.size, 0, none⟩) hzz).trans y0; have p2 := (hb3.cell (p := ⟨w.heap.size, 1, none⟩) hzz).trans y1))
  have hst := Try.Builder_String_any w1.heap.size w1.heap.size (sub (textO o) a c) w3 (.inr (by rw [List.nil_append] at hbu; exact hbu)) (Nat.le_trans hg12 (Nat.le_trans hb2.size hz3))
  have hBE : Hid (Below w.heap.size w w3) := Lib.hid (hBB.trans (((gA.trans hb2).trans ((Below.refl _ _).drew.trans hb3)).mono hBB.size))
  have hs9 : w.heap.size ≤ w1.heap.size := hBB.size
  clear hbu
  go_wp2_with fail
  refine hst.mono ?_
  rintro e w4 ⟨rfl, hb4⟩
  go_wp2
  exact bodyPost_ret (v := .tuple #[.string ⟨(sub (textO o) a c).toArray⟩, .int .i64 0]) (by simp [results, Try.f16, go_sem]) rfl ⟨rfl, hBE.out.trans (hb4.mono hs9)⟩

def sliceR (l : List UInt8) (a c : Int) : ByteArray × Int := if isSpan l.length a c = true then (⟨(sub l a c).toArray⟩, 0) else (⟨#[]⟩, 1)
/-- Slice. -/
theorem slice_any (w : World) (b : Nat) (o : Option T) (a c : Int) (hR : RAt w b o) (hs : (textO o).length ≤ 1000000) :
    Calls Try.prog 16 #[.pointer (some ⟨b, 0, none⟩), .agg #[.int .i64 a, .int .i64 c]] w fun e w' => e = .returned (.tuple #[.string (sliceR (textO o) a c).1, .int .i64 (sliceR (textO o) a c).2]) ∧ Below w.heap.size w w' := by
  unfold sliceR
  by_cases h : isSpan (textO o).length a c = true
  · rw [if_pos h]; exact slice_ok w b o a c hR h hs
  · rw [if_neg h]; exact slice_bad w b o a c hR (by simpa using h)
theorem sub_all (l : List UInt8) : sub l 0 l.length = l := by simp [sub]
/-- String. -/
theorem string_any (w : World) (b : Nat) (o : Option T) (hR : RAt w b o) (hs : (textO o).length ≤ 1000000) :
    Calls Try.prog 18 #[.pointer (some ⟨b, 0, none⟩)] w fun e w' => e = .returned (.string ⟨(textO o).toArray⟩) ∧ Below w.heap.size w w' := by
  have hl := len_any w b o hR
  have hx := fun w1 (hb : Below w.heap.size w w1) => slice_ok w1 b o 0 ((textO o).length : Nat) (hR.below (Nat.le_refl _) hb) (by simp [isSpan]) hs
  rw [sub_all] at hx
  clear hR
  generalize (⟨(textO o).toArray⟩ : ByteArray) = s at *
  generalize (textO o).length = n at *
  go_enter Try.func18, Try.ntmps18
  go_wp2_with fail
  refine hl.mono ?_
  rintro e w1 ⟨rfl, hb⟩
  go_wp2_with fail
  refine (hx w1 hb).mono ?_
  rintro e w2 ⟨rfl, hb2⟩
  go_wp2
  go_ret
  exact ⟨rfl, hb.trans (hb2.mono hb.size)⟩
theorem string_nil (w : World) : Calls Try.prog 18 #[.pointer none] w fun e w' => e = .returned (.string ⟨#[]⟩) ∧ Below w.heap.size w w' := by
  have hl := len_nil w
  have hx := fun w1 => slice_nil w1 0 0
  go_enter Try.func18, Try.ntmps18
  go_wp2_with fail
  refine hl.mono ?_
  rintro e w1 ⟨rfl, hb⟩
  go_wp2_with fail
  refine (hx w1).mono ?_
  rintro e w2 ⟨rfl, hb2⟩
  go_wp2
  go_ret
  exact ⟨rfl, hb.trans (hb2.mono hb.size)⟩
end Go.Proofs.Ytbmcgmnmmnileaa
