/-
  Pos.
-/
import Derived.Test.YtfhkahnajjbohaaDoorP
namespace Go.Proofs.YtfhkahnajjbohaaDoor
open Go.RowKit Go.Shelf

theorem pos_nil (off : Int) (w : World) :
    Calls Tryd.prog 17 #[.pointer none, .int .i64 off] w fun e w' => e = .returned (.tuple #[.agg #[.int .i64 0, .int .i64 0], .int .i64 2]) ∧ Below w.heap.size w w' := by
  go_enter Tryd.func17, Tryd.ntmps17
  go_wp2
  refine bodyPost_ret (v := .tuple #[.agg #[.int .i64 0, .int .i64 0], .int .i64 2]) (by simp [results, Tryd.f17, go_sem]) rfl ⟨rfl, ?_⟩
  exact (Below.refl _ _).alloc (Nat.le_refl _) _

set_option maxHeartbeats 1000000 in
theorem pos_out (b : Nat) (s : ByteArray) (ls : List (Nat × Nat)) (w : World) (h : Ix w b s ls) (off : Int) (hn : off < 0 ∨ (s.size : Int) < off) :
    Calls Tryd.prog 17 #[.pointer (some ⟨b, 0, none⟩), .int .i64 off] w fun e w' => e = .returned (.tuple #[.agg #[.int .i64 0, .int .i64 0], .int .i64 1]) ∧ Below w.heap.size w w' := by
  obtain ⟨g, cap, c1, _, c3, _⟩ := h
  by_cases h0 : off < 0
  · clear hn
    go_enter Tryd.func17, Tryd.ntmps17
    go_wp2
    refine bodyPost_ret (v := .tuple #[.agg #[.int .i64 0, .int .i64 0], .int .i64 1]) (by simp [results, Tryd.f17, go_sem]) rfl ⟨rfl, ?_⟩
    exact (Below.refl _ _).alloc (Nat.le_refl _) _
  · have h1 : (s.size : Int) < off := by omega
    clear hn
    go_enter Tryd.func17, Tryd.ntmps17
    go_wp2
    refine bodyPost_ret (v := .tuple #[.agg #[.int .i64 0, .int .i64 0], .int .i64 1]) (by simp [results, Tryd.f17, go_sem]) rfl ⟨rfl, ?_⟩
    exact (Below.refl _ _).alloc (Nat.le_refl _) _

set_option maxHeartbeats 1000000 in
theorem pos_in (b : Nat) (s : ByteArray) (ls : List (Nat × Nat)) (w : World) (h : Ix w b s ls) (k : Nat) (hk : k ≤ s.size) (hin : inB s k = true) :
    Calls Tryd.prog 17 #[.pointer (some ⟨b, 0, none⟩), .int .i64 k] w fun e w' => e = .returned (.tuple #[.agg #[.int .i64 0, .int .i64 0], .int .i64 1]) ∧ Below w.heap.size w w' := by
  obtain ⟨g, cap, c1, _, c3, _⟩ := h
  have hI := within_any s k (w.alloc (.cells #[.int .i64 0, .int .i64 0] 37))
  rw [hin] at hI
  clear hin
  go_enter Tryd.func17, Tryd.ntmps17
  go_wp2_with fail
  refine hI.mono ?_
  rintro e w1 ⟨rfl, rfl⟩
  clear hI
  go_wp2
  refine bodyPost_ret (v := .tuple #[.agg #[.int .i64 0, .int .i64 0], .int .i64 1]) (by simp [results, Tryd.f17, go_sem]) rfl ⟨rfl, ?_⟩
  exact (Below.refl _ _).alloc (Nat.le_refl _) _

set_option maxRecDepth 100000 in
set_option maxHeartbeats 2000000 in
theorem pos_ok (b : Nat) (s : ByteArray) (ls : List (Nat × Nat)) (w : World) (h : Ix w b s ls) (hl : ls.length ≤ 1000000000) (hR : Rising ls) (k : Nat) (hk : k ≤ s.size) (hs : s.size ≤ 65536) (hin : inB s k = false)
    (i : Nat) (hi : CutAt ls k (i + 1)) (x : Nat × Nat) (hx : ls[i]? = some x) (h1 : x.1 ≤ k) (h2 : x.1 ≤ x.2) (h3 : x.2 ≤ s.size) :
    Calls Tryd.prog 17 #[.pointer (some ⟨b, 0, none⟩), .int .i64 k] w fun e w' => e = .returned (.tuple #[.agg #[.int .i64 i, .int .i64 (un (s.extract x.1 (min k x.2)))], .int .i64 0]) ∧ Below w.heap.size w w' := by
  have hB0 : Below w.heap.size w (w.alloc (.cells #[.int .i64 0, .int .i64 0] 37)) := (Below.refl _ _).alloc (Nat.le_refl _) _
  have hx0 := h.below (Nat.le_refl _) hB0
  have hI := within_any s k (w.alloc (.cells #[.int .i64 0, .int .i64 0] 37))
  rw [hin] at hI
  clear hin
  have hA := lineAt_any b s ls (w.alloc (.cells #[.int .i64 0, .int .i64 0] 37)) hx0 hl hR k (i + 1) hi
  rw [show ((i + 1 : Nat) : Int) - 1 = i by omega] at hA
  have hLn := fun W (hb : Below (w.alloc (.cells #[.int .i64 0, .int .i64 0] 37)).heap.size (w.alloc (.cells #[.int .i64 0, .int .i64 0] 37)) W) => line_ok b s ls W (hx0.below (Nat.le_refl _) hb) i x hx
  have hU := fun W => units_any (s.extract x.1 (min k x.2)) W (by simp; omega)
  obtain ⟨g, cap, c1, _, c3, _⟩ := h
  have H0 := Lib.hid hx0
  clear hx0 hi hR hx
  generalize un (s.extract x.1 (min k x.2)) = u at *
  go_enter Tryd.func17, Tryd.ntmps17
  go_wp2_with fail
  refine hI.mono ?_
  rintro e w1 ⟨rfl, rfl⟩
  clear hI
  go_wp2_with fail
  refine hA.mono ?_
  rintro e w1 ⟨rfl, hb1⟩
  clear hA
  have hL1 := hLn w1 hb1
  clear hLn
  go_wp2_with fail
  refine hL1.mono ?_
  rintro e w2 ⟨rfl, hb2⟩
  clear hL1
  obtain ⟨hc1, hf1⟩ := bcell hb1
  obtain ⟨hc2, hf2⟩ := bcell hb2
  have hz1 : w.heap.size + 1 ≤ w1.heap.size := by have := hb1.size; simpa using this
  have hz2 := hb2.size
  have k0 : w2.cell? ⟨b, 0, none⟩ = some (.string s) := (hc2 b 0 (by omega)).trans ((hc1 b 0 (by simp; omega)).trans ((World.cell?_alloc_some w ⟨b, 0, none⟩ _ (by rw [c1]; rfl)).trans c1))
  have k1 : w2.cell? ⟨w.heap.size, 0, none⟩ = some (.int .i64 0) := (hc2 _ 0 (by omega)).trans ((hc1 _ 0 (by simp)).trans (by simp))
  have k2 : w2.cell? ⟨w.heap.size, 1, none⟩ = some (.int .i64 0) := (hc2 _ 1 (by omega)).trans ((hc1 _ 1 (by simp)).trans (by simp))
  have k3 : w2.frozen? ⟨w.heap.size, 0, none⟩ = false := (hf2 _ 0 (by omega)).trans ((hf1 _ 0 (by simp)).trans (by simp))
  have k4 : w2.frozen? ⟨w.heap.size, 1, none⟩ = false := (hf2 _ 1 (by omega)).trans ((hf1 _ 1 (by simp)).trans (by simp))
  have hB2 : Below w.heap.size w w2 := hB0.trans ((hb1.mono (by simp)).trans (hb2.mono (by omega)))
  clear hc1 hf1 hc2 hf2 hb1 hb2 H0 hB0 c1
  go_wp2
  rw [show min (k : Int) (x.2 : Int) = ((min k x.2 : Nat) : Int) by omega]
  have hm1 : x.1 ≤ min k x.2 := by omega
  have hm2 : min k x.2 ≤ s.size := by omega
  generalize min k x.2 = m at *
  obtain ⟨W, hW⟩ : ∃ W, w2.alloc (.cells #[.int .i64 x.1, .int .i64 x.2] 32) = W := ⟨_, rfl⟩
  rw [hW]
  have d0 : W.cell? ⟨b, 0, none⟩ = some (.string s) := by rw [← hW]; exact (World.cell?_alloc_some w2 ⟨b, 0, none⟩ _ (by rw [k0]; rfl)).trans k0
  have d1 : W.cell? ⟨w2.heap.size, 0, none⟩ = some (.int .i64 x.1) := by rw [← hW]; simp
  have q1 : W.cell? ⟨w.heap.size, 0, none⟩ = some (.int .i64 0) := by rw [← hW]; exact (World.cell?_alloc_some w2 ⟨w.heap.size, 0, none⟩ _ (by rw [k1]; rfl)).trans k1
  have q2 : W.cell? ⟨w.heap.size, 1, none⟩ = some (.int .i64 0) := by rw [← hW]; exact (World.cell?_alloc_some w2 ⟨w.heap.size, 1, none⟩ _ (by rw [k2]; rfl)).trans k2
  have hBW : Below w.heap.size w W := by rw [← hW]; exact hB2.alloc (by omega) _
  have hBf : Below w2.heap.size w2 W := by rw [← hW]; exact (Below.refl _ _).alloc (Nat.le_refl _) _
  have q3 : W.frozen? ⟨w.heap.size, 0, none⟩ = false := (hBf.frozen (p := ⟨w.heap.size, 0, none⟩) (by show w.heap.size < w2.heap.size; omega)).trans k3
  have q4 : W.frozen? ⟨w.heap.size, 1, none⟩ = false := (hBf.frozen (p := ⟨w.heap.size, 1, none⟩) (by show w.heap.size < w2.heap.size; omega)).trans k4
  have hzW : w2.heap.size < W.heap.size := by rw [← hW]; simp
  clear hW k0 k1 k2 k3 k4 hB2 hBf
  have nb : w.heap.size ≠ b := by omega
  have nl : w.heap.size ≠ w2.heap.size := by omega
  go_region_held3 (fun v => v.cell? ⟨b, 0, none⟩ = some (.string s) ∧ v.cell? ⟨w2.heap.size, 0, none⟩ = some (.int .i64 x.1)) (first | exact ⟨d0, d1⟩ | exact ⟨e0, e1⟩ | go_keep) (first | (go_at_call 31; refine (hU _).mono ?_; rintro e w3 ⟨rfl, hb3⟩; have e0 : w3.cell? ⟨b, 0, none⟩ = some (.string s) := (hb3.cell (p := ⟨b, 0, none⟩) (by show b < W.heap.size; omega)).trans d0; have e1 : w3.cell? ⟨w2.heap.size, 0, none⟩ = some (.int .i64 x.1) := (hb3.cell (p := ⟨w2.heap.size, 0, none⟩) hzW).trans d1; have e2 : w3.cell? ⟨w.heap.size, 0, none⟩ = some (.int .i64 0) := (hb3.cell (p := ⟨w.heap.size, 0, none⟩) (by show w.heap.size < W.heap.size; omega)).trans q1; have e3 : w3.cell? ⟨w.heap.size, 1, none⟩ = some (.int .i64 0) := (hb3.cell (p := ⟨w.heap.size, 1, none⟩) (by show w.heap.size < W.heap.size; omega)).trans q2; have e4 : w3.frozen? ⟨w.heap.size, 0, none⟩ = false := (hb3.frozen (p := ⟨w.heap.size, 0, none⟩) (by show w.heap.size < W.heap.size; omega)).trans q3; have e5 : w3.frozen? ⟨w.heap.size, 1, none⟩ = false := (hb3.frozen (p := ⟨w.heap.size, 1, none⟩) (by show w.heap.size < W.heap.size; omega)).trans q4))
  clear hU
  have r0 : ((w3.setCell ⟨w.heap.size, 0, none⟩ (.int .i64 i)).setCell ⟨w.heap.size, 1, none⟩ (.int .i64 u)).cell? ⟨w.heap.size, 0, none⟩ = some (.int .i64 i) := by go_simp
  have r1 : ((w3.setCell ⟨w.heap.size, 0, none⟩ (.int .i64 i)).setCell ⟨w.heap.size, 1, none⟩ (.int .i64 u)).cell? ⟨w.heap.size, 1, none⟩ = some (.int .i64 u) := by go_simp
  have hBe : Below w.heap.size w ((w3.setCell ⟨w.heap.size, 0, none⟩ (.int .i64 i)).setCell ⟨w.heap.size, 1, none⟩ (.int .i64 u)) :=
    ((hBW.drew.trans (hb3.mono (Nat.le_of_lt (by show w.heap.size < W.heap.size; omega)))).setCell (p := ⟨w.heap.size, 0, none⟩) (Nat.le_refl _) _).setCell (p := ⟨w.heap.size, 1, none⟩) (Nat.le_refl _) _
  generalize (w3.setCell ⟨w.heap.size, 0, none⟩ (.int .i64 i)).setCell ⟨w.heap.size, 1, none⟩ (.int .i64 u) = W4 at *
  go_wp2
  refine bodyPost_ret (v := .tuple #[.agg #[.int .i64 i, .int .i64 u], .int .i64 0]) (by simp [results, Tryd.f17, go_sem, r0, r1]) rfl ⟨rfl, hBe⟩
end Go.Proofs.YtfhkahnajjbohaaDoor
