/-
  The walk of the law LinesPlaces.
-/
import Derived.Test.YtfhkahnajjbohaaDoorRS
namespace Go.Proofs.YtfhkahnajjbohaaDoor
open Go.RowKit Go.Shelf

theorem OffSays.later {P : Program} {f : FuncId} {r : Value} {a b k e : Int} {w W : World} (h : OffSays P f r a b w k e) (hW : Below w.heap.size w W) : OffSays P f r a b W k e := fun V hV => h V (hW.trans (hV.mono hW.size))
theorem PosSays.later {P : Program} {f : FuncId} {r : Value} {a i u e : Int} {w W : World} (h : PosSays P f r a w i u e) (hW : Below w.heap.size w W) : PosSays P f r a W i u e := fun V hV => h V (hW.trans (hV.mono hW.size))
def SpanSays (P : Program) (f : FuncId) (r : Value) (a1 a2 b1 b2 : Int) (w : World) (g h e : Int) : Prop :=
  ∀ W, Below w.heap.size w W → Calls P f #[r, .agg #[.int .i64 a1, .int .i64 a2, .int .i64 b1, .int .i64 b2]] W fun e' W' => e' = .returned (.tuple #[.agg #[.int .i64 g, .int .i64 h], .int .i64 e]) ∧ Below W.heap.size W W'
def RangeSays (P : Program) (f : FuncId) (r : Value) (a b : Int) (w : World) (g h i j e : Int) : Prop :=
  ∀ W, Below w.heap.size w W → Calls P f #[r, .agg #[.int .i64 a, .int .i64 b]] W fun e' W' => e' = .returned (.tuple #[.agg #[.int .i64 g, .int .i64 h, .int .i64 i, .int .i64 j], .int .i64 e]) ∧ Below W.heap.size W W'

/-- What Offset answers, the code's and the reference's. -/
theorem same_off {s : ByteArray} (hv : validS s = true) (hs : s.size ≤ 65536) (l c : Int) : ∃ k e : Int, (∀ b w, Ix w b s (linesB s) → OffSays Tryd.prog 15 (.pointer (some ⟨b, 0, none⟩)) l c w k e) ∧ (∀ w, OffSays Tryd.prog 16 (.string s) l c w k e) ∧ ((e = 0 ∧ ∃ j : Nat, k = j ∧ OffAt s l c j) ∨ e = 60) := by
  by_cases hk : ∃ k, OffAt s l c k
  · obtain ⟨k, hk⟩ := hk
    exact ⟨k, 0, fun b w h W hW => off_good b s W (h.below (Nat.le_refl _) hW) hv hs l c k hk, fun w W _ => roff_good s W hv hs l c k hk, .inl ⟨rfl, k, rfl, hk⟩⟩
  · have hn : ∀ k, ¬ OffAt s l c k := fun k h => hk ⟨k, h⟩
    exact ⟨0, 60, fun b w h W hW => off_bad b s W (h.below (Nat.le_refl _) hW) hv hs l c hn, fun w W _ => roff_bad s W hv hs l c hn, .inr rfl⟩
theorem same_pos {s : ByteArray} (hv : validS s = true) (hs : s.size ≤ 65536) (k : Int) : ∃ i u e : Int, (∀ b w, Ix w b s (linesB s) → PosSays Tryd.prog 17 (.pointer (some ⟨b, 0, none⟩)) k w i u e) ∧ (∀ w, PosSays Tryd.prog 18 (.string s) k w i u e) ∧ (e = 0 ∨ (e = 1 ∧ i = 0 ∧ u = 0)) := by
  rcases pos_cases hv k with hp | ⟨j, i, u, rfl, hp⟩
  · exact ⟨0, 0, 1, fun b w h W hW => pos_none b s W (h.below (Nat.le_refl _) hW) k hp, fun w W _ => rpos_bad s k W hv hs hp, .inr ⟨rfl, rfl, rfl⟩⟩
  · exact ⟨i, u, 0, fun b w h W hW => pos_good b s W (h.below (Nat.le_refl _) hW) hs j i u hp, fun w W _ => rpos_good s W hv hs j i u hp, .inl rfl⟩
theorem same_span {s : ByteArray} (hv : validS s = true) (hs : s.size ≤ 65536) (a1 a2 b1 b2 : Int) : ∃ g h e : Int, (∀ b w, Ix w b s (linesB s) → SpanSays Tryd.prog 19 (.pointer (some ⟨b, 0, none⟩)) a1 a2 b1 b2 w g h e) ∧ (∀ w, SpanSays Tryd.prog 20 (.string s) a1 a2 b1 b2 w g h e) := by
  obtain ⟨k, e, c1, r1, h1⟩ := same_off hv hs a1 a2
  obtain ⟨j, f, c2, r2, h2⟩ := same_off hv hs b1 b2
  rcases h1 with ⟨rfl, k', rfl, hk⟩ | rfl
  · rcases h2 with ⟨rfl, j', rfl, hj⟩ | rfl
    · have ho := (off_order hj hk).1
      cases hl : lessB b1 b2 a1 a2
      · have hle : (k' : Int) ≤ j' := by
          have : ¬ (j' < k') := fun h => by rw [← ho, ← lessB_iff, hl] at h; cases h
          omega
        exact ⟨k', j', 0, fun b w h W hW => span_ok _ a1 a2 b1 b2 k' j' W ((c1 b w h).later hW) ((c2 b w h).later hW) hle, fun w W hW => rspan_ok s a1 a2 b1 b2 k' j' W ((r1 w).later hW) ((r2 w).later hW) hl⟩
      · have hlt : (j' : Int) < k' := by have := ho.1 ((lessB_iff b1 b2 a1 a2).1 hl); omega
        exact ⟨0, 0, 60, fun b w h W hW => span_rev _ a1 a2 b1 b2 k' j' W ((c1 b w h).later hW) ((c2 b w h).later hW) hlt, fun w W hW => rspan_rev s a1 a2 b1 b2 k' j' W ((r1 w).later hW) ((r2 w).later hW) hl⟩
    · exact ⟨0, 0, 60, fun b w h W hW => span_e2 _ a1 a2 b1 b2 k' j 60 W ((c1 b w h).later hW) ((c2 b w h).later hW) rfl, fun w W hW => rspan_e2 s a1 a2 b1 b2 k' j 60 W ((r1 w).later hW) ((r2 w).later hW) rfl⟩
  · exact ⟨0, 0, 60, fun b w h W hW => span_e1 _ a1 a2 b1 b2 k 60 W ((c1 b w h).later hW) rfl, fun w W hW => rspan_e1 s a1 a2 b1 b2 k 60 W ((r1 w).later hW) rfl⟩
theorem same_range {s : ByteArray} (hv : validS s = true) (hs : s.size ≤ 65536) (a b : Int) : ∃ g h i j e : Int, (∀ p w, Ix w p s (linesB s) → RangeSays Tryd.prog 21 (.pointer (some ⟨p, 0, none⟩)) a b w g h i j e) ∧ (∀ w, RangeSays Tryd.prog 22 (.string s) a b w g h i j e) := by
  obtain ⟨i1, u1, e, c1, r1, h1⟩ := same_pos hv hs a
  obtain ⟨i2, u2, f, c2, r2, h2⟩ := same_pos hv hs b
  by_cases hab : a ≤ b
  · rcases h1 with rfl | ⟨rfl, _, _⟩
    · rcases h2 with rfl | ⟨rfl, _, _⟩
      · exact ⟨i1, u1, i2, u2, 0, fun p w h W hW => range_ok _ a b i1 u1 i2 u2 W ((c1 p w h).later hW) ((c2 p w h).later hW) hab, fun w W hW => rrange_ok s a b i1 u1 i2 u2 W ((r1 w).later hW) ((r2 w).later hW) hab⟩
      · exact ⟨0, 0, 0, 0, 1, fun p w h W hW => range_e2 _ a b i1 u1 i2 u2 1 W ((c1 p w h).later hW) ((c2 p w h).later hW) rfl, fun w W hW => rrange_e2 s a b i1 u1 i2 u2 1 W ((r1 w).later hW) ((r2 w).later hW) rfl hab⟩
    · exact ⟨0, 0, 0, 0, 1, fun p w h W hW => range_e1 _ a b i1 u1 1 W ((c1 p w h).later hW) rfl, fun w W hW => rrange_e1 s a b i1 u1 1 W ((r1 w).later hW) rfl hab⟩
  · have hlt : b < a := by omega
    refine ⟨0, 0, 0, 0, 1, fun p w h W hW => ?_, fun w W _ => rrange_rev s a b W hlt⟩
    rcases h1 with rfl | ⟨rfl, _, _⟩
    · rcases h2 with rfl | ⟨rfl, _, _⟩
      · exact range_rev _ a b i1 u1 i2 u2 W ((c1 p w h).later hW) ((c2 p w h).later hW) hlt
      · exact range_e2 _ a b i1 u1 i2 u2 1 W ((c1 p w h).later hW) ((c2 p w h).later hW) rfl
    · exact range_e1 _ a b i1 u1 1 W ((c1 p w h).later hW) rfl

set_option maxRecDepth 100000 in
set_option maxHeartbeats 8000000 in
theorem places_long (s : ByteArray) (a1 a2 b1 b2 y0 y1 : Int) (w : World) (hT : Lib.Utf8Tabs 1 2 w) (h : 2000 < s.size) :
    Calls Tryd.prog 4 #[.string s, .agg #[.int .i64 a1, .int .i64 a2, .int .i64 b1, .int .i64 b2], .agg #[.int .i64 y0, .int .i64 y1]] w fun e w' => e = .returned (.bool true) ∧ Below w.heap.size w w' := by
  have h2 := tabs_size hT
  have cw := awake_any
  have hb0 : Below w.heap.size w ((w.alloc (.cells #[.int .i64 a1, .int .i64 a2, .int .i64 b1, .int .i64 b2] 39)).alloc (.cells #[.int .i64 y0, .int .i64 y1] 32)) := ((Below.refl _ _).alloc (Nat.le_refl _) _).alloc (by simp) _
  go_enter Tryd.func4, Tryd.ntmps4
  go_wp2_with fail
  refine (cw _ (tabs_below hT hb0 h2)).mono ?_
  rintro e w1 ⟨rfl, hb1⟩
  go_wp2
  go_ret
  exact ⟨rfl, hb0.trans (hb1.mono hb0.size)⟩

set_option maxRecDepth 100000 in
set_option maxHeartbeats 8000000 in
theorem places_none (s : ByteArray) (a1 a2 b1 b2 y0 y1 : Int) (w : World) (hT : Lib.Utf8Tabs 1 2 w) (h : s.size ≤ 2000) (hv : validS s = false) :
    Calls Tryd.prog 4 #[.string s, .agg #[.int .i64 a1, .int .i64 a2, .int .i64 b1, .int .i64 b2], .agg #[.int .i64 y0, .int .i64 y1]] w fun e w' => e = .returned (.bool true) ∧ Below w.heap.size w w' := by
  have h2 := tabs_size hT
  have cw := awake_any
  have hb0 : Below w.heap.size w ((w.alloc (.cells #[.int .i64 a1, .int .i64 a2, .int .i64 b1, .int .i64 b2] 39)).alloc (.cells #[.int .i64 y0, .int .i64 y1] 32)) := ((Below.refl _ _).alloc (Nat.le_refl _) _).alloc (by simp) _
  have cv := fun w => rvalid_any s w (by omega)
  simp only [hv] at cv
  clear hv
  go_enter Tryd.func4, Tryd.ntmps4
  go_wp2_with fail
  refine (cv _).mono ?_
  rintro e w1 ⟨rfl, rfl⟩
  go_wp2_with fail
  refine (cw _ (tabs_below hT hb0 h2)).mono ?_
  rintro e w1 ⟨rfl, hb1⟩
  go_wp2
  go_ret
  exact ⟨rfl, hb0.trans (hb1.mono hb0.size)⟩

set_option maxRecDepth 100000 in
set_option maxHeartbeats 8000000 in
theorem places_main (s : ByteArray) (a1 a2 b1 b2 y0 y1 : Int) (w : World) (hT : Lib.Utf8Tabs 1 2 w) (h : s.size ≤ 2000) (hv : validS s = true) :
    Calls Tryd.prog 4 #[.string s, .agg #[.int .i64 a1, .int .i64 a2, .int .i64 b1, .int .i64 b2], .agg #[.int .i64 y0, .int .i64 y1]] w fun e w' => e = .returned (.bool true) ∧ Below w.heap.size w w' := by
  have h2 := tabs_size hT
  have cw := awake_any
  have hb0 : Below w.heap.size w ((w.alloc (.cells #[.int .i64 a1, .int .i64 a2, .int .i64 b1, .int .i64 b2] 39)).alloc (.cells #[.int .i64 y0, .int .i64 y1] 32)) := ((Below.refl _ _).alloc (Nat.le_refl _) _).alloc (by simp) _
  have cv := fun w => rvalid_any s w (by omega)
  simp only [hv] at cv
  have cn := fun w hT => new_ix s w (by omega) hv hT
  obtain ⟨k, e1, co, ro, _⟩ := same_off hv (by omega) a1 a2
  obtain ⟨i, u, e2, cp, rp, _⟩ := same_pos hv (by omega) y0
  obtain ⟨g, j, e3, cs, rs⟩ := same_span hv (by omega) a1 a2 b1 b2
  obtain ⟨m0, m1, m2, m3, e4, cr, rr⟩ := same_range hv (by omega) y0 y1
  clear hv
  go_enter Tryd.func4, Tryd.ntmps4
  go_wp2_with fail
  generalize hW0 : (w.alloc (.cells #[.int .i64 a1, .int .i64 a2, .int .i64 b1, .int .i64 b2] 39)).alloc (.cells #[.int .i64 y0, .int .i64 y1] 32) = W0 at *
  have p0 : W0.cell? ⟨w.heap.size, 0, none⟩ = some (.int .i64 a1) := by rw [← hW0]; simp
  have p1 : W0.cell? ⟨w.heap.size, 1, none⟩ = some (.int .i64 a2) := by rw [← hW0]; simp
  have p2 : W0.cell? ⟨w.heap.size, 2, none⟩ = some (.int .i64 b1) := by rw [← hW0]; simp
  have p3 : W0.cell? ⟨w.heap.size, 3, none⟩ = some (.int .i64 b2) := by rw [← hW0]; simp
  have q0 : W0.cell? ⟨w.heap.size + 1, 0, none⟩ = some (.int .i64 y0) := by rw [← hW0]; simp
  have q1 : W0.cell? ⟨w.heap.size + 1, 1, none⟩ = some (.int .i64 y1) := by rw [← hW0]; simp
  clear hW0
  refine (cv _).mono ?_
  rintro e w1 ⟨rfl, rfl⟩
  clear cv
  go_wp2_with fail
  refine Calls.mono (cn _ (tabs_below hT hb0 h2)) ?_
  rintro e w2 ⟨b, rfl, hI, hc2⟩
  have hb2 := hb0.trans (hc2.mono hb0.size)
  replace p0 := keepB hc2 p0
  replace p1 := keepB hc2 p1
  replace p2 := keepB hc2 p2
  replace p3 := keepB hc2 p3
  replace q0 := keepB hc2 q0
  replace q1 := keepB hc2 q1
  clear hc2
  have cO := co b _ hI
  have cP := cp b _ hI
  have cS := cs b _ hI
  have cR := cr b _ hI
  have rO := ro w2
  have rP := rp w2
  have rS := rs w2
  have rR := rr w2
  clear hI cn co cp cs cr ro rp rs rr
  have hi0 := Below.refl w2.heap.size w2
  go_wp2_with fail
  refine (cO _ hi0).mono ?_
  rintro e w3 ⟨rfl, hc3⟩
  have hb3 := hb2.trans (hc3.mono hb2.size)
  have hi3 := hi0.trans (hc3.mono hi0.size)
  replace p0 := keepB hc3 p0
  replace p1 := keepB hc3 p1
  replace p2 := keepB hc3 p2
  replace p3 := keepB hc3 p3
  replace q0 := keepB hc3 q0
  replace q1 := keepB hc3 q1
  clear hc3
  go_wp2_with fail
  refine (rO _ hi3).mono ?_
  rintro e w4 ⟨rfl, hc4⟩
  have hb4 := hb3.trans (hc4.mono hb3.size)
  have hi4 := hi3.trans (hc4.mono hi3.size)
  replace p0 := keepB hc4 p0
  replace p1 := keepB hc4 p1
  replace p2 := keepB hc4 p2
  replace p3 := keepB hc4 p3
  replace q0 := keepB hc4 q0
  replace q1 := keepB hc4 q1
  clear hc4
  clear cO rO
  go_wp2_with fail
  refine (cP _ hi4).mono ?_
  rintro e w5 ⟨rfl, hc5⟩
  have hb5 := hb4.trans (hc5.mono hb4.size)
  have hi5 := hi4.trans (hc5.mono hi4.size)
  replace p0 := keepB hc5 p0
  replace p1 := keepB hc5 p1
  replace p2 := keepB hc5 p2
  replace p3 := keepB hc5 p3
  replace q0 := keepB hc5 q0
  replace q1 := keepB hc5 q1
  clear hc5
  obtain ⟨v5, hv5⟩ : ∃ v, w5.alloc (.cells #[.int .i64 i, .int .i64 u] 37) = v := ⟨_, rfl⟩
  have ha5 : Below w5.heap.size w5 v5 := by rw [← hv5]; exact (Below.refl _ _).alloc (Nat.le_refl _) _
  replace p0 := keepB ha5 p0
  replace p1 := keepB ha5 p1
  replace p2 := keepB ha5 p2
  replace p3 := keepB ha5 p3
  replace q0 := keepB ha5 q0
  replace q1 := keepB ha5 q1
  have hb5a := hb5.trans (ha5.mono hb5.size)
  have hi5a := hi5.trans (ha5.mono hi5.size)
  clear ha5
  have x0 : v5.cell? ⟨w5.heap.size, 0, none⟩ = some (.int .i64 i) := by rw [← hv5]; simp
  have x1 : v5.cell? ⟨w5.heap.size, 1, none⟩ = some (.int .i64 u) := by rw [← hv5]; simp
  go_wp2_with fail
  clear hv5
  refine (rP _ hi5a).mono ?_
  rintro e w6 ⟨rfl, hc6⟩
  have hb6 := hb5a.trans (hc6.mono hb5a.size)
  have hi6 := hi5a.trans (hc6.mono hi5a.size)
  replace p0 := keepB hc6 p0
  replace p1 := keepB hc6 p1
  replace p2 := keepB hc6 p2
  replace p3 := keepB hc6 p3
  replace q0 := keepB hc6 q0
  replace q1 := keepB hc6 q1
  replace x0 := keepB hc6 x0
  replace x1 := keepB hc6 x1
  clear hc6
  obtain ⟨v6, hv6⟩ : ∃ v, w6.alloc (.cells #[.int .i64 i, .int .i64 u] 37) = v := ⟨_, rfl⟩
  have ha6 : Below w6.heap.size w6 v6 := by rw [← hv6]; exact (Below.refl _ _).alloc (Nat.le_refl _) _
  replace p0 := keepB ha6 p0
  replace p1 := keepB ha6 p1
  replace p2 := keepB ha6 p2
  replace p3 := keepB ha6 p3
  replace q0 := keepB ha6 q0
  replace q1 := keepB ha6 q1
  replace x0 := keepB ha6 x0
  replace x1 := keepB ha6 x1
  have hb6a := hb6.trans (ha6.mono hb6.size)
  have hi6a := hi6.trans (ha6.mono hi6.size)
  clear ha6
  have x2 : v6.cell? ⟨w6.heap.size, 0, none⟩ = some (.int .i64 i) := by rw [← hv6]; simp
  have x3 : v6.cell? ⟨w6.heap.size, 1, none⟩ = some (.int .i64 u) := by rw [← hv6]; simp
  clear cP rP
  go_wp2_with fail
  clear hv6
  refine (cS _ hi6a).mono ?_
  rintro e w7 ⟨rfl, hc7⟩
  have hb7 := hb6a.trans (hc7.mono hb6a.size)
  have hi7 := hi6a.trans (hc7.mono hi6a.size)
  replace p0 := keepB hc7 p0
  replace p1 := keepB hc7 p1
  replace p2 := keepB hc7 p2
  replace p3 := keepB hc7 p3
  replace q0 := keepB hc7 q0
  replace q1 := keepB hc7 q1
  replace x0 := keepB hc7 x0
  replace x1 := keepB hc7 x1
  replace x2 := keepB hc7 x2
  replace x3 := keepB hc7 x3
  clear hc7
  obtain ⟨v7, hv7⟩ : ∃ v, w7.alloc (.cells #[.int .i64 g, .int .i64 j] 32) = v := ⟨_, rfl⟩
  have ha7 : Below w7.heap.size w7 v7 := by rw [← hv7]; exact (Below.refl _ _).alloc (Nat.le_refl _) _
  replace p0 := keepB ha7 p0
  replace p1 := keepB ha7 p1
  replace p2 := keepB ha7 p2
  replace p3 := keepB ha7 p3
  replace q0 := keepB ha7 q0
  replace q1 := keepB ha7 q1
  replace x0 := keepB ha7 x0
  replace x1 := keepB ha7 x1
  replace x2 := keepB ha7 x2
  replace x3 := keepB ha7 x3
  have hb7a := hb7.trans (ha7.mono hb7.size)
  have hi7a := hi7.trans (ha7.mono hi7.size)
  clear ha7
  have g0 : v7.cell? ⟨w7.heap.size, 0, none⟩ = some (.int .i64 g) := by rw [← hv7]; simp
  have g1 : v7.cell? ⟨w7.heap.size, 1, none⟩ = some (.int .i64 j) := by rw [← hv7]; simp
  go_wp2_with fail
  clear hv7
  refine (rS _ hi7a).mono ?_
  rintro e w8 ⟨rfl, hc8⟩
  have hb8 := hb7a.trans (hc8.mono hb7a.size)
  have hi8 := hi7a.trans (hc8.mono hi7a.size)
  replace p0 := keepB hc8 p0
  replace p1 := keepB hc8 p1
  replace p2 := keepB hc8 p2
  replace p3 := keepB hc8 p3
  replace q0 := keepB hc8 q0
  replace q1 := keepB hc8 q1
  replace x0 := keepB hc8 x0
  replace x1 := keepB hc8 x1
  replace x2 := keepB hc8 x2
  replace x3 := keepB hc8 x3
  replace g0 := keepB hc8 g0
  replace g1 := keepB hc8 g1
  clear hc8
  obtain ⟨v8, hv8⟩ : ∃ v, w8.alloc (.cells #[.int .i64 g, .int .i64 j] 32) = v := ⟨_, rfl⟩
  have ha8 : Below w8.heap.size w8 v8 := by rw [← hv8]; exact (Below.refl _ _).alloc (Nat.le_refl _) _
  replace p0 := keepB ha8 p0
  replace p1 := keepB ha8 p1
  replace p2 := keepB ha8 p2
  replace p3 := keepB ha8 p3
  replace q0 := keepB ha8 q0
  replace q1 := keepB ha8 q1
  replace x0 := keepB ha8 x0
  replace x1 := keepB ha8 x1
  replace x2 := keepB ha8 x2
  replace x3 := keepB ha8 x3
  replace g0 := keepB ha8 g0
  replace g1 := keepB ha8 g1
  have hb8a := hb8.trans (ha8.mono hb8.size)
  have hi8a := hi8.trans (ha8.mono hi8.size)
  clear ha8
  have g2 : v8.cell? ⟨w8.heap.size, 0, none⟩ = some (.int .i64 g) := by rw [← hv8]; simp
  have g3 : v8.cell? ⟨w8.heap.size, 1, none⟩ = some (.int .i64 j) := by rw [← hv8]; simp
  clear cS rS
  go_wp2_with fail
  clear hv8
  refine (cR _ hi8a).mono ?_
  rintro e w9 ⟨rfl, hc9⟩
  have hb9 := hb8a.trans (hc9.mono hb8a.size)
  have hi9 := hi8a.trans (hc9.mono hi8a.size)
  replace p0 := keepB hc9 p0
  replace p1 := keepB hc9 p1
  replace p2 := keepB hc9 p2
  replace p3 := keepB hc9 p3
  replace q0 := keepB hc9 q0
  replace q1 := keepB hc9 q1
  replace x0 := keepB hc9 x0
  replace x1 := keepB hc9 x1
  replace x2 := keepB hc9 x2
  replace x3 := keepB hc9 x3
  replace g0 := keepB hc9 g0
  replace g1 := keepB hc9 g1
  replace g2 := keepB hc9 g2
  replace g3 := keepB hc9 g3
  clear hc9
  obtain ⟨v9, hv9⟩ : ∃ v, w9.alloc (.cells #[.int .i64 m0, .int .i64 m1, .int .i64 m2, .int .i64 m3] 39) = v := ⟨_, rfl⟩
  have ha9 : Below w9.heap.size w9 v9 := by rw [← hv9]; exact (Below.refl _ _).alloc (Nat.le_refl _) _
  replace p0 := keepB ha9 p0
  replace p1 := keepB ha9 p1
  replace p2 := keepB ha9 p2
  replace p3 := keepB ha9 p3
  replace q0 := keepB ha9 q0
  replace q1 := keepB ha9 q1
  replace x0 := keepB ha9 x0
  replace x1 := keepB ha9 x1
  replace x2 := keepB ha9 x2
  replace x3 := keepB ha9 x3
  replace g0 := keepB ha9 g0
  replace g1 := keepB ha9 g1
  replace g2 := keepB ha9 g2
  replace g3 := keepB ha9 g3
  have hb9a := hb9.trans (ha9.mono hb9.size)
  have hi9a := hi9.trans (ha9.mono hi9.size)
  clear ha9
  have n0 : v9.cell? ⟨w9.heap.size, 0, none⟩ = some (.int .i64 m0) := by rw [← hv9]; simp
  have n1 : v9.cell? ⟨w9.heap.size, 1, none⟩ = some (.int .i64 m1) := by rw [← hv9]; simp
  have n2 : v9.cell? ⟨w9.heap.size, 2, none⟩ = some (.int .i64 m2) := by rw [← hv9]; simp
  have n3 : v9.cell? ⟨w9.heap.size, 3, none⟩ = some (.int .i64 m3) := by rw [← hv9]; simp
  go_wp2_with fail
  clear hv9
  refine (rR _ hi9a).mono ?_
  rintro e w10 ⟨rfl, hc10⟩
  have hb10 := hb9a.trans (hc10.mono hb9a.size)
  have hi10 := hi9a.trans (hc10.mono hi9a.size)
  replace p0 := keepB hc10 p0
  replace p1 := keepB hc10 p1
  replace p2 := keepB hc10 p2
  replace p3 := keepB hc10 p3
  replace q0 := keepB hc10 q0
  replace q1 := keepB hc10 q1
  replace x0 := keepB hc10 x0
  replace x1 := keepB hc10 x1
  replace x2 := keepB hc10 x2
  replace x3 := keepB hc10 x3
  replace g0 := keepB hc10 g0
  replace g1 := keepB hc10 g1
  replace g2 := keepB hc10 g2
  replace g3 := keepB hc10 g3
  replace n0 := keepB hc10 n0
  replace n1 := keepB hc10 n1
  replace n2 := keepB hc10 n2
  replace n3 := keepB hc10 n3
  clear hc10
  obtain ⟨v10, hv10⟩ : ∃ v, w10.alloc (.cells #[.int .i64 m0, .int .i64 m1, .int .i64 m2, .int .i64 m3] 39) = v := ⟨_, rfl⟩
  have ha10 : Below w10.heap.size w10 v10 := by rw [← hv10]; exact (Below.refl _ _).alloc (Nat.le_refl _) _
  replace p0 := keepB ha10 p0
  replace p1 := keepB ha10 p1
  replace p2 := keepB ha10 p2
  replace p3 := keepB ha10 p3
  replace q0 := keepB ha10 q0
  replace q1 := keepB ha10 q1
  replace x0 := keepB ha10 x0
  replace x1 := keepB ha10 x1
  replace x2 := keepB ha10 x2
  replace x3 := keepB ha10 x3
  replace g0 := keepB ha10 g0
  replace g1 := keepB ha10 g1
  replace g2 := keepB ha10 g2
  replace g3 := keepB ha10 g3
  replace n0 := keepB ha10 n0
  replace n1 := keepB ha10 n1
  replace n2 := keepB ha10 n2
  replace n3 := keepB ha10 n3
  have hb10a := hb10.trans (ha10.mono hb10.size)
  have hi10a := hi10.trans (ha10.mono hi10.size)
  clear ha10
  have o0 : v10.cell? ⟨w10.heap.size, 0, none⟩ = some (.int .i64 m0) := by rw [← hv10]; simp
  have o1 : v10.cell? ⟨w10.heap.size, 1, none⟩ = some (.int .i64 m1) := by rw [← hv10]; simp
  have o2 : v10.cell? ⟨w10.heap.size, 2, none⟩ = some (.int .i64 m2) := by rw [← hv10]; simp
  have o3 : v10.cell? ⟨w10.heap.size, 3, none⟩ = some (.int .i64 m3) := by rw [← hv10]; simp
  clear cR rR
  go_wp2_with fail
  clear hv10
  refine (cw _ (tabs_below hT hb10a h2)).mono ?_
  rintro e wa ⟨rfl, hca⟩
  go_wp2
  go_ret
  exact ⟨rfl, hb10a.trans (hca.mono hb10a.size)⟩

theorem linesPlaces_walk (s : ByteArray) (a1 a2 b1 b2 y0 y1 : Int) (w : World) (hT : Lib.Utf8Tabs 1 2 w) :
    Calls Tryd.prog 4 #[.string s, .agg #[.int .i64 a1, .int .i64 a2, .int .i64 b1, .int .i64 b2], .agg #[.int .i64 y0, .int .i64 y1]] w fun e w' => e = .returned (.bool true) ∧ Below w.heap.size w w' := by
  by_cases h : s.size ≤ 2000
  · cases hv : validS s
    · exact places_none s a1 a2 b1 b2 y0 y1 w hT h hv
    · exact places_main s a1 a2 b1 b2 y0 y1 w hT h hv
  · exact places_long s a1 a2 b1 b2 y0 y1 w hT (by omega)
end Go.Proofs.YtfhkahnajjbohaaDoor
