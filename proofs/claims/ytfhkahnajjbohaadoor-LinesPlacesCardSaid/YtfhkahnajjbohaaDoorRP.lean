/-
  The reference: Offset at a valid text; Pos.
-/
import Derived.Test.YtfhkahnajjbohaaDoorRO
import Derived.Test.YtfhkahnajjbohaaDoorRG
namespace Go.Proofs.YtfhkahnajjbohaaDoor
open Go.RowKit Go.Shelf

theorem roff_good (s : ByteArray) (w : World) (hv : validS s = true) (hs : s.size ≤ 65536) (l c : Int) (k : Nat) (hk : OffAt s l c k) :
    Calls Tryd.prog 16 #[.string s, .agg #[.int .i64 l, .int .i64 c]] w fun e w' => e = .returned (.tuple #[.int .i64 k, .int .i64 0]) ∧ Below w.heap.size w w' := by
  obtain ⟨n, x, d, rfl, hx, hw, hk2, rfl⟩ := hk
  obtain ⟨_, _, ⟨e, he⟩, _⟩ := line_ways hv hx
  exact roff_line s n d x w hs hx e he (fun r => r = .returned (.tuple #[.int .i64 k, .int .i64 0])) (fun j hj _ => by rw [hj.same hw]) fun h => absurd hw (h k hk2)
theorem roff_bad (s : ByteArray) (w : World) (hv : validS s = true) (hs : s.size ≤ 65536) (l c : Int) (hk : ∀ k, ¬ OffAt s l c k) :
    Calls Tryd.prog 16 #[.string s, .agg #[.int .i64 l, .int .i64 c]] w fun e w' => e = .returned (.tuple #[.int .i64 0, .int .i64 60]) ∧ Below w.heap.size w w' := by
  by_cases h : l < 0 ∨ ((linesB s).length : Int) ≤ l ∨ c < 0
  · exact roff_low s l c w hs h
  · obtain ⟨n, rfl⟩ : ∃ n : Nat, l = n := ⟨l.toNat, by omega⟩
    obtain ⟨d, rfl⟩ : ∃ d : Nat, c = d := ⟨c.toNat, by omega⟩
    obtain ⟨x, hx⟩ : ∃ x, (linesB s)[n]? = some x := ⟨_, List.getElem?_eq_getElem (by omega)⟩
    obtain ⟨_, _, ⟨e, he⟩, _⟩ := line_ways hv hx
    exact roff_line s n d x w hs hx e he (fun r => r = .returned (.tuple #[.int .i64 0, .int .i64 60])) (fun j hj hle => absurd ⟨n, x, d, rfl, hx, hj, hle, rfl⟩ (hk j)) fun _ => rfl

set_option maxRecDepth 100000 in
set_option maxHeartbeats 2000000 in
theorem rpos_bad (s : ByteArray) (k : Int) (w : World) (hv : validS s = true) (hs : s.size ≤ 65536) (hp : PosBad s k) :
    Calls Tryd.prog 18 #[.string s, .int .i64 k] w fun e w' => e = .returned (.tuple #[.agg #[.int .i64 0, .int .i64 0], .int .i64 1]) ∧ Below w.heap.size w w' := by
  rcases (by rcases hp with h | h | h
             · exact .inl h
             · exact .inr (.inl ⟨by omega, h⟩)
             · exact .inr (.inr h) : k < 0 ∨ (0 ≤ k ∧ (s.size : Int) < k) ∨ ∃ j : Nat, k = j ∧ j ≤ s.size ∧ inB s j = true) with h | ⟨h0, h⟩ | ⟨j, rfl, hj, hin⟩
  · go_enter Tryd.func18, Tryd.ntmps18
    go_wp2
    refine bodyPost_ret (v := .tuple #[.agg #[.int .i64 0, .int .i64 0], .int .i64 1]) (by simp [results, Tryd.f18, go_sem]) rfl ⟨rfl, ?_⟩
    exact (Below.refl _ _).alloc (Nat.le_refl _) _
  · go_enter Tryd.func18, Tryd.ntmps18
    go_wp2
    refine bodyPost_ret (v := .tuple #[.agg #[.int .i64 0, .int .i64 0], .int .i64 1]) (by simp [results, Tryd.f18, go_sem]) rfl ⟨rfl, ?_⟩
    exact (Below.refl _ _).alloc (Nat.le_refl _) _
  · have ce := fun w => redge_ok s j w (by omega) hv hj
    simp only [hin, Bool.not_true] at ce
    clear hin hv
    go_enter Tryd.func18, Tryd.ntmps18
    go_wp2_with fail
    refine (ce _).mono ?_
    rintro e w1 ⟨rfl, rfl⟩
    go_wp2
    refine bodyPost_ret (v := .tuple #[.agg #[.int .i64 0, .int .i64 0], .int .i64 1]) (by simp [results, Tryd.f18, go_sem]) rfl ⟨rfl, ?_⟩
    exact (Below.refl _ _).alloc (Nat.le_refl _) _

theorem rlines_far (s : ByteArray) (w : World) (hs : s.size ≤ 65536) :
    Calls Tryd.prog 12 #[.string s] w fun e w' => ∃ g cap, e = .returned (.slice (some ⟨g, 0, none⟩) (linesB s).length cap) ∧ w.heap.size ≤ g ∧ (linesB s).length ≤ cap ∧ Sl w' g (linesB s) ∧ Below w.heap.size w w' :=
  (rlines_any s w hs).mono fun _ _ ⟨v, he, ho, hb⟩ => by
    obtain ⟨g, cap, rfl, hc, hS⟩ := own_sl ho (linesB_pos s)
    rcases ho.2 with ⟨h0, _⟩ | ⟨g', cap', cur, h0, hg, _⟩
    · cases h0
    · cases h0
      exact ⟨g, cap, he, hg, hc, hS, hb⟩

set_option maxRecDepth 100000 in
set_option maxHeartbeats 4000000 in
theorem rpos_good (s : ByteArray) (w : World) (hv : validS s = true) (hs : s.size ≤ 65536) (k i u : Nat) (hp : PosAt s k i u) :
    Calls Tryd.prog 18 #[.string s, .int .i64 k] w fun e w' => e = .returned (.tuple #[.agg #[.int .i64 i, .int .i64 u], .int .i64 0]) ∧ Below w.heap.size w w' := by
  obtain ⟨hk, hin, x, hx, hle, hnx, hw⟩ := hp
  obtain ⟨_, h3, h4, _⟩ := (linesB_ls s).get i x hx
  have hi : i < (linesB s).length := (List.getElem?_eq_some_iff.1 hx).1
  have hlen := linesB_len s
  have hm2 : min k x.2 ≤ s.size := by omega
  have ce := fun w => redge_ok s k w (by omega) hv hk
  simp only [hin, Bool.not_false] at ce
  have cl := fun w => rlines_far s w hs
  have hw' := way_in hm2 (Nat.le_refl _) hw
  have cu := fun w => (runits_ok (s.extract x.1 (min k x.2)) u w (by simp; omega) (by rw [size_ex s _ _ hm2]; exact hw')).mono fun e w' (h : e = .returned (.int .i64 u) ∧ w = w') => (show e = .returned (.int .i64 u) ∧ Below w.heap.size w w' from ⟨h.1, by rw [← h.2]; exact Below.refl _ _⟩)
  have HX := Lib.hid hx
  have HNX : Hid (∀ y : Nat × Nat, (linesB s)[i + 1]? = some y → k < y.1) := Lib.hid hnx
  have HR := Lib.hid (linesB_ls s).rising
  clear hv hin hx hnx hw hw'
  have hb0 : Below w.heap.size w (w.alloc (.cells #[.int .i64 0, .int .i64 0] 37)) := (Below.refl _ _).alloc (Nat.le_refl _) _
  have hb0z : w.heap.size < (w.alloc (.cells #[.int .i64 0, .int .i64 0] 37)).heap.size := by simp
  generalize linesB s = ls at *
  go_enter Tryd.func18, Tryd.ntmps18
  go_wp2_with fail
  generalize hW0 : w.alloc (.cells #[.int .i64 0, .int .i64 0] 37) = W0 at *
  have r0 : W0.cell? ⟨w.heap.size, 0, none⟩ = some (.int .i64 0) := by rw [← hW0]; simp
  have r1 : W0.cell? ⟨w.heap.size, 1, none⟩ = some (.int .i64 0) := by rw [← hW0]; simp
  have f0 : W0.frozen? ⟨w.heap.size, 0, none⟩ = false := by rw [← hW0]; simp
  have f1 : W0.frozen? ⟨w.heap.size, 1, none⟩ = false := by rw [← hW0]; simp
  clear hW0
  refine (ce _).mono ?_
  rintro e w1 ⟨rfl, rfl⟩
  clear ce
  go_wp2_with fail
  refine Calls.mono (cl _) ?_
  rintro e w1 ⟨g, cap, rfl, hgb, hcap, hS, hb1⟩
  have hB1 := hb0.trans (hb1.mono hb0.size)
  replace r0 := keepB hb1 r0
  replace r1 := keepB hb1 r1
  replace f0 := keepF hb1 hb0z f0
  replace f1 := keepF hb1 hb0z f1
  have HS := Lib.hid hS
  clear hb1 cl hS
  generalize hnl : ls.length = nl at *
  have HNL := Lib.hid hnl
  clear hnl
  go_wp2
  go_loop [7] (fun t => ∃ m : Nat, t = .int .i64 m ∧ m ≤ i) (fun t => i - (intOf t).toNat)
  case atStart => exact ⟨0, rfl, by omega⟩
  case round =>
    obtain ⟨m, rfl, hm⟩ := hrel
    by_cases hmi : m < i
    · obtain ⟨y, hy⟩ : ∃ y, ls[m + 1]? = some y := ⟨_, List.getElem?_eq_getElem (by rw [HNL.out]; omega)⟩
      obtain ⟨s0, _⟩ := HS.out.2 (m + 1) y hy
      have hyk : (y.1 : Int) ≤ k := by have := HR.out (m + 1) i y x (by omega) hy HX.out; omega
      clear hy
      go_wp2
      go_round
      case rel => exact ⟨m + 1, by go_num, by omega⟩
      case measure => simp [intOf]; omega
    · obtain rfl : m = i := by omega
      obtain ⟨x0, x1⟩ := HS.out.2 m x HX.out
      have hgz := HS.out.1
      have hz1 : w.heap.size < w1.heap.size := World.block_lt_of_cell? w1 ⟨w.heap.size, 0, none⟩ r0
      have hmn : min (k : Int) (x.2 : Int) = ((min k x.2 : Nat) : Int) := by omega
      have hm1 : x.1 ≤ min k x.2 := by omega
      have ngw : w.heap.size ≠ g := by
        intro e
        subst e
        exact absurd (Nat.lt_of_lt_of_le hb0z hgb) (Nat.lt_irrefl _)
      generalize min k x.2 = q at *
      by_cases hnl2 : m + 1 < nl
      · obtain ⟨y, hy⟩ : ∃ y, ls[m + 1]? = some y := ⟨_, List.getElem?_eq_getElem (by rw [HNL.out]; omega)⟩
        obtain ⟨s0, _⟩ := HS.out.2 (m + 1) y hy
        have hyk : (k : Int) < y.1 := by have := HNX.out y hy; omega
        clear hy
        go_wp2
        go_region_held3 (fun v => v.cell? ⟨g, m * 2, none⟩ = some (.int .i64 x.1) ∧ v.cell? ⟨g, m * 2 + 1, none⟩ = some (.int .i64 x.2)) (first | exact ⟨x0, x1⟩ | exact ⟨e0, e1⟩ | go_keep) (first | (go_at_call 33; refine (cu _).mono ?_; rintro e w3 ⟨rfl, hb3⟩; have e0 : w3.cell? ⟨g, m * 2, none⟩ = some (.int .i64 x.1) := (hb3.cell (p := ⟨g, m * 2, none⟩) hgz).trans x0; have e1 : w3.cell? ⟨g, m * 2 + 1, none⟩ = some (.int .i64 x.2) := (hb3.cell (p := ⟨g, m * 2 + 1, none⟩) hgz).trans x1; have e2 : w3.cell? ⟨w.heap.size, 0, none⟩ = some (.int .i64 0) := (hb3.cell (p := ⟨w.heap.size, 0, none⟩) hz1).trans r0; have e3 : w3.cell? ⟨w.heap.size, 1, none⟩ = some (.int .i64 0) := (hb3.cell (p := ⟨w.heap.size, 1, none⟩) hz1).trans r1; have e4 : w3.frozen? ⟨w.heap.size, 0, none⟩ = false := (hb3.frozen (p := ⟨w.heap.size, 0, none⟩) hz1).trans f0; have e5 : w3.frozen? ⟨w.heap.size, 1, none⟩ = false := (hb3.frozen (p := ⟨w.heap.size, 1, none⟩) hz1).trans f1))
        clear cu
        obtain ⟨t0, t1⟩ := put_two (.int .i64 m) (.int .i64 u) e2 e3
        have hBe : Below w.heap.size w ((w3.setCell ⟨w.heap.size, 0, none⟩ (.int .i64 m)).setCell ⟨w.heap.size, 1, none⟩ (.int .i64 u)) :=
          ((hB1.drew.trans (hb3.mono hB1.size)).setCell (p := ⟨w.heap.size, 0, none⟩) (Nat.le_refl _) _).setCell (p := ⟨w.heap.size, 1, none⟩) (Nat.le_refl _) _
        generalize (w3.setCell ⟨w.heap.size, 0, none⟩ (.int .i64 m)).setCell ⟨w.heap.size, 1, none⟩ (.int .i64 u) = W4 at *
        go_wp2
        refine bodyPost_ret (v := .tuple #[.agg #[.int .i64 m, .int .i64 u], .int .i64 0]) (by simp [results, Tryd.f18, go_sem, t0, t1]) rfl ⟨rfl, hBe⟩
      · go_wp2
        go_region_held3 (fun v => v.cell? ⟨g, m * 2, none⟩ = some (.int .i64 x.1) ∧ v.cell? ⟨g, m * 2 + 1, none⟩ = some (.int .i64 x.2)) (first | exact ⟨x0, x1⟩ | exact ⟨e0, e1⟩ | go_keep) (first | (go_at_call 33; refine (cu _).mono ?_; rintro e w3 ⟨rfl, hb3⟩; have e0 : w3.cell? ⟨g, m * 2, none⟩ = some (.int .i64 x.1) := (hb3.cell (p := ⟨g, m * 2, none⟩) hgz).trans x0; have e1 : w3.cell? ⟨g, m * 2 + 1, none⟩ = some (.int .i64 x.2) := (hb3.cell (p := ⟨g, m * 2 + 1, none⟩) hgz).trans x1; have e2 : w3.cell? ⟨w.heap.size, 0, none⟩ = some (.int .i64 0) := (hb3.cell (p := ⟨w.heap.size, 0, none⟩) hz1).trans r0; have e3 : w3.cell? ⟨w.heap.size, 1, none⟩ = some (.int .i64 0) := (hb3.cell (p := ⟨w.heap.size, 1, none⟩) hz1).trans r1; have e4 : w3.frozen? ⟨w.heap.size, 0, none⟩ = false := (hb3.frozen (p := ⟨w.heap.size, 0, none⟩) hz1).trans f0; have e5 : w3.frozen? ⟨w.heap.size, 1, none⟩ = false := (hb3.frozen (p := ⟨w.heap.size, 1, none⟩) hz1).trans f1))
        clear cu
        obtain ⟨t0, t1⟩ := put_two (.int .i64 m) (.int .i64 u) e2 e3
        have hBe : Below w.heap.size w ((w3.setCell ⟨w.heap.size, 0, none⟩ (.int .i64 m)).setCell ⟨w.heap.size, 1, none⟩ (.int .i64 u)) :=
          ((hB1.drew.trans (hb3.mono hB1.size)).setCell (p := ⟨w.heap.size, 0, none⟩) (Nat.le_refl _) _).setCell (p := ⟨w.heap.size, 1, none⟩) (Nat.le_refl _) _
        generalize (w3.setCell ⟨w.heap.size, 0, none⟩ (.int .i64 m)).setCell ⟨w.heap.size, 1, none⟩ (.int .i64 u) = W4 at *
        go_wp2
        refine bodyPost_ret (v := .tuple #[.agg #[.int .i64 m, .int .i64 u], .int .i64 0]) (by simp [results, Tryd.f18, go_sem, t0, t1]) rfl ⟨rfl, hBe⟩
end Go.Proofs.YtfhkahnajjbohaaDoor
