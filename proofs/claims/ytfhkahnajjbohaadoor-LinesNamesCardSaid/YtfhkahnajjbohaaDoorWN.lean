/-
  The walk of the law LinesNames.
-/
import Derived.Test.YtfhkahnajjbohaaDoorRG
import Derived.Deep.OwnRows
import Derived.Laws.IdiomStrings
namespace Go.Proofs.YtfhkahnajjbohaaDoor
open Go.RowKit Go.Shelf

def zeros (n : Nat) : ByteArray := ⟨(List.replicate n (0 : UInt8)).toArray⟩
theorem zeros_size (n : Nat) : (zeros n).size = n := by simp [zeros, ByteArray.size]
theorem zeros_get (n j : Nat) (h : j < n) : (zeros n).get! j = 0 := by
  have h1 := get!_data (zeros n) j (by rw [zeros_size]; exact h)
  simp [zeros, h] at h1
  exact h1.symm
theorem zeros_wy (n : Nat) : ∀ (d k : Nat), k + d = n → ∃ c, Wy (zeros n) k n c
  | 0, k, h => by obtain rfl : k = n := by omega
                  exact ⟨0, .stay _⟩
  | d + 1, k, h => by
    obtain ⟨c, hc⟩ := zeros_wy n d (k + 1) (by omega)
    exact ⟨_, .go k 1 1 n c (.inl ⟨rfl, rfl, by rw [zeros_size]; omega, by unfold bt; rw [zeros_get n k (by omega)]; decide⟩) hc⟩
theorem zeros_valid (n : Nat) : validS (zeros n) = true := by
  rw [valid_wy, zeros_size]
  exact zeros_wy n n 0 (by omega)

def tB : ByteArray := ⟨#[13, 13, 10, 10]⟩
theorem tB_valid : validS tB = true := by kernel_rfl
theorem tB_lines : linesB tB = [(0, 0), (1, 1), (3, 3), (4, 4)] := by kernel_rfl
theorem tE_valid : validS ⟨#[]⟩ = true := by kernel_rfl
theorem tE_lines : linesB ⟨#[]⟩ = [(0, 0)] := by kernel_rfl
theorem tB_rising : Rising (linesB tB) := (linesB_ls tB).rising
def LB : List (Nat × Nat) := [(0, 0), (1, 1), (3, 3), (4, 4)]

theorem posB (k : Nat) (h : k = 1 ∨ k = 2) : PosAt tB k 1 0 := by
  refine ⟨by rcases h with rfl | rfl <;> decide, by rcases h with rfl | rfl <;> kernel_rfl, (1, 1), by rw [tB_lines]; rfl, by omega, fun y hy => ?_, ?_⟩
  · rw [tB_lines] at hy
    simp at hy
    subst hy
    omega
  · rw [show min k (1, 1).2 = 1 by show min k 1 = 1; omega]
    exact .stay 1
theorem offB (n : Nat) (x : Nat × Nat) (hx : LB[n]? = some x) : OffAt tB n (0 : Nat) x.1 :=
  ⟨n, x, 0, rfl, by rw [tB_lines]; exact hx, .stay _, by
    have : LB[n]? = (linesB tB)[n]? := by rw [tB_lines]; rfl
    rw [this] at hx
    exact ((linesB_ls tB).get n x hx).2.1, rfl⟩

theorem info5 : (Tryd.prog.info? 5).map (fun i => (i.zero, i.size, i.bytes)) = some (some (.int .u8 0), 1, 1) := by kernel_rfl
theorem make_zeros (n : Nat) (hn : n ≤ 1000000) (w : World) : (Instr.makeSlice 52 (.int .i64 (n : Int)) (.int .i64 (n : Int))).run Tryd.prog w = .ok (.slice (some ⟨w.heap.size, 0, none⟩) n n) (w.alloc (.cells (madeCells #[.int .u8 0] n) 5)) :=
  run_make_row' 52 5 (.int .u8 0) 1 Tryd.underlying52 info5 rfl .i64 .i64 n (by omega) (by omega) w
theorem conv_zeros (n : Nat) (w : World) : (convert 52 9 (.slice (some ⟨w.heap.size, 0, none⟩) n n)).run Tryd.prog (w.alloc (.cells (madeCells #[.int .u8 0] n) 5)) = .ok (.string (zeros n)) (w.alloc (.cells (madeCells #[.int .u8 0] n) 5)) := by
  have h := run_convert_bytes_back (P := Tryd.prog) (w.alloc (.cells (madeCells #[.int .u8 0] n) 5)) 52 9 5 ⟨w.heap.size, 0, none⟩ n (List.replicate n (0 : UInt8)) Tryd.underlying52 Tryd.underlying5 Tryd.underlying9 (fun j hj => by
    have hj' : j < n := by simpa using hj
    have hadd : (⟨w.heap.size, 0, none⟩ : Addr).add j = ⟨w.heap.size, j, none⟩ := by unfold Addr.add; split <;> simp_all
    rw [hadd, cell_of_row _ w.heap.size j _ 5 (0, 0) (World.alloc_heap_new w _)]
    simp [madeCells, hj', Nat.mod_one])
  rw [List.length_replicate] at h
  exact h

theorem nb_line (W : World) (b : Nat) (h : Ix W b tB LB) : Calls Tryd.prog 14 #[.pointer (some ⟨b, 0, none⟩), .int .i64 3] W fun e w' => e = .returned (.tuple #[.agg #[.int .i64 4, .int .i64 4], .int .i64 0]) ∧ Below W.heap.size W w' :=
  line_ok b tB LB W h 3 (4, 4) rfl
theorem LBe : LB = linesB tB := tB_lines.symm
theorem nb_pos2 (W : World) (b : Nat) (h : Ix W b tB LB) : Calls Tryd.prog 17 #[.pointer (some ⟨b, 0, none⟩), .int .i64 2] W fun e w' => e = .returned (.tuple #[.agg #[.int .i64 1, .int .i64 0], .int .i64 0]) ∧ Below W.heap.size W w' :=
  pos_good b tB W (by rw [← LBe]; exact h) (by decide) 2 1 0 (posB 2 (.inr rfl))
theorem nb_pos1 (W : World) (b : Nat) (h : Ix W b tB LB) : Calls Tryd.prog 17 #[.pointer (some ⟨b, 0, none⟩), .int .i64 1] W fun e w' => e = .returned (.tuple #[.agg #[.int .i64 1, .int .i64 0], .int .i64 0]) ∧ Below W.heap.size W w' :=
  pos_good b tB W (by rw [← LBe]; exact h) (by decide) 1 1 0 (posB 1 (.inl rfl))
theorem nb_off1 (W : World) (b : Nat) (h : Ix W b tB LB) : Calls Tryd.prog 15 #[.pointer (some ⟨b, 0, none⟩), .agg #[.int .i64 1, .int .i64 0]] W fun e w' => e = .returned (.tuple #[.int .i64 1, .int .i64 0]) ∧ Below W.heap.size W w' :=
  off_good b tB W (by rw [← LBe]; exact h) tB_valid (by decide) 1 0 1 (offB 1 (1, 1) rfl)
theorem nb_off2 (W : World) (b : Nat) (h : Ix W b tB LB) : Calls Tryd.prog 15 #[.pointer (some ⟨b, 0, none⟩), .agg #[.int .i64 2, .int .i64 0]] W fun e w' => e = .returned (.tuple #[.int .i64 3, .int .i64 0]) ∧ Below W.heap.size W w' :=
  off_good b tB W (by rw [← LBe]; exact h) tB_valid (by decide) 2 0 3 (offB 2 (3, 3) rfl)
theorem nb_span (W : World) (b : Nat) (h : Ix W b tB LB) : Calls Tryd.prog 19 #[.pointer (some ⟨b, 0, none⟩), .agg #[.int .i64 2, .int .i64 0, .int .i64 1, .int .i64 0]] W fun e w' => e = .returned (.tuple #[.agg #[.int .i64 0, .int .i64 0], .int .i64 60]) ∧ Below W.heap.size W w' :=
  span_rev (some ⟨b, 0, none⟩) 2 0 1 0 3 1 W (fun V hV => nb_off2 V b (h.below (Nat.le_refl _) hV)) (fun V hV => nb_off1 V b (h.below (Nat.le_refl _) hV)) (by omega)
theorem nb_range (W : World) (b : Nat) (h : Ix W b tB LB) : Calls Tryd.prog 21 #[.pointer (some ⟨b, 0, none⟩), .agg #[.int .i64 2, .int .i64 1]] W fun e w' => e = .returned (.tuple #[.agg #[.int .i64 0, .int .i64 0, .int .i64 0, .int .i64 0], .int .i64 1]) ∧ Below W.heap.size W w' :=
  range_rev (some ⟨b, 0, none⟩) 2 1 1 0 1 0 W (fun V hV => nb_pos2 V b (h.below (Nat.le_refl _) hV)) (fun V hV => nb_pos1 V b (h.below (Nat.le_refl _) hV)) (by omega)
theorem nb_lines (W : World) (b : Nat) (h : Ix W b tB LB) : Calls Tryd.prog 13 #[.pointer (some ⟨b, 0, none⟩)] W fun e w' => e = .returned (.int .i64 4) ∧ W = w' := lines_any b tB LB W h
theorem ne_lines (W : World) (b : Nat) (h : Ix W b ⟨#[]⟩ [(0, 0)]) : Calls Tryd.prog 13 #[.pointer (some ⟨b, 0, none⟩)] W fun e w' => e = .returned (.int .i64 1) ∧ W = w' := lines_any b ⟨#[]⟩ [(0, 0)] W h

set_option maxRecDepth 100000 in
set_option maxHeartbeats 8000000 in
theorem linesNames_walk (w : World) (hT : Lib.Utf8Tabs 1 2 w) :
    Calls Tryd.prog 5 #[] w fun e w' => e = .returned (.bool true) ∧ Below w.heap.size w w' := by
  have h2 := tabs_size hT
  have cw := awake_any
  have cnE := fun w hT => new_ix ⟨#[]⟩ w (by decide) tE_valid hT
  rw [tE_lines] at cnE
  have cnB := fun w hT => new_ix tB w (by decide) tB_valid hT
  have cmk : ∀ w, (Instr.makeSlice 52 (.int .i64 65536) (.int .i64 65536)).run Tryd.prog w = .ok (.slice (some ⟨w.heap.size, 0, none⟩) 65536 65536) (w.alloc (.cells (madeCells #[.int .u8 0] 65536) 5)) := fun w => make_zeros 65536 (by omega) w
  have cmk2 : ∀ w, (Instr.makeSlice 52 (.int .i64 65537) (.int .i64 65537)).run Tryd.prog w = .ok (.slice (some ⟨w.heap.size, 0, none⟩) 65537 65537) (w.alloc (.cells (madeCells #[.int .u8 0] 65537) 5)) := fun w => make_zeros 65537 (by omega) w
  have ccv := conv_zeros 65536
  have ccv2 := conv_zeros 65537
  have cnZ := fun w hT => new_ix (zeros 65536) w (by rw [zeros_size]; omega) (zeros_valid 65536) hT
  have cnY := fun w => new_big (zeros 65537) w (by rw [zeros_size]; omega) (by rw [zeros_size]; omega)
  generalize zeros 65536 = z1 at *
  generalize zeros 65537 = z2 at *
  generalize madeCells #[.int .u8 0] 65536 = m1 at *
  generalize madeCells #[.int .u8 0] 65537 = m2 at *
  have hb0 := Below.refl w.heap.size w
  go_enter Tryd.func5, Tryd.ntmps5
  go_wp2_with fail
  refine (line_nil 0 _).mono ?_
  rintro e w1 ⟨rfl, hc1⟩
  have hb1 := hb0.trans (hc1.mono hb0.size)
  clear hc1
  go_wp2_with fail
  generalize hv1 : w1.alloc (.cells #[.int .i64 0, .int .i64 0] 32) = v1 at *
  have ha1 : Below w1.heap.size w1 v1 := by rw [← hv1]; exact (Below.refl _ _).alloc (Nat.le_refl _) _
  have hb1a := hb1.trans (ha1.mono hb1.size)
  clear ha1
  clear hv1
  refine (offset_nil 0 0 _).mono ?_
  rintro e w2 ⟨rfl, hc2⟩
  have hb2 := hb1a.trans (hc2.mono hb1a.size)
  clear hc2
  go_wp2_with fail
  refine (pos_nil 0 _).mono ?_
  rintro e w3 ⟨rfl, hc3⟩
  have hb3 := hb2.trans (hc3.mono hb2.size)
  clear hc3
  go_wp2_with fail
  generalize hv3 : w3.alloc (.cells #[.int .i64 0, .int .i64 0] 37) = v3 at *
  have ha3 : Below w3.heap.size w3 v3 := by rw [← hv3]; exact (Below.refl _ _).alloc (Nat.le_refl _) _
  have hb3a := hb3.trans (ha3.mono hb3.size)
  clear ha3
  clear hv3
  refine (span_e1 none 0 0 0 0 0 2 _ (fun W _ => offset_nil 0 0 W) rfl).mono ?_
  rintro e w4 ⟨rfl, hc4⟩
  have hb4 := hb3a.trans (hc4.mono hb3a.size)
  clear hc4
  go_wp2_with fail
  generalize hv4 : w4.alloc (.cells #[.int .i64 0, .int .i64 0] 32) = v4 at *
  have ha4 : Below w4.heap.size w4 v4 := by rw [← hv4]; exact (Below.refl _ _).alloc (Nat.le_refl _) _
  have hb4a := hb4.trans (ha4.mono hb4.size)
  clear ha4
  clear hv4
  refine (range_e1 none 0 0 0 0 2 _ (fun W _ => pos_nil 0 W) rfl).mono ?_
  rintro e w5 ⟨rfl, hc5⟩
  have hb5 := hb4a.trans (hc5.mono hb4a.size)
  clear hc5
  go_wp2_with fail
  generalize hv5 : w5.alloc (.cells #[.int .i64 0, .int .i64 0, .int .i64 0, .int .i64 0] 39) = v5 at *
  have ha5 : Below w5.heap.size w5 v5 := by rw [← hv5]; exact (Below.refl _ _).alloc (Nat.le_refl _) _
  have hb5a := hb5.trans (ha5.mono hb5.size)
  clear ha5
  clear hv5
  refine Calls.mono (cnE _ (tabs_below hT hb5a h2)) ?_
  rintro e w6 ⟨b1, rfl, hI1, hc6⟩
  have hb6 := hb5a.trans (hc6.mono hb5a.size)
  clear hc6
  have HI1 := Lib.hid hI1
  clear hI1 cnE
  have hx0 := Below.refl w6.heap.size w6
  go_wp2_with fail
  generalize hv6 : w6.alloc (.cells m1 5) = v6 at *
  have ha6 : Below w6.heap.size w6 v6 := by rw [← hv6]; exact (Below.refl _ _).alloc (Nat.le_refl _) _
  have hb6a := hb6.trans (ha6.mono hb6.size)
  have hx6a := hx0.trans (ha6.mono hx0.size)
  clear ha6
  clear hv6 cmk ccv
  refine Calls.mono (cnZ _ (tabs_below hT hb6a h2)) ?_
  rintro e w7 ⟨b2, rfl, _, hc7⟩
  have hb7 := hb6a.trans (hc7.mono hb6a.size)
  have hx7 := hx6a.trans (hc7.mono hx6a.size)
  clear hc7
  clear cnZ
  go_wp2_with fail
  generalize hv7 : w7.alloc (.cells m2 5) = v7 at *
  have ha7 : Below w7.heap.size w7 v7 := by rw [← hv7]; exact (Below.refl _ _).alloc (Nat.le_refl _) _
  have hb7a := hb7.trans (ha7.mono hb7.size)
  have hx7a := hx7.trans (ha7.mono hx7.size)
  clear ha7
  clear hv7 cmk2 ccv2
  refine (cnY _).mono ?_
  rintro e w8 ⟨rfl, rfl⟩
  clear cnY
  go_wp2_with fail
  refine Calls.mono (cnB _ (tabs_below hT hb7a h2)) ?_
  rintro e w9 ⟨b3, rfl, hI3, hc9⟩
  have hb9 := hb7a.trans (hc9.mono hb7a.size)
  have hx9 := hx7a.trans (hc9.mono hx7a.size)
  clear hc9
  rw [tB_lines] at hI3
  have HI3 : Hid (Ix w9 b3 tB LB) := Lib.hid hI3
  clear hI3 cnB
  have hi0 := Below.refl w9.heap.size w9
  go_wp2_with fail
  refine (nb_line _ b3 (HI3.out.below (Nat.le_refl _) hi0)).mono ?_
  rintro e w10 ⟨rfl, hc10⟩
  have hb10 := hb9.trans (hc10.mono hb9.size)
  have hx10 := hx9.trans (hc10.mono hx9.size)
  have hi10 := hi0.trans (hc10.mono hi0.size)
  clear hc10
  go_wp2_with fail
  generalize hv10 : w10.alloc (.cells #[.int .i64 4, .int .i64 4] 32) = v10 at *
  have ha10 : Below w10.heap.size w10 v10 := by rw [← hv10]; exact (Below.refl _ _).alloc (Nat.le_refl _) _
  have hb10a := hb10.trans (ha10.mono hb10.size)
  have hx10a := hx10.trans (ha10.mono hx10.size)
  have hi10a := hi10.trans (ha10.mono hi10.size)
  clear ha10
  have l0 : v10.cell? ⟨w10.heap.size, 0, none⟩ = some (.int .i64 4) := by rw [← hv10]; simp
  have l1 : v10.cell? ⟨w10.heap.size, 1, none⟩ = some (.int .i64 4) := by rw [← hv10]; simp
  clear hv10
  refine (nb_pos2 _ b3 (HI3.out.below (Nat.le_refl _) hi10a)).mono ?_
  rintro e w11 ⟨rfl, hc11⟩
  have hb11 := hb10a.trans (hc11.mono hb10a.size)
  have hx11 := hx10a.trans (hc11.mono hx10a.size)
  have hi11 := hi10a.trans (hc11.mono hi10a.size)
  replace l0 := keepB hc11 l0
  replace l1 := keepB hc11 l1
  clear hc11
  go_wp2_with fail
  generalize hv11 : w11.alloc (.cells #[.int .i64 1, .int .i64 0] 37) = v11 at *
  have ha11 : Below w11.heap.size w11 v11 := by rw [← hv11]; exact (Below.refl _ _).alloc (Nat.le_refl _) _
  replace l0 := keepB ha11 l0
  replace l1 := keepB ha11 l1
  have hb11a := hb11.trans (ha11.mono hb11.size)
  have hx11a := hx11.trans (ha11.mono hx11.size)
  have hi11a := hi11.trans (ha11.mono hi11.size)
  clear ha11
  have k0 : v11.cell? ⟨w11.heap.size, 0, none⟩ = some (.int .i64 1) := by rw [← hv11]; simp
  have k1 : v11.cell? ⟨w11.heap.size, 1, none⟩ = some (.int .i64 0) := by rw [← hv11]; simp
  clear hv11
  refine (nb_off1 _ b3 (HI3.out.below (Nat.le_refl _) hi11a)).mono ?_
  rintro e w12 ⟨rfl, hc12⟩
  have hb12 := hb11a.trans (hc12.mono hb11a.size)
  have hx12 := hx11a.trans (hc12.mono hx11a.size)
  have hi12 := hi11a.trans (hc12.mono hi11a.size)
  replace l0 := keepB hc12 l0
  replace l1 := keepB hc12 l1
  replace k0 := keepB hc12 k0
  replace k1 := keepB hc12 k1
  clear hc12
  go_wp2_with fail
  refine (nb_span _ b3 (HI3.out.below (Nat.le_refl _) hi12)).mono ?_
  rintro e w13 ⟨rfl, hc13⟩
  have hb13 := hb12.trans (hc13.mono hb12.size)
  have hx13 := hx12.trans (hc13.mono hx12.size)
  have hi13 := hi12.trans (hc13.mono hi12.size)
  replace l0 := keepB hc13 l0
  replace l1 := keepB hc13 l1
  replace k0 := keepB hc13 k0
  replace k1 := keepB hc13 k1
  clear hc13
  go_wp2_with fail
  generalize hv13 : w13.alloc (.cells #[.int .i64 0, .int .i64 0] 32) = v13 at *
  have ha13 : Below w13.heap.size w13 v13 := by rw [← hv13]; exact (Below.refl _ _).alloc (Nat.le_refl _) _
  replace l0 := keepB ha13 l0
  replace l1 := keepB ha13 l1
  replace k0 := keepB ha13 k0
  replace k1 := keepB ha13 k1
  have hb13a := hb13.trans (ha13.mono hb13.size)
  have hx13a := hx13.trans (ha13.mono hx13.size)
  have hi13a := hi13.trans (ha13.mono hi13.size)
  clear ha13
  clear hv13
  refine (nb_range _ b3 (HI3.out.below (Nat.le_refl _) hi13a)).mono ?_
  rintro e w14 ⟨rfl, hc14⟩
  have hb14 := hb13a.trans (hc14.mono hb13a.size)
  have hx14 := hx13a.trans (hc14.mono hx13a.size)
  have hi14 := hi13a.trans (hc14.mono hi13a.size)
  replace l0 := keepB hc14 l0
  replace l1 := keepB hc14 l1
  replace k0 := keepB hc14 k0
  replace k1 := keepB hc14 k1
  clear hc14
  go_wp2_with fail
  generalize hv14 : w14.alloc (.cells #[.int .i64 0, .int .i64 0, .int .i64 0, .int .i64 0] 39) = v14 at *
  have ha14 : Below w14.heap.size w14 v14 := by rw [← hv14]; exact (Below.refl _ _).alloc (Nat.le_refl _) _
  replace l0 := keepB ha14 l0
  replace l1 := keepB ha14 l1
  replace k0 := keepB ha14 k0
  replace k1 := keepB ha14 k1
  have hb14a := hb14.trans (ha14.mono hb14.size)
  have hx14a := hx14.trans (ha14.mono hx14.size)
  have hi14a := hi14.trans (ha14.mono hi14.size)
  clear ha14
  clear hv14
  refine (lines_nil _).mono ?_
  rintro e wa ⟨rfl, rfl⟩
  go_wp2_with fail
  refine (ne_lines _ b1 (HI1.out.below (Nat.le_refl _) hx14a)).mono ?_
  rintro e wa ⟨rfl, rfl⟩
  go_wp2_with fail
  refine (nb_lines _ b3 (HI3.out.below (Nat.le_refl _) hi14a)).mono ?_
  rintro e wa ⟨rfl, rfl⟩
  go_wp2_with fail
  refine (cw _ (tabs_below hT hb14a h2)).mono ?_
  rintro e wa ⟨rfl, hca⟩
  go_wp2
  go_ret
  exact ⟨rfl, hb14a.trans (hca.mono hb14a.size)⟩
end Go.Proofs.YtfhkahnajjbohaaDoor
