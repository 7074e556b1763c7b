/-
  Int.
-/
import Derived.Test.YtgcpgieojckheaaGreatDoorN
namespace Go.Proofs.YtgcpgieojckheaaGreatDoor
open Go.RowKit Go.Shelf

theorem repeat_any (c : Nat) (w : World) (hc : c ≤ 10000) :
    Calls Tryz.prog 50 #[.string ⟨#[48]⟩, .int .i64 c] w fun e w' => e = .returned (bl (List.replicate c 48)) ∧ Below w.heap.size w w' := by
  refine (Tryz.strings_Repeat ⟨#[48]⟩ c w (by omega) (by show 1 * c ≤ _; omega)).mono ?_
  rintro e w' ⟨rfl, hb⟩
  have : Lib.repeatL (⟨#[48]⟩ : ByteArray).data.toList c = List.replicate c 48 := by
    have := Lib.repeatL_replicate 48 1 c
    simpa using this
  rw [this]
  exact ⟨rfl, hb⟩
theorem parse_ok (s : ByteArray) (v : Int) (w : World) (hs : s.size ≤ 1000000) (h : Lib.parseIntB 64 s.data.toList = .ok v) :
    Calls Tryz.prog 48 #[.string s, .int .i64 10, .int .i64 64] w fun e w' => e = .returned (.tuple #[.int .i64 v, .nilIface]) ∧ Below w.heap.size w w' := by
  refine (Tryz.strconv_ParseInt_10_at64_ok s (by omega) v h w).mono ?_
  rintro e w' ⟨rfl, hw⟩
  refine ⟨rfl, ?_⟩
  rcases hw with rfl | ⟨t, rfl⟩
  · exact Below.refl _ _
  · exact Go.Joins.below_bytesWorld _ _ _ _ (Nat.le_refl _)
def RangeEnd (w : World) (e : Ending) (w' : World) : Prop := ∃ N x, e = .returned (.tuple #[.int .i64 x, .iface 143 (.pointer (some ⟨N, 0, none⟩))]) ∧ Below w.heap.size w w'
theorem parse_range (s : ByteArray) (w : World) (ht : Tab w) (hs : s.size ≤ 1000000) (h : Lib.parseIntB 64 s.data.toList = .range) :
    Calls Tryz.prog 48 #[.string s, .int .i64 10, .int .i64 64] w (RangeEnd w) := by
  obtain ⟨_, ev, hv, hev⟩ := ht
  refine (Tryz.strconv_ParseInt_10_at64_range s (by omega) h ev w hv hev).mono ?_
  rintro e w' ⟨N, rfl, _, _, hb⟩
  exact ⟨N, _, rfl, hb⟩
def IntEnd (l : List UInt8) (w : World) (e : Ending) (w' : World) : Prop := e = .returned (.tuple #[.int .i64 (intR l).1, .int .i64 (intR l).2]) ∧ Below w.heap.size w w'
set_option maxHeartbeats 2000000 in
theorem int_any (s : ByteArray) (w : World) (ht : Tab w) (hs : s.size ≤ 1000000000) : Calls Tryz.prog 18 #[.string s] w (IntEnd s.data.toList w) := by
  have hr := read_any s w hs
  generalize s.data.toList = l at *
  by_cases h0 : (readR l).2 = 0
  · obtain ⟨hc, hl⟩ := canon_read l
    have ho : intR l = if (readR l).1.exp < 0 then (0, 1) else if fits64 (worth (readR l).1) then (worth (readR l).1, 0) else (0, 64) := by unfold intR; rw [if_neg (by simpa using h0)]
    unfold ReadEnd at hr
    rw [readV_ok h0, h0] at hr
    generalize (readR l).1 = n at *
    obtain ⟨T, eT, hV⟩ := numV_eq n
    rw [hV] at hr
    by_cases hx : n.exp < 0
    · rw [if_pos hx] at ho
      have HO := Lib.hid ho
      clear hc hl ho h0 eT hV
      go_enter Tryz.func18, Tryz.ntmps18
      go_wp2_with fail
      refine hr.mono ?_
      rintro e w1 ⟨rfl, hb⟩
      have HB := Lib.hid hb
      clear hb hr
      go_wp2
      go_ret2
      exact ⟨by rw [HO.out]; rfl, galloc HB.out _⟩
    · rw [if_neg hx] at ho
      have hxl := digits_len hl
      obtain ⟨c, hcx⟩ : ∃ c : Nat, n.exp = (c : Int) := ⟨n.exp.toNat, by omega⟩
      have hz : T.size ≤ 1000000000 := by rw [Lib.size_eq, eT]; have := textD_len hl; omega
      have hi := fun W => integer_any n.neg T n.exp W hz
      obtain ⟨S, hS⟩ : ∃ s : ByteArray, (⟨(sgn n.neg ++ T.data.toList).toArray⟩ : ByteArray) = s := ⟨_, rfl⟩
      have eS : S.data.toList = wholeForm n := by rw [← hS, wholeForm_eq hc, eT]
      have zS : S.size ≤ 201 := by rw [Lib.size_eq, eS, wholeForm_eq hc]; have := textD_len hl; unfold sgn; split <;> simp <;> omega
      obtain ⟨Z, hZ⟩ : ∃ s : ByteArray, (⟨(List.replicate c 48).toArray⟩ : ByteArray) = s := ⟨_, rfl⟩
      have eZ : Z.data.toList = List.replicate c 48 := by rw [← hZ]
      have zZ : Z.size ≤ 10000 := by rw [Lib.size_eq, eZ, List.length_replicate]; omega
      have hp := fun W => repeat_any c W (by omega)
      unfold bl at hi hp
      rw [hS] at hi
      rw [hZ] at hp
      have eSZ : (S ++ Z).data.toList = wholeForm n ++ List.replicate n.exp.toNat 48 := by rw [app_list, eS, eZ, hcx]; rfl
      have zSZ : (S ++ Z).size ≤ 1000000 := by rw [Lib.size_eq, app_list, List.length_append, ← Lib.size_eq, ← Lib.size_eq]; omega
      have hw := parseInt_worth n hc (by omega)
      rw [← eSZ] at hw
      have za : ¬ 9223372036854775807 < S.size + Z.size := by omega
      rw [hcx] at hi hr
      have hcn : ¬ ((c : Int) < 0) := by omega
      have hcd : decide ((c : Int) < 0) = false := decide_eq_false hcn
      by_cases hf : fits64 (worth n) = true
      · rw [if_pos hf] at ho hw
        have cp := fun W => parse_ok (S ++ Z) (worth n) W zSZ hw
        have HO := Lib.hid ho
        generalize worth n = V at *
        generalize n.neg = ng at *
        clear hc hl ho h0 eT hV hx hxl hS eS hZ eZ eSZ zSZ hw hf hcx hz
        go_enter Tryz.func18, Tryz.ntmps18
        go_wp2_with fail
        refine hr.mono ?_
        rintro e w1 ⟨rfl, hb⟩
        have HB := Lib.hid (galloc hb (.cells #[.bool ng, .string T, .int .i64 c] 68))
        have k := World.alloc_heap_new w1 (.cells #[.bool ng, .string T, .int .i64 c] 68)
        have hzz : w1.heap.size < (w1.alloc (.cells #[.bool ng, .string T, .int .i64 c] 68)).heap.size := by simp
        clear hb hr
        go_wp2
        generalize w1.alloc (.cells #[.bool ng, .string T, .int .i64 c] 68) = W0 at *
        obtain ⟨k0, k1, k2, _⟩ := cells3 k
        clear k
        go_region_held3 (fun u => u.cell? ⟨w1.heap.size, 0, none⟩ = some (.bool ng) ∧ u.cell? ⟨w1.heap.size, 1, none⟩ = some (.string T) ∧ u.cell? ⟨w1.heap.size, 2, none⟩ = some (.int .i64 c)) (first | exact ⟨k0, k1, k2⟩ | (with_reducible exact ⟨j0, j1, j2⟩) | (with_reducible exact ⟨i0, i1, i2⟩) | (with_reducible exact ⟨l0, l1, l2⟩) | go_keep) (first | (go_at_call 49; (with_reducible refine Calls.mono (hi _) ?_); rintro e v1 ⟨rfl, hb1⟩; have gg1 : Below w.heap.size w v1 := gcall HB.out.drew hb1; have j0 := (hb1.cell (p := ⟨w1.heap.size, 0, none⟩) hzz).trans k0; have j1 := (hb1.cell (p := ⟨w1.heap.size, 1, none⟩) hzz).trans k1; have j2 := (hb1.cell (p := ⟨w1.heap.size, 2, none⟩) hzz).trans k2; have hlt1 : w1.heap.size < v1.heap.size := World.block_lt_of_cell? v1 _ j0) | (go_at_call 50; (with_reducible refine Calls.mono (hp _) ?_); rintro e v2 ⟨rfl, hb2⟩; have gg2 : Below w.heap.size w v2 := gcall gg1 hb2; have i0 := (hb2.cell (p := ⟨w1.heap.size, 0, none⟩) hlt1).trans j0; have i1 := (hb2.cell (p := ⟨w1.heap.size, 1, none⟩) hlt1).trans j1; have i2 := (hb2.cell (p := ⟨w1.heap.size, 2, none⟩) hlt1).trans j2; have hlt2 : w1.heap.size < v2.heap.size := World.block_lt_of_cell? v2 _ i0) | (go_at_call 48; (with_reducible refine Calls.mono (cp _) ?_); rintro e v3 ⟨rfl, hb3⟩; have gg3 : Below w.heap.size w v3 := gcall gg2 hb3; have l0 := (hb3.cell (p := ⟨w1.heap.size, 0, none⟩) hlt2).trans i0; have l1 := (hb3.cell (p := ⟨w1.heap.size, 1, none⟩) hlt2).trans i1; have l2 := (hb3.cell (p := ⟨w1.heap.size, 2, none⟩) hlt2).trans i2))
        have HG := Lib.hid gg3
        clear gg1 gg2 gg3 hb1 hb2 hb3 j0 j1 j2 i0 i1 i2 l0 l1 l2 k0 k1 k2 hi hp cp
        go_wp2
        go_ret2
        exact ⟨by rw [HO.out]; rfl, HG.out⟩
      · rw [if_neg hf] at ho hw
        have cp := fun W (hW : Below w.heap.size w W) => parse_range (S ++ Z) W (ht.below hW) zSZ hw
        have HO := Lib.hid ho
        generalize worth n = V at *
        generalize n.neg = ng at *
        clear hc hl ho h0 eT hV hx hxl hS eS hZ eZ eSZ zSZ hw hf hcx hz
        go_enter Tryz.func18, Tryz.ntmps18
        go_wp2_with fail
        refine hr.mono ?_
        rintro e w1 ⟨rfl, hb⟩
        have HB := Lib.hid (galloc hb (.cells #[.bool ng, .string T, .int .i64 c] 68))
        have k := World.alloc_heap_new w1 (.cells #[.bool ng, .string T, .int .i64 c] 68)
        have hzz : w1.heap.size < (w1.alloc (.cells #[.bool ng, .string T, .int .i64 c] 68)).heap.size := by simp
        clear hb hr
        go_wp2
        generalize w1.alloc (.cells #[.bool ng, .string T, .int .i64 c] 68) = W0 at *
        obtain ⟨k0, k1, k2, _⟩ := cells3 k
        clear k
        go_region_held3 (fun u => u.cell? ⟨w1.heap.size, 0, none⟩ = some (.bool ng) ∧ u.cell? ⟨w1.heap.size, 1, none⟩ = some (.string T) ∧ u.cell? ⟨w1.heap.size, 2, none⟩ = some (.int .i64 c)) (first | exact ⟨k0, k1, k2⟩ | (with_reducible exact ⟨j0, j1, j2⟩) | (with_reducible exact ⟨i0, i1, i2⟩) | (with_reducible exact ⟨l0, l1, l2⟩) | go_keep) (first | (go_at_call 49; (with_reducible refine Calls.mono (hi _) ?_); rintro e v1 ⟨rfl, hb1⟩; have gg1 : Below w.heap.size w v1 := gcall HB.out.drew hb1; have j0 := (hb1.cell (p := ⟨w1.heap.size, 0, none⟩) hzz).trans k0; have j1 := (hb1.cell (p := ⟨w1.heap.size, 1, none⟩) hzz).trans k1; have j2 := (hb1.cell (p := ⟨w1.heap.size, 2, none⟩) hzz).trans k2; have hlt1 : w1.heap.size < v1.heap.size := World.block_lt_of_cell? v1 _ j0) | (go_at_call 50; (with_reducible refine Calls.mono (hp _) ?_); rintro e v2 ⟨rfl, hb2⟩; have gg2 : Below w.heap.size w v2 := gcall gg1 hb2; have i0 := (hb2.cell (p := ⟨w1.heap.size, 0, none⟩) hlt1).trans j0; have i1 := (hb2.cell (p := ⟨w1.heap.size, 1, none⟩) hlt1).trans j1; have i2 := (hb2.cell (p := ⟨w1.heap.size, 2, none⟩) hlt1).trans j2; have hlt2 : w1.heap.size < v2.heap.size := World.block_lt_of_cell? v2 _ i0) | (go_at_call 48; (with_reducible refine Calls.mono (cp _ gg2) ?_); rintro e v3 ⟨NN, xx, rfl, hb3⟩; have gg3 : Below w.heap.size w v3 := gcall gg2 hb3; have l0 := (hb3.cell (p := ⟨w1.heap.size, 0, none⟩) hlt2).trans i0; have l1 := (hb3.cell (p := ⟨w1.heap.size, 1, none⟩) hlt2).trans i1; have l2 := (hb3.cell (p := ⟨w1.heap.size, 2, none⟩) hlt2).trans i2))
        have HG := Lib.hid gg3
        clear gg1 gg2 gg3 hb1 hb2 hb3 j0 j1 j2 i0 i1 i2 l0 l1 l2 k0 k1 k2 hi hp cp
        go_wp2
        go_ret2
        exact ⟨by rw [HO.out]; rfl, HG.out⟩
  · have ho : intR l = (0, (readR l).2) := by unfold intR; rw [if_pos h0]
    unfold ReadEnd at hr
    rw [readV_bad h0] at hr
    generalize (readR l).2 = E at *
    have h1 : (E == 0) = false := by simpa using h0
    have h2 : (E != 0) = true := by simpa using h0
    have HO := Lib.hid ho
    clear ho h0
    go_enter Tryz.func18, Tryz.ntmps18
    go_wp2_with fail
    refine hr.mono ?_
    rintro e w1 ⟨rfl, hb⟩
    have HB := Lib.hid hb
    clear hb hr
    go_wp2
    go_ret2
    exact ⟨by rw [HO.out]; rfl, galloc HB.out _⟩
end Go.Proofs.YtgcpgieojckheaaGreatDoor
