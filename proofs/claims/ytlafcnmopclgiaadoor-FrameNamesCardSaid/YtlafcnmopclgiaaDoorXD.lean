/-
  FrameNames: the examples, the limits, nobody's reader.
-/
import Derived.Test.YtlafcnmopclgiaaDoorXB
namespace Go.Proofs.YtlafcnmopclgiaaDoor
open Go.RowKit Go.Shelf

set_option maxRecDepth 100000 in
set_option maxHeartbeats 4000000 in
theorem frameNames_walk (w : World) (hT : Tab w ∧ 11 ≤ w.heap.size) : Calls Tryd.prog 4 #[] w fun e w' => e = .returned (.bool true) ∧ Below w.heap.size w w' := by
  have cmk : ∀ w, (Instr.makeSlice 31 (.int .i64 262145) (.int .i64 262145)).run Tryd.prog w = .ok (.slice (some ⟨w.heap.size, 0, none⟩) 262145 262145) (w.alloc (.cells (madeCells #[.int .u8 0] 262145) 5)) := fun w => make_zeros 262145 (by omega) w
  have cmk2 : ∀ w, (Instr.makeSlice 31 (.int .i64 262144) (.int .i64 262144)).run Tryd.prog w = .ok (.slice (some ⟨w.heap.size, 0, none⟩) 262144 262144) (w.alloc (.cells (madeCells #[.int .u8 0] 262144) 5)) := fun w => make_zeros 262144 (by omega) w
  have ccv := conv_zeros 262145
  have ccv2 := conv_zeros 262144
  have cw1 := write_over
  have cw2 := write_edge
  obtain ⟨ZL, ZB, hlf, hZL, hZB⟩ : ∃ (ZL : List UInt8) (ZB : ByteArray), (runA .head longF.data.toList).2.1 = [(ZL, 0)] ∧ bl ZL = .string ZB ∧ ZB.size = 262144 := ⟨_, zeros 262144, longF_told, rfl, zeros_size _⟩
  have HZL := Lib.hid hZL
  have HZB := Lib.hid hZB
  clear hZL hZB
  have hlfs : longF.size ≤ 1000000 := by
    have := frame_len2 (List.replicate 262144 0) (by rw [List.length_replicate]; exact Nat.le_refl _)
    rw [Lib.size_eq, longF_list]; exact this
  generalize zeros 262145 = z1 at *
  generalize zeros 262144 = z2 at *
  generalize longF = LF at *
  have HLF := Lib.hid hlf
  clear hlf
  go_enter Tryd.func4, Tryd.ntmps4
  go_wp2_with fail
  refine (feed_nil _ _).mono ?_
  rintro e w1 ⟨rfl, rfl⟩
  go_wp2_with fail
  have gA := fun (wx : World) (n : Nat) => ((Below.refl wx.heap.size wx).alloc (Nat.le_refl _) (.cells (madeCells #[.int .u8 0] n) 5))
  have B1 := Lib.hid (gA w1 262145)
  refine (cw1 _ (hT.1.below B1.out)).mono ?_
  rintro e w2 ⟨rfl, hb2⟩
  have B2 := Lib.hid (gcall B1.out B1.out.size hb2)
  clear hb2 B1
  go_wp2_with fail
  have B3 := Lib.hid (B2.out.trans ((gA w2 262144).mono B2.out.size))
  refine (cw2 _ (hT.1.below B3.out)).mono ?_
  rintro e w4 ⟨rfl, hb4⟩
  have B4 := Lib.hid (gcall B3.out B3.out.size hb4)
  clear hb4 B3 B2 gA cw1 cw2 ccv ccv2 cmk cmk2
  go_upto_region 5 with fail
  go_cut [68, 69, 70] (fun s n i wx => ∃ M, s = .slice (some ⟨M, 0, none⟩) 8 8 ∧ n = .int .i64 8 ∧ i = .int .i64 0 ∧ Hid (Nm M wx) ∧ Hid (Below w4.heap.size w4 wx))
  case first =>
    go_wp2_with fail
    go_meet
    case rel => exact ⟨_, rfl, rfl, rfl, Lib.hid (nm_laid w4), Lib.hid (nm_below w4)⟩
  case rest =>
    obtain ⟨M, rfl, rfl, rfl, HNm, HBc⟩ := hcut
    have B5 := Lib.hid (gcall B4.out B4.out.size HBc.out)
    clear HBc B4
    have hsc := B5.out.size
    go_wp2_with fail
    go_loopw [70] (fun i wr => ∃ k : Nat, i = .int .i64 k ∧ k ≤ 8 ∧ Hid (Below wc.heap.size wc wr)) (fun i _ => 8 - (intOf i).toNat)
    case atStart => exact ⟨0, rfl, Nat.zero_le _, Lib.hid (Below.refl _ _)⟩
    case round =>
      obtain ⟨k, rfl, hk, HB⟩ := hrel
      by_cases hlt : k < 8
      · have hlt' : (k : Int) < 8 := by omega
        obtain ⟨T, E, g, c0, c1, hr, hE, hs, hEl⟩ := HNm.out.below HB.out k hlt
        have hsr := HB.out.size
        have HR := Lib.hid hr
        have HEE := Lib.hid hE
        clear hr hE
        go_wp2_with fail
        have hA := (Below.refl wr.heap.size wr).alloc (Nat.le_refl _) (.cells #[.string T, .slice (some ⟨g, 0, none⟩) E.length E.length] 35)
        have kX := heap_alloc_new wr (.cells #[.string T, .slice (some ⟨g, 0, none⟩) E.length E.length] 35)
        have BA := Lib.hid (HB.out.trans (hA.mono hsr))
        have B6 := Lib.hid (gcall B5.out hsc BA.out)
        have HR6 := Lib.hid (owns_below HR.out hA)
        have hxw : wr.heap.size < (wr.alloc (.cells #[.string T, .slice (some ⟨g, 0, none⟩) E.length E.length] 35)).heap.size := by simp
        clear hA
        generalize (wr.alloc (.cells #[.string T, .slice (some ⟨g, 0, none⟩) E.length E.length] 35)) = W6 at *
        have y0 : W6.cell? ⟨wr.heap.size, 0, none⟩ = some (.string T) := by rw [cellH kX]; rfl
        have y1 : W6.cell? ⟨wr.heap.size, 1, none⟩ = some (.slice (some ⟨g, 0, none⟩) E.length E.length) := by rw [cellH kX]; rfl
        clear kX
        have B6d : Hid (Below w1.heap.size w1 W6.drew) := Lib.hid B6.out.drew
        have HR6d : Hid (RefAt 0 W6.drew (.slice (some ⟨g, 0, none⟩) E.length E.length) E) := Lib.hid (owns_below HR6.out (Below.refl _ _).drew)
        have BAd : Hid (Below wc.heap.size wc W6.drew) := Lib.hid BA.out.drew
        have HT6 := Lib.hid (hT.1.below B6d.out)
        have h116 : 11 ≤ W6.drew.heap.size := Nat.le_trans hT.2 B6d.out.size
        have hs6 : T.size ≤ 1000000 := by omega
        have hle : E.length ≤ 3000000 := by omega
        have hszd : W6.drew.heap.size = W6.heap.size := rfl
        go_region_held3 (fun u => u.cell? ⟨wr.heap.size, 0, none⟩ = some (.string T) ∧ u.cell? ⟨wr.heap.size, 1, none⟩ = some (.slice (some ⟨g, 0, none⟩) E.length E.length)) (first | exact ⟨y0, y1⟩ | exact ⟨z0, z1⟩ | exact ⟨x0, x1⟩ | exact ⟨t0, t1⟩ | go_keep) (first | (go_at_call 14; (with_reducible refine Calls.mono (all_any T W6.drew HT6.out h116 hs6) ?_); rintro e w7 ⟨v7, rfl, hev7, hb7⟩; rw [HEE.out] at hev7; have z0 := (hb7.cell (p := ⟨wr.heap.size, 0, none⟩) hxw).trans y0; have z1 := (hb7.cell (p := ⟨wr.heap.size, 1, none⟩) hxw).trans y1) | (go_at_call 13; (with_reducible refine Calls.mono (back_any _ w7 v7 E hev7 hle) ?_); rintro e w8 ⟨v8, rfl, hr8, hb8⟩; have hq8 : RefAt 0 w8 (.slice (some ⟨g, 0, none⟩) E.length E.length) E := owns_below (owns_below HR6d.out hb7) hb8; have x0 := (hb8.cell (p := ⟨wr.heap.size, 0, none⟩) (Nat.lt_of_lt_of_le hxw hb7.size)).trans z0; have x1 := (hb8.cell (p := ⟨wr.heap.size, 1, none⟩) (Nat.lt_of_lt_of_le hxw hb7.size)).trans z1) | (go_at_call 12; (with_reducible refine Calls.mono (same_any _ _ w8 v8 (.slice (some ⟨g, 0, none⟩) E.length E.length) E hr8 hq8 hle) ?_); rintro e w9 ⟨rfl, hb9⟩; have t0 := (hb9.cell (p := ⟨wr.heap.size, 0, none⟩) (Nat.lt_of_lt_of_le hxw (Nat.le_trans hb7.size hb8.size))).trans x0; have t1 := (hb9.cell (p := ⟨wr.heap.size, 1, none⟩) (Nat.lt_of_lt_of_le hxw (Nat.le_trans hb7.size hb8.size))).trans x1))
        all_goals go_wp2_with fail
        all_goals go_roundw
        case rel =>
          have B9 := gcall (gcall (gcall BAd.out BAd.out.size hb7) (gcall BAd.out BAd.out.size hb7).size hb8) (gcall (gcall BAd.out BAd.out.size hb7) (gcall BAd.out BAd.out.size hb7).size hb8).size hb9
          exact ⟨k + 1, by go_num, by omega, Lib.hid B9⟩
        case measure => simp [intOf]; omega
      · obtain rfl : k = 8 := by omega
        have hlt' : ¬ (8 : Int) < 8 := by omega
        clear HNm
        have B7 := Lib.hid (gcall B5.out hsc HB.out)
        clear HB
        have hnew := new_any wr
        go_wp2_with fail
        refine hnew.mono ?_
        rintro e wn ⟨rfl, R0, bn⟩
        have sn := bn.size
        have hrs := B7.out.size
        have B8 := Lib.hid (gcall B7.out hrs bn)
        clear hnew
        obtain ⟨A1, hv1⟩ : ∃ A, wn.alloc (.cells #[.int .u8 110, .int .u8 111, .int .u8 13, .int .u8 10, .int .u8 13, .int .u8 10, .int .u8 46, .int .u8 46, .int .u8 67, .int .u8 111, .int .u8 110, .int .u8 116, .int .u8 101, .int .u8 110, .int .u8 116, .int .u8 45, .int .u8 76, .int .u8 101, .int .u8 110, .int .u8 103, .int .u8 116, .int .u8 104] 5) = A := ⟨_, rfl⟩
        obtain ⟨C1, hc1⟩ : ∃ A, wn.alloc (.cells #[.int .u8 110, .int .u8 111, .int .u8 13, .int .u8 10, .int .u8 13, .int .u8 10, .int .u8 46, .int .u8 46, .int .u8 67, .int .u8 111, .int .u8 110, .int .u8 116, .int .u8 101, .int .u8 110, .int .u8 116, .int .u8 45, .int .u8 76, .int .u8 101, .int .u8 110, .int .u8 103, .int .u8 116, .int .u8 104] 5 (22, 23)) = A := ⟨_, rfl⟩
        have hcs1 : (convert 31 31 (.slice (some ⟨wn.heap.size, 0, none⟩) 22 22)).run Tryd.prog A1 = .ok (.slice (some ⟨wn.heap.size, 0, none⟩) 22 22) C1 := by
          rw [← hv1, ← hc1]; exact Lib.run_convert_bytes_const wn 31 5 #[.int .u8 110, .int .u8 111, .int .u8 13, .int .u8 10, .int .u8 13, .int .u8 10, .int .u8 46, .int .u8 46, .int .u8 67, .int .u8 111, .int .u8 110, .int .u8 116, .int .u8 101, .int .u8 110, .int .u8 116, .int .u8 45, .int .u8 76, .int .u8 101, .int .u8 110, .int .u8 103, .int .u8 116, .int .u8 104] 22 22 Tryd.underlying31 Tryd.underlying5
        have d1 : Below wn.heap.size wn C1 := by rw [← hc1]; exact galloc2 (Below.refl _ _) (Nat.le_refl _) _
        have hch1 : Chunk C1 (.slice (some ⟨wn.heap.size, 0, none⟩) 22 22) kp1 := by rw [← hc1]; exact const_chunk wn kp1 (22, 23) 22 rfl
        have g1 := bn.trans (d1.mono sn)
        have f1 := feed_any wr.heap.size C1 wr.heap.size .head [] (hT.1.below (B7.out.trans (g1.mono hrs))) (Nat.le_trans hT.2 hrs) g1.size (R0.below d1) _ kp1 hch1 (by decide)
        unfold FeedEnd at f1
        rw [pt1] at f1
        have G1 := Lib.hid g1
        clear hc1 hch1 R0 d1 bn g1
        go_wp2_with fail
        refine f1.mono ?_
        rintro e wo ⟨v1, rfl, ev1, R1, h1⟩
        have b2 := G1.out.trans h1
        have s2 := b2.size
        obtain ⟨p1, q1, rfl⟩ := evs_shape ev1
        have R1' : Rd wr.heap.size wo wr.heap.size .skip [67, 111, 110, 116, 101, 110, 116, 45, 76, 101, 110, 103, 116, 104] := R1
        clear f1 hcs1 hv1 G1 h1 R1 ev1
        obtain ⟨A2, hv2⟩ : ∃ A, wo.alloc (.cells #[.int .u8 58, .int .u8 32, .int .u8 49, .int .u8 13, .int .u8 10, .int .u8 13, .int .u8 10, .int .u8 113] 5) = A := ⟨_, rfl⟩
        obtain ⟨C2, hc2⟩ : ∃ A, wo.alloc (.cells #[.int .u8 58, .int .u8 32, .int .u8 49, .int .u8 13, .int .u8 10, .int .u8 13, .int .u8 10, .int .u8 113] 5 (8, 9)) = A := ⟨_, rfl⟩
        have hcs2 : (convert 31 31 (.slice (some ⟨wo.heap.size, 0, none⟩) 8 8)).run Tryd.prog A2 = .ok (.slice (some ⟨wo.heap.size, 0, none⟩) 8 8) C2 := by
          rw [← hv2, ← hc2]; exact Lib.run_convert_bytes_const wo 31 5 #[.int .u8 58, .int .u8 32, .int .u8 49, .int .u8 13, .int .u8 10, .int .u8 13, .int .u8 10, .int .u8 113] 8 8 Tryd.underlying31 Tryd.underlying5
        have d2 : Below wo.heap.size wo C2 := by rw [← hc2]; exact galloc2 (Below.refl _ _) (Nat.le_refl _) _
        have hch2 : Chunk C2 (.slice (some ⟨wo.heap.size, 0, none⟩) 8 8) kp2 := by rw [← hc2]; exact const_chunk wo kp2 (8, 9) 8 rfl
        have g2 := b2.trans (d2.mono s2)
        have f2 := feed_any wr.heap.size C2 wr.heap.size .skip [67, 111, 110, 116, 101, 110, 116, 45, 76, 101, 110, 103, 116, 104] (hT.1.below (B7.out.trans (g2.mono hrs))) (Nat.le_trans hT.2 hrs) g2.size (R1'.below d2) _ kp2 hch2 (by decide)
        unfold FeedEnd at f2
        rw [pt2] at f2
        have G2 := Lib.hid g2
        clear hc2 hch2 R1' d2 b2 g2
        go_wp2_with fail
        refine f2.mono ?_
        rintro e wq ⟨v2, rfl, ev2, _, h2⟩
        have B9 := Lib.hid (B7.out.trans ((G2.out.trans h2).mono hrs))
        obtain ⟨g2, cap2, rfl, x0, x1⟩ := evs_first ev2
        have hbq : bl ([113] : List UInt8) = .string ⟨#[113]⟩ := rfl
        simp only [hbq] at x0
        clear f2 hcs2 hv2 G2 h2 ev2 hbq B8 B7
        go_wp2_with fail
        go_loop [15] (fun s => ∃ (k : Nat) (S : ByteArray), s = .string S ∧ k ≤ 1002 ∧ S.size = 22 + k ∧ Hid (S.data.toList = nmHead k)) (fun s => 1024 - strLen s)
        case atStart => exact ⟨0, _, rfl, by omega, by decide, Lib.hid rfl⟩
        case round =>
          obtain ⟨k, S, rfl, hk, hS, HS⟩ := hrel
          by_cases hlt : k < 1002
          · have h1 : (S.size : Int) < 1024 := by omega
            have hz : ¬ 9223372036854775807 < S.size + 1 := by omega
            go_wp2_with fail
            go_round
            case rel => exact ⟨k + 1, S ++ ⟨#[121]⟩, rfl, by omega, by rw [ByteArray.size_append, hS]; show 22 + k + 1 = _; omega, Lib.hid (by rw [app_list, HS.out]; exact head_next k)⟩
            case measure => show 1024 - (S ++ ⟨#[121]⟩ : ByteArray).size < 1024 - S.size; rw [ByteArray.size_append]; show 1024 - (S.size + 1) < _; omega
          · obtain rfl : k = 1002 := by omega
            have h1 : ¬ (S.size : Int) < 1024 := by omega
            have z4 : ¬ 9223372036854775807 < S.size + 4 := by omega
            have z5 : ¬ 9223372036854775807 < S.size + 5 := by omega
            have z3 : ¬ 9223372036854775807 < S.size + 3 := by omega
            have hsq := B9.out.size
            have t1 : (S ++ ⟨#[13, 10, 13, 10]⟩ : ByteArray).data.toList = nmHead 1002 ++ crlf2 := by rw [app_list, HS.out]; rfl
            have t2 : (S ++ ⟨#[121, 13, 10, 13, 10]⟩ : ByteArray).data.toList = nmHead 1003 ++ crlf2 := by rw [app_list, HS.out, ← head_next 1002, List.append_assoc]; rfl
            have t3 : (S ++ ⟨#[13, 10, 13]⟩ : ByteArray).data.toList = nmHead 1002 ++ [13, 10, 13] := by rw [app_list, HS.out]
            have n1 : (S ++ ⟨#[13, 10, 13, 10]⟩ : ByteArray).size ≤ 1000000 := by rw [ByteArray.size_append, hS]; show 22 + 1002 + 4 ≤ _; omega
            have n2 : (S ++ ⟨#[121, 13, 10, 13, 10]⟩ : ByteArray).size ≤ 1000000 := by rw [ByteArray.size_append, hS]; show 22 + 1002 + 5 ≤ _; omega
            have n3 : (S ++ ⟨#[13, 10, 13]⟩ : ByteArray).size = 1027 := by rw [ByteArray.size_append, hS]; rfl
            have ha := fun wx (hw : Below w1.heap.size w1 wx) => all_any (S ++ ⟨#[13, 10, 13, 10]⟩) wx (hT.1.below hw) (Nat.le_trans hT.2 hw.size) n1
            have hb := fun wx (hw : Below w1.heap.size w1 wx) => all_any (S ++ ⟨#[121, 13, 10, 13, 10]⟩) wx (hT.1.below hw) (Nat.le_trans hT.2 hw.size) n2
            have hc := fun wx (hw : Below w1.heap.size w1 wx) => all_any LF wx (hT.1.below hw) (Nat.le_trans hT.2 hw.size) hlfs
            have hd := fun wx (hw : Below w1.heap.size w1 wx) => all_any S wx (hT.1.below hw) (Nat.le_trans hT.2 hw.size) (by omega)
            rw [t1, nm_edge] at ha
            rw [t2, nm_over] at hb
            rw [HLF.out] at hc
            rw [HS.out, nm_open] at hd
            clear t1 t2 n1 n2 HLF HS
            go_wp2_with fail
            refine (ha wq B9.out).mono ?_
            rintro e wa ⟨va, rfl, eva, ba⟩
            have BA := Lib.hid (gcall B9.out B9.out.size ba)
            have EA := Lib.hid eva
            clear eva ba ha
            go_wp2_with fail
            refine (hb wa BA.out).mono ?_
            rintro e wb ⟨vb, rfl, evb, bb⟩
            have BB := Lib.hid (gcall BA.out BA.out.size bb)
            have EA2 := Lib.hid (owns_below EA.out bb)
            have EB := Lib.hid evb
            clear evb bb hb EA BA
            go_wp2_with fail
            refine (hc wb BB.out).mono ?_
            rintro e we ⟨vc, rfl, evc, bc⟩
            have BE := Lib.hid (gcall BB.out BB.out.size bc)
            have EA3 := Lib.hid (owns_below EA2.out bc)
            have EB3 := Lib.hid (owns_below EB.out bc)
            have EC3 := Lib.hid evc
            clear evc bc hc EA2 EB BB
            have hnew := new_any we
            go_wp2_with fail
            refine hnew.mono ?_
            rintro e wf ⟨rfl, R0, bf⟩
            have sf := bf.size
            have hse := BE.out.size
            have hcv := Lib.run_convert_string_bytes (P := Tryd.prog) wf 9 31 5 (S ++ ⟨#[13, 10, 13]⟩) Tryd.underlying9 Tryd.underlying31 Tryd.underlying5
            have bfb := bytesWorld_below wf 5 (S ++ ⟨#[13, 10, 13]⟩)
            have hch := chunk_conv wf (S ++ ⟨#[13, 10, 13]⟩) (grownCap wf (S ++ ⟨#[13, 10, 13]⟩).size 0 5)
            rw [t3] at hch
            have R6 : Rd we.heap.size (Lib.bytesWorld wf 5 (S ++ ⟨#[13, 10, 13]⟩)) we.heap.size .head [] := R0.below bfb
            have g6 := bf.trans (bfb.mono sf)
            clear bfb bf R0 hnew
            generalize grownCap wf (S ++ ⟨#[13, 10, 13]⟩).size 0 5 = gcp at *
            generalize Lib.bytesWorld wf 5 (S ++ ⟨#[13, 10, 13]⟩) = w6 at *
            rw [n3] at hcv hch
            have f6 := feed_any we.heap.size w6 we.heap.size .head [] (hT.1.below (BE.out.trans (g6.mono hse))) (Nat.le_trans hT.2 hse) g6.size R6 _ _ hch (by decide +kernel)
            unfold FeedEnd at f6
            rw [cut1] at f6
            have G6 := Lib.hid g6
            clear hch R6 g6 t3
            go_wp2_with fail
            refine f6.mono ?_
            rintro e wg ⟨v6, rfl, ev6, R7, h6⟩
            have b7 := G6.out.trans h6
            have s7 := b7.size
            obtain ⟨p6, q6, rfl⟩ := evs_shape ev6
            have R7' : Rd we.heap.size wg we.heap.size .head (nmHead 1002 ++ [13, 10, 13]) := R7
            clear f6 hcv G6 h6 R7 ev6
            obtain ⟨A3, hv3⟩ : ∃ A, wg.alloc (.cells #[.int .u8 10] 5) = A := ⟨_, rfl⟩
            obtain ⟨C3, hc3⟩ : ∃ A, wg.alloc (.cells #[.int .u8 10] 5 (1, 2)) = A := ⟨_, rfl⟩
            have hcs3 : (convert 31 31 (.slice (some ⟨wg.heap.size, 0, none⟩) 1 1)).run Tryd.prog A3 = .ok (.slice (some ⟨wg.heap.size, 0, none⟩) 1 1) C3 := by
              rw [← hv3, ← hc3]; exact Lib.run_convert_bytes_const wg 31 5 #[.int .u8 10] 1 1 Tryd.underlying31 Tryd.underlying5
            have d3 : Below wg.heap.size wg C3 := by rw [← hc3]; exact galloc2 (Below.refl _ _) (Nat.le_refl _) _
            have hch3 : Chunk C3 (.slice (some ⟨wg.heap.size, 0, none⟩) 1 1) [10] := by rw [← hc3]; exact const_chunk wg [10] (1, 2) 1 rfl
            have g8 := b7.trans (d3.mono s7)
            have f8 := feed_any we.heap.size C3 we.heap.size .head (nmHead 1002 ++ [13, 10, 13]) (hT.1.below (BE.out.trans (g8.mono hse))) (Nat.le_trans hT.2 hse) g8.size (R7'.below d3) _ [10] hch3 (by decide +kernel)
            unfold FeedEnd at f8
            rw [cut2] at f8
            have G8 := Lib.hid g8
            clear hc3 hch3 R7' d3 b7 g8
            go_wp2_with fail
            refine f8.mono ?_
            rintro e wh ⟨v8, rfl, ev8, _, h8⟩
            have bwe := G8.out.trans h8
            have BH := Lib.hid (BE.out.trans (bwe.mono hse))
            obtain ⟨gy, cy, rfl, _, y1⟩ := evs_first ev8
            obtain ⟨ga, ca, rfl, _, a1⟩ := evs_first (owns_below EA3.out bwe)
            obtain ⟨gb, cb, rfl, _, b1⟩ := evs_first (owns_below EB3.out bwe)
            obtain ⟨gc, cc, rfl, c0, _⟩ := evs_first (owns_below EC3.out bwe)
            rw [HZL.out] at c0
            simp only at y1 a1 b1
            have hZs := HZB.out
            clear f8 hcs3 hv3 G8 h8 ev8 bwe EA3 EB3 EC3 BE HZL HZB x0 x1 B9
            go_wp2_with fail
            refine (copy_nil _).mono ?_
            rintro e wi ⟨rfl, rfl⟩
            go_wp2_with fail
            refine (hd _ BH.out).mono ?_
            rintro e wj ⟨vd, rfl, evd, bd⟩
            obtain ⟨pd, qd, rfl⟩ := evs_shape evd
            have c0' := (bd.cell (World.block_lt_of_cell? _ _ c0)).trans c0
            have BJ := Lib.hid (gcall BH.out BH.out.size bd)
            have haw := awake_any wj (hT.1.below BJ.out) (Nat.le_trans hT.2 BJ.out.size)
            clear evd bd c0 hd
            go_wp2_with fail
            refine haw.mono ?_
            rintro e wk ⟨rfl, bk⟩
            have BK := Lib.hid (gcall BJ.out BJ.out.size bk)
            clear bk haw
            go_wp2_with fail
            go_ret
            exact ⟨rfl, BK.out⟩
end Go.Proofs.YtlafcnmopclgiaaDoor
