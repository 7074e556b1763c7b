/-
  The law GreenNames.
-/
import Derived.Test.YtingfomfibhnhaaGreatDoorMgN3
namespace Go.Proofs.YtingfomfibhnhaaGreatDoor
open Go.RowKit Go.Shelf Go.Maps

theorem xbox {w : World} {g : Nat} (h : w.heap[g]? = some (.cells #[.int .u8 1, .int .u8 4, .string ⟨#[120]⟩, .slice none 0 0] 27 (0, 0))) : BoxAt w g nmX := ⟨none, 0, h, nat_leaf _ _ _ _⟩
theorem pa_two (w : World) (i j : Int) : PaAt (w.alloc (.cells #[.int .i64 i, .int .i64 j] 3)) (.slice (some ⟨w.heap.size, 0, none⟩) 2 2) [i, j] := sl_block (World.alloc_heap_new w _) trivial 2 1 rfl
theorem names_put9 {w : World} {C G : Nat} (hx : NAt AnyB w exT (EXc C)) (hl : PaAt w (.slice (some ⟨G, 0, none⟩) 1 1) [9]) :
    Calls Tryz.prog 17 #[EX C, .slice (some ⟨G, 0, none⟩) 1 1, .agg #[.int .u8 1, .int .u8 4, .string ⟨#[120]⟩, .slice none 0 0]] w fun e w' => ∃ p c, e = .returned (.tuple #[.agg #[.int .u8 0, .int .u8 0, .string ⟨#[]⟩, .slice p 0 c], .int .i64 5]) ∧ Below w.heap.size w w' :=
  (n_put_none (m := nmX) (p := some ⟨C, 0, none⟩) (c := 4) (p2 := none) (c2 := 0) nm_a9 hx (nat_leaf _ _ _ _) hl (by simp) ⟨nm_count.1, nm_short.1⟩ ⟨nm_count.2, nm_short.2⟩).mono fun e w' ⟨p, c, h1, _, h2⟩ => ⟨p, c, h1, h2⟩
theorem names_put0 {w : World} {C : Nat} (hx : NAt AnyB w exT (EXc C)) (hl : PaAt w (.slice none 0 0) []) :
    Calls Tryz.prog 17 #[EX C, .slice none 0 0, .agg #[.int .u8 1, .int .u8 4, .string ⟨#[120]⟩, .slice none 0 0]] w fun e w' => ∃ p c, e = .returned (.tuple #[.agg #[.int .u8 1, .int .u8 4, .string ⟨#[120]⟩, .slice p 0 c], .int .i64 0]) ∧ NAt AnyB w' nmX (cellsN nmX p c) ∧ Below w.heap.size w w' :=
  (n_put_some (m := nmX) (z := exT) (p := some ⟨C, 0, none⟩) (c := 4) (p2 := none) (c2 := 0) rfl hx (nat_leaf _ _ _ _) hl (by simp) ⟨nm_count.1, nm_short.1⟩ ⟨nm_count.2, nm_short.2⟩).mono fun e w' ⟨p, c, h1, h2, h3⟩ => by
    rw [nm_put] at h1 h2
    exact ⟨p, c, h1, h2.any, h3⟩
theorem names_same {w : World} {p : Option Addr} {c : Nat} (hx : NAt AnyB w nmX (cellsN nmX p c)) :
    Calls Tryz.prog 19 #[.agg #[.int .u8 1, .int .u8 4, .string ⟨#[120]⟩, .slice p 0 c], .agg #[.int .u8 1, .int .u8 4, .string ⟨#[120]⟩, .slice none 0 0]] w (RetEnd (.bool true) w) :=
  n_same_r (a := nmX) (b := nmX) (p := p) (p2 := none) (c := c) (c2 := 0) rfl hx (nat_leaf _ _ _ _) (by decide +kernel)
theorem pa_nil (w : World) : PaAt w (.slice none 0 0) [] := SlIn.nil _ _ _
set_option maxRecDepth 100000 in
set_option maxHeartbeats 16000000 in
theorem names_walk (W : World) (hE : Env W) :
    Calls Tryz.prog 3 #[] W fun e w' => e = .returned (.bool true) ∧ Below W.heap.size W w' := by
  have HE : Hid (∀ w, Below W.heap.size W w → Env w) := Lib.hid fun w hb => hE.below hb hE.size
  have hwork := gworks_any W hE
  clear hE
  go_enter Tryz.func3, Tryz.ntmps3
  go_wp2_with fail
  refine (hwork).mono ?_
  rintro e w1 ⟨rfl, h1⟩
  have HB1 := Lib.hid h1
  clear h1 hwork
  go_wp2_with fail
  refine (leaf_any 4 ⟨#[120]⟩ none 0 0 w1).mono ?_
  rintro e w2 ⟨rfl, h2⟩
  have HB2 := Lib.hid (HB1.out.trans (h2.mono HB1.out.size))
  clear h2
  go_wp2_with fail
  generalize hw3 : w2.alloc (.cells #[.int .u8 1, .int .u8 4, .string ⟨#[120]⟩, .slice none 0 0] 27) = w3 at *
  have b3 : Below w2.heap.size w2 w3 := by rw [← hw3]; exact galloc (Below.refl _ _) _
  have n3 : w3.heap[w2.heap.size]? = some (.cells #[.int .u8 1, .int .u8 4, .string ⟨#[120]⟩, .slice none 0 0] 27 (0, 0)) := by rw [← hw3]; exact World.alloc_heap_new w2 _
  generalize hXB : w2.heap.size = XB at *
  rw [← hXB] at b3
  have HB3 := Lib.hid (HB2.out.trans (b3.mono HB2.out.size))
  have FXB3 := Lib.hid n3
  clear b3 n3
  refine names_region _ _ _ _ _ _ _ _ _ _ _ _ _ _ _ _ _ _ _ _ _ _ _ _ _ _ _ _ _ _ _ _ _ _ _ _ _ _ _ _ _ _ _ _ _ _ _ _ _ _ _ _ _ _ _ _ _ _ _ _ _ _ _ _ _ _ _ _ _ _ _ _ _ _ _ _ _ _ _ _ _ _ _ _ _ _ _ _ _ _ _ _ _ _ _ _ _ _ _ _ _ _ _ _ _ _ _ _ _ _ _ _ _ _ _ _ _ _ _ _ _ _ _ _ _ _ _ _ _ _ _ _ _ _ _ _ _ _ _ _ _ _ _ _ _ _ _ _ _ _ _ _ _ _ _ _ _ _ _ _ _ _ _ _ _ _ _ _ _ _ _ _ _ _ _ _ _ _ _ _ _ _ _ _ _ _ _ _ _ _ _ _ _ _ _ _ _ _ _ _ _ _ _ _ _ _ _ _ _ _ _ _ _ _ _ _ _ _ _ _ _ _ _ _ _ _ _ _ _ _ _ _ _ _ _ _ _ _ _ _ _ _ _ _ _ _ _ _ _ _ _ _ _ _ _ _ _ _ _ _ _ _ _ _ _ _ _ _ _ _ _ _ _ _ _ _ _ _ _ _ _ _ _ _ _ _ _ _ _ _ _ _ XB w3 _ (xbox FXB3.out) ?_
  intro y41 y42 y43 y44 y45 y46 y47 y48 y49 y50 y51 y52 y53 y54 y55 y56 y57 y58 y59 y60 y61 y62 y63 y64 y65 y66 y67 y68 y69 y70 y71 y72 y73 y74 y75 y76 y77 y78 y79 y80 y81 y82 y83 y84 y85 y86 y87 y88 y89 y90 y91 y92 y93 y94 y95 y96 y97 y98 y99 y100 y101 y102 y103 y104 y105 y106 y107 y108 y109 y110 y111 y112 y113 y114 y115 y116 y117 y118 y119 y120 y121 y122 y123 y124 y125 y126 y127 y128 y129 y130 y131 y132 y133 y134 y135 y136 y137 y138 y139 y140 y141 y142 y143 y144 y145 y146 y147 y148 y149 y150 y151 y152 RG w4 h4 hrows
  have FXB4 := Lib.hid ((h4.block _ (Array.getElem?_eq_some_iff.1 FXB3.out).1).trans FXB3.out)
  clear FXB3
  have HB4 := Lib.hid (HB3.out.trans (h4.mono HB3.out.size))
  have FRW4 := Lib.hid hrows
  clear h4 hrows
  have HI0 : Hid (Below W.heap.size W w4 ∧ w4.heap[XB]? = some (.cells #[.int .u8 1, .int .u8 4, .string ⟨#[120]⟩, .slice none 0 0] 27 (0, 0)) ∧ Is (.rows casesL) w4 (.slice (some ⟨RG, 0, none⟩) 22 22)) := Lib.hid ⟨HB4.out, FXB4.out, FRW4.out⟩
  clear FXB4 FRW4
  go_wp2_with fail
  go_loopw [4, 155] (fun _ iv wr => ∃ k : Nat, k ≤ 22 ∧ iv = .int .i64 k ∧ Hid (Below W.heap.size W wr ∧ wr.heap[XB]? = some (.cells #[.int .u8 1, .int .u8 4, .string ⟨#[120]⟩, .slice none 0 0] 27 (0, 0)) ∧ Is (.rows casesL) wr (.slice (some ⟨RG, 0, none⟩) 22 22))) (fun _ iv _ => 22 - (intOf iv).toNat)
  case atStart => exact ⟨0, by omega, rfl, HI0⟩
  case round =>
    clear HI0 HB1 HB2 HB3 HB4
    obtain ⟨k, hk, rfl, HI⟩ := hrel
    rcases Nat.lt_or_ge k 22 with hlt | hge
    · have hlt' : (k : Int) < (22 : Int) := by omega
      have hwi : IntKind.i64.wrap ((k : Int) + 1) = ((k + 1 : Nat) : Int) := by rw [IntWalk.i64_in _ (by omega)]; omega
      obtain ⟨q, hq⟩ : ∃ q, casesL[k]? = some q := ⟨_, List.getElem?_eq_getElem (by show k < 22; exact hlt)⟩
      obtain ⟨hq1, hq2, hq3⟩ := cases_ok q (List.mem_of_getElem? hq)
      obtain ⟨x, ec⟩ := q
      have hq1 : checkT x = ec := hq1
      have hq2 : countT x ≤ 100000 := hq2
      have hq3 : sizeT x ≤ 1000000 := hq3
      obtain ⟨g, hg, hgl, hr⟩ := HI.out.2.2
      cases hg
      obtain ⟨p, c, hx, r0, r1, r2, r3, r4⟩ := hr k x ec hq
      have HR := Lib.hid (And.intro hx (And.intro hq1 (And.intro hq2 hq3)))
      clear hr hq hx hq1 hq2 hq3 hgl
      obtain ⟨w5, hw5⟩ : ∃ w, wr.alloc (.cells #[.int .u8 x.kind, .int .u8 x.tok.1, .string ⟨x.tok.2.toArray⟩, .slice p x.kids.length c, .int .i64 ec] 31) = w := ⟨_, rfl⟩
      have b5 : Below wr.heap.size wr w5 := by rw [← hw5]; exact galloc (Below.refl _ _) _
      have n5 : w5.heap[wr.heap.size]? = some (.cells #[.int .u8 x.kind, .int .u8 x.tok.1, .string ⟨x.tok.2.toArray⟩, .slice p x.kids.length c, .int .i64 ec] 31 (0, 0)) := by rw [← hw5]; exact World.alloc_heap_new wr _
      obtain ⟨YB, hYB⟩ : ∃ G, wr.heap.size = G := ⟨_, rfl⟩
      rw [hYB] at n5
      have HB5 : Hid (Below W.heap.size W w5 ∧ w5.heap[XB]? = some (.cells #[.int .u8 1, .int .u8 4, .string ⟨#[120]⟩, .slice none 0 0] 27 (0, 0)) ∧ Is (.rows casesL) w5 (.slice (some ⟨RG, 0, none⟩) 22 22)) := Lib.hid ⟨HI.out.1.trans (b5.mono HI.out.1.size), (b5.block _ (Array.getElem?_eq_some_iff.1 HI.out.2.1).1).trans HI.out.2.1, Is.below b5 HI.out.2.2⟩
      have HX5 := Lib.hid (HR.out.1.below b5)
      have y0 : w5.cell? ⟨YB, 0, none⟩ = some (.int .u8 x.kind) := by rw [cellH n5]; rfl
      have y1 : w5.cell? ⟨YB, 1, none⟩ = some (.int .u8 x.tok.1) := by rw [cellH n5]; rfl
      have y2 : w5.cell? ⟨YB, 2, none⟩ = some (.string ⟨x.tok.2.toArray⟩) := by rw [cellH n5]; rfl
      have y3 : w5.cell? ⟨YB, 3, none⟩ = some (.slice p x.kids.length c) := by rw [cellH n5]; rfl
      have y4 : w5.cell? ⟨YB, 4, none⟩ = some (.int .i64 ec) := by rw [cellH n5]; rfl
      clear b5 n5 HI
      have hck : Calls Tryz.prog 12 #[.agg #[.int .u8 x.kind, .int .u8 x.tok.1, .string ⟨x.tok.2.toArray⟩, .slice p x.kids.length c]] w5.drew fun e w' => e = .returned (.int .i64 ec) ∧ Hid (Below w5.heap.size w5 w') := (gcheck_any x p c w5.drew (HX5.out.below (Below.refl _ _).drew) HR.out.2.2.1 HR.out.2.2.2 (HE.out _ (HB5.out.1.trans ((Below.refl _ _).drew.mono HB5.out.1.size)))).mono fun e w' ⟨h1, h2⟩ => ⟨by rw [← HR.out.2.1]; exact h1, Lib.hid ((Below.refl _ _).drew.trans h2)⟩
      have hne : (ec != ec) = false := by simp
      go_wp2_with fail
      go_region_held3 (fun u => u.cell? ⟨YB, 0, none⟩ = some (.int .u8 x.kind) ∧ u.cell? ⟨YB, 1, none⟩ = some (.int .u8 x.tok.1) ∧ u.cell? ⟨YB, 2, none⟩ = some (.string ⟨x.tok.2.toArray⟩) ∧ u.cell? ⟨YB, 3, none⟩ = some (.slice p x.kids.length c) ∧ u.cell? ⟨YB, 4, none⟩ = some (.int .i64 ec)) (first | exact ⟨y0, y1, y2, y3, y4⟩ | (with_reducible exact HKC.out) | go_keep) (first | (go_at_call 12; (with_reducible refine Calls.mono hck ?_); rintro e w6 ⟨rfl, HD6⟩; have HKC := Lib.hid (And.intro (cell_in HD6.out y0) (And.intro (cell_in HD6.out y1) (And.intro (cell_in HD6.out y2) (And.intro (cell_in HD6.out y3) (cell_in HD6.out y4)))))))
      all_goals (have HI6 : Hid (Below W.heap.size W w6 ∧ w6.heap[XB]? = some (.cells #[.int .u8 1, .int .u8 4, .string ⟨#[120]⟩, .slice none 0 0] 27 (0, 0)) ∧ Is (.rows casesL) w6 (.slice (some ⟨RG, 0, none⟩) 22 22)) := Lib.hid ⟨HB5.out.1.trans (HD6.out.mono HB5.out.1.size), (HD6.out.block _ (Array.getElem?_eq_some_iff.1 HB5.out.2.1).1).trans HB5.out.2.1, Is.below HD6.out HB5.out.2.2⟩)
      all_goals (clear HKC HD6 HB5 HX5 y0 y1 y2 y3 y4 hck)
      all_goals go_wp2
      all_goals exact ⟨⟨k + 1, by omega, rfl, HI6⟩, by simp [intOf]; omega⟩
    · obtain rfl : k = 22 := by omega
      have hlt' : ¬ ((22 : Nat) : Int) < (22 : Int) := by omega
      obtain ⟨w5, hw5⟩ : ∃ w, wr = w := ⟨_, rfl⟩
      subst hw5
      have HB4 := Lib.hid HI.out.1
      have FXB4 := Lib.hid HI.out.2.1
      clear HI
      go_wp2_with fail
      refine (example_any wr).mono ?_
      rintro e w5 ⟨C, rfl, hx, h5⟩
      have FXB5 := Lib.hid ((h5.block _ (Array.getElem?_eq_some_iff.1 FXB4.out).1).trans FXB4.out)
      clear FXB4
      have HB5 := Lib.hid (HB4.out.trans (h5.mono HB4.out.size))
      have FX5 := Lib.hid hx
      clear h5 hx
      obtain ⟨w6, hw6⟩ : ∃ w, w5.alloc (.cells #[.int .u8 4, .int .u8 0, .string ⟨#[]⟩, .slice (some ⟨C, 0, none⟩) 4 4] 27) = w := ⟨_, rfl⟩
      have b6 : Below w5.heap.size w5 w6 := by rw [← hw6]; exact galloc (Below.refl _ _) _
      have n6 : w6.heap[w5.heap.size]? = some (.cells #[.int .u8 4, .int .u8 0, .string ⟨#[]⟩, .slice (some ⟨C, 0, none⟩) 4 4] 27 (0, 0)) := by rw [← hw6]; exact World.alloc_heap_new w5 _
      obtain ⟨EB, hEB⟩ : ∃ G, w5.heap.size = G := ⟨_, rfl⟩
      rw [hEB] at n6
      have FXB6 := Lib.hid ((b6.block _ (Array.getElem?_eq_some_iff.1 FXB5.out).1).trans FXB5.out)
      clear FXB5
      have FX6 := Lib.hid (FX5.out.below b6)
      clear FX5
      have HB6 := Lib.hid (HB5.out.trans (b6.mono HB5.out.size))
      have FEB6 := Lib.hid n6
      clear b6 n6
      obtain ⟨a0, a1, a2, a3⟩ := box4 FEB6.out
      obtain ⟨w7, hw7⟩ : ∃ w, w6.alloc (.cells #[.int .i64 4] 3) = w := ⟨_, rfl⟩
      have b7 : Below w6.heap.size w6 w7 := by rw [← hw7]; exact galloc (Below.refl _ _) _
      have hp7 : PaAt w7 (.slice (some ⟨w6.heap.size, 0, none⟩) 1 1) [4] := by rw [← hw7]; exact pa_new w6 4
      obtain ⟨G7, hG7⟩ : ∃ G, w6.heap.size = G := ⟨_, rfl⟩
      rw [hG7] at hp7
      have FXB7 := Lib.hid ((b7.block _ (Array.getElem?_eq_some_iff.1 FXB6.out).1).trans FXB6.out)
      clear FXB6
      have FX7 := Lib.hid (FX6.out.below b7)
      clear FX6
      have FEB7 := Lib.hid ((b7.block _ (Array.getElem?_eq_some_iff.1 FEB6.out).1).trans FEB6.out)
      clear FEB6
      have HB7 := Lib.hid (HB6.out.trans (b7.mono HB6.out.size))
      clear b7
      go_wp2_with fail
      refine (n_at_none nm_a4 FX7.out hp7 (by simp)).mono ?_
      rintro e w8 ⟨rfl, h8⟩
      clear a0 a1 a2 a3
      have FXB8 := Lib.hid ((h8.block _ (Array.getElem?_eq_some_iff.1 FXB7.out).1).trans FXB7.out)
      clear FXB7
      have FX8 := Lib.hid (FX7.out.below h8)
      clear FX7
      have FEB8 := Lib.hid ((h8.block _ (Array.getElem?_eq_some_iff.1 FEB7.out).1).trans FEB7.out)
      clear FEB7
      have HB8 := Lib.hid (HB7.out.trans (h8.mono HB7.out.size))
      clear h8 hp7
      have b9 : Below w8.heap.size w8 (w8.alloc (.cells #[.int .u8 0, .int .u8 0, .string ⟨#[]⟩, .slice none 0 0] 27)) := galloc (Below.refl _ _) _
      obtain ⟨a0, a1, a2, a3⟩ := box4 ((b9.block _ (Array.getElem?_eq_some_iff.1 FEB8.out).1).trans FEB8.out)
      clear b9
      go_wp2_with fail
      clear a0 a1 a2 a3
      generalize hw9 : w8.alloc (.cells #[.int .u8 0, .int .u8 0, .string ⟨#[]⟩, .slice none 0 0] 27) = w9
      generalize hG9 : w8.heap.size = G9
      have hs9 : w9.heap.size = G9 + 1 := by rw [← hw9, ← hG9]; first | exact Array.size_push _ | exact World.alloc_heap_size _ _
      have b9 : Below w8.heap.size w8 w9 := by rw [← hw9]; exact galloc (Below.refl _ _) _
      have FXB9 := Lib.hid ((b9.block _ (Array.getElem?_eq_some_iff.1 FXB8.out).1).trans FXB8.out)
      clear FXB8
      have FX9 := Lib.hid (FX8.out.below b9)
      clear FX8
      have FEB9 := Lib.hid ((b9.block _ (Array.getElem?_eq_some_iff.1 FEB8.out).1).trans FEB8.out)
      clear FEB8
      have HB9 := Lib.hid (HB8.out.trans (b9.mono HB8.out.size))
      clear b9 hw9 hG9
      generalize hw10 : w9.alloc (.cells #[.int .i64 (-1)] 3) = w10
      have b10 : Below w9.heap.size w9 w10 := by rw [← hw10]; exact galloc (Below.refl _ _) _
      have hp10 : PaAt w10 (.slice (some ⟨w9.heap.size, 0, none⟩) 1 1) [(-1)] := by rw [← hw10]; exact pa_new w9 (-1)
      rw [hs9] at hp10
      generalize G9 + 1 = G10 at hp10 ⊢
      have FXB10 := Lib.hid ((b10.block _ (Array.getElem?_eq_some_iff.1 FXB9.out).1).trans FXB9.out)
      clear FXB9
      have FX10 := Lib.hid (FX9.out.below b10)
      clear FX9
      have FEB10 := Lib.hid ((b10.block _ (Array.getElem?_eq_some_iff.1 FEB9.out).1).trans FEB9.out)
      clear FEB9
      have HB10 := Lib.hid (HB9.out.trans (b10.mono HB9.out.size))
      clear b10 hw10 hs9
      refine (n_at_none nm_am FX10.out hp10 (by simp)).mono ?_
      rintro e w11 ⟨rfl, h11⟩
      have FXB11 := Lib.hid ((h11.block _ (Array.getElem?_eq_some_iff.1 FXB10.out).1).trans FXB10.out)
      clear FXB10
      have FX11 := Lib.hid (FX10.out.below h11)
      clear FX10
      have FEB11 := Lib.hid ((h11.block _ (Array.getElem?_eq_some_iff.1 FEB10.out).1).trans FEB10.out)
      clear FEB10
      have HB11 := Lib.hid (HB10.out.trans (h11.mono HB10.out.size))
      clear h11 hp10
      have b12 : Below w11.heap.size w11 (w11.alloc (.cells #[.int .u8 0, .int .u8 0, .string ⟨#[]⟩, .slice none 0 0] 27)) := galloc (Below.refl _ _) _
      obtain ⟨a0, a1, a2, a3⟩ := box4 ((b12.block _ (Array.getElem?_eq_some_iff.1 FEB11.out).1).trans FEB11.out)
      clear b12
      go_wp2_with fail
      clear a0 a1 a2 a3
      generalize hw12 : w11.alloc (.cells #[.int .u8 0, .int .u8 0, .string ⟨#[]⟩, .slice none 0 0] 27) = w12
      generalize hG12 : w11.heap.size = G12
      have hs12 : w12.heap.size = G12 + 1 := by rw [← hw12, ← hG12]; first | exact Array.size_push _ | exact World.alloc_heap_size _ _
      have b12 : Below w11.heap.size w11 w12 := by rw [← hw12]; exact galloc (Below.refl _ _) _
      have FXB12 := Lib.hid ((b12.block _ (Array.getElem?_eq_some_iff.1 FXB11.out).1).trans FXB11.out)
      clear FXB11
      have FX12 := Lib.hid (FX11.out.below b12)
      clear FX11
      have FEB12 := Lib.hid ((b12.block _ (Array.getElem?_eq_some_iff.1 FEB11.out).1).trans FEB11.out)
      clear FEB11
      have HB12 := Lib.hid (HB11.out.trans (b12.mono HB11.out.size))
      clear b12 hw12 hG12
      generalize hw13 : w12.alloc (.cells #[.int .i64 0, .int .i64 0] 3) = w13
      have b13 : Below w12.heap.size w12 w13 := by rw [← hw13]; exact galloc (Below.refl _ _) _
      have hp13 : PaAt w13 (.slice (some ⟨w12.heap.size, 0, none⟩) 2 2) [0, 0] := by rw [← hw13]; exact pa_two w12 0 0
      rw [hs12] at hp13
      generalize G12 + 1 = G13 at hp13 ⊢
      have FXB13 := Lib.hid ((b13.block _ (Array.getElem?_eq_some_iff.1 FXB12.out).1).trans FXB12.out)
      clear FXB12
      have FX13 := Lib.hid (FX12.out.below b13)
      clear FX12
      have FEB13 := Lib.hid ((b13.block _ (Array.getElem?_eq_some_iff.1 FEB12.out).1).trans FEB12.out)
      clear FEB12
      have HB13 := Lib.hid (HB12.out.trans (b13.mono HB12.out.size))
      clear b13 hw13 hs12
      refine (full_some nm_f00 FX13.out hp13 (by simp) (by decide +kernel) (by decide +kernel)).mono ?_
      rintro e w14 ⟨rfl, h14⟩
      have FXB14 := Lib.hid ((h14.block _ (Array.getElem?_eq_some_iff.1 FXB13.out).1).trans FXB13.out)
      clear FXB13
      have FX14 := Lib.hid (FX13.out.below h14)
      clear FX13
      have FEB14 := Lib.hid ((h14.block _ (Array.getElem?_eq_some_iff.1 FEB13.out).1).trans FEB13.out)
      clear FEB13
      have HB14 := Lib.hid (HB13.out.trans (h14.mono HB13.out.size))
      clear h14 hp13
      have b15 : Below w14.heap.size w14 (w14.alloc (.cells #[.int .i64 0, .int .i64 0] 40)) := galloc (Below.refl _ _) _
      obtain ⟨a0, a1, a2, a3⟩ := box4 ((b15.block _ (Array.getElem?_eq_some_iff.1 FEB14.out).1).trans FEB14.out)
      clear b15
      go_wp2_with fail
      clear a0 a1 a2 a3
      generalize hw15 : w14.alloc (.cells #[.int .i64 0, .int .i64 0] 40) = w15
      generalize hG15 : w14.heap.size = G15
      have hs15 : w15.heap.size = G15 + 1 := by rw [← hw15, ← hG15]; first | exact Array.size_push _ | exact World.alloc_heap_size _ _
      have b15 : Below w14.heap.size w14 w15 := by rw [← hw15]; exact galloc (Below.refl _ _) _
      have FXB15 := Lib.hid ((b15.block _ (Array.getElem?_eq_some_iff.1 FXB14.out).1).trans FXB14.out)
      clear FXB14
      have FX15 := Lib.hid (FX14.out.below b15)
      clear FX14
      have FEB15 := Lib.hid ((b15.block _ (Array.getElem?_eq_some_iff.1 FEB14.out).1).trans FEB14.out)
      clear FEB14
      have HB15 := Lib.hid (HB14.out.trans (b15.mono HB14.out.size))
      clear b15 hw15 hG15
      generalize hw16 : w15.alloc (.cells #[.int .i64 1, .int .i64 1] 3) = w16
      have b16 : Below w15.heap.size w15 w16 := by rw [← hw16]; exact galloc (Below.refl _ _) _
      have hp16 : PaAt w16 (.slice (some ⟨w15.heap.size, 0, none⟩) 2 2) [1, 1] := by rw [← hw16]; exact pa_two w15 1 1
      rw [hs15] at hp16
      generalize G15 + 1 = G16 at hp16 ⊢
      have FXB16 := Lib.hid ((b16.block _ (Array.getElem?_eq_some_iff.1 FXB15.out).1).trans FXB15.out)
      clear FXB15
      have FX16 := Lib.hid (FX15.out.below b16)
      clear FX15
      have FEB16 := Lib.hid ((b16.block _ (Array.getElem?_eq_some_iff.1 FEB15.out).1).trans FEB15.out)
      clear FEB15
      have HB16 := Lib.hid (HB15.out.trans (b16.mono HB15.out.size))
      clear b16 hw16 hs15
      refine (n_own_some nm_o11 FX16.out hp16 (by simp) (by decide +kernel) (by decide +kernel)).mono ?_
      rintro e w17 ⟨rfl, h17⟩
      have FXB17 := Lib.hid ((h17.block _ (Array.getElem?_eq_some_iff.1 FXB16.out).1).trans FXB16.out)
      clear FXB16
      have FX17 := Lib.hid (FX16.out.below h17)
      clear FX16
      have FEB17 := Lib.hid ((h17.block _ (Array.getElem?_eq_some_iff.1 FEB16.out).1).trans FEB16.out)
      clear FEB16
      have HB17 := Lib.hid (HB16.out.trans (h17.mono HB16.out.size))
      clear h17 hp16
      have b18 : Below w17.heap.size w17 (w17.alloc (.cells #[.int .i64 0, .int .i64 0] 40)) := galloc (Below.refl _ _) _
      obtain ⟨a0, a1, a2, a3⟩ := box4 ((b18.block _ (Array.getElem?_eq_some_iff.1 FEB17.out).1).trans FEB17.out)
      clear b18
      go_wp2_with fail
      clear a0 a1 a2 a3
      generalize hw18 : w17.alloc (.cells #[.int .i64 0, .int .i64 0] 40) = w18
      generalize hG18 : w17.heap.size = G18
      have hs18 : w18.heap.size = G18 + 1 := by rw [← hw18, ← hG18]; first | exact Array.size_push _ | exact World.alloc_heap_size _ _
      have b18 : Below w17.heap.size w17 w18 := by rw [← hw18]; exact galloc (Below.refl _ _) _
      have FXB18 := Lib.hid ((b18.block _ (Array.getElem?_eq_some_iff.1 FXB17.out).1).trans FXB17.out)
      clear FXB17
      have FX18 := Lib.hid (FX17.out.below b18)
      clear FX17
      have FEB18 := Lib.hid ((b18.block _ (Array.getElem?_eq_some_iff.1 FEB17.out).1).trans FEB17.out)
      clear FEB17
      have HB18 := Lib.hid (HB17.out.trans (b18.mono HB17.out.size))
      clear b18 hw18 hG18
      generalize hw19 : w18.alloc (.cells #[.int .i64 1, .int .i64 0] 3) = w19
      have b19 : Below w18.heap.size w18 w19 := by rw [← hw19]; exact galloc (Below.refl _ _) _
      have hp19 : PaAt w19 (.slice (some ⟨w18.heap.size, 0, none⟩) 2 2) [1, 0] := by rw [← hw19]; exact pa_two w18 1 0
      rw [hs18] at hp19
      generalize G18 + 1 = G19 at hp19 ⊢
      have FXB19 := Lib.hid ((b19.block _ (Array.getElem?_eq_some_iff.1 FXB18.out).1).trans FXB18.out)
      clear FXB18
      have FX19 := Lib.hid (FX18.out.below b19)
      clear FX18
      have FEB19 := Lib.hid ((b19.block _ (Array.getElem?_eq_some_iff.1 FEB18.out).1).trans FEB18.out)
      clear FEB18
      have HB19 := Lib.hid (HB18.out.trans (b19.mono HB18.out.size))
      clear b19 hw19 hs18
      refine (full_some nm_f10 FX19.out hp19 (by simp) (by decide +kernel) (by decide +kernel)).mono ?_
      rintro e w20 ⟨rfl, h20⟩
      have FXB20 := Lib.hid ((h20.block _ (Array.getElem?_eq_some_iff.1 FXB19.out).1).trans FXB19.out)
      clear FXB19
      have FX20 := Lib.hid (FX19.out.below h20)
      clear FX19
      have FEB20 := Lib.hid ((h20.block _ (Array.getElem?_eq_some_iff.1 FEB19.out).1).trans FEB19.out)
      clear FEB19
      have HB20 := Lib.hid (HB19.out.trans (h20.mono HB19.out.size))
      clear h20 hp19
      have b21 : Below w20.heap.size w20 (w20.alloc (.cells #[.int .i64 3, .int .i64 4] 40)) := galloc (Below.refl _ _) _
      obtain ⟨a0, a1, a2, a3⟩ := box4 ((b21.block _ (Array.getElem?_eq_some_iff.1 FEB20.out).1).trans FEB20.out)
      clear b21
      go_wp2_with fail
      clear a0 a1 a2 a3
      generalize hw21 : w20.alloc (.cells #[.int .i64 3, .int .i64 4] 40) = w21
      generalize hG21 : w20.heap.size = GE
      have hs21 : w21.heap.size = GE + 1 := by rw [← hw21, ← hG21]; first | exact Array.size_push _ | exact World.alloc_heap_size _ _
      have b21 : Below w20.heap.size w20 w21 := by rw [← hw21]; exact galloc (Below.refl _ _) _
      have n21 : w21.heap[GE]? = some (.cells #[.int .i64 3, .int .i64 4] 40 (0, 0)) := by rw [← hw21, ← hG21]; exact World.alloc_heap_new w20 _
      have FXB21 := Lib.hid ((b21.block _ (Array.getElem?_eq_some_iff.1 FXB20.out).1).trans FXB20.out)
      clear FXB20
      have FX21 := Lib.hid (FX20.out.below b21)
      clear FX20
      have FEB21 := Lib.hid ((b21.block _ (Array.getElem?_eq_some_iff.1 FEB20.out).1).trans FEB20.out)
      clear FEB20
      have HB21 := Lib.hid (HB20.out.trans (b21.mono HB20.out.size))
      have FE21 := Lib.hid n21
      clear n21
      clear b21 hw21 hG21
      generalize hw22 : w21.alloc (.cells #[.int .i64 1, .int .i64 0] 3) = w22
      have b22 : Below w21.heap.size w21 w22 := by rw [← hw22]; exact galloc (Below.refl _ _) _
      have hp22 : PaAt w22 (.slice (some ⟨w21.heap.size, 0, none⟩) 2 2) [1, 0] := by rw [← hw22]; exact pa_two w21 1 0
      rw [hs21] at hp22
      generalize GE + 1 = G22 at hp22 ⊢
      have FXB22 := Lib.hid ((b22.block _ (Array.getElem?_eq_some_iff.1 FXB21.out).1).trans FXB21.out)
      clear FXB21
      have FX22 := Lib.hid (FX21.out.below b22)
      clear FX21
      have FEB22 := Lib.hid ((b22.block _ (Array.getElem?_eq_some_iff.1 FEB21.out).1).trans FEB21.out)
      clear FEB21
      have FE22 := Lib.hid ((b22.block _ (Array.getElem?_eq_some_iff.1 FE21.out).1).trans FE21.out)
      clear FE21
      have HB22 := Lib.hid (HB21.out.trans (b22.mono HB21.out.size))
      clear b22 hw22 hs21
      refine (n_own_some nm_o10 FX22.out hp22 (by simp) (by decide +kernel) (by decide +kernel)).mono ?_
      rintro e w23 ⟨rfl, h23⟩
      have FXB23 := Lib.hid ((h23.block _ (Array.getElem?_eq_some_iff.1 FXB22.out).1).trans FXB22.out)
      clear FXB22
      have FX23 := Lib.hid (FX22.out.below h23)
      clear FX22
      have FEB23 := Lib.hid ((h23.block _ (Array.getElem?_eq_some_iff.1 FEB22.out).1).trans FEB22.out)
      clear FEB22
      have FE23 := Lib.hid ((h23.block _ (Array.getElem?_eq_some_iff.1 FE22.out).1).trans FE22.out)
      clear FE22
      have HB23 := Lib.hid (HB22.out.trans (h23.mono HB22.out.size))
      clear h23 hp22
      have b24 : Below w23.heap.size w23 (w23.alloc (.cells #[.int .i64 4, .int .i64 4] 40)) := galloc (Below.refl _ _) _
      obtain ⟨a0, a1, a2, a3⟩ := box4 ((b24.block _ (Array.getElem?_eq_some_iff.1 FEB23.out).1).trans FEB23.out)
      clear b24
      go_wp2_with fail
      clear a0 a1 a2 a3
      generalize hw24 : w23.alloc (.cells #[.int .i64 4, .int .i64 4] 40) = w24
      generalize hG24 : w23.heap.size = GF
      have b24 : Below w23.heap.size w23 w24 := by rw [← hw24]; exact galloc (Below.refl _ _) _
      have n24 : w24.heap[GF]? = some (.cells #[.int .i64 4, .int .i64 4] 40 (0, 0)) := by rw [← hw24, ← hG24]; exact World.alloc_heap_new w23 _
      have FXB24 := Lib.hid ((b24.block _ (Array.getElem?_eq_some_iff.1 FXB23.out).1).trans FXB23.out)
      clear FXB23
      have FX24 := Lib.hid (FX23.out.below b24)
      clear FX23
      have FEB24 := Lib.hid ((b24.block _ (Array.getElem?_eq_some_iff.1 FEB23.out).1).trans FEB23.out)
      clear FEB23
      have FE24 := Lib.hid ((b24.block _ (Array.getElem?_eq_some_iff.1 FE23.out).1).trans FE23.out)
      clear FE23
      have HB24 := Lib.hid (HB23.out.trans (b24.mono HB23.out.size))
      have FF24 := Lib.hid n24
      clear n24
      clear b24 hw24 hG24
      refine (n_own_some nm_o FX24.out (pa_nil _) (by simp) (by decide +kernel) (by decide +kernel)).mono ?_
      rintro e w25 ⟨rfl, h25⟩
      have FXB25 := Lib.hid ((h25.block _ (Array.getElem?_eq_some_iff.1 FXB24.out).1).trans FXB24.out)
      clear FXB24
      have FX25 := Lib.hid (FX24.out.below h25)
      clear FX24
      have FEB25 := Lib.hid ((h25.block _ (Array.getElem?_eq_some_iff.1 FEB24.out).1).trans FEB24.out)
      clear FEB24
      have FE25 := Lib.hid ((h25.block _ (Array.getElem?_eq_some_iff.1 FE24.out).1).trans FE24.out)
      clear FE24
      have FF25 := Lib.hid ((h25.block _ (Array.getElem?_eq_some_iff.1 FF24.out).1).trans FF24.out)
      clear FF24
      have HB25 := Lib.hid (HB24.out.trans (h25.mono HB24.out.size))
      clear h25
      have b26 : Below w25.heap.size w25 (w25.alloc (.cells #[.int .i64 0, .int .i64 5] 40)) := galloc (Below.refl _ _) _
      obtain ⟨a0, a1, a2, a3⟩ := box4 ((b26.block _ (Array.getElem?_eq_some_iff.1 FEB25.out).1).trans FEB25.out)
      have b26r : Below w25.heap.size w25 ((w25.alloc (.cells #[.int .i64 0, .int .i64 5] 40)).alloc (.cells #[.int .i64 9] 3)) := galloc b26 _
      obtain ⟨e0, e1, e2, e3⟩ := box4 ((b26r.block _ (Array.getElem?_eq_some_iff.1 FXB25.out).1).trans FXB25.out)
      clear b26r
      clear b26
      go_wp2_with fail
      clear a0 a1 a2 a3 e0 e1 e2 e3
      generalize hw26 : w25.alloc (.cells #[.int .i64 0, .int .i64 5] 40) = w26
      generalize hG26 : w25.heap.size = GI
      have hs26 : w26.heap.size = GI + 1 := by rw [← hw26, ← hG26]; first | exact Array.size_push _ | exact World.alloc_heap_size _ _
      have b26 : Below w25.heap.size w25 w26 := by rw [← hw26]; exact galloc (Below.refl _ _) _
      have n26 : w26.heap[GI]? = some (.cells #[.int .i64 0, .int .i64 5] 40 (0, 0)) := by rw [← hw26, ← hG26]; exact World.alloc_heap_new w25 _
      have FXB26 := Lib.hid ((b26.block _ (Array.getElem?_eq_some_iff.1 FXB25.out).1).trans FXB25.out)
      clear FXB25
      have FX26 := Lib.hid (FX25.out.below b26)
      clear FX25
      have FEB26 := Lib.hid ((b26.block _ (Array.getElem?_eq_some_iff.1 FEB25.out).1).trans FEB25.out)
      clear FEB25
      have FE26 := Lib.hid ((b26.block _ (Array.getElem?_eq_some_iff.1 FE25.out).1).trans FE25.out)
      clear FE25
      have FF26 := Lib.hid ((b26.block _ (Array.getElem?_eq_some_iff.1 FF25.out).1).trans FF25.out)
      clear FF25
      have HB26 := Lib.hid (HB25.out.trans (b26.mono HB25.out.size))
      have FI26 := Lib.hid n26
      clear n26
      clear b26 hw26 hG26
      generalize hw27 : w26.alloc (.cells #[.int .i64 9] 3) = w27
      have b27 : Below w26.heap.size w26 w27 := by rw [← hw27]; exact galloc (Below.refl _ _) _
      have hp27 : PaAt w27 (.slice (some ⟨w26.heap.size, 0, none⟩) 1 1) [9] := by rw [← hw27]; exact pa_new w26 9
      rw [hs26] at hp27
      generalize GI + 1 = G27 at hp27 ⊢
      have FXB27 := Lib.hid ((b27.block _ (Array.getElem?_eq_some_iff.1 FXB26.out).1).trans FXB26.out)
      clear FXB26
      have FX27 := Lib.hid (FX26.out.below b27)
      clear FX26
      have FEB27 := Lib.hid ((b27.block _ (Array.getElem?_eq_some_iff.1 FEB26.out).1).trans FEB26.out)
      clear FEB26
      have FE27 := Lib.hid ((b27.block _ (Array.getElem?_eq_some_iff.1 FE26.out).1).trans FE26.out)
      clear FE26
      have FF27 := Lib.hid ((b27.block _ (Array.getElem?_eq_some_iff.1 FF26.out).1).trans FF26.out)
      clear FF26
      have FI27 := Lib.hid ((b27.block _ (Array.getElem?_eq_some_iff.1 FI26.out).1).trans FI26.out)
      clear FI26
      have HB27 := Lib.hid (HB26.out.trans (b27.mono HB26.out.size))
      clear b27 hw27 hs26
      refine (names_put9 FX27.out hp27).mono ?_
      rintro e w28 ⟨p9, c9, rfl, h28⟩
      have FXB28 := Lib.hid ((h28.block _ (Array.getElem?_eq_some_iff.1 FXB27.out).1).trans FXB27.out)
      clear FXB27
      have FX28 := Lib.hid (FX27.out.below h28)
      clear FX27
      have FEB28 := Lib.hid ((h28.block _ (Array.getElem?_eq_some_iff.1 FEB27.out).1).trans FEB27.out)
      clear FEB27
      have FE28 := Lib.hid ((h28.block _ (Array.getElem?_eq_some_iff.1 FE27.out).1).trans FE27.out)
      clear FE27
      have FF28 := Lib.hid ((h28.block _ (Array.getElem?_eq_some_iff.1 FF27.out).1).trans FF27.out)
      clear FF27
      have FI28 := Lib.hid ((h28.block _ (Array.getElem?_eq_some_iff.1 FI27.out).1).trans FI27.out)
      clear FI27
      have HB28 := Lib.hid (HB27.out.trans (h28.mono HB27.out.size))
      clear h28 hp27
      have b29 : Below w28.heap.size w28 (w28.alloc (.cells #[.int .u8 0, .int .u8 0, .string ⟨#[]⟩, .slice p9 0 c9] 27)) := galloc (Below.refl _ _) _
      obtain ⟨a0, a1, a2, a3⟩ := box4 ((b29.block _ (Array.getElem?_eq_some_iff.1 FEB28.out).1).trans FEB28.out)
      obtain ⟨e0, e1, e2, e3⟩ := box4 ((b29.block _ (Array.getElem?_eq_some_iff.1 FXB28.out).1).trans FXB28.out)
      clear b29
      go_wp2_with fail
      clear a0 a1 a2 a3 e0 e1 e2 e3
      generalize hw29 : w28.alloc (.cells #[.int .u8 0, .int .u8 0, .string ⟨#[]⟩, .slice p9 0 c9] 27) = w29
      generalize hG29 : w28.heap.size = G29
      have b29 : Below w28.heap.size w28 w29 := by rw [← hw29]; exact galloc (Below.refl _ _) _
      have FXB29 := Lib.hid ((b29.block _ (Array.getElem?_eq_some_iff.1 FXB28.out).1).trans FXB28.out)
      clear FXB28
      have FX29 := Lib.hid (FX28.out.below b29)
      clear FX28
      have FEB29 := Lib.hid ((b29.block _ (Array.getElem?_eq_some_iff.1 FEB28.out).1).trans FEB28.out)
      clear FEB28
      have FE29 := Lib.hid ((b29.block _ (Array.getElem?_eq_some_iff.1 FE28.out).1).trans FE28.out)
      clear FE28
      have FF29 := Lib.hid ((b29.block _ (Array.getElem?_eq_some_iff.1 FF28.out).1).trans FF28.out)
      clear FF28
      have FI29 := Lib.hid ((b29.block _ (Array.getElem?_eq_some_iff.1 FI28.out).1).trans FI28.out)
      clear FI28
      have HB29 := Lib.hid (HB28.out.trans (b29.mono HB28.out.size))
      clear b29 hw29 hG29
      refine (names_put0 FX29.out (pa_nil _)).mono ?_
      rintro e w30 ⟨p10, c10, rfl, hx10, h30⟩
      have FXB30 := Lib.hid ((h30.block _ (Array.getElem?_eq_some_iff.1 FXB29.out).1).trans FXB29.out)
      clear FXB29
      have FX30 := Lib.hid (FX29.out.below h30)
      clear FX29
      have FEB30 := Lib.hid ((h30.block _ (Array.getElem?_eq_some_iff.1 FEB29.out).1).trans FEB29.out)
      clear FEB29
      have FE30 := Lib.hid ((h30.block _ (Array.getElem?_eq_some_iff.1 FE29.out).1).trans FE29.out)
      clear FE29
      have FF30 := Lib.hid ((h30.block _ (Array.getElem?_eq_some_iff.1 FF29.out).1).trans FF29.out)
      clear FF29
      have FI30 := Lib.hid ((h30.block _ (Array.getElem?_eq_some_iff.1 FI29.out).1).trans FI29.out)
      clear FI29
      have HB30 := Lib.hid (HB29.out.trans (h30.mono HB29.out.size))
      have FL30 := Lib.hid hx10
      clear h30 hx10
      have b31 : Below w30.heap.size w30 (w30.alloc (.cells #[.int .u8 1, .int .u8 4, .string ⟨#[120]⟩, .slice p10 0 c10] 27)) := galloc (Below.refl _ _) _
      obtain ⟨a0, a1, a2, a3⟩ := box4 ((b31.block _ (Array.getElem?_eq_some_iff.1 FEB30.out).1).trans FEB30.out)
      clear b31
      go_wp2_with fail
      clear a0 a1 a2 a3
      generalize hw31 : w30.alloc (.cells #[.int .u8 1, .int .u8 4, .string ⟨#[120]⟩, .slice p10 0 c10] 27) = w31
      generalize hG31 : w30.heap.size = LBB
      have b31 : Below w30.heap.size w30 w31 := by rw [← hw31]; exact galloc (Below.refl _ _) _
      have n31 : w31.heap[LBB]? = some (.cells #[.int .u8 1, .int .u8 4, .string ⟨#[120]⟩, .slice p10 0 c10] 27 (0, 0)) := by rw [← hw31, ← hG31]; exact World.alloc_heap_new w30 _
      have FXB31 := Lib.hid ((b31.block _ (Array.getElem?_eq_some_iff.1 FXB30.out).1).trans FXB30.out)
      clear FXB30
      have FX31 := Lib.hid (FX30.out.below b31)
      clear FX30
      have FEB31 := Lib.hid ((b31.block _ (Array.getElem?_eq_some_iff.1 FEB30.out).1).trans FEB30.out)
      clear FEB30
      have FE31 := Lib.hid ((b31.block _ (Array.getElem?_eq_some_iff.1 FE30.out).1).trans FE30.out)
      clear FE30
      have FF31 := Lib.hid ((b31.block _ (Array.getElem?_eq_some_iff.1 FF30.out).1).trans FF30.out)
      clear FF30
      have FI31 := Lib.hid ((b31.block _ (Array.getElem?_eq_some_iff.1 FI30.out).1).trans FI30.out)
      clear FI30
      have FL31 := Lib.hid (FL30.out.below b31)
      clear FL30
      have HB31 := Lib.hid (HB30.out.trans (b31.mono HB30.out.size))
      have FLB31 := Lib.hid n31
      clear n31
      clear b31 hw31 hG31
      refine (find_none nm_fm FX31.out (by decide +kernel) (by decide +kernel)).mono ?_
      rintro e w32 ⟨rfl, h32⟩
      have FXB32 := Lib.hid ((h32.block _ (Array.getElem?_eq_some_iff.1 FXB31.out).1).trans FXB31.out)
      clear FXB31
      have FX32 := Lib.hid (FX31.out.below h32)
      clear FX31
      have FEB32 := Lib.hid ((h32.block _ (Array.getElem?_eq_some_iff.1 FEB31.out).1).trans FEB31.out)
      clear FEB31
      have FE32 := Lib.hid ((h32.block _ (Array.getElem?_eq_some_iff.1 FE31.out).1).trans FE31.out)
      clear FE31
      have FF32 := Lib.hid ((h32.block _ (Array.getElem?_eq_some_iff.1 FF31.out).1).trans FF31.out)
      clear FF31
      have FI32 := Lib.hid ((h32.block _ (Array.getElem?_eq_some_iff.1 FI31.out).1).trans FI31.out)
      clear FI31
      have FL32 := Lib.hid (FL31.out.below h32)
      clear FL31
      have FLB32 := Lib.hid ((h32.block _ (Array.getElem?_eq_some_iff.1 FLB31.out).1).trans FLB31.out)
      clear FLB31
      have HB32 := Lib.hid (HB31.out.trans (h32.mono HB31.out.size))
      clear h32
      go_wp2_with fail
      refine (doc_leaf none 0 0 w32).mono ?_
      rintro e w33 ⟨rfl, h33⟩
      have FXB33 := Lib.hid ((h33.block _ (Array.getElem?_eq_some_iff.1 FXB32.out).1).trans FXB32.out)
      clear FXB32
      have FX33 := Lib.hid (FX32.out.below h33)
      clear FX32
      have FEB33 := Lib.hid ((h33.block _ (Array.getElem?_eq_some_iff.1 FEB32.out).1).trans FEB32.out)
      clear FEB32
      have FE33 := Lib.hid ((h33.block _ (Array.getElem?_eq_some_iff.1 FE32.out).1).trans FE32.out)
      clear FE32
      have FF33 := Lib.hid ((h33.block _ (Array.getElem?_eq_some_iff.1 FF32.out).1).trans FF32.out)
      clear FF32
      have FI33 := Lib.hid ((h33.block _ (Array.getElem?_eq_some_iff.1 FI32.out).1).trans FI32.out)
      clear FI32
      have FL33 := Lib.hid (FL32.out.below h33)
      clear FL32
      have FLB33 := Lib.hid ((h33.block _ (Array.getElem?_eq_some_iff.1 FLB32.out).1).trans FLB32.out)
      clear FLB32
      have HB33 := Lib.hid (HB32.out.trans (h33.mono HB32.out.size))
      clear h33
      go_wp2_with fail
      refine (find_none nm_f0 (nat_leaf _ _ 4 (0, [])) (by decide +kernel) (by decide +kernel)).mono ?_
      rintro e w34 ⟨rfl, h34⟩
      have FXB34 := Lib.hid ((h34.block _ (Array.getElem?_eq_some_iff.1 FXB33.out).1).trans FXB33.out)
      clear FXB33
      have FX34 := Lib.hid (FX33.out.below h34)
      clear FX33
      have FEB34 := Lib.hid ((h34.block _ (Array.getElem?_eq_some_iff.1 FEB33.out).1).trans FEB33.out)
      clear FEB33
      have FE34 := Lib.hid ((h34.block _ (Array.getElem?_eq_some_iff.1 FE33.out).1).trans FE33.out)
      clear FE33
      have FF34 := Lib.hid ((h34.block _ (Array.getElem?_eq_some_iff.1 FF33.out).1).trans FF33.out)
      clear FF33
      have FI34 := Lib.hid ((h34.block _ (Array.getElem?_eq_some_iff.1 FI33.out).1).trans FI33.out)
      clear FI33
      have FL34 := Lib.hid (FL33.out.below h34)
      clear FL33
      have FLB34 := Lib.hid ((h34.block _ (Array.getElem?_eq_some_iff.1 FLB33.out).1).trans FLB33.out)
      clear FLB33
      have HB34 := Lib.hid (HB33.out.trans (h34.mono HB33.out.size))
      clear h34
      clear FEB34
      clear FX34
      have e0 : w34.cell? ⟨GE, 0, none⟩ = some (.int .i64 3) := by rw [cellH FE34.out]; rfl
      have e1 : w34.cell? ⟨GE, 1, none⟩ = some (.int .i64 4) := by rw [cellH FE34.out]; rfl
      have f0 : w34.cell? ⟨GF, 0, none⟩ = some (.int .i64 4) := by rw [cellH FF34.out]; rfl
      have f1 : w34.cell? ⟨GF, 1, none⟩ = some (.int .i64 4) := by rw [cellH FF34.out]; rfl
      have i0 : w34.cell? ⟨GI, 0, none⟩ = some (.int .i64 0) := by rw [cellH FI34.out]; rfl
      have i1 : w34.cell? ⟨GI, 1, none⟩ = some (.int .i64 5) := by rw [cellH FI34.out]; rfl
      obtain ⟨l0, l1, l2, l3⟩ := box4 FLB34.out
      obtain ⟨x0, x1, x2, x3⟩ := box4 FXB34.out
      have hsp : ∀ (a b : Int) (W : World), (binOp .eql 40 (.agg #[.int .i64 a, .int .i64 b]) (.agg #[.int .i64 a, .int .i64 b])).run Tryz.prog W = .ok (.bool true) W := fun a b W => by simp [go_sem]
      go_wp2_with fail
      refine (names_same FL34.out).mono ?_
      rintro e w35 ⟨rfl, h35⟩
      clear e0 e1 f0 f1 i0 i1 l0 l1 l2 l3 x0 x1 x2 x3
      have FXB35 := Lib.hid ((h35.block _ (Array.getElem?_eq_some_iff.1 FXB34.out).1).trans FXB34.out)
      clear FXB34
      have FE35 := Lib.hid ((h35.block _ (Array.getElem?_eq_some_iff.1 FE34.out).1).trans FE34.out)
      clear FE34
      have FF35 := Lib.hid ((h35.block _ (Array.getElem?_eq_some_iff.1 FF34.out).1).trans FF34.out)
      clear FF34
      have FI35 := Lib.hid ((h35.block _ (Array.getElem?_eq_some_iff.1 FI34.out).1).trans FI34.out)
      clear FI34
      have FL35 := Lib.hid (FL34.out.below h35)
      clear FL34
      have FLB35 := Lib.hid ((h35.block _ (Array.getElem?_eq_some_iff.1 FLB34.out).1).trans FLB34.out)
      clear FLB34
      have HB35 := Lib.hid (HB34.out.trans (h35.mono HB34.out.size))
      clear h35
      clear hsp
      go_wp2
      go_ret
      exact ⟨rfl, HB35.out⟩
end Go.Proofs.YtingfomfibhnhaaGreatDoor
