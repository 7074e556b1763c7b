/-
  works: the example is as it is told.
-/
import Derived.Test.YtingfomfibhnhaaGreatDoorMgHI
import Derived.Test.YtingfomfibhnhaaGreatDoorMgHD
import Derived.Test.YtingfomfibhnhaaGreatDoorMgHF
import Derived.Test.YtingfomfibhnhaaGreatDoorMgHJ
import Derived.Test.YtingfomfibhnhaaGreatDoorMgHK
namespace Go.Proofs.YtingfomfibhnhaaGreatDoor
open Go.RowKit Go.Shelf

def RetEnd (v : Value) (w : World) (e : Ending) (w' : World) : Prop := e = .returned v ∧ Below w.heap.size w w'
abbrev EX (C : Nat) : Value := .agg #[.int .u8 4, .int .u8 0, .string ⟨#[]⟩, .slice (some ⟨C, 0, none⟩) 4 4]
abbrev EXc (C : Nat) : List Value := [.int .u8 4, .int .u8 0, .string ⟨#[]⟩, .slice (some ⟨C, 0, none⟩) 4 4]
theorem ex_count : countT exT ≤ 100000 := by decide +kernel
theorem ex_size : sizeT exT ≤ 1000000 := by decide +kernel
theorem ex_f1 : fullA exT [1] = (3, 5, 0) := by kernel_rfl
theorem ex_o1 : ownA exT [1] = (4, 5, 0) := by kernel_rfl
theorem ex_o2 : ownA exT [2] = (5, 5, 0) := by kernel_rfl
theorem ex_p3 : findP exT 3 = some [1] := by kernel_rfl
theorem ex_p5 : findP exT 5 = some [3] := by kernel_rfl
theorem ex_p6 : findP exT 6 = none := by kernel_rfl
theorem ex_text : textT exT = [108, 101, 116, 32, 120, 10] := by kernel_rfl
theorem ex_toks : (toksT exT).length = 4 := by kernel_rfl
theorem ex_check : checkT exT = 0 := by decide +kernel
theorem ex_full {w : World} {C g : Nat} {i : Int} {s : Nat × Nat × Nat} (hs : fullA exT [i] = s) (hx : NAt AnyB w exT (EXc C)) (hl : PaAt w (.slice (some ⟨g, 0, none⟩) 1 1) [i]) : Calls Tryz.prog 15 #[EX C, .slice (some ⟨g, 0, none⟩) 1 1] w (RetEnd (.tuple #[.agg #[.int .i64 s.1, .int .i64 s.2.1], .int .i64 s.2.2]) w) := by
  have := full_any exT [i] w (some ⟨C, 0, none⟩) 4 _ hx hl (by simp) ex_count (by have := ex_size; omega)
  rw [hs] at this; exact this
theorem ex_own {w : World} {C g : Nat} {i : Int} {s : Nat × Nat × Nat} (hs : ownA exT [i] = s) (hx : NAt AnyB w exT (EXc C)) (hl : PaAt w (.slice (some ⟨g, 0, none⟩) 1 1) [i]) : Calls Tryz.prog 16 #[EX C, .slice (some ⟨g, 0, none⟩) 1 1] w (RetEnd (.tuple #[.agg #[.int .i64 s.1, .int .i64 s.2.1], .int .i64 s.2.2]) w) := by
  have := gown_any exT [i] w (some ⟨C, 0, none⟩) 4 _ hx hl (by simp) ex_count (by have := ex_size; omega)
  rw [hs] at this; exact this
theorem ex_find {w : World} {C : Nat} {a : Int} {i : Nat} (hs : findP exT a = some [i]) (hx : NAt AnyB w exT (EXc C)) : Calls Tryz.prog 18 #[EX C, .int .i64 a] w fun e w' => ∃ p c, e = .returned (.tuple #[.slice p 1 c, .int .i64 0]) ∧ PaAt w' (.slice p 1 c) [(i : Int)] ∧ Below w.heap.size w w' := by
  have := find_any exT (some ⟨C, 0, none⟩) 4 a w hx ex_count (by have := ex_size; omega)
  rw [hs] at this
  exact this.mono fun e w' h => by
    obtain ⟨h1, p, c, h2, h3⟩ := h
    exact ⟨p, c, h2, pa_of_row h3, h1⟩
theorem ex_find6 {w : World} {C : Nat} (hx : NAt AnyB w exT (EXc C)) : Calls Tryz.prog 18 #[EX C, .int .i64 6] w (RetEnd (.tuple #[.slice none 0 0, .int .i64 1]) w) := by
  have := find_any exT (some ⟨C, 0, none⟩) 4 6 w hx ex_count (by have := ex_size; omega)
  rw [ex_p6] at this
  exact this.mono fun e w' h => ⟨h.2, h.1⟩
theorem ex_txt {w : World} {C : Nat} (hx : NAt AnyB w exT (EXc C)) : Calls Tryz.prog 22 #[EX C] w (RetEnd (.string ⟨#[108, 101, 116, 32, 120, 10]⟩) w) := by
  have := text_any exT (some ⟨C, 0, none⟩) 4 w hx (by have := ex_count; omega) (by have := ex_size; omega)
  rw [ex_text] at this; exact this
theorem ex_tks {w : World} {C : Nat} (hx : NAt AnyB w exT (EXc C)) : Calls Tryz.prog 25 #[EX C] w fun e w' => ∃ p c, e = .returned (.slice p 4 c) ∧ Below w.heap.size w w' :=
  (gtokens_any exT (some ⟨C, 0, none⟩) 4 w hx ex_count (by have := ex_size; omega)).mono fun e w' h => by
    obtain ⟨v, h1, h2, h3⟩ := h
    obtain ⟨p, c, rfl⟩ := owns_shape h2
    rw [ex_toks] at h1
    exact ⟨p, c, h1, h3⟩
theorem ex_chk {w : World} {C : Nat} (hx : NAt AnyB w exT (EXc C)) (hE : Env w) : Calls Tryz.prog 12 #[EX C] w (RetEnd (.int .i64 0) w) := by
  have := gcheck_any exT (some ⟨C, 0, none⟩) 4 w hx ex_count ex_size hE
  rw [ex_check] at this; exact this
theorem pa_new (w : World) (i : Int) : PaAt (w.alloc (.cells #[.int .i64 i] 3)) (.slice (some ⟨w.heap.size, 0, none⟩) 1 1) [i] := sl_block (World.alloc_heap_new w _) trivial 1 1 rfl
set_option maxRecDepth 100000 in
set_option maxHeartbeats 16000000 in
theorem gworks_any (W : World) (hE : Env W) : Calls Tryz.prog 8 #[] W (BoolEnd true W) := by
  have HE := Lib.hid hE
  clear hE
  go_enter Tryz.func8, Tryz.ntmps8
  go_wp2_with fail
  refine (example_any W).mono ?_
  rintro e w1 ⟨C, rfl, hx, h1⟩
  obtain ⟨w2, hw2⟩ : ∃ w, w1.alloc (.cells #[.int .u8 4, .int .u8 0, .string ⟨#[]⟩, .slice (some ⟨C, 0, none⟩) 4 4] 27) = w := ⟨_, rfl⟩
  have n2 : w2.heap[w1.heap.size]? = some (.cells #[.int .u8 4, .int .u8 0, .string ⟨#[]⟩, .slice (some ⟨C, 0, none⟩) 4 4] 27 (0, 0)) := by rw [← hw2]; exact World.alloc_heap_new w1 _
  have b2 : Below w1.heap.size w1 w2 := by rw [← hw2]; exact galloc (Below.refl _ _) _
  obtain ⟨N, hN⟩ : ∃ N, w1.heap.size = N := ⟨_, rfl⟩
  rw [hN] at n2
  have HB2 := Lib.hid (h1.trans (b2.mono h1.size))
  have HN2 := Lib.hid n2
  have HX2 := Lib.hid (hx.below b2)
  obtain ⟨a0, a1, a2, a3⟩ := box4 n2
  clear hx h1 b2 n2
  obtain ⟨w3, hw3⟩ : ∃ w, w2.alloc (.cells #[.int .i64 1] 3) = w := ⟨_, rfl⟩
  have b3 : Below w2.heap.size w2 w3 := by rw [← hw3]; exact galloc (Below.refl _ _) _
  have n3 : w3.heap[w2.heap.size]? = some (.cells #[.int .i64 1] 3 (0, 0)) := by rw [← hw3]; exact World.alloc_heap_new w2 _
  have hp3 : PaAt w3 (.slice (some ⟨w2.heap.size, 0, none⟩) 1 1) [1] := by rw [← hw3]; exact pa_new w2 1
  obtain ⟨G3, hG3⟩ : ∃ G, w2.heap.size = G := ⟨_, rfl⟩
  rw [hG3] at n3 hp3
  have KN3 := Lib.hid ((b3.block _ (Array.getElem?_eq_some_iff.1 HN2.out).1).trans HN2.out)
  have HB3 := Lib.hid (HB2.out.trans (b3.mono HB2.out.size))
  have HX3 := Lib.hid (HX2.out.below b3)
  clear b3 n3
  go_wp2_with fail
  refine (ex_full ex_f1 HX3.out hp3).mono ?_
  rintro e w4 ⟨rfl, h4⟩
  have KN4 := Lib.hid ((h4.block _ (Array.getElem?_eq_some_iff.1 KN3.out).1).trans KN3.out)
  have HB4 := Lib.hid (HB3.out.trans (h4.mono HB3.out.size))
  have HX4 := Lib.hid (HX3.out.below h4)
  clear h4 a0 a1 a2 a3 hp3
  obtain ⟨a0, a1, a2, a3⟩ := box4 KN4.out
  obtain ⟨w5, hw5⟩ : ∃ w, w4.alloc (.cells #[.int .i64 3, .int .i64 5] 40) = w := ⟨_, rfl⟩
  have b5 : Below w4.heap.size w4 w5 := by rw [← hw5]; exact galloc (Below.refl _ _) _
  have n5 : w5.heap[w4.heap.size]? = some (.cells #[.int .i64 3, .int .i64 5] 40 (0, 0)) := by rw [← hw5]; exact World.alloc_heap_new w4 _
  obtain ⟨G5, hG5⟩ : ∃ G, w4.heap.size = G := ⟨_, rfl⟩
  rw [hG5] at n5
  have KN5 := Lib.hid ((b5.block _ (Array.getElem?_eq_some_iff.1 KN4.out).1).trans KN4.out)
  have HB5 := Lib.hid (HB4.out.trans (b5.mono HB4.out.size))
  have HX5 := Lib.hid (HX4.out.below b5)
  have KSA5 := Lib.hid n5
  clear b5 n5
  clear a0 a1 a2 a3
  obtain ⟨a0, a1, a2, a3⟩ := box4 KN5.out
  obtain ⟨w6, hw6⟩ : ∃ w, w5.alloc (.cells #[.int .i64 1] 3) = w := ⟨_, rfl⟩
  have b6 : Below w5.heap.size w5 w6 := by rw [← hw6]; exact galloc (Below.refl _ _) _
  have n6 : w6.heap[w5.heap.size]? = some (.cells #[.int .i64 1] 3 (0, 0)) := by rw [← hw6]; exact World.alloc_heap_new w5 _
  have hp6 : PaAt w6 (.slice (some ⟨w5.heap.size, 0, none⟩) 1 1) [1] := by rw [← hw6]; exact pa_new w5 1
  obtain ⟨G6, hG6⟩ : ∃ G, w5.heap.size = G := ⟨_, rfl⟩
  rw [hG6] at n6 hp6
  have KN6 := Lib.hid ((b6.block _ (Array.getElem?_eq_some_iff.1 KN5.out).1).trans KN5.out)
  have KSA6 := Lib.hid ((b6.block _ (Array.getElem?_eq_some_iff.1 KSA5.out).1).trans KSA5.out)
  have HB6 := Lib.hid (HB5.out.trans (b6.mono HB5.out.size))
  have HX6 := Lib.hid (HX5.out.below b6)
  clear b6 n6
  go_wp2_with fail
  refine (ex_own ex_o1 HX6.out hp6).mono ?_
  rintro e w7 ⟨rfl, h7⟩
  have KN7 := Lib.hid ((h7.block _ (Array.getElem?_eq_some_iff.1 KN6.out).1).trans KN6.out)
  have KSA7 := Lib.hid ((h7.block _ (Array.getElem?_eq_some_iff.1 KSA6.out).1).trans KSA6.out)
  have HB7 := Lib.hid (HB6.out.trans (h7.mono HB6.out.size))
  have HX7 := Lib.hid (HX6.out.below h7)
  clear h7 a0 a1 a2 a3 hp6
  obtain ⟨a0, a1, a2, a3⟩ := box4 KN7.out
  obtain ⟨w8, hw8⟩ : ∃ w, w7.alloc (.cells #[.int .i64 4, .int .i64 5] 40) = w := ⟨_, rfl⟩
  have b8 : Below w7.heap.size w7 w8 := by rw [← hw8]; exact galloc (Below.refl _ _) _
  have n8 : w8.heap[w7.heap.size]? = some (.cells #[.int .i64 4, .int .i64 5] 40 (0, 0)) := by rw [← hw8]; exact World.alloc_heap_new w7 _
  obtain ⟨G8, hG8⟩ : ∃ G, w7.heap.size = G := ⟨_, rfl⟩
  rw [hG8] at n8
  have KN8 := Lib.hid ((b8.block _ (Array.getElem?_eq_some_iff.1 KN7.out).1).trans KN7.out)
  have KSA8 := Lib.hid ((b8.block _ (Array.getElem?_eq_some_iff.1 KSA7.out).1).trans KSA7.out)
  have HB8 := Lib.hid (HB7.out.trans (b8.mono HB7.out.size))
  have HX8 := Lib.hid (HX7.out.below b8)
  have KSB8 := Lib.hid n8
  clear b8 n8
  clear a0 a1 a2 a3
  obtain ⟨a0, a1, a2, a3⟩ := box4 KN8.out
  obtain ⟨w9, hw9⟩ : ∃ w, w8.alloc (.cells #[.int .i64 2] 3) = w := ⟨_, rfl⟩
  have b9 : Below w8.heap.size w8 w9 := by rw [← hw9]; exact galloc (Below.refl _ _) _
  have n9 : w9.heap[w8.heap.size]? = some (.cells #[.int .i64 2] 3 (0, 0)) := by rw [← hw9]; exact World.alloc_heap_new w8 _
  have hp9 : PaAt w9 (.slice (some ⟨w8.heap.size, 0, none⟩) 1 1) [2] := by rw [← hw9]; exact pa_new w8 2
  obtain ⟨G9, hG9⟩ : ∃ G, w8.heap.size = G := ⟨_, rfl⟩
  rw [hG9] at n9 hp9
  have KN9 := Lib.hid ((b9.block _ (Array.getElem?_eq_some_iff.1 KN8.out).1).trans KN8.out)
  have KSA9 := Lib.hid ((b9.block _ (Array.getElem?_eq_some_iff.1 KSA8.out).1).trans KSA8.out)
  have KSB9 := Lib.hid ((b9.block _ (Array.getElem?_eq_some_iff.1 KSB8.out).1).trans KSB8.out)
  have HB9 := Lib.hid (HB8.out.trans (b9.mono HB8.out.size))
  have HX9 := Lib.hid (HX8.out.below b9)
  clear b9 n9
  go_wp2_with fail
  refine (ex_own ex_o2 HX9.out hp9).mono ?_
  rintro e w10 ⟨rfl, h10⟩
  have KN10 := Lib.hid ((h10.block _ (Array.getElem?_eq_some_iff.1 KN9.out).1).trans KN9.out)
  have KSA10 := Lib.hid ((h10.block _ (Array.getElem?_eq_some_iff.1 KSA9.out).1).trans KSA9.out)
  have KSB10 := Lib.hid ((h10.block _ (Array.getElem?_eq_some_iff.1 KSB9.out).1).trans KSB9.out)
  have HB10 := Lib.hid (HB9.out.trans (h10.mono HB9.out.size))
  have HX10 := Lib.hid (HX9.out.below h10)
  clear h10 a0 a1 a2 a3 hp9
  obtain ⟨a0, a1, a2, a3⟩ := box4 KN10.out
  obtain ⟨w11, hw11⟩ : ∃ w, w10.alloc (.cells #[.int .i64 5, .int .i64 5] 40) = w := ⟨_, rfl⟩
  have b11 : Below w10.heap.size w10 w11 := by rw [← hw11]; exact galloc (Below.refl _ _) _
  have n11 : w11.heap[w10.heap.size]? = some (.cells #[.int .i64 5, .int .i64 5] 40 (0, 0)) := by rw [← hw11]; exact World.alloc_heap_new w10 _
  obtain ⟨G11, hG11⟩ : ∃ G, w10.heap.size = G := ⟨_, rfl⟩
  rw [hG11] at n11
  have KN11 := Lib.hid ((b11.block _ (Array.getElem?_eq_some_iff.1 KN10.out).1).trans KN10.out)
  have KSA11 := Lib.hid ((b11.block _ (Array.getElem?_eq_some_iff.1 KSA10.out).1).trans KSA10.out)
  have KSB11 := Lib.hid ((b11.block _ (Array.getElem?_eq_some_iff.1 KSB10.out).1).trans KSB10.out)
  have HB11 := Lib.hid (HB10.out.trans (b11.mono HB10.out.size))
  have HX11 := Lib.hid (HX10.out.below b11)
  have KSC11 := Lib.hid n11
  clear b11 n11
  clear a0 a1 a2 a3
  obtain ⟨a0, a1, a2, a3⟩ := box4 KN11.out
  go_wp2_with fail
  refine (ex_find ex_p3 HX11.out).mono ?_
  rintro e w12 ⟨pA, cA, rfl, hpA, h12⟩
  have KN12 := Lib.hid ((h12.block _ (Array.getElem?_eq_some_iff.1 KN11.out).1).trans KN11.out)
  have KSA12 := Lib.hid ((h12.block _ (Array.getElem?_eq_some_iff.1 KSA11.out).1).trans KSA11.out)
  have KSB12 := Lib.hid ((h12.block _ (Array.getElem?_eq_some_iff.1 KSB11.out).1).trans KSB11.out)
  have KSC12 := Lib.hid ((h12.block _ (Array.getElem?_eq_some_iff.1 KSC11.out).1).trans KSC11.out)
  have HB12 := Lib.hid (HB11.out.trans (h12.mono HB11.out.size))
  have HX12 := Lib.hid (HX11.out.below h12)
  have PA12 := Lib.hid hpA
  clear h12 a0 a1 a2 a3 hpA
  obtain ⟨a0, a1, a2, a3⟩ := box4 KN12.out
  go_wp2_with fail
  refine (ex_find ex_p5 HX12.out).mono ?_
  rintro e w13 ⟨pB, cB, rfl, hpB, h13⟩
  have KN13 := Lib.hid ((h13.block _ (Array.getElem?_eq_some_iff.1 KN12.out).1).trans KN12.out)
  have KSA13 := Lib.hid ((h13.block _ (Array.getElem?_eq_some_iff.1 KSA12.out).1).trans KSA12.out)
  have KSB13 := Lib.hid ((h13.block _ (Array.getElem?_eq_some_iff.1 KSB12.out).1).trans KSB12.out)
  have KSC13 := Lib.hid ((h13.block _ (Array.getElem?_eq_some_iff.1 KSC12.out).1).trans KSC12.out)
  have PA13 := Lib.hid (PA12.out.below h13)
  have HB13 := Lib.hid (HB12.out.trans (h13.mono HB12.out.size))
  have HX13 := Lib.hid (HX12.out.below h13)
  have PB13 := Lib.hid hpB
  clear h13 a0 a1 a2 a3 hpB
  obtain ⟨a0, a1, a2, a3⟩ := box4 KN13.out
  go_wp2_with fail
  refine (ex_find6 HX13.out).mono ?_
  rintro e w14 ⟨rfl, h14⟩
  have KN14 := Lib.hid ((h14.block _ (Array.getElem?_eq_some_iff.1 KN13.out).1).trans KN13.out)
  have KSA14 := Lib.hid ((h14.block _ (Array.getElem?_eq_some_iff.1 KSA13.out).1).trans KSA13.out)
  have KSB14 := Lib.hid ((h14.block _ (Array.getElem?_eq_some_iff.1 KSB13.out).1).trans KSB13.out)
  have KSC14 := Lib.hid ((h14.block _ (Array.getElem?_eq_some_iff.1 KSC13.out).1).trans KSC13.out)
  have PA14 := Lib.hid (PA13.out.below h14)
  have PB14 := Lib.hid (PB13.out.below h14)
  have HB14 := Lib.hid (HB13.out.trans (h14.mono HB13.out.size))
  have HX14 := Lib.hid (HX13.out.below h14)
  clear h14 a0 a1 a2 a3
  obtain ⟨a0, a1, a2, a3⟩ := box4 KN14.out
  go_wp2_with fail
  refine (ex_txt HX14.out).mono ?_
  rintro e w15 ⟨rfl, h15⟩
  have KN15 := Lib.hid ((h15.block _ (Array.getElem?_eq_some_iff.1 KN14.out).1).trans KN14.out)
  have KSA15 := Lib.hid ((h15.block _ (Array.getElem?_eq_some_iff.1 KSA14.out).1).trans KSA14.out)
  have KSB15 := Lib.hid ((h15.block _ (Array.getElem?_eq_some_iff.1 KSB14.out).1).trans KSB14.out)
  have KSC15 := Lib.hid ((h15.block _ (Array.getElem?_eq_some_iff.1 KSC14.out).1).trans KSC14.out)
  have PA15 := Lib.hid (PA14.out.below h15)
  have PB15 := Lib.hid (PB14.out.below h15)
  have HB15 := Lib.hid (HB14.out.trans (h15.mono HB14.out.size))
  have HX15 := Lib.hid (HX14.out.below h15)
  clear h15 a0 a1 a2 a3
  obtain ⟨a0, a1, a2, a3⟩ := box4 KN15.out
  go_wp2_with fail
  refine (ex_tks HX15.out).mono ?_
  rintro e w16 ⟨pT, cT, rfl, h16⟩
  have KN16 := Lib.hid ((h16.block _ (Array.getElem?_eq_some_iff.1 KN15.out).1).trans KN15.out)
  have KSA16 := Lib.hid ((h16.block _ (Array.getElem?_eq_some_iff.1 KSA15.out).1).trans KSA15.out)
  have KSB16 := Lib.hid ((h16.block _ (Array.getElem?_eq_some_iff.1 KSB15.out).1).trans KSB15.out)
  have KSC16 := Lib.hid ((h16.block _ (Array.getElem?_eq_some_iff.1 KSC15.out).1).trans KSC15.out)
  have PA16 := Lib.hid (PA15.out.below h16)
  have PB16 := Lib.hid (PB15.out.below h16)
  have HB16 := Lib.hid (HB15.out.trans (h16.mono HB15.out.size))
  have HX16 := Lib.hid (HX15.out.below h16)
  clear h16 a0 a1 a2 a3
  obtain ⟨a0, a1, a2, a3⟩ := box4 KN16.out
  have qSA0 : w16.cell? ⟨G5, 0, none⟩ = some (.int .i64 3) := by rw [cellH KSA16.out]; rfl
  have qSA1 : w16.cell? ⟨G5, 1, none⟩ = some (.int .i64 5) := by rw [cellH KSA16.out]; rfl
  have qSB0 : w16.cell? ⟨G8, 0, none⟩ = some (.int .i64 4) := by rw [cellH KSB16.out]; rfl
  have qSB1 : w16.cell? ⟨G8, 1, none⟩ = some (.int .i64 5) := by rw [cellH KSB16.out]; rfl
  have qSC0 : w16.cell? ⟨G11, 0, none⟩ = some (.int .i64 5) := by rw [cellH KSC16.out]; rfl
  have qSC1 : w16.cell? ⟨G11, 1, none⟩ = some (.int .i64 5) := by rw [cellH KSC16.out]; rfl
  have hsp : ∀ (a b : Int) (W : World), (binOp .eql 40 (.agg #[.int .i64 a, .int .i64 b]) (.agg #[.int .i64 a, .int .i64 b])).run Tryz.prog W = .ok (.bool true) W := fun a b W => by simp [go_sem]
  obtain ⟨w17, hw17⟩ : ∃ w, w16.alloc (.cells #[.int .i64 1] 3) = w := ⟨_, rfl⟩
  have b17 : Below w16.heap.size w16 w17 := by rw [← hw17]; exact galloc (Below.refl _ _) _
  have n17 : w17.heap[w16.heap.size]? = some (.cells #[.int .i64 1] 3 (0, 0)) := by rw [← hw17]; exact World.alloc_heap_new w16 _
  have hp17 : PaAt w17 (.slice (some ⟨w16.heap.size, 0, none⟩) 1 1) [1] := by rw [← hw17]; exact pa_new w16 1
  obtain ⟨G17, hG17⟩ : ∃ G, w16.heap.size = G := ⟨_, rfl⟩
  rw [hG17] at n17 hp17
  have KN17 := Lib.hid ((b17.block _ (Array.getElem?_eq_some_iff.1 KN16.out).1).trans KN16.out)
  have KSA17 := Lib.hid ((b17.block _ (Array.getElem?_eq_some_iff.1 KSA16.out).1).trans KSA16.out)
  have KSB17 := Lib.hid ((b17.block _ (Array.getElem?_eq_some_iff.1 KSB16.out).1).trans KSB16.out)
  have KSC17 := Lib.hid ((b17.block _ (Array.getElem?_eq_some_iff.1 KSC16.out).1).trans KSC16.out)
  have PA17 := Lib.hid (PA16.out.below b17)
  have PB17 := Lib.hid (PB16.out.below b17)
  have HB17 := Lib.hid (HB16.out.trans (b17.mono HB16.out.size))
  have HX17 := Lib.hid (HX16.out.below b17)
  clear b17 n17
  have hq17 := paths_any [1] [1] _ _ w17 (PA17.out) hp17 (by simp)
  rw [show decide (([1] : List Int) = [1]) = true from rfl] at hq17
  clear a0 a1 a2 a3
  obtain ⟨a0, a1, a2, a3⟩ := box4 KN17.out
  clear hp17
  go_wp2_with fail
  refine (hq17).mono ?_
  rintro e w18 ⟨rfl, h18⟩
  have KN18 := Lib.hid ((h18.block _ (Array.getElem?_eq_some_iff.1 KN17.out).1).trans KN17.out)
  have KSA18 := Lib.hid ((h18.block _ (Array.getElem?_eq_some_iff.1 KSA17.out).1).trans KSA17.out)
  have KSB18 := Lib.hid ((h18.block _ (Array.getElem?_eq_some_iff.1 KSB17.out).1).trans KSB17.out)
  have KSC18 := Lib.hid ((h18.block _ (Array.getElem?_eq_some_iff.1 KSC17.out).1).trans KSC17.out)
  have PA18 := Lib.hid (PA17.out.below h18)
  have PB18 := Lib.hid (PB17.out.below h18)
  have HB18 := Lib.hid (HB17.out.trans (h18.mono HB17.out.size))
  have HX18 := Lib.hid (HX17.out.below h18)
  clear h18 a0 a1 a2 a3 hq17
  obtain ⟨a0, a1, a2, a3⟩ := box4 KN18.out
  obtain ⟨w19, hw19⟩ : ∃ w, w18.alloc (.cells #[.int .i64 3] 3) = w := ⟨_, rfl⟩
  have b19 : Below w18.heap.size w18 w19 := by rw [← hw19]; exact galloc (Below.refl _ _) _
  have n19 : w19.heap[w18.heap.size]? = some (.cells #[.int .i64 3] 3 (0, 0)) := by rw [← hw19]; exact World.alloc_heap_new w18 _
  have hp19 : PaAt w19 (.slice (some ⟨w18.heap.size, 0, none⟩) 1 1) [3] := by rw [← hw19]; exact pa_new w18 3
  obtain ⟨G19, hG19⟩ : ∃ G, w18.heap.size = G := ⟨_, rfl⟩
  rw [hG19] at n19 hp19
  have KN19 := Lib.hid ((b19.block _ (Array.getElem?_eq_some_iff.1 KN18.out).1).trans KN18.out)
  have KSA19 := Lib.hid ((b19.block _ (Array.getElem?_eq_some_iff.1 KSA18.out).1).trans KSA18.out)
  have KSB19 := Lib.hid ((b19.block _ (Array.getElem?_eq_some_iff.1 KSB18.out).1).trans KSB18.out)
  have KSC19 := Lib.hid ((b19.block _ (Array.getElem?_eq_some_iff.1 KSC18.out).1).trans KSC18.out)
  have PA19 := Lib.hid (PA18.out.below b19)
  have PB19 := Lib.hid (PB18.out.below b19)
  have HB19 := Lib.hid (HB18.out.trans (b19.mono HB18.out.size))
  have HX19 := Lib.hid (HX18.out.below b19)
  clear b19 n19
  have hq19 := paths_any [3] [3] _ _ w19 (PB19.out) hp19 (by simp)
  rw [show decide (([3] : List Int) = [3]) = true from rfl] at hq19
  clear a0 a1 a2 a3
  obtain ⟨a0, a1, a2, a3⟩ := box4 KN19.out
  clear hp19
  go_wp2_with fail
  refine (hq19).mono ?_
  rintro e w20 ⟨rfl, h20⟩
  have KN20 := Lib.hid ((h20.block _ (Array.getElem?_eq_some_iff.1 KN19.out).1).trans KN19.out)
  have KSA20 := Lib.hid ((h20.block _ (Array.getElem?_eq_some_iff.1 KSA19.out).1).trans KSA19.out)
  have KSB20 := Lib.hid ((h20.block _ (Array.getElem?_eq_some_iff.1 KSB19.out).1).trans KSB19.out)
  have KSC20 := Lib.hid ((h20.block _ (Array.getElem?_eq_some_iff.1 KSC19.out).1).trans KSC19.out)
  have PA20 := Lib.hid (PA19.out.below h20)
  have PB20 := Lib.hid (PB19.out.below h20)
  have HB20 := Lib.hid (HB19.out.trans (h20.mono HB19.out.size))
  have HX20 := Lib.hid (HX19.out.below h20)
  clear h20 a0 a1 a2 a3 hq19
  obtain ⟨a0, a1, a2, a3⟩ := box4 KN20.out
  have hk := ex_chk HX20.out (HE.out.below HB20.out HE.out.size)
  go_wp2_with fail
  refine (hk).mono ?_
  rintro e w21 ⟨rfl, h21⟩
  have KN21 := Lib.hid ((h21.block _ (Array.getElem?_eq_some_iff.1 KN20.out).1).trans KN20.out)
  have KSA21 := Lib.hid ((h21.block _ (Array.getElem?_eq_some_iff.1 KSA20.out).1).trans KSA20.out)
  have KSB21 := Lib.hid ((h21.block _ (Array.getElem?_eq_some_iff.1 KSB20.out).1).trans KSB20.out)
  have KSC21 := Lib.hid ((h21.block _ (Array.getElem?_eq_some_iff.1 KSC20.out).1).trans KSC20.out)
  have PA21 := Lib.hid (PA20.out.below h21)
  have PB21 := Lib.hid (PB20.out.below h21)
  have HB21 := Lib.hid (HB20.out.trans (h21.mono HB20.out.size))
  have HX21 := Lib.hid (HX20.out.below h21)
  clear h21 a0 a1 a2 a3 hk
  obtain ⟨a0, a1, a2, a3⟩ := box4 KN21.out
  go_wp2
  go_ret
  exact ⟨rfl, HB21.out⟩
end Go.Proofs.YtingfomfibhnhaaGreatDoor
