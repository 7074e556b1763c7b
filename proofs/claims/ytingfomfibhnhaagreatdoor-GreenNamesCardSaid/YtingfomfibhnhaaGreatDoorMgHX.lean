/-
  The law GreenFound.
-/
import Derived.Test.YtingfomfibhnhaaGreatDoorMgHT
import Derived.Test.YtingfomfibhnhaaGreatDoorMgHL
import Derived.Test.YtingfomfibhnhaaGreatDoorMgHV
namespace Go.Proofs.YtingfomfibhnhaaGreatDoor
open Go.RowKit Go.Shelf Go.Maps

theorem asInts_inj : ∀ {a b : List Nat}, asInts a = asInts b → a = b
  | [], [], _ => rfl
  | [], _ :: _, h => by cases h
  | _ :: _, [], h => by cases h
  | i :: a, j :: b, h => by
    have h : (i : Int) :: asInts a = (j : Int) :: asInts b := h
    injection h with h1 h2
    rw [Int.ofNat_inj.1 h1, asInts_inj h2]
theorem find_some {x : T} {p : Option Addr} {c : Nat} {a : Int} {q : List Nat} {w : World} (h : findP x a = some q) (hx : NAt AnyB w x (cellsN x p c)) (hc : countT x ≤ 100000) (hs : sizeT x ≤ 100000000) :
    Calls Tryz.prog 18 #[aggN x p c, .int .i64 a] w fun e w' => ∃ p' c', e = .returned (.tuple #[.slice p' q.length c', .int .i64 0]) ∧ PaAt w' (.slice p' q.length c') (asInts q) ∧ Below w.heap.size w w' := by
  have := find_any x p c a w hx hc hs
  rw [h] at this
  exact this.mono fun e w' h => by
    obtain ⟨h1, p', c', h2, h3⟩ := h
    exact ⟨p', c', h2, pa_of_row h3, h1⟩
theorem find_none {x : T} {p : Option Addr} {c : Nat} {a : Int} {w : World} (h : findP x a = none) (hx : NAt AnyB w x (cellsN x p c)) (hc : countT x ≤ 100000) (hs : sizeT x ≤ 100000000) :
    Calls Tryz.prog 18 #[aggN x p c, .int .i64 a] w (RetEnd (.tuple #[.slice none 0 0, .int .i64 1]) w) := by
  have := find_any x p c a w hx hc hs
  rw [h] at this
  exact this.mono fun e w' h => ⟨h.2, h.1⟩
theorem given_r {x : T} {p : Option Addr} {c : Nat} {w : World} (hx : NAt AnyB w x (cellsN x p c)) (hc : countT x ≤ 1000000) :
    Calls Tryz.prog 21 #[aggN x p c] w fun e w' => ∃ (p' : Option Addr) (c' : Nat), e = .returned (aggN x p' c') ∧ NAt AnyB w' x (cellsN x p' c') ∧ Below w.heap.size w w' :=
  (given_any x p c w hx hc).mono fun _ _ ⟨p', c', h1, h2, h3⟩ => ⟨p', c', h1, h2.any, h3⟩
theorem at_some {x m : T} {p : Option Addr} {c : Nat} {l : List Int} {v : Value} {w : World} (h : atT x l = some m) (hx : NAt AnyB w x (cellsN x p c)) (hl : PaAt w v l) (hlen : l.length ≤ 1000000) (hm : countT m ≤ 1000000 ∧ shortT m) :
    Calls Tryz.prog 14 #[aggN x p c, v] w fun e w' => ∃ (p' : Option Addr) (c' : Nat), e = .returned (.tuple #[aggN m p' c', .int .i64 0]) ∧ NAt AnyB w' m (cellsN m p' c') ∧ Below w.heap.size w w' :=
  (At_any x l w p c v hx hl hlen (fun z hz => by rw [h] at hz; cases hz; exact hm)).mono fun e w' h2 => by
    obtain ⟨h3, h4⟩ := h2
    rcases h4 with ⟨h5, _⟩ | ⟨z, p', c', h5, h6, h7⟩
    · rw [h] at h5; cases h5
    · rw [h] at h5; cases h5
      exact ⟨p', c', h6, (NIn.at _ _ _ _ h7).any, h3⟩
theorem full_some {x : T} {p : Option Addr} {c : Nat} {l : List Int} {v : Value} {w : World} {s : Nat × Nat × Nat} (h : fullA x l = s) (hx : NAt AnyB w x (cellsN x p c)) (hl : PaAt w v l) (hlen : l.length ≤ 1000000) (hc : countT x ≤ 100000) (hs : sizeT x ≤ 100000000) :
    Calls Tryz.prog 15 #[aggN x p c, v] w (RetEnd (.tuple #[.agg #[.int .i64 s.1, .int .i64 s.2.1], .int .i64 s.2.2]) w) := by
  have := full_any x l w p c v hx hl hlen hc hs
  rw [h] at this; exact this
theorem text_r {x : T} {p : Option Addr} {c : Nat} {w : World} (hx : NAt AnyB w x (cellsN x p c)) (hc : countT x ≤ 1000000) (hs : sizeT x ≤ 1000000000) : Calls Tryz.prog 22 #[aggN x p c] w (RetEnd (.string ⟨(textT x).toArray⟩) w) :=
  text_any x p c w hx hc hs
theorem count_at : ∀ (l : List Int) (x m : T), atT x l = some m → countT m ≤ countT x ∧ (shortT x → shortT m)
  | [], x, m, h => by
    have h : some x = some m := h
    cases h
    exact ⟨Nat.le_refl _, id⟩
  | i :: l, x, m, h => by
    obtain ⟨j, rfl, hj, h2⟩ := atT_valid h
    obtain ⟨h3, h4⟩ := count_at l _ m h2
    have h5 := (count_kid hj).1
    refine ⟨by omega, fun hs => h4 ?_⟩
    obtain ⟨k, t, ks⟩ := x
    unfold shortT at hs
    exact shortsT_at ks j _ hs.2 (List.getElem?_eq_getElem hj)
set_option maxRecDepth 100000 in
set_option maxHeartbeats 16000000 in
theorem found_walk (x : T) (a : Int) (W : World) (p : Option Addr) (c : Nat) (hE : Env W) (hx : NAt AnyB W x (cellsN x p c)) (hc : countT x ≤ 1048576) :
    Calls Tryz.prog 6 #[aggN x p c, .int .i64 a] W fun e w' => e = .returned (.bool true) ∧ Below W.heap.size W w' := by
  have HE : Hid (∀ w, Below W.heap.size W w → Env w) := Lib.hid fun w hb => hE.below hb hE.size
  have hwt := fun (w : World) (p : Option Addr) (c : Nat) (h : NAt AnyB w x (cellsN x p c)) => weight_any x p c w h (by omega)
  have HWF := Lib.hid (weight_fine x)
  have HWS := Lib.hid (weight_short x)
  obtain ⟨wt, hwte⟩ : ∃ wt, weightT x = wt := ⟨_, rfl⟩
  rw [hwte] at hwt HWF HWS
  have HWT := Lib.hid hwt
  clear hE hc hwte hwt
  obtain ⟨w1, hw1⟩ : ∃ w, W.alloc (.cells #[.int .u8 x.kind, .int .u8 x.tok.1, .string ⟨x.tok.2.toArray⟩, .slice p x.kids.length c] 27) = w := ⟨_, rfl⟩
  have b1 : Below W.heap.size W w1 := by rw [← hw1]; exact galloc (Below.refl _ _) _
  have n1 : w1.heap[W.heap.size]? = some (.cells #[.int .u8 x.kind, .int .u8 x.tok.1, .string ⟨x.tok.2.toArray⟩, .slice p x.kids.length c] 27 (0, 0)) := by rw [← hw1]; exact World.alloc_heap_new W _
  obtain ⟨G1, hG1⟩ : ∃ G, W.heap.size = G := ⟨_, rfl⟩
  rw [hG1] at n1
  have HB1 := Lib.hid b1
  have FN1 := Lib.hid n1
  clear b1 n1
  have hx1 := hx.below (HB1.out)
  have FX1 := Lib.hid hx1
  clear hx hx1
  go_enter Tryz.func6, Tryz.ntmps6
  obtain ⟨a0, a1, a2, a3⟩ := box4 FN1.out
  go_wp2_with fail
  refine (gworks_any w1 (HE.out w1 HB1.out)).mono ?_
  rintro e w2 ⟨rfl, h2⟩
  clear a0 a1 a2 a3
  have FN2 := Lib.hid ((h2.block _ (Array.getElem?_eq_some_iff.1 FN1.out).1).trans FN1.out)
  clear FN1
  have FX2 := Lib.hid (FX1.out.below h2)
  clear FX1
  have HB2 := Lib.hid (HB1.out.trans (h2.mono HB1.out.size))
  clear h2
  obtain ⟨a0, a1, a2, a3⟩ := box4 FN2.out
  go_wp2_with fail
  refine (HWT.out w2 _ _ FX2.out).mono ?_
  rintro e w3 ⟨rfl, h3⟩
  clear a0 a1 a2 a3
  have FN3 := Lib.hid ((h3.block _ (Array.getElem?_eq_some_iff.1 FN2.out).1).trans FN2.out)
  clear FN2
  have FX3 := Lib.hid (FX2.out.below h3)
  clear FX2
  have HB3 := Lib.hid (HB2.out.trans (h3.mono HB2.out.size))
  clear h3
  clear HWT
  by_cases hwl : 300 ≤ wt
  · have hwl1 : decide ((300 : Int) ≤ (wt : Int)) = true := decide_eq_true (by omega)
    have hwl2 : decide (300 ≤ wt) = true := decide_eq_true hwl
    go_wp2_with fail
    refine (gworks_any w3 (HE.out w3 HB3.out)).mono ?_
    rintro e w4 ⟨rfl, h4⟩
    have FN4 := Lib.hid ((h4.block _ (Array.getElem?_eq_some_iff.1 FN3.out).1).trans FN3.out)
    clear FN3
    have FX4 := Lib.hid (FX3.out.below h4)
    clear FX3
    have HB4 := Lib.hid (HB3.out.trans (h4.mono HB3.out.size))
    clear h4
    go_wp2
    go_ret
    exact ⟨rfl, HB4.out⟩
  · have hwl1 : decide ((300 : Int) ≤ (wt : Int)) = false := decide_eq_false (by omega)
    have hwl2 : decide (300 ≤ wt) = false := decide_eq_false hwl
    have HC : Hid (countT x ≤ 100000) := Lib.hid (by have := (HWF.out (by omega)).1; omega)
    have HS : Hid (sizeT x ≤ 4800) := Lib.hid (by have := (HWF.out (by omega)).2; omega)
    have HSH : Hid (shortT x) := Lib.hid (HWS.out (by omega))
    clear HWF HWS hwl
    obtain ⟨a0, a1, a2, a3⟩ := box4 FN3.out
    go_wp2_with fail
    refine (given_r FX3.out (by have := HC.out; omega)).mono ?_
    rintro e w4 ⟨p5, c5, rfl, hx5, h4⟩
    clear a0 a1 a2 a3
    have FN4 := Lib.hid ((h4.block _ (Array.getElem?_eq_some_iff.1 FN3.out).1).trans FN3.out)
    clear FN3
    have FX4 := Lib.hid (FX3.out.below h4)
    clear FX3
    have HB4 := Lib.hid (HB3.out.trans (h4.mono HB3.out.size))
    have FI4 := Lib.hid hx5
    clear h4 hx5 hwl1 hwl2
    clear FN4
    clear FX4
    obtain ⟨w5, hw5⟩ : ∃ w, w4.alloc (.cells #[.int .u8 x.kind, .int .u8 x.tok.1, .string ⟨x.tok.2.toArray⟩, .slice p5 x.kids.length c5] 27) = w := ⟨_, rfl⟩
    have b5 : Below w4.heap.size w4 w5 := by rw [← hw5]; exact galloc (Below.refl _ _) _
    have n5 : w5.heap[w4.heap.size]? = some (.cells #[.int .u8 x.kind, .int .u8 x.tok.1, .string ⟨x.tok.2.toArray⟩, .slice p5 x.kids.length c5] 27 (0, 0)) := by rw [← hw5]; exact World.alloc_heap_new w4 _
    obtain ⟨GB, hGB⟩ : ∃ G, w4.heap.size = G := ⟨_, rfl⟩
    rw [hGB] at n5
    have FI5 := Lib.hid (FI4.out.below b5)
    clear FI4
    have HB5 := Lib.hid (HB4.out.trans (b5.mono HB4.out.size))
    have FB5 := Lib.hid n5
    clear b5 n5
    obtain ⟨a0, a1, a2, a3⟩ := box4 FB5.out
    by_cases hin : 0 ≤ a ∧ a < sizeT x
    case' neg =>
      have hf : findP x a = none := by
        by_cases hn : a < 0
        · exact findP_neg x a hn
        · obtain ⟨b, rfl⟩ := Int.eq_ofNat_of_zero_le (by omega : 0 ≤ a)
          exact findP_far x b (by omega)
      go_wp2_with fail
      refine (find_none hf FI5.out HC.out (by have := HS.out; omega)).mono ?_
      rintro e w6 ⟨rfl, h6⟩
      clear a0 a1 a2 a3
      have FI6 := Lib.hid (FI5.out.below h6)
      clear FI5
      have FB6 := Lib.hid ((h6.block _ (Array.getElem?_eq_some_iff.1 FB5.out).1).trans FB5.out)
      clear FB5
      have HB6 := Lib.hid (HB5.out.trans (h6.mono HB5.out.size))
      clear h6 hf
      obtain ⟨a0, a1, a2, a3⟩ := box4 FB6.out
      by_cases hn : a < 0
      · have hn1 : decide (a < 0) = true := decide_eq_true hn
        clear hin
        go_wp2
        go_ret
        exact ⟨rfl, HB6.out⟩
      · have hn1 : decide (a < 0) = false := decide_eq_false hn
        obtain ⟨b, rfl⟩ := Int.eq_ofNat_of_zero_le (by omega : 0 ≤ a)
        have hge : sizeT x ≤ b := by omega
        have hsz : (⟨(textT x).toArray⟩ : ByteArray).size = sizeT x := by rw [Lib.size_eq]; rfl
        have htx := text_r FI6.out (by have := HC.out; omega) (by have := HS.out; omega)
        have hg1 : decide ((sizeT x : Int) ≤ (b : Int)) = true := decide_eq_true (by omega)
        have hg2 : decide (sizeT x ≤ b) = true := decide_eq_true hge
        generalize (⟨(textT x).toArray⟩ : ByteArray) = tx at *
        generalize sizeT x = sz at *
        subst hsz
        clear hin hge hn
        go_wp2_with fail
        refine (htx).mono ?_
        rintro e w7 ⟨rfl, h7⟩
        clear a0 a1 a2 a3
        have FI7 := Lib.hid (FI6.out.below h7)
        clear FI6
        have FB7 := Lib.hid ((h7.block _ (Array.getElem?_eq_some_iff.1 FB6.out).1).trans FB6.out)
        clear FB6
        have HB7 := Lib.hid (HB6.out.trans (h7.mono HB6.out.size))
        clear h7 htx
        go_wp2
        go_ret
        exact ⟨rfl, HB7.out⟩
    case' pos =>
      obtain ⟨b, rfl⟩ := Int.eq_ofNat_of_zero_le hin.1
      obtain ⟨q, m, f, e1, e2, e3, e4, e5, e6, e7, e8, e9, e10, e11⟩ := found_facts x b (by omega)
      clear hin
      have hql : q.length ≤ 1000000 := by have := HC.out; omega
      have HQL := Lib.hid hql
      have HCM := Lib.hid (count_at _ _ _ e3)
      obtain ⟨sm, hsm⟩ : ∃ s, sizeT m = s := ⟨_, rfl⟩
      rw [hsm] at e5 e7 e8 e10 e11
      obtain ⟨t, ht⟩ : ∃ t, f + sm = t := ⟨_, rfl⟩
      rw [ht] at e5 e7 e8 e10 e11
      have HTT := Lib.hid ht
      have H5 := Lib.hid e5
      have H9 := Lib.hid e9
      have H10 := Lib.hid e10
      have H11 := Lib.hid e11
      have H3 := Lib.hid e3
      have H4 := Lib.hid e4
      have H68 := Lib.hid (And.intro e6 (And.intro e7 e8))
      clear ht hsm e2 e3 e4 e5 e6 e7 e8 e9 e10 e11
      go_wp2_with fail
      refine (find_some e1 FI5.out HC.out (by have := HS.out; omega)).mono ?_
      rintro e w6 ⟨p6, c6, rfl, hp6, h6⟩
      clear a0 a1 a2 a3
      have FI6 := Lib.hid (FI5.out.below h6)
      clear FI5
      have FB6 := Lib.hid ((h6.block _ (Array.getElem?_eq_some_iff.1 FB5.out).1).trans FB5.out)
      clear FB5
      have HB6 := Lib.hid (HB5.out.trans (h6.mono HB5.out.size))
      have FP6 := Lib.hid hp6
      clear h6 hp6 e1 hql
      obtain ⟨a0, a1, a2, a3⟩ := box4 FB6.out
      go_wp2_with fail
      refine (at_some H3.out FI6.out FP6.out (by show (asInts q).length ≤ 1000000; rw [List.length_map]; exact HQL.out) ⟨by have := HCM.out.1; have := HC.out; omega, HCM.out.2 HSH.out⟩).mono ?_
      rintro e w7 ⟨p7, c7, rfl, hx7, h7⟩
      clear a0 a1 a2 a3
      have FI7 := Lib.hid (FI6.out.below h7)
      clear FI6
      have FB7 := Lib.hid ((h7.block _ (Array.getElem?_eq_some_iff.1 FB6.out).1).trans FB6.out)
      clear FB6
      have FP7 := Lib.hid (FP6.out.below h7)
      clear FP6
      have HB7 := Lib.hid (HB6.out.trans (h7.mono HB6.out.size))
      clear h7 hx7 H3 HCM
      obtain ⟨w8, hw8⟩ : ∃ w, w7.alloc (.cells #[.int .u8 m.kind, .int .u8 m.tok.1, .string ⟨m.tok.2.toArray⟩, .slice p7 m.kids.length c7] 27) = w := ⟨_, rfl⟩
      have b8 : Below w7.heap.size w7 w8 := by rw [← hw8]; exact galloc (Below.refl _ _) _
      have n8 : w8.heap[w7.heap.size]? = some (.cells #[.int .u8 m.kind, .int .u8 m.tok.1, .string ⟨m.tok.2.toArray⟩, .slice p7 m.kids.length c7] 27 (0, 0)) := by rw [← hw8]; exact World.alloc_heap_new w7 _
      obtain ⟨GM, hGM⟩ : ∃ G, w7.heap.size = G := ⟨_, rfl⟩
      rw [hGM] at n8
      have FI8 := Lib.hid (FI7.out.below b8)
      clear FI7
      have FB8 := Lib.hid ((b8.block _ (Array.getElem?_eq_some_iff.1 FB7.out).1).trans FB7.out)
      clear FB7
      have FP8 := Lib.hid (FP7.out.below b8)
      clear FP7
      have HB8 := Lib.hid (HB7.out.trans (b8.mono HB7.out.size))
      have FM8 := Lib.hid n8
      clear b8 n8
      obtain ⟨a0, a1, a2, a3⟩ := box4 FB8.out
      go_wp2_with fail
      refine (full_some H5.out FI8.out FP8.out (by show (asInts q).length ≤ 1000000; rw [List.length_map]; exact HQL.out) HC.out (by have := HS.out; omega)).mono ?_
      rintro e w9 ⟨rfl, h9⟩
      clear a0 a1 a2 a3
      have FI9 := Lib.hid (FI8.out.below h9)
      clear FI8
      have FB9 := Lib.hid ((h9.block _ (Array.getElem?_eq_some_iff.1 FB8.out).1).trans FB8.out)
      clear FB8
      have FP9 := Lib.hid (FP8.out.below h9)
      clear FP8
      have FM9 := Lib.hid ((h9.block _ (Array.getElem?_eq_some_iff.1 FM8.out).1).trans FM8.out)
      clear FM8
      have HB9 := Lib.hid (HB8.out.trans (h9.mono HB8.out.size))
      clear h9
      dsimp only
      obtain ⟨w10, hw10⟩ : ∃ w, w9.alloc (.cells #[.int .i64 (f : Int), .int .i64 (t : Int)] 40) = w := ⟨_, rfl⟩
      have b10 : Below w9.heap.size w9 w10 := by rw [← hw10]; exact galloc (Below.refl _ _) _
      have n10 : w10.heap[w9.heap.size]? = some (.cells #[.int .i64 (f : Int), .int .i64 (t : Int)] 40 (0, 0)) := by rw [← hw10]; exact World.alloc_heap_new w9 _
      obtain ⟨GF, hGF⟩ : ∃ G, w9.heap.size = G := ⟨_, rfl⟩
      rw [hGF] at n10
      have FI10 := Lib.hid (FI9.out.below b10)
      clear FI9
      have FB10 := Lib.hid ((b10.block _ (Array.getElem?_eq_some_iff.1 FB9.out).1).trans FB9.out)
      clear FB9
      have FP10 := Lib.hid (FP9.out.below b10)
      clear FP9
      have FM10 := Lib.hid ((b10.block _ (Array.getElem?_eq_some_iff.1 FM9.out).1).trans FM9.out)
      clear FM9
      have HB10 := Lib.hid (HB9.out.trans (b10.mono HB9.out.size))
      have FF10 := Lib.hid n10
      clear b10 n10
      obtain ⟨a0, a1, a2, a3⟩ := box4 FB10.out
      obtain ⟨m0, m1, m2, m3⟩ := box4 FM10.out
      have f0 : w10.cell? ⟨GF, 0, none⟩ = some (.int .i64 (f : Int)) := by rw [cellH FF10.out]; rfl
      have f1 : w10.cell? ⟨GF, 1, none⟩ = some (.int .i64 (t : Int)) := by rw [cellH FF10.out]; rfl
      obtain ⟨e6, e7, e8⟩ := H68.out
      have h1 : ((m.kind : Int) != 1) = false := by rw [H4.out]; rfl
      have h2 : decide ((b : Int) < (f : Int)) = false := decide_eq_false (by omega)
      have h3 : decide ((t : Int) ≤ (b : Int)) = false := decide_eq_false (by omega)
      have h2' : decide (b < f) = false := decide_eq_false (by omega)
      have h3' : decide (t ≤ b) = false := decide_eq_false (by omega)
      have h4 : IntKind.i64.wrap ((t : Int) - 1) = ((t - 1 : Nat) : Int) := by rw [IntWalk.i64_in _ (by have := HS.out; omega)]; omega
      have K10 : Hid (findP x ((t - 1 : Nat) : Int) = some q) := H10
      have K11 : Hid (findP x ((t : Nat) : Int) ≠ some q) := H11
      obtain ⟨t1, ht1⟩ : ∃ t1, t - 1 = t1 := ⟨_, rfl⟩
      rw [ht1] at h4 K10
      clear e6 e7 e8 ht1 H68 H5 H10 H11
      go_wp2_with fail
      refine (find_some H9.out FI10.out HC.out (by have := HS.out; omega)).mono ?_
      rintro e w11 ⟨p8, c8, rfl, hp8, h11⟩
      clear a0 a1 a2 a3 m0 m1 m2 m3 f0 f1 h1 h2 h3 h2' h3'
      have FI11 := Lib.hid (FI10.out.below h11)
      clear FI10
      have FB11 := Lib.hid ((h11.block _ (Array.getElem?_eq_some_iff.1 FB10.out).1).trans FB10.out)
      clear FB10
      have FP11 := Lib.hid (FP10.out.below h11)
      clear FP10
      have FM11 := Lib.hid ((h11.block _ (Array.getElem?_eq_some_iff.1 FM10.out).1).trans FM10.out)
      clear FM10
      have FF11 := Lib.hid ((h11.block _ (Array.getElem?_eq_some_iff.1 FF10.out).1).trans FF10.out)
      clear FF10
      have HB11 := Lib.hid (HB10.out.trans (h11.mono HB10.out.size))
      have FQ11 := Lib.hid hp8
      clear h11 hp8
      obtain ⟨a0, a1, a2, a3⟩ := box4 FB11.out
      have f0 : w11.cell? ⟨GF, 0, none⟩ = some (.int .i64 (f : Int)) := by rw [cellH FF11.out]; rfl
      have f1 : w11.cell? ⟨GF, 1, none⟩ = some (.int .i64 (t : Int)) := by rw [cellH FF11.out]; rfl
      go_wp2_with fail
      refine (find_some K10.out FI11.out HC.out (by have := HS.out; omega)).mono ?_
      rintro e w12 ⟨p9, c9, rfl, hp9, h12⟩
      clear a0 a1 a2 a3 f0 f1
      have FI12 := Lib.hid (FI11.out.below h12)
      clear FI11
      have FB12 := Lib.hid ((h12.block _ (Array.getElem?_eq_some_iff.1 FB11.out).1).trans FB11.out)
      clear FB11
      have FP12 := Lib.hid (FP11.out.below h12)
      clear FP11
      have FM12 := Lib.hid ((h12.block _ (Array.getElem?_eq_some_iff.1 FM11.out).1).trans FM11.out)
      clear FM11
      have FF12 := Lib.hid ((h12.block _ (Array.getElem?_eq_some_iff.1 FF11.out).1).trans FF11.out)
      clear FF11
      have FQ12 := Lib.hid (FQ11.out.below h12)
      clear FQ11
      have HB12 := Lib.hid (HB11.out.trans (h12.mono HB11.out.size))
      have FR12 := Lib.hid hp9
      clear h12 hp9
      obtain ⟨a0, a1, a2, a3⟩ := box4 FB12.out
      have f0 : w12.cell? ⟨GF, 0, none⟩ = some (.int .i64 (f : Int)) := by rw [cellH FF12.out]; rfl
      have f1 : w12.cell? ⟨GF, 1, none⟩ = some (.int .i64 (t : Int)) := by rw [cellH FF12.out]; rfl
      cases hnx : findP x (t : Int) with
      | none =>
        go_wp2_with fail
        refine (find_none hnx FI12.out HC.out (by have := HS.out; omega)).mono ?_
        rintro e w13 ⟨rfl, h13⟩
        clear a0 a1 a2 a3 f0 f1
        have FI13 := Lib.hid (FI12.out.below h13)
        clear FI12
        have FB13 := Lib.hid ((h13.block _ (Array.getElem?_eq_some_iff.1 FB12.out).1).trans FB12.out)
        clear FB12
        have FP13 := Lib.hid (FP12.out.below h13)
        clear FP12
        have FM13 := Lib.hid ((h13.block _ (Array.getElem?_eq_some_iff.1 FM12.out).1).trans FM12.out)
        clear FM12
        have FF13 := Lib.hid ((h13.block _ (Array.getElem?_eq_some_iff.1 FF12.out).1).trans FF12.out)
        clear FF12
        have FQ13 := Lib.hid (FQ12.out.below h13)
        clear FQ12
        have FR13 := Lib.hid (FR12.out.below h13)
        clear FR12
        have HB13 := Lib.hid (HB12.out.trans (h13.mono HB12.out.size))
        clear h13 hnx
        have hq := paths_any (asInts q) (asInts q) _ _ w13 FQ13.out FP13.out (by show (asInts q).length ≤ 1000000; rw [List.length_map]; exact HQL.out)
        rw [show decide (asInts q = asInts q) = true from decide_eq_true rfl] at hq
        go_wp2_with fail
        refine (hq).mono ?_
        rintro e w14 ⟨rfl, h14⟩
        have FI14 := Lib.hid (FI13.out.below h14)
        clear FI13
        have FB14 := Lib.hid ((h14.block _ (Array.getElem?_eq_some_iff.1 FB13.out).1).trans FB13.out)
        clear FB13
        have FP14 := Lib.hid (FP13.out.below h14)
        clear FP13
        have FM14 := Lib.hid ((h14.block _ (Array.getElem?_eq_some_iff.1 FM13.out).1).trans FM13.out)
        clear FM13
        have FF14 := Lib.hid ((h14.block _ (Array.getElem?_eq_some_iff.1 FF13.out).1).trans FF13.out)
        clear FF13
        have FQ14 := Lib.hid (FQ13.out.below h14)
        clear FQ13
        have FR14 := Lib.hid (FR13.out.below h14)
        clear FR13
        have HB14 := Lib.hid (HB13.out.trans (h14.mono HB13.out.size))
        clear h14 hq
        have hq := paths_any (asInts q) (asInts q) _ _ w14 FR14.out FP14.out (by show (asInts q).length ≤ 1000000; rw [List.length_map]; exact HQL.out)
        rw [show decide (asInts q = asInts q) = true from decide_eq_true rfl] at hq
        go_wp2_with fail
        refine (hq).mono ?_
        rintro e w15 ⟨rfl, h15⟩
        have FI15 := Lib.hid (FI14.out.below h15)
        clear FI14
        have FB15 := Lib.hid ((h15.block _ (Array.getElem?_eq_some_iff.1 FB14.out).1).trans FB14.out)
        clear FB14
        have FP15 := Lib.hid (FP14.out.below h15)
        clear FP14
        have FM15 := Lib.hid ((h15.block _ (Array.getElem?_eq_some_iff.1 FM14.out).1).trans FM14.out)
        clear FM14
        have FF15 := Lib.hid ((h15.block _ (Array.getElem?_eq_some_iff.1 FF14.out).1).trans FF14.out)
        clear FF14
        have FQ15 := Lib.hid (FQ14.out.below h15)
        clear FQ14
        have FR15 := Lib.hid (FR14.out.below h15)
        clear FR14
        have HB15 := Lib.hid (HB14.out.trans (h15.mono HB14.out.size))
        clear h15 hq
        go_wp2
        go_ret
        exact ⟨rfl, HB15.out⟩
      | some qn =>
        have HNE : Hid (qn ≠ q) := Lib.hid (fun h => K11.out (by rw [hnx, h]))
        have HQN : Hid (qn.length ≤ 1000000) := Lib.hid (by
          rcases Nat.lt_or_ge t (sizeT x) with hb | hb
          · rw [findP_in x t hb] at hnx
            have hnx := Option.some.inj hnx
            obtain ⟨_, _, _, _, _, _, _, h7⟩ := findG_leaf x t hb
            rw [hnx] at h7
            have := HC.out
            omega
          · rw [findP_far x t hb] at hnx; cases hnx)
        go_wp2_with fail
        refine (find_some hnx FI12.out HC.out (by have := HS.out; omega)).mono ?_
        rintro e w13 ⟨p10, c10, rfl, hp10, h13⟩
        clear a0 a1 a2 a3 f0 f1
        have FI13 := Lib.hid (FI12.out.below h13)
        clear FI12
        have FB13 := Lib.hid ((h13.block _ (Array.getElem?_eq_some_iff.1 FB12.out).1).trans FB12.out)
        clear FB12
        have FP13 := Lib.hid (FP12.out.below h13)
        clear FP12
        have FM13 := Lib.hid ((h13.block _ (Array.getElem?_eq_some_iff.1 FM12.out).1).trans FM12.out)
        clear FM12
        have FF13 := Lib.hid ((h13.block _ (Array.getElem?_eq_some_iff.1 FF12.out).1).trans FF12.out)
        clear FF12
        have FQ13 := Lib.hid (FQ12.out.below h13)
        clear FQ12
        have FR13 := Lib.hid (FR12.out.below h13)
        clear FR12
        have HB13 := Lib.hid (HB12.out.trans (h13.mono HB12.out.size))
        have FS13 := Lib.hid hp10
        clear h13 hp10 hnx
        have hq := paths_any (asInts q) (asInts q) _ _ w13 FQ13.out FP13.out (by show (asInts q).length ≤ 1000000; rw [List.length_map]; exact HQL.out)
        rw [show decide (asInts q = asInts q) = true from decide_eq_true rfl] at hq
        go_wp2_with fail
        refine (hq).mono ?_
        rintro e w14 ⟨rfl, h14⟩
        have FI14 := Lib.hid (FI13.out.below h14)
        clear FI13
        have FB14 := Lib.hid ((h14.block _ (Array.getElem?_eq_some_iff.1 FB13.out).1).trans FB13.out)
        clear FB13
        have FP14 := Lib.hid (FP13.out.below h14)
        clear FP13
        have FM14 := Lib.hid ((h14.block _ (Array.getElem?_eq_some_iff.1 FM13.out).1).trans FM13.out)
        clear FM13
        have FF14 := Lib.hid ((h14.block _ (Array.getElem?_eq_some_iff.1 FF13.out).1).trans FF13.out)
        clear FF13
        have FQ14 := Lib.hid (FQ13.out.below h14)
        clear FQ13
        have FR14 := Lib.hid (FR13.out.below h14)
        clear FR13
        have FS14 := Lib.hid (FS13.out.below h14)
        clear FS13
        have HB14 := Lib.hid (HB13.out.trans (h14.mono HB13.out.size))
        clear h14 hq
        have hq := paths_any (asInts q) (asInts q) _ _ w14 FR14.out FP14.out (by show (asInts q).length ≤ 1000000; rw [List.length_map]; exact HQL.out)
        rw [show decide (asInts q = asInts q) = true from decide_eq_true rfl] at hq
        go_wp2_with fail
        refine (hq).mono ?_
        rintro e w15 ⟨rfl, h15⟩
        have FI15 := Lib.hid (FI14.out.below h15)
        clear FI14
        have FB15 := Lib.hid ((h15.block _ (Array.getElem?_eq_some_iff.1 FB14.out).1).trans FB14.out)
        clear FB14
        have FP15 := Lib.hid (FP14.out.below h15)
        clear FP14
        have FM15 := Lib.hid ((h15.block _ (Array.getElem?_eq_some_iff.1 FM14.out).1).trans FM14.out)
        clear FM14
        have FF15 := Lib.hid ((h15.block _ (Array.getElem?_eq_some_iff.1 FF14.out).1).trans FF14.out)
        clear FF14
        have FQ15 := Lib.hid (FQ14.out.below h15)
        clear FQ14
        have FR15 := Lib.hid (FR14.out.below h15)
        clear FR14
        have FS15 := Lib.hid (FS14.out.below h15)
        clear FS14
        have HB15 := Lib.hid (HB14.out.trans (h15.mono HB14.out.size))
        clear h15 hq
        have hq := paths_any (asInts qn) (asInts q) _ _ w15 FS15.out FP15.out (by show (asInts qn).length ≤ 1000000; rw [List.length_map]; exact HQN.out)
        rw [show decide (asInts qn = asInts q) = false from decide_eq_false (fun h => HNE.out (asInts_inj h))] at hq
        go_wp2_with fail
        refine (hq).mono ?_
        rintro e w16 ⟨rfl, h16⟩
        have FI16 := Lib.hid (FI15.out.below h16)
        clear FI15
        have FB16 := Lib.hid ((h16.block _ (Array.getElem?_eq_some_iff.1 FB15.out).1).trans FB15.out)
        clear FB15
        have FP16 := Lib.hid (FP15.out.below h16)
        clear FP15
        have FM16 := Lib.hid ((h16.block _ (Array.getElem?_eq_some_iff.1 FM15.out).1).trans FM15.out)
        clear FM15
        have FF16 := Lib.hid ((h16.block _ (Array.getElem?_eq_some_iff.1 FF15.out).1).trans FF15.out)
        clear FF15
        have FQ16 := Lib.hid (FQ15.out.below h16)
        clear FQ15
        have FR16 := Lib.hid (FR15.out.below h16)
        clear FR15
        have FS16 := Lib.hid (FS15.out.below h16)
        clear FS15
        have HB16 := Lib.hid (HB15.out.trans (h16.mono HB15.out.size))
        clear h16 hq
        go_wp2
        go_ret
        exact ⟨rfl, HB16.out⟩
end Go.Proofs.YtingfomfibhnhaaGreatDoor
