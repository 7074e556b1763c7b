/-
  green.Same.
-/
import Derived.Test.YtingfomfibhnhaaGreatDoorMgTC
import Derived.Test.YtingfomfibhnhaaGreatDoorMgHSA
namespace Go.Proofs.YtingfomfibhnhaaGreatDoor
open Go.RowKit Go.Shelf

set_option maxRecDepth 100000 in
set_option maxHeartbeats 16000000 in
theorem gequalf_any (ls ls2 : List T) (pd : Option Addr) (cd : Nat) (pf : Option Addr) (cf : Nat) (vs us : List Value) (W : World) (hn : ls.length ≤ 1000000000) (hd : SlIn AnyB W (.slice pd ls.length cd) 4 ls.length vs) (hf : SlIn AnyB W (.slice pf ls2.length cf) 4 ls2.length us)
    (hj : NsAt AnyB W ls vs) (hg : NsAt AnyB W ls2 us)
    (HREC : Hid (∀ (i : Nat) x, ls[i]? = some x → ∀ (y : T) (w : World) (p p2 : Option Addr) (c c2 : Nat), NAt AnyB w x (cellsN x p c) → NAt AnyB w y (cellsN y p2 c2) → Calls Tryz.prog 28 #[aggN x p c, aggN y p2 c2] w (BoolEnd (sameT x y) w))) :
    Calls Tryz.prog 47 #[.slice pd ls.length cd, .slice pf ls2.length cf, .func (.func 28) #[] #[]] W (BoolEnd (samesT ls ls2) W) := by
  obtain ⟨G, hG⟩ : ∃ G, samesT ls ls2 = G := ⟨_, rfl⟩
  rw [hG]
  have HG := Lib.hid hG
  have HD := Lib.hid hd
  have HF := Lib.hid hf
  have HJ := Lib.hid hj
  have HU := Lib.hid hg
  clear hG hd hf hj hg
  by_cases e4 : ls.length = ls2.length
  · have e4' : ((ls.length : Int) != (ls2.length : Int)) = false := by rw [e4]; simp
    have HL4 := Lib.hid e4
    have HI0 : Hid (Below W.heap.size W W ∧ G = samesT (ls.drop 0) (ls2.drop 0)) := Lib.hid ⟨Below.refl _ _, HG.out.symm⟩
    clear e4
    go_enter Tryz.func47, Tryz.ntmps47
    go_wp2_with fail
    go_loopw [17] (fun iv wr => ∃ i : Nat, i ≤ ls.length ∧ iv = .int .i64 i ∧ Hid (Below W.heap.size W wr ∧ G = samesT (ls.drop i) (ls2.drop i))) (fun iv _ => ls.length - (intOf iv).toNat)
    case atStart => exact ⟨0, by omega, rfl, HI0⟩
    case round =>
      clear e4' HI0
      obtain ⟨i, hi2, rfl, HI⟩ := hrel
      rcases Nat.lt_or_ge i ls.length with hlt | hge
      · have hlt' : (i : Int) < (ls.length : Int) := by omega
        have hltb : i < ls2.length := by have := HL4.out; omega
        have hlt2 : (i : Int) < (ls2.length : Int) := by omega
        have hwi : IntKind.i64.wrap ((i : Int) + 1) = ((i + 1 : Nat) : Int) := by rw [IntWalk.i64_in _ (by omega)]; omega
        have HB := Lib.hid HI.out.1
        obtain ⟨g1, o1, rfl, hx1⟩ := HD.out.cellAt (by omega)
        obtain ⟨g2, o2, rfl, hx2⟩ := HF.out.cellAt (by omega)
        have hu1 := List.getElem?_eq_getElem hlt
        have hu2 := List.getElem?_eq_getElem hltb
        obtain ⟨px, cx, hjx, m1, m2, m3, m4⟩ := HJ.out.nth ls vs i _ hu1
        obtain ⟨py, cy, hjy, m5, m6, m7, m8⟩ := HU.out.nth ls2 us i _ hu2
        have hR2 := HI.out.2
        rw [samesT_drop HL4.out hlt] at hR2
        have k1 : wr.cell? ⟨g1, o1 + i * 4, none⟩ = some (.int .u8 (ls[i]'hlt).kind) := cell_in HB.out (hx1 _ _ m1)
        have k2 : wr.cell? ⟨g1, o1 + i * 4 + 1, none⟩ = some (.int .u8 (ls[i]'hlt).tok.1) := cell_in HB.out (hx1 _ _ m2)
        have k3 : wr.cell? ⟨g1, o1 + i * 4 + 2, none⟩ = some (.string ⟨(ls[i]'hlt).tok.2.toArray⟩) := cell_in HB.out (hx1 _ _ m3)
        have k4 : wr.cell? ⟨g1, o1 + i * 4 + 3, none⟩ = some (.slice px (ls[i]'hlt).kids.length cx) := cell_in HB.out (hx1 _ _ m4)
        have hrec := HREC.out i _ hu1 (ls2[i]'hltb)
        have HX := Lib.hid hjx
        have HY := Lib.hid hjy
        have HR2 := Lib.hid hR2
        have HC := Lib.hid hrec
        have q1 : W.cell? ⟨g2, o2 + i * 4, none⟩ = some (.int .u8 (ls2[i]'hltb).kind) := hx2 _ _ m5
        have q2 : W.cell? ⟨g2, o2 + i * 4 + 1, none⟩ = some (.int .u8 (ls2[i]'hltb).tok.1) := hx2 _ _ m6
        have q3 : W.cell? ⟨g2, o2 + i * 4 + 2, none⟩ = some (.string ⟨(ls2[i]'hltb).tok.2.toArray⟩) := hx2 _ _ m7
        have q4 : W.cell? ⟨g2, o2 + i * 4 + 3, none⟩ = some (.slice py (ls2[i]'hltb).kids.length cy) := hx2 _ _ m8
        clear hx1 hx2 hu1 hu2 hjx hjy m1 m2 m3 m4 m5 m6 m7 m8 hR2 hrec HI
        generalize ls[i]'hlt = x at *
        generalize ls2[i]'hltb = y at *
        obtain ⟨w3, hw3⟩ : ∃ w3, wr.alloc (.cells #[.int .u8 x.kind, .int .u8 x.tok.1, .string ⟨x.tok.2.toArray⟩, .slice px x.kids.length cx] 27) = w3 := ⟨_, rfl⟩
        have hb3 : Below wr.heap.size wr w3 := by rw [← hw3]; exact galloc (Below.refl _ _) _
        have hX3 : w3.heap[wr.heap.size]? = some (boxN x px cx) := by rw [← hw3]; exact World.alloc_heap_new wr _
        have HB3 := gcall HB.out hb3
        have l1 := cell_in HB3 q1
        have l2 := cell_in HB3 q2
        have l3 := cell_in HB3 q3
        have l4 := cell_in HB3 q4
        obtain ⟨w4, hw4⟩ : ∃ w4, w3.alloc (.cells #[.int .u8 y.kind, .int .u8 y.tok.1, .string ⟨y.tok.2.toArray⟩, .slice py y.kids.length cy] 27) = w4 := ⟨_, rfl⟩
        have hb4 : Below w3.heap.size w3 w4 := by rw [← hw4]; exact galloc (Below.refl _ _) _
        have hY4 : w4.heap[w3.heap.size]? = some (boxN y py cy) := by rw [← hw4]; exact World.alloc_heap_new w3 _
        have hX4 := (hb4.block wr.heap.size (Array.getElem?_eq_some_iff.1 hX3).1).trans hX3
        obtain ⟨X, hXe⟩ : ∃ X, wr.heap.size = X := ⟨_, rfl⟩
        obtain ⟨Y, hYe⟩ : ∃ Y, w3.heap.size = Y := ⟨_, rfl⟩
        rw [hXe] at hX4
        rw [hYe] at hY4
        obtain ⟨x0, x1, x2, x3⟩ := box4 hX4
        obtain ⟨y0, y1, y2, y3⟩ := box4 hY4
        have HB4 := Lib.hid (gcall HB3 hb4)
        have hcall := HC.out w4 px py cx cy (HX.out.below HB4.out) (HY.out.below HB4.out)
        clear hb3 hX3 HB3 hb4 hY4 hX4 q1 q2 q3 q4 HC HX HY
        cases hs : sameT x y with
        | true =>
          rw [hs] at hcall HR2
          have HN2 : Hid (G = samesT (ls.drop (i + 1)) (ls2.drop (i + 1))) := Lib.hid (by rw [HR2.out, Bool.true_and])
          clear hs HR2
          go_wp2_with fail
          refine hcall.mono ?_
          rintro e w5 ⟨rfl, hb5⟩
          have HB5 : Hid (Below W.heap.size W w5 ∧ G = samesT (ls.drop (i + 1)) (ls2.drop (i + 1))) := Lib.hid ⟨gcall HB4.out hb5, HN2.out⟩
          clear hb5 hcall
          go_wp2
          exact ⟨⟨i + 1, by omega, rfl, HB5⟩, by simp [intOf]; omega⟩
        | false =>
          rw [hs] at hcall HR2
          have HGF : Hid (G = false) := Lib.hid (by rw [HR2.out, Bool.false_and])
          clear hs HR2
          go_wp2_with fail
          refine hcall.mono ?_
          rintro e w5 ⟨rfl, hb5⟩
          have HB5 := Lib.hid (gcall HB4.out hb5)
          clear hb5 hcall
          go_wp2
          go_ret
          exact ⟨by rw [HGF.out]; rfl, HB5.out⟩
      · obtain rfl : i = ls.length := by omega
        have hlt' : ¬ (ls.length : Int) < (ls.length : Int) := by omega
        have HGT : Hid (G = true) := Lib.hid (by rw [HI.out.2, List.drop_length, HL4.out, List.drop_length]; unfold samesT; rfl)
        have HE := Lib.hid HI.out.1
        clear HI
        go_wp2
        go_ret
        exact ⟨by rw [HGT.out]; rfl, HE.out⟩
  · have e4' : ((ls.length : Int) != (ls2.length : Int)) = true := by simp; omega
    have HGF : Hid (G = false) := Lib.hid (by rw [← HG.out, samesT_len _ _ e4])
    clear e4 HG
    go_enter Tryz.func47, Tryz.ntmps47
    go_wp2
    go_ret
    exact ⟨by rw [HGF.out]; rfl, Below.refl _ _⟩
set_option maxRecDepth 100000 in
set_option maxHeartbeats 16000000 in
theorem gsame_one (a b : T) (W : World) (p p2 : Option Addr) (c c2 : Nat) (ha : NAt AnyB W a (cellsN a p c)) (hb : NAt AnyB W b (cellsN b p2 c2)) (hal : a.kids.length ≤ 1000000000)
    (HREC : Hid (∀ (i : Nat) x, a.kids[i]? = some x → ∀ (y : T) (w : World) (p p2 : Option Addr) (c c2 : Nat), NAt AnyB w x (cellsN x p c) → NAt AnyB w y (cellsN y p2 c2) → Calls Tryz.prog 28 #[aggN x p c, aggN y p2 c2] w (BoolEnd (sameT x y) w))) :
    Calls Tryz.prog 28 #[aggN a p c, aggN b p2 c2] W (BoolEnd (sameT a b) W) := by
  obtain ⟨w1, hw1⟩ : ∃ w, W.alloc (.cells #[.int .u8 a.kind, .int .u8 a.tok.1, .string ⟨a.tok.2.toArray⟩, .slice p a.kids.length c] 27) = w := ⟨_, rfl⟩
  have n1 : w1.heap[W.heap.size]? = some (boxN a p c) := by rw [← hw1]; exact World.alloc_heap_new W _
  have b1 : Below W.heap.size W w1 := by rw [← hw1]; exact galloc (Below.refl _ _) _
  have z1 : w1.heap.size = W.heap.size + 1 := by rw [← hw1]; simp
  obtain ⟨w2, hw2⟩ : ∃ w, w1.alloc (.cells #[.int .u8 b.kind, .int .u8 b.tok.1, .string ⟨b.tok.2.toArray⟩, .slice p2 b.kids.length c2] 27) = w := ⟨_, rfl⟩
  have n2 : w2.heap[W.heap.size + 1]? = some (boxN b p2 c2) := by rw [← hw2, ← z1]; exact World.alloc_heap_new w1 _
  have b12 : Below w1.heap.size w1 w2 := by rw [← hw2]; exact galloc (Below.refl _ _) _
  have n21 : w2.heap[W.heap.size]? = some (boxN a p c) := (b12.block _ (by omega)).trans n1
  have b2 : Below W.heap.size W w2 := gcall b1 b12
  obtain ⟨x0, x1, x2, x3⟩ := box4 n21
  obtain ⟨y0, y1, y2, y3⟩ := box4 n2
  have HB2 := Lib.hid b2
  obtain ⟨vs, hv1, hv2⟩ := (ha.below b2).parts
  obtain ⟨us, hu1, hu2⟩ := (hb.below b2).parts
  have hcall := gequalf_any a.kids b.kids p c p2 c2 vs us w2 hal hv1 hu1 hv2 hu2 HREC
  obtain ⟨R, hR⟩ : ∃ R, sameT a b = R := ⟨_, rfl⟩
  have hRR : R = (a.kind == b.kind && (a.tok == b.tok && samesT a.kids b.kids)) := by rw [← hR]; obtain ⟨k, t, ks⟩ := a; obtain ⟨k2, t2, ks2⟩ := b; unfold sameT; rfl
  rw [hR]
  have hq := fun W => eql_tok_any a.tok b.tok W
  have hkk : (a.kind == b.kind) = ((a.kind : Int) == (b.kind : Int)) := by rw [Bool.eq_iff_iff]; simp; omega
  rw [hkk] at hRR
  generalize samesT a.kids b.kids = S at *
  generalize (a.tok == b.tok) = Tq at *
  clear ha hb n1 b1 b12 n21 n2 b2 hR hv1 hv2 hu1 hu2 HREC hkk
  cases hk : ((a.kind : Int) == (b.kind : Int)) with
  | false =>
    have hf : R = false := by rw [hRR, hk]; rfl
    subst hf
    clear hRR hcall
    go_enter Tryz.func28, Tryz.ntmps28
    go_wp2_with fail
    go_ret
    exact ⟨rfl, HB2.out⟩
  | true =>
    cases Tq with
    | false =>
      have hf : R = false := by rw [hRR, hk]; rfl
      subst hf
      clear hRR hcall
      go_enter Tryz.func28, Tryz.ntmps28
      go_wp2_with fail
      go_ret
      exact ⟨rfl, HB2.out⟩
    | true =>
      have hf : R = S := by rw [hRR, hk]; rfl
      subst hf
      clear hRR
      go_enter Tryz.func28, Tryz.ntmps28
      go_wp2_with fail
      refine hcall.mono ?_
      rintro e w3 ⟨rfl, h3⟩
      have HB3 := Lib.hid (HB2.out.trans (h3.mono HB2.out.size))
      clear h3 hcall
      go_wp2_with fail
      go_ret
      exact ⟨rfl, HB3.out⟩
theorem gsame_deep : ∀ (n : Nat) (a : T), countT a ≤ n → n ≤ 1000000000 → ∀ (b : T) (W : World) (p p2 : Option Addr) (c c2 : Nat), NAt AnyB W a (cellsN a p c) → NAt AnyB W b (cellsN b p2 c2) → Calls Tryz.prog 28 #[aggN a p c, aggN b p2 c2] W (BoolEnd (sameT a b) W)
  | 0, .mk k t ks, hc, _, _, _, _, _, _, _, _, _ => by rw [countT_mk] at hc; omega
  | n + 1, .mk k t ks, hc, hn, b, W, p, p2, c, c2, ha, hb => by
    rw [countT_mk] at hc
    have hl := counts_len ks
    refine gsame_one (.mk k t ks) b W p p2 c c2 ha hb (by show ks.length ≤ _; omega) (Lib.hid fun i x hx y w p p2 c c2 h1 h2 => gsame_deep n x ?_ (by omega) y w p p2 c c2 h1 h2)
    have := counts_at ks i x hx
    omega
theorem gsame_any (a b : T) (W : World) (p p2 : Option Addr) (c c2 : Nat) (ha : NAt AnyB W a (cellsN a p c)) (hb : NAt AnyB W b (cellsN b p2 c2)) (hc : countT a ≤ 1000000) : Calls Tryz.prog 28 #[aggN a p c, aggN b p2 c2] W (BoolEnd (sameT a b) W) :=
  gsame_deep _ a (Nat.le_refl _) (by omega) b W p p2 c c2 ha hb
end Go.Proofs.YtingfomfibhnhaaGreatDoor
