/-
  json's Same.
  The law JsonTexts.
-/
import Derived.Test.YtgcpgieojckheaaGreatDoorMgMD
import Derived.Test.YtgcpgieojckheaaGreatDoorMgLU3
namespace Go.Proofs.YtgcpgieojckheaaGreatDoor.Json
open Go.RowKit Go.Shelf

set_option maxRecDepth 100000 in
set_option maxHeartbeats 8000000 in
theorem equal_any (ns ns2 : List (List UInt8)) (pc : Option Addr) (cc : Nat) (pe : Option Addr) (ce : Nat) (W : World) (hn : ns.length ≤ 1000000000) (hc : SlIn AnyB W (.slice pc ns.length cc) 1 ns.length (ns.map bl)) (he : SlIn AnyB W (.slice pe ns2.length ce) 1 ns2.length (ns2.map bl)) :
    Calls Tryz.prog 112 #[.slice pc ns.length cc, .slice pe ns2.length ce] W fun e w' => e = .returned (.bool (ns == ns2)) ∧ Below W.heap.size W w' := by
  obtain ⟨G, hG⟩ : ∃ G, (ns == ns2) = G := ⟨_, rfl⟩
  rw [hG]
  have HG := Lib.hid hG
  have HC := Lib.hid hc
  have HE := Lib.hid he
  clear hG hc he
  by_cases e3 : ns.length = ns2.length
  · have e3' : ((ns.length : Int) != (ns2.length : Int)) = false := by rw [e3]; simp
    have HL3 := Lib.hid e3
    clear e3
    go_enter Tryz.func112, Tryz.ntmps112
    go_wp2_with fail
    go_loopw [13] (fun iv wr => ∃ i : Nat, i ≤ ns.length ∧ iv = .int .i64 i ∧ Hid (Below W.heap.size W wr) ∧ Hid (∀ j, j < i → ∀ x y, ns[j]? = some x → ns2[j]? = some y → x = y)) (fun iv _ => ns.length - (intOf iv).toNat)
    case atStart => exact ⟨0, by omega, rfl, Lib.hid (Below.refl _ _), Lib.hid (fun j hj => by omega)⟩
    case round =>
      obtain ⟨i, hi, rfl, HB, HN⟩ := hrel
      clear e3'
      rcases Nat.lt_or_ge i ns.length with hlt | hge
      · have hlt' : (i : Int) < (ns.length : Int) := by omega
        have hlt2 : (i : Int) < (ns2.length : Int) := by have := HL3.out; omega
        have hwi : IntKind.i64.wrap ((i : Int) + 1) = ((i + 1 : Nat) : Int) := by rw [IntWalk.i64_in _ (by omega)]; omega
        obtain ⟨g1, o1, rfl, hx1⟩ := HC.out.cellAt (by omega)
        obtain ⟨g2, o2, rfl, hx2⟩ := HE.out.cellAt (by have := HL3.out; omega)
        have hu1 := List.getElem?_eq_getElem hlt
        have hu2 := List.getElem?_eq_getElem (l := ns2) (i := i) (by have := HL3.out; omega)
        have hn1 := hx1 i (bl (ns[i]'hlt)) (by rw [List.getElem?_map, hu1]; rfl)
        have hn2 := hx2 i (bl (ns2[i]'(by have := HL3.out; omega))) (by rw [List.getElem?_map, hu2]; rfl)
        have hm1 := cell_in HB.out hn1
        have hm2 := cell_in HB.out hn2
        have HB1 : Hid (∀ n, Below W.heap.size W (wr.drewN n)) := Lib.hid (fun n => gcall HB.out (drewN_below wr n))
        by_cases he : ns[i]'hlt = ns2[i]'(by have := HL3.out; omega)
        · have HN2 : Hid (∀ j, j < i + 1 → ∀ x y, ns[j]? = some x → ns2[j]? = some y → x = y) := Lib.hid (fun j hj x y h1 h2 => by
            rcases Nat.lt_or_ge j i with g | g
            · exact HN.out j g x y h1 h2
            · obtain rfl : j = i := by omega
              rw [hu1] at h1; rw [hu2] at h2
              rw [← Option.some.inj h1, ← Option.some.inj h2]; exact he)
          rw [← he] at hm2
          unfold bl at hm1 hm2
          generalize (⟨(ns[i]'hlt).toArray⟩ : ByteArray) = QI at hm1 hm2
          have hq : (QI.toList == QI.toList) = true := by simp
          have hq2 : (QI.toList != QI.toList) = false := by simp
          clear hx1 hx2 hn1 hn2 hu1 hu2 he
          go_wp2_with fail
          go_quiet (fail)
          go_wp2
          exact ⟨⟨i + 1, by omega, rfl, Lib.hid (HB1.out _), HN2⟩, by simp [intOf]; omega⟩
        · have hq : ((⟨(ns[i]'hlt).toArray⟩ : ByteArray).toList == (⟨(ns2[i]'(by have := HL3.out; omega)).toArray⟩ : ByteArray).toList) = false := by
            rw [Lib.toList_data, Lib.toList_data, beq_eq_false_iff_ne]; exact he
          have HGF : Hid (G = false) := Lib.hid (by rw [← HG.out, names_at ns ns2 i _ _ hu1 hu2 he])
          unfold bl at hm1 hm2
          generalize (⟨(ns[i]'hlt).toArray⟩ : ByteArray) = QI at hm1 hq
          generalize (⟨(ns2[i]'(by have := HL3.out; omega)).toArray⟩ : ByteArray) = QJ at hm2 hq
          have hq2 : (QI.toList != QJ.toList) = true := by rw [bne, hq]; rfl
          clear hx1 hx2 hn1 hn2 hu1 hu2 he
          go_wp2_with fail
          go_quiet (fail)
          go_wp2
          go_ret
          exact ⟨by rw [HGF.out]; rfl, HB1.out _⟩
      · obtain rfl : i = ns.length := by omega
        have hlt' : ¬ (ns.length : Int) < (ns.length : Int) := by omega
        have HG3 : Hid (G = true) := Lib.hid (by
          rw [← HG.out, names_all HL3.out (fun i x y h1 h2 => HN.out i (by have := (List.getElem?_eq_some_iff.1 h1).1; exact this) x y h1 h2)]; simp)
        clear HN HG
        go_wp2
        go_ret
        exact ⟨by rw [HG3.out]; rfl, HB.out⟩
  · have e3' : ((ns.length : Int) != (ns2.length : Int)) = true := by simp; omega
    have HGF : Hid (G = false) := Lib.hid (by rw [← HG.out]; exact beq_eq_false_iff_ne.2 (fun e => e3 (by rw [e])))
    clear e3 HG
    go_enter Tryz.func112, Tryz.ntmps112
    go_wp2
    go_ret
    exact ⟨by rw [HGF.out]; rfl, Below.refl _ _⟩
set_option maxRecDepth 100000 in
set_option maxHeartbeats 16000000 in
theorem equalf_any (ls ls2 : List J) (pd : Option Addr) (cd : Nat) (pf : Option Addr) (cf : Nat) (vs us : List Value) (W : World) (hn : ls.length ≤ 1000000000) (hd : SlIn AnyB W (.slice pd ls.length cd) 4 ls.length vs) (hf : SlIn AnyB W (.slice pf ls2.length cf) 4 ls2.length us)
    (hj : JsAt AnyB W ls vs) (hg : JsAt AnyB W ls2 us)
    (HREC : Hid (∀ (i : Nat) x, ls[i]? = some x → ∀ (y : J) (w : World) (xs ys : List Value), JAt AnyB w x xs → JAt AnyB w y ys → Calls Tryz.prog 76 #[.agg xs.toArray, .agg ys.toArray] w fun e w' => e = .returned (.bool (sameJ x y)) ∧ Below w.heap.size w w')) :
    Calls Tryz.prog 113 #[.slice pd ls.length cd, .slice pf ls2.length cf, .func (.func 76) #[] #[]] W fun e w' => e = .returned (.bool (samesJ ls ls2)) ∧ Below W.heap.size W w' := by
  obtain ⟨G, hG⟩ : ∃ G, samesJ ls ls2 = G := ⟨_, rfl⟩
  rw [hG]
  have HG := Lib.hid hG
  have HD := Lib.hid hd
  have HF := Lib.hid hf
  have HJ := Lib.hid hj
  have HU := Lib.hid hg
  clear hG hd hf hj hg
  by_cases e4 : ls.length = ls2.length
  · have e4' : ((ls.length : Int) != (ls2.length : Int)) = false := by rw [e4]; simp
    have HL4 := Lib.hid e4
    clear e4
    go_enter Tryz.func113, Tryz.ntmps113
    go_wp2_with fail
    go_loopw [17] (fun iv wr => ∃ i : Nat, i ≤ ls.length ∧ iv = .int .i64 i ∧ Hid (Below W.heap.size W wr) ∧ Hid (∀ j, j < i → ∀ x y, ls[j]? = some x → ls2[j]? = some y → sameJ x y = true)) (fun iv _ => ls.length - (intOf iv).toNat)
    case atStart => exact ⟨0, by omega, rfl, Lib.hid (Below.refl _ _), Lib.hid (fun j hj => by omega)⟩
    case round =>
      clear e4'
      obtain ⟨i, hi2, rfl, HB, HN⟩ := hrel
      rcases Nat.lt_or_ge i ls.length with hlt | hge
      · have hlt' : (i : Int) < (ls.length : Int) := by omega
        have hlt2 : (i : Int) < (ls2.length : Int) := by have := HL4.out; omega
        have hwi : IntKind.i64.wrap ((i : Int) + 1) = ((i + 1 : Nat) : Int) := by rw [IntWalk.i64_in _ (by omega)]; omega
        obtain ⟨g1, o1, rfl, hx1⟩ := HD.out.cellAt (by omega)
        obtain ⟨g2, o2, rfl, hx2⟩ := HF.out.cellAt (by have := HL4.out; omega)
        have hu1 := List.getElem?_eq_getElem hlt
        have hu2 := List.getElem?_eq_getElem (l := ls2) (i := i) (by have := HL4.out; omega)
        obtain ⟨xa, xb, xc, xd, hjx, m1, m2, m3, m4⟩ := HJ.out.nth ls vs i _ hu1
        obtain ⟨ya, yb, yc, yd, hjy, m5, m6, m7, m8⟩ := HU.out.nth ls2 us i _ hu2
        obtain ⟨kx, tx, px, nx, cx, qx, mx, dx, rfl, rfl, rfl, rfl⟩ := jat_four hjx
        obtain ⟨ky, ty, py, ny, cy, qy, my, dy, rfl, rfl, rfl, rfl⟩ := jat_four hjy
        have k1 : wr.cell? ⟨g1, o1 + i * 4, none⟩ = some (.int .u8 (kx : Nat)) := cell_in HB.out (hx1 _ _ m1)
        have k2' : wr.cell? ⟨g1, o1 + i * 4 + 1, none⟩ = some (.string tx) := cell_in HB.out (hx1 _ _ m2)
        have k3 : wr.cell? ⟨g1, o1 + i * 4 + 2, none⟩ = some (.slice px nx cx) := cell_in HB.out (hx1 _ _ m3)
        have k4 : wr.cell? ⟨g1, o1 + i * 4 + 3, none⟩ = some (.slice qx mx dx) := cell_in HB.out (hx1 _ _ m4)
        obtain ⟨w3, hw3⟩ : ∃ w3, wr.alloc (.cells #[.int .u8 (kx : Nat), .string tx, .slice px nx cx, .slice qx mx dx] 47) = w3 := ⟨_, rfl⟩
        have hb3 : Below wr.heap.size wr w3 := by rw [← hw3]; exact galloc (Below.refl _ _) _
        have hX3 : w3.heap[wr.heap.size]? = some (.cells #[.int .u8 (kx : Nat), .string tx, .slice px nx cx, .slice qx mx dx] 47 (0, 0)) := by rw [← hw3]; exact World.alloc_heap_new wr _
        have HB3 := gcall HB.out hb3
        have l1 : w3.cell? ⟨g2, o2 + i * 4, none⟩ = some (.int .u8 (ky : Nat)) := cell_in HB3 (hx2 _ _ m5)
        have l2 : w3.cell? ⟨g2, o2 + i * 4 + 1, none⟩ = some (.string ty) := cell_in HB3 (hx2 _ _ m6)
        have l3 : w3.cell? ⟨g2, o2 + i * 4 + 2, none⟩ = some (.slice py ny cy) := cell_in HB3 (hx2 _ _ m7)
        have l4 : w3.cell? ⟨g2, o2 + i * 4 + 3, none⟩ = some (.slice qy my dy) := cell_in HB3 (hx2 _ _ m8)
        obtain ⟨w4, hw4⟩ : ∃ w4, w3.alloc (.cells #[.int .u8 (ky : Nat), .string ty, .slice py ny cy, .slice qy my dy] 47) = w4 := ⟨_, rfl⟩
        have hb4 : Below w3.heap.size w3 w4 := by rw [← hw4]; exact galloc (Below.refl _ _) _
        have hY4 : w4.heap[w3.heap.size]? = some (.cells #[.int .u8 (ky : Nat), .string ty, .slice py ny cy, .slice qy my dy] 47 (0, 0)) := by rw [← hw4]; exact World.alloc_heap_new w3 _
        have hX4 := (hb4.block wr.heap.size (Array.getElem?_eq_some_iff.1 hX3).1).trans hX3
        obtain ⟨X, hXe⟩ : ∃ X, wr.heap.size = X := ⟨_, rfl⟩
        obtain ⟨Y, hYe⟩ : ∃ Y, w3.heap.size = Y := ⟨_, rfl⟩
        rw [hXe] at hX4
        rw [hYe] at hY4
        obtain ⟨x0, x1, x2, x3⟩ : w4.cell? ⟨X, 0, none⟩ = some (.int .u8 (kx : Nat)) ∧ w4.cell? ⟨X, 1, none⟩ = some (.string tx) ∧ w4.cell? ⟨X, 2, none⟩ = some (.slice px nx cx) ∧ w4.cell? ⟨X, 3, none⟩ = some (.slice qx mx dx) := box_cells hX4
        obtain ⟨y0, y1, y2, y3⟩ : w4.cell? ⟨Y, 0, none⟩ = some (.int .u8 (ky : Nat)) ∧ w4.cell? ⟨Y, 1, none⟩ = some (.string ty) ∧ w4.cell? ⟨Y, 2, none⟩ = some (.slice py ny cy) ∧ w4.cell? ⟨Y, 3, none⟩ = some (.slice qy my dy) := box_cells hY4
        have HB4 := Lib.hid (gcall HB3 hb4)
        have hcall := HREC.out i _ hu1 (ls2[i]'(by have := HL4.out; omega)) w4 [.int .u8 (kx : Nat), .string tx, .slice px nx cx, .slice qx mx dx] [.int .u8 (ky : Nat), .string ty, .slice py ny cy, .slice qy my dy] (hjx.below HB4.out) (hjy.below HB4.out)
        rw [show ([.int .u8 (kx : Nat), .string tx, .slice px nx cx, .slice qx mx dx] : List Value).toArray = #[.int .u8 (kx : Nat), .string tx, .slice px nx cx, .slice qx mx dx] from rfl, show ([.int .u8 (ky : Nat), .string ty, .slice py ny cy, .slice qy my dy] : List Value).toArray = #[.int .u8 (ky : Nat), .string ty, .slice py ny cy, .slice qy my dy] from rfl] at hcall
        cases hs : sameJ (ls[i]'hlt) (ls2[i]'(by have := HL4.out; omega)) with
        | true =>
          rw [hs] at hcall
          have HN2 : Hid (∀ j, j < i + 1 → ∀ x y, ls[j]? = some x → ls2[j]? = some y → sameJ x y = true) := Lib.hid (fun j hj x y h1 h2 => by
            rcases Nat.lt_or_ge j i with g | g
            · exact HN.out j g x y h1 h2
            · obtain rfl : j = i := by omega
              rw [hu1] at h1; rw [hu2] at h2
              rw [← Option.some.inj h1, ← Option.some.inj h2]; exact hs)
          clear hx1 hx2 hu1 hu2 hjx hjy m1 m2 m3 m4 m5 m6 m7 m8 hs hb3 hX3 HB3 hb4 hY4 hX4
          go_wp2_with fail
          refine hcall.mono ?_
          rintro e w5 ⟨rfl, hb5⟩
          have HB5 := Lib.hid (gcall HB4.out hb5)
          clear hb5 hcall
          go_wp2
          exact ⟨⟨i + 1, by omega, rfl, HB5, HN2⟩, by simp [intOf]; omega⟩
        | false =>
          rw [hs] at hcall
          have HGF : Hid (G = false) := Lib.hid (by rw [← HG.out]; exact samesJ_at ls ls2 i _ _ hu1 hu2 hs)
          clear hx1 hx2 hu1 hu2 hjx hjy m1 m2 m3 m4 m5 m6 m7 m8 hs hb3 hX3 HB3 hb4 hY4 hX4
          go_wp2_with fail
          refine hcall.mono ?_
          rintro e w5 ⟨rfl, hb5⟩
          have HB5 := Lib.hid (gcall HB4.out hb5)
          clear hb5 hcall
          go_wp2
          go_ret
          exact ⟨by rw [HGF.out]; rfl, HB5.out⟩
      · obtain rfl : i = ls.length := by omega
        have hlt' : ¬ (ls.length : Int) < (ls.length : Int) := by omega
        have HGT : Hid (G = true) := Lib.hid (by
          rw [← HG.out]; exact samesJ_all ls ls2 HL4.out (fun i x y h1 h2 => HN.out i (by have := (List.getElem?_eq_some_iff.1 h1).1; exact this) x y h1 h2))
        go_wp2
        go_ret
        exact ⟨by rw [HGT.out]; rfl, HB.out⟩
  · have e4' : ((ls.length : Int) != (ls2.length : Int)) = true := by simp; omega
    have HGF : Hid (G = false) := Lib.hid (by rw [← HG.out, samesJ_len _ _ e4])
    clear e4 HG
    go_enter Tryz.func113, Tryz.ntmps113
    go_wp2
    go_ret
    exact ⟨by rw [HGF.out]; rfl, Below.refl _ _⟩
set_option maxRecDepth 100000 in
set_option maxHeartbeats 16000000 in
theorem jsame_one (k : Nat) (t : List UInt8) (ns : List (List UInt8)) (ls : List J) (k2 : Nat) (t2 : List UInt8) (ns2 : List (List UInt8)) (ls2 : List J) (W : World) (pc : Option Addr) (cc : Nat) (pd : Option Addr) (cd : Nat) (vs : List Value) (pe : Option Addr) (ce : Nat) (pf : Option Addr) (cf : Nat) (us : List Value)
    (hn : ns.length ≤ 1000000000) (hn2 : ls.length ≤ 1000000000) (hc : SlIn AnyB W (.slice pc ns.length cc) 1 ns.length (ns.map bl)) (hd : SlIn AnyB W (.slice pd ls.length cd) 4 ls.length vs) (hj : JsAt AnyB W ls vs)
    (he : SlIn AnyB W (.slice pe ns2.length ce) 1 ns2.length (ns2.map bl)) (hf : SlIn AnyB W (.slice pf ls2.length cf) 4 ls2.length us) (hg : JsAt AnyB W ls2 us)
    (HREC : Hid (∀ (i : Nat) x, ls[i]? = some x → ∀ (y : J) (w : World) (xs ys : List Value), JAt AnyB w x xs → JAt AnyB w y ys → Calls Tryz.prog 76 #[.agg xs.toArray, .agg ys.toArray] w fun e w' => e = .returned (.bool (sameJ x y)) ∧ Below w.heap.size w w')) :
    Calls Tryz.prog 76 #[.agg #[.int .u8 k, bl t, .slice pc ns.length cc, .slice pd ls.length cd], .agg #[.int .u8 k2, bl t2, .slice pe ns2.length ce, .slice pf ls2.length cf]] W fun e w' => e = .returned (.bool (sameJ (.mk k t ns ls) (.mk k2 t2 ns2 ls2))) ∧ Below W.heap.size W w' := by
  obtain ⟨G, hG⟩ : ∃ G, sameJ (.mk k t ns ls) (.mk k2 t2 ns2 ls2) = G := ⟨_, rfl⟩
  rw [hG]
  have hG2 : (k == k2 && (t == t2 && (ns == ns2 && samesJ ls ls2))) = G := by rw [← hG, sameJ]
  obtain ⟨T, hT⟩ : ∃ T : ByteArray, (⟨t.toArray⟩ : ByteArray) = T := ⟨_, rfl⟩
  obtain ⟨T2, hT2⟩ : ∃ T2 : ByteArray, (⟨t2.toArray⟩ : ByteArray) = T2 := ⟨_, rfl⟩
  have hTT : (T.toList == T2.toList) = (t == t2) := by rw [← hT, ← hT2, Lib.toList_data, Lib.toList_data]
  have hb1 : bl t = .string T := by unfold bl; rw [hT]
  have hb2 : bl t2 = .string T2 := by unfold bl; rw [hT2]
  rw [hb1, hb2]
  have hkk : ((k : Int) == (k2 : Int)) = (k == k2) := by rw [Bool.eq_iff_iff, beq_iff_eq, beq_iff_eq]; omega
  obtain ⟨K, hK⟩ : ∃ K : Int, (k : Int) = K := ⟨_, rfl⟩
  obtain ⟨K2, hK2⟩ : ∃ K2 : Int, (k2 : Int) = K2 := ⟨_, rfl⟩
  rw [hK, hK2] at hkk ⊢
  clear hG hT hT2 hb1 hb2 hK hK2
  obtain ⟨w1, hw1⟩ : ∃ w1, W.alloc (Obj.cells #[.int .u8 K, .string T, .slice pc ns.length cc, .slice pd ls.length cd] 47) = w1 := ⟨_, rfl⟩
  have hp1 : w1.heap[W.heap.size]? = some (.cells #[.int .u8 K, .string T, .slice pc ns.length cc, .slice pd ls.length cd] 47 (0, 0)) := by rw [← hw1]; exact World.alloc_heap_new W _
  have hb1 : Below W.heap.size W w1 := by rw [← hw1]; exact galloc (Below.refl _ _) _
  obtain ⟨w2, hw2⟩ : ∃ w2, w1.alloc (Obj.cells #[.int .u8 K2, .string T2, .slice pe ns2.length ce, .slice pf ls2.length cf] 47) = w2 := ⟨_, rfl⟩
  have hp2 : w2.heap[w1.heap.size]? = some (.cells #[.int .u8 K2, .string T2, .slice pe ns2.length ce, .slice pf ls2.length cf] 47 (0, 0)) := by rw [← hw2]; exact World.alloc_heap_new w1 _
  have hb2 : Below w1.heap.size w1 w2 := by rw [← hw2]; exact galloc (Below.refl _ _) _
  have hA2 := (hb2.block W.heap.size (Array.getElem?_eq_some_iff.1 hp1).1).trans hp1
  obtain ⟨A, hA⟩ : ∃ A, W.heap.size = A := ⟨_, rfl⟩
  obtain ⟨B, hB⟩ : ∃ B, w1.heap.size = B := ⟨_, rfl⟩
  rw [hA] at hA2
  rw [hB] at hp2
  have HBW := Lib.hid (gcall hb1 hb2)
  have hst : Stays AnyB W w2 := ⟨HBW.out.size, fun i hi _ => HBW.out.block i hi⟩
  have heq := equal_any ns ns2 pc cc pe ce w2 hn (hc.world hst) (he.world hst)
  have HQ := Lib.hid (fun (w : World) (hb : Below w2.heap.size w2 w) => equalf_any ls ls2 pd cd pf cf vs us w hn2 ((hd.world hst).world ⟨hb.size, fun i hi _ => hb.block i hi⟩) ((hf.world hst).world ⟨hb.size, fun i hi _ => hb.block i hi⟩) (JsAt.world ⟨hb.size, fun i hi _ => hb.block i hi⟩ ls vs (JsAt.world hst ls vs hj)) (JsAt.world ⟨hb.size, fun i hi _ => hb.block i hi⟩ ls2 us (JsAt.world hst ls2 us hg)) HREC)
  obtain ⟨a0, a1, a2, a3⟩ := box_cells hA2
  obtain ⟨b0, b1, b2, b3⟩ := box_cells hp2
  have HA2 := Lib.hid hA2
  have HP2 := Lib.hid hp2
  have HN := Lib.hid hA
  generalize samesJ ls ls2 = S at *
  generalize (ns == ns2) = E at *
  generalize (t == t2) = F at *
  generalize (k == k2) = C at *
  have HG := Lib.hid hG2
  clear hG2 hc hd hj he hf hg HREC hp1 hb1 hb2 hA2 hp2 hst hn hn2
  cases C with
  | false =>
    go_enter Tryz.func76, Tryz.ntmps76
    go_wp2
    go_ret
    rw [← HG.out]
    exact ⟨rfl, by first | exact HBW.out | (rw [← HN.out]; exact HBW.out)⟩
  | true =>
    cases F with
    | false =>
      go_enter Tryz.func76, Tryz.ntmps76
      go_wp2
      go_ret
      rw [← HG.out]
      exact ⟨rfl, by first | exact HBW.out | (rw [← HN.out]; exact HBW.out)⟩
    | true =>
      cases E with
      | false =>
        go_enter Tryz.func76, Tryz.ntmps76
        go_wp2_with fail
        refine heq.mono ?_
        rintro e w3 ⟨rfl, hb3⟩
        have HB3 := Lib.hid (gcall HBW.out hb3)
        clear hb3 heq
        go_wp2
        go_ret
        rw [← HG.out]
        exact ⟨rfl, by first | exact HB3.out | (rw [← HN.out]; exact HB3.out)⟩
      | true =>
        go_enter Tryz.func76, Tryz.ntmps76
        go_wp2_with fail
        refine heq.mono ?_
        rintro e w3 ⟨rfl, hb3⟩
        have HB3 := Lib.hid (gcall HBW.out hb3)
        have hq := HQ.out w3 hb3
        have hA3 := (hb3.block A (Array.getElem?_eq_some_iff.1 HA2.out).1).trans HA2.out
        have hB3 := (hb3.block B (Array.getElem?_eq_some_iff.1 HP2.out).1).trans HP2.out
        obtain ⟨c0, c1, c2, c3⟩ := box_cells hA3
        obtain ⟨d0, d1, d2, d3⟩ := box_cells hB3
        clear hb3 heq hA3 hB3
        go_wp2_with fail
        refine hq.mono ?_
        rintro e w4 ⟨rfl, hb4⟩
        have HB4 := Lib.hid (gcall HB3.out hb4)
        clear hb4 hq
        go_wp2
        go_ret
        rw [← HG.out]
        exact ⟨rfl, by first | exact HB4.out | (rw [← HN.out]; exact HB4.out)⟩
theorem jsame_deep : ∀ (n : Nat) (a : J), deepJ a ≤ n → bigJ a → ∀ (b : J) (W : World) (ca cb : List Value), JAt AnyB W a ca → JAt AnyB W b cb → Calls Tryz.prog 76 #[.agg ca.toArray, .agg cb.toArray] W fun e w' => e = .returned (.bool (sameJ a b)) ∧ Below W.heap.size W w'
  | 0, .mk k t ns ls, hd, _, _, _, _, _, _, _ => by unfold deepJ at hd; omega
  | n + 1, .mk k t ns ls, hd, hbig, .mk k2 t2 ns2 ls2, W, ca, cb, ha, hb => by
    obtain ⟨pc, cc, pd, cd, vs, rfl, h1, h2, h3⟩ := ha.form
    obtain ⟨pe, ce, pf, cf, us, rfl, h4, h5, h6⟩ := hb.form
    unfold bigJ at hbig
    refine jsame_one k t ns ls k2 t2 ns2 ls2 W pc cc pd cd vs pe ce pf cf us (by omega) (by omega) h1 h2 h3 h4 h5 h6 (Lib.hid fun i x hi y w xs ys hx hy => jsame_deep n x ?_ (bigsJ_at ls i x hbig.2.2 hi) y w xs ys hx hy)
    have := deepJ_at ls i x hi
    unfold deepJ at hd; omega
set_option maxRecDepth 100000 in
set_option maxHeartbeats 4000000 in
/-- json's Same, of any two values of which the first one is small. -/
theorem jsame_j (a b : J) (hbig : bigJ a) (hbd : boundG a = true) (W : World) (p q u v p2 q2 u2 v2 : Value) (ha : JAt AnyB W a [p, q, u, v]) (hb : JAt AnyB W b [p2, q2, u2, v2]) :
    Calls Tryz.prog 43 #[.agg #[p, q, u, v], .agg #[p2, q2, u2, v2]] W fun e w' => e = .returned (.bool (sameJ a b)) ∧ Below W.heap.size W w' := by
  obtain ⟨kd, tx, pc, nc, cc, pe, ne, ce, rfl, rfl, rfl, rfl⟩ := jat_four ha
  obtain ⟨kd2, tx2, pc2, nc2, cc2, pe2, ne2, ce2, rfl, rfl, rfl, rfl⟩ := jat_four hb
  obtain ⟨K, hK⟩ : ∃ K : Int, (kd : Int) = K := ⟨_, rfl⟩
  obtain ⟨K2, hK2⟩ : ∃ K2 : Int, (kd2 : Int) = K2 := ⟨_, rfl⟩
  rw [hK] at ha ⊢
  rw [hK2] at hb ⊢
  have hX := BoxJ.new ha
  obtain ⟨w1, hw1⟩ : ∃ w1, W.alloc (Obj.cells #[.int .u8 K, .string tx, .slice pc nc cc, .slice pe ne ce] 47) = w1 := ⟨_, rfl⟩
  have hb1 : Below W.heap.size W w1 := by rw [← hw1]; exact galloc (Below.refl _ _) _
  rw [hw1] at hX
  have hY := BoxJ.new (hb.below hb1)
  obtain ⟨w2, hw2⟩ : ∃ w2, w1.alloc (Obj.cells #[.int .u8 K2, .string tx2, .slice pc2 nc2 cc2, .slice pe2 ne2 ce2] 47) = w2 := ⟨_, rfl⟩
  have hb2 : Below w1.heap.size w1 w2 := by rw [← hw2]; exact galloc (Below.refl _ _) _
  rw [hw2] at hY
  obtain ⟨A, hA⟩ : ∃ A, W.heap.size = A := ⟨_, rfl⟩
  obtain ⟨B, hB⟩ : ∃ B, w1.heap.size = B := ⟨_, rfl⟩
  have hX2 := hX.below hb2
  rw [hA] at hX2
  rw [hB] at hY
  have HX := Lib.hid hX2
  have HY := Lib.hid hY
  have HB2 := Lib.hid (gcall hb1 hb2)
  have HN := Lib.hid hA
  obtain ⟨c0, c1, c2, c3⟩ := hX2.cells
  have hbound := bounded_any a hbig w2 _ hX2.2
  rw [hbd] at hbound
  rw [show ([.int .u8 K, .string tx, .slice pc nc cc, .slice pe ne ce] : List Value).toArray = #[.int .u8 K, .string tx, .slice pc nc cc, .slice pe ne ce] from rfl] at hbound
  have HS := Lib.hid (fun (w : World) (ha : JAt AnyB w a [.int .u8 K, .string tx, .slice pc nc cc, .slice pe ne ce]) (hb : JAt AnyB w b [.int .u8 K2, .string tx2, .slice pc2 nc2 cc2, .slice pe2 ne2 ce2]) => jsame_deep (deepJ a) a (Nat.le_refl _) hbig b w _ _ ha hb)
  clear ha hb hX hY hX2 hb1 hb2 hbig hbd hK hK2
  go_enter Tryz.func43, Tryz.ntmps43
  go_wp2_with fail
  refine hbound.mono ?_
  rintro e w3 ⟨rfl, hb3⟩
  have HB3 := Lib.hid (gcall HB2.out hb3)
  have hX3 := HX.out.below hb3
  have hY3 := HY.out.below hb3
  obtain ⟨c0, c1, c2, c3⟩ := hX3.cells
  obtain ⟨d0, d1, d2, d3⟩ := hY3.cells
  have hs := HS.out w3 hX3.2 hY3.2
  rw [show ([.int .u8 K, .string tx, .slice pc nc cc, .slice pe ne ce] : List Value).toArray = #[.int .u8 K, .string tx, .slice pc nc cc, .slice pe ne ce] from rfl, show ([.int .u8 K2, .string tx2, .slice pc2 nc2 cc2, .slice pe2 ne2 ce2] : List Value).toArray = #[.int .u8 K2, .string tx2, .slice pc2 nc2 cc2, .slice pe2 ne2 ce2] from rfl] at hs
  clear hb3 hbound hX3 hY3
  go_wp2_with fail
  refine hs.mono ?_
  rintro e w4 ⟨rfl, hb4⟩
  have HB4 := Lib.hid (gcall HB3.out hb4)
  clear hb4 hs
  go_wp2
  go_ret
  exact ⟨rfl, by first | exact HB4.out | (rw [← HN.out]; exact HB4.out)⟩
end Go.Proofs.YtgcpgieojckheaaGreatDoor.Json
namespace Go.Proofs.YtgcpgieojckheaaGreatDoor.Json
open Go.RowKit Go.Shelf

theorem BoxJ.jat {N : Nat} {j : J} {a b c d : Value} {w : World} (h : BoxJ N j a b c d w) : JAt AnyB w j [a, b, c, d] := h.2
mutual
theorem deep_count : ∀ j : J, deepJ j ≤ countJ j
  | .mk k t ns ls => by
    unfold deepJ countJ
    have := deeps_count ls
    omega
theorem deeps_count : ∀ l : List J, deepsJ l ≤ countsJ l
  | [] => by unfold deepsJ countsJ; omega
  | j :: js => by
    unfold deepsJ countsJ
    have := deep_count j
    have := deeps_count js
    omega
end
set_option maxHeartbeats 16000000 in
set_option maxRecDepth 100000 in
theorem texts_walk (j j2 : J) (W : World) (va vb vc vd va2 vb2 vc2 vd2 : Value) (hT : TabsJ W) (h8 : 8 ≤ W.heap.size) (hj : JAt AnyB W j [va, vb, vc, vd]) (hj2 : JAt AnyB W j2 [va2, vb2, vc2, vd2]) (hm : massJ j ≤ 1048576) (hm2 : massJ j2 ≤ 1048576) :
    Calls Tryz.prog 14 #[.agg #[va, vb, vc, vd], .agg #[va2, vb2, vc2, vd2]] W fun e w' => e = .returned (.bool true) ∧ Below W.heap.size W w' := by
  obtain ⟨kd, tx, pc, nc, cc, pe, ne, ce, rfl, rfl, rfl, rfl⟩ := jat_four hj
  obtain ⟨kd2, tx2, pc2, nc2, cc2, pe2, ne2, ce2, rfl, rfl, rfl, rfl⟩ := jat_four hj2
  obtain ⟨K, hK⟩ : ∃ K : Int, (kd : Int) = K := ⟨_, rfl⟩
  obtain ⟨K2, hK2⟩ : ∃ K2 : Int, (kd2 : Int) = K2 := ⟨_, rfl⟩
  rw [hK] at hj ⊢
  rw [hK2] at hj2 ⊢
  have hX := BoxJ.new hj
  obtain ⟨w1, hw1⟩ : ∃ w1, W.alloc (Obj.cells #[.int .u8 K, .string tx, .slice pc nc cc, .slice pe ne ce] 47) = w1 := ⟨_, rfl⟩
  have hb1 : Below W.heap.size W w1 := by rw [← hw1]; exact galloc (Below.refl _ _) _
  rw [hw1] at hX
  have hY := BoxJ.new (hj2.below hb1)
  obtain ⟨w2, hw2⟩ : ∃ w2, w1.alloc (Obj.cells #[.int .u8 K2, .string tx2, .slice pc2 nc2 cc2, .slice pe2 ne2 ce2] 47) = w2 := ⟨_, rfl⟩
  have hb2 : Below w1.heap.size w1 w2 := by rw [← hw2]; exact galloc (Below.refl _ _) _
  rw [hw2] at hY
  obtain ⟨A, hA⟩ : ∃ A, W.heap.size = A := ⟨_, rfl⟩
  obtain ⟨B, hB⟩ : ∃ B, w1.heap.size = B := ⟨_, rfl⟩
  have hX2 := hX.below hb2
  rw [hA] at hX2
  rw [hB] at hY
  have HX2 := Lib.hid hX2
  have HY2 := Lib.hid hY
  have HB2 := Lib.hid (gcall hb1 hb2)
  have HN := Lib.hid hA
  have HT : Hid (∀ w, Below W.heap.size W w → TabsJ w ∧ 8 ≤ w.heap.size) := Lib.hid fun w hb => ⟨hT.below hb h8, Nat.le_trans h8 hb.size⟩
  have HM := Lib.hid hm
  have HM2 := Lib.hid hm2
  have hworks := works_any w2 (HT.out w2 HB2.out).1 (HT.out w2 HB2.out).2
  clear hT h8 hj hj2 hm hm2 hX hY hX2 hb1 hb2 hK hK2
  go_enter Tryz.func14, Tryz.ntmps14
  go_wp2_with fail
  refine hworks.mono ?_
  rintro e w3 ⟨rfl, hb3⟩
  have HB3 := Lib.hid (gcall HB2.out hb3)
  have HX3 := Lib.hid (HX2.out.below hb3)
  have HY3 := Lib.hid (HY2.out.below hb3)
  obtain ⟨c0, c1, c2, c3⟩ := HX3.out.cells
  have hweight := weight_j j HM.out w3 _ _ _ _ HX3.out.2
  have HWF := Lib.hid (weight_fine j)
  have HWF2 := Lib.hid (weight_fine j2)
  clear hb3 hworks
  generalize hwt : weightJ j = wt at *
  clear hwt
  go_wp2_with fail
  refine hweight.mono ?_
  rintro e w4 ⟨rfl, hb4⟩
  have HB4 := Lib.hid (gcall HB3.out hb4)
  have HX4 := Lib.hid (HX3.out.below hb4)
  have HY4 := Lib.hid (HY3.out.below hb4)
  clear hb4 hweight c0 c1 c2 c3
  by_cases hwl : 1500 ≤ wt
  · have hwl1 : decide ((1500 : Int) ≤ (wt : Int)) = true := decide_eq_true (by omega)
    have hwl2 : decide (1500 ≤ wt) = true := decide_eq_true hwl
    have hworks4 := works_any w4 (HT.out w4 HB4.out).1 (HT.out w4 HB4.out).2
    have HBL := HB4
    go_wp2_with fail
    refine hworks4.mono ?_
    rintro e w9 ⟨rfl, hb9⟩
    have HB9 := Lib.hid (gcall HBL.out hb9)
    clear hb9 hworks4
    go_wp2
    go_ret
    exact ⟨rfl, by first | exact HB9.out | (rw [← HN.out]; exact HB9.out)⟩
  · have hwl1 : decide ((1500 : Int) ≤ (wt : Int)) = false := decide_eq_false (by omega)
    have hwl2 : decide (1500 ≤ wt) = false := decide_eq_false hwl
    obtain ⟨f1, f2, f3, f4⟩ := HWF.out (by omega)
    have HF1 : Hid (countJ j ≤ 2147483647) := Lib.hid (by omega)
    have HF2 := Lib.hid f2
    have HF3 := Lib.hid f3
    have HF4 := Lib.hid f4
    obtain ⟨d0, d1, d2, d3⟩ := HY4.out.cells
    have hweight2 := weight_j j2 HM2.out w4 _ _ _ _ HY4.out.2
    have HC1 : Hid (countJ j < 2000) := Lib.hid (by omega)
    clear f1 f2 f3 f4 HWF
    generalize hwt : weightJ j2 = wt2 at *
    clear hwt
    go_wp2_with fail
    refine hweight2.mono ?_
    rintro e w5 ⟨rfl, hb5⟩
    have HB5 := Lib.hid (gcall HB4.out hb5)
    have HX5 := Lib.hid (HX4.out.below hb5)
    have HY5 := Lib.hid (HY4.out.below hb5)
    clear hb5 hweight2 d0 d1 d2 d3
    by_cases hwm : 1500 ≤ wt2
    · have hwm1 : decide ((1500 : Int) ≤ (wt2 : Int)) = true := decide_eq_true (by omega)
      have hwm2 : decide (1500 ≤ wt2) = true := decide_eq_true hwm
      have hworks5 := works_any w5 (HT.out w5 HB5.out).1 (HT.out w5 HB5.out).2
      have HBL := HB5
      go_wp2_with fail
      refine hworks5.mono ?_
      rintro e w9 ⟨rfl, hb9⟩
      have HB9 := Lib.hid (gcall HBL.out hb9)
      clear hb9 hworks5
      go_wp2
      go_ret
      exact ⟨rfl, by first | exact HB9.out | (rw [← HN.out]; exact HB9.out)⟩
    · have hwm1 : decide ((1500 : Int) ≤ (wt2 : Int)) = false := decide_eq_false (by omega)
      have hwm2 : decide (1500 ≤ wt2) = false := decide_eq_false hwm
      obtain ⟨g1, g2, g3, g4⟩ := HWF2.out (by omega)
      have HG1 : Hid (countJ j2 ≤ 2147483647) := Lib.hid (by omega)
      have HC2 : Hid (countJ j2 < 2000) := Lib.hid (by omega)
      have HG2 := Lib.hid g2
      have HG3 := Lib.hid g3
      have HG4 := Lib.hid g4
      obtain ⟨c0, c1, c2, c3⟩ := HX5.out.cells
      have hgiven := given_j j HF4.out w5 _ _ _ _ HX5.out.2
      clear g1 g2 g3 g4 HWF2 HM HM2
      go_wp2_with fail
      refine hgiven.mono ?_
      rintro e w6 ⟨v, rfl, hv, hb6⟩
      obtain ⟨kd6, tx6, pc6, nc6, cc6, pe6, ne6, ce6, rfl, hj6⟩ := jval_four hv
      have HB6 := Lib.hid (gcall HB5.out hb6)
      have HX6 := Lib.hid (HX5.out.below hb6)
      have HY6 := Lib.hid (HY5.out.below hb6)
      have hprint := print_j j HF3.out HF2.out HF1.out w6 _ _ _ _ (HT.out w6 HB6.out).1 (HT.out w6 HB6.out).2 hj6.any
      clear hgiven hv hj6 hb6 c0 c1 c2 c3
      have HTS := Lib.hid (texts_same j j2 HF1.out HG1.out)
      go_wp2_with fail
      refine hprint.mono ?_
      rintro e w7 ⟨rfl, hb7⟩
      have HB7 := Lib.hid (gcall HB6.out hb7)
      have HX7 := Lib.hid (HX6.out.below hb7)
      have HY7 := Lib.hid (HY6.out.below hb7)
      obtain ⟨d0, d1, d2, d3⟩ := HY7.out.cells
      have hgiven := given_j j2 HG4.out w7 _ _ _ _ HY7.out.2
      clear hprint hb7
      go_wp2_with fail
      refine hgiven.mono ?_
      rintro e w8 ⟨v, rfl, hv, hb8⟩
      obtain ⟨kd8, tx8, pc8, nc8, cc8, pe8, ne8, ce8, rfl, hj8⟩ := jval_four hv
      have HB8 := Lib.hid (gcall HB7.out hb8)
      have HX8 := Lib.hid (HX7.out.below hb8)
      have HY8 := Lib.hid (HY7.out.below hb8)
      have hprint := print_j j2 HG3.out HG2.out HG1.out w8 _ _ _ _ (HT.out w8 HB8.out).1 (HT.out w8 HB8.out).2 hj8.any
      clear hgiven hv hj8 hb8 d0 d1 d2 d3
      go_wp2_with fail
      refine hprint.mono ?_
      rintro e w9 ⟨rfl, hb9⟩
      have HB9 : Hid (Below W.heap.size W w9.drew) := Lib.hid (gcall HB8.out hb9).drew
      have HX9 := Lib.hid (HX8.out.below hb9)
      have HY9 := Lib.hid (HY8.out.below hb9)
      have HSa := Lib.hid (fun (w : World) (h1 : JAt AnyB w j [.int .u8 K, .string tx, .slice pc nc cc, .slice pe ne ce]) (h2 : JAt AnyB w j2 [.int .u8 K2, .string tx2, .slice pc2 nc2 cc2, .slice pe2 ne2 ce2]) => jsame_j j j2 HF3.out (bound_plain j HF1.out (by have := deep_count j; have := HC1.out; omega)) w _ _ _ _ _ _ _ _ h1 h2)
      have HSb := Lib.hid (fun (w : World) (h1 : JAt AnyB w j [.int .u8 K, .string tx, .slice pc nc cc, .slice pe ne ce]) (h2 : JAt AnyB w j2 [.int .u8 K2, .string tx2, .slice pc2 nc2 cc2, .slice pe2 ne2 ce2]) => jsame_j j2 j HG3.out (bound_plain j2 HG1.out (by have := deep_count j2; have := HC2.out; omega)) w _ _ _ _ _ _ _ _ h2 h1)
      rw [sameJ_comm j2 j] at HSb
      generalize sameJ j j2 = Sm at *
      generalize printO j = O1 at *
      generalize printO j2 = O2 at *
      obtain ⟨o1, e1⟩ := O1
      obtain ⟨o2, e2⟩ := O2
      obtain ⟨X, hXe⟩ : ∃ X : ByteArray, (⟨o1.toArray⟩ : ByteArray) = X := ⟨_, rfl⟩
      obtain ⟨Y, hYe⟩ : ∃ Y : ByteArray, (⟨o2.toArray⟩ : ByteArray) = Y := ⟨_, rfl⟩
      have hXY : (X.toList == Y.toList) = (o1 == o2) := by rw [← hXe, ← hYe, Lib.toList_data, Lib.toList_data]
      have HBQ : Hid (∀ n, Below W.heap.size W (w9.drewN n)) := Lib.hid (fun n => gcall (gcall HB8.out hb9) (drewN_below w9 n))
      clear hprint hb9
      by_cases h1 : e1 = 0
      · have h11 : (e1 != 0) = false := by rw [h1]; rfl
        by_cases h2 : e2 = 0
        · have h21 : (e2 != 0) = false := by rw [h2]; rfl
          have hq : (X.toList == Y.toList) = Sm := hXY.trans (HTS.out h1 h2)
          obtain ⟨c0, c1, c2, c3⟩ := HX9.out.cells
          obtain ⟨d0, d1, d2, d3⟩ := HY9.out.cells
          have HXd : Hid (BoxJ A j (.int .u8 K) (.string tx) (.slice pc nc cc) (.slice pe ne ce) w9.drew) := Lib.hid (HX9.out.below (Below.refl w9.heap.size w9).drew)
          have HYd : Hid (BoxJ B j2 (.int .u8 K2) (.string tx2) (.slice pc2 nc2 cc2) (.slice pe2 ne2 ce2) w9.drew) := Lib.hid (HY9.out.below (Below.refl w9.heap.size w9).drew)
          clear h1 h2 hXY HTS
          rw [hXe, hYe]
          cases Sm with
          | true =>
            go_wp2_with fail
            go_region_held3 (fun u => (u.cell? ⟨A, 0, none⟩ = some (.int .u8 K) ∧ u.cell? ⟨A, 1, none⟩ = some (.string tx) ∧ u.cell? ⟨A, 2, none⟩ = some (.slice pc nc cc) ∧ u.cell? ⟨A, 3, none⟩ = some (.slice pe ne ce)) ∧ u.cell? ⟨B, 0, none⟩ = some (.int .u8 K2) ∧ u.cell? ⟨B, 1, none⟩ = some (.string tx2) ∧ u.cell? ⟨B, 2, none⟩ = some (.slice pc2 nc2 cc2) ∧ u.cell? ⟨B, 3, none⟩ = some (.slice pe2 ne2 ce2)) (first | exact ⟨⟨c0, c1, c2, c3⟩, d0, d1, d2, d3⟩ | (with_reducible exact ⟨HC10.out, HD10.out⟩) | (with_reducible exact ⟨HC11.out, HD11.out⟩) | (with_reducible exact ⟨HC12.out, HD12.out⟩) | go_keep) (first
              | (go_at_call 43; (with_reducible refine Calls.mono (HSb.out w11 HX11.out.jat HY11.out.jat) ?_); rintro e w12 ⟨rfl, hb12⟩; have HX12 := Lib.hid (HX11.out.below hb12); have HY12 := Lib.hid (HY11.out.below hb12); have HC12 := Lib.hid HX12.out.cells; have HD12 := Lib.hid HY12.out.cells; have HB12 := Lib.hid (gcall HB11.out hb12); clear hb12)
              | (go_at_call 43; (with_reducible refine Calls.mono (HSa.out w10 HX10.out.jat HY10.out.jat) ?_); rintro e w11 ⟨rfl, hb11⟩; have HX11 := Lib.hid (HX10.out.below hb11); have HY11 := Lib.hid (HY10.out.below hb11); have HC11 := Lib.hid HX11.out.cells; have HD11 := Lib.hid HY11.out.cells; have HB11 := Lib.hid (gcall HB10.out hb11); clear hb11)
              | (go_at_call 43; (with_reducible refine Calls.mono (HSa.out w9.drew HXd.out.jat HYd.out.jat) ?_); rintro e w10 ⟨rfl, hb10⟩; have HX10 := Lib.hid (HXd.out.below hb10); have HY10 := Lib.hid (HYd.out.below hb10); have HC10 := Lib.hid HX10.out.cells; have HD10 := Lib.hid HY10.out.cells; have HB10 := Lib.hid (gcall HB9.out hb10); clear hb10))
            all_goals go_wp2
            all_goals go_ret
            all_goals exact ⟨rfl, by first | exact HB12.out | (rw [← HN.out]; exact HB12.out)⟩
          | false =>
            go_wp2_with fail
            go_region_held3 (fun u => (u.cell? ⟨A, 0, none⟩ = some (.int .u8 K) ∧ u.cell? ⟨A, 1, none⟩ = some (.string tx) ∧ u.cell? ⟨A, 2, none⟩ = some (.slice pc nc cc) ∧ u.cell? ⟨A, 3, none⟩ = some (.slice pe ne ce)) ∧ u.cell? ⟨B, 0, none⟩ = some (.int .u8 K2) ∧ u.cell? ⟨B, 1, none⟩ = some (.string tx2) ∧ u.cell? ⟨B, 2, none⟩ = some (.slice pc2 nc2 cc2) ∧ u.cell? ⟨B, 3, none⟩ = some (.slice pe2 ne2 ce2)) (first | exact ⟨⟨c0, c1, c2, c3⟩, d0, d1, d2, d3⟩ | (with_reducible exact ⟨HC10.out, HD10.out⟩) | (with_reducible exact ⟨HC11.out, HD11.out⟩) | (with_reducible exact ⟨HC12.out, HD12.out⟩) | go_keep) (first
              | (go_at_call 43; (with_reducible refine Calls.mono (HSb.out w11 HX11.out.jat HY11.out.jat) ?_); rintro e w12 ⟨rfl, hb12⟩; have HX12 := Lib.hid (HX11.out.below hb12); have HY12 := Lib.hid (HY11.out.below hb12); have HC12 := Lib.hid HX12.out.cells; have HD12 := Lib.hid HY12.out.cells; have HB12 := Lib.hid (gcall HB11.out hb12); clear hb12)
              | (go_at_call 43; (with_reducible refine Calls.mono (HSa.out w10 HX10.out.jat HY10.out.jat) ?_); rintro e w11 ⟨rfl, hb11⟩; have HX11 := Lib.hid (HX10.out.below hb11); have HY11 := Lib.hid (HY10.out.below hb11); have HC11 := Lib.hid HX11.out.cells; have HD11 := Lib.hid HY11.out.cells; have HB11 := Lib.hid (gcall HB10.out hb11); clear hb11)
              | (go_at_call 43; (with_reducible refine Calls.mono (HSa.out w9.drew HXd.out.jat HYd.out.jat) ?_); rintro e w10 ⟨rfl, hb10⟩; have HX10 := Lib.hid (HXd.out.below hb10); have HY10 := Lib.hid (HYd.out.below hb10); have HC10 := Lib.hid HX10.out.cells; have HD10 := Lib.hid HY10.out.cells; have HB10 := Lib.hid (gcall HB9.out hb10); clear hb10))
            all_goals go_wp2
            all_goals go_ret
            all_goals exact ⟨rfl, by first | exact HB12.out | (rw [← HN.out]; exact HB12.out)⟩
        · have h21 : (e2 != 0) = true := by simpa using h2
          clear h1 h2 hXY HTS
          go_wp2_with fail
          go_quiet (fail)
          go_wp2
          go_ret
          exact ⟨rfl, by first | exact HBQ.out _ | (rw [← HN.out]; exact HBQ.out _)⟩
      · have h11 : (e1 != 0) = true := by simpa using h1
        clear h1 hXY HTS
        go_wp2_with fail
        go_quiet (fail)
        go_wp2
        go_ret
        exact ⟨rfl, by first | exact HBQ.out _ | (rw [← HN.out]; exact HBQ.out _)⟩
end Go.Proofs.YtgcpgieojckheaaGreatDoor.Json
