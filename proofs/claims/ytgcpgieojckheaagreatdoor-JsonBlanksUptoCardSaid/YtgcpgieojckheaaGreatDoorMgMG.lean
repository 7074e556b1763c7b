/-
  json's Same.
  The law JsonTexts.
  The law JsonBlanks.
  The law JsonBlanks: the walk.
  A row of bytes among the arguments: opened.
-/
import Derived.Test.YtgcpgieojckheaaGreatDoorMgMD
import Derived.Test.YtgcpgieojckheaaGreatDoorMgLU3
import Derived.Test.YtgcpgieojckheaaGreatDoorMgYY
namespace Go.Proofs.YtgcpgieojckheaaGreatDoor.Json
open Go.RowKit Go.Shelf

set_option maxRecDepth 100000 in
set_option maxHeartbeats 8000000 in
theorem equal_any (ns ns2 : List (List UInt8)) (pc : Option Addr) (cc : Nat) (pe : Option Addr) (ce : Nat) (W : World) (hn : ns.length ≤ 1000000000) (hc : SlIn AnyB W (.slice pc ns.length cc) 1 ns.length (ns.map bl)) (he : SlIn AnyB W (.slice pe ns2.length ce) 1 ns2.length (ns2.map bl)) :
    Calls Tryz.prog 112 #[.slice pc ns.length cc, .slice pe ns2.length ce] W fun e w' => e = .returned (.bool (ns == ns2)) ∧ Below W.heap.size W w' := by
  obtain ⟨G, hG⟩ : ∃ G, (ns == ns2) = G := ⟨_, rfl⟩
  rw [hG]
  have HG := Lib.hid hG
  have HC := Lib.hid hc
  have HE := Lib.hid he
  clear hG hc he
  by_cases e3 : ns.length = ns2.length
  · have e3' : ((ns.length : Int) != (ns2.length : Int)) = false := by rw [e3]; simp
    have HL3 := Lib.hid e3
    clear e3
    go_enter Tryz.func112, Tryz.ntmps112
    go_wp2_with fail
    go_loopw [13] (fun iv wr => ∃ i : Nat, i ≤ ns.length ∧ iv = .int .i64 i ∧ Hid (Below W.heap.size W wr) ∧ Hid (∀ j, j < i → ∀ x y, ns[j]? = some x → ns2[j]? = some y → x = y)) (fun iv _ => ns.length - (intOf iv).toNat)
    case atStart => exact ⟨0, by omega, rfl, Lib.hid (Below.refl _ _), Lib.hid (fun j hj => by omega)⟩
    case round =>
      obtain ⟨i, hi, rfl, HB, HN⟩ := hrel
      clear e3'
      rcases Nat.lt_or_ge i ns.length with hlt | hge
      · have hlt' : (i : Int) < (ns.length : Int) := by omega
        have hlt2 : (i : Int) < (ns2.length : Int) := by have := HL3.out; omega
        have hwi : IntKind.i64.wrap ((i : Int) + 1) = ((i + 1 : Nat) : Int) := by rw [IntWalk.i64_in _ (by omega)]; omega
        obtain ⟨g1, o1, rfl, hx1⟩ := HC.out.cellAt (by omega)
        obtain ⟨g2, o2, rfl, hx2⟩ := HE.out.cellAt (by have := HL3.out; omega)
        have hu1 := List.getElem?_eq_getElem hlt
        have hu2 := List.getElem?_eq_getElem (l := ns2) (i := i) (by have := HL3.out; omega)
        have hn1 := hx1 i (bl (ns[i]'hlt)) (by rw [List.getElem?_map, hu1]; rfl)
        have hn2 := hx2 i (bl (ns2[i]'(by have := HL3.out; omega))) (by rw [List.getElem?_map, hu2]; rfl)
        have hm1 := cell_in HB.out hn1
        have hm2 := cell_in HB.out hn2
        have HB1 : Hid (∀ n, Below W.heap.size W (wr.drewN n)) := Lib.hid (fun n => gcall HB.out (drewN_below wr n))
        by_cases he : ns[i]'hlt = ns2[i]'(by have := HL3.out; omega)
        · have HN2 : Hid (∀ j, j < i + 1 → ∀ x y, ns[j]? = some x → ns2[j]? = some y → x = y) := Lib.hid (fun j hj x y h1 h2 => by
            rcases Nat.lt_or_ge j i with g | g
            · exact HN.out j g x y h1 h2
            · obtain rfl : j = i := by omega
              rw [hu1] at h1; rw [hu2] at h2
              rw [← Option.some.inj h1, ← Option.some.inj h2]; exact he)
          rw [← he] at hm2
          unfold bl at hm1 hm2
          generalize (⟨(ns[i]'hlt).toArray⟩ : ByteArray) = QI at hm1 hm2
          have hq : (QI.toList == QI.toList) = true := by simp
          have hq2 : (QI.toList != QI.toList) = false := by simp
          clear hx1 hx2 hn1 hn2 hu1 hu2 he
          go_wp2_with fail
          go_quiet (fail)
          go_wp2
          exact ⟨⟨i + 1, by omega, rfl, Lib.hid (HB1.out _), HN2⟩, by simp [intOf]; omega⟩
        · have hq : ((⟨(ns[i]'hlt).toArray⟩ : ByteArray).toList == (⟨(ns2[i]'(by have := HL3.out; omega)).toArray⟩ : ByteArray).toList) = false := by
            rw [Lib.toList_data, Lib.toList_data, beq_eq_false_iff_ne]; exact he
          have HGF : Hid (G = false) := Lib.hid (by rw [← HG.out, names_at ns ns2 i _ _ hu1 hu2 he])
          unfold bl at hm1 hm2
          generalize (⟨(ns[i]'hlt).toArray⟩ : ByteArray) = QI at hm1 hq
          generalize (⟨(ns2[i]'(by have := HL3.out; omega)).toArray⟩ : ByteArray) = QJ at hm2 hq
          have hq2 : (QI.toList != QJ.toList) = true := by rw [bne, hq]; rfl
          clear hx1 hx2 hn1 hn2 hu1 hu2 he
          go_wp2_with fail
          go_quiet (fail)
          go_wp2
          go_ret
          exact ⟨by rw [HGF.out]; rfl, HB1.out _⟩
      · obtain rfl : i = ns.length := by omega
        have hlt' : ¬ (ns.length : Int) < (ns.length : Int) := by omega
        have HG3 : Hid (G = true) := Lib.hid (by
          rw [← HG.out, names_all HL3.out (fun i x y h1 h2 => HN.out i (by have := (List.getElem?_eq_some_iff.1 h1).1; exact this) x y h1 h2)]; simp)
        clear HN HG
        go_wp2
        go_ret
        exact ⟨by rw [HG3.out]; rfl, HB.out⟩
  · have e3' : ((ns.length : Int) != (ns2.length : Int)) = true := by simp; omega
    have HGF : Hid (G = false) := Lib.hid (by rw [← HG.out]; exact beq_eq_false_iff_ne.2 (fun e => e3 (by rw [e])))
    clear e3 HG
    go_enter Tryz.func112, Tryz.ntmps112
    go_wp2
    go_ret
    exact ⟨by rw [HGF.out]; rfl, Below.refl _ _⟩
set_option maxRecDepth 100000 in
set_option maxHeartbeats 16000000 in
theorem equalf_any (ls ls2 : List J) (pd : Option Addr) (cd : Nat) (pf : Option Addr) (cf : Nat) (vs us : List Value) (W : World) (hn : ls.length ≤ 1000000000) (hd : SlIn AnyB W (.slice pd ls.length cd) 4 ls.length vs) (hf : SlIn AnyB W (.slice pf ls2.length cf) 4 ls2.length us)
    (hj : JsAt AnyB W ls vs) (hg : JsAt AnyB W ls2 us)
    (HREC : Hid (∀ (i : Nat) x, ls[i]? = some x → ∀ (y : J) (w : World) (xs ys : List Value), JAt AnyB w x xs → JAt AnyB w y ys → Calls Tryz.prog 76 #[.agg xs.toArray, .agg ys.toArray] w fun e w' => e = .returned (.bool (sameJ x y)) ∧ Below w.heap.size w w')) :
    Calls Tryz.prog 113 #[.slice pd ls.length cd, .slice pf ls2.length cf, .func (.func 76) #[] #[]] W fun e w' => e = .returned (.bool (samesJ ls ls2)) ∧ Below W.heap.size W w' := by
  obtain ⟨G, hG⟩ : ∃ G, samesJ ls ls2 = G := ⟨_, rfl⟩
  rw [hG]
  have HG := Lib.hid hG
  have HD := Lib.hid hd
  have HF := Lib.hid hf
  have HJ := Lib.hid hj
  have HU := Lib.hid hg
  clear hG hd hf hj hg
  by_cases e4 : ls.length = ls2.length
  · have e4' : ((ls.length : Int) != (ls2.length : Int)) = false := by rw [e4]; simp
    have HL4 := Lib.hid e4
    clear e4
    go_enter Tryz.func113, Tryz.ntmps113
    go_wp2_with fail
    go_loopw [17] (fun iv wr => ∃ i : Nat, i ≤ ls.length ∧ iv = .int .i64 i ∧ Hid (Below W.heap.size W wr) ∧ Hid (∀ j, j < i → ∀ x y, ls[j]? = some x → ls2[j]? = some y → sameJ x y = true)) (fun iv _ => ls.length - (intOf iv).toNat)
    case atStart => exact ⟨0, by omega, rfl, Lib.hid (Below.refl _ _), Lib.hid (fun j hj => by omega)⟩
    case round =>
      clear e4'
      obtain ⟨i, hi2, rfl, HB, HN⟩ := hrel
      rcases Nat.lt_or_ge i ls.length with hlt | hge
      · have hlt' : (i : Int) < (ls.length : Int) := by omega
        have hlt2 : (i : Int) < (ls2.length : Int) := by have := HL4.out; omega
        have hwi : IntKind.i64.wrap ((i : Int) + 1) = ((i + 1 : Nat) : Int) := by rw [IntWalk.i64_in _ (by omega)]; omega
        obtain ⟨g1, o1, rfl, hx1⟩ := HD.out.cellAt (by omega)
        obtain ⟨g2, o2, rfl, hx2⟩ := HF.out.cellAt (by have := HL4.out; omega)
        have hu1 := List.getElem?_eq_getElem hlt
        have hu2 := List.getElem?_eq_getElem (l := ls2) (i := i) (by have := HL4.out; omega)
        obtain ⟨xa, xb, xc, xd, hjx, m1, m2, m3, m4⟩ := HJ.out.nth ls vs i _ hu1
        obtain ⟨ya, yb, yc, yd, hjy, m5, m6, m7, m8⟩ := HU.out.nth ls2 us i _ hu2
        obtain ⟨kx, tx, px, nx, cx, qx, mx, dx, rfl, rfl, rfl, rfl⟩ := jat_four hjx
        obtain ⟨ky, ty, py, ny, cy, qy, my, dy, rfl, rfl, rfl, rfl⟩ := jat_four hjy
        have k1 : wr.cell? ⟨g1, o1 + i * 4, none⟩ = some (.int .u8 (kx : Nat)) := cell_in HB.out (hx1 _ _ m1)
        have k2' : wr.cell? ⟨g1, o1 + i * 4 + 1, none⟩ = some (.string tx) := cell_in HB.out (hx1 _ _ m2)
        have k3 : wr.cell? ⟨g1, o1 + i * 4 + 2, none⟩ = some (.slice px nx cx) := cell_in HB.out (hx1 _ _ m3)
        have k4 : wr.cell? ⟨g1, o1 + i * 4 + 3, none⟩ = some (.slice qx mx dx) := cell_in HB.out (hx1 _ _ m4)
        obtain ⟨w3, hw3⟩ : ∃ w3, wr.alloc (.cells #[.int .u8 (kx : Nat), .string tx, .slice px nx cx, .slice qx mx dx] 47) = w3 := ⟨_, rfl⟩
        have hb3 : Below wr.heap.size wr w3 := by rw [← hw3]; exact galloc (Below.refl _ _) _
        have hX3 : w3.heap[wr.heap.size]? = some (.cells #[.int .u8 (kx : Nat), .string tx, .slice px nx cx, .slice qx mx dx] 47 (0, 0)) := by rw [← hw3]; exact World.alloc_heap_new wr _
        have HB3 := gcall HB.out hb3
        have l1 : w3.cell? ⟨g2, o2 + i * 4, none⟩ = some (.int .u8 (ky : Nat)) := cell_in HB3 (hx2 _ _ m5)
        have l2 : w3.cell? ⟨g2, o2 + i * 4 + 1, none⟩ = some (.string ty) := cell_in HB3 (hx2 _ _ m6)
        have l3 : w3.cell? ⟨g2, o2 + i * 4 + 2, none⟩ = some (.slice py ny cy) := cell_in HB3 (hx2 _ _ m7)
        have l4 : w3.cell? ⟨g2, o2 + i * 4 + 3, none⟩ = some (.slice qy my dy) := cell_in HB3 (hx2 _ _ m8)
        obtain ⟨w4, hw4⟩ : ∃ w4, w3.alloc (.cells #[.int .u8 (ky : Nat), .string ty, .slice py ny cy, .slice qy my dy] 47) = w4 := ⟨_, rfl⟩
        have hb4 : Below w3.heap.size w3 w4 := by rw [← hw4]; exact galloc (Below.refl _ _) _
        have hY4 : w4.heap[w3.heap.size]? = some (.cells #[.int .u8 (ky : Nat), .string ty, .slice py ny cy, .slice qy my dy] 47 (0, 0)) := by rw [← hw4]; exact World.alloc_heap_new w3 _
        have hX4 := (hb4.block wr.heap.size (Array.getElem?_eq_some_iff.1 hX3).1).trans hX3
        obtain ⟨X, hXe⟩ : ∃ X, wr.heap.size = X := ⟨_, rfl⟩
        obtain ⟨Y, hYe⟩ : ∃ Y, w3.heap.size = Y := ⟨_, rfl⟩
        rw [hXe] at hX4
        rw [hYe] at hY4
        obtain ⟨x0, x1, x2, x3⟩ : w4.cell? ⟨X, 0, none⟩ = some (.int .u8 (kx : Nat)) ∧ w4.cell? ⟨X, 1, none⟩ = some (.string tx) ∧ w4.cell? ⟨X, 2, none⟩ = some (.slice px nx cx) ∧ w4.cell? ⟨X, 3, none⟩ = some (.slice qx mx dx) := box_cells hX4
        obtain ⟨y0, y1, y2, y3⟩ : w4.cell? ⟨Y, 0, none⟩ = some (.int .u8 (ky : Nat)) ∧ w4.cell? ⟨Y, 1, none⟩ = some (.string ty) ∧ w4.cell? ⟨Y, 2, none⟩ = some (.slice py ny cy) ∧ w4.cell? ⟨Y, 3, none⟩ = some (.slice qy my dy) := box_cells hY4
        have HB4 := Lib.hid (gcall HB3 hb4)
        have hcall := HREC.out i _ hu1 (ls2[i]'(by have := HL4.out; omega)) w4 [.int .u8 (kx : Nat), .string tx, .slice px nx cx, .slice qx mx dx] [.int .u8 (ky : Nat), .string ty, .slice py ny cy, .slice qy my dy] (hjx.below HB4.out) (hjy.below HB4.out)
        rw [show ([.int .u8 (kx : Nat), .string tx, .slice px nx cx, .slice qx mx dx] : List Value).toArray = #[.int .u8 (kx : Nat), .string tx, .slice px nx cx, .slice qx mx dx] from rfl, show ([.int .u8 (ky : Nat), .string ty, .slice py ny cy, .slice qy my dy] : List Value).toArray = #[.int .u8 (ky : Nat), .string ty, .slice py ny cy, .slice qy my dy] from rfl] at hcall
        cases hs : sameJ (ls[i]'hlt) (ls2[i]'(by have := HL4.out; omega)) with
        | true =>
          rw [hs] at hcall
          have HN2 : Hid (∀ j, j < i + 1 → ∀ x y, ls[j]? = some x → ls2[j]? = some y → sameJ x y = true) := Lib.hid (fun j hj x y h1 h2 => by
            rcases Nat.lt_or_ge j i with g | g
            · exact HN.out j g x y h1 h2
            · obtain rfl : j = i := by omega
              rw [hu1] at h1; rw [hu2] at h2
              rw [← Option.some.inj h1, ← Option.some.inj h2]; exact hs)
          clear hx1 hx2 hu1 hu2 hjx hjy m1 m2 m3 m4 m5 m6 m7 m8 hs hb3 hX3 HB3 hb4 hY4 hX4
          go_wp2_with fail
          refine hcall.mono ?_
          rintro e w5 ⟨rfl, hb5⟩
          have HB5 := Lib.hid (gcall HB4.out hb5)
          clear hb5 hcall
          go_wp2
          exact ⟨⟨i + 1, by omega, rfl, HB5, HN2⟩, by simp [intOf]; omega⟩
        | false =>
          rw [hs] at hcall
          have HGF : Hid (G = false) := Lib.hid (by rw [← HG.out]; exact samesJ_at ls ls2 i _ _ hu1 hu2 hs)
          clear hx1 hx2 hu1 hu2 hjx hjy m1 m2 m3 m4 m5 m6 m7 m8 hs hb3 hX3 HB3 hb4 hY4 hX4
          go_wp2_with fail
          refine hcall.mono ?_
          rintro e w5 ⟨rfl, hb5⟩
          have HB5 := Lib.hid (gcall HB4.out hb5)
          clear hb5 hcall
          go_wp2
          go_ret
          exact ⟨by rw [HGF.out]; rfl, HB5.out⟩
      · obtain rfl : i = ls.length := by omega
        have hlt' : ¬ (ls.length : Int) < (ls.length : Int) := by omega
        have HGT : Hid (G = true) := Lib.hid (by
          rw [← HG.out]; exact samesJ_all ls ls2 HL4.out (fun i x y h1 h2 => HN.out i (by have := (List.getElem?_eq_some_iff.1 h1).1; exact this) x y h1 h2))
        go_wp2
        go_ret
        exact ⟨by rw [HGT.out]; rfl, HB.out⟩
  · have e4' : ((ls.length : Int) != (ls2.length : Int)) = true := by simp; omega
    have HGF : Hid (G = false) := Lib.hid (by rw [← HG.out, samesJ_len _ _ e4])
    clear e4 HG
    go_enter Tryz.func113, Tryz.ntmps113
    go_wp2
    go_ret
    exact ⟨by rw [HGF.out]; rfl, Below.refl _ _⟩
set_option maxRecDepth 100000 in
set_option maxHeartbeats 16000000 in
theorem jsame_one (k : Nat) (t : List UInt8) (ns : List (List UInt8)) (ls : List J) (k2 : Nat) (t2 : List UInt8) (ns2 : List (List UInt8)) (ls2 : List J) (W : World) (pc : Option Addr) (cc : Nat) (pd : Option Addr) (cd : Nat) (vs : List Value) (pe : Option Addr) (ce : Nat) (pf : Option Addr) (cf : Nat) (us : List Value)
    (hn : ns.length ≤ 1000000000) (hn2 : ls.length ≤ 1000000000) (hc : SlIn AnyB W (.slice pc ns.length cc) 1 ns.length (ns.map bl)) (hd : SlIn AnyB W (.slice pd ls.length cd) 4 ls.length vs) (hj : JsAt AnyB W ls vs)
    (he : SlIn AnyB W (.slice pe ns2.length ce) 1 ns2.length (ns2.map bl)) (hf : SlIn AnyB W (.slice pf ls2.length cf) 4 ls2.length us) (hg : JsAt AnyB W ls2 us)
    (HREC : Hid (∀ (i : Nat) x, ls[i]? = some x → ∀ (y : J) (w : World) (xs ys : List Value), JAt AnyB w x xs → JAt AnyB w y ys → Calls Tryz.prog 76 #[.agg xs.toArray, .agg ys.toArray] w fun e w' => e = .returned (.bool (sameJ x y)) ∧ Below w.heap.size w w')) :
    Calls Tryz.prog 76 #[.agg #[.int .u8 k, bl t, .slice pc ns.length cc, .slice pd ls.length cd], .agg #[.int .u8 k2, bl t2, .slice pe ns2.length ce, .slice pf ls2.length cf]] W fun e w' => e = .returned (.bool (sameJ (.mk k t ns ls) (.mk k2 t2 ns2 ls2))) ∧ Below W.heap.size W w' := by
  obtain ⟨G, hG⟩ : ∃ G, sameJ (.mk k t ns ls) (.mk k2 t2 ns2 ls2) = G := ⟨_, rfl⟩
  rw [hG]
  have hG2 : (k == k2 && (t == t2 && (ns == ns2 && samesJ ls ls2))) = G := by rw [← hG, sameJ]
  obtain ⟨T, hT⟩ : ∃ T : ByteArray, (⟨t.toArray⟩ : ByteArray) = T := ⟨_, rfl⟩
  obtain ⟨T2, hT2⟩ : ∃ T2 : ByteArray, (⟨t2.toArray⟩ : ByteArray) = T2 := ⟨_, rfl⟩
  have hTT : (T.toList == T2.toList) = (t == t2) := by rw [← hT, ← hT2, Lib.toList_data, Lib.toList_data]
  have hb1 : bl t = .string T := by unfold bl; rw [hT]
  have hb2 : bl t2 = .string T2 := by unfold bl; rw [hT2]
  rw [hb1, hb2]
  have hkk : ((k : Int) == (k2 : Int)) = (k == k2) := by rw [Bool.eq_iff_iff, beq_iff_eq, beq_iff_eq]; omega
  obtain ⟨K, hK⟩ : ∃ K : Int, (k : Int) = K := ⟨_, rfl⟩
  obtain ⟨K2, hK2⟩ : ∃ K2 : Int, (k2 : Int) = K2 := ⟨_, rfl⟩
  rw [hK, hK2] at hkk ⊢
  clear hG hT hT2 hb1 hb2 hK hK2
  obtain ⟨w1, hw1⟩ : ∃ w1, W.alloc (Obj.cells #[.int .u8 K, .string T, .slice pc ns.length cc, .slice pd ls.length cd] 47) = w1 := ⟨_, rfl⟩
  have hp1 : w1.heap[W.heap.size]? = some (.cells #[.int .u8 K, .string T, .slice pc ns.length cc, .slice pd ls.length cd] 47 (0, 0)) := by rw [← hw1]; exact World.alloc_heap_new W _
  have hb1 : Below W.heap.size W w1 := by rw [← hw1]; exact galloc (Below.refl _ _) _
  obtain ⟨w2, hw2⟩ : ∃ w2, w1.alloc (Obj.cells #[.int .u8 K2, .string T2, .slice pe ns2.length ce, .slice pf ls2.length cf] 47) = w2 := ⟨_, rfl⟩
  have hp2 : w2.heap[w1.heap.size]? = some (.cells #[.int .u8 K2, .string T2, .slice pe ns2.length ce, .slice pf ls2.length cf] 47 (0, 0)) := by rw [← hw2]; exact World.alloc_heap_new w1 _
  have hb2 : Below w1.heap.size w1 w2 := by rw [← hw2]; exact galloc (Below.refl _ _) _
  have hA2 := (hb2.block W.heap.size (Array.getElem?_eq_some_iff.1 hp1).1).trans hp1
  obtain ⟨A, hA⟩ : ∃ A, W.heap.size = A := ⟨_, rfl⟩
  obtain ⟨B, hB⟩ : ∃ B, w1.heap.size = B := ⟨_, rfl⟩
  rw [hA] at hA2
  rw [hB] at hp2
  have HBW := Lib.hid (gcall hb1 hb2)
  have hst : Stays AnyB W w2 := ⟨HBW.out.size, fun i hi _ => HBW.out.block i hi⟩
  have heq := equal_any ns ns2 pc cc pe ce w2 hn (hc.world hst) (he.world hst)
  have HQ := Lib.hid (fun (w : World) (hb : Below w2.heap.size w2 w) => equalf_any ls ls2 pd cd pf cf vs us w hn2 ((hd.world hst).world ⟨hb.size, fun i hi _ => hb.block i hi⟩) ((hf.world hst).world ⟨hb.size, fun i hi _ => hb.block i hi⟩) (JsAt.world ⟨hb.size, fun i hi _ => hb.block i hi⟩ ls vs (JsAt.world hst ls vs hj)) (JsAt.world ⟨hb.size, fun i hi _ => hb.block i hi⟩ ls2 us (JsAt.world hst ls2 us hg)) HREC)
  obtain ⟨a0, a1, a2, a3⟩ := box_cells hA2
  obtain ⟨b0, b1, b2, b3⟩ := box_cells hp2
  have HA2 := Lib.hid hA2
  have HP2 := Lib.hid hp2
  have HN := Lib.hid hA
  generalize samesJ ls ls2 = S at *
  generalize (ns == ns2) = E at *
  generalize (t == t2) = F at *
  generalize (k == k2) = C at *
  have HG := Lib.hid hG2
  clear hG2 hc hd hj he hf hg HREC hp1 hb1 hb2 hA2 hp2 hst hn hn2
  cases C with
  | false =>
    go_enter Tryz.func76, Tryz.ntmps76
    go_wp2
    go_ret
    rw [← HG.out]
    exact ⟨rfl, by first | exact HBW.out | (rw [← HN.out]; exact HBW.out)⟩
  | true =>
    cases F with
    | false =>
      go_enter Tryz.func76, Tryz.ntmps76
      go_wp2
      go_ret
      rw [← HG.out]
      exact ⟨rfl, by first | exact HBW.out | (rw [← HN.out]; exact HBW.out)⟩
    | true =>
      cases E with
      | false =>
        go_enter Tryz.func76, Tryz.ntmps76
        go_wp2_with fail
        refine heq.mono ?_
        rintro e w3 ⟨rfl, hb3⟩
        have HB3 := Lib.hid (gcall HBW.out hb3)
        clear hb3 heq
        go_wp2
        go_ret
        rw [← HG.out]
        exact ⟨rfl, by first | exact HB3.out | (rw [← HN.out]; exact HB3.out)⟩
      | true =>
        go_enter Tryz.func76, Tryz.ntmps76
        go_wp2_with fail
        refine heq.mono ?_
        rintro e w3 ⟨rfl, hb3⟩
        have HB3 := Lib.hid (gcall HBW.out hb3)
        have hq := HQ.out w3 hb3
        have hA3 := (hb3.block A (Array.getElem?_eq_some_iff.1 HA2.out).1).trans HA2.out
        have hB3 := (hb3.block B (Array.getElem?_eq_some_iff.1 HP2.out).1).trans HP2.out
        obtain ⟨c0, c1, c2, c3⟩ := box_cells hA3
        obtain ⟨d0, d1, d2, d3⟩ := box_cells hB3
        clear hb3 heq hA3 hB3
        go_wp2_with fail
        refine hq.mono ?_
        rintro e w4 ⟨rfl, hb4⟩
        have HB4 := Lib.hid (gcall HB3.out hb4)
        clear hb4 hq
        go_wp2
        go_ret
        rw [← HG.out]
        exact ⟨rfl, by first | exact HB4.out | (rw [← HN.out]; exact HB4.out)⟩
theorem jsame_deep : ∀ (n : Nat) (a : J), deepJ a ≤ n → bigJ a → ∀ (b : J) (W : World) (ca cb : List Value), JAt AnyB W a ca → JAt AnyB W b cb → Calls Tryz.prog 76 #[.agg ca.toArray, .agg cb.toArray] W fun e w' => e = .returned (.bool (sameJ a b)) ∧ Below W.heap.size W w'
  | 0, .mk k t ns ls, hd, _, _, _, _, _, _, _ => by unfold deepJ at hd; omega
  | n + 1, .mk k t ns ls, hd, hbig, .mk k2 t2 ns2 ls2, W, ca, cb, ha, hb => by
    obtain ⟨pc, cc, pd, cd, vs, rfl, h1, h2, h3⟩ := ha.form
    obtain ⟨pe, ce, pf, cf, us, rfl, h4, h5, h6⟩ := hb.form
    unfold bigJ at hbig
    refine jsame_one k t ns ls k2 t2 ns2 ls2 W pc cc pd cd vs pe ce pf cf us (by omega) (by omega) h1 h2 h3 h4 h5 h6 (Lib.hid fun i x hi y w xs ys hx hy => jsame_deep n x ?_ (bigsJ_at ls i x hbig.2.2 hi) y w xs ys hx hy)
    have := deepJ_at ls i x hi
    unfold deepJ at hd; omega
set_option maxRecDepth 100000 in
set_option maxHeartbeats 4000000 in
/-- json's Same, of any two values of which the first one is small. -/
theorem jsame_j (a b : J) (hbig : bigJ a) (hbd : boundG a = true) (W : World) (p q u v p2 q2 u2 v2 : Value) (ha : JAt AnyB W a [p, q, u, v]) (hb : JAt AnyB W b [p2, q2, u2, v2]) :
    Calls Tryz.prog 43 #[.agg #[p, q, u, v], .agg #[p2, q2, u2, v2]] W fun e w' => e = .returned (.bool (sameJ a b)) ∧ Below W.heap.size W w' := by
  obtain ⟨kd, tx, pc, nc, cc, pe, ne, ce, rfl, rfl, rfl, rfl⟩ := jat_four ha
  obtain ⟨kd2, tx2, pc2, nc2, cc2, pe2, ne2, ce2, rfl, rfl, rfl, rfl⟩ := jat_four hb
  obtain ⟨K, hK⟩ : ∃ K : Int, (kd : Int) = K := ⟨_, rfl⟩
  obtain ⟨K2, hK2⟩ : ∃ K2 : Int, (kd2 : Int) = K2 := ⟨_, rfl⟩
  rw [hK] at ha ⊢
  rw [hK2] at hb ⊢
  have hX := BoxJ.new ha
  obtain ⟨w1, hw1⟩ : ∃ w1, W.alloc (Obj.cells #[.int .u8 K, .string tx, .slice pc nc cc, .slice pe ne ce] 47) = w1 := ⟨_, rfl⟩
  have hb1 : Below W.heap.size W w1 := by rw [← hw1]; exact galloc (Below.refl _ _) _
  rw [hw1] at hX
  have hY := BoxJ.new (hb.below hb1)
  obtain ⟨w2, hw2⟩ : ∃ w2, w1.alloc (Obj.cells #[.int .u8 K2, .string tx2, .slice pc2 nc2 cc2, .slice pe2 ne2 ce2] 47) = w2 := ⟨_, rfl⟩
  have hb2 : Below w1.heap.size w1 w2 := by rw [← hw2]; exact galloc (Below.refl _ _) _
  rw [hw2] at hY
  obtain ⟨A, hA⟩ : ∃ A, W.heap.size = A := ⟨_, rfl⟩
  obtain ⟨B, hB⟩ : ∃ B, w1.heap.size = B := ⟨_, rfl⟩
  have hX2 := hX.below hb2
  rw [hA] at hX2
  rw [hB] at hY
  have HX := Lib.hid hX2
  have HY := Lib.hid hY
  have HB2 := Lib.hid (gcall hb1 hb2)
  have HN := Lib.hid hA
  obtain ⟨c0, c1, c2, c3⟩ := hX2.cells
  have hbound := bounded_any a hbig w2 _ hX2.2
  rw [hbd] at hbound
  rw [show ([.int .u8 K, .string tx, .slice pc nc cc, .slice pe ne ce] : List Value).toArray = #[.int .u8 K, .string tx, .slice pc nc cc, .slice pe ne ce] from rfl] at hbound
  have HS := Lib.hid (fun (w : World) (ha : JAt AnyB w a [.int .u8 K, .string tx, .slice pc nc cc, .slice pe ne ce]) (hb : JAt AnyB w b [.int .u8 K2, .string tx2, .slice pc2 nc2 cc2, .slice pe2 ne2 ce2]) => jsame_deep (deepJ a) a (Nat.le_refl _) hbig b w _ _ ha hb)
  clear ha hb hX hY hX2 hb1 hb2 hbig hbd hK hK2
  go_enter Tryz.func43, Tryz.ntmps43
  go_wp2_with fail
  refine hbound.mono ?_
  rintro e w3 ⟨rfl, hb3⟩
  have HB3 := Lib.hid (gcall HB2.out hb3)
  have hX3 := HX.out.below hb3
  have hY3 := HY.out.below hb3
  obtain ⟨c0, c1, c2, c3⟩ := hX3.cells
  obtain ⟨d0, d1, d2, d3⟩ := hY3.cells
  have hs := HS.out w3 hX3.2 hY3.2
  rw [show ([.int .u8 K, .string tx, .slice pc nc cc, .slice pe ne ce] : List Value).toArray = #[.int .u8 K, .string tx, .slice pc nc cc, .slice pe ne ce] from rfl, show ([.int .u8 K2, .string tx2, .slice pc2 nc2 cc2, .slice pe2 ne2 ce2] : List Value).toArray = #[.int .u8 K2, .string tx2, .slice pc2 nc2 cc2, .slice pe2 ne2 ce2] from rfl] at hs
  clear hb3 hbound hX3 hY3
  go_wp2_with fail
  refine hs.mono ?_
  rintro e w4 ⟨rfl, hb4⟩
  have HB4 := Lib.hid (gcall HB3.out hb4)
  clear hb4 hs
  go_wp2
  go_ret
  exact ⟨rfl, by first | exact HB4.out | (rw [← HN.out]; exact HB4.out)⟩
end Go.Proofs.YtgcpgieojckheaaGreatDoor.Json
namespace Go.Proofs.YtgcpgieojckheaaGreatDoor.Json
open Go.RowKit Go.Shelf

theorem BoxJ.jat {N : Nat} {j : J} {a b c d : Value} {w : World} (h : BoxJ N j a b c d w) : JAt AnyB w j [a, b, c, d] := h.2
mutual
theorem deep_count : ∀ j : J, deepJ j ≤ countJ j
  | .mk k t ns ls => by
    unfold deepJ countJ
    have := deeps_count ls
    omega
theorem deeps_count : ∀ l : List J, deepsJ l ≤ countsJ l
  | [] => by unfold deepsJ countsJ; omega
  | j :: js => by
    unfold deepsJ countsJ
    have := deep_count j
    have := deeps_count js
    omega
end
set_option maxHeartbeats 16000000 in
set_option maxRecDepth 100000 in
theorem texts_walk (j j2 : J) (W : World) (va vb vc vd va2 vb2 vc2 vd2 : Value) (hT : TabsJ W) (h8 : 8 ≤ W.heap.size) (hj : JAt AnyB W j [va, vb, vc, vd]) (hj2 : JAt AnyB W j2 [va2, vb2, vc2, vd2]) (hm : massJ j ≤ 1048576) (hm2 : massJ j2 ≤ 1048576) :
    Calls Tryz.prog 14 #[.agg #[va, vb, vc, vd], .agg #[va2, vb2, vc2, vd2]] W fun e w' => e = .returned (.bool true) ∧ Below W.heap.size W w' := by
  obtain ⟨kd, tx, pc, nc, cc, pe, ne, ce, rfl, rfl, rfl, rfl⟩ := jat_four hj
  obtain ⟨kd2, tx2, pc2, nc2, cc2, pe2, ne2, ce2, rfl, rfl, rfl, rfl⟩ := jat_four hj2
  obtain ⟨K, hK⟩ : ∃ K : Int, (kd : Int) = K := ⟨_, rfl⟩
  obtain ⟨K2, hK2⟩ : ∃ K2 : Int, (kd2 : Int) = K2 := ⟨_, rfl⟩
  rw [hK] at hj ⊢
  rw [hK2] at hj2 ⊢
  have hX := BoxJ.new hj
  obtain ⟨w1, hw1⟩ : ∃ w1, W.alloc (Obj.cells #[.int .u8 K, .string tx, .slice pc nc cc, .slice pe ne ce] 47) = w1 := ⟨_, rfl⟩
  have hb1 : Below W.heap.size W w1 := by rw [← hw1]; exact galloc (Below.refl _ _) _
  rw [hw1] at hX
  have hY := BoxJ.new (hj2.below hb1)
  obtain ⟨w2, hw2⟩ : ∃ w2, w1.alloc (Obj.cells #[.int .u8 K2, .string tx2, .slice pc2 nc2 cc2, .slice pe2 ne2 ce2] 47) = w2 := ⟨_, rfl⟩
  have hb2 : Below w1.heap.size w1 w2 := by rw [← hw2]; exact galloc (Below.refl _ _) _
  rw [hw2] at hY
  obtain ⟨A, hA⟩ : ∃ A, W.heap.size = A := ⟨_, rfl⟩
  obtain ⟨B, hB⟩ : ∃ B, w1.heap.size = B := ⟨_, rfl⟩
  have hX2 := hX.below hb2
  rw [hA] at hX2
  rw [hB] at hY
  have HX2 := Lib.hid hX2
  have HY2 := Lib.hid hY
  have HB2 := Lib.hid (gcall hb1 hb2)
  have HN := Lib.hid hA
  have HT : Hid (∀ w, Below W.heap.size W w → TabsJ w ∧ 8 ≤ w.heap.size) := Lib.hid fun w hb => ⟨hT.below hb h8, Nat.le_trans h8 hb.size⟩
  have HM := Lib.hid hm
  have HM2 := Lib.hid hm2
  have hworks := works_any w2 (HT.out w2 HB2.out).1 (HT.out w2 HB2.out).2
  clear hT h8 hj hj2 hm hm2 hX hY hX2 hb1 hb2 hK hK2
  go_enter Tryz.func14, Tryz.ntmps14
  go_wp2_with fail
  refine hworks.mono ?_
  rintro e w3 ⟨rfl, hb3⟩
  have HB3 := Lib.hid (gcall HB2.out hb3)
  have HX3 := Lib.hid (HX2.out.below hb3)
  have HY3 := Lib.hid (HY2.out.below hb3)
  obtain ⟨c0, c1, c2, c3⟩ := HX3.out.cells
  have hweight := weight_j j HM.out w3 _ _ _ _ HX3.out.2
  have HWF := Lib.hid (weight_fine j)
  have HWF2 := Lib.hid (weight_fine j2)
  clear hb3 hworks
  generalize hwt : weightJ j = wt at *
  clear hwt
  go_wp2_with fail
  refine hweight.mono ?_
  rintro e w4 ⟨rfl, hb4⟩
  have HB4 := Lib.hid (gcall HB3.out hb4)
  have HX4 := Lib.hid (HX3.out.below hb4)
  have HY4 := Lib.hid (HY3.out.below hb4)
  clear hb4 hweight c0 c1 c2 c3
  by_cases hwl : 1500 ≤ wt
  · have hwl1 : decide ((1500 : Int) ≤ (wt : Int)) = true := decide_eq_true (by omega)
    have hwl2 : decide (1500 ≤ wt) = true := decide_eq_true hwl
    have hworks4 := works_any w4 (HT.out w4 HB4.out).1 (HT.out w4 HB4.out).2
    have HBL := HB4
    go_wp2_with fail
    refine hworks4.mono ?_
    rintro e w9 ⟨rfl, hb9⟩
    have HB9 := Lib.hid (gcall HBL.out hb9)
    clear hb9 hworks4
    go_wp2
    go_ret
    exact ⟨rfl, by first | exact HB9.out | (rw [← HN.out]; exact HB9.out)⟩
  · have hwl1 : decide ((1500 : Int) ≤ (wt : Int)) = false := decide_eq_false (by omega)
    have hwl2 : decide (1500 ≤ wt) = false := decide_eq_false hwl
    obtain ⟨f1, f2, f3, f4⟩ := HWF.out (by omega)
    have HF1 : Hid (countJ j ≤ 2147483647) := Lib.hid (by omega)
    have HF2 := Lib.hid f2
    have HF3 := Lib.hid f3
    have HF4 := Lib.hid f4
    obtain ⟨d0, d1, d2, d3⟩ := HY4.out.cells
    have hweight2 := weight_j j2 HM2.out w4 _ _ _ _ HY4.out.2
    have HC1 : Hid (countJ j < 2000) := Lib.hid (by omega)
    clear f1 f2 f3 f4 HWF
    generalize hwt : weightJ j2 = wt2 at *
    clear hwt
    go_wp2_with fail
    refine hweight2.mono ?_
    rintro e w5 ⟨rfl, hb5⟩
    have HB5 := Lib.hid (gcall HB4.out hb5)
    have HX5 := Lib.hid (HX4.out.below hb5)
    have HY5 := Lib.hid (HY4.out.below hb5)
    clear hb5 hweight2 d0 d1 d2 d3
    by_cases hwm : 1500 ≤ wt2
    · have hwm1 : decide ((1500 : Int) ≤ (wt2 : Int)) = true := decide_eq_true (by omega)
      have hwm2 : decide (1500 ≤ wt2) = true := decide_eq_true hwm
      have hworks5 := works_any w5 (HT.out w5 HB5.out).1 (HT.out w5 HB5.out).2
      have HBL := HB5
      go_wp2_with fail
      refine hworks5.mono ?_
      rintro e w9 ⟨rfl, hb9⟩
      have HB9 := Lib.hid (gcall HBL.out hb9)
      clear hb9 hworks5
      go_wp2
      go_ret
      exact ⟨rfl, by first | exact HB9.out | (rw [← HN.out]; exact HB9.out)⟩
    · have hwm1 : decide ((1500 : Int) ≤ (wt2 : Int)) = false := decide_eq_false (by omega)
      have hwm2 : decide (1500 ≤ wt2) = false := decide_eq_false hwm
      obtain ⟨g1, g2, g3, g4⟩ := HWF2.out (by omega)
      have HG1 : Hid (countJ j2 ≤ 2147483647) := Lib.hid (by omega)
      have HC2 : Hid (countJ j2 < 2000) := Lib.hid (by omega)
      have HG2 := Lib.hid g2
      have HG3 := Lib.hid g3
      have HG4 := Lib.hid g4
      obtain ⟨c0, c1, c2, c3⟩ := HX5.out.cells
      have hgiven := given_j j HF4.out w5 _ _ _ _ HX5.out.2
      clear g1 g2 g3 g4 HWF2 HM HM2
      go_wp2_with fail
      refine hgiven.mono ?_
      rintro e w6 ⟨v, rfl, hv, hb6⟩
      obtain ⟨kd6, tx6, pc6, nc6, cc6, pe6, ne6, ce6, rfl, hj6⟩ := jval_four hv
      have HB6 := Lib.hid (gcall HB5.out hb6)
      have HX6 := Lib.hid (HX5.out.below hb6)
      have HY6 := Lib.hid (HY5.out.below hb6)
      have hprint := print_j j HF3.out HF2.out HF1.out w6 _ _ _ _ (HT.out w6 HB6.out).1 (HT.out w6 HB6.out).2 hj6.any
      clear hgiven hv hj6 hb6 c0 c1 c2 c3
      have HTS := Lib.hid (texts_same j j2 HF1.out HG1.out)
      go_wp2_with fail
      refine hprint.mono ?_
      rintro e w7 ⟨rfl, hb7⟩
      have HB7 := Lib.hid (gcall HB6.out hb7)
      have HX7 := Lib.hid (HX6.out.below hb7)
      have HY7 := Lib.hid (HY6.out.below hb7)
      obtain ⟨d0, d1, d2, d3⟩ := HY7.out.cells
      have hgiven := given_j j2 HG4.out w7 _ _ _ _ HY7.out.2
      clear hprint hb7
      go_wp2_with fail
      refine hgiven.mono ?_
      rintro e w8 ⟨v, rfl, hv, hb8⟩
      obtain ⟨kd8, tx8, pc8, nc8, cc8, pe8, ne8, ce8, rfl, hj8⟩ := jval_four hv
      have HB8 := Lib.hid (gcall HB7.out hb8)
      have HX8 := Lib.hid (HX7.out.below hb8)
      have HY8 := Lib.hid (HY7.out.below hb8)
      have hprint := print_j j2 HG3.out HG2.out HG1.out w8 _ _ _ _ (HT.out w8 HB8.out).1 (HT.out w8 HB8.out).2 hj8.any
      clear hgiven hv hj8 hb8 d0 d1 d2 d3
      go_wp2_with fail
      refine hprint.mono ?_
      rintro e w9 ⟨rfl, hb9⟩
      have HB9 : Hid (Below W.heap.size W w9.drew) := Lib.hid (gcall HB8.out hb9).drew
      have HX9 := Lib.hid (HX8.out.below hb9)
      have HY9 := Lib.hid (HY8.out.below hb9)
      have HSa := Lib.hid (fun (w : World) (h1 : JAt AnyB w j [.int .u8 K, .string tx, .slice pc nc cc, .slice pe ne ce]) (h2 : JAt AnyB w j2 [.int .u8 K2, .string tx2, .slice pc2 nc2 cc2, .slice pe2 ne2 ce2]) => jsame_j j j2 HF3.out (bound_plain j HF1.out (by have := deep_count j; have := HC1.out; omega)) w _ _ _ _ _ _ _ _ h1 h2)
      have HSb := Lib.hid (fun (w : World) (h1 : JAt AnyB w j [.int .u8 K, .string tx, .slice pc nc cc, .slice pe ne ce]) (h2 : JAt AnyB w j2 [.int .u8 K2, .string tx2, .slice pc2 nc2 cc2, .slice pe2 ne2 ce2]) => jsame_j j2 j HG3.out (bound_plain j2 HG1.out (by have := deep_count j2; have := HC2.out; omega)) w _ _ _ _ _ _ _ _ h2 h1)
      rw [sameJ_comm j2 j] at HSb
      generalize sameJ j j2 = Sm at *
      generalize printO j = O1 at *
      generalize printO j2 = O2 at *
      obtain ⟨o1, e1⟩ := O1
      obtain ⟨o2, e2⟩ := O2
      obtain ⟨X, hXe⟩ : ∃ X : ByteArray, (⟨o1.toArray⟩ : ByteArray) = X := ⟨_, rfl⟩
      obtain ⟨Y, hYe⟩ : ∃ Y : ByteArray, (⟨o2.toArray⟩ : ByteArray) = Y := ⟨_, rfl⟩
      have hXY : (X.toList == Y.toList) = (o1 == o2) := by rw [← hXe, ← hYe, Lib.toList_data, Lib.toList_data]
      have HBQ : Hid (∀ n, Below W.heap.size W (w9.drewN n)) := Lib.hid (fun n => gcall (gcall HB8.out hb9) (drewN_below w9 n))
      clear hprint hb9
      by_cases h1 : e1 = 0
      · have h11 : (e1 != 0) = false := by rw [h1]; rfl
        by_cases h2 : e2 = 0
        · have h21 : (e2 != 0) = false := by rw [h2]; rfl
          have hq : (X.toList == Y.toList) = Sm := hXY.trans (HTS.out h1 h2)
          obtain ⟨c0, c1, c2, c3⟩ := HX9.out.cells
          obtain ⟨d0, d1, d2, d3⟩ := HY9.out.cells
          have HXd : Hid (BoxJ A j (.int .u8 K) (.string tx) (.slice pc nc cc) (.slice pe ne ce) w9.drew) := Lib.hid (HX9.out.below (Below.refl w9.heap.size w9).drew)
          have HYd : Hid (BoxJ B j2 (.int .u8 K2) (.string tx2) (.slice pc2 nc2 cc2) (.slice pe2 ne2 ce2) w9.drew) := Lib.hid (HY9.out.below (Below.refl w9.heap.size w9).drew)
          clear h1 h2 hXY HTS
          rw [hXe, hYe]
          cases Sm with
          | true =>
            go_wp2_with fail
            go_region_held3 (fun u => (u.cell? ⟨A, 0, none⟩ = some (.int .u8 K) ∧ u.cell? ⟨A, 1, none⟩ = some (.string tx) ∧ u.cell? ⟨A, 2, none⟩ = some (.slice pc nc cc) ∧ u.cell? ⟨A, 3, none⟩ = some (.slice pe ne ce)) ∧ u.cell? ⟨B, 0, none⟩ = some (.int .u8 K2) ∧ u.cell? ⟨B, 1, none⟩ = some (.string tx2) ∧ u.cell? ⟨B, 2, none⟩ = some (.slice pc2 nc2 cc2) ∧ u.cell? ⟨B, 3, none⟩ = some (.slice pe2 ne2 ce2)) (first | exact ⟨⟨c0, c1, c2, c3⟩, d0, d1, d2, d3⟩ | (with_reducible exact ⟨HC10.out, HD10.out⟩) | (with_reducible exact ⟨HC11.out, HD11.out⟩) | (with_reducible exact ⟨HC12.out, HD12.out⟩) | go_keep) (first
              | (go_at_call 43; (with_reducible refine Calls.mono (HSb.out w11 HX11.out.jat HY11.out.jat) ?_); rintro e w12 ⟨rfl, hb12⟩; have HX12 := Lib.hid (HX11.out.below hb12); have HY12 := Lib.hid (HY11.out.below hb12); have HC12 := Lib.hid HX12.out.cells; have HD12 := Lib.hid HY12.out.cells; have HB12 := Lib.hid (gcall HB11.out hb12); clear hb12)
              | (go_at_call 43; (with_reducible refine Calls.mono (HSa.out w10 HX10.out.jat HY10.out.jat) ?_); rintro e w11 ⟨rfl, hb11⟩; have HX11 := Lib.hid (HX10.out.below hb11); have HY11 := Lib.hid (HY10.out.below hb11); have HC11 := Lib.hid HX11.out.cells; have HD11 := Lib.hid HY11.out.cells; have HB11 := Lib.hid (gcall HB10.out hb11); clear hb11)
              | (go_at_call 43; (with_reducible refine Calls.mono (HSa.out w9.drew HXd.out.jat HYd.out.jat) ?_); rintro e w10 ⟨rfl, hb10⟩; have HX10 := Lib.hid (HXd.out.below hb10); have HY10 := Lib.hid (HYd.out.below hb10); have HC10 := Lib.hid HX10.out.cells; have HD10 := Lib.hid HY10.out.cells; have HB10 := Lib.hid (gcall HB9.out hb10); clear hb10))
            all_goals go_wp2
            all_goals go_ret
            all_goals exact ⟨rfl, by first | exact HB12.out | (rw [← HN.out]; exact HB12.out)⟩
          | false =>
            go_wp2_with fail
            go_region_held3 (fun u => (u.cell? ⟨A, 0, none⟩ = some (.int .u8 K) ∧ u.cell? ⟨A, 1, none⟩ = some (.string tx) ∧ u.cell? ⟨A, 2, none⟩ = some (.slice pc nc cc) ∧ u.cell? ⟨A, 3, none⟩ = some (.slice pe ne ce)) ∧ u.cell? ⟨B, 0, none⟩ = some (.int .u8 K2) ∧ u.cell? ⟨B, 1, none⟩ = some (.string tx2) ∧ u.cell? ⟨B, 2, none⟩ = some (.slice pc2 nc2 cc2) ∧ u.cell? ⟨B, 3, none⟩ = some (.slice pe2 ne2 ce2)) (first | exact ⟨⟨c0, c1, c2, c3⟩, d0, d1, d2, d3⟩ | (with_reducible exact ⟨HC10.out, HD10.out⟩) | (with_reducible exact ⟨HC11.out, HD11.out⟩) | (with_reducible exact ⟨HC12.out, HD12.out⟩) | go_keep) (first
              | (go_at_call 43; (with_reducible refine Calls.mono (HSb.out w11 HX11.out.jat HY11.out.jat) ?_); rintro e w12 ⟨rfl, hb12⟩; have HX12 := Lib.hid (HX11.out.below hb12); have HY12 := Lib.hid (HY11.out.below hb12); have HC12 := Lib.hid HX12.out.cells; have HD12 := Lib.hid HY12.out.cells; have HB12 := Lib.hid (gcall HB11.out hb12); clear hb12)
              | (go_at_call 43; (with_reducible refine Calls.mono (HSa.out w10 HX10.out.jat HY10.out.jat) ?_); rintro e w11 ⟨rfl, hb11⟩; have HX11 := Lib.hid (HX10.out.below hb11); have HY11 := Lib.hid (HY10.out.below hb11); have HC11 := Lib.hid HX11.out.cells; have HD11 := Lib.hid HY11.out.cells; have HB11 := Lib.hid (gcall HB10.out hb11); clear hb11)
              | (go_at_call 43; (with_reducible refine Calls.mono (HSa.out w9.drew HXd.out.jat HYd.out.jat) ?_); rintro e w10 ⟨rfl, hb10⟩; have HX10 := Lib.hid (HXd.out.below hb10); have HY10 := Lib.hid (HYd.out.below hb10); have HC10 := Lib.hid HX10.out.cells; have HD10 := Lib.hid HY10.out.cells; have HB10 := Lib.hid (gcall HB9.out hb10); clear hb10))
            all_goals go_wp2
            all_goals go_ret
            all_goals exact ⟨rfl, by first | exact HB12.out | (rw [← HN.out]; exact HB12.out)⟩
        · have h21 : (e2 != 0) = true := by simpa using h2
          clear h1 h2 hXY HTS
          go_wp2_with fail
          go_quiet (fail)
          go_wp2
          go_ret
          exact ⟨rfl, by first | exact HBQ.out _ | (rw [← HN.out]; exact HBQ.out _)⟩
      · have h11 : (e1 != 0) = true := by simpa using h1
        clear h1 hXY HTS
        go_wp2_with fail
        go_quiet (fail)
        go_wp2
        go_ret
        exact ⟨rfl, by first | exact HBQ.out _ | (rw [← HN.out]; exact HBQ.out _)⟩
end Go.Proofs.YtgcpgieojckheaaGreatDoor.Json
namespace Go.Proofs.YtgcpgieojckheaaGreatDoor.Json
open Go.RowKit Go.Shelf

def blankT (m : Nat) : List UInt8 := if m = 0 then [] else if m = 1 then [32] else if m = 2 then [10] else if m = 3 then [9, 13] else [32, 32]
def gap (ps : List UInt8) (n : Nat) : List UInt8 := if ps.length = 0 then [] else blankT ((ps.getD (n % ps.length) 0).toNat % 5)
theorem blankT_blank (m : Nat) : (blankT m).all isBlank = true := by
  unfold blankT
  repeat' split
  all_goals decide
theorem blankT_len (m : Nat) : (blankT m).length ≤ 2 := by
  unfold blankT
  repeat' split
  all_goals decide
theorem gap_blank (ps : List UInt8) (n : Nat) : (gap ps n).all isBlank = true := by
  unfold gap
  split
  · rfl
  · exact blankT_blank _
theorem gap_len (ps : List UInt8) (n : Nat) : (gap ps n).length ≤ 2 := by
  unfold gap
  split
  · simp
  · exact blankT_len _
/-- What the scan has so far. -/
def BlkI (ps S X : List UInt8) (b : Bool) (n n0 i : Nat) (out : ByteArray) : Prop := out.data.toList ++ blk (gap ps) b n (S.drop i) = X ∧ out.size ≤ 5 * i ∧ (0 < ps.length → n0 = n)
theorem blkI_mark {ps S X : List UInt8} {n n0 i : Nat} {out a b d : ByteArray} {c : UInt8} (h : BlkI ps S X false n n0 i out) (hc : S[i]? = some c) (hm : isMark c = true) (hp : 0 < ps.length) (ha : a.data.toList = gap ps n0) (hd : d.data.toList = gap ps (n0 + 1)) (hb : b.data.toList = [c]) :
    BlkI ps S X false (n + 2) (n0 + 2) (i + 1) (out ++ a ++ b ++ d) := by
  obtain ⟨h1, h2, h3⟩ := h
  have e := h3 hp
  subst e
  have hl := List.getElem?_eq_some_iff.1 hc
  rw [List.drop_eq_getElem_cons hl.1, hl.2, blk, if_pos hm] at h1
  have s1 : a.size ≤ 2 := by rw [Lib.size_eq, ha]; exact gap_len _ _
  have s2 : d.size ≤ 2 := by rw [Lib.size_eq, hd]; exact gap_len _ _
  have s3 : b.size = 1 := by rw [Lib.size_eq, hb]; rfl
  refine ⟨?_, by simp only [ByteArray.size_append]; omega, fun _ => rfl⟩
  rw [← h1, app_list, app_list, app_list, ha, hb, hd]
  simp
theorem blkI_mark0 {ps S X : List UInt8} {n n0 i : Nat} {out b : ByteArray} {c : UInt8} (h : BlkI ps S X false n n0 i out) (hc : S[i]? = some c) (hm : isMark c = true) (hp : ps.length = 0) (hb : b.data.toList = [c]) :
    BlkI ps S X false (n + 2) n0 (i + 1) (out ++ b) := by
  obtain ⟨h1, h2, h3⟩ := h
  have hl := List.getElem?_eq_some_iff.1 hc
  rw [List.drop_eq_getElem_cons hl.1, hl.2, blk, if_pos hm] at h1
  have s3 : b.size = 1 := by rw [Lib.size_eq, hb]; rfl
  refine ⟨?_, by simp only [ByteArray.size_append]; omega, fun h => by omega⟩
  rw [← h1, app_list, hb]
  simp [gap, hp]
theorem blkI_out {ps S X : List UInt8} {n n0 i : Nat} {out b : ByteArray} {c : UInt8} {q : Bool} (h : BlkI ps S X false n n0 i out) (hc : S[i]? = some c) (hm : isMark c = false) (hq : (c == 34) = q) (hb : b.data.toList = [c]) :
    BlkI ps S X q n n0 (i + 1) (out ++ b) := by
  obtain ⟨h1, h2, h3⟩ := h
  have hl := List.getElem?_eq_some_iff.1 hc
  rw [List.drop_eq_getElem_cons hl.1, hl.2, blk, if_neg (by rw [hm]; decide), hq] at h1
  have s3 : b.size = 1 := by rw [Lib.size_eq, hb]; rfl
  refine ⟨?_, by simp only [ByteArray.size_append]; omega, h3⟩
  rw [← h1, app_list, hb]
  simp
theorem blkI_in {ps S X : List UInt8} {n n0 i : Nat} {out b : ByteArray} {c : UInt8} {q : Bool} (h : BlkI ps S X true n n0 i out) (hc : S[i]? = some c) (hm : c = 92 → S.length = i + 1) (hq : (c != 34) = q) (hb : b.data.toList = [c]) :
    BlkI ps S X q n n0 (i + 1) (out ++ b) := by
  obtain ⟨h1, h2, h3⟩ := h
  have hl := List.getElem?_eq_some_iff.1 hc
  have s3 : b.size = 1 := by rw [Lib.size_eq, hb]; rfl
  refine ⟨?_, by simp only [ByteArray.size_append]; omega, h3⟩
  rw [List.drop_eq_getElem_cons hl.1, hl.2] at h1
  rw [app_list, hb, ← h1]
  cases hr : S.drop (i + 1) with
  | nil => cases q <;> simp [blk]
  | cons d r =>
    have hn : c ≠ 92 := fun e => by
      have := hm e
      have := congrArg List.length hr
      simp at this; omega
    rw [blk, if_neg hn, hq]
    simp
theorem blkI_esc {ps S X : List UInt8} {n n0 i : Nat} {out b d : ByteArray} {x : UInt8} (h : BlkI ps S X true n n0 i out) (hc : S[i]? = some 92) (hx : S[i + 1]? = some x) (hb : b.data.toList = [92]) (hd : d.data.toList = [x]) :
    BlkI ps S X true n n0 (i + 2) (out ++ b ++ d) := by
  obtain ⟨h1, h2, h3⟩ := h
  have hl := List.getElem?_eq_some_iff.1 hc
  have hl2 := List.getElem?_eq_some_iff.1 hx
  rw [List.drop_eq_getElem_cons hl.1, hl.2, List.drop_eq_getElem_cons hl2.1, hl2.2, blk, if_pos rfl] at h1
  have s1 : b.size = 1 := by rw [Lib.size_eq, hb]; rfl
  have s2 : d.size = 1 := by rw [Lib.size_eq, hd]; rfl
  refine ⟨?_, by simp only [ByteArray.size_append]; omega, h3⟩
  rw [← h1, app_list, app_list, hb, hd]
  simp
end Go.Proofs.YtgcpgieojckheaaGreatDoor.Json
namespace Go.Proofs.YtgcpgieojckheaaGreatDoor.Json
open Go.RowKit Go.Shelf

/-- The row of blanks. -/
def blankB (m : Nat) : ByteArray := ⟨(blankT m).toArray⟩
theorem blankB_cell {w : World} {G : Nat} (h : w.heap[G]? = some (.cells #[.string ⟨#[]⟩, .string ⟨#[32]⟩, .string ⟨#[10]⟩, .string ⟨#[9, 13]⟩, .string ⟨#[32, 32]⟩] 9 (0, 0))) (m : Nat) (hm : m < 5) : w.cell? ⟨G, m, none⟩ = some (.string (blankB m)) := by
  rw [cellH h]
  have : m = 0 ∨ m = 1 ∨ m = 2 ∨ m = 3 ∨ m = 4 := by omega
  rcases this with rfl | rfl | rfl | rfl | rfl <;> rfl
theorem blankB_list (m : Nat) : (blankB m).data.toList = blankT m := rfl
theorem gap_at {ps : List UInt8} {n r m : Nat} {x : UInt8} (hp : 0 < ps.length) (hr : n % ps.length = r) (hx : ps[r]? = some x) (hm : x.toNat % 5 = m) : (blankB m).data.toList = gap ps n := by
  unfold gap
  rw [if_neg (by omega), hr, List.getD_eq_getElem?_getD, hx, blankB_list]
  simp only [Option.getD_some, hm]
theorem one_list {s : ByteArray} {i : Nat} {c : UInt8} (hi : i < s.size) (hc : s[i]'hi = c) : (s.extract i (i + 1)).data.toList = [c] := by
  have hl : i < s.data.toList.length := by rw [← Lib.size_eq]; exact hi
  rw [ex_list, show i + 1 - i = 1 by omega, List.drop_eq_getElem_cons hl]
  have : s.data.toList[i]'hl = c := by rw [← hc]; have := getD_list hi; rw [List.getElem?_eq_getElem hl] at this; exact Option.some.inj this
  rw [this]; rfl
/-- What the walk asks of the picks. -/
def Picks (w : World) (pk : Option Addr) (np ck : Nat) (ps : List UInt8) : Prop := SlIn AnyB w (.slice pk np ck) 1 np (ps.map fun b => .int .u8 b.toNat) ∧ ps.length = np
theorem Picks.get {w : World} {pk : Option Addr} {np ck : Nat} {ps : List UInt8} (h : Picks w pk np ck ps) (hp : 0 < np) : ∃ g o, pk = some ⟨g, o, none⟩ ∧ ∀ r x, ps[r]? = some x → w.cell? ⟨g, o + r, none⟩ = some (.int .u8 (x.toNat : Nat)) := by
  obtain ⟨g, o, h1, h2⟩ := h.1.cellAt hp
  exact ⟨g, o, h1, fun r x hx => h2 r _ (by rw [List.getElem?_map, hx]; rfl)⟩
set_option maxHeartbeats 32000000 in
set_option maxRecDepth 100000 in
theorem blanks_walk (j : J) (ps : List UInt8) (pk : Option Addr) (np ck : Nat) (W : World) (va vb vc vd : Value) (hT : TabsJ W) (h8 : 8 ≤ W.heap.size) (hj : JAt AnyB W j [va, vb, vc, vd]) (hpk : Picks W pk np ck ps) (hm : massJ j ≤ 1048576) :
    Calls Tryz.prog 13 #[.agg #[va, vb, vc, vd], .slice pk np ck] W fun e w' => e = .returned (.bool true) ∧ Below W.heap.size W w' := by
  obtain ⟨kd, tx, pc, nc, cc, pe, ne, ce, rfl, rfl, rfl, rfl⟩ := jat_four hj
  obtain ⟨K, hK⟩ : ∃ K : Int, (kd : Int) = K := ⟨_, rfl⟩
  rw [hK] at hj ⊢
  have hB1 := BoxJ.new hj
  obtain ⟨w1, hw1⟩ : ∃ w1, W.alloc (.cells #[.int .u8 K, .string tx, .slice pc nc cc, .slice pe ne ce] 47) = w1 := ⟨_, rfl⟩
  have hb1 : Below W.heap.size W w1 := by rw [← hw1]; exact galloc (Below.refl _ _) _
  rw [hw1] at hB1
  obtain ⟨N, hN⟩ : ∃ N, W.heap.size = N := ⟨_, rfl⟩
  rw [hN] at hB1
  have HN := Lib.hid hN
  have HT : Hid (∀ w, Below W.heap.size W w → TabsJ w ∧ 8 ≤ w.heap.size) := Lib.hid fun w hb => ⟨hT.below hb h8, Nat.le_trans h8 hb.size⟩
  have HM := Lib.hid hm
  have HPK := Lib.hid hpk
  have HB1 := Lib.hid hb1
  have HBX1 := Lib.hid hB1
  have hworks := works_any w1 (HT.out w1 hb1).1 (HT.out w1 hb1).2
  clear hT h8 hj hm hb1 hB1 hK hpk
  go_enter Tryz.func13, Tryz.ntmps13
  go_wp2_with fail
  refine hworks.mono ?_
  rintro e w2 ⟨rfl, hb2⟩
  have HB2 := Lib.hid (gcall HB1.out hb2)
  have hBX2 := HBX1.out.below hb2
  have HBX2 := Lib.hid hBX2
  obtain ⟨c0, c1, c2, c3⟩ := hBX2.cells
  have hweight := weight_j j HM.out w2 _ _ _ _ hBX2.2
  have HWF := Lib.hid (weight_fine j)
  clear hb2 hworks hBX2
  generalize hwt : weightJ j = wt at *
  clear hwt
  go_wp2_with fail
  refine hweight.mono ?_
  rintro e w3 ⟨rfl, hb3⟩
  have HB3 := Lib.hid (gcall HB2.out hb3)
  have HBX3 := Lib.hid (HBX2.out.below hb3)
  clear hb3 hweight c0 c1 c2 c3
  have hworks3 := works_any w3 (HT.out w3 HB3.out).1 (HT.out w3 HB3.out).2
  have HBL := HB3
  by_cases hwl : 700 ≤ wt
  · have hwl1 : decide ((700 : Int) ≤ (wt : Int)) = true := decide_eq_true (by omega)
    have hwl2 : decide (700 ≤ wt) = true := decide_eq_true hwl
    go_wp2_with fail
    refine hworks3.mono ?_
    rintro e w9 ⟨rfl, hb9⟩
    have HB9 := Lib.hid (gcall HBL.out hb9)
    clear hb9 hworks3
    go_wp2
    go_ret
    exact ⟨rfl, by first | exact HB9.out | (rw [← HN.out]; exact HB9.out)⟩
  · have hwl1 : decide ((700 : Int) ≤ (wt : Int)) = false := decide_eq_false (by omega)
    have hwl2 : decide (700 ≤ wt) = false := decide_eq_false hwl
    by_cases hnp : 200 < np
    · have hs1 : decide ((200 : Int) < (np : Int)) = true := decide_eq_true (by omega)
      have hs2 : decide (200 < np) = true := decide_eq_true hnp
      go_wp2_with fail
      refine hworks3.mono ?_
      rintro e w9 ⟨rfl, hb9⟩
      have HB9 := Lib.hid (gcall HBL.out hb9)
      clear hb9 hworks3
      go_wp2
      go_ret
      exact ⟨rfl, by first | exact HB9.out | (rw [← HN.out]; exact HB9.out)⟩
    · have hs1 : decide ((200 : Int) < (np : Int)) = false := decide_eq_false (by omega)
      have hs2 : decide (200 < np) = false := decide_eq_false hnp
      obtain ⟨f1, f2, f3, f4⟩ := HWF.out (by omega)
      have HF1 : Hid (countJ j ≤ 2147483647) := Lib.hid (by omega)
      have HF2 := Lib.hid f2
      have HF3 := Lib.hid f3
      obtain ⟨c0, c1, c2, c3⟩ := HBX3.out.cells
      have hgiven := given_j j f4 w3 _ _ _ _ HBX3.out.2
      clear hworks3 f1 f2 f3 f4 HWF HM
      go_wp2_with fail
      refine hgiven.mono ?_
      rintro e w4 ⟨v, rfl, hv, hb4⟩
      obtain ⟨kd4, tx4, pc4, nc4, cc4, pe4, ne4, ce4, rfl, hj4⟩ := jval_four hv
      have HB4 := Lib.hid (gcall HB3.out hb4)
      have HBX4 := Lib.hid (HBX3.out.below hb4)
      have hprint := print_j j HF3.out HF2.out HF1.out w4 _ _ _ _ (HT.out w4 HB4.out).1 (HT.out w4 HB4.out).2 hj4.any
      clear hgiven hv hj4 hb4 c0 c1 c2 c3
      have HBB := Lib.hid (fun h1 h2 => blank_back (gap ps) (gap_blank ps) (gap_len ps) j HF1.out h1 h2)
      generalize printO j = O at *
      obtain ⟨o1, o2⟩ := O
      obtain ⟨s, hs⟩ : ∃ s : ByteArray, (⟨o1.toArray⟩ : ByteArray) = s := ⟨_, rfl⟩
      have HS : Hid (s.data.toList = o1) := Lib.hid (by rw [← hs])
      go_wp2_with fail
      refine hprint.mono ?_
      rintro e w5 ⟨rfl, hb5⟩
      rw [hs]
      have HB5 := Lib.hid (gcall HB4.out hb5)
      have HBX5 := Lib.hid (HBX4.out.below hb5)
      clear hprint hb5 hs
      by_cases h0 : o2 = 0
      · have h01 : (o2 != 0) = false := by rw [h0]; rfl
        by_cases hsz : 20000 < s.size
        · have hz1 : decide ((20000 : Int) < (s.size : Int)) = true := decide_eq_true (by omega)
          have hz2 : decide (20000 < s.size) = true := decide_eq_true hsz
          clear h0
          go_wp2
          go_ret
          exact ⟨rfl, by first | exact HB5.out | (rw [← HN.out]; exact HB5.out)⟩
        · have hz1 : decide ((20000 : Int) < (s.size : Int)) = false := decide_eq_false (by omega)
          have hz2 : decide (20000 < s.size) = false := decide_eq_false hsz
          have ho : o1.length ≤ 20000 := by
            have h := Lib.size_eq s
            rw [HS.out] at h
            omega
          have HX : Hid (parse (10 :: 32 :: (blk (gap ps) false 0 o1 ++ [9])) = (j, 0)) := Lib.hid (HBB.out h0 ho)
          clear ho
          have HZ : Hid (s.size ≤ 20000) := Lib.hid (by omega)
          clear h0 HBB
          obtain ⟨w6, hw6⟩ : ∃ w6, w5.alloc (.cells #[.string ⟨#[]⟩, .string ⟨#[32]⟩, .string ⟨#[10]⟩, .string ⟨#[9, 13]⟩, .string ⟨#[32, 32]⟩] 9) = w6 := ⟨_, rfl⟩
          have hG6 : w6.heap[w5.heap.size]? = some (.cells #[.string ⟨#[]⟩, .string ⟨#[32]⟩, .string ⟨#[10]⟩, .string ⟨#[9, 13]⟩, .string ⟨#[32, 32]⟩] 9 (0, 0)) := by rw [← hw6]; exact World.alloc_heap_new w5 _
          have hb6 : Below w5.heap.size w5 w6 := by rw [← hw6]; exact galloc (Below.refl _ _) _
          obtain ⟨G, hG⟩ : ∃ G, w5.heap.size = G := ⟨_, rfl⟩
          rw [hG] at hG6
          have HB6 := Lib.hid (gcall HB5.out hb6)
          have HBX6 := Lib.hid (HBX5.out.below hb6)
          have HG6 := Lib.hid (blankB_cell hG6)
          have HP6 : Hid (Picks w6 pk np ck ps) := Lib.hid ⟨HPK.out.1.world ⟨HB6.out.size, fun k hk _ => HB6.out.block k hk⟩, HPK.out.2⟩
          have HI0 : Hid (BlkI ps o1 (blk (gap ps) false 0 o1) false 0 0 0 ⟨#[]⟩) := Lib.hid ⟨rfl, by decide, fun _ => rfl⟩
          have HLN : Hid (o1.length = s.size) := Lib.hid (by rw [Lib.size_eq, HS.out])
          clear hb6 hG6
          go_wp2_with fail
          go_loopw [8, 9, 10, 11] (fun ov bv nv iv wr => ∃ (out : ByteArray) (b : Bool) (n n0 i : Nat), ov = .string out ∧ bv = .bool b ∧ nv = .int .i64 n0 ∧ iv = .int .i64 i ∧ i ≤ s.size ∧ n0 ≤ 2 * i ∧ w6 = wr ∧ Hid (BlkI ps o1 (blk (gap ps) false 0 o1) b n n0 i out)) (fun _ _ _ iv _ => s.size - (intOf iv).toNat)
          case atStart => exact ⟨⟨#[]⟩, false, 0, 0, 0, rfl, rfl, rfl, rfl, by omega, by omega, rfl, HI0⟩
          case round =>
            obtain ⟨out, b, n, n0, i, rfl, rfl, rfl, rfl, hi, hn0, rfl, HI⟩ := hrel
            have hzz := HZ.out
            have hos := HI.out.2.1
            by_cases hlt : i < s.size
            · have hlt' : (i : Int) < (s.size : Int) := by omega
              have hwi : IntKind.i64.wrap ((i : Int) + 1) = ((i + 1 : Nat) : Int) := by rw [IntWalk.i64_in _ (by omega)]; omega
              have hii : (i : Int) ≤ ((i + 1 : Nat) : Int) := by omega
              have hi1 : ((i + 1 : Nat) : Int) ≤ (s.size : Int) := by omega
              obtain ⟨c, hc⟩ : ∃ c, s[i]'hlt = c := ⟨_, rfl⟩
              have HC : Hid (o1[i]? = some c) := Lib.hid (by rw [← HS.out, getD_list hlt, hc])
              obtain ⟨C1, hC1⟩ : ∃ C1, s.extract i (i + 1) = C1 := ⟨_, rfl⟩
              have HCL : Hid (C1.data.toList = [c]) := Lib.hid (by rw [← hC1]; exact one_list hlt hc)
              have hcz : C1.size = 1 := by rw [Lib.size_eq, HCL.out]; rfl
              cases b with
              | false =>
                by_cases hmk : isMark c = true
                · by_cases hp : 0 < np
                  · have hp1 : decide ((0 : Int) < (np : Int)) = true := decide_eq_true (by omega)
                    have hp0 : ((np : Int) == 0) = false := by rw [beq_eq_false_iff_ne]; omega
                    have hp2 : ¬ (np : Int) = 0 := by omega
                    obtain ⟨gp, op, rfl, hget⟩ := HP6.out.get hp
                    have hpl := HP6.out.2
                    obtain ⟨r, hr⟩ : ∃ r, n0 % np = r := ⟨_, rfl⟩
                    have hrl : r < np := by rw [← hr]; exact Nat.mod_lt _ hp
                    obtain ⟨r2, hr2⟩ : ∃ r2, (n0 + 1) % np = r2 := ⟨_, rfl⟩
                    have hrl2 : r2 < np := by rw [← hr2]; exact Nat.mod_lt _ hp
                    obtain ⟨x, hx⟩ : ∃ x, ps[r]? = some x := ⟨_, List.getElem?_eq_getElem (by omega)⟩
                    obtain ⟨x2, hx2⟩ : ∃ x2, ps[r2]? = some x2 := ⟨_, List.getElem?_eq_getElem (by omega)⟩
                    have k1 := hget r x hx
                    have k2 := hget r2 x2 hx2
                    obtain ⟨m, hm⟩ : ∃ m, x.toNat % 5 = m := ⟨_, rfl⟩
                    obtain ⟨m2, hm2⟩ : ∃ m2, x2.toNat % 5 = m2 := ⟨_, rfl⟩
                    have hm5 : m < 5 := by omega
                    have hm25 : m2 < 5 := by omega
                    have k3 := HG6.out m hm5
                    have k4 := HG6.out m2 hm25
                    have HA : Hid ((blankB m).data.toList = gap ps n0) := Lib.hid (gap_at (by omega) (by rw [hpl]; exact hr) hx hm)
                    have HD : Hid ((blankB m2).data.toList = gap ps (n0 + 1)) := Lib.hid (gap_at (by omega) (by rw [hpl]; exact hr2) hx2 hm2)
                    have sa : (blankB m).size ≤ 2 := by rw [Lib.size_eq, HA.out]; exact gap_len _ _
                    have sd : (blankB m2).size ≤ 2 := by rw [Lib.size_eq, HD.out]; exact gap_len _ _
                    obtain ⟨y, hy⟩ : ∃ y, x.toNat = y := ⟨_, rfl⟩
                    obtain ⟨y2, hy2⟩ : ∃ y2, x2.toNat = y2 := ⟨_, rfl⟩
                    rw [hy] at hm k1
                    rw [hy2] at hm2 k2
                    have t1 : (n0 : Int).tmod (np : Int) = (r : Int) := by rw [Int.tmod_eq_emod_of_nonneg (by omega), ← hr]; rfl
                    have t2 : ((n0 + 1 : Nat) : Int).tmod (np : Int) = (r2 : Int) := by rw [Int.tmod_eq_emod_of_nonneg (by omega), ← hr2]; rfl
                    have t1b : IntKind.i64.wrap ((n0 : Int) % (np : Int)) = (r : Int) := by rw [show (n0 : Int) % (np : Int) = (r : Int) by rw [← hr]; rfl, IntWalk.i64_in _ (by omega)]
                    have t2b : IntKind.i64.wrap (((n0 + 1 : Nat) : Int) % (np : Int)) = (r2 : Int) := by rw [show ((n0 + 1 : Nat) : Int) % (np : Int) = (r2 : Int) by rw [← hr2]; rfl, IntWalk.i64_in _ (by omega)]
                    have t3 : (y : Int).tmod 5 = (m : Int) := by rw [Int.tmod_eq_emod_of_nonneg (by omega)]; omega
                    have t4 : (y2 : Int).tmod 5 = (m2 : Int) := by rw [Int.tmod_eq_emod_of_nonneg (by omega)]; omega
                    have t3b : (y : Int) % 5 = (m : Int) := by omega
                    have t4b : (y2 : Int) % 5 = (m2 : Int) := by omega
                    have t2c : IntKind.i64.wrap (((n0 : Int) + 1) % (np : Int)) = (r2 : Int) := by rw [show ((n0 : Int) + 1) % (np : Int) = (r2 : Int) by rw [← hr2]; rfl, IntWalk.i64_in _ (by omega)]
                    have t2d : ((n0 : Int) + 1).tmod (np : Int) = (r2 : Int) := t2
                    have hri : (r : Int) < (np : Int) := by omega
                    have hri2 : (r2 : Int) < (np : Int) := by omega
                    have hmi : (m : Int) < 5 := by omega
                    have hmi2 : (m2 : Int) < 5 := by omega
                    have hn1 : IntKind.i64.wrap ((n0 : Int) + 1) = ((n0 + 1 : Nat) : Int) := by rw [IntWalk.i64_in _ (by omega)]; omega
                    have hn2 : IntKind.i64.wrap (((n0 + 1 : Nat) : Int) + 1) = ((n0 + 2 : Nat) : Int) := by rw [IntWalk.i64_in _ (by omega)]; omega
                    have z1 : ¬ 9223372036854775807 < out.size + (blankB m).size := by omega
                    have z2 : ¬ 9223372036854775807 < out.size + (blankB m).size + C1.size := by omega
                    have z3 : ¬ 9223372036854775807 < out.size + (blankB m).size + C1.size + (blankB m2).size := by omega
                    have HF := Lib.hid (blkI_mark HI.out HC.out hmk (by omega) HA.out HD.out HCL.out)
                    have HPN : Hid (0 < np) := Lib.hid hp
                    have hcs : c = 91 ∨ c = 93 ∨ c = 123 ∨ c = 125 ∨ c = 44 ∨ c = 58 := by unfold isMark at hmk; simpa [or_assoc] using hmk
                    clear hget hx hx2 hy hy2 hm hm2 hmk HA HD sa sd
                    rcases hcs with rfl | rfl | rfl | rfl | rfl | rfl
                    all_goals as_aux_lemma =>
                      go_wp2
                      exact ⟨⟨_, _, n + 2, n0 + 2, i + 1, rfl, rfl, rfl, rfl, by omega, by omega, trivial, HF⟩, by simp [intOf]; omega⟩
                  · have hp1 : decide ((0 : Int) < (np : Int)) = false := decide_eq_false (by omega)
                    have hp3 : decide (0 < np) = false := decide_eq_false hp
                    have z1 : ¬ 9223372036854775807 < out.size + C1.size := by omega
                    have HF := Lib.hid (blkI_mark0 HI.out HC.out hmk (by have := HP6.out.2; omega) HCL.out)
                    have hcs : c = 91 ∨ c = 93 ∨ c = 123 ∨ c = 125 ∨ c = 44 ∨ c = 58 := by unfold isMark at hmk; simpa [or_assoc] using hmk
                    clear hmk
                    rcases hcs with rfl | rfl | rfl | rfl | rfl | rfl
                    all_goals as_aux_lemma =>
                      go_wp2
                      exact ⟨⟨_, _, n + 2, n0, i + 1, rfl, rfl, rfl, rfl, by omega, by omega, trivial, HF⟩, by simp [intOf]; omega⟩
                · have hmf : isMark c = false := by simpa using hmk
                  have z1 : ¬ 9223372036854775807 < out.size + C1.size := by omega
                  have HF := Lib.hid (blkI_out (q := c == 34) HI.out HC.out hmf rfl HCL.out)
                  by_cases hq : c = 34
                  · subst hq
                    rw [show ((34 : UInt8) == 34) = true from rfl] at HF
                    clear hmk hmf
                    as_aux_lemma =>
                      go_wp2
                      exact ⟨⟨_, _, n, n0, i + 1, rfl, rfl, rfl, rfl, by omega, by omega, trivial, HF⟩, by simp [intOf]; omega⟩
                  · rw [show (c == 34) = false by simpa using hq] at HF
                    have hne : ∀ d : UInt8, (c == d) = false → ∀ n : Int, (d.toNat : Int) = n → ((c.toNat : Int) == n) = false := fun d hd n hn => by
                      rw [beq_eq_false_iff_ne] at hd ⊢
                      intro e
                      exact hd (UInt8.toNat_inj.1 (by omega))
                    have hmf2 := hmf
                    unfold isMark at hmf2
                    simp only [Bool.or_eq_false_iff] at hmf2
                    obtain ⟨⟨⟨⟨⟨m1, m2⟩, m3⟩, m4⟩, m5⟩, m6⟩ := hmf2
                    have y1 := hne 91 m1 91 rfl
                    have y2 := hne 93 m2 93 rfl
                    have y3 := hne 123 m3 123 rfl
                    have y4 := hne 125 m4 125 rfl
                    have y5 := hne 44 m5 44 rfl
                    have y6 := hne 58 m6 58 rfl
                    have y7 := hne 34 (by simpa using hq) 34 rfl
                    clear hne m1 m2 m3 m4 m5 m6 hmf hmk hq
                    as_aux_lemma =>
                      go_wp2
                      exact ⟨⟨_, _, n, n0, i + 1, rfl, rfl, rfl, rfl, by omega, by omega, trivial, HF⟩, by simp [intOf]; omega⟩
              | true =>
                have z1 : ¬ 9223372036854775807 < out.size + C1.size := by omega
                have hol := HLN.out
                by_cases he : c = 92
                · subst he
                  by_cases hi2 : i + 1 < s.size
                  · obtain ⟨x, hx⟩ : ∃ x, s[i + 1]'hi2 = x := ⟨_, rfl⟩
                    have HX1 : Hid (o1[i + 1]? = some x) := Lib.hid (by rw [← HS.out, getD_list hi2, hx])
                    obtain ⟨C2, hC2⟩ : ∃ C2, s.extract (i + 1) (i + 1 + 1) = C2 := ⟨_, rfl⟩
                    have HCL2 : Hid (C2.data.toList = [x]) := Lib.hid (by rw [← hC2]; exact one_list hi2 hx)
                    have hcz2 : C2.size = 1 := by rw [Lib.size_eq, HCL2.out]; rfl
                    have hC2b : s.extract (i + 1) (i + 2) = C2 := hC2
                    have z2 : ¬ 9223372036854775807 < out.size + C1.size + C2.size := by omega
                    have hl2 : ((i + 1 : Nat) : Int) < (s.size : Int) := by omega
                    have hl2b : (i : Int) + 1 < (s.size : Int) := by omega
                    have hwi2 : IntKind.i64.wrap (((i + 1 : Nat) : Int) + 1) = ((i + 2 : Nat) : Int) := by rw [IntWalk.i64_in _ (by omega)]; omega
                    have hwi3 : IntKind.i64.wrap ((i : Int) + 1 + 1) = ((i + 2 : Nat) : Int) := by rw [IntWalk.i64_in _ (by omega)]; omega
                    have hii2 : ((i + 1 : Nat) : Int) ≤ ((i + 2 : Nat) : Int) := by omega
                    have hi3 : ((i + 2 : Nat) : Int) ≤ (s.size : Int) := by omega
                    have HF := Lib.hid (blkI_esc HI.out HC.out HX1.out HCL.out HCL2.out)
                    as_aux_lemma =>
                      go_wp2
                      exact ⟨⟨_, _, n, n0, i + 2, rfl, rfl, rfl, rfl, by omega, by omega, trivial, HF⟩, by simp [intOf]; omega⟩
                  · have hl2 : ¬ ((i + 1 : Nat) : Int) < (s.size : Int) := by omega
                    have hl3 : decide (((i + 1 : Nat) : Int) < (s.size : Int)) = false := decide_eq_false hl2
                    have hl4 : decide ((i : Int) + 1 < (s.size : Int)) = false := decide_eq_false (by omega)
                    have hl5 : decide (i + 1 < s.size) = false := decide_eq_false hi2
                    have HF := Lib.hid (blkI_in (q := true) HI.out HC.out (fun _ => by omega) rfl HCL.out)
                    as_aux_lemma =>
                      go_wp2
                      exact ⟨⟨_, _, n, n0, i + 1, rfl, rfl, rfl, rfl, by omega, by omega, trivial, HF⟩, by simp [intOf]; omega⟩
                · have hne : ∀ d : UInt8, c ≠ d → ∀ n : Int, (d.toNat : Int) = n → ((c.toNat : Int) == n) = false := fun d hd n hn => by
                    rw [beq_eq_false_iff_ne]
                    intro e
                    exact hd (UInt8.toNat_inj.1 (by omega))
                  have y0 := hne 92 he 92 rfl
                  by_cases hq : c = 34
                  · subst hq
                    have HF := Lib.hid (blkI_in (q := false) HI.out HC.out (fun e => absurd e he) rfl HCL.out)
                    clear hne he y0
                    as_aux_lemma =>
                      go_wp2
                      exact ⟨⟨_, _, n, n0, i + 1, rfl, rfl, rfl, rfl, by omega, by omega, trivial, HF⟩, by simp [intOf]; omega⟩
                  · have y7 := hne 34 hq 34 rfl
                    have HF := Lib.hid (blkI_in (q := true) HI.out HC.out (fun e => absurd e he) (by simpa using hq) HCL.out)
                    clear hne he hq
                    as_aux_lemma =>
                      go_wp2
                      exact ⟨⟨_, _, n, n0, i + 1, rfl, rfl, rfl, rfl, by omega, by omega, trivial, HF⟩, by simp [intOf]; omega⟩
            · obtain rfl : i = s.size := by omega
              have hlt' : ¬ (s.size : Int) < (s.size : Int) := by omega
              have HO : Hid (out.data.toList = blk (gap ps) false 0 o1) := Lib.hid (by
                have h1 := HI.out.1
                rw [← HLN.out, List.drop_length] at h1
                rw [← h1]
                cases b <;> simp [blk])
              have z1 : ¬ 9223372036854775807 < 2 + out.size := by omega
              have z2 : ¬ 9223372036854775807 < 2 + out.size + 1 := by omega
              obtain ⟨Z, hZ⟩ : ∃ Z : ByteArray, ((⟨#[10, 32]⟩ : ByteArray) ++ out) ++ (⟨#[9]⟩ : ByteArray) = Z := ⟨_, rfl⟩
              have HZL : Hid (Z.data.toList = 10 :: 32 :: (blk (gap ps) false 0 o1 ++ [9])) := Lib.hid (by rw [← hZ, app_list, app_list, HO.out]; rfl)
              have hzs : Z.size ≤ 262144 := by rw [← hZ]; simp only [ByteArray.size_append]; rw [show (⟨#[10, 32]⟩ : ByteArray).size = 2 from rfl, show (⟨#[9]⟩ : ByteArray).size = 1 from rfl]; omega
              have hparse := parse_any w6 Z (HT.out w6 HB6.out).1 (HT.out w6 HB6.out).2 hzs
              rw [HZL.out, HX.out] at hparse
              clear HI hzs
              as_aux_lemma =>
              go_wp2_with fail
              refine hparse.mono ?_
              rintro e w7 ⟨v, rfl, hv, hb7⟩
              obtain ⟨kd7, tx7, pc7, nc7, cc7, pe7, ne7, ce7, rfl, hj7⟩ := jval_four hv
              have hBX7 := BoxJ.new hj7.any
              obtain ⟨w8, hw8⟩ : ∃ w8, w7.alloc (.cells #[.int .u8 kd7, .string tx7, .slice pc7 nc7 cc7, .slice pe7 ne7 ce7] 47) = w8 := ⟨_, rfl⟩
              have hb8 : Below w7.heap.size w7 w8 := by rw [← hw8]; exact galloc (Below.refl _ _) _
              rw [hw8] at hBX7
              obtain ⟨V, hV⟩ : ∃ V, w7.heap.size = V := ⟨_, rfl⟩
              rw [hV] at hBX7
              have HB8 := Lib.hid (gcall HB6.out (gcall hb7 hb8))
              have hBX8 := HBX6.out.below (gcall hb7 hb8)
              obtain ⟨c0, c1, c2, c3⟩ := hBX8.cells
              obtain ⟨e0, e1, e2, e3⟩ := hBX7.cells
              have hsame := same_j j j HF3.out w8 _ _ _ _ _ _ _ _ hBX7.2 hBX8.2
              rw [sameJ_self] at hsame
              clear hparse hv hj7 hb7 hb8 hBX7 hBX8
              go_wp2_with fail
              refine hsame.mono ?_
              rintro e w9 ⟨rfl, hb9⟩
              have HB9 := Lib.hid (gcall HB8.out hb9)
              clear hsame hb9
              go_wp2
              go_ret
              exact ⟨rfl, by first | exact HB9.out | (rw [← HN.out]; exact HB9.out)⟩
      · have h01 : (o2 != 0) = true := by simpa using h0
        clear h0
        go_wp2
        go_ret
        exact ⟨rfl, by first | exact HB5.out | (rw [← HN.out]; exact HB5.out)⟩
end Go.Proofs.YtgcpgieojckheaaGreatDoor.Json
namespace Go.Proofs.YtgcpgieojckheaaGreatDoor
open Go.ChangeShapes Go.WideShapes Go.ChangeAt Go.RowKit Go.ChangeMaps Go.Joins Go.Deep
open Json (AnyB SlIn Picks)

theorem picks_open {H : Type} {enc : TypeId × Value → H} {w : World} {held : Bool} {fuel : Nat} {pk : Option Addr} {np ck : Nat} {x : DataW H × List MemPlace}
    (hf : DataW.trod enc Tryz.prog w 0 (fun _ => true) held fuel 37 (Value.slice pk np ck).cells.toList = some x) : ∃ ps : List UInt8, Picks w pk np ck ps := by
  rcases open_ints Tryz.underlying37 Tryz.underlying5 (by kernel_rfl) hf with ⟨hcs, _⟩ | ⟨a, n, c, zs, hcs, _, hl, hm, hz, _, hcell, hws⟩
  · simp [Value.cells] at hcs
    obtain ⟨rfl, rfl, rfl⟩ := hcs
    exact ⟨[], SlIn.nil _ _ _, rfl⟩
  · simp [Value.cells] at hcs
    obtain ⟨rfl, rfl, rfl⟩ := hcs
    simp only [if_true] at hz
    refine ⟨(zs.take np).map fun z => UInt8.ofNat z.toNat, ?_, by simp; omega⟩
    refine sl_of hl (by simp; omega) (by omega) (fun b off e k u hk => ?_) (fun h0 => by simpa [Addr.add] using World.cell?_spot (hcell 0 (by omega)))
    subst e
    rw [List.getElem?_map, List.getElem?_map] at hk
    have hkn : k < np := by
      rcases Nat.lt_or_ge k np with h | h
      · exact h
      · rw [List.getElem?_eq_none (by simp; omega)] at hk; simp at hk
    rw [List.getElem?_take_of_lt hkn, List.getElem?_eq_getElem (by omega)] at hk
    simp only [Option.map_some, Option.some.injEq] at hk
    subst hk
    have h1 := hcell k (by omega)
    rw [Go.WideShapes.add_plain] at h1
    have hg : zs.getD k 0 = zs[k]'(by omega) := by rw [List.getD_eq_getElem?_getD, List.getElem?_eq_getElem (by omega)]; rfl
    rw [hg] at h1
    have h2 := wf_u8 (hws _ (List.getElem_mem (by omega : k < zs.length)))
    have e3 : ((UInt8.ofNat (zs[k]'(by omega)).toNat).toNat : Int) = zs[k]'(by omega) := by
      rw [UInt8.toNat_ofNat']
      omega
    rw [e3]
    exact h1
end Go.Proofs.YtgcpgieojckheaaGreatDoor
