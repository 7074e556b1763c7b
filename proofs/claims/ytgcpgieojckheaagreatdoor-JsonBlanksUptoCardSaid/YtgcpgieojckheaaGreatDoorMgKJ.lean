/-
  The reference's Same.
  How big what is read may be.
-/
import Derived.Test.YtgcpgieojckheaaGreatDoorMgKX
import Derived.Test.YtgcpgieojckheaaGreatDoorMgJP8
import Derived.Test.YtgcpgieojckheaaGreatDoorMgJM3
namespace Go.Proofs.YtgcpgieojckheaaGreatDoor.Json
open Go.RowKit Go.Shelf

mutual
/-- Are two values the same? -/
def sameJ : J → J → Bool
  | .mk k t ns ls, .mk k2 t2 ns2 ls2 => k == k2 && (t == t2 && (ns == ns2 && samesJ ls ls2))
def samesJ : List J → List J → Bool
  | [], [] => true
  | a :: r, b :: s => sameJ a b && samesJ r s
  | [], _ :: _ => false
  | _ :: _, [] => false
end
mutual
theorem sameJ_self : ∀ a : J, sameJ a a = true
  | .mk k t ns ls => by unfold sameJ; simp [samesJ_self ls]
theorem samesJ_self : ∀ l : List J, samesJ l l = true
  | [] => by unfold samesJ; rfl
  | a :: r => by unfold samesJ; rw [sameJ_self a, samesJ_self r]; rfl
end
mutual
theorem sameJ_eq : ∀ a b : J, sameJ a b = true → a = b
  | .mk k t ns ls, .mk k2 t2 ns2 ls2, h => by
    unfold sameJ at h
    simp only [Bool.and_eq_true, beq_iff_eq] at h
    obtain ⟨rfl, rfl, rfl, h⟩ := h
    rw [samesJ_eq ls ls2 h]
theorem samesJ_eq : ∀ a b : List J, samesJ a b = true → a = b
  | [], [], _ => rfl
  | a :: r, b :: s, h => by
    unfold samesJ at h
    simp only [Bool.and_eq_true] at h
    rw [sameJ_eq a b h.1, samesJ_eq r s h.2]
  | [], _ :: _, h => by unfold samesJ at h; cases h
  | _ :: _, [], h => by unfold samesJ at h; cases h
end
theorem samesJ_len : ∀ a b : List J, a.length ≠ b.length → samesJ a b = false
  | [], [], h => absurd rfl h
  | a :: r, b :: s, h => by
    unfold samesJ
    rw [samesJ_len r s (fun e => h (by simp [e])), Bool.and_false]
  | [], _ :: _, _ => by unfold samesJ; rfl
  | _ :: _, [], _ => by unfold samesJ; rfl
theorem samesJ_at : ∀ (a b : List J) (i : Nat) (x y : J), a[i]? = some x → b[i]? = some y → sameJ x y = false → samesJ a b = false
  | [], _, i, x, y, h, _, _ => by simp at h
  | _ :: _, [], i, x, y, _, h, _ => by simp at h
  | a :: r, b :: s, 0, x, y, h1, h2, h => by
    simp at h1 h2; subst h1 h2
    unfold samesJ; rw [h]; rfl
  | a :: r, b :: s, i + 1, x, y, h1, h2, h => by
    simp at h1 h2
    unfold samesJ
    rw [samesJ_at r s i x y h1 h2 h, Bool.and_false]
theorem samesJ_all : ∀ (a b : List J), a.length = b.length → (∀ (i : Nat) x y, a[i]? = some x → b[i]? = some y → sameJ x y = true) → samesJ a b = true
  | [], [], _, _ => by unfold samesJ; rfl
  | a :: r, b :: s, hl, h => by
    unfold samesJ
    rw [h 0 a b rfl rfl, samesJ_all r s (by simpa using hl) (fun i x y h1 h2 => h (i + 1) x y (by simpa using h1) (by simpa using h2))]; rfl
  | [], _ :: _, h, _ => by simp at h
  | _ :: _, [], h, _ => by simp at h
theorem names_at : ∀ (a b : List (List UInt8)) (i : Nat) (x y : List UInt8), a[i]? = some x → b[i]? = some y → x ≠ y → (a == b) = false := by
  intro a b i x y h1 h2 h
  rw [beq_eq_false_iff_ne]
  intro e; subst e
  rw [h1] at h2
  exact h (Option.some.inj h2)
theorem names_all {a b : List (List UInt8)} (hl : a.length = b.length) (h : ∀ (i : Nat) x y, a[i]? = some x → b[i]? = some y → x = y) : a = b := by
  refine List.ext_getElem? fun i => ?_
  rcases Nat.lt_or_ge i a.length with g | g
  · have h1 := List.getElem?_eq_getElem g
    have h2 := List.getElem?_eq_getElem (l := b) (i := i) (by omega)
    rw [h1, h2, h i _ _ h1 h2]
  · rw [List.getElem?_eq_none g, List.getElem?_eq_none (by omega)]
/-- Anywhere. -/
abbrev AnyB : Nat → Prop := fun _ => True
theorem JAt.any {S : Nat → Prop} {W : World} {j : J} {cs : List Value} (h : JAt S W j cs) : JAt AnyB W j cs := JAt.mono (fun _ _ _ => trivial) j cs h
theorem JAt.below {W W' : World} {j : J} {cs : List Value} (h : JAt AnyB W j cs) (hb : Below W.heap.size W W') : JAt AnyB W' j cs := JAt.world ⟨hb.size, fun k hk _ => hb.block k hk⟩ j cs h
theorem JsAt.nth {S : Nat → Prop} {W : World} : ∀ (js : List J) (vs : List Value) (i : Nat) (j : J), JsAt S W js vs → js[i]? = some j → ∃ a b c d, JAt S W j [a, b, c, d] ∧ vs[i * 4]? = some a ∧ vs[i * 4 + 1]? = some b ∧ vs[i * 4 + 2]? = some c ∧ vs[i * 4 + 3]? = some d
  | [], vs, i, j, _, h => by simp at h
  | x :: r, vs, 0, j, hj, h => by
    simp at h; subst h
    unfold JsAt at hj
    obtain ⟨p, q, rfl, h1, _⟩ := hj
    obtain ⟨a, b, c, d, rfl⟩ := h1.four
    exact ⟨a, b, c, d, h1, rfl, rfl, rfl, rfl⟩
  | x :: r, vs, i + 1, j, hj, h => by
    simp at h
    unfold JsAt at hj
    obtain ⟨p, q, rfl, h1, h2⟩ := hj
    obtain ⟨a0, b0, c0, d0, rfl⟩ := h1.four
    obtain ⟨a, b, c, d, h3, g1, g2, g3, g4⟩ := JsAt.nth r q i j h2 h
    have e : ∀ m, ([a0, b0, c0, d0] ++ q)[(i + 1) * 4 + m]? = q[i * 4 + m]? := fun m => by
      rw [List.getElem?_append_right (by simp; omega)]
      congr 1
      simp; omega
    exact ⟨a, b, c, d, h3, (e 0).trans g1, (e 1).trans g2, (e 2).trans g3, (e 3).trans g4⟩
theorem SlIn.cellAt {S : Nat → Prop} {W : World} {p : Option Addr} {m cap size n : Nat} {xs : List Value} (h : SlIn S W (.slice p m cap) size n xs) (hn : 0 < n) : ∃ g o, p = some ⟨g, o, none⟩ ∧ ∀ (j : Nat) u, xs[j]? = some u → W.cell? ⟨g, o + j, none⟩ = some u := by
  obtain ⟨_, p2, cap2, h2, _, h4⟩ := h
  cases h2
  rcases h4 with h4 | ⟨g, o, h5, _, _, h8⟩
  · omega
  · exact ⟨g, o, h5, h8⟩
theorem JAt.form {S : Nat → Prop} {W : World} {k : Nat} {t : List UInt8} {ns : List (List UInt8)} {ls : List J} {cs : List Value} (h : JAt S W (.mk k t ns ls) cs) :
    ∃ (pc : Option Addr) (cc : Nat) (pd : Option Addr) (cd : Nat) (vs : List Value), cs = [.int .u8 k, bl t, .slice pc ns.length cc, .slice pd ls.length cd] ∧ SlIn S W (.slice pc ns.length cc) 1 ns.length (ns.map bl) ∧ SlIn S W (.slice pd ls.length cd) 4 ls.length vs ∧ JsAt S W ls vs := by
  unfold JAt at h
  obtain ⟨c, d, vs, rfl, h1, h2, h3⟩ := h
  have h1' := h1
  have h2' := h2
  obtain ⟨_, pc, cc, rfl, _⟩ := h1
  obtain ⟨_, pd, cd, rfl, _⟩ := h2
  exact ⟨pc, cc, pd, cd, vs, rfl, h1', h2', h3⟩
theorem cell_in {W w : World} {p : Addr} {v : Value} (hb : Below W.heap.size W w) (h : W.cell? p = some v) : w.cell? p = some v := (hb.cell (World.block_lt_of_cell? W p h)).trans h
set_option maxRecDepth 100000 in
set_option maxHeartbeats 16000000 in
theorem same_one (a b : J) (W : World) (ca cb : List Value) (ha : JAt AnyB W a ca) (hb : JAt AnyB W b cb) (hbig : ∀ k t ns ls, a = .mk k t ns ls → ns.length < 1000000000 ∧ ls.length < 1000000000)
    (hrec0 : ∀ k t ns ls, a = .mk k t ns ls → ∀ (i : Nat) x, ls[i]? = some x → ∀ (y : J) (w : World) (xs ys : List Value), JAt AnyB w x xs → JAt AnyB w y ys → Calls Tryz.prog 28 #[.agg xs.toArray, .agg ys.toArray] w fun e w' => e = .returned (.bool (sameJ x y)) ∧ Below w.heap.size w w') :
    Calls Tryz.prog 28 #[.agg ca.toArray, .agg cb.toArray] W fun e w' => e = .returned (.bool (sameJ a b)) ∧ Below W.heap.size W w' := by
  obtain ⟨k, t, ns, ls⟩ := a
  obtain ⟨k2, t2, ns2, ls2⟩ := b
  obtain ⟨pc, cc, pd, cd, vs, rfl, hc, hd, hj⟩ := ha.form
  obtain ⟨pe, ce, pf, cf, us, rfl, he, hf, hg⟩ := hb.form
  obtain ⟨hnb, hlb⟩ := hbig _ _ _ _ rfl
  have hrec := hrec0 _ _ _ _ rfl
  clear hrec0
  obtain ⟨G, hG⟩ : ∃ G, sameJ (.mk k t ns ls) (.mk k2 t2 ns2 ls2) = G := ⟨_, rfl⟩
  rw [hG]
  unfold sameJ at hG
  have HG := Lib.hid hG
  obtain ⟨T, hT⟩ : ∃ T : ByteArray, (⟨t.toArray⟩ : ByteArray) = T := ⟨_, rfl⟩
  obtain ⟨T2, hT2⟩ : ∃ T2 : ByteArray, (⟨t2.toArray⟩ : ByteArray) = T2 := ⟨_, rfl⟩
  have HTT : Hid ((T.toList == T2.toList) = (t == t2)) := Lib.hid (by rw [← hT, ← hT2, Lib.toList_data, Lib.toList_data])
  have hb1 : bl t = .string T := by unfold bl; rw [hT]
  have hb2 : bl t2 = .string T2 := by unfold bl; rw [hT2]
  rw [hb1, hb2]
  clear hG hT hT2 hb1 hb2 ha hb hbig
  obtain ⟨W2, hW2⟩ : ∃ W2, (W.alloc (Obj.cells #[.int .u8 k, .string T, .slice pc ns.length cc, .slice pd ls.length cd] 47)).alloc (Obj.cells #[.int .u8 k2, .string T2, .slice pe ns2.length ce, .slice pf ls2.length cf] 47) = W2 := ⟨_, rfl⟩
  have hbW : Below W.heap.size W W2 := by rw [← hW2]; exact galloc (galloc (Below.refl _ _) _) _
  have hA2 : W2.heap[W.heap.size]? = some (.cells #[.int .u8 k, .string T, .slice pc ns.length cc, .slice pd ls.length cd] 47 (0, 0)) := by rw [← hW2]; exact ((galloc (Below.refl _ (W.alloc _)) _).block _ (by simp)).trans (World.alloc_heap_new W _)
  have hB2 : W2.heap[W.heap.size + 1]? = some (.cells #[.int .u8 k2, .string T2, .slice pe ns2.length ce, .slice pf ls2.length cf] 47 (0, 0)) := by
    have := World.alloc_heap_new (W.alloc (Obj.cells #[.int .u8 k, .string T, .slice pc ns.length cc, .slice pd ls.length cd] 47)) (Obj.cells #[.int .u8 k2, .string T2, .slice pe ns2.length ce, .slice pf ls2.length cf] 47)
    rw [World.size_alloc] at this
    rw [← hW2]; exact this
  obtain ⟨A, hA⟩ : ∃ A, W.heap.size = A := ⟨_, rfl⟩
  rw [hA] at hA2 hB2
  obtain ⟨B, hBe⟩ : ∃ B, A + 1 = B := ⟨_, rfl⟩
  rw [hBe] at hB2
  have st : Stays AnyB W W2 := ⟨hbW.size, fun i hi _ => hbW.block i hi⟩
  have HC := Lib.hid (hc.world st)
  have HD := Lib.hid (hd.world st)
  have HE := Lib.hid (he.world st)
  have HF := Lib.hid (hf.world st)
  have HJ := Lib.hid (JsAt.world st ls vs hj)
  have HU := Lib.hid (JsAt.world st ls2 us hg)
  have HA2 := Lib.hid hA2
  have HB2 := Lib.hid hB2
  have HBW := Lib.hid hbW
  have HREC := Lib.hid hrec
  obtain ⟨a0, a1, a2, a3⟩ : W2.cell? ⟨A, 0, none⟩ = some (.int .u8 k) ∧ W2.cell? ⟨A, 1, none⟩ = some (.string T) ∧ W2.cell? ⟨A, 2, none⟩ = some (.slice pc ns.length cc) ∧ W2.cell? ⟨A, 3, none⟩ = some (.slice pd ls.length cd) :=
    ⟨by rw [cellH hA2]; rfl, by rw [cellH hA2]; rfl, by rw [cellH hA2]; rfl, by rw [cellH hA2]; rfl⟩
  obtain ⟨b0, b1, b2, b3⟩ : W2.cell? ⟨B, 0, none⟩ = some (.int .u8 k2) ∧ W2.cell? ⟨B, 1, none⟩ = some (.string T2) ∧ W2.cell? ⟨B, 2, none⟩ = some (.slice pe ns2.length ce) ∧ W2.cell? ⟨B, 3, none⟩ = some (.slice pf ls2.length cf) :=
    ⟨by rw [cellH hB2]; rfl, by rw [cellH hB2]; rfl, by rw [cellH hB2]; rfl, by rw [cellH hB2]; rfl⟩
  clear hc hd he hf hj hg hA2 hB2 hbW st hrec
  by_cases e1 : k = k2
  · have e1' : ((k : Int) != (k2 : Int)) = false := by rw [e1]; simp
    by_cases e2 : t = t2
    · have e2' : (T.toList == T2.toList) = true := by rw [HTT.out, e2]; simp
      by_cases e3 : ns.length = ns2.length
      · have e3' : ((ns.length : Int) != (ns2.length : Int)) = false := by rw [e3]; simp
        by_cases e4 : ls.length = ls2.length
        · have e4' : ((ls.length : Int) != (ls2.length : Int)) = false := by rw [e4]; simp
          have HG2 : Hid ((ns == ns2 && samesJ ls ls2) = G) := Lib.hid (by rw [← HG.out, e1, e2]; simp)
          have HL4 := Lib.hid e4
          have HL3 := Lib.hid e3
          clear e1 e2 e3 e4 HG
          go_enter Tryz.func28, Tryz.ntmps28
          go_wp2
          clear hW2
          go_loopw [5] (fun iv wr => ∃ i : Nat, i ≤ ns.length ∧ iv = .int .i64 i ∧ Hid (Below W2.heap.size W2 wr) ∧ Hid (∀ j, j < i → ∀ x y, ns[j]? = some x → ns2[j]? = some y → x = y)) (fun iv _ => ns.length - (intOf iv).toNat)
          case atStart => exact ⟨0, by omega, rfl, Lib.hid (Below.refl _ _), Lib.hid (fun j hj => by omega)⟩
          case round =>
            obtain ⟨i, hi, rfl, HB, HN⟩ := hrel
            clear a0 a1 a2 a3 b0 b1 b2 b3 e1' e2' e3' e4'
            obtain ⟨c0, c1, c2, c3⟩ : wr.cell? ⟨A, 0, none⟩ = some (.int .u8 k) ∧ wr.cell? ⟨A, 1, none⟩ = some (.string T) ∧ wr.cell? ⟨A, 2, none⟩ = some (.slice pc ns.length cc) ∧ wr.cell? ⟨A, 3, none⟩ = some (.slice pd ls.length cd) := by
              have h := (HB.out.block A (Array.getElem?_eq_some_iff.1 HA2.out).1).trans HA2.out
              exact ⟨by rw [cellH h]; rfl, by rw [cellH h]; rfl, by rw [cellH h]; rfl, by rw [cellH h]; rfl⟩
            obtain ⟨d0, d1, d2, d3⟩ : wr.cell? ⟨B, 0, none⟩ = some (.int .u8 k2) ∧ wr.cell? ⟨B, 1, none⟩ = some (.string T2) ∧ wr.cell? ⟨B, 2, none⟩ = some (.slice pe ns2.length ce) ∧ wr.cell? ⟨B, 3, none⟩ = some (.slice pf ls2.length cf) := by
              have h := (HB.out.block B (Array.getElem?_eq_some_iff.1 HB2.out).1).trans HB2.out
              exact ⟨by rw [cellH h]; rfl, by rw [cellH h]; rfl, by rw [cellH h]; rfl, by rw [cellH h]; rfl⟩
            rcases Nat.lt_or_ge i ns.length with hlt | hge
            · have hlt' : (i : Int) < (ns.length : Int) := by omega
              have hlt2 : (i : Int) < (ns2.length : Int) := by have := HL3.out; omega
              have hwi : IntKind.i64.wrap ((i : Int) + 1) = ((i + 1 : Nat) : Int) := by rw [IntWalk.i64_in _ (by omega)]; omega
              obtain ⟨g1, o1, rfl, hx1⟩ := HC.out.cellAt (by omega)
              obtain ⟨g2, o2, rfl, hx2⟩ := HE.out.cellAt (by have := HL3.out; omega)
              have hu1 := List.getElem?_eq_getElem hlt
              have hu2 := List.getElem?_eq_getElem (l := ns2) (i := i) (by have := HL3.out; omega)
              have hn1 := hx1 i (bl (ns[i]'hlt)) (by rw [List.getElem?_map, hu1]; rfl)
              have hn2 := hx2 i (bl (ns2[i]'(by have := HL3.out; omega))) (by rw [List.getElem?_map, hu2]; rfl)
              have hm1 := cell_in HB.out hn1
              have hm2 := cell_in HB.out hn2
              have HB1 : Hid (∀ n, Below W2.heap.size W2 (wr.drewN n)) := Lib.hid (fun n => gcall HB.out (drewN_below wr n))
              by_cases he : ns[i]'hlt = ns2[i]'(by have := HL3.out; omega)
              · have HN2 : Hid (∀ j, j < i + 1 → ∀ x y, ns[j]? = some x → ns2[j]? = some y → x = y) := Lib.hid (fun j hj x y h1 h2 => by
                  rcases Nat.lt_or_ge j i with g | g
                  · exact HN.out j g x y h1 h2
                  · obtain rfl : j = i := by omega
                    rw [hu1] at h1; rw [hu2] at h2
                    rw [← Option.some.inj h1, ← Option.some.inj h2]; exact he)
                rw [← he] at hm2
                unfold bl at hm1 hm2
                generalize (⟨(ns[i]'hlt).toArray⟩ : ByteArray) = QI at hm1 hm2
                have hq : (QI.toList == QI.toList) = true := by simp
                clear hx1 hx2 hn1 hn2 hu1 hu2 he
                go_wp2_with fail
                go_quiet (fail)
                go_wp2
                exact ⟨⟨i + 1, by omega, rfl, Lib.hid (HB1.out _), HN2⟩, by simp [intOf]; omega⟩
              · have hq : ((⟨(ns[i]'hlt).toArray⟩ : ByteArray).toList == (⟨(ns2[i]'(by have := HL3.out; omega)).toArray⟩ : ByteArray).toList) = false := by
                  rw [Lib.toList_data, Lib.toList_data, beq_eq_false_iff_ne]; exact he
                have HGF : Hid (G = false) := Lib.hid (by rw [← HG2.out, names_at ns ns2 i _ _ hu1 hu2 he]; rfl)
                unfold bl at hm1 hm2
                generalize (⟨(ns[i]'hlt).toArray⟩ : ByteArray) = QI at hm1 hq
                generalize (⟨(ns2[i]'(by have := HL3.out; omega)).toArray⟩ : ByteArray) = QJ at hm2 hq
                clear hx1 hx2 hn1 hn2 hu1 hu2 he
                go_wp2_with fail
                go_quiet (fail)
                go_wp2
                go_ret
                exact ⟨by rw [HGF.out]; rfl, HBW.out.trans ((HB1.out _).mono HBW.out.size)⟩
            · obtain rfl : i = ns.length := by omega
              have hlt' : ¬ (ns.length : Int) < (ns.length : Int) := by omega
              have HG3 : Hid (samesJ ls ls2 = G) := Lib.hid (by
                rw [← HG2.out, names_all HL3.out (fun i x y h1 h2 => HN.out i (by have := (List.getElem?_eq_some_iff.1 h1).1; exact this) x y h1 h2)]; simp)
              clear HN HG2
              go_wp2
              go_loopw [6] (fun iv wr => ∃ i : Nat, i ≤ ls.length ∧ iv = .int .i64 i ∧ Hid (Below W2.heap.size W2 wr) ∧ Hid (∀ j, j < i → ∀ x y, ls[j]? = some x → ls2[j]? = some y → sameJ x y = true)) (fun iv _ => ls.length - (intOf iv).toNat)
              case atStart => exact ⟨0, by omega, rfl, HB, Lib.hid (fun j hj => by omega)⟩
              case round =>
                clear c0 c1 c2 c3 d0 d1 d2 d3 hlt' HB
                obtain ⟨i, hi2, rfl, HB, HN⟩ := hrel
                obtain ⟨c0, c1, c2, c3⟩ : wr.cell? ⟨A, 0, none⟩ = some (.int .u8 k) ∧ wr.cell? ⟨A, 1, none⟩ = some (.string T) ∧ wr.cell? ⟨A, 2, none⟩ = some (.slice pc ns.length cc) ∧ wr.cell? ⟨A, 3, none⟩ = some (.slice pd ls.length cd) := by
                  have h := (HB.out.block A (Array.getElem?_eq_some_iff.1 HA2.out).1).trans HA2.out
                  exact ⟨by rw [cellH h]; rfl, by rw [cellH h]; rfl, by rw [cellH h]; rfl, by rw [cellH h]; rfl⟩
                obtain ⟨d0, d1, d2, d3⟩ : wr.cell? ⟨B, 0, none⟩ = some (.int .u8 k2) ∧ wr.cell? ⟨B, 1, none⟩ = some (.string T2) ∧ wr.cell? ⟨B, 2, none⟩ = some (.slice pe ns2.length ce) ∧ wr.cell? ⟨B, 3, none⟩ = some (.slice pf ls2.length cf) := by
                  have h := (HB.out.block B (Array.getElem?_eq_some_iff.1 HB2.out).1).trans HB2.out
                  exact ⟨by rw [cellH h]; rfl, by rw [cellH h]; rfl, by rw [cellH h]; rfl, by rw [cellH h]; rfl⟩
                rcases Nat.lt_or_ge i ls.length with hlt | hge
                · have hlt' : (i : Int) < (ls.length : Int) := by omega
                  have hlt2 : (i : Int) < (ls2.length : Int) := by have := HL4.out; omega
                  have hwi : IntKind.i64.wrap ((i : Int) + 1) = ((i + 1 : Nat) : Int) := by rw [IntWalk.i64_in _ (by omega)]; omega
                  obtain ⟨g1, o1, rfl, hx1⟩ := HD.out.cellAt (by omega)
                  obtain ⟨g2, o2, rfl, hx2⟩ := HF.out.cellAt (by have := HL4.out; omega)
                  have hu1 := List.getElem?_eq_getElem hlt
                  have hu2 := List.getElem?_eq_getElem (l := ls2) (i := i) (by have := HL4.out; omega)
                  obtain ⟨xa, xb, xc, xd, hjx, m1, m2, m3, m4⟩ := HJ.out.nth ls vs i _ hu1
                  obtain ⟨ya, yb, yc, yd, hjy, m5, m6, m7, m8⟩ := HU.out.nth ls2 us i _ hu2
                  have k1 : wr.cell? ⟨g1, o1 + i * 4, none⟩ = some xa := cell_in HB.out (hx1 _ _ m1)
                  have k2' : wr.cell? ⟨g1, o1 + i * 4 + 1, none⟩ = some xb := cell_in HB.out (hx1 _ _ m2)
                  have k3 : wr.cell? ⟨g1, o1 + i * 4 + 2, none⟩ = some xc := cell_in HB.out (hx1 _ _ m3)
                  have k4 : wr.cell? ⟨g1, o1 + i * 4 + 3, none⟩ = some xd := cell_in HB.out (hx1 _ _ m4)
                  have l1 : wr.cell? ⟨g2, o2 + i * 4, none⟩ = some ya := cell_in HB.out (hx2 _ _ m5)
                  have l2 : wr.cell? ⟨g2, o2 + i * 4 + 1, none⟩ = some yb := cell_in HB.out (hx2 _ _ m6)
                  have l3 : wr.cell? ⟨g2, o2 + i * 4 + 2, none⟩ = some yc := cell_in HB.out (hx2 _ _ m7)
                  have l4 : wr.cell? ⟨g2, o2 + i * 4 + 3, none⟩ = some yd := cell_in HB.out (hx2 _ _ m8)
                  have hcall := HREC.out i _ hu1 _ wr.drew [xa, xb, xc, xd] [ya, yb, yc, yd] ((hjx.below HB.out).below (Below.refl _ wr).drew) ((hjy.below HB.out).below (Below.refl _ wr).drew)
                  cases hs : sameJ (ls[i]'hlt) (ls2[i]'(by have := HL4.out; omega)) with
                  | true =>
                    rw [hs] at hcall
                    have HN2 : Hid (∀ j, j < i + 1 → ∀ x y, ls[j]? = some x → ls2[j]? = some y → sameJ x y = true) := Lib.hid (fun j hj x y h1 h2 => by
                      rcases Nat.lt_or_ge j i with g | g
                      · exact HN.out j g x y h1 h2
                      · obtain rfl : j = i := by omega
                        rw [hu1] at h1; rw [hu2] at h2
                        rw [← Option.some.inj h1, ← Option.some.inj h2]; exact hs)
                    clear hx1 hx2 hu1 hu2 hjx hjy m1 m2 m3 m4 m5 m6 m7 m8 hs
                    go_wp2_with fail
                    go_region_law (first | (go_simp; go_at_call 28; with_reducible (refine Calls.mono hcall ?_); rintro e w3 ⟨rfl, hb3⟩; have HB3 := Lib.hid (gcall HB.out (gcall ((Below.refl wr.heap.size wr).drew) hb3))))
                    all_goals go_wp2
                    all_goals exact ⟨⟨i + 1, by omega, rfl, HB3, HN2⟩, by simp [intOf]; omega⟩
                  | false =>
                    rw [hs] at hcall
                    have HGF : Hid (G = false) := Lib.hid (by rw [← HG3.out]; exact samesJ_at ls ls2 i _ _ hu1 hu2 hs)
                    clear hx1 hx2 hu1 hu2 hjx hjy m1 m2 m3 m4 m5 m6 m7 m8 hs
                    go_wp2_with fail
                    go_region_law (first | (go_simp; go_at_call 28; with_reducible (refine Calls.mono hcall ?_); rintro e w3 ⟨rfl, hb3⟩; have HB3 := Lib.hid (gcall HB.out (gcall ((Below.refl wr.heap.size wr).drew) hb3))))
                    all_goals go_wp2
                    all_goals go_ret
                    all_goals exact ⟨by rw [HGF.out]; rfl, HBW.out.trans (HB3.out.mono HBW.out.size)⟩
                · obtain rfl : i = ls.length := by omega
                  have hlt' : ¬ (ls.length : Int) < (ls.length : Int) := by omega
                  have HGT : Hid (G = true) := Lib.hid (by
                    rw [← HG3.out]; exact samesJ_all ls ls2 HL4.out (fun i x y h1 h2 => HN.out i (by have := (List.getElem?_eq_some_iff.1 h1).1; exact this) x y h1 h2))
                  go_wp2
                  go_ret
                  exact ⟨by rw [HGT.out]; rfl, by rw [← hA]; exact HBW.out.trans (HB.out.mono HBW.out.size)⟩
        · have e4' : ((ls.length : Int) != (ls2.length : Int)) = true := by simp; omega
          have HGF : Hid (G = false) := Lib.hid (by rw [← HG.out, samesJ_len _ _ e4]; simp)
          clear e1 e2 e3 e4 HG
          go_enter Tryz.func28, Tryz.ntmps28
          go_wp2
          go_ret
          exact ⟨by rw [HGF.out]; rfl, HBW.out⟩
      · have e3' : ((ns.length : Int) != (ns2.length : Int)) = true := by simp; omega
        have HGF : Hid (G = false) := Lib.hid (by rw [← HG.out, show (ns == ns2) = false from beq_eq_false_iff_ne.2 (fun e => e3 (by rw [e]))]; simp)
        clear e1 e2 e3 HG
        go_enter Tryz.func28, Tryz.ntmps28
        go_wp2
        go_ret
        exact ⟨by rw [HGF.out]; rfl, HBW.out⟩
    · have e2' : (T.toList == T2.toList) = false := by rw [HTT.out, beq_eq_false_iff_ne.2 e2]
      have HGF : Hid (G = false) := Lib.hid (by rw [← HG.out, beq_eq_false_iff_ne.2 e2]; simp)
      clear e1 e2 HG
      go_enter Tryz.func28, Tryz.ntmps28
      go_wp2
      go_ret
      exact ⟨by rw [HGF.out]; rfl, HBW.out⟩
  · have e1' : ((k : Int) != (k2 : Int)) = true := by simp; omega
    have HGF : Hid (G = false) := Lib.hid (by rw [← HG.out, beq_eq_false_iff_ne.2 e1]; simp)
    clear e1 HG
    go_enter Tryz.func28, Tryz.ntmps28
    go_wp2
    go_ret
    exact ⟨by rw [HGF.out]; rfl, HBW.out⟩
mutual
def bigJ : J → Prop
  | .mk _ _ ns ls => ns.length < 1000000000 ∧ ls.length < 1000000000 ∧ bigsJ ls
def bigsJ : List J → Prop
  | [] => True
  | j :: js => bigJ j ∧ bigsJ js
end
theorem bigsJ_at : ∀ (l : List J) (i : Nat) (x : J), bigsJ l → l[i]? = some x → bigJ x
  | [], i, x, _, h => by simp at h
  | j :: js, 0, x, h, hx => by
    simp at hx; subst hx
    unfold bigsJ at h; exact h.1
  | j :: js, i + 1, x, h, hx => by
    simp at hx
    unfold bigsJ at h
    exact bigsJ_at js i x h.2 hx
theorem same_deep : ∀ (n : Nat) (a : J), deepJ a ≤ n → bigJ a → ∀ (b : J) (W : World) (ca cb : List Value), JAt AnyB W a ca → JAt AnyB W b cb → Calls Tryz.prog 28 #[.agg ca.toArray, .agg cb.toArray] W fun e w' => e = .returned (.bool (sameJ a b)) ∧ Below W.heap.size W w'
  | 0, .mk k t ns ls, hd, _, _, _, _, _, _, _ => by unfold deepJ at hd; omega
  | n + 1, .mk k t ns ls, hd, hbig, b, W, ca, cb, ha, hb => by
    unfold bigJ at hbig
    refine same_one _ b W ca cb ha hb (fun k2 t2 ns2 ls2 e => by cases e; exact ⟨hbig.1, hbig.2.1⟩) (fun k2 t2 ns2 ls2 e i x hx y w xs ys h1 h2 => ?_)
    cases e
    refine same_deep n x ?_ (bigsJ_at ls i x hbig.2.2 hx) y w xs ys h1 h2
    unfold deepJ at hd
    have : deepJ x ≤ deepsJ ls := by
      clear hd hbig ha h1
      induction ls generalizing i with
      | nil => simp at hx
      | cons j js ih =>
        unfold deepsJ
        cases i with
        | zero => simp at hx; subst hx; omega
        | succ i => simp at hx; have := ih i hx; omega
    omega
/-- Same, of any two values in memory. -/
theorem same_any (a b : J) (hbig : bigJ a) (W : World) (ca cb : List Value) (ha : JAt AnyB W a ca) (hb : JAt AnyB W b cb) : Calls Tryz.prog 28 #[.agg ca.toArray, .agg cb.toArray] W fun e w' => e = .returned (.bool (sameJ a b)) ∧ Below W.heap.size W w' :=
  same_deep (deepJ a) a (Nat.le_refl _) hbig b W ca cb ha hb
end Go.Proofs.YtgcpgieojckheaaGreatDoor.Json
namespace Go.Proofs.YtgcpgieojckheaaGreatDoor.Json
open Go.RowKit Go.Shelf

theorem fine_big_list {js : List J} (h : ∀ j ∈ js, bigJ j) : bigsJ js := by
  induction js with
  | nil => unfold bigsJ; trivial
  | cons j r ih => unfold bigsJ; exact ⟨h j (by simp), ih (fun x hx => h x (by simp [hx]))⟩
mutual
theorem form_big : ∀ j : J, formJ j = true → countJ j ≤ 65536 → bigJ j
  | .mk k t ns ls, h, hc => by
    unfold countJ at hc
    have hl : ls.length ≤ countsJ ls := counts_len ls
    have hn : ns.length ≤ ls.length := by
      unfold formJ at h
      split at h
      · simp only [Bool.and_eq_true, List.isEmpty_iff] at h
        rw [h.1.2]; simp
      · split at h
        · simp only [Bool.and_eq_true, List.isEmpty_iff] at h
          rw [h.1.2]; simp
        · split at h
          · simp only [Bool.and_eq_true, List.isEmpty_iff] at h
            rw [h.1.2]; simp
          · split at h
            · simp only [Bool.and_eq_true, List.isEmpty_iff] at h
              rw [h.1.2]; simp
            · split at h
              · simp only [Bool.and_eq_true, List.isEmpty_iff, decide_eq_true_eq] at h
                omega
              · cases h
    have hf : formsJ ls = true := by
      unfold formJ at h
      split at h
      · simp only [Bool.and_eq_true, List.isEmpty_iff] at h
        rw [h.2]; unfold formsJ; rfl
      · split at h
        · simp only [Bool.and_eq_true, List.isEmpty_iff] at h
          rw [h.2]; unfold formsJ; rfl
        · split at h
          · simp only [Bool.and_eq_true, List.isEmpty_iff] at h
            rw [h.2]; unfold formsJ; rfl
          · split at h
            · simp only [Bool.and_eq_true] at h; exact h.2
            · split at h
              · simp only [Bool.and_eq_true] at h; exact h.2
              · cases h
    unfold bigJ
    exact ⟨by omega, by omega, forms_big ls hf (by omega)⟩
theorem forms_big : ∀ l : List J, formsJ l = true → countsJ l ≤ 65536 → bigsJ l
  | [], _, _ => by unfold bigsJ; trivial
  | j :: js, h, hc => by
    unfold formsJ at h
    unfold countsJ at hc
    simp only [Bool.and_eq_true] at h
    unfold bigsJ
    exact ⟨form_big j h.1 (by omega), forms_big js h.2 (by omega)⟩
theorem counts_len : ∀ l : List J, l.length ≤ countsJ l
  | [] => by simp
  | j :: js => by
    have := counts_len js
    unfold countsJ
    have h1 : 1 ≤ countJ j := by cases j; unfold countJ; omega
    simp only [List.length_cons]; omega
end
theorem parse_big (l : List UInt8) : bigJ (parse l).1 := by
  unfold parse
  split
  · unfold J.zero bigJ bigsJ; simp
  · cases hv : value 64 l 0 with
    | error e => show bigJ J.zero; unfold J.zero bigJ bigsJ; simp
    | ok p =>
      obtain ⟨j, r, n⟩ := p
      have hf := value_fine 64 l 0 j r n hv
      simp only
      split
      · exact form_big j hf.1 (by have h1 := hf.2.2.2.1; have h2 := hf.2.2.2.2; omega)
      · unfold J.zero bigJ bigsJ; simp
theorem TabsJ.below {W w : World} (h : TabsJ W) (hb : Below W.heap.size W w) (h8 : 8 ≤ W.heap.size) : TabsJ w := h.but (But.of (b := W.heap.size) hb) h8 h8
end Go.Proofs.YtgcpgieojckheaaGreatDoor.Json
