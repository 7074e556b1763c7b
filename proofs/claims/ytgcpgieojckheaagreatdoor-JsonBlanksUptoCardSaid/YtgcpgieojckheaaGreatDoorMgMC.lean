/-
  Values that the law makes; its example; works.
-/
import Derived.Test.YtgcpgieojckheaaGreatDoorMgLU2
namespace Go.Proofs.YtgcpgieojckheaaGreatDoor.Json
open Go.RowKit Go.Shelf

/-- Behind four stores into a box of zeros: what lies there. -/
theorem box_four {W0 : World} {N : Nat} (kR : W0.heap[N]? = some (.cells #[.int .u8 0, .string ⟨#[]⟩, .slice none 0 0, .slice none 0 0] 47 (0, 0))) (a b c d : Value) :
    ((((W0.setCell ⟨N, 0, none⟩ a).setCell ⟨N, 1, none⟩ b).setCell ⟨N, 2, none⟩ c).setCell ⟨N, 3, none⟩ d).heap[N]? = some (.cells #[a, b, c, d] 47 (0, 0)) :=
  heap_setCell_same _ _ 3 _ _ d (heap_setCell_same _ _ 2 _ _ c (heap_setCell_same _ _ 1 _ _ b (heap_setCell_same _ _ 0 _ _ a kR)))
theorem box_cells {w : World} {N : Nat} {a b c d : Value} (h : w.heap[N]? = some (.cells #[a, b, c, d] 47 (0, 0))) :
    w.cell? ⟨N, 0, none⟩ = some a ∧ w.cell? ⟨N, 1, none⟩ = some b ∧ w.cell? ⟨N, 2, none⟩ = some c ∧ w.cell? ⟨N, 3, none⟩ = some d :=
  ⟨by rw [cellH h]; rfl, by rw [cellH h]; rfl, by rw [cellH h]; rfl, by rw [cellH h]; rfl⟩
/-- A world with a box of four cells more. -/
theorem new_box (W : World) (a b c d : Value) : (W.alloc (.cells #[a, b, c, d] 47)).cell? ⟨W.heap.size, 0, none⟩ = some a ∧ (W.alloc (.cells #[a, b, c, d] 47)).cell? ⟨W.heap.size, 1, none⟩ = some b ∧
    (W.alloc (.cells #[a, b, c, d] 47)).cell? ⟨W.heap.size, 2, none⟩ = some c ∧ (W.alloc (.cells #[a, b, c, d] 47)).cell? ⟨W.heap.size, 3, none⟩ = some d := box_cells (World.alloc_heap_new W _)
set_option maxRecDepth 100000 in
theorem num_any (s : ByteArray) (W : World) : Calls Tryz.prog 31 #[.string s] W fun e w' => e = .returned (leafV 4 (.string s)) ∧ Below W.heap.size W w' := by
  go_enter Tryz.func31, Tryz.ntmps31
  go_wp2
  obtain ⟨z0, z1, z2, z3⟩ := new_box W (.int .u8 4) (.string s) (.slice none 0 0) (.slice none 0 0)
  exact bodyPost_ret (v := leafV 4 (.string s)) (by simp [results, Tryz.results31, go_sem, leafV, z0, z1, z2, z3]) rfl ⟨rfl, galloc (Below.refl _ _) _⟩
set_option maxRecDepth 100000 in
theorem str_any (s : ByteArray) (W : World) : Calls Tryz.prog 30 #[.string s] W fun e w' => e = .returned (leafV 5 (.string s)) ∧ Below W.heap.size W w' := by
  go_enter Tryz.func30, Tryz.ntmps30
  go_wp2
  obtain ⟨z0, z1, z2, z3⟩ := new_box W (.int .u8 5) (.string s) (.slice none 0 0) (.slice none 0 0)
  exact bodyPost_ret (v := leafV 5 (.string s)) (by simp [results, Tryz.results30, go_sem, leafV, z0, z1, z2, z3]) rfl ⟨rfl, galloc (Below.refl _ _) _⟩
set_option maxRecDepth 100000 in
theorem list_any (p : Option Addr) (n c : Nat) (W : World) : Calls Tryz.prog 29 #[.slice p n c] W fun e w' => e = .returned (.agg #[.int .u8 6, .string ⟨#[]⟩, .slice none 0 0, .slice p n c]) ∧ Below W.heap.size W w' := by
  go_enter Tryz.func29, Tryz.ntmps29
  go_wp2
  obtain ⟨z0, z1, z2, z3⟩ := new_box W (.int .u8 6) (.string ⟨#[]⟩) (.slice none 0 0) (.slice p n c)
  exact bodyPost_ret (v := .agg #[.int .u8 6, .string ⟨#[]⟩, .slice none 0 0, .slice p n c]) (by simp [results, Tryz.results29, go_sem, z0, z1, z2, z3]) rfl ⟨rfl, galloc (Below.refl _ _) _⟩
/-- The first example's value. -/
def exJ : J := .mk 7 [] [[97], [195, 169]] [.mk 6 [] [] [.mk 4 [49, 53, 101, 45, 49] [] [], .mk 1 [] [] []], .mk 5 [240, 157, 132, 158] [] []]
theorem sl_block {S : Nat → Prop} {w : World} {b : Nat} {cs : Array Value} {ty : TypeId} {fr : Nat × Nat} (h : w.heap[b]? = some (.cells cs ty fr)) (hS : S b) (n size : Nat) (hn : cs.size = n * size) :
    SlIn S w (.slice (some ⟨b, 0, none⟩) n n) size n cs.toList := by
  refine ⟨by simpa using hn, _, n, rfl, Nat.le_refl _, .inr ⟨b, 0, rfl, hS, (Array.getElem?_eq_some_iff.1 h).1, fun j u hj => ?_⟩⟩
  rw [Nat.zero_add, cellH h]
  simpa using hj
theorem at_leaf (S : Nat → Prop) (w : World) (k : Nat) (t : List UInt8) : JAt S w (.mk k t [] []) [.int .u8 k, bl t, .slice none 0 0, .slice none 0 0] := by
  unfold JAt
  exact ⟨_, _, [], rfl, SlIn.nil _ _ _, SlIn.nil _ _ _, by unfold JsAt; rfl⟩
theorem at_cons {S : Nat → Prop} {w : World} {j : J} {js : List J} {a b c d : Value} {vs : List Value} (h : JAt S w j [a, b, c, d]) (hs : JsAt S w js vs) : JsAt S w (j :: js) (a :: b :: c :: d :: vs) := by
  unfold JsAt
  exact ⟨[a, b, c, d], vs, rfl, h, hs⟩
theorem at_nil (S : Nat → Prop) (w : World) : JsAt S w [] [] := by unfold JsAt; rfl
/-- What the example says, where its blocks lie. -/
theorem ex_at {S : Nat → Prop} {w : World} {A B C : Nat} (hA : w.heap[A]? = some (.cells #[.string ⟨#[97]⟩, .string ⟨#[195, 169]⟩] 9 (0, 0)))
    (hB : w.heap[B]? = some (.cells #[.int .u8 4, .string ⟨#[49, 53, 101, 45, 49]⟩, .slice none 0 0, .slice none 0 0, .int .u8 1, .string ⟨#[]⟩, .slice none 0 0, .slice none 0 0] 47 (0, 0)))
    (hC : w.heap[C]? = some (.cells #[.int .u8 6, .string ⟨#[]⟩, .slice none 0 0, .slice (some ⟨B, 0, none⟩) 2 2, .int .u8 5, .string ⟨#[240, 157, 132, 158]⟩, .slice none 0 0, .slice none 0 0] 47 (0, 0)))
    (sA : S A) (sB : S B) (sC : S C) : JAt S w exJ [.int .u8 7, .string ⟨#[]⟩, .slice (some ⟨A, 0, none⟩) 2 2, .slice (some ⟨C, 0, none⟩) 2 2] := by
  unfold exJ JAt
  refine ⟨_, _, _, rfl, sl_block hA sA 2 1 rfl, sl_block hC sC 2 4 rfl, ?_⟩
  refine at_cons ?_ (at_cons (at_leaf S w 5 [240, 157, 132, 158]) (at_nil S w))
  unfold JAt
  exact ⟨_, _, _, rfl, SlIn.nil _ _ _, sl_block hB sB 2 4 rfl, at_cons (at_leaf S w 4 [49, 53, 101, 45, 49]) (at_cons (at_leaf S w 1 []) (at_nil S w))⟩
set_option maxRecDepth 100000 in
set_option maxHeartbeats 4000000 in
theorem example_any (W : World) : Calls Tryz.prog 33 #[] W fun e w' => ∃ v, e = .returned v ∧ JVal (fun g => W.heap.size ≤ g) w' exJ v ∧ Below W.heap.size W w' := by
  obtain ⟨w1, hw1⟩ : ∃ w1, W.alloc (.cells #[.int .u8 0, .string ⟨#[]⟩, .slice none 0 0, .slice none 0 0] 47) = w1 := ⟨_, rfl⟩
  have hp1 : w1.heap[W.heap.size]? = some (.cells #[.int .u8 0, .string ⟨#[]⟩, .slice none 0 0, .slice none 0 0] 47 (0, 0)) := by rw [← hw1]; exact World.alloc_heap_new W _
  have hb1 : Below W.heap.size W w1 := by rw [← hw1]; exact galloc (Below.refl _ _) _
  have hs1 : w1.heap.size = W.heap.size + 1 := by rw [← hw1]; simp
  obtain ⟨w2, hw2⟩ : ∃ w2, w1.alloc (.cells #[.string ⟨#[97]⟩, .string ⟨#[195, 169]⟩] 9) = w2 := ⟨_, rfl⟩
  have hp2 : w2.heap[w1.heap.size]? = some (.cells #[.string ⟨#[97]⟩, .string ⟨#[195, 169]⟩] 9 (0, 0)) := by rw [← hw2]; exact World.alloc_heap_new w1 _
  have hb2 : Below w1.heap.size w1 w2 := by rw [← hw2]; exact galloc (Below.refl _ _) _
  have HP1 := Lib.hid hp1
  have HB1 := Lib.hid hb1
  have HP2 := Lib.hid hp2
  have HB2 := Lib.hid hb2
  obtain ⟨A, hA⟩ : ∃ A, w1.heap.size = A := ⟨_, rfl⟩
  obtain ⟨N, hN⟩ : ∃ N, W.heap.size = N := ⟨_, rfl⟩
  have HA := Lib.hid hA
  have HN := Lib.hid hN
  have HS1 := Lib.hid hs1
  clear hp1 hb1 hp2 hb2 hs1
  go_enter Tryz.func33, Tryz.ntmps33
  go_wp2_with fail
  refine (num_any _ _).mono ?_
  rintro e w3 ⟨rfl, hb3⟩
  unfold leafV
  obtain ⟨w4, hw4⟩ : ∃ w4, w3.alloc (.cells #[.int .u8 4, .string ⟨#[49, 53, 101, 45, 49]⟩, .slice none 0 0, .slice none 0 0, .int .u8 1, .string ⟨#[]⟩, .slice none 0 0, .slice none 0 0] 47) = w4 := ⟨_, rfl⟩
  have hp4 : w4.heap[w3.heap.size]? = some (.cells #[.int .u8 4, .string ⟨#[49, 53, 101, 45, 49]⟩, .slice none 0 0, .slice none 0 0, .int .u8 1, .string ⟨#[]⟩, .slice none 0 0, .slice none 0 0] 47 (0, 0)) := by rw [← hw4]; exact World.alloc_heap_new w3 _
  have hb4 : Below w3.heap.size w3 w4 := by rw [← hw4]; exact galloc (Below.refl _ _) _
  have HB3 := Lib.hid hb3
  have HP4 := Lib.hid hp4
  have HB4 := Lib.hid hb4
  obtain ⟨B, hB⟩ : ∃ B, w3.heap.size = B := ⟨_, rfl⟩
  have HB := Lib.hid hB
  clear hb3 hp4 hb4
  go_wp2_with fail
  refine (list_any _ _ _ _).mono ?_
  rintro e w5 ⟨rfl, hb5⟩
  have HB5 := Lib.hid hb5
  clear hb5
  go_wp2_with fail
  refine (str_any _ _).mono ?_
  rintro e w6 ⟨rfl, hb6⟩
  unfold leafV
  obtain ⟨w7, hw7⟩ : ∃ w7, w6.alloc (.cells #[.int .u8 6, .string ⟨#[]⟩, .slice none 0 0, .slice (some ⟨B, 0, none⟩) 2 2, .int .u8 5, .string ⟨#[240, 157, 132, 158]⟩, .slice none 0 0, .slice none 0 0] 47) = w7 := ⟨_, rfl⟩
  have hp7 : w7.heap[w6.heap.size]? = some (.cells #[.int .u8 6, .string ⟨#[]⟩, .slice none 0 0, .slice (some ⟨B, 0, none⟩) 2 2, .int .u8 5, .string ⟨#[240, 157, 132, 158]⟩, .slice none 0 0, .slice none 0 0] 47 (0, 0)) := by rw [← hw7]; exact World.alloc_heap_new w6 _
  have hb7 : Below w6.heap.size w6 w7 := by rw [← hw7]; exact galloc (Below.refl _ _) _
  have b37 : Below w4.heap.size w4 w7 := gcall (gcall HB5.out hb6) hb7
  have b27 : Below w2.heap.size w2 w7 := gcall (gcall HB3.out HB4.out) b37
  have b17 : Below w1.heap.size w1 w7 := gcall HB2.out b27
  have hR7 : w7.heap[N]? = some (.cells #[.int .u8 0, .string ⟨#[]⟩, .slice none 0 0, .slice none 0 0] 47 (0, 0)) := by
    rw [← HN.out]; exact (b17.block _ (by have := HS1.out; omega)).trans HP1.out
  have hA7 : w7.heap[A]? = some (.cells #[.string ⟨#[97]⟩, .string ⟨#[195, 169]⟩] 9 (0, 0)) := by
    rw [← HA.out]; exact (b27.block _ (Array.getElem?_eq_some_iff.1 HP2.out).1).trans HP2.out
  have hB7 : w7.heap[B]? = some (.cells #[.int .u8 4, .string ⟨#[49, 53, 101, 45, 49]⟩, .slice none 0 0, .slice none 0 0, .int .u8 1, .string ⟨#[]⟩, .slice none 0 0, .slice none 0 0] 47 (0, 0)) := by
    have h := HP4.out
    rw [hB] at h
    exact (b37.block _ (Array.getElem?_eq_some_iff.1 h).1).trans h
  obtain ⟨q0, q1, q2, q3⟩ := box_cells hR7
  have qf : ∀ o, w7.frozen? ⟨N, o, none⟩ = false := fun o => Lib.frozen_of_heap hR7 o
  obtain ⟨C, hC⟩ : ∃ C, w6.heap.size = C := ⟨_, rfl⟩
  have HF : Hid (∀ v : Value, v = .agg #[.int .u8 7, .string ⟨#[]⟩, .slice (some ⟨A, 0, none⟩) 2 2, .slice (some ⟨C, 0, none⟩) 2 2] → ∀ wz : World, wz = (((w7.setCell ⟨N, 0, none⟩ (.int .u8 7)).setCell ⟨N, 1, none⟩ (.string ⟨#[]⟩)).setCell ⟨N, 2, none⟩ (.slice (some ⟨A, 0, none⟩) 2 2)).setCell ⟨N, 3, none⟩ (.slice (some ⟨C, 0, none⟩) 2 2) →
      JVal (fun g => W.heap.size ≤ g) wz exJ v ∧ Below W.heap.size W wz ∧ wz.heap[N]? = some (.cells #[.int .u8 7, .string ⟨#[]⟩, .slice (some ⟨A, 0, none⟩) 2 2, .slice (some ⟨C, 0, none⟩) 2 2] 47 (0, 0))) := Lib.hid (by
    rintro v rfl wz rfl
    have hN' := HN.out
    have hA' := HA.out
    have hs1 := HS1.out
    have hs2 : w2.heap.size = A + 1 := by rw [← hw2]; simp; omega
    have hbw3 := HB3.out.size
    have hbA := b17.size
    have hb4s := HB4.out.size
    have hb5s := HB5.out.size
    have hb6s := hb6.size
    have hBe := HB.out
    have o : ∀ k, k ≠ N → ((((w7.setCell ⟨N, 0, none⟩ (.int .u8 7)).setCell ⟨N, 1, none⟩ (.string ⟨#[]⟩)).setCell ⟨N, 2, none⟩ (.slice (some ⟨A, 0, none⟩) 2 2)).setCell ⟨N, 3, none⟩ (.slice (some ⟨C, 0, none⟩) 2 2)).heap[k]? = w7.heap[k]? := fun k hk => by
      rw [(Only.set N _ 3 _).block k hk, (Only.set N _ 2 _).block k hk, (Only.set N _ 1 _).block k hk, (Only.set N _ 0 _).block k hk]
    refine ⟨⟨_, _, _, _, rfl, ?_⟩, ?_, box_four hR7 _ _ _ _⟩
    · exact ex_at ((o A (by omega)).trans hA7) ((o B (by omega)).trans hB7) ((o C (by omega)).trans (by rw [← hC]; exact hp7)) (by omega) (by omega) (by omega)
    · have h1 : Below W.heap.size W w7 := gcall HB1.out b17
      rw [← hN']
      exact ((((h1.setCell (p := ⟨W.heap.size, 0, none⟩) (Nat.le_refl _) _).setCell (p := ⟨W.heap.size, 1, none⟩) (Nat.le_refl _) _).setCell (p := ⟨W.heap.size, 2, none⟩) (Nat.le_refl _) _).setCell (p := ⟨W.heap.size, 3, none⟩) (Nat.le_refl _) _))
  clear hb6 hp7 hb7 b37 b27 b17 hR7 hA7 hB7
  go_wp2
  obtain ⟨z1, z2, z3⟩ := HF.out _ rfl _ rfl
  obtain ⟨c0, c1, c2, c3⟩ := box_cells z3
  exact bodyPost_ret (v := .agg #[.int .u8 7, .string ⟨#[]⟩, .slice (some ⟨A, 0, none⟩) 2 2, .slice (some ⟨C, 0, none⟩) 2 2]) (by simp [results, Tryz.results33, go_sem, c0, c1, c2, c3]) rfl ⟨_, rfl, z1, z2⟩
set_option maxRecDepth 100000 in
theorem ex_parse : parse [123, 32, 34, 97, 34, 32, 58, 32, 91, 49, 46, 53, 48, 44, 32, 110, 117, 108, 108, 93, 44, 32, 34, 92, 117, 48, 48, 101, 57, 34, 32, 58, 32, 34, 92, 117, 100, 56, 51, 52, 92, 117, 100, 100, 49, 101, 34, 32, 125] = (exJ, 0) := by kernel_rfl
set_option maxRecDepth 100000 in
theorem ex_print : printO exJ = ([123, 34, 97, 34, 58, 91, 49, 53, 101, 45, 49, 44, 110, 117, 108, 108, 93, 44, 34, 195, 169, 34, 58, 34, 240, 157, 132, 158, 34, 125], 0) := by kernel_rfl
theorem ex_count : countJ exJ = 5 := by kernel_rfl
theorem ex_big : bigJ exJ := by unfold exJ; simp [bigJ, bigsJ]
theorem ex_long : longJ exJ := by unfold exJ; simp [longJ, longsJ]
set_option maxRecDepth 100000 in
set_option maxHeartbeats 4000000 in
theorem works_any (W : World) (hT : TabsJ W) (h8 : 8 ≤ W.heap.size) : Calls Tryz.prog 25 #[] W fun e w' => e = .returned (.bool true) ∧ Below W.heap.size W w' := by
  have hp := parse_any W ⟨#[123, 32, 34, 97, 34, 32, 58, 32, 91, 49, 46, 53, 48, 44, 32, 110, 117, 108, 108, 93, 44, 32, 34, 92, 117, 48, 48, 101, 57, 34, 32, 58, 32, 34, 92, 117, 100, 56, 51, 52, 92, 117, 100, 100, 49, 101, 34, 32, 125]⟩ hT h8 (by decide)
  rw [show (⟨#[123, 32, 34, 97, 34, 32, 58, 32, 91, 49, 46, 53, 48, 44, 32, 110, 117, 108, 108, 93, 44, 32, 34, 92, 117, 48, 48, 101, 57, 34, 32, 58, 32, 34, 92, 117, 100, 56, 51, 52, 92, 117, 100, 100, 49, 101, 34, 32, 125]⟩ : ByteArray).data.toList = [123, 32, 34, 97, 34, 32, 58, 32, 91, 49, 46, 53, 48, 44, 32, 110, 117, 108, 108, 93, 44, 32, 34, 92, 117, 48, 48, 101, 57, 34, 32, 58, 32, 34, 92, 117, 100, 56, 51, 52, 92, 117, 100, 100, 49, 101, 34, 32, 125] from rfl, ex_parse] at hp
  have HT := Lib.hid hT
  have H8 := Lib.hid h8
  have HSAME := Lib.hid (fun (w : World) (ca cb : List Value) (ha : JAt AnyB w exJ ca) (hb : JAt AnyB w exJ cb) => same_any exJ exJ ex_big w ca cb ha hb)
  have HPR := Lib.hid (fun (w : World) (cs : List Value) (hT : TabsJ w) (h8 : 8 ≤ w.heap.size) (hj : JAt AnyB w exJ cs) => print_any exJ ex_big ex_long (check_ok exJ (by rw [ex_count]; omega) ex_long) w cs hT h8 hj)
  rw [ex_print] at HPR
  rw [show (⟨(([123, 34, 97, 34, 58, 91, 49, 53, 101, 45, 49, 44, 110, 117, 108, 108, 93, 44, 34, 195, 169, 34, 58, 34, 240, 157, 132, 158, 34, 125], 0) : List UInt8 × Int).1.toArray⟩ : ByteArray) = ⟨#[123, 34, 97, 34, 58, 91, 49, 53, 101, 45, 49, 44, 110, 117, 108, 108, 93, 44, 34, 195, 169, 34, 58, 34, 240, 157, 132, 158, 34, 125]⟩ from rfl] at HPR
  clear hT h8
  go_enter Tryz.func25, Tryz.ntmps25
  go_wp2_with fail
  refine hp.mono ?_
  rintro e w1 ⟨v, rfl, hv, hb1⟩
  obtain ⟨kd, tx, pc, nc, cc, pd, nd, cd, rfl, hj⟩ := jval_four hv
  obtain ⟨w2, hw2⟩ : ∃ w2, w1.alloc (.cells #[.int .u8 kd, .string tx, .slice pc nc cc, .slice pd nd cd] 47) = w2 := ⟨_, rfl⟩
  have hb2 : Below w1.heap.size w1 w2 := by rw [← hw2]; exact galloc (Below.refl _ _) _
  have hV2 : w2.heap[w1.heap.size]? = some (.cells #[.int .u8 kd, .string tx, .slice pc nc cc, .slice pd nd cd] 47 (0, 0)) := by rw [← hw2]; exact World.alloc_heap_new w1 _
  obtain ⟨V, hVe⟩ : ∃ V, w1.heap.size = V := ⟨_, rfl⟩
  rw [hVe] at hV2
  have HV2 := Lib.hid hV2
  have HJ2 := Lib.hid (hj.any.below hb2)
  have HB2 := Lib.hid (gcall hb1 hb2)
  clear hp hv hj hb1 hb2 hV2
  go_wp2_with fail
  refine (example_any w2).mono ?_
  rintro e w3 ⟨v, rfl, hv, hb3⟩
  obtain ⟨kd2, tx2, pc2, nc2, cc2, pd2, nd2, cd2, rfl, hj3⟩ := jval_four hv
  have hpr := HPR.out w3 [.int .u8 kd2, .string tx2, .slice pc2 nc2 cc2, .slice pd2 nd2 cd2] (HT.out.below (gcall HB2.out hb3) H8.out) (by have := H8.out; have := (gcall HB2.out hb3).size; omega) hj3.any
  rw [show ([.int .u8 kd2, .string tx2, .slice pc2 nc2 cc2, .slice pd2 nd2 cd2] : List Value).toArray = #[.int .u8 kd2, .string tx2, .slice pc2 nc2 cc2, .slice pd2 nd2 cd2] from rfl] at hpr
  have HB3 := Lib.hid hb3
  clear hv hj3 hb3
  go_wp2_with fail
  refine hpr.mono ?_
  rintro e w4 ⟨rfl, hb4⟩
  have hb24 := gcall HB3.out hb4
  have HB24 := Lib.hid hb24
  have HB4 : Hid (Below W.heap.size W w4.drew) := Lib.hid (gcall HB2.out hb24).drew
  have HJ4 : Hid (JAt AnyB w4.drew exJ [.int .u8 kd, .string tx, .slice pc nc cc, .slice pd nd cd]) := Lib.hid ((HJ2.out.below hb24).below (Below.refl w4.heap.size w4).drew)
  have hV4 := (hb24.block V (Array.getElem?_eq_some_iff.1 HV2.out).1).trans HV2.out
  obtain ⟨v0, v1, v2, v3⟩ := box_cells hV4
  have HV4 := Lib.hid hV4
  clear hb4 hb24 hV4 hpr
  go_wp2_with fail
  go_region_held3 (fun u => u.cell? ⟨V, 0, none⟩ = some (.int .u8 kd) ∧ u.cell? ⟨V, 1, none⟩ = some (.string tx) ∧ u.cell? ⟨V, 2, none⟩ = some (.slice pc nc cc) ∧ u.cell? ⟨V, 3, none⟩ = some (.slice pd nd cd)) (first | exact ⟨v0, v1, v2, v3⟩ | (with_reducible exact ⟨x0, x1, x2, x3⟩) | (with_reducible exact ⟨y0, y1, y2, y3⟩) | go_keep) (first
    | (go_at_call 33; (with_reducible refine Calls.mono (example_any w4.drew) ?_); rintro e w5 ⟨v, rfl, hv, hb5⟩; obtain ⟨kd3, tx3, pc3, nc3, cc3, pd3, nd3, cd3, rfl, hj5⟩ := jval_four hv; have hV5 := (hb5.block V (Array.getElem?_eq_some_iff.1 HV4.out).1).trans HV4.out; obtain ⟨x0, x1, x2, x3⟩ := box_cells hV5; have HV5 := Lib.hid hV5; have hsm := HSAME.out w5 [.int .u8 kd, .string tx, .slice pc nc cc, .slice pd nd cd] [.int .u8 kd3, .string tx3, .slice pc3 nc3 cc3, .slice pd3 nd3 cd3] (HJ4.out.below hb5) hj5.any; rw [sameJ_self] at hsm; rw [show ([.int .u8 kd, .string tx, .slice pc nc cc, .slice pd nd cd] : List Value).toArray = #[.int .u8 kd, .string tx, .slice pc nc cc, .slice pd nd cd] from rfl, show ([.int .u8 kd3, .string tx3, .slice pc3 nc3 cc3, .slice pd3 nd3 cd3] : List Value).toArray = #[.int .u8 kd3, .string tx3, .slice pc3 nc3 cc3, .slice pd3 nd3 cd3] from rfl] at hsm; have HB5 : Hid (Below W.heap.size W w5) := Lib.hid (gcall HB4.out hb5); clear hv hj5 hb5 hV5)
    | (go_at_call 28; (with_reducible refine Calls.mono hsm ?_); rintro e w6 ⟨rfl, hb6⟩; have HB6 := Lib.hid (gcall HB5.out hb6); have hV6 := (hb6.block V (Array.getElem?_eq_some_iff.1 HV5.out).1).trans HV5.out; obtain ⟨y0, y1, y2, y3⟩ := box_cells hV6; clear hb6 hsm hV6))
  all_goals go_wp2
  all_goals go_ret
  all_goals exact ⟨rfl, HB6.out⟩
end Go.Proofs.YtgcpgieojckheaaGreatDoor.Json
