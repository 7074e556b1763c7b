/-
  DecNames.
-/
import Derived.Test.YtgcpgieojckheaaGreatDoorQ
namespace Go.Proofs.YtgcpgieojckheaaGreatDoor
open Go.RowKit Go.Shelf

/-- The cases: a text, its own form, the error. -/
def nmTab : List (List UInt8 × List UInt8 × Int) := [([48, 46, 48, 48, 101, 57], [48], 0), ([49, 69, 43, 50], [49, 101, 50], 0), ([49, 48, 48], [49, 101, 50], 0), ([45, 48], [48], 0), ([48, 48, 55], [], 4), ([49, 46], [], 4), ([46, 53], [], 4), ([43, 49], [], 4), ([49, 101], [], 4), ([], [], 4), ([45], [], 4), ([49, 101, 43], [], 4), ([49, 32], [], 4), ([49, 101, 49, 48, 48, 48, 48], [], 40), ([49, 48, 101, 57, 57, 57, 57], [], 40), ([49, 101, 57, 57, 57, 57], [49, 101, 57, 57, 57, 57], 0), ([48, 46, 49, 101, 45, 57, 57, 57, 56], [49, 101, 45, 57, 57, 57, 57], 0), ([48, 46, 48, 49, 101, 45, 57, 57, 57, 56], [], 40), ([48, 101, 57, 57, 57, 57, 57], [48], 0), ([49, 101, 57, 57, 57, 57, 57, 57, 57, 57, 57, 57, 57, 57, 57, 57, 57, 57, 57, 57, 57, 57], [], 40), ([48, 46, 53], [53, 101, 45, 49], 0)]
def nmVals (t : List UInt8 × List UInt8 × Int) : List Value := [bl t.1, bl t.2.1, .int .i64 t.2.2]
def nmCells : Array Value := (nmTab.flatMap nmVals).toArray
theorem flat3 : ∀ (l : List (List UInt8 × List UInt8 × Int)) (k : Nat) (h : k < l.length), (l.flatMap nmVals)[k * 3]? = some (bl (l[k]'h).1) ∧ (l.flatMap nmVals)[k * 3 + 1]? = some (bl (l[k]'h).2.1) ∧ (l.flatMap nmVals)[k * 3 + 2]? = some (.int .i64 (l[k]'h).2.2)
  | [], _, h => absurd h (Nat.not_lt_zero _)
  | t :: r, 0, _ => ⟨rfl, rfl, rfl⟩
  | t :: r, k + 1, h => by
    have ih := flat3 r k (by simpa using h)
    have e : (t :: r).flatMap nmVals = bl t.1 :: bl t.2.1 :: .int .i64 t.2.2 :: r.flatMap nmVals := by simp [nmVals]
    rw [e, show (k + 1) * 3 = k * 3 + 3 by omega]
    simpa using ih
theorem nm_len : nmTab.length = 21 := rfl
set_option maxRecDepth 100000 in
theorem nm_all : nmTab.all (fun t => ownR t.1 == (t.2.1, t.2.2) && decide (t.1.length ≤ 100)) = true := by decide +kernel
theorem nm_own (k : Nat) (h : k < nmTab.length) : ownR (nmTab[k]'h).1 = ((nmTab[k]'h).2.1, (nmTab[k]'h).2.2) ∧ (nmTab[k]'h).1.length ≤ 100 := by
  have := List.all_eq_true.1 nm_all _ (List.getElem_mem h)
  simpa using this
set_option maxRecDepth 100000 in
theorem nx1 : intR [48, 101, 57, 57] = (0, 0) := by decide +kernel
set_option maxRecDepth 100000 in
theorem nx2 : (ownR (List.replicate 200 55)).2 = 0 := by decide +kernel
set_option maxRecDepth 100000 in
theorem nx3 : (ownR (List.replicate 200 55 ++ [55])).2 = 40 := by decide +kernel
set_option maxRecDepth 100000 in
theorem nx4 : (ownR (List.replicate 200 55 ++ [48])).2 = 0 := by decide +kernel
set_option maxRecDepth 100000 in
theorem nx5 : intR [45, 57, 50, 50, 51, 51, 55, 50, 48, 51, 54, 56, 53, 52, 55, 55, 53, 56, 48, 56] = (-9223372036854775808, 0) := by decide +kernel
set_option maxRecDepth 100000 in
theorem nx6 : (intR [57, 50, 50, 51, 51, 55, 50, 48, 51, 54, 56, 53, 52, 55, 55, 53, 56, 48, 56]).2 = 64 := by decide +kernel
set_option maxRecDepth 100000 in
theorem nx7 : (intR [49, 101, 49, 57]).2 = 64 := by decide +kernel
set_option maxRecDepth 100000 in
theorem nx8 : (intR [49, 46, 53]).2 = 1 := by decide +kernel
set_option maxRecDepth 100000 in
theorem nx9 : intR [49, 53, 101, 48] = (15, 0) := by decide +kernel
set_option maxRecDepth 100000 in
theorem nx10 : (cmpR [120] [49]).2 = 4 := by decide +kernel
set_option maxRecDepth 100000 in
theorem nx11 : ofR (-50) = [45, 53, 101, 49] := by decide +kernel
set_option maxRecDepth 100000 in
theorem nx12 : ofR 0 = [48] := by decide +kernel
set_option maxRecDepth 100000 in
theorem nx13 : ofR (-9223372036854775808) = [45, 57, 50, 50, 51, 51, 55, 50, 48, 51, 54, 56, 53, 52, 55, 55, 53, 56, 48, 56] := by decide +kernel
def Nm (N : Nat) (W : World) : Prop := W.heap[N]? = some (.cells nmCells 33 (0, 0))
theorem bl_of (b : ByteArray) : bl b.data.toList = .string b := rfl
theorem Nm.at {N : Nat} {W : World} (h : Nm N W) {k : Nat} (hk : k < 21) : ∃ (a b : ByteArray) (c : Int), W.cell? ⟨N, k * 3, none⟩ = some (.string a) ∧ W.cell? ⟨N, k * 3 + 1, none⟩ = some (.string b) ∧ W.cell? ⟨N, k * 3 + 2, none⟩ = some (.int .i64 c) ∧ a.size ≤ 100 ∧ ownR a.data.toList = (b.data.toList, c) := by
  obtain ⟨h1, h2, h3⟩ := flat3 nmTab k (by rw [nm_len]; exact hk)
  obtain ⟨o, l⟩ := nm_own k (by rw [nm_len]; exact hk)
  have hc : ∀ o : Nat, W.cell? ⟨N, o, none⟩ = (nmTab.flatMap nmVals)[o]? := fun o => by rw [cellH h]; simp [nmCells]
  exact ⟨⟨_⟩, ⟨_⟩, _, by rw [hc, h1]; rfl, by rw [hc, h2]; rfl, by rw [hc, h3], by rw [Lib.size_eq]; exact l, o⟩
set_option maxRecDepth 100000 in
set_option maxHeartbeats 4000000 in
theorem decNames_walk (w : World) (ht : Tab w) :
    Calls Tryz.prog 5 #[] w fun e w' => e = .returned (.bool true) ∧ Below w.heap.size w w' := by
  go_enter Tryz.func5, Tryz.ntmps5
  go_wp2_with fail
  have HB0 := Lib.hid (galloc (Below.refl w.heap.size w) (.cells nmCells 33))
  have HN0 : Hid (Nm w.heap.size (w.alloc (.cells nmCells 33))) := Lib.hid (World.alloc_heap_new w _)
  go_loopw [50] (fun i wr => ∃ k : Nat, i = .int .i64 k ∧ k ≤ 21 ∧ Hid (Below w.heap.size w wr) ∧ Hid (Nm w.heap.size wr)) (fun i _ => 21 - (intOf i).toNat)
  case atStart => exact ⟨0, rfl, Nat.zero_le _, HB0, HN0⟩
  case round =>
    clear HB0 HN0
    obtain ⟨k, rfl, hk, HB, HN⟩ := hrel
    by_cases hlt : k < 21
    · have hlt' : (k : Int) < 21 := by omega
      obtain ⟨a, b, c, c1, c2, c3, hz, ho⟩ := HN.out.at hlt
      have cO := fun W (hW : Below w.heap.size w W) => own_any a W (ht.below hW) (by omega)
      unfold OwnEnd at cO
      simp only [ho, bl_of] at cO
      go_wp2_with fail
      refine (cO _ (galloc HB.out _)).mono ?_
      rintro e w1 ⟨rfl, hb⟩
      have HB1 := Lib.hid (gcall (galloc HB.out (.cells #[.string a, .string b, .int .i64 c] 33)) hb)
      have k2 := World.alloc_heap_new wr (.cells #[.string a, .string b, .int .i64 c] 33)
      have hN : w.heap.size < wr.heap.size := (Array.getElem?_eq_some_iff.1 HN.out).1
      have hz1 : (wr.alloc (.cells #[.string a, .string b, .int .i64 c] 33)).heap.size = wr.heap.size + 1 := by simp
      have HN1 : Hid (Nm w.heap.size w1) := Lib.hid ((hb.block _ (by omega)).trans ((Below.heap_alloc _ _ _ hN).trans HN.out))
      obtain ⟨d1, d2, d3, _⟩ := cells3 ((hb.block _ (by omega)).trans k2)
      have g1 : (b.toList != b.toList) = false := by simp
      have g2 : (c != c) = false := by simp
      have g3 : (b.toList == b.toList) = true := by simp
      have g4 : (c == c) = true := by simp
      clear hb k2 hN hz1 c1 c2 c3 ho cO HB HN
      go_wp2
      go_roundw
      case rel => exact ⟨k + 1, by go_num, by omega, HB1, HN1⟩
      case measure => simp [intOf]; omega
    · obtain rfl : k = 21 := by omega
      clear HN hk hlt
      have i1 := fun W (hW : Below w.heap.size w W) => int_any ⟨#[48, 101, 57, 57]⟩ W (ht.below hW) (by decide)
      have i2 := fun W (hW : Below w.heap.size w W) => int_any ⟨#[45, 57, 50, 50, 51, 51, 55, 50, 48, 51, 54, 56, 53, 52, 55, 55, 53, 56, 48, 56]⟩ W (ht.below hW) (by decide)
      have i3 := fun W (hW : Below w.heap.size w W) => int_any ⟨#[57, 50, 50, 51, 51, 55, 50, 48, 51, 54, 56, 53, 52, 55, 55, 53, 56, 48, 56]⟩ W (ht.below hW) (by decide)
      have i4 := fun W (hW : Below w.heap.size w W) => int_any ⟨#[49, 101, 49, 57]⟩ W (ht.below hW) (by decide)
      have i5 := fun W (hW : Below w.heap.size w W) => int_any ⟨#[49, 46, 53]⟩ W (ht.below hW) (by decide)
      have i6 := fun W (hW : Below w.heap.size w W) => int_any ⟨#[49, 53, 101, 48]⟩ W (ht.below hW) (by decide)
      have cC := fun W => cmp_any ⟨#[120]⟩ ⟨#[49]⟩ W (by decide) (by decide)
      have f1 := fun W (hW : Below w.heap.size w W) => of_any (-50) W (ht.below hW) (by decide) (by decide)
      have f2 := fun W (hW : Below w.heap.size w W) => of_any 0 W (ht.below hW) (by decide) (by decide)
      have f3 := fun W (hW : Below w.heap.size w W) => of_any (-9223372036854775808) W (ht.below hW) (by decide) (by decide)
      have hA := fun W (hW : Below w.heap.size w W) => awake_any W (ht.below hW)
      unfold IntEnd at i1 i2 i3 i4 i5 i6
      unfold CmpEnd at cC
      simp only [nx1, nx5, nx6, nx7, nx8, nx9, nx10, nx11, nx12, nx13] at i1 i2 i3 i4 i5 i6 cC f1 f2 f3
      unfold bl at f1 f2 f3
      generalize (intR [57, 50, 50, 51, 51, 55, 50, 48, 51, 54, 56, 53, 52, 55, 55, 53, 56, 48, 56]).1 = V3 at *
      generalize (intR [49, 101, 49, 57]).1 = V4 at *
      generalize (intR [49, 46, 53]).1 = V5 at *
      generalize (cmpR [120] [49]).1 = V7 at *
      go_wp2_with fail
      refine (i1 _ HB.out).mono ?_
      rintro e w1 ⟨rfl, hb⟩
      have B1 := Lib.hid (gcall HB.out hb)
      clear hb
      go_wp2_with fail
      go_loop [7, 8] (fun v i => ∃ (j : Nat) (S : ByteArray), i = .int .i64 j ∧ j ≤ 200 ∧ v = .string S ∧ S.size ≤ 200 ∧ Hid (S.data.toList = List.replicate j 55)) (fun _ i => 200 - (intOf i).toNat)
      case atStart => exact ⟨0, ⟨#[]⟩, rfl, Nat.zero_le _, rfl, by decide, Lib.hid rfl⟩
      case round =>
        obtain ⟨j, S, rfl, hj, rfl, hS, HS⟩ := hrel
        by_cases hjl : j < 200
        · have hjl' : (j : Int) < 200 := by omega
          have HS1 : Hid ((S ++ ⟨#[55]⟩).data.toList = List.replicate (j + 1) 55) := Lib.hid (by rw [app_list, HS.out, List.replicate_succ'])
          have hS1 : (S ++ ⟨#[55]⟩).size ≤ 200 := by rw [Lib.size_eq, HS1.out, List.length_replicate]; omega
          go_wp2
          go_round
          case rel => exact ⟨j + 1, _, by go_num, by omega, rfl, hS1, HS1⟩
          case measure => simp [intOf]; omega
        · obtain rfl : j = 200 := by omega
          have o1 := fun W (hW : Below w.heap.size w W) => own_any S W (ht.below hW) (by omega)
          have z2 : (S ++ ⟨#[55]⟩).size = 201 := by rw [Lib.size_eq, app_list, HS.out]; simp
          have z3 : (S ++ ⟨#[48]⟩).size = 201 := by rw [Lib.size_eq, app_list, HS.out]; simp
          have o2 := fun W (hW : Below w.heap.size w W) => own_any (S ++ ⟨#[55]⟩) W (ht.below hW) (by omega)
          have o3 := fun W (hW : Below w.heap.size w W) => own_any (S ++ ⟨#[48]⟩) W (ht.below hW) (by omega)
          unfold OwnEnd at o1 o2 o3
          simp only [app_list, HS.out] at o1 o2 o3
          simp only [nx2] at o1
          simp only [nx3] at o2
          simp only [nx4] at o3
          generalize (ownR (List.replicate 200 55)).1 = l1 at *
          generalize (ownR (List.replicate 200 55 ++ [55])).1 = l2 at *
          generalize (ownR (List.replicate 200 55 ++ [48])).1 = l3 at *
          unfold bl at o1 o2 o3
          go_wp2_with fail
          refine (o1 _ B1.out).mono ?_
          rintro e w2 ⟨rfl, hb⟩
          have B2 := Lib.hid (gcall B1.out hb)
          clear hb
          go_wp2_with fail
          refine (o2 _ B2.out).mono ?_
          rintro e w3 ⟨rfl, hb⟩
          have B3 := Lib.hid (gcall B2.out hb)
          clear hb
          go_wp2_with fail
          refine (o3 _ B3.out).mono ?_
          rintro e w4 ⟨rfl, hb⟩
          have B4 := Lib.hid (gcall B3.out hb)
          clear hb
          go_wp2_with fail
          refine (i2 _ B4.out).mono ?_
          rintro e w5 ⟨rfl, hb⟩
          have B5 := Lib.hid (gcall B4.out hb)
          clear hb
          go_wp2_with fail
          refine (i3 _ B5.out).mono ?_
          rintro e w6 ⟨rfl, hb⟩
          have B6 := Lib.hid (gcall B5.out hb)
          clear hb
          go_wp2_with fail
          refine (i4 _ B6.out).mono ?_
          rintro e w7 ⟨rfl, hb⟩
          have B7 := Lib.hid (gcall B6.out hb)
          clear hb
          go_wp2_with fail
          refine (i5 _ B7.out).mono ?_
          rintro e w8 ⟨rfl, hb⟩
          have B8 := Lib.hid (gcall B7.out hb)
          clear hb
          go_wp2_with fail
          refine (i6 _ B8.out).mono ?_
          rintro e w9 ⟨rfl, hb⟩
          have B9 := Lib.hid (gcall B8.out hb)
          clear hb
          go_wp2_with fail
          refine (cC _).mono ?_
          rintro e w10 ⟨rfl, hb⟩
          have B10 := Lib.hid (gcall B9.out hb)
          clear hb
          go_wp2_with fail
          refine (f1 _ B10.out).mono ?_
          rintro e w11 ⟨rfl, hb⟩
          have B11 := Lib.hid (gcall B10.out hb)
          clear hb
          go_wp2_with fail
          refine (f2 _ B11.out).mono ?_
          rintro e w12 ⟨rfl, hb⟩
          have B12 := Lib.hid (gcall B11.out hb)
          clear hb
          go_wp2_with fail
          refine (f3 _ B12.out).mono ?_
          rintro e w13 ⟨rfl, hb⟩
          have B13 := Lib.hid (gcall B12.out hb)
          clear hb
          go_wp2_with fail
          refine (hA _ B13.out).mono ?_
          rintro e w14 ⟨rfl, hb⟩
          have B14 := Lib.hid (gcall B13.out hb)
          clear hb
          go_wp2
          go_ret
          exact ⟨rfl, B14.out⟩
end Go.Proofs.YtgcpgieojckheaaGreatDoor
