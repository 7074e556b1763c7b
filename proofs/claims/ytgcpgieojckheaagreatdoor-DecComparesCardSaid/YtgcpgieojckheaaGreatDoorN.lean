/-
  Own, Cmp, Int, Of.
-/
import Derived.Test.YtgcpgieojckheaaGreatDoorM
namespace Go.Proofs.YtgcpgieojckheaaGreatDoor
open Go.RowKit Go.Shelf

theorem read_cases (l : List UInt8) : (readR l).2 = 0 ∨ (readR l).2 = 4 ∨ (readR l).2 = 40 := by
  unfold readR
  split
  · simp
  · split <;> simp
theorem readV_ok {l : List UInt8} (h : (readR l).2 = 0) : readV (readR l) = numV (readR l).1 := by unfold readV; rw [if_pos h]
theorem readV_bad {l : List UInt8} (h : (readR l).2 ≠ 0) : readV (readR l) = .agg #[.bool false, .string ⟨#[]⟩, .int .i64 0] := by unfold readV; rw [if_neg h]
def OwnEnd (l : List UInt8) (w : World) (e : Ending) (w' : World) : Prop := e = .returned (.tuple #[bl (ownR l).1, .int .i64 (ownR l).2]) ∧ Below w.heap.size w w'
set_option maxHeartbeats 1000000 in
theorem own_any (s : ByteArray) (w : World) (ht : Tab w) (hs : s.size ≤ 1000000000) : Calls Tryz.prog 16 #[.string s] w (OwnEnd s.data.toList w) := by
  have hr := read_any s w hs
  generalize s.data.toList = l at *
  by_cases h0 : (readR l).2 = 0
  · have ho : ownR l = (form (readR l).1, 0) := by unfold ownR; rw [if_pos h0]
    obtain ⟨hc, hl⟩ := canon_read l
    unfold ReadEnd at hr
    rw [readV_ok h0, h0] at hr
    generalize (readR l).1 = n at *
    obtain ⟨T, eT, hV⟩ := numV_eq n
    have ct := fun W (hW : Below w.heap.size w W) => text_any n W (ht.below hW) hc hl
    rw [hV] at hr ct
    have HO := Lib.hid ho
    clear hc hl ho h0 eT hV
    go_enter Tryz.func16, Tryz.ntmps16
    go_wp2_with fail
    refine hr.mono ?_
    rintro e w1 ⟨rfl, hb⟩
    have HB := Lib.hid hb
    clear hb hr
    go_wp2_with fail
    refine (ct _ (galloc HB.out _)).mono ?_
    rintro e w2 ⟨rfl, hb2⟩
    have HB2 := Lib.hid (gcall (galloc HB.out _) hb2)
    clear hb2 ct
    go_wp2
    go_ret2
    exact ⟨by rw [HO.out]; rfl, HB2.out⟩
  · have ho : ownR l = ([], (readR l).2) := by unfold ownR; rw [if_neg h0]
    unfold ReadEnd at hr
    rw [readV_bad h0] at hr
    generalize (readR l).2 = E at *
    have h1 : (E == 0) = false := by simpa using h0
    have h2 : (E != 0) = true := by simpa using h0
    have HO := Lib.hid ho
    clear ho h0
    go_enter Tryz.func16, Tryz.ntmps16
    go_wp2_with fail
    refine hr.mono ?_
    rintro e w1 ⟨rfl, hb⟩
    have HB := Lib.hid hb
    clear hb hr
    go_wp2
    go_ret2
    exact ⟨by rw [HO.out]; rfl, galloc HB.out _⟩
def CmpEnd (l m : List UInt8) (w : World) (e : Ending) (w' : World) : Prop := e = .returned (.tuple #[.int .i64 (cmpR l m).1, .int .i64 (cmpR l m).2]) ∧ Below w.heap.size w w'
set_option maxHeartbeats 1000000 in
theorem cmp_any (s t : ByteArray) (w : World) (hs : s.size ≤ 1000000000) (ht : t.size ≤ 1000000000) : Calls Tryz.prog 22 #[.string s, .string t] w (CmpEnd s.data.toList t.data.toList w) := by
  have hr := fun W => read_any s W hs
  have hq := fun W => read_any t W ht
  generalize s.data.toList = l at *
  generalize t.data.toList = m at *
  by_cases h0 : (readR l).2 = 0
  · by_cases k0 : (readR m).2 = 0
    · have ho : cmpR l m = (cmpN (readR l).1 (readR m).1, 0) := by unfold cmpR; rw [if_neg (by simpa using h0), if_neg (by simpa using k0)]
      obtain ⟨hc, hl⟩ := canon_read l
      obtain ⟨kc, kl⟩ := canon_read m
      unfold ReadEnd at hr hq
      rw [readV_ok h0, h0] at hr
      rw [readV_ok k0, k0] at hq
      generalize (readR l).1 = n at *
      generalize (readR m).1 = p at *
      obtain ⟨TA, eA, hA⟩ := numV_eq n
      obtain ⟨TB, eB, hB⟩ := numV_eq p
      have ct := fun W => compare_any n p W hc kc hl kl
      rw [hA] at hr
      rw [hB] at hq
      rw [hA, hB] at ct
      have HO := Lib.hid ho
      clear hc hl kc kl ho h0 k0 eA hA eB hB
      go_enter Tryz.func22, Tryz.ntmps22
      go_wp2_with fail
      refine (hr _).mono ?_
      rintro e w1 ⟨rfl, hb⟩
      have HB := Lib.hid (galloc hb (.cells #[.bool n.neg, .string TA, .int .i64 n.exp] 68))
      have k := World.alloc_heap_new w1 (.cells #[.bool n.neg, .string TA, .int .i64 n.exp] 68)
      have hz : w1.heap.size < (w1.alloc (.cells #[.bool n.neg, .string TA, .int .i64 n.exp] 68)).heap.size := by simp
      clear hb hr
      go_wp2_with fail
      generalize w1.alloc (.cells #[.bool n.neg, .string TA, .int .i64 n.exp] 68) = W1 at *
      obtain ⟨k0, k1, k2, _⟩ := cells3 k
      refine (hq _).mono ?_
      rintro e w2 ⟨rfl, hb2⟩
      have j0 := (hb2.cell (p := ⟨w1.heap.size, 0, none⟩) hz).trans k0
      have j1 := (hb2.cell (p := ⟨w1.heap.size, 1, none⟩) hz).trans k1
      have j2 := (hb2.cell (p := ⟨w1.heap.size, 2, none⟩) hz).trans k2
      have hz2 : w1.heap.size < w2.heap.size := Nat.lt_of_lt_of_le hz hb2.size
      have HB2 := Lib.hid (gcall HB.out hb2)
      clear hb2 hq k k0 k1 k2
      go_wp2_with fail
      refine (ct _).mono ?_
      rintro e w3 ⟨rfl, hb3⟩
      have HB3 := Lib.hid (gcall (galloc HB2.out _) hb3)
      clear hb3 ct
      go_wp2
      go_ret2
      exact ⟨by rw [HO.out]; rfl, HB3.out⟩
    · have ho : cmpR l m = (0, (readR m).2) := by unfold cmpR; rw [if_neg (by simpa using h0), if_pos k0]
      unfold ReadEnd at hr hq
      rw [readV_ok h0, h0] at hr
      rw [readV_bad k0] at hq
      generalize (readR l).1 = n at *
      generalize (readR m).2 = E at *
      obtain ⟨TA, eA, hA⟩ := numV_eq n
      rw [hA] at hr
      have h1 : (E == 0) = false := by simpa using k0
      have h2 : (E != 0) = true := by simpa using k0
      have HO := Lib.hid ho
      clear ho h0 k0 eA hA
      go_enter Tryz.func22, Tryz.ntmps22
      go_wp2_with fail
      refine (hr _).mono ?_
      rintro e w1 ⟨rfl, hb⟩
      have HB := Lib.hid (galloc hb (.cells #[.bool n.neg, .string TA, .int .i64 n.exp] 68))
      clear hb hr
      go_wp2_with fail
      refine (hq _).mono ?_
      rintro e w2 ⟨rfl, hb2⟩
      have HB2 := Lib.hid (gcall HB.out hb2)
      clear hb2 hq
      go_wp2
      go_ret2
      exact ⟨by rw [HO.out]; rfl, galloc HB2.out _⟩
  · have ho : cmpR l m = (0, (readR l).2) := by unfold cmpR; rw [if_pos h0]
    unfold ReadEnd at hr
    rw [readV_bad h0] at hr
    generalize (readR l).2 = E at *
    have h1 : (E == 0) = false := by simpa using h0
    have h2 : (E != 0) = true := by simpa using h0
    have HO := Lib.hid ho
    clear ho h0 hq
    go_enter Tryz.func22, Tryz.ntmps22
    go_wp2_with fail
    refine (hr _).mono ?_
    rintro e w1 ⟨rfl, hb⟩
    have HB := Lib.hid hb
    clear hb hr
    go_wp2
    go_ret2
    exact ⟨by rw [HO.out]; rfl, galloc HB.out _⟩
set_option maxHeartbeats 1000000 in
theorem of_any (n : Int) (w : World) (ht : Tab w) (h0 : -9223372036854775808 ≤ n) (h1 : n ≤ 9223372036854775807) : Calls Tryz.prog 20 #[.int .i64 n] w fun e w' => e = .returned (bl (ofR n)) ∧ Below w.heap.size w w' := by
  have hf := formatInt_any n w ht h0 h1
  obtain ⟨D, hD⟩ : ∃ s : ByteArray, (⟨(Lib.itoa n).toArray⟩ : ByteArray) = s := ⟨_, rfl⟩
  have eD : D.data.toList = Lib.itoa n := by rw [← hD]
  have hz : D.size ≤ 1000000000 := by
    rw [Lib.size_eq, eD]
    have := decDigits_len n.natAbs 19 (by omega) (by omega)
    have := decDigits_len n.toNat 19 (by omega) (by omega)
    unfold Lib.itoa
    split <;> simp <;> omega
  have ho := fun W (hW : Below w.heap.size w W) => own_any D W (ht.below hW) hz
  unfold bl at hf
  rw [hD] at hf
  unfold OwnEnd at ho
  rw [eD] at ho
  have HE : Hid (bl (ownR (Lib.itoa n)).1 = bl (ofR n)) := Lib.hid rfl
  unfold bl at ho
  generalize (ownR (Lib.itoa n)).1 = A at *
  generalize (ownR (Lib.itoa n)).2 = E at *
  clear hD eD h0 h1 hz
  go_enter Tryz.func20, Tryz.ntmps20
  go_wp2_with fail
  refine hf.mono ?_
  rintro e w1 ⟨rfl, hb⟩
  have HB := Lib.hid hb
  clear hb hf
  go_wp2_with fail
  refine (ho _ HB.out).mono ?_
  rintro e w2 ⟨rfl, hb2⟩
  have HB2 := Lib.hid (gcall HB.out hb2)
  clear hb2 ho
  go_wp2
  go_ret
  exact ⟨by rw [← HE.out]; rfl, HB2.out⟩
end Go.Proofs.YtgcpgieojckheaaGreatDoor
