/-
  value; read.
-/
import Derived.Test.YtgcpgieojckheaaGreatDoorI

namespace Go.Proofs.YtgcpgieojckheaaGreatDoor
open Go.RowKit Go.Shelf

theorem gcall {w X V : World} (h : Below w.heap.size w X) (hb : Below X.heap.size X V) : Below w.heap.size w V := h.trans (hb.mono h.size)
theorem galloc {w W : World} (h : Below w.heap.size w W) (o : Obj) : Below w.heap.size w (W.alloc o) := h.alloc h.size o
theorem gset {w W : World} (h : Below w.heap.size w W) {C : Nat} (hC : w.heap.size ≤ C) (o : Nat) (v : Value) : Below w.heap.size w (W.setCell ⟨C, o, none⟩ v) := h.setCell (p := ⟨C, o, none⟩) hC _
theorem gdraw {w W : World} (h : Below w.heap.size w W) (n : Nat) : Below w.heap.size w (W.drewN n) := ⟨h.os, h.tape, h.output, h.size, h.block⟩
theorem far3 {W : World} {b C o : Nat} {v x y z : Value} (hn : b ≠ C) (h : W.cell? ⟨b, o, none⟩ = some v) : (((W.setCell ⟨C, 0, none⟩ x).setCell ⟨C, 1, none⟩ y).setCell ⟨C, 2, none⟩ z).drew.cell? ⟨b, o, none⟩ = some v := by
  have k : ∀ (V : World) (i : Nat) (u : Value), (V.setCell ⟨C, i, none⟩ u).cell? ⟨b, o, none⟩ = V.cell? ⟨b, o, none⟩ := fun V i u => World.cell?_setCell_other _ _ _ _ (by intro e; injection e with e1 _ _; exact hn e1.symm)
  show (((W.setCell ⟨C, 0, none⟩ x).setCell ⟨C, 1, none⟩ y).setCell ⟨C, 2, none⟩ z).cell? ⟨b, o, none⟩ = some v
  rw [k, k, k]; exact h
theorem set3 {W : World} {C : Nat} {t : TypeId} {a b c x y z : Value} (h : W.heap[C]? = some (.cells #[a, b, c] t (0, 0))) : (((W.setCell ⟨C, 0, none⟩ x).setCell ⟨C, 1, none⟩ y).setCell ⟨C, 2, none⟩ z).drew.heap[C]? = some (.cells #[x, y, z] t (0, 0)) :=
  heap_setCell_same _ _ _ _ _ z (heap_setCell_same _ _ _ _ _ y (heap_setCell_same _ _ _ _ _ x h))
theorem pow_ex (B : Nat) (p : Pt) : ∃ P, PowOk B p P := by
  cases hb : p.below with
  | true => exact ⟨_, pow_below hb (if num p.exp < B then num p.exp else B) (by split <;> omega) (by split <;> omega)⟩
  | false => exact ⟨_, pow_above hb (if num p.exp < B then num p.exp else B) (by split <;> omega) (by split <;> omega)⟩
theorem cells3 {w : World} {b : Nat} {x y z : Value} {t : TypeId} (h : w.heap[b]? = some (.cells #[x, y, z] t (0, 0))) :
    w.cell? ⟨b, 0, none⟩ = some x ∧ w.cell? ⟨b, 1, none⟩ = some y ∧ w.cell? ⟨b, 2, none⟩ = some z ∧ ∀ o, w.frozen? ⟨b, o, none⟩ = false :=
  ⟨by rw [cellH h]; rfl, by rw [cellH h]; rfl, by rw [cellH h]; rfl, fun o => Lib.frozen_of_heap h o⟩
theorem bcell {W w1 : World} (hb : Below W.heap.size W w1) : (∀ b o, b < W.heap.size → w1.cell? ⟨b, o, none⟩ = W.cell? ⟨b, o, none⟩) ∧ (∀ b o, b < W.heap.size → w1.frozen? ⟨b, o, none⟩ = W.frozen? ⟨b, o, none⟩) :=
  ⟨fun b o h => hb.cell (p := ⟨b, o, none⟩) h, fun b o h => hb.frozen (p := ⟨b, o, none⟩) h⟩
theorem PAt.below {w w' : World} {n b : Nat} {p : PS} (h : PAt w b p) (hb : Below n w w') (hn : b < n) : PAt w' b p := (hb.block b hn).trans h
set_option maxHeartbeats 1000000 in
theorem value_any (w : World) (b : Nat) (p : PS) (h : PAt w b p) (hd : ∀ c ∈ p.exp, isDig c = true) (hl : p.exp.length ≤ 1000000000) (hl1 : p.whole.length ≤ 1000000000) (hl2 : p.frac.length ≤ 1000000000) :
    Calls Tryz.prog 78 #[.pointer (some ⟨b, 0, none⟩)] w (ValEnd (ptOf p) w) := by
  obtain ⟨_, x1, x2, x3, _⟩ := h.cells
  obtain ⟨s1, hs1⟩ : ∃ s : ByteArray, (⟨p.whole.toArray⟩ : ByteArray) = s := ⟨_, rfl⟩
  obtain ⟨s2, hs2⟩ : ∃ s : ByteArray, (⟨p.frac.toArray⟩ : ByteArray) = s := ⟨_, rfl⟩
  have e1 : s1.data.toList = p.whole := by rw [← hs1]
  have e2 : s2.data.toList = p.frac := by rw [← hs2]
  have z1 : s1.size ≤ 1000000000 := by rw [Lib.size_eq, e1]; exact hl1
  have z2 : s2.size ≤ 1000000000 := by rw [Lib.size_eq, e2]; exact hl2
  unfold bl at x2 x3
  rw [hs1] at x2
  rw [hs2] at x3
  have e12 : (s1 ++ s2).data.toList = p.whole ++ p.frac := by rw [ByteArray.data_append, Array.toList_append, e1, e2]
  have HP : Hid (PAt w b p) := Lib.hid h
  have hbw := h.lt
  have HC := Lib.hid (fun (W : World) (hb : Below w.heap.size w W) => power_any W b p (h.below hb hbw) hd hl)
  have hL := fun W => Tryz.strings_TrimLeft_one (s1 ++ s2) 48 (by decide) W
  rw [e12, trimL_lib] at hL
  obtain ⟨A, hA⟩ : ∃ s : ByteArray, (⟨(trimL (p.whole ++ p.frac)).toArray⟩ : ByteArray) = s := ⟨_, rfl⟩
  have eA : A.data.toList = trimL (p.whole ++ p.frac) := by rw [← hA]
  have zA : A.size ≤ 2000000000 := by
    rw [Lib.size_eq, eA]
    have := trimL_len (p.whole ++ p.frac)
    rw [List.length_append] at this; omega
  rw [hA] at hL
  have hR := fun W => Tryz.strings_TrimRight_one A 48 (by decide) W (by omega)
  rw [trimR_lib, eA] at hR
  obtain ⟨D, hD⟩ : ∃ s : ByteArray, (⟨(trimR (trimL (p.whole ++ p.frac))).toArray⟩ : ByteArray) = s := ⟨_, rfl⟩
  have eD : D.data.toList = trimR (trimL (p.whole ++ p.frac)) := by rw [← hD]
  have zD : D.size ≤ A.size := by
    rw [Lib.size_eq, eD, Lib.size_eq, eA]
    exact trimR_len _
  rw [hD] at hR
  have hemp := D.data.toList
  by_cases h0 : trimR (trimL (p.whole ++ p.frac)) = []
  · have hz : D.toList.isEmpty = true := mk_empty_yes (by rw [eD, h0])
    have HV : Hid (∀ P, numV (valP (ptOf p) P) = .agg #[.bool false, .string ⟨#[48]⟩, .int .i64 0]) := Lib.hid fun P => by
      have : valP (ptOf p) P = Num.zero := by unfold valP ptOf; simp only; rw [if_pos h0]
      rw [this]; rfl
    clear h hd hl hl1 hl2 hs1 hs2 e1 e2 e12 hA eA hD eD h0
    obtain ⟨P, hP⟩ := pow_ex far (ptOf p)
    have HPP := Lib.hid hP
    clear hP hemp
    go_enter Tryz.func78, Tryz.ntmps78
    go_wp2
    go_quiet ((go_at_call 115; exact Calls.quiet_of_same (hL _)))
    go_wp2_with fail
    refine (hR _).mono ?_
    rintro e w1 ⟨rfl, rfl⟩
    go_wp2
    exact bodyPost_ret (v := .agg #[.bool false, .string ⟨#[48]⟩, .int .i64 0]) (by simp [results, Tryz.results78, go_sem]) rfl ⟨P, HPP.out, by rw [HV.out P], gset (gset (gset (gdraw (galloc (Below.refl _ _) _) _) (Nat.le_refl _) _ _) (Nat.le_refl _) _ _) (Nat.le_refl _) _ _⟩
  · have hne : D.data.toList ≠ [] := by rw [eD]; exact h0
    obtain ⟨c, r, hcr⟩ : ∃ c r, D.data.toList = c :: r := by
      cases hx : D.data.toList with
      | nil => exact absurd hx hne
      | cons c r => exact ⟨c, r, rfl⟩
    have hz : D.toList.isEmpty = false := mk_empty_no hcr
    have HV : Hid (∀ P, numV (valP (ptOf p) P) = .agg #[.bool p.neg, .string D, .int .i64 (P - (s2.size : Int) + ((A.size : Int) - (D.size : Int)))]) := Lib.hid fun P => by
      have l1 := trimR_len (trimL (p.whole ++ p.frac))
      have : valP (ptOf p) P = ⟨p.neg, trimR (trimL (p.whole ++ p.frac)), P - (p.frac.length : Int) + (((trimL (p.whole ++ p.frac)).length - (trimR (trimL (p.whole ++ p.frac))).length : Nat) : Int)⟩ := by
        unfold valP ptOf; simp only; rw [if_neg h0]
      rw [this]
      unfold numV textD
      simp only [if_neg h0]
      unfold bl
      rw [hD, Lib.size_eq, Lib.size_eq, Lib.size_eq, e2, eA, eD]
      rw [Int.ofNat_sub l1]
    clear h hd hl hl1 hl2 hs1 hs2 e1 e2 e12 hA eA hD eD h0 hne hcr hemp
    go_enter Tryz.func78, Tryz.ntmps78
    go_wp2
    go_quiet ((go_at_call 115; exact Calls.quiet_of_same (hL _)))
    have B1 : Below w.heap.size w ((w.alloc (.cells #[.bool false, .string ⟨#[]⟩, .int .i64 0] 68)).drewN nq) := gdraw (galloc (Below.refl _ _) _) _
    have kR : ((w.alloc (.cells #[.bool false, .string ⟨#[]⟩, .int .i64 0] 68)).drewN nq).heap[w.heap.size]? = some (.cells #[.bool false, .string ⟨#[]⟩, .int .i64 0] 68 (0, 0)) := World.alloc_heap_new w _
    generalize (w.alloc (.cells #[.bool false, .string ⟨#[]⟩, .int .i64 0] 68)).drewN nq = W1 at *
    obtain ⟨k0, k1, k2, kf⟩ := cells3 kR
    have KR := Lib.hid kR
    have y1 := (B1.cell (p := ⟨b, 1, none⟩) hbw).trans x1
    have y3 := (B1.cell (p := ⟨b, 3, none⟩) hbw).trans x3
    have HB1 := Lib.hid B1
    have hzW := B1.size
    have hne2 : b ≠ w.heap.size := by omega
    clear B1 kR x1 x2 x3
    go_wp2_with fail
    refine (hR _).mono ?_
    rintro e w1 ⟨rfl, rfl⟩
    go_wp2
    go_region_held3 (fun u => u.cell? ⟨b, 1, none⟩ = some (.bool p.neg) ∧ u.cell? ⟨b, 3, none⟩ = some (.string s2)) (first | exact ⟨y1, y3⟩ | exact ⟨far3 hne2 y1, far3 hne2 y3⟩ | go_keep) (first | (go_at_call 117; (with_reducible refine Calls.mono (HC.out _ HB1.out.drew) ?_); rintro e v1 ⟨P, hP, rfl, rfl⟩; have hr := hP.range; rw [far_eq] at hr; have hw1 : IntKind.i64.wrap (P - ↑s2.size) = P - ↑s2.size := IntWalk.i64_in _ (by omega); have hw2 : IntKind.i64.wrap (P - ↑s2.size + (↑A.size - ↑D.size)) = P - ↑s2.size + (↑A.size - ↑D.size) := IntWalk.i64_in _ (by omega)))
    have hF := set3 (x := .bool p.neg) (y := .string D) (z := .int .i64 (P - ↑s2.size + (↑A.size - ↑D.size))) KR.out
    have hB2 := (gset (gset (gset HB1.out (Nat.le_refl _) 0 (.bool p.neg)) (Nat.le_refl _) 1 (.string D)) (Nat.le_refl _) 2 (.int .i64 (P - ↑s2.size + (↑A.size - ↑D.size)))).drew
    have HP2 := Lib.hid hP
    clear k0 k1 k2 kf y1 y3 hP
    obtain ⟨W2, hW2⟩ : ∃ W, (((w1.setCell ⟨w.heap.size, 0, none⟩ (.bool p.neg)).setCell ⟨w.heap.size, 1, none⟩ (.string D)).setCell ⟨w.heap.size, 2, none⟩ (.int .i64 (P - ↑s2.size + (↑A.size - ↑D.size)))).drew = W := ⟨_, rfl⟩
    rw [hW2] at hF hB2 ⊢
    clear hW2
    obtain ⟨k0, k1, k2, kf⟩ := cells3 hF
    have HB2 := Lib.hid hB2
    clear hF hB2
    go_wp2
    exact bodyPost_ret (v := .agg #[.bool p.neg, .string D, .int .i64 (P - ↑s2.size + (↑A.size - ↑D.size))]) (by simp [results, Tryz.results78, go_sem, k0, k1, k2]) rfl ⟨P, HP2.out, by rw [HV.out P], HB2.out⟩
end Go.Proofs.YtgcpgieojckheaaGreatDoor
