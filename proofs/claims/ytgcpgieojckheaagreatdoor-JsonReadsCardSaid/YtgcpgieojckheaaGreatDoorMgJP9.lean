/-
  attempt over the parser's whole; Parse.
-/
import Derived.Test.YtgcpgieojckheaaGreatDoorMgJP8
namespace Go.Proofs.YtgcpgieojckheaaGreatDoor.Json
open Go.RowKit Go.Shelf

def outG : Got J → J × Int
  | .error e => (.zero, e)
  | .ok (j, _, _) => (j, 0)
theorem parse_out {l : List UInt8} (h : l.length ≤ 262144) : parse l = outG (wholeG l) := by
  unfold parse wholeG
  rw [if_neg (by omega)]
  cases value 64 l 0 with
  | error e => rfl
  | ok p =>
    obtain ⟨j, r, n⟩ := p
    simp only
    split
    · rfl
    · rfl
set_option maxHeartbeats 4000000 in
set_option maxRecDepth 100000 in
theorem attempt_any (W : World) (b : Nat) (s : ByteArray) (hP : PAt W b s 0 0 0) (hT : TabsJ W) (hb8 : 8 ≤ b) (hz : s.size ≤ 300000) :
    Calls Tryz.prog 56 #[.func (.func 57) #[.pointer (some ⟨b, 0, none⟩)] #[]] W fun e w' => ∃ v, e = .returned (.tuple #[v, .int .i64 (outG (wholeG s.data.toList)).2]) ∧ JVal (fun g => W.heap.size ≤ g) w' (outG (wholeG s.data.toList)).1 v ∧ But b W w' := by
  have hblt := hP.lt
  have hmf : ∀ (fn : Fn) (first cap : Array Value) (w : World), (Instr.makeFunc fn first cap).run Tryz.prog w = .ok (.func fn first cap) w := fun _ _ _ _ => rfl
  obtain ⟨W0, hW0⟩ : ∃ W0, (W.alloc (Obj.cells #[Value.int IntKind.u8 0, Value.string { data := #[] }, Value.slice none 0 0, Value.slice none 0 0] 47)).alloc (.cells #[.int .i64 0] 23) = W0 := ⟨_, rfl⟩
  have hb0 : Below W.heap.size W W0 := by rw [← hW0]; exact galloc (galloc (Below.refl _ _) _) _
  have hR0 : W0.heap[W.heap.size]? = some (.cells #[.int .u8 0, .string ⟨#[]⟩, .slice none 0 0, .slice none 0 0] 47 (0, 0)) := by rw [← hW0]; exact ((galloc (Below.refl _ (W.alloc _)) _).block _ (by simp)).trans (World.alloc_heap_new W _)
  have hE0 : W0.heap[W.heap.size + 1]? = some (.cells #[.int .i64 0] 23 (0, 0)) := by
    have := World.alloc_heap_new (W.alloc (Obj.cells #[Value.int IntKind.u8 0, Value.string { data := #[] }, Value.slice none 0 0, Value.slice none 0 0] 47)) (.cells #[.int .i64 0] 23)
    rw [World.size_alloc] at this
    rw [← hW0]; exact this
  have hs0 : W0.heap.size = W.heap.size + 2 := by rw [← hW0]; simp
  have hwa := whole_any W0 b s (hP.below hb0) (hT.but (But.of (b := b) hb0) hb8 (by omega)) hb8 hz
  obtain ⟨G, hG⟩ : ∃ G, wholeG s.data.toList = G := ⟨_, rfl⟩
  rw [hG] at hwa ⊢
  obtain ⟨R, hR⟩ : ∃ R, W.heap.size = R := ⟨_, rfl⟩
  rw [hR] at hR0 hE0 hs0
  have hbR : b ≠ R := by omega
  have hbE : b ≠ R + 1 := by omega
  have hWR : W.heap.size ≤ R := by omega
  have HRe := Lib.hid hR
  have HB0 := Lib.hid (But.of (b := b) hb0)
  have HR := Lib.hid hR0
  have HE := Lib.hid hE0
  have HW0 := Lib.hid hW0
  have HWs := Lib.hid hs0
  clear hP hb0 hR0 hE0 hG hW0 hs0 hR hT
  go_enter_defers Tryz.func56, Tryz.ntmps56
  go_wp2_with fail
  rw [HW0.out, HRe.out]
  refine hwa.mono ?_
  intro e w1 h1
  clear hwa HW0
  cases G with
  | error c =>
    obtain ⟨rfl, hb1⟩ := h1
    have hE1 := (hb1.block (R + 1) (by have := HWs.out; omega) (fun e => hbE e.symm)).trans HE.out
    have hR1 := (hb1.block R (by have := HWs.out; omega) (fun e => hbR e.symm)).trans HR.out
    have HB1 := Lib.hid (HB0.out.trans hb1)
    have e0 : w1.cell? ⟨R + 1, 0, none⟩ = some (.int .i64 0) := by rw [Lib.cell_of_heap hE1]; rfl
    have ez : w1.frozen? ⟨R + 1, 0, none⟩ = false := Lib.frozen_of_heap hE1 0
    obtain ⟨q0, q1, q2, q3, qf⟩ := zeros_at ((Only.set (R + 1) w1 0 (.int .i64 c)).block R (by omega) |>.trans hR1)
    have E0 : (w1.setCell ⟨R + 1, 0, none⟩ (.int .i64 c)).cell? ⟨R + 1, 0, none⟩ = some (.int .i64 c) := by
      have := heap_setCell_same w1 (R + 1) 0 _ _ (.int .i64 c) hE1
      rw [Lib.cell_of_heap this]; rfl
    clear hE1 hR1 hb1
    go_wp2_with fail
    refine leaves_cons (f := 92) (args := #[.pointer (some ⟨R + 1, 0, none⟩)]) (by simp) (by simp [go_sem]) ?_
    refine (catch_bad ⟨R + 1, 0, none⟩ c [] _ e0 ez).mono ?_
    rintro e u' w2 ⟨rfl, rfl, rfl⟩
    have HF : But b W (w1.setCell ⟨R + 1, 0, none⟩ (.int .i64 c)) := HB1.out.fresh (by omega)
    generalize w1.setCell ⟨R + 1, 0, none⟩ (.int .i64 c) = w2 at *
    simp [Leaves, settle, results, Tryz.results56, go_sem, q0, q1, q2, q3, E0]
    first
      | exact ⟨_, ⟨rfl, rfl⟩, JVal.leaf _ _ 0 [], HF⟩
      | exact ⟨_, rfl, JVal.leaf _ _ 0 [], HF⟩
      | trace_state
  | ok p =>
    obtain ⟨j, r, n⟩ := p
    obtain ⟨k1, kd, tx, pc, nc, cc, pd, nd, cd, hk1, hk1s, hr1, rfl, hj1, hP1, hb1⟩ := val_ok h1
    have hE1 := (hb1.block (R + 1) (by have := HWs.out; omega) (fun e => hbE e.symm)).trans HE.out
    have hR1 := (hb1.block R (by have := HWs.out; omega) (fun e => hbR e.symm)).trans HR.out
    obtain ⟨q0, q1, q2, q3, qf⟩ := zeros_at hR1
    have e0 : w1.cell? ⟨R + 1, 0, none⟩ = some (.int .i64 0) := by rw [Lib.cell_of_heap hE1]; rfl
    have ez : w1.frozen? ⟨R + 1, 0, none⟩ = false := Lib.frozen_of_heap hE1 0
    have HVE := Lib.hid (val_end (W := W) (R := R) hk1 hk1s hr1 (JAt.mono (fun i _ h => by have h : W0.heap.size ≤ i := h; rw [HWs.out] at h; show R + 1 ≤ i; omega) _ _ hj1) hP1 (HB0.out.trans hb1) hWR hbR)
    have HE1 := Lib.hid hE1
    have HR1 := Lib.hid hR1
    have HJ1 : Hid (JAt (fun g => R + 2 ≤ g) w1 j [.int .u8 kd, .string tx, .slice pc nc cc, .slice pd nd cd]) := Lib.hid (JAt.mono (fun i _ h => by have h : W0.heap.size ≤ i := h; rw [HWs.out] at h; exact h) _ _ hj1)
    clear hr1 hj1 hP1 hb1 hE1 hR1 h1
    go_wp2_with fail
    obtain ⟨z0, z1, z2, z3⟩ := four_set (p := .int .u8 kd) (q := .string tx) (u := .slice pc nc cc) (v := .slice pd nd cd) HR1.out
    obtain ⟨k, v, _, _, _, hv1, hv2, _, hv3⟩ := HVE.out
    cases hv1
    have hE4 : ((((w1.setCell ⟨R, 0, none⟩ (.int .u8 kd)).setCell ⟨R, 1, none⟩ (.string tx)).setCell ⟨R, 2, none⟩ (.slice pc nc cc)).setCell ⟨R, 3, none⟩ (.slice pd nd cd)).heap[R + 1]? = some (.cells #[.int .i64 0] 23 (0, 0)) :=
      ((Only.set R _ 3 _).block (R + 1) (by omega)).trans (((Only.set R _ 2 _).block (R + 1) (by omega)).trans (((Only.set R _ 1 _).block (R + 1) (by omega)).trans (((Only.set R _ 0 _).block (R + 1) (by omega)).trans HE1.out)))
    have hj2 : JAt (fun g => R + 2 ≤ g) ((((w1.setCell ⟨R, 0, none⟩ (.int .u8 kd)).setCell ⟨R, 1, none⟩ (.string tx)).setCell ⟨R, 2, none⟩ (.slice pc nc cc)).setCell ⟨R, 3, none⟩ (.slice pd nd cd)) j [.int .u8 kd, .string tx, .slice pc nc cc, .slice pd nd cd] := JAt.world ⟨by simp, fun i hi h => by
      have h : R + 2 ≤ i := h
      exact ((Only.set R _ 3 _).block i (by omega)).trans (((Only.set R _ 2 _).block i (by omega)).trans (((Only.set R _ 1 _).block i (by omega)).trans ((Only.set R _ 0 _).block i (by omega))))⟩ j _ HJ1.out
    generalize (((w1.setCell ⟨R, 0, none⟩ (.int .u8 kd)).setCell ⟨R, 1, none⟩ (.string tx)).setCell ⟨R, 2, none⟩ (.slice pc nc cc)).setCell ⟨R, 3, none⟩ (.slice pd nd cd) = w2 at *
    have HO := Only.set (R + 1) w2 0 (.int .i64 0)
    have hR5 : (w2.setCell ⟨R + 1, 0, none⟩ (.int .i64 0)).heap[R]? = w2.heap[R]? := HO.block R (by omega)
    have y0 := (World.cell?_of_block (a := ⟨R, 0, none⟩) hR5).trans z0
    have y1 := (World.cell?_of_block (a := ⟨R, 1, none⟩) hR5).trans z1
    have y2 := (World.cell?_of_block (a := ⟨R, 2, none⟩) hR5).trans z2
    have y3 := (World.cell?_of_block (a := ⟨R, 3, none⟩) hR5).trans z3
    have y4 : (w2.setCell ⟨R + 1, 0, none⟩ (.int .i64 0)).cell? ⟨R + 1, 0, none⟩ = some (.int .i64 0) := by
      have := heap_setCell_same w2 (R + 1) 0 _ _ (.int .i64 0) hE4
      rw [Lib.cell_of_heap this]; rfl
    have HB2 : But b W (w2.setCell ⟨R + 1, 0, none⟩ (.int .i64 0)) := hv3.fresh (by omega)
    have HJ2 : JVal (fun g => W.heap.size ≤ g) (w2.setCell ⟨R + 1, 0, none⟩ (.int .i64 0)) j (.agg #[.int .u8 kd, .string tx, .slice pc nc cc, .slice pd nd cd]) := by
      exact ⟨_, _, _, _, rfl, JAt.mono (S := fun g => R + 2 ≤ g) (fun i _ h => by have h : R + 2 ≤ i := h; show W.heap.size ≤ i; omega) _ _ (JAt.world ⟨Nat.le_of_eq HO.size.symm, fun i _ h => HO.block i (by have h : R + 2 ≤ i := h; omega)⟩ j _ hj2)⟩
    generalize w2.setCell ⟨R + 1, 0, none⟩ (.int .i64 0) = w3 at *
    refine leaves_cons (f := 92) (args := #[.pointer (some ⟨R + 1, 0, none⟩)]) (by simp) (by simp [go_sem]) ?_
    refine (catch_idle ⟨R + 1, 0, none⟩ _).mono ?_
    rintro e u' w4 ⟨rfl, rfl, rfl⟩
    simp [Leaves, settle, results, Tryz.results56, go_sem, y0, y1, y2, y3, y4]
    first
      | exact ⟨_, ⟨rfl, rfl⟩, HJ2, HB2⟩
      | exact ⟨_, rfl, HJ2, HB2⟩
      | trace_state
set_option maxHeartbeats 4000000 in
set_option maxRecDepth 100000 in
/-- Parse: the value, or the error. -/
theorem parse_any (W : World) (s : ByteArray) (hT : TabsJ W) (h8 : 8 ≤ W.heap.size) (hz : s.size ≤ 262144) :
    Calls Tryz.prog 27 #[.string s] W fun e w' => ∃ v, e = .returned (.tuple #[v, .int .i64 (parse s.data.toList).2]) ∧ JVal (fun g => W.heap.size ≤ g) w' (parse s.data.toList).1 v ∧ Below W.heap.size W w' := by
  rw [parse_out (by rw [← Lib.size_eq]; exact hz)]
  obtain ⟨W0, hW0⟩ : ∃ W0, (W.alloc (Obj.cells #[Value.int IntKind.u8 0, Value.string { data := #[] }, Value.slice none 0 0, Value.slice none 0 0] 47)).alloc (.cells #[.string s, .int .i64 0, .int .i64 0, .int .i64 0] 89) = W0 := ⟨_, rfl⟩
  have hb0 : Below W.heap.size W W0 := by rw [← hW0]; exact galloc (galloc (Below.refl _ _) _) _
  have hR0 : W0.heap[W.heap.size]? = some (.cells #[.int .u8 0, .string ⟨#[]⟩, .slice none 0 0, .slice none 0 0] 47 (0, 0)) := by rw [← hW0]; exact ((galloc (Below.refl _ (W.alloc _)) _).block _ (by simp)).trans (World.alloc_heap_new W _)
  have hP0 : PAt W0 (W.heap.size + 1) s 0 0 0 := by
    have := World.alloc_heap_new (W.alloc (Obj.cells #[Value.int IntKind.u8 0, Value.string { data := #[] }, Value.slice none 0 0, Value.slice none 0 0] 47)) (.cells #[.string s, .int .i64 0, .int .i64 0, .int .i64 0] 89)
    rw [World.size_alloc] at this
    rw [← hW0]; exact this
  have hs0 : W0.heap.size = W.heap.size + 2 := by rw [← hW0]; simp
  have hT0 : TabsJ W0 := hT.but (But.of (b := W.heap.size + 1) hb0) (by omega) h8
  have hat := attempt_any W0 (W.heap.size + 1) s hP0 hT0 (by omega) (by omega)
  have hlen : ¬ (262144 : Int) < (s.size : Int) := by omega
  obtain ⟨O, hO⟩ : ∃ O, outG (wholeG s.data.toList) = O := ⟨_, rfl⟩
  rw [hO] at hat ⊢
  obtain ⟨j, k⟩ := O
  obtain ⟨R, hR⟩ : ∃ R, W.heap.size = R := ⟨_, rfl⟩
  rw [hR] at hR0 hat hs0
  have hWR : W.heap.size ≤ R := by omega
  have HRe := Lib.hid hR
  have HB0 := Lib.hid hb0
  have HR := Lib.hid hR0
  have HW0 := Lib.hid hW0
  have HWs := Lib.hid hs0
  clear hP0 hb0 hR0 hO hW0 hs0 hR hT hT0
  have hmf : ∀ (fn : Fn) (first cap : Array Value) (w : World), (Instr.makeFunc fn first cap).run Tryz.prog w = .ok (.func fn first cap) w := fun _ _ _ _ => rfl
  go_enter Tryz.func27, Tryz.ntmps27
  go_wp2_with fail
  rw [HW0.out, HRe.out]
  refine hat.mono ?_
  rintro e w1 ⟨v, rfl, hv, hb1⟩
  clear hat HW0
  obtain ⟨va, vb, vc, vd, rfl, hj⟩ := hv
  obtain ⟨kd, tx, pc, nc, cc, pd, nd, cd, h4, hjn⟩ : ∃ (kd : Nat) (tx : ByteArray) (pc : Option Addr) (nc cc : Nat) (pd : Option Addr) (nd cd : Nat), [va, vb, vc, vd] = [.int .u8 kd, .string tx, .slice pc nc cc, .slice pd nd cd] ∧ JAt (fun g => R + 1 ≤ g) w1 j [.int .u8 kd, .string tx, .slice pc nc cc, .slice pd nd cd] := by
    cases j with
    | mk kk tt ns ls =>
      have hj' := hj
      unfold JAt at hj
      obtain ⟨c, d, vs, he, ⟨_, pc, cc, hc, _⟩, ⟨_, pd, cd, hd, _⟩, _⟩ := hj
      subst hc hd
      rw [he] at hj'
      exact ⟨kk, ⟨tt.toArray⟩, pc, _, cc, pd, _, cd, he, JAt.mono (fun i _ h => by have h : W0.heap.size ≤ i := h; rw [HWs.out] at h; show R + 1 ≤ i; omega) _ _ hj'⟩
  simp only [List.cons.injEq, and_true] at h4
  obtain ⟨rfl, rfl, rfl, rfl⟩ := h4
  have hR1 := (hb1.block R (by have := HWs.out; omega) (by omega)).trans HR.out
  obtain ⟨q0, q1, q2, q3, qf⟩ := zeros_at hR1
  have HB1 : Hid (Below W.heap.size W w1) := Lib.hid (HB0.out.trans (hb1.below (by omega) (by have := HWs.out; omega)))
  have HR1 := Lib.hid hR1
  have HJ1 := Lib.hid hjn
  clear hb1 hR1 hj hjn
  go_wp2_with fail
  obtain ⟨z0, z1, z2, z3⟩ := four_set (p := .int .u8 kd) (q := .string tx) (u := .slice pc nc cc) (v := .slice pd nd cd) HR1.out
  have hj2 : JAt (fun g => R + 1 ≤ g) ((((w1.setCell ⟨R, 0, none⟩ (.int .u8 kd)).setCell ⟨R, 1, none⟩ (.string tx)).setCell ⟨R, 2, none⟩ (.slice pc nc cc)).setCell ⟨R, 3, none⟩ (.slice pd nd cd)) j [.int .u8 kd, .string tx, .slice pc nc cc, .slice pd nd cd] := JAt.world ⟨by simp, fun i hi h => by
    have h : R + 1 ≤ i := h
    exact ((Only.set R _ 3 _).block i (by omega)).trans (((Only.set R _ 2 _).block i (by omega)).trans (((Only.set R _ 1 _).block i (by omega)).trans ((Only.set R _ 0 _).block i (by omega))))⟩ j _ HJ1.out
  have hB2 : Below W.heap.size W ((((w1.setCell ⟨R, 0, none⟩ (.int .u8 kd)).setCell ⟨R, 1, none⟩ (.string tx)).setCell ⟨R, 2, none⟩ (.slice pc nc cc)).setCell ⟨R, 3, none⟩ (.slice pd nd cd)) :=
    (((HB1.out.setCell (p := ⟨R, 0, none⟩) hWR _).setCell (p := ⟨R, 1, none⟩) hWR _).setCell (p := ⟨R, 2, none⟩) hWR _).setCell (p := ⟨R, 3, none⟩) hWR _
  refine bodyPost_ret (v := .tuple #[.agg #[.int .u8 kd, .string tx, .slice pc nc cc, .slice pd nd cd], .int .i64 k]) (by simp [results, Tryz.results27, go_sem, z0, z1, z2, z3]) rfl ?_
  exact ⟨_, rfl, ⟨_, _, _, _, rfl, JAt.mono (S := fun g => R + 1 ≤ g) (fun i _ h => by have h : R + 1 ≤ i := h; show W.heap.size ≤ i; omega) _ _ hj2⟩, hB2⟩
end Go.Proofs.YtgcpgieojckheaaGreatDoor.Json
