/-
  The parser's whole; attempt and what it defers; Parse.
  attempt over the parser's whole; Parse.
-/
import Derived.Test.YtgcpgieojckheaaGreatDoorMgJP7
import Derived.Defers
import Derived.Recover
namespace Go.Proofs.YtgcpgieojckheaaGreatDoor.Json
open Go.RowKit Go.Shelf

set_option maxHeartbeats 1000000 in
set_option maxRecDepth 100000 in
theorem catch_bad (p : Addr) (k : Int) (older : List PanicEntry) (w : World) (hc : w.cell? p = some (.int .i64 0)) (hz : w.frozen? p = false) :
    CallsD Tryz.prog 92 #[.pointer (some p)] (.panicking ({ v := .iface 23 (.int .i64 k), recovered := false } :: older)) w fun e u' w' =>
      e = .returned (.tuple #[]) ∧ u' = .panicking ({ v := .iface 23 (.int .i64 k), recovered := true } :: older) ∧ w' = w.setCell p (.int .i64 k) := by
  have hta : ∀ w : World, (Instr.typeAssert (Value.iface 23 (Value.int IntKind.i64 k)) 20 23 true).run Tryz.prog w = .ok (.tuple #[.int .i64 k, .bool true]) w := fun w => by kernel_rfl
  refine callsD_of_wpS Tryz.func92 rfl fun c₀ cs hu => ?_
  apply wpS_seq
  apply wpS_region
  simp [wpOpsS, go_sem, recoverD, hu, Tryz.ntmps92, Exit.thenS]
  refine wpS_of_wp ?_
  go_wp2
  simp [bodyPostS, results, Tryz.results92]
set_option maxHeartbeats 1000000 in
set_option maxRecDepth 100000 in
theorem catch_idle (p : Addr) (w : World) :
    CallsD Tryz.prog 92 #[.pointer (some p)] .returning w fun e u' w' => e = .returned (.tuple #[]) ∧ u' = .returning ∧ w' = w := by
  refine callsD_of_wpS Tryz.func92 rfl fun c₀ cs hu => ?_
  apply wpS_seq
  apply wpS_region
  simp [wpOpsS, go_sem, recoverD, hu, Tryz.ntmps92, Exit.thenS]
  refine wpS_of_wp ?_
  go_wp2
  cases c₀
  simp_all [bodyPostS, results, Tryz.results92]
/-- A whole text's value. -/
def wholeG (l : List UInt8) : Got J :=
  match value 64 l 0 with
  | .error e => .error e
  | .ok (j, r, n) => if skip r = [] then .ok (j, [], n) else .error 4
set_option maxHeartbeats 4000000 in
set_option maxRecDepth 100000 in
theorem whole_any (W : World) (b : Nat) (s : ByteArray) (hP : PAt W b s 0 0 0) (hT : TabsJ W) (hb8 : 8 ≤ b) (hz : s.size ≤ 300000) :
    Calls Tryz.prog 57 #[.pointer (some ⟨b, 0, none⟩)] W (ValEnd W b s 0 0 (wholeG s.data.toList)) := by
  have hblt := hP.lt
  obtain ⟨G, hG⟩ : ∃ G, wholeG s.data.toList = G := ⟨_, rfl⟩
  rw [hG]
  obtain ⟨W0, hW0⟩ : ∃ W0, W.alloc (Obj.cells #[Value.int IntKind.u8 0, Value.string { data := #[] }, Value.slice none 0 0, Value.slice none 0 0] 47) = W0 := ⟨_, rfl⟩
  have hb0 : Below W.heap.size W W0 := by rw [← hW0]; exact galloc (Below.refl _ _) _
  have hR0 : W0.heap[W.heap.size]? = some (.cells #[.int .u8 0, .string ⟨#[]⟩, .slice none 0 0, .slice none 0 0] 47 (0, 0)) := by rw [← hW0]; exact World.alloc_heap_new W _
  have hs0 : W0.heap.size = W.heap.size + 1 := by rw [← hW0]; simp
  have hva := value_any 64 W0 b s 0 0 0 (hP.below hb0) (hT.but (But.of (b := b) hb0) hb8 (by omega)) hb8 (Nat.zero_le _) hz rfl
  rw [List.drop_zero] at hva
  obtain ⟨R, hR⟩ : ∃ R, W.heap.size = R := ⟨_, rfl⟩
  rw [hR] at hR0 hs0
  have hbR : b ≠ R := by omega
  have hWR : W.heap.size ≤ R := by omega
  have HRe := Lib.hid hR
  have HB0 := Lib.hid (But.of (b := b) hb0)
  have HR := Lib.hid hR0
  have HG := Lib.hid hG
  have HW0 := Lib.hid hW0
  have HWs := Lib.hid hs0
  clear hP hb0 hR0 hG hW0 hs0 hR hT
  go_enter Tryz.func57, Tryz.ntmps57
  go_wp2_with fail
  rw [HW0.out, HRe.out]
  refine hva.mono ?_
  intro e w1 h1
  clear hva HW0
  cases hv : value 64 s.data.toList 0 with
  | error c =>
    rw [hv] at h1
    obtain ⟨rfl, hb1⟩ := h1
    have HB1 := Lib.hid (HB0.out.trans hb1)
    have HG2 : Hid (G = .error c) := Lib.hid (by rw [← HG.out]; unfold wholeG; rw [hv])
    clear hb1 hv HG
    go_wp2_with fail
    rw [HG2.out]
    exact ⟨rfl, rfl, HB1.out⟩
  | ok p =>
    obtain ⟨j, r, n⟩ := p
    rw [hv] at h1
    obtain ⟨k1, kd, tx, pc, nc, cc, pd, nd, cd, hk1, hk1s, hr1, rfl, hj1, hP1, hb1⟩ := val_ok h1
    have HG2 : Hid (G = if skip (s.data.toList.drop k1) = [] then .ok (j, [], n) else .error 4) := Lib.hid (by rw [← HG.out]; unfold wholeG; rw [hv, ← hr1])
    obtain ⟨w2, hw2⟩ : ∃ w2, w1.alloc (.cells #[.int .u8 kd, .string tx, .slice pc nc cc, .slice pd nd cd] 47) = w2 := ⟨_, rfl⟩
    have hb2 : Below w1.heap.size w1 w2 := by rw [← hw2]; exact galloc (Below.refl _ _) _
    have hV2 : w2.heap[w1.heap.size]? = some (.cells #[.int .u8 kd, .string tx, .slice pc nc cc, .slice pd nd cd] 47 (0, 0)) := by rw [← hw2]; exact World.alloc_heap_new w1 _
    obtain ⟨V, hVe⟩ : ∃ V, w1.heap.size = V := ⟨_, rfl⟩
    rw [hVe] at hV2
    have HVe := Lib.hid hVe
    have HW2 := Lib.hid hw2
    have HP2 := Lib.hid (hP1.below hb2)
    have HB12 := Lib.hid (hb1.trans (But.of (b := b) hb2))
    have HV2 := Lib.hid hV2
    have HJ2 : Hid (JAt (fun g => W0.heap.size ≤ g) w2 j [.int .u8 kd, .string tx, .slice pc nc cc, .slice pd nd cd]) := Lib.hid (JAt.world ⟨hb2.size, fun i hi _ => hb2.block i hi⟩ j _ hj1)
    have hRV : R < V := by have := hb1.size; have := HWs.out; omega
    clear hv HG hr1 hj1 hP1 hb1 hw2 hb2 hV2 hVe h1
    go_wp2_with fail
    rw [HW2.out, HVe.out]
    refine (blanks_any w2 b s k1 0 n HP2.out hk1s (by omega)).mono ?_
    rintro e w3 ⟨k3, hk3, hk3s, rfl, hP3, hb3, hd3⟩
    have hVlt : V < w2.heap.size := (Array.getElem?_eq_some_iff.1 HV2.out).1
    have hV3 := (hb3.block V hVlt (by omega)).trans HV2.out
    have hR3 := ((HB12.out.trans hb3).block R (by rw [HWs.out]; exact Nat.lt_succ_self _) (fun e => hbR e.symm)).trans HR.out
    obtain ⟨p0, p1, p2, p3, pf⟩ := hP3.cells
    have HP3 := Lib.hid hP3
    have HB3 := Lib.hid (HB12.out.trans hb3)
    have HD3 := Lib.hid hd3
    have HJ3 : Hid (JAt (fun g => R + 1 ≤ g) w3 j [.int .u8 kd, .string tx, .slice pc nc cc, .slice pd nd cd]) := Lib.hid (JAt.mono (fun i _ h => by have h : W0.heap.size ≤ i := h; rw [HWs.out] at h; exact h) j _ (JAt.world ⟨hb3.size, fun i hi h => hb3.block i hi (by have h : W0.heap.size ≤ i := h; rw [HWs.out] at h; omega)⟩ j _ HJ2.out))
    have HV3 := Lib.hid hV3
    have HR3 := Lib.hid hR3
    clear hP3 hb3 hd3 hV3 hR3 HW2 HVe
    rcases Nat.lt_or_ge k3 s.size with hlt | hge
    · have hlt' : (k3 : Int) < (s.size : Int) := by omega
      have HG3 : Hid (G = .error 4) := Lib.hid (by
        rw [HG2.out, HD3.out, if_neg]
        intro e
        have := congrArg List.length e
        rw [List.length_drop, ← Lib.size_eq] at this
        simp at this; omega)
      clear HG2 HD3
      go_wp2_with fail
      go_quiet (fail)
      go_wp2
      rw [HG3.out]
      exact ⟨rfl, rfl, (HB0.out.trans HB3.out).trans (But.of (drewN_below _ _))⟩
    · obtain rfl : k3 = s.size := by omega
      have hlt' : ¬ (s.size : Int) < (s.size : Int) := by omega
      have hdn : s.data.toList.drop s.size = [] := List.drop_of_length_le (by rw [← Lib.size_eq]; exact Nat.le_refl _)
      have HG3 : Hid (G = .ok (j, [], n)) := Lib.hid (by rw [HG2.out, HD3.out, hdn, if_pos rfl])
      have HDN := Lib.hid hdn
      clear HG2 HD3 hdn
      go_wp2_with fail
      go_quiet (fail)
      have hdr := drewN_below w3 nq
      have hV4 := (hdr.block V (Array.getElem?_eq_some_iff.1 HV3.out).1).trans HV3.out
      have hR4 := (hdr.block R (Array.getElem?_eq_some_iff.1 HR3.out).1).trans HR3.out
      obtain ⟨v0, v1, v2, v3⟩ : (w3.drewN nq).cell? ⟨V, 0, none⟩ = some (.int .u8 kd) ∧ (w3.drewN nq).cell? ⟨V, 1, none⟩ = some (.string tx) ∧ (w3.drewN nq).cell? ⟨V, 2, none⟩ = some (.slice pc nc cc) ∧ (w3.drewN nq).cell? ⟨V, 3, none⟩ = some (.slice pd nd cd) :=
        ⟨by rw [cellH hV4]; rfl, by rw [cellH hV4]; rfl, by rw [cellH hV4]; rfl, by rw [cellH hV4]; rfl⟩
      obtain ⟨q0, q1, q2, q3, qf⟩ := zeros_at hR4
      have HVE := Lib.hid (val_end (W := W) (R := R) (Nat.zero_le _) (Nat.le_refl s.size) HDN.out.symm (JAt.world ⟨hdr.size, fun i hi _ => hdr.block i hi⟩ j _ HJ3.out) (HP3.out.below hdr) ((HB0.out.trans HB3.out).trans (But.of hdr)) hWR hbR)
      have HR4 := Lib.hid hR4
      clear hV4 hR4 p0 p1 p2 p3 pf hdr
      go_wp2
      obtain ⟨z0, z1, z2, z3⟩ := four_set (p := .int .u8 kd) (q := .string tx) (u := .slice pc nc cc) (v := .slice pd nd cd) HR4.out
      rw [HG3.out]
      exact bodyPost_ret (v := .agg #[.int .u8 kd, .string tx, .slice pc nc cc, .slice pd nd cd]) (by simp [results, Tryz.results57, go_sem, z0, z1, z2, z3]) rfl HVE.out
end Go.Proofs.YtgcpgieojckheaaGreatDoor.Json
namespace Go.Proofs.YtgcpgieojckheaaGreatDoor.Json
open Go.RowKit Go.Shelf

def outG : Got J → J × Int
  | .error e => (.zero, e)
  | .ok (j, _, _) => (j, 0)
theorem parse_out {l : List UInt8} (h : l.length ≤ 262144) : parse l = outG (wholeG l) := by
  unfold parse wholeG
  rw [if_neg (by omega)]
  cases value 64 l 0 with
  | error e => rfl
  | ok p =>
    obtain ⟨j, r, n⟩ := p
    simp only
    split
    · rfl
    · rfl
set_option maxHeartbeats 4000000 in
set_option maxRecDepth 100000 in
theorem attempt_any (W : World) (b : Nat) (s : ByteArray) (hP : PAt W b s 0 0 0) (hT : TabsJ W) (hb8 : 8 ≤ b) (hz : s.size ≤ 300000) :
    Calls Tryz.prog 56 #[.func (.func 57) #[.pointer (some ⟨b, 0, none⟩)] #[]] W fun e w' => ∃ v, e = .returned (.tuple #[v, .int .i64 (outG (wholeG s.data.toList)).2]) ∧ JVal (fun g => W.heap.size ≤ g) w' (outG (wholeG s.data.toList)).1 v ∧ But b W w' := by
  have hblt := hP.lt
  have hmf : ∀ (fn : Fn) (first cap : Array Value) (w : World), (Instr.makeFunc fn first cap).run Tryz.prog w = .ok (.func fn first cap) w := fun _ _ _ _ => rfl
  obtain ⟨W0, hW0⟩ : ∃ W0, (W.alloc (Obj.cells #[Value.int IntKind.u8 0, Value.string { data := #[] }, Value.slice none 0 0, Value.slice none 0 0] 47)).alloc (.cells #[.int .i64 0] 23) = W0 := ⟨_, rfl⟩
  have hb0 : Below W.heap.size W W0 := by rw [← hW0]; exact galloc (galloc (Below.refl _ _) _) _
  have hR0 : W0.heap[W.heap.size]? = some (.cells #[.int .u8 0, .string ⟨#[]⟩, .slice none 0 0, .slice none 0 0] 47 (0, 0)) := by rw [← hW0]; exact ((galloc (Below.refl _ (W.alloc _)) _).block _ (by simp)).trans (World.alloc_heap_new W _)
  have hE0 : W0.heap[W.heap.size + 1]? = some (.cells #[.int .i64 0] 23 (0, 0)) := by
    have := World.alloc_heap_new (W.alloc (Obj.cells #[Value.int IntKind.u8 0, Value.string { data := #[] }, Value.slice none 0 0, Value.slice none 0 0] 47)) (.cells #[.int .i64 0] 23)
    rw [World.size_alloc] at this
    rw [← hW0]; exact this
  have hs0 : W0.heap.size = W.heap.size + 2 := by rw [← hW0]; simp
  have hwa := whole_any W0 b s (hP.below hb0) (hT.but (But.of (b := b) hb0) hb8 (by omega)) hb8 hz
  obtain ⟨G, hG⟩ : ∃ G, wholeG s.data.toList = G := ⟨_, rfl⟩
  rw [hG] at hwa ⊢
  obtain ⟨R, hR⟩ : ∃ R, W.heap.size = R := ⟨_, rfl⟩
  rw [hR] at hR0 hE0 hs0
  have hbR : b ≠ R := by omega
  have hbE : b ≠ R + 1 := by omega
  have hWR : W.heap.size ≤ R := by omega
  have HRe := Lib.hid hR
  have HB0 := Lib.hid (But.of (b := b) hb0)
  have HR := Lib.hid hR0
  have HE := Lib.hid hE0
  have HW0 := Lib.hid hW0
  have HWs := Lib.hid hs0
  clear hP hb0 hR0 hE0 hG hW0 hs0 hR hT
  go_enter_defers Tryz.func56, Tryz.ntmps56
  go_wp2_with fail
  rw [HW0.out, HRe.out]
  refine hwa.mono ?_
  intro e w1 h1
  clear hwa HW0
  cases G with
  | error c =>
    obtain ⟨rfl, hb1⟩ := h1
    have hE1 := (hb1.block (R + 1) (by have := HWs.out; omega) (fun e => hbE e.symm)).trans HE.out
    have hR1 := (hb1.block R (by have := HWs.out; omega) (fun e => hbR e.symm)).trans HR.out
    have HB1 := Lib.hid (HB0.out.trans hb1)
    have e0 : w1.cell? ⟨R + 1, 0, none⟩ = some (.int .i64 0) := by rw [Lib.cell_of_heap hE1]; rfl
    have ez : w1.frozen? ⟨R + 1, 0, none⟩ = false := Lib.frozen_of_heap hE1 0
    obtain ⟨q0, q1, q2, q3, qf⟩ := zeros_at ((Only.set (R + 1) w1 0 (.int .i64 c)).block R (by omega) |>.trans hR1)
    have E0 : (w1.setCell ⟨R + 1, 0, none⟩ (.int .i64 c)).cell? ⟨R + 1, 0, none⟩ = some (.int .i64 c) := by
      have := heap_setCell_same w1 (R + 1) 0 _ _ (.int .i64 c) hE1
      rw [Lib.cell_of_heap this]; rfl
    clear hE1 hR1 hb1
    go_wp2_with fail
    refine leaves_cons (f := 92) (args := #[.pointer (some ⟨R + 1, 0, none⟩)]) (by simp) (by simp [go_sem]) ?_
    refine (catch_bad ⟨R + 1, 0, none⟩ c [] _ e0 ez).mono ?_
    rintro e u' w2 ⟨rfl, rfl, rfl⟩
    have HF : But b W (w1.setCell ⟨R + 1, 0, none⟩ (.int .i64 c)) := HB1.out.fresh (by omega)
    generalize w1.setCell ⟨R + 1, 0, none⟩ (.int .i64 c) = w2 at *
    simp [Leaves, settle, results, Tryz.results56, go_sem, q0, q1, q2, q3, E0]
    first
      | exact ⟨_, ⟨rfl, rfl⟩, JVal.leaf _ _ 0 [], HF⟩
      | exact ⟨_, rfl, JVal.leaf _ _ 0 [], HF⟩
      | trace_state
  | ok p =>
    obtain ⟨j, r, n⟩ := p
    obtain ⟨k1, kd, tx, pc, nc, cc, pd, nd, cd, hk1, hk1s, hr1, rfl, hj1, hP1, hb1⟩ := val_ok h1
    have hE1 := (hb1.block (R + 1) (by have := HWs.out; omega) (fun e => hbE e.symm)).trans HE.out
    have hR1 := (hb1.block R (by have := HWs.out; omega) (fun e => hbR e.symm)).trans HR.out
    obtain ⟨q0, q1, q2, q3, qf⟩ := zeros_at hR1
    have e0 : w1.cell? ⟨R + 1, 0, none⟩ = some (.int .i64 0) := by rw [Lib.cell_of_heap hE1]; rfl
    have ez : w1.frozen? ⟨R + 1, 0, none⟩ = false := Lib.frozen_of_heap hE1 0
    have HVE := Lib.hid (val_end (W := W) (R := R) hk1 hk1s hr1 (JAt.mono (fun i _ h => by have h : W0.heap.size ≤ i := h; rw [HWs.out] at h; show R + 1 ≤ i; omega) _ _ hj1) hP1 (HB0.out.trans hb1) hWR hbR)
    have HE1 := Lib.hid hE1
    have HR1 := Lib.hid hR1
    have HJ1 : Hid (JAt (fun g => R + 2 ≤ g) w1 j [.int .u8 kd, .string tx, .slice pc nc cc, .slice pd nd cd]) := Lib.hid (JAt.mono (fun i _ h => by have h : W0.heap.size ≤ i := h; rw [HWs.out] at h; exact h) _ _ hj1)
    clear hr1 hj1 hP1 hb1 hE1 hR1 h1
    go_wp2_with fail
    obtain ⟨z0, z1, z2, z3⟩ := four_set (p := .int .u8 kd) (q := .string tx) (u := .slice pc nc cc) (v := .slice pd nd cd) HR1.out
    obtain ⟨k, v, _, _, _, hv1, hv2, _, hv3⟩ := HVE.out
    cases hv1
    have hE4 : ((((w1.setCell ⟨R, 0, none⟩ (.int .u8 kd)).setCell ⟨R, 1, none⟩ (.string tx)).setCell ⟨R, 2, none⟩ (.slice pc nc cc)).setCell ⟨R, 3, none⟩ (.slice pd nd cd)).heap[R + 1]? = some (.cells #[.int .i64 0] 23 (0, 0)) :=
      ((Only.set R _ 3 _).block (R + 1) (by omega)).trans (((Only.set R _ 2 _).block (R + 1) (by omega)).trans (((Only.set R _ 1 _).block (R + 1) (by omega)).trans (((Only.set R _ 0 _).block (R + 1) (by omega)).trans HE1.out)))
    have hj2 : JAt (fun g => R + 2 ≤ g) ((((w1.setCell ⟨R, 0, none⟩ (.int .u8 kd)).setCell ⟨R, 1, none⟩ (.string tx)).setCell ⟨R, 2, none⟩ (.slice pc nc cc)).setCell ⟨R, 3, none⟩ (.slice pd nd cd)) j [.int .u8 kd, .string tx, .slice pc nc cc, .slice pd nd cd] := JAt.world ⟨by simp, fun i hi h => by
      have h : R + 2 ≤ i := h
      exact ((Only.set R _ 3 _).block i (by omega)).trans (((Only.set R _ 2 _).block i (by omega)).trans (((Only.set R _ 1 _).block i (by omega)).trans ((Only.set R _ 0 _).block i (by omega))))⟩ j _ HJ1.out
    generalize (((w1.setCell ⟨R, 0, none⟩ (.int .u8 kd)).setCell ⟨R, 1, none⟩ (.string tx)).setCell ⟨R, 2, none⟩ (.slice pc nc cc)).setCell ⟨R, 3, none⟩ (.slice pd nd cd) = w2 at *
    have HO := Only.set (R + 1) w2 0 (.int .i64 0)
    have hR5 : (w2.setCell ⟨R + 1, 0, none⟩ (.int .i64 0)).heap[R]? = w2.heap[R]? := HO.block R (by omega)
    have y0 := (World.cell?_of_block (a := ⟨R, 0, none⟩) hR5).trans z0
    have y1 := (World.cell?_of_block (a := ⟨R, 1, none⟩) hR5).trans z1
    have y2 := (World.cell?_of_block (a := ⟨R, 2, none⟩) hR5).trans z2
    have y3 := (World.cell?_of_block (a := ⟨R, 3, none⟩) hR5).trans z3
    have y4 : (w2.setCell ⟨R + 1, 0, none⟩ (.int .i64 0)).cell? ⟨R + 1, 0, none⟩ = some (.int .i64 0) := by
      have := heap_setCell_same w2 (R + 1) 0 _ _ (.int .i64 0) hE4
      rw [Lib.cell_of_heap this]; rfl
    have HB2 : But b W (w2.setCell ⟨R + 1, 0, none⟩ (.int .i64 0)) := hv3.fresh (by omega)
    have HJ2 : JVal (fun g => W.heap.size ≤ g) (w2.setCell ⟨R + 1, 0, none⟩ (.int .i64 0)) j (.agg #[.int .u8 kd, .string tx, .slice pc nc cc, .slice pd nd cd]) := by
      exact ⟨_, _, _, _, rfl, JAt.mono (S := fun g => R + 2 ≤ g) (fun i _ h => by have h : R + 2 ≤ i := h; show W.heap.size ≤ i; omega) _ _ (JAt.world ⟨Nat.le_of_eq HO.size.symm, fun i _ h => HO.block i (by have h : R + 2 ≤ i := h; omega)⟩ j _ hj2)⟩
    generalize w2.setCell ⟨R + 1, 0, none⟩ (.int .i64 0) = w3 at *
    refine leaves_cons (f := 92) (args := #[.pointer (some ⟨R + 1, 0, none⟩)]) (by simp) (by simp [go_sem]) ?_
    refine (catch_idle ⟨R + 1, 0, none⟩ _).mono ?_
    rintro e u' w4 ⟨rfl, rfl, rfl⟩
    simp [Leaves, settle, results, Tryz.results56, go_sem, y0, y1, y2, y3, y4]
    first
      | exact ⟨_, ⟨rfl, rfl⟩, HJ2, HB2⟩
      | exact ⟨_, rfl, HJ2, HB2⟩
      | trace_state
set_option maxHeartbeats 4000000 in
set_option maxRecDepth 100000 in
/-- Parse: the value, or the error. -/
theorem parse_any (W : World) (s : ByteArray) (hT : TabsJ W) (h8 : 8 ≤ W.heap.size) (hz : s.size ≤ 262144) :
    Calls Tryz.prog 27 #[.string s] W fun e w' => ∃ v, e = .returned (.tuple #[v, .int .i64 (parse s.data.toList).2]) ∧ JVal (fun g => W.heap.size ≤ g) w' (parse s.data.toList).1 v ∧ Below W.heap.size W w' := by
  rw [parse_out (by rw [← Lib.size_eq]; exact hz)]
  obtain ⟨W0, hW0⟩ : ∃ W0, (W.alloc (Obj.cells #[Value.int IntKind.u8 0, Value.string { data := #[] }, Value.slice none 0 0, Value.slice none 0 0] 47)).alloc (.cells #[.string s, .int .i64 0, .int .i64 0, .int .i64 0] 89) = W0 := ⟨_, rfl⟩
  have hb0 : Below W.heap.size W W0 := by rw [← hW0]; exact galloc (galloc (Below.refl _ _) _) _
  have hR0 : W0.heap[W.heap.size]? = some (.cells #[.int .u8 0, .string ⟨#[]⟩, .slice none 0 0, .slice none 0 0] 47 (0, 0)) := by rw [← hW0]; exact ((galloc (Below.refl _ (W.alloc _)) _).block _ (by simp)).trans (World.alloc_heap_new W _)
  have hP0 : PAt W0 (W.heap.size + 1) s 0 0 0 := by
    have := World.alloc_heap_new (W.alloc (Obj.cells #[Value.int IntKind.u8 0, Value.string { data := #[] }, Value.slice none 0 0, Value.slice none 0 0] 47)) (.cells #[.string s, .int .i64 0, .int .i64 0, .int .i64 0] 89)
    rw [World.size_alloc] at this
    rw [← hW0]; exact this
  have hs0 : W0.heap.size = W.heap.size + 2 := by rw [← hW0]; simp
  have hT0 : TabsJ W0 := hT.but (But.of (b := W.heap.size + 1) hb0) (by omega) h8
  have hat := attempt_any W0 (W.heap.size + 1) s hP0 hT0 (by omega) (by omega)
  have hlen : ¬ (262144 : Int) < (s.size : Int) := by omega
  obtain ⟨O, hO⟩ : ∃ O, outG (wholeG s.data.toList) = O := ⟨_, rfl⟩
  rw [hO] at hat ⊢
  obtain ⟨j, k⟩ := O
  obtain ⟨R, hR⟩ : ∃ R, W.heap.size = R := ⟨_, rfl⟩
  rw [hR] at hR0 hat hs0
  have hWR : W.heap.size ≤ R := by omega
  have HRe := Lib.hid hR
  have HB0 := Lib.hid hb0
  have HR := Lib.hid hR0
  have HW0 := Lib.hid hW0
  have HWs := Lib.hid hs0
  clear hP0 hb0 hR0 hO hW0 hs0 hR hT hT0
  have hmf : ∀ (fn : Fn) (first cap : Array Value) (w : World), (Instr.makeFunc fn first cap).run Tryz.prog w = .ok (.func fn first cap) w := fun _ _ _ _ => rfl
  go_enter Tryz.func27, Tryz.ntmps27
  go_wp2_with fail
  rw [HW0.out, HRe.out]
  refine hat.mono ?_
  rintro e w1 ⟨v, rfl, hv, hb1⟩
  clear hat HW0
  obtain ⟨va, vb, vc, vd, rfl, hj⟩ := hv
  obtain ⟨kd, tx, pc, nc, cc, pd, nd, cd, h4, hjn⟩ : ∃ (kd : Nat) (tx : ByteArray) (pc : Option Addr) (nc cc : Nat) (pd : Option Addr) (nd cd : Nat), [va, vb, vc, vd] = [.int .u8 kd, .string tx, .slice pc nc cc, .slice pd nd cd] ∧ JAt (fun g => R + 1 ≤ g) w1 j [.int .u8 kd, .string tx, .slice pc nc cc, .slice pd nd cd] := by
    cases j with
    | mk kk tt ns ls =>
      have hj' := hj
      unfold JAt at hj
      obtain ⟨c, d, vs, he, ⟨_, pc, cc, hc, _⟩, ⟨_, pd, cd, hd, _⟩, _⟩ := hj
      subst hc hd
      rw [he] at hj'
      exact ⟨kk, ⟨tt.toArray⟩, pc, _, cc, pd, _, cd, he, JAt.mono (fun i _ h => by have h : W0.heap.size ≤ i := h; rw [HWs.out] at h; show R + 1 ≤ i; omega) _ _ hj'⟩
  simp only [List.cons.injEq, and_true] at h4
  obtain ⟨rfl, rfl, rfl, rfl⟩ := h4
  have hR1 := (hb1.block R (by have := HWs.out; omega) (by omega)).trans HR.out
  obtain ⟨q0, q1, q2, q3, qf⟩ := zeros_at hR1
  have HB1 : Hid (Below W.heap.size W w1) := Lib.hid (HB0.out.trans (hb1.below (by omega) (by have := HWs.out; omega)))
  have HR1 := Lib.hid hR1
  have HJ1 := Lib.hid hjn
  clear hb1 hR1 hj hjn
  go_wp2_with fail
  obtain ⟨z0, z1, z2, z3⟩ := four_set (p := .int .u8 kd) (q := .string tx) (u := .slice pc nc cc) (v := .slice pd nd cd) HR1.out
  have hj2 : JAt (fun g => R + 1 ≤ g) ((((w1.setCell ⟨R, 0, none⟩ (.int .u8 kd)).setCell ⟨R, 1, none⟩ (.string tx)).setCell ⟨R, 2, none⟩ (.slice pc nc cc)).setCell ⟨R, 3, none⟩ (.slice pd nd cd)) j [.int .u8 kd, .string tx, .slice pc nc cc, .slice pd nd cd] := JAt.world ⟨by simp, fun i hi h => by
    have h : R + 1 ≤ i := h
    exact ((Only.set R _ 3 _).block i (by omega)).trans (((Only.set R _ 2 _).block i (by omega)).trans (((Only.set R _ 1 _).block i (by omega)).trans ((Only.set R _ 0 _).block i (by omega))))⟩ j _ HJ1.out
  have hB2 : Below W.heap.size W ((((w1.setCell ⟨R, 0, none⟩ (.int .u8 kd)).setCell ⟨R, 1, none⟩ (.string tx)).setCell ⟨R, 2, none⟩ (.slice pc nc cc)).setCell ⟨R, 3, none⟩ (.slice pd nd cd)) :=
    (((HB1.out.setCell (p := ⟨R, 0, none⟩) hWR _).setCell (p := ⟨R, 1, none⟩) hWR _).setCell (p := ⟨R, 2, none⟩) hWR _).setCell (p := ⟨R, 3, none⟩) hWR _
  refine bodyPost_ret (v := .tuple #[.agg #[.int .u8 kd, .string tx, .slice pc nc cc, .slice pd nd cd], .int .i64 k]) (by simp [results, Tryz.results27, go_sem, z0, z1, z2, z3]) rfl ?_
  exact ⟨_, rfl, ⟨_, _, _, _, rfl, JAt.mono (S := fun g => R + 1 ≤ g) (fun i _ h => by have h : R + 1 ≤ i := h; show W.heap.size ≤ i; omega) _ _ hj2⟩, hB2⟩
end Go.Proofs.YtgcpgieojckheaaGreatDoor.Json
