/-
  formed: may a node be, but for what its tokens' texts are?
-/
import Derived.Test.YtingfomfibhnhaaGreatDoorMgHC
import Derived.Test.YtingfomfibhnhaaGreatDoorMgGZ
namespace Go.Proofs.YtingfomfibhnhaaGreatDoor
open Go.RowKit Go.Shelf

def notAhead (x : T) : Bool := !(x.kind == 1 && x.kids.isEmpty && aheadK x.tok)
theorem kind_beq (x : T) (n : Nat) : ((x.kind : Int) == (n : Int)) = (x.kind == n) := by rw [Bool.eq_iff_iff]; simp; omega
set_option maxRecDepth 100000 in
set_option maxHeartbeats 2000000 in
theorem notAhead_any (x : T) (p : Option Addr) (c : Nat) (w : World) : Calls Tryz.prog 50 #[aggN x p c] w (BoolEnd (notAhead x) w) := by
  obtain ⟨w1, hw1⟩ : ∃ w1, w.alloc (.cells #[.int .u8 x.kind, .int .u8 x.tok.1, .string ⟨x.tok.2.toArray⟩, .slice p x.kids.length c] 27) = w1 := ⟨_, rfl⟩
  have n1 : w1.heap[w.heap.size]? = some (boxN x p c) := by rw [← hw1]; exact World.alloc_heap_new w _
  have b1 : Below w.heap.size w w1 := by rw [← hw1]; exact galloc (Below.refl _ _) _
  obtain ⟨c0, c1, c2, c3⟩ := box4 n1
  have HB := Lib.hid b1
  have HA := Lib.hid (ahead_any x.tok w1)
  clear n1 b1
  obtain ⟨R, hR⟩ : ∃ R, notAhead x = R := ⟨_, rfl⟩
  rw [hR]
  unfold notAhead at hR
  cases hk : (x.kind == 1) with
  | false =>
    rw [hk] at hR
    have e1 : ((x.kind : Int) == 1) = false := by rw [← hk]; exact kind_beq x 1
    have e2 : ((x.kind : Int) != 1) = true := by simp [bne, e1]
    have HR := Lib.hid hR
    clear hR hk
    go_enter Tryz.func50, Tryz.ntmps50
    go_wp2
    go_ret
    exact ⟨by rw [← HR.out]; rfl, HB.out⟩
  | true =>
    rw [hk] at hR
    have e1 : ((x.kind : Int) == 1) = true := by rw [← hk]; exact kind_beq x 1
    have e2 : ((x.kind : Int) != 1) = false := by simp [bne, e1]
    cases hi : x.kids.isEmpty with
    | false =>
      rw [hi] at hR
      have e3 : (0 : Int) < (x.kids.length : Int) := by
        have : x.kids ≠ [] := by intro h; rw [h] at hi; cases hi
        have := List.length_pos_iff.2 this
        omega
      have e4 : decide (0 < x.kids.length) = true := decide_eq_true (by omega)
      have e5 : decide ((0 : Int) < (x.kids.length : Int)) = true := decide_eq_true e3
      have HR := Lib.hid hR
      clear hR hk hi
      go_enter Tryz.func50, Tryz.ntmps50
      go_wp2
      go_ret
      exact ⟨by rw [← HR.out]; rfl, HB.out⟩
    | true =>
      rw [hi] at hR
      have e3 : x.kids.length = 0 := by
        have := List.isEmpty_iff.1 hi
        rw [this]; rfl
      have e4 : decide (0 < x.kids.length) = false := decide_eq_false (by omega)
      have e5 : decide ((0 : Int) < (x.kids.length : Int)) = false := decide_eq_false (by omega)
      have e6 : ¬ 0 < x.kids.length := by omega
      clear e3
      have HR := Lib.hid hR
      clear hR hk hi
      cases hA : aheadK x.tok with
      | true =>
        rw [hA] at HA HR
        go_enter Tryz.func50, Tryz.ntmps50
        go_wp2_with (go_at_call 48; refine HA.out.mono ?_; rintro e w2 ⟨rfl, h2⟩)
        go_ret
        exact ⟨by rw [← HR.out]; rfl, gcall HB.out h2⟩
      | false =>
        rw [hA] at HA HR
        go_enter Tryz.func50, Tryz.ntmps50
        go_wp2_with (go_at_call 48; refine HA.out.mono ?_; rintro e w2 ⟨rfl, h2⟩)
        go_ret
        exact ⟨by rw [← HR.out]; rfl, gcall HB.out h2⟩
def IdxEnd (b : Bool) (w : World) (e : Ending) (w' : World) : Prop := ∃ r : Int, e = .returned (.int .i64 r) ∧ decide (0 ≤ r) = b ∧ Below w.heap.size w w'
set_option maxRecDepth 100000 in
set_option maxHeartbeats 4000000 in
theorem index50 (P : T → Bool) (ks : List T) (W : World) (v : Value) (vs : List Value) (hd : SlIn AnyB W v 4 ks.length vs) (hj : NsAt AnyB W ks vs) (hl : ks.length ≤ 1000000)
    (HREC : Hid (∀ (i : Nat) x, ks[i]? = some x → ∀ (w : World) (p : Option Addr) (c : Nat), NAt AnyB w x (cellsN x p c) → Calls Tryz.prog 50 #[aggN x p c] w (BoolEnd (P x) w))) :
    Calls Tryz.prog 62 #[v, .func (.func 50) #[] #[]] W (IdxEnd (ks.any P) W) := by
  have hd' := hd
  obtain ⟨_, pd, cd, rfl, _⟩ := hd'
  obtain ⟨R, hR⟩ : ∃ R, ks.any P = R := ⟨_, rfl⟩
  rw [hR]
  have HI0 : Hid (Below W.heap.size W W ∧ R = (ks.drop 0).any P) := Lib.hid ⟨Below.refl _ _, by rw [← hR]; rfl⟩
  have HD := Lib.hid hd
  have HJ := Lib.hid hj
  clear hd hj hR
  go_enter Tryz.func62, Tryz.ntmps62
  go_wp2_with fail
  go_loopw [5, 8] (fun _ iv wr => ∃ k : Nat, k ≤ ks.length ∧ iv = .int .i64 k ∧ Hid (Below W.heap.size W wr ∧ R = (ks.drop k).any P)) (fun _ iv _ => ks.length - (intOf iv).toNat)
  case atStart => exact ⟨0, by omega, rfl, HI0⟩
  case round =>
    clear HI0
    obtain ⟨k, hk, rfl, HI⟩ := hrel
    rcases Nat.lt_or_ge k ks.length with hlt | hge
    · have hlt' : (k : Int) < (ks.length : Int) := by omega
      have hwi : IntKind.i64.wrap ((k : Int) + 1) = ((k + 1 : Nat) : Int) := by rw [IntWalk.i64_in _ (by omega)]; omega
      have hst : Stays AnyB W wr := ⟨HI.out.1.size, fun i hi _ => HI.out.1.block i hi⟩
      obtain ⟨g1, o1, rfl, hc⟩ := (HD.out.world hst).cellAt (by omega)
      have hu := List.getElem?_eq_getElem hlt
      obtain ⟨p1, c1, h3, m1, m2, m3, m4⟩ := (NsAt.world hst ks vs HJ.out).nth ks vs k _ hu
      have hdr : ks.drop k = ks[k]'hlt :: ks.drop (k + 1) := List.drop_eq_getElem_cons hlt
      have hS := HI.out.2
      rw [hdr] at hS
      have hcall := HREC.out k _ hu wr p1 c1 h3
      generalize ks[k]'hlt = x at *
      have k1 : wr.cell? ⟨g1, o1 + k * 4, none⟩ = some (.int .u8 (x.kind : Nat)) := hc _ _ m1
      have k2 : wr.cell? ⟨g1, o1 + k * 4 + 1, none⟩ = some (.int .u8 (x.tok.1 : Nat)) := hc _ _ m2
      have k3 : wr.cell? ⟨g1, o1 + k * 4 + 2, none⟩ = some (.string ⟨x.tok.2.toArray⟩) := hc _ _ m3
      have k4 : wr.cell? ⟨g1, o1 + k * 4 + 3, none⟩ = some (.slice p1 x.kids.length c1) := hc _ _ m4
      have HB := Lib.hid HI.out.1
      have HS := Lib.hid hS
      clear hS hc m1 m2 m3 m4 hdr hu h3 hst HI
      go_wp2_with fail
      refine hcall.mono ?_
      rintro e w2 ⟨rfl, h2⟩
      have HB2 := Lib.hid (gcall HB.out h2)
      clear h2 hcall
      cases hP : P x with
      | true =>
        have HE : Hid (R = true) := Lib.hid (by rw [HS.out]; simp [hP])
        clear hP
        go_wp2
        go_ret
        exact ⟨_, rfl, by rw [HE.out]; simp, HB2.out⟩
      | false =>
        have HI2 : Hid (Below W.heap.size W w2 ∧ R = (ks.drop (k + 1)).any P) := Lib.hid ⟨HB2.out, by rw [HS.out]; simp [hP]⟩
        clear hP
        go_wp2
        exact ⟨⟨k + 1, by omega, rfl, HI2⟩, by simp [intOf]; omega⟩
    · obtain rfl : k = ks.length := by omega
      have hlt' : ¬ (ks.length : Int) < (ks.length : Int) := by omega
      have HE : Hid (R = false ∧ Below W.heap.size W wr) := Lib.hid ⟨by rw [HI.out.2]; simp, HI.out.1⟩
      clear HI
      go_wp2
      go_ret
      exact ⟨-1, rfl, by rw [HE.out.1]; rfl, HE.out.2⟩
set_option maxRecDepth 100000 in
theorem contains50 (P : T → Bool) (ks : List T) (W : World) (v : Value) (vs : List Value) (hd : SlIn AnyB W v 4 ks.length vs) (hj : NsAt AnyB W ks vs) (hl : ks.length ≤ 1000000)
    (HREC : Hid (∀ (i : Nat) x, ks[i]? = some x → ∀ (w : World) (p : Option Addr) (c : Nat), NAt AnyB w x (cellsN x p c) → Calls Tryz.prog 50 #[aggN x p c] w (BoolEnd (P x) w))) :
    Calls Tryz.prog 49 #[v, .func (.func 50) #[] #[]] W (BoolEnd (ks.any P) W) := by
  have hi := index50 P ks W v vs hd hj hl HREC
  generalize ks.any P = R at *
  clear hd hj HREC
  go_enter Tryz.func49, Tryz.ntmps49
  go_wp2_with fail
  refine hi.mono ?_
  rintro e w2 ⟨r, rfl, hr, h2⟩
  go_wp2
  go_ret
  exact ⟨by rw [← hr]; rfl, h2⟩
set_option maxRecDepth 100000 in
set_option maxHeartbeats 4000000 in
theorem index51 (P : T → Bool) (ks : List T) (W : World) (v : Value) (vs : List Value) (hd : SlIn AnyB W v 4 ks.length vs) (hj : NsAt AnyB W ks vs) (hl : ks.length ≤ 1000000)
    (HREC : Hid (∀ (i : Nat) x, ks[i]? = some x → ∀ (w : World) (p : Option Addr) (c : Nat), NAt AnyB w x (cellsN x p c) → Calls Tryz.prog 51 #[aggN x p c] w (BoolEnd (P x) w))) :
    Calls Tryz.prog 62 #[v, .func (.func 51) #[] #[]] W (IdxEnd (ks.any P) W) := by
  have hd' := hd
  obtain ⟨_, pd, cd, rfl, _⟩ := hd'
  obtain ⟨R, hR⟩ : ∃ R, ks.any P = R := ⟨_, rfl⟩
  rw [hR]
  have HI0 : Hid (Below W.heap.size W W ∧ R = (ks.drop 0).any P) := Lib.hid ⟨Below.refl _ _, by rw [← hR]; rfl⟩
  have HD := Lib.hid hd
  have HJ := Lib.hid hj
  clear hd hj hR
  go_enter Tryz.func62, Tryz.ntmps62
  go_wp2_with fail
  go_loopw [5, 8] (fun _ iv wr => ∃ k : Nat, k ≤ ks.length ∧ iv = .int .i64 k ∧ Hid (Below W.heap.size W wr ∧ R = (ks.drop k).any P)) (fun _ iv _ => ks.length - (intOf iv).toNat)
  case atStart => exact ⟨0, by omega, rfl, HI0⟩
  case round =>
    clear HI0
    obtain ⟨k, hk, rfl, HI⟩ := hrel
    rcases Nat.lt_or_ge k ks.length with hlt | hge
    · have hlt' : (k : Int) < (ks.length : Int) := by omega
      have hwi : IntKind.i64.wrap ((k : Int) + 1) = ((k + 1 : Nat) : Int) := by rw [IntWalk.i64_in _ (by omega)]; omega
      have hst : Stays AnyB W wr := ⟨HI.out.1.size, fun i hi _ => HI.out.1.block i hi⟩
      obtain ⟨g1, o1, rfl, hc⟩ := (HD.out.world hst).cellAt (by omega)
      have hu := List.getElem?_eq_getElem hlt
      obtain ⟨p1, c1, h3, m1, m2, m3, m4⟩ := (NsAt.world hst ks vs HJ.out).nth ks vs k _ hu
      have hdr : ks.drop k = ks[k]'hlt :: ks.drop (k + 1) := List.drop_eq_getElem_cons hlt
      have hS := HI.out.2
      rw [hdr] at hS
      have hcall := HREC.out k _ hu wr p1 c1 h3
      generalize ks[k]'hlt = x at *
      have k1 : wr.cell? ⟨g1, o1 + k * 4, none⟩ = some (.int .u8 (x.kind : Nat)) := hc _ _ m1
      have k2 : wr.cell? ⟨g1, o1 + k * 4 + 1, none⟩ = some (.int .u8 (x.tok.1 : Nat)) := hc _ _ m2
      have k3 : wr.cell? ⟨g1, o1 + k * 4 + 2, none⟩ = some (.string ⟨x.tok.2.toArray⟩) := hc _ _ m3
      have k4 : wr.cell? ⟨g1, o1 + k * 4 + 3, none⟩ = some (.slice p1 x.kids.length c1) := hc _ _ m4
      have HB := Lib.hid HI.out.1
      have HS := Lib.hid hS
      clear hS hc m1 m2 m3 m4 hdr hu h3 hst HI
      go_wp2_with fail
      refine hcall.mono ?_
      rintro e w2 ⟨rfl, h2⟩
      have HB2 := Lib.hid (gcall HB.out h2)
      clear h2 hcall
      cases hP : P x with
      | true =>
        have HE : Hid (R = true) := Lib.hid (by rw [HS.out]; simp [hP])
        clear hP
        go_wp2
        go_ret
        exact ⟨_, rfl, by rw [HE.out]; simp, HB2.out⟩
      | false =>
        have HI2 : Hid (Below W.heap.size W w2 ∧ R = (ks.drop (k + 1)).any P) := Lib.hid ⟨HB2.out, by rw [HS.out]; simp [hP]⟩
        clear hP
        go_wp2
        exact ⟨⟨k + 1, by omega, rfl, HI2⟩, by simp [intOf]; omega⟩
    · obtain rfl : k = ks.length := by omega
      have hlt' : ¬ (ks.length : Int) < (ks.length : Int) := by omega
      have HE : Hid (R = false ∧ Below W.heap.size W wr) := Lib.hid ⟨by rw [HI.out.2]; simp, HI.out.1⟩
      clear HI
      go_wp2
      go_ret
      exact ⟨-1, rfl, by rw [HE.out.1]; rfl, HE.out.2⟩
set_option maxRecDepth 100000 in
theorem contains51 (P : T → Bool) (ks : List T) (W : World) (v : Value) (vs : List Value) (hd : SlIn AnyB W v 4 ks.length vs) (hj : NsAt AnyB W ks vs) (hl : ks.length ≤ 1000000)
    (HREC : Hid (∀ (i : Nat) x, ks[i]? = some x → ∀ (w : World) (p : Option Addr) (c : Nat), NAt AnyB w x (cellsN x p c) → Calls Tryz.prog 51 #[aggN x p c] w (BoolEnd (P x) w))) :
    Calls Tryz.prog 49 #[v, .func (.func 51) #[] #[]] W (BoolEnd (ks.any P) W) := by
  have hi := index51 P ks W v vs hd hj hl HREC
  generalize ks.any P = R at *
  clear hd hj HREC
  go_enter Tryz.func49, Tryz.ntmps49
  go_wp2_with fail
  refine hi.mono ?_
  rintro e w2 ⟨r, rfl, hr, h2⟩
  go_wp2
  go_ret
  exact ⟨by rw [← hr]; rfl, h2⟩
end Go.Proofs.YtingfomfibhnhaaGreatDoor
