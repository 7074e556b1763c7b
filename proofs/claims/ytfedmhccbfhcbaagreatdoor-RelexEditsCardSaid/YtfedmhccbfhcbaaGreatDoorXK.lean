/-
  The document's Alike, Same.
-/
import Derived.Test.YtfedmhccbfhcbaaGreatDoorXJ
namespace Go.Proofs.YtfedmhccbfhcbaaGreatDoor
open Go.RowKit Go.Shelf

set_option maxRecDepth 100000 in
set_option maxHeartbeats 16000000 in
theorem alike_any (va vb : Value) (a b : List Tok) (w : World) (ha : TokRow w va a) (hb : TokRow w vb b) (hla : a.length ≤ 10000000) (_hlb : b.length ≤ 10000000) :
    Calls Tryz.prog 16 #[va, vb] w fun e w' => e = .returned (.int .i64 (aheadN a b)) ∧ ∃ m, w' = w.drewN m := by
  obtain ⟨p1, k1, rfl⟩ := ha.shape
  obtain ⟨p2, k2, rfl⟩ := hb.shape
  have H1 := Lib.hid ha
  have H2 := Lib.hid hb
  clear ha hb
  have hA := Lib.hid (aheadN_le a b)
  go_enter Tryz.func16, Tryz.ntmps16
  go_wp2_with fail
  go_loopw [5] (fun m wi => ∃ j : Nat, m = .int .i64 j ∧ j ≤ aheadN a b ∧ Hid (∃ m, wi = w.drewN m)) (fun m _ => aheadN a b - (intOf m).toNat)
  case atStart => exact ⟨0, rfl, Nat.zero_le _, Lib.hid ⟨0, rfl⟩⟩
  case round =>
  obtain ⟨j, rfl, hj, HBi⟩ := hrel
  have HBb : Hid (Below w.heap.size w wr) := Lib.hid (by obtain ⟨mi, hmi⟩ := HBi.out; rw [hmi]; exact drewN_below w mi)
  by_cases hja : j < a.length
  · have hja' : (j : Int) < (a.length : Int) := by omega
    by_cases hjb : j < b.length
    · have hjb' : (j : Int) < (b.length : Int) := by omega
      have hx := List.getElem?_eq_getElem hja
      have hy := List.getElem?_eq_getElem hjb
      generalize a[j] = x at hx
      generalize b[j] = y at hy
      have HR : Hid (j < aheadN a b ↔ x = y) := Lib.hid (by
        constructor
        · intro h
          have := aheadN_at a b j h
          rw [hx, hy] at this
          exact Option.some.inj this
        · intro h
          apply Nat.lt_of_not_le
          intro h2
          have hs := aheadN_stop a b (by omega) (by omega)
          rw [show aheadN a b = j by omega, hx, hy, h] at hs
          exact hs rfl)
      obtain ⟨g, o, c, he, hc, r0, r1⟩ := (H1.out.below HBb.out).at hx
      obtain ⟨g', o', c', he', hc', s0, s1⟩ := (H2.out.below HBb.out).at hy
      injection he with he _ hee
      subst he
      subst hee
      injection he' with he' _ hee'
      subst he'
      subst hee'
      have hn2 := fun W => eql_any x y W
      obtain ⟨kx, tx⟩ := x
      obtain ⟨ky, ty⟩ := y
      unfold tokA at hn2
      change wr.cell? ⟨g, o + j * 2, none⟩ = some (.int .u8 kx) at r0
      change wr.cell? ⟨g, o + j * 2 + 1, none⟩ = some (bl tx) at r1
      change wr.cell? ⟨g', o' + j * 2, none⟩ = some (.int .u8 ky) at s0
      change wr.cell? ⟨g', o' + j * 2 + 1, none⟩ = some (bl ty) at s1
      unfold bl at r1 s1 hn2
      dsimp only at hn2
      clear hx hy hc hc' hja hjb
      by_cases hq : j < aheadN a b
      · have hxy := HR.out.1 hq
        rw [decide_eq_true hxy] at hn2
        have u4 : IntKind.i64.wrap ((j : Int) + 1) = ((j + 1 : Nat) : Int) := by rw [IntWalk.i64_in _ (by omega)]; omega
        clear hxy
        go_wp2_with fail
        go_quiet (fail)
        have HB9 := Lib.hid (show ∃ m, wr.drewN nq = w.drewN m by obtain ⟨mi, hmi⟩ := HBi.out; exact ⟨mi + nq, by rw [hmi, World.drewN_drewN]⟩)
        clear r0 r1 s0 s1 hn2
        generalize wr.drewN nq = w9 at *
        go_wp2_with fail
        go_roundw
        case rel => exact ⟨j + 1, rfl, by omega, HB9⟩
        case measure => simp [intOf]; omega
      · have hxy := fun h => hq (HR.out.2 h)
        rw [decide_eq_false hxy] at hn2
        have HJ : Hid (aheadN a b = j) := Lib.hid (by omega)
        clear hxy hq
        go_wp2_with fail
        go_quiet (fail)
        have HBo := Lib.hid (show ∃ m, wr.drewN nq = w.drewN m by obtain ⟨mi, hmi⟩ := HBi.out; exact ⟨mi + nq, by rw [hmi, World.drewN_drewN]⟩)
        clear r0 r1 s0 s1 hn2 HR hja' hjb' hj
        generalize wr.drewN nq = w9 at *
        go_wp2_with fail
        go_ret
        exact ⟨by rw [HJ.out]; rfl, HBo.out⟩
    · have hjb' : decide ((j : Int) < (b.length : Int)) = false := by rw [decide_eq_false]; omega
      have HJ : Hid (aheadN a b = j) := Lib.hid (by have := hA.out; omega)
      go_wp2_with fail
      go_quiet (fail)
      have HBo := Lib.hid (show ∃ m, wr.drewN nq = w.drewN m by obtain ⟨mi, hmi⟩ := HBi.out; exact ⟨mi + nq, by rw [hmi, World.drewN_drewN]⟩)
      clear hj hjb
      generalize wr.drewN nq = w9 at *
      go_wp2_with fail
      go_ret
      exact ⟨by rw [HJ.out]; rfl, HBo.out⟩
  · have hja' : decide ((j : Int) < (a.length : Int)) = false := by rw [decide_eq_false]; omega
    have HJ : Hid (aheadN a b = j) := Lib.hid (by have := hA.out; omega)
    go_wp2_with fail
    go_quiet (fail)
    have HBo := Lib.hid (show ∃ m, wr.drewN nq = w.drewN m by obtain ⟨mi, hmi⟩ := HBi.out; exact ⟨mi + nq, by rw [hmi, World.drewN_drewN]⟩)
    clear hj hja
    generalize wr.drewN nq = w9 at *
    go_wp2_with fail
    go_ret
    exact ⟨by rw [HJ.out]; rfl, HBo.out⟩
/-- Same of two rows with the same tokens. -/
def sameB (a b : List Tok) : Bool := decide (a = b)
set_option maxRecDepth 100000 in
set_option maxHeartbeats 4000000 in
theorem same_row (va vb : Value) (a b : List Tok) (w : World) (ha : TokRow w va a) (hb : TokRow w vb b) (hla : a.length ≤ 10000000) (hlb : b.length ≤ 10000000) :
    Calls Tryz.prog 10 #[va, vb] w fun e w' => e = .returned (.bool (sameB a b)) ∧ ∃ m, w' = w.drewN m := by
  have hal := alike_any va vb a b w ha hb hla hlb
  obtain ⟨p1, k1, rfl⟩ := ha.shape
  obtain ⟨p2, k2, rfl⟩ := hb.shape
  clear ha hb
  obtain ⟨N, hN⟩ : ∃ N, aheadN a b = N := ⟨_, rfl⟩
  rw [hN] at hal
  by_cases hl : a.length = b.length
  · have hS : Hid (sameB a b = ((N : Int) == (a.length : Int))) := Lib.hid (by
      unfold sameB
      by_cases h : a = b
      · subst h
        rw [aheadN_self] at hN
        rw [← hN]; simp
      · have : N ≠ a.length := fun h2 => h (aheadN_all hl (by rw [hN, h2]))
        rw [decide_eq_false h]; symm; rw [beq_eq_false_iff_ne]; omega)
    have he : ((a.length : Int) == (b.length : Int)) = true := by rw [beq_iff_eq]; omega
    rw [hS.out]
    clear hN hl
    go_enter Tryz.func10, Tryz.ntmps10
    go_wp2_with fail
    refine hal.mono ?_
    rintro e w1 ⟨rfl, hb1⟩
    go_wp2_with fail
    go_ret
    exact ⟨rfl, hb1⟩
  · have hS : Hid (sameB a b = false) := Lib.hid (by unfold sameB; rw [decide_eq_false]; intro h; exact hl (by rw [h]))
    have he : ((a.length : Int) == (b.length : Int)) = false := by rw [beq_eq_false_iff_ne]; omega
    rw [hS.out]
    clear hN hl
    go_enter Tryz.func10, Tryz.ntmps10
    go_wp2_with fail
    go_ret
    exact ⟨rfl, 0, rfl⟩
theorem drew_below {w w' : World} (h : ∃ m, w' = w.drewN m) : Below w.heap.size w w' := by
  obtain ⟨m, rfl⟩ := h; exact drewN_below w m
end Go.Proofs.YtfedmhccbfhcbaaGreatDoor
