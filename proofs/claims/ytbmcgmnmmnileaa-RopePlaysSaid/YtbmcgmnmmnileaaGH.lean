/-
  RopePlays without a step.
-/
import Derived.Test.YtbmcgmnmmnileaaGG
namespace Go.Proofs.Ytbmcgmnmmnileaa
open Go.RowKit Go.Shelf

set_option maxRecDepth 100000 in
set_option maxHeartbeats 4000000 in
/-- No steps at all. -/
theorem plays_none (w : World) (s : ByteArray) (a : Option Addr) (cap : Nat) :
    Calls Try.prog 4 #[.string s, .slice a 0 cap] w fun e w' => e = .returned (.bool true) ∧ Below w.heap.size w w' := by
  have hl := large_none w s (fun _ => ⟨0, 0, 0, 0, ⟨#[]⟩, 0⟩) a cap
  go_enter Try.func4, Try.ntmps4
  go_wp2_with fail
  refine hl.mono ?_
  rintro e w1 ⟨b, rfl, hb, rfl⟩
  cases b with
  | true =>
    go_wp2
    go_ret
    exact ⟨rfl, Below.refl _ _⟩
  | false =>
    have hsm := hb rfl
    have h5 : s.size ≤ 5000 := hsm.2.1
    clear hb hsm hl
    go_wp2_with fail
    refine (rp_of s _ (by omega)).mono ?_
    rintro e w1 ⟨br, rfl, kr, hb⟩
    have R := Lib.hid kr
    have B1 := Lib.hid hb
    clear kr hb
    go_wp2_with fail
    refine (same_any _ br s R.out (by omega)).mono ?_
    rintro e w2 ⟨rfl, hb⟩
    have R2 := Lib.hid (R.out.below (Nat.le_refl _) hb)
    have B2 := Lib.hid (B1.out.trans (hb.mono B1.out.size))
    clear hb
    have P0 := Lib.hid (Plays.start w2 w.heap.size br s R2.out B2.out.size 5000 h5)
    have BB := Lib.hid (galloc (galloc B2.out (.cells #[ptr br] 23)) (.cells #[.string s] 42))
    go_wp2
    go_loopw [7, 8, 9] (fun va vt i wr => i = .int .i64 0 ∧ Hid (Plays wr w.heap.size va vt [br] [s] 5000) ∧ Hid (Below w.heap.size w wr)) (fun _ _ _ _ => 0)
    case atStart => exact ⟨rfl, P0, BB⟩
    case round =>
      obtain ⟨rfl, HP, HB⟩ := hrel
      obtain ⟨g1, c1, g2, c2, rfl, rfl, d1, d2, d3, d4, d5, d6, d7, d8, d9, hc1, hc2⟩ := HP.out.form
      clear P0 BB R R2 B1 B2
      have x1' := hc1 0 br rfl
      have x2' := hc2 0 s rfl
      have HPm : Hid (Plays wr w.heap.size (.slice (some ⟨g1, 0, none⟩) 1 c1) (.slice (some ⟨g2, 0, none⟩) 1 c2) [br] [s] 5000) := HP
      clear HP hc1 hc2 x1' x2'
      simp only [List.length_singleton] at d6 d8 ⊢
      go_wp2
      go_loopw [27] (fun i wr => ∃ j : Nat, i = .int .i64 j ∧ j ≤ 1 ∧ Hid (Plays wr w.heap.size (.slice (some ⟨g1, 0, none⟩) 1 c1) (.slice (some ⟨g2, 0, none⟩) 1 c2) [br] [s] 5000) ∧ Hid (Below w.heap.size w wr)) (fun i _ => 1 - (intOf i).toNat)
      case atStart => exact ⟨0, rfl, Nat.zero_le _, HPm, HB⟩
      case round =>
        obtain ⟨j, rfl, hj, HPq, HBq⟩ := hrel
        by_cases hjm : j < 1
        · have hjm' : (j : Int) < 1 := by omega
          obtain ⟨l1, q1⟩ := HPq.out.cell1
          obtain ⟨l2, q2⟩ := HPq.out.cell2
          obtain ⟨b, t, hb, ht, hR, hz⟩ := HPq.out.at j hjm
          have x1 := q1 j b hb
          have x2 := q2 j t ht
          have hc := fun W' (hW : Below wr.heap.size wr W') => same_any W' b t (hR.below (Nat.le_refl _) hW) (by omega)
          clear q1 q2 hb ht hR
          go_wp2
          go_region_held3 (fun u => u.cell? ⟨g1, j, none⟩ = some (.pointer (some ⟨b, 0, none⟩)) ∧ u.cell? ⟨g2, j, none⟩ = some (.string t)) (first | exact ⟨x1, x2⟩ | (with_reducible exact ⟨x1', x2'⟩) | go_keep) (first | (go_at_call 20; (with_reducible refine Calls.mono (hc _ (Below.refl _ _).drew) ?_); rintro e v1 ⟨rfl, hb1⟩; have gg1 := (Below.refl wr.heap.size wr).drew.trans hb1; have x1' := (gg1.cell (p := ⟨g1, j, none⟩) l1).trans x1; have x2' := (gg1.cell (p := ⟨g2, j, none⟩) l2).trans x2))
          have G1 := Lib.hid gg1
          clear gg1 hb1 hc x1' x2'
          go_wp2
          go_roundw
          case rel => exact ⟨j + 1, by go_num, by omega, Lib.hid (HPq.out.below G1.out (Nat.le_refl _)), Lib.hid (gcall HBq.out G1.out)⟩
          case measure => simp [intOf]; omega
        · have hjm' : ¬ (j : Int) < 1 := by omega
          go_wp2
          go_ret
          exact ⟨rfl, HBq.out⟩
end Go.Proofs.Ytbmcgmnmmnileaa
