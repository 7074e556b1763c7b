/-
  paths: are two paths the same?
-/
import Derived.Test.YtingfomfibhnhaaGreatDoorMgHC
import Derived.Test.YtingfomfibhnhaaGreatDoorMgRH
import Derived.BigQuiet
namespace Go.Proofs.YtingfomfibhnhaaGreatDoor
open Go.RowKit Go.Shelf

theorem pa_at {W : World} {p : Option Addr} {n c : Nat} {l : List Int} (h : PaAt W (.slice p n c) l) {k : Nat} {i : Int} (hi : l[k]? = some i) : ∃ g o, p = some ⟨g, o, none⟩ ∧ W.cell? ⟨g, o + k, none⟩ = some (.int .i64 i) := by
  have hlt := (List.getElem?_eq_some_iff.1 hi).1
  obtain ⟨g, o, rfl, hc⟩ := h.cellAt (by omega)
  exact ⟨g, o, rfl, hc k _ (by rw [List.getElem?_map, hi]; rfl)⟩
set_option maxRecDepth 100000 in
set_option maxHeartbeats 4000000 in
theorem paths_any (a b : List Int) (v1 v2 : Value) (W : World) (h1 : PaAt W v1 a) (h2 : PaAt W v2 b) (hl : a.length ≤ 1000000) : Calls Tryz.prog 29 #[v1, v2] W (BoolEnd (decide (a = b)) W) := by
  have h1' := h1
  have h2' := h2
  obtain ⟨_, p1, c1, rfl, _⟩ := h1'
  obtain ⟨_, p2, c2, rfl, _⟩ := h2'
  obtain ⟨R, hR⟩ : ∃ R, decide (a = b) = R := ⟨_, rfl⟩
  rw [hR]
  have H1 := Lib.hid h1
  have H2 := Lib.hid h2
  have HR := Lib.hid hR
  clear h1 h2 hR
  by_cases hlen : a.length = b.length
  · have e1 : ((a.length : Int) != (b.length : Int)) = false := by rw [hlen]; simp
    have HL := Lib.hid hlen
    clear hlen
    go_enter Tryz.func29, Tryz.ntmps29
    go_wp2_with fail
    go_loopw [5] (fun iv wr => ∃ k : Nat, k ≤ a.length ∧ iv = .int .i64 k ∧ Hid (∀ j, j < k → a[j]? = b[j]?) ∧ Hid (∃ m, wr = W.drewN m)) (fun iv _ => a.length - (intOf iv).toNat)
    case atStart => exact ⟨0, by omega, rfl, Lib.hid (fun j hj => by omega), Lib.hid ⟨0, rfl⟩⟩
    case round =>
      obtain ⟨k, hk, rfl, HI, HW⟩ := hrel
      obtain ⟨m, rfl⟩ := HW.out
      rcases Nat.lt_or_ge k a.length with hlt | hge
      · have hlt' : (k : Int) < (a.length : Int) := by omega
        have hlt2 : (k : Int) < (b.length : Int) := by have := HL.out; omega
        have hwi : IntKind.i64.wrap ((k : Int) + 1) = ((k + 1 : Nat) : Int) := by rw [IntWalk.i64_in _ (by omega)]; omega
        have hu1 := List.getElem?_eq_getElem hlt
        have hu2 := List.getElem?_eq_getElem (l := b) (i := k) (by have := HL.out; omega)
        obtain ⟨g1, o1, rfl, k1⟩ := pa_at H1.out hu1
        obtain ⟨g2, o2, rfl, k2⟩ := pa_at H2.out hu2
        have hb := drewN_below W m
        have HU := Lib.hid (And.intro hu1 hu2)
        clear hu1 hu2
        generalize a[k]'hlt = x at *
        generalize b[k]'(by have := HL.out; omega) = y at *
        by_cases hxy : x = y
        · have e2 : (x != y) = false := by rw [hxy]; simp
          have e3 : (x == y) = true := by rw [hxy]; simp
          have HI2 : Hid (∀ j, j < k + 1 → a[j]? = b[j]?) := Lib.hid (fun j hj => by
            rcases Nat.lt_or_ge j k with g | g
            · exact HI.out j g
            · obtain rfl : j = k := by omega
              rw [HU.out.1, HU.out.2, hxy])
          subst hxy
          clear hb
          go_wp2_with fail
          go_quiet (fail)
          go_wp2
          exact ⟨⟨k + 1, by omega, rfl, HI2, Lib.hid ⟨_, by first | rfl | exact World.drewN_drewN ..⟩⟩, by simp [intOf]; omega⟩
        · have e2 : (x != y) = true := by rw [bne_iff_ne]; exact hxy
          have e3 : (x == y) = false := by rw [beq_eq_false_iff_ne]; exact hxy
          have HE : Hid (R = false) := Lib.hid (by
            rw [← HR.out]
            refine decide_eq_false fun e => hxy ?_
            have h := HU.out.1
            rw [e, HU.out.2] at h
            exact (Option.some.inj h).symm)
          have HBB : Hid (∀ n, Below W.heap.size W ((W.drewN m).drewN n)) := Lib.hid (fun n => hb.trans ((drewN_below (W.drewN m) n).mono hb.size))
          clear hb hxy
          go_wp2_with fail
          go_quiet (fail)
          go_wp2
          go_ret
          exact ⟨by rw [HE.out]; rfl, HBB.out _⟩
      · obtain rfl : k = a.length := by omega
        have hlt' : ¬ (a.length : Int) < (a.length : Int) := by omega
        have HE : Hid (R = true ∧ Below W.heap.size W (W.drewN m)) := Lib.hid ⟨by
          rw [← HR.out]
          refine decide_eq_true (List.ext_getElem? fun i => ?_)
          rcases Nat.lt_or_ge i a.length with g | g
          · exact HI.out i g
          · rw [List.getElem?_eq_none g, List.getElem?_eq_none (by have := HL.out; omega)], drewN_below W m⟩
        clear HI
        go_wp2
        go_ret
        exact ⟨by rw [HE.out.1]; rfl, HE.out.2⟩
  · have e1 : ((a.length : Int) != (b.length : Int)) = true := by rw [bne_iff_ne]; omega
    have HE : Hid (R = false) := Lib.hid (by rw [← HR.out]; exact decide_eq_false fun e => hlen (by rw [e]))
    clear hlen
    go_enter Tryz.func29, Tryz.ntmps29
    go_wp2
    go_ret
    exact ⟨by rw [HE.out]; rfl, Below.refl _ _⟩
end Go.Proofs.YtingfomfibhnhaaGreatDoor
