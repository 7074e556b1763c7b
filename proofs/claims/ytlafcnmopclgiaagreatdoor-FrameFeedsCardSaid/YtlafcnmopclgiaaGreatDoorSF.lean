/-
  Chunks as an argument; long.
-/
import Derived.Test.YtlafcnmopclgiaaGreatDoorSE
namespace Go.Proofs.YtlafcnmopclgiaaGreatDoor
open Go.RowKit Go.Shelf

/-- A row of chunks, as it came in. -/
def Rows2 (w : World) (v : Value) (L : List (List UInt8)) : Prop :=
  ∃ p cap, v = .slice p L.length cap ∧ L.length ≤ cap ∧ ∀ (i : Nat) l, L[i]? = some l → ∃ g o rv, p = some ⟨g, o, none⟩ ∧ w.cell? ⟨g, o + i, none⟩ = some rv ∧ BRowV w rv l
theorem Rows2.below {w w' : World} {v : Value} {L : List (List UInt8)} (h : Rows2 w v L) (hb : Below w.heap.size w w') : Rows2 w' v L := by
  obtain ⟨p, cap, h1, h2, h3⟩ := h
  refine ⟨p, cap, h1, h2, fun i l hi => ?_⟩
  obtain ⟨g, o, rv, h4, h5, h6⟩ := h3 i l hi
  exact ⟨g, o, rv, h4, (hb.cell (World.block_lt_of_cell? w _ h5)).trans h5, h6.below hb⟩
def sumL (L : List (List UInt8)) : Nat := (L.map List.length).sum
theorem sumL_next {L : List (List UInt8)} {k : Nat} {l : List UInt8} (h : L[k]? = some l) : sumL (L.take (k + 1)) = sumL (L.take k) + l.length := by
  unfold sumL
  rw [List.take_add_one, h]; simp
theorem sumL_take (L : List (List UInt8)) (k : Nat) : sumL (L.take k) ≤ sumL L := by
  unfold sumL
  have e : (L.map List.length).sum = ((L.take k).map List.length).sum + ((L.drop k).map List.length).sum := by
    rw [← List.sum_append_nat, ← List.map_append, List.take_append_drop]
  omega
def LongEnd (L : List (List UInt8)) (w : World) (e : Ending) (w' : World) : Prop := ∃ q, e = .returned (.bool q) ∧ (q = false → sumL L < 6000 ∧ L.length ≤ 300) ∧ w = w'
set_option maxRecDepth 100000 in
set_option maxHeartbeats 2000000 in
theorem long_any (w : World) (v : Value) (L : List (List UInt8)) (h : Rows2 w v L) (hz : L.length ≤ 9223372036854775807) : Calls Tryz.prog 4 #[v] w (LongEnd L w) := by
  obtain ⟨p, cap, rfl, hcap, hc⟩ := h
  have HC := Lib.hid hc
  clear hc
  by_cases h3 : 300 < L.length
  · have h3' : (300 : Int) < (L.length : Int) := by omega
    go_enter Tryz.func4, Tryz.ntmps4
    go_wp2_with fail
    go_ret
    exact ⟨true, rfl, (fun h => by cases h), rfl⟩
  · have h3' : ¬ (300 : Int) < (L.length : Int) := by omega
    go_enter Tryz.func4, Tryz.ntmps4
    go_wp2_with fail
    go_loop [3, 4] (fun nv i => ∃ (k n : Nat), i = .int .i64 k ∧ nv = .int .i64 n ∧ k ≤ L.length ∧ n ≤ 12000 ∧ Hid (sumL (L.take k) = n)) (fun _ i => L.length - (intOf i).toNat)
    case atStart => exact ⟨0, 0, rfl, rfl, Nat.zero_le _, Nat.zero_le _, Lib.hid rfl⟩
    case round =>
      obtain ⟨k, n, rfl, rfl, hk, hn, HS⟩ := hrel
      by_cases hlt : k < L.length
      · have hlt' : (k : Int) < (L.length : Int) := by omega
        by_cases h6 : n < 6000
        · have h6' : (n : Int) < 6000 := by omega
          obtain ⟨l, hl⟩ : ∃ l, L[k]? = some l := ⟨_, List.getElem?_eq_getElem hlt⟩
          obtain ⟨g, o, rv, rfl, c0, hr⟩ := HC.out k l hl
          obtain ⟨rp, rc, rfl⟩ := hr.shape
          have HN := Lib.hid (sumL_next hl)
          have hw : IntKind.i64.wrap ((k : Int) + 1) = ((k + 1 : Nat) : Int) := by rw [IntWalk.i64_in _ (by omega)]; omega
          clear hl hr
          by_cases hb : 6000 ≤ l.length
          · have hb' : (6000 : Int) ≤ (l.length : Int) := by omega
            go_wp2_with fail
            go_ret
            exact ⟨true, rfl, (fun h => by cases h), rfl⟩
          · have hb' : ¬ (6000 : Int) ≤ (l.length : Int) := by omega
            have hw2 : IntKind.i64.wrap ((n : Int) + (l.length : Int)) = ((n + l.length : Nat) : Int) := by rw [IntWalk.i64_in _ (by omega)]; omega
            go_wp2_with fail
            go_round
            case rel => exact ⟨k + 1, n + l.length, by go_num, by first | rfl | go_num, by omega, by omega, Lib.hid (by rw [HN.out, HS.out])⟩
            case measure => simp [intOf]; omega
        · have h6' : ¬ (n : Int) < 6000 := by omega
          have h6d : decide ((n : Int) < 6000) = false := decide_eq_false h6'
          have h7 : (6000 : Int) ≤ (n : Int) := by omega
          go_wp2_with fail
          go_ret
          exact ⟨true, rfl, (fun h => by cases h), rfl⟩
      · obtain rfl : k = L.length := by omega
        have hlt' : ¬ (L.length : Int) < (L.length : Int) := by omega
        rw [List.take_length] at HS
        by_cases h6 : n < 6000
        · have h7 : ¬ (6000 : Int) ≤ (n : Int) := by omega
          go_wp2_with fail
          go_ret
          exact ⟨false, rfl, fun _ => ⟨by rw [HS.out]; exact h6, by omega⟩, rfl⟩
        · have h7 : (6000 : Int) ≤ (n : Int) := by omega
          go_wp2_with fail
          go_ret
          exact ⟨true, rfl, (fun h => by cases h), rfl⟩
end Go.Proofs.YtlafcnmopclgiaaGreatDoor
