/-
  width, behindUnits, units: ranges over a string.
-/
import Derived.Test.YtfhkahnajjbohaaDoorM
namespace Go.Proofs.YtfhkahnajjbohaaDoor
open Go.RowKit Go.Shelf

def wd (r : Nat) : Nat := if 65536 ≤ r then 2 else 1
theorem wd_bd (r : Nat) : 1 ≤ wd r ∧ wd r ≤ 2 := by unfold wd; split <;> omega
theorem width_two (n : Int) (h : 65536 ≤ n) (w : World) :
    Calls Tryd.prog 40 #[.int .i32 n] w fun e w' => e = .returned (.int .i64 2) ∧ w = w' := by
  go_enter Tryd.func40, Tryd.ntmps40
  go_wp2
  go_ret
  exact ⟨rfl, rfl⟩
theorem width_one (n : Int) (h : n < 65536) (w : World) :
    Calls Tryd.prog 40 #[.int .i32 n] w fun e w' => e = .returned (.int .i64 1) ∧ w = w' := by
  go_enter Tryd.func40, Tryd.ntmps40
  go_wp2
  go_ret
  exact ⟨rfl, rfl⟩
theorem width_any (r : Nat) (w : World) :
    Calls Tryd.prog 40 #[.int .i32 r] w fun e w' => e = .returned (.int .i64 (wd r)) ∧ w = w' := by
  unfold wd
  by_cases h : 65536 ≤ r
  · rw [if_pos h]; exact width_two r (by omega) w
  · rw [if_neg h]; exact width_one r (by omega) w

/-- behindUnits: from place i on, behind c units; f: fuel. -/
def buF : Nat → ByteArray → Nat → Nat → Int → Nat × Bool
  | 0, t, _, c, k => (t.size, (c : Int) == k)
  | f + 1, t, i, c, k => if i < t.size then (if k ≤ c then (i, (c : Int) == k) else buF f t (i + (Utf8.decode t i).2) (c + wd (Utf8.decode t i).1) k) else (t.size, (c : Int) == k)
def bu (t : ByteArray) (k : Int) : Nat × Bool := buF t.size t 0 0 k
theorem buF_end (f : Nat) (t : ByteArray) (i c : Nat) (k : Int) (h : ¬ i < t.size) : buF f t i c k = (t.size, (c : Int) == k) := by
  cases f with
  | zero => rfl
  | succ f => rw [buF, if_neg h]

def unF : Nat → ByteArray → Nat → Nat
  | 0, _, _ => 0
  | f + 1, t, i => if i < t.size then wd (Utf8.decode t i).1 + unF f t (i + (Utf8.decode t i).2) else 0
def un (t : ByteArray) : Nat := unF t.size t 0

set_option maxHeartbeats 1000000 in
theorem behind_any (t : ByteArray) (k : Int) (w : World) (hs : t.size ≤ 1000000000) :
    Calls Tryd.prog 28 #[.string t, .int .i64 k] w fun e w' => e = .returned (.tuple #[.int .i64 (bu t k).1, .bool (bu t k).2]) ∧ Below w.heap.size w w' := by
  go_enter Tryd.func28, Tryd.ntmps28
  go_wp2
  go_loopg [6, 7, 8] t.size (fun g c _ _ wx => ∃ i n : Nat, c = .int .i64 n ∧ n ≤ 2 * i ∧ i ≤ t.size ∧ t.size ≤ i + g ∧ wx.heap[w.heap.size]? = some (.stringIter t i) ∧ Below w.heap.size w wx ∧ bu t k = buF g t i n k)
  case atStart => exact ⟨0, 0, rfl, by omega, by omega, by omega, World.iter_heap _ _ _, below_iter (Below.refl _ _) (Nat.le_refl _) _ _, rfl⟩
  case round =>
    obtain ⟨i, n, rfl, hn2, his, hig, hit, hB, hbu⟩ := hrel
    by_cases hi : i < t.size
    · have hnx := fun ty => Lib.run_next_any_at (P := Tryd.prog) wr w.heap.size t i ty hit hi
      obtain ⟨hn1, hn2', hr⟩ := decode_bd t i hi
      have hih := fun p => Lib.iterAt_heap wr w.heap.size t i p hit
      obtain ⟨g, rfl⟩ : ∃ g, gk = g + 1 := ⟨gk - 1, by omega⟩
      rw [buF, if_pos hi] at hbu
      have hW := width_any (Utf8.decode t i).1
      have hwb := wd_bd (Utf8.decode t i).1
      generalize Utf8.decode t i = d at *
      obtain ⟨r, m⟩ := d
      simp only at hn1 hn2' hr hnx hbu hW hwb
      have hBi := iterAt_below hB w.heap.size (Nat.le_refl _) t (i + m)
      have hhi := hih (i + m)
      clear hih
      generalize wr.iterAt w.heap.size t (i + m) = w2 at *
      have HH := Lib.hid hhi
      generalize wd r = v at *
      by_cases hk : k ≤ n
      · rw [if_pos hk] at hbu
        have HB := Lib.hid hbu
        clear hhi hit hbu hW hwb
        go_wp2
        go_ret2
        exact ⟨by rw [HB.out]; rfl, hBi⟩
      · rw [if_neg hk] at hbu
        have HB := Lib.hid hbu
        clear hhi hit hbu
        have hk' : (n : Int) < k := by omega
        go_wp2_with fail
        refine (hW _).mono ?_
        rintro e w3 ⟨rfl, rfl⟩
        clear hW
        go_wp2
        go_roundg g
        case measure => omega
        case rel => exact ⟨i + m, n + v, by go_num, by omega, by omega, by omega, HH.out, hBi, HB.out⟩
    · have hnx := fun ty => Lib.run_next_end_at (P := Tryd.prog) wr w.heap.size t i ty hit hi
      rw [buF_end _ _ _ _ _ hi] at hbu
      have HB := Lib.hid hbu
      clear hbu
      go_wp2
      go_ret2
      exact ⟨by rw [HB.out]; rfl, hB⟩

set_option maxHeartbeats 1000000 in
theorem units_any (t : ByteArray) (w : World) (hs : t.size ≤ 1000000000) :
    Calls Tryd.prog 31 #[.string t] w fun e w' => e = .returned (.int .i64 (un t)) ∧ Below w.heap.size w w' := by
  go_enter Tryd.func31, Tryd.ntmps31
  go_wp2
  go_loopg [3, 5] t.size (fun g c _ wx => ∃ i n : Nat, c = .int .i64 n ∧ n ≤ 2 * i ∧ i ≤ t.size ∧ t.size ≤ i + g ∧ wx.heap[w.heap.size]? = some (.stringIter t i) ∧ Below w.heap.size w wx ∧ un t = n + unF g t i)
  case atStart => exact ⟨0, 0, rfl, by omega, by omega, by omega, World.iter_heap _ _ _, below_iter (Below.refl _ _) (Nat.le_refl _) _ _, by rw [un]; omega⟩
  case round =>
    obtain ⟨i, n, rfl, hn2, his, hig, hit, hB, hbu⟩ := hrel
    by_cases hi : i < t.size
    · have hnx := fun ty => Lib.run_next_any_at (P := Tryd.prog) wr w.heap.size t i ty hit hi
      obtain ⟨hn1, hn2', hr⟩ := decode_bd t i hi
      have hih := fun p => Lib.iterAt_heap wr w.heap.size t i p hit
      obtain ⟨g, rfl⟩ : ∃ g, gk = g + 1 := ⟨gk - 1, by omega⟩
      rw [unF, if_pos hi] at hbu
      have hW := width_any (Utf8.decode t i).1
      have hwb := wd_bd (Utf8.decode t i).1
      generalize Utf8.decode t i = d at *
      obtain ⟨r, m⟩ := d
      simp only at hn1 hn2' hr hnx hbu hW hwb
      have hBi := iterAt_below hB w.heap.size (Nat.le_refl _) t (i + m)
      have hhi := hih (i + m)
      clear hih
      generalize wr.iterAt w.heap.size t (i + m) = w2 at *
      have HH := Lib.hid hhi
      generalize wd r = v at *
      have HB := Lib.hid hbu
      clear hhi hit hbu
      go_wp2_with fail
      refine (hW _).mono ?_
      rintro e w3 ⟨rfl, rfl⟩
      clear hW
      go_wp2
      go_roundg g
      case measure => omega
      case rel => exact ⟨i + m, n + v, by go_num, by omega, by omega, by omega, HH.out, hBi, by rw [HB.out]; omega⟩
    · have hnx := fun ty => Lib.run_next_end_at (P := Tryd.prog) wr w.heap.size t i ty hit hi
      have hbu' : un t = n := by
        rw [hbu]
        cases gk with
        | zero => rfl
        | succ g => rw [unF, if_neg hi]; omega
      have HB := Lib.hid hbu'
      clear hbu hbu'
      go_wp2
      go_ret
      exact ⟨by rw [HB.out]; rfl, hB⟩
end Go.Proofs.YtfhkahnajjbohaaDoor
