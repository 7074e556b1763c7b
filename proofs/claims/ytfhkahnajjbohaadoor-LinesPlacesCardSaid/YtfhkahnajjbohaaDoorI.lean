/-
  The iterator of lines.
-/
import Derived.Test.YtfhkahnajjbohaaDoorH
namespace Go.Proofs.YtfhkahnajjbohaaDoor
open Go.RowKit Go.Shelf

/-- How many bytes the line ending has with which a text begins. -/
def esz (s : ByteArray) : Nat := if Lib.hasPrefix s.data.toList [13, 10] then 2 else 1
theorem ending_any (s : ByteArray) (w : World) :
    Calls Tryd.prog 39 #[.string s] w fun e w' => e = .returned (.int .i64 (esz s)) ∧ w = w' := by
  have c := Tryd.strings_HasPrefix s ⟨#[13, 10]⟩ w
  rw [show (⟨#[13, 10]⟩ : ByteArray).data.toList = [13, 10] from rfl] at c
  unfold esz
  cases h : Lib.hasPrefix s.data.toList [13, 10] <;> rw [h] at c
  all_goals
    go_enter Tryd.func39, Tryd.ntmps39
    go_wp2_with (go_at_call 50; refine c.mono ?_; rintro e w' ⟨rfl, hw⟩; rw [hw])
    go_ret
    exact ⟨rfl, rfl⟩
theorem esz_bd (s : ByteArray) : 1 ≤ esz s ∧ esz s ≤ 2 := by unfold esz; split <;> omega
theorem esz_le (s : ByteArray) (h : 1 ≤ s.size) : esz s ≤ s.size := by
  unfold esz
  split
  · rename_i hp
    rw [Lib.size_eq]
    cases hl : s.data.toList with
    | nil => rw [hl] at hp; simp [Lib.hasPrefix] at hp
    | cons a l => cases l with
      | nil => rw [hl] at hp; simp [Lib.hasPrefix] at hp
      | cons b l => simp
  · exact h

/-- The lines from byte k on; f: fuel. -/
def linesF : Nat → ByteArray → Nat → List (Nat × Nat)
  | 0, _, _ => []
  | f + 1, s, k => if ixe (tl s k) < 0 then [(k, s.size)] else (k, k + (ixe (tl s k)).toNat) :: linesF f s (k + (ixe (tl s k)).toNat + esz (tl s (k + (ixe (tl s k)).toNat)))
def linesB (s : ByteArray) : List (Nat × Nat) := linesF (s.size + 1) s 0
def encl (x : Nat × Nat) : Array Value := #[.agg #[.int .i64 x.1, .int .i64 x.2]]

set_option maxRecDepth 100000 in
set_option maxHeartbeats 1000000 in
theorem lines1 (n : Nat) (l B n₀ : Nat) (s : ByteArray) (hs : s.size ≤ 1000000000) (J Jx : List (Nat × Nat) → World → Prop) (W0 : World) (hB : B < W0.heap.size)
    (hJ : AbidesFrom W0.heap.size J)
    (hY : ∀ pre x W, J pre W → pre.length < (linesB s).length → YieldAt Fence.wide (n - 1) Tryd.prog l (encl x) W fun e W' =>
      (e = .returned (.bool true) ∧ J (pre ++ [x]) W' ∧ Kp n₀ B W W') ∨ (e = .returned (.bool false) ∧ Jx (pre ++ [x]) W'))
    (hc : W0.cell? ⟨B, 0, none⟩ = some (.string s)) (h0 : J [] W0) :
    CallsIn Fence.wide n Tryd.prog 37 #[.func (.yield l) #[] #[], .pointer (some ⟨B, 0, none⟩)] W0 fun e W' => (∃ v, e = .returned v) ∧
      ((∃ ys, ys = linesB s ∧ J ys W') ∨ (∃ pre, pre <+: linesB s ∧ Jx pre W')) := by
  refine callsIn_of_wp Tryd.func37 rfl trivial ?_ rfl
  simp only [Tryd.ntmps37, List.size_toArray, List.length_cons, List.length_nil, Nat.reduceAdd, Nat.reduceSub, Array.replicate_succ, Array.replicate_zero, List.push_toArray, List.append_toArray, List.nil_append, List.cons_append]
  gi_wp2
  gi_loopw [3, 4, 5] (fun i _ _ wr => ∃ (pre : List (Nat × Nat)) (k f : Nat), i = .int .i64 k ∧ k ≤ s.size ∧ s.size < k + f ∧ linesB s = pre ++ linesF f s k ∧ J pre wr ∧ B < wr.heap.size ∧ wr.cell? ⟨B, 0, none⟩ = some (.string s))
    (fun i _ _ _ => s.size - (intOf i).toNat)
  case atStart =>
    exact ⟨[], 0, s.size + 1, rfl, by omega, by omega, rfl, h0, hB, hc⟩
  case round =>
    obtain ⟨pre, k, f, rfl, hk, hf, hx, hJs, hB', hcs⟩ := hrel
    obtain ⟨f, rfl⟩ : ∃ f', f = f' + 1 := ⟨f - 1, by omega⟩
    rw [linesF] at hx
    have hsz : (tl s k).size = s.size - k := by simp [tl]
    have hbd := ixe_bd (tl s k)
    have hI := ixe_any (tl s k) wr (by omega)
    generalize hm : ixe (tl s k) = m at hx hbd hI
    rw [hsz] at hbd
    obtain ⟨hb1, hb2⟩ := hbd
    unfold tl at hI
    by_cases hneg : m < 0
    · rw [if_pos hneg] at hx
      have HX := Lib.hid hx
      clear hx hsz hm
      gi_wp2_with fail
      refine ⟨trivial, fun h => (by cases h), ?_⟩
      refine (callsIn_wide.2 hI).mono ?_
      rintro e w1 ⟨rfl, hb1⟩
      have hJ1 : J pre w1 := hJ _ _ _ none hJs (grown_of_below hb1) (fun r e => by cases e)
      have hc1 : w1.cell? ⟨B, 0, none⟩ = some (.string s) := (hb1.cell (p := ⟨B, 0, none⟩) hB').trans hcs
      obtain ⟨fn, tmps, assign, body, hy, hRd⟩ := hY pre (k, s.size) w1 hJ1 (by rw [HX.out]; simp)
      dsimp only [encl] at hy
      clear hI
      gi_wp2_with fail
      refine ⟨fun h => (by cases h), ?_⟩
      refine hRd.mono ?_
      rintro e W3 (⟨rfl, hJ3, hk3⟩ | ⟨rfl, hJx3⟩)
      · gi_wp2
        refine bodyPost_ret (results_none rfl _ _ _) rfl ?_
        exact ⟨⟨_, rfl⟩, .inl ⟨pre ++ [(k, s.size)], HX.out.symm, hJ3⟩⟩
      · gi_wp2
        refine bodyPost_ret (results_none rfl _ _ _) rfl ?_
        exact ⟨⟨_, rfl⟩, .inr ⟨pre ++ [(k, s.size)], ⟨[], by rw [HX.out]; simp⟩, hJx3⟩⟩
    · rw [if_neg hneg] at hx
      obtain ⟨i, rfl⟩ : ∃ i : Nat, m = i := ⟨m.toNat, by omega⟩
      simp only [Int.toNat_natCast] at hx
      have hE := ending_any (tl s (k + i))
      have hts : (tl s (k + i)).size = s.size - (k + i) := by simp [tl]
      have he1 := esz_bd (tl s (k + i))
      have he2 := esz_le (tl s (k + i)) (by omega)
      generalize esz (tl s (k + i)) = z at hx hE he1 he2
      rw [hts] at he2
      unfold tl at hE
      have hki : k + i ≤ s.size := by omega
      have HX := Lib.hid hx
      clear hx hsz hm hts
      gi_wp2_with fail
      refine ⟨trivial, fun h => (by cases h), ?_⟩
      refine (callsIn_wide.2 hI).mono ?_
      rintro e w1 ⟨rfl, hb1⟩
      have hJ1 : J pre w1 := hJ _ _ _ none hJs (grown_of_below hb1) (fun r e => by cases e)
      have hc1 : w1.cell? ⟨B, 0, none⟩ = some (.string s) := (hb1.cell (p := ⟨B, 0, none⟩) hB').trans hcs
      obtain ⟨fn, tmps, assign, body, hy, hRd⟩ := hY pre (k, k + i) w1 hJ1 (by rw [HX.out]; simp)
      dsimp only [encl] at hy
      rw [show (((k + i : Nat)) : Int) = (k : Int) + i by omega] at hy
      clear hI
      gi_wp2_with fail
      refine ⟨fun h => (by cases h), ?_⟩
      refine hRd.mono ?_
      rintro e W3 (⟨rfl, hJ3, hk3⟩ | ⟨rfl, hJx3⟩)
      · have hc3 := hk3.2 _ hc1
        have hz3 : B < W3.heap.size := Nat.lt_of_lt_of_le hB' (Nat.le_trans hb1.size hk3.1.size)
        have hE3 := hE W3
        clear hE
        gi_wp2_with fail
        refine ⟨trivial, fun h => (by cases h), ?_⟩
        refine (callsIn_wide.2 hE3).mono ?_
        rintro e w4 ⟨rfl, rfl⟩
        gi_wp2
        go_roundw
        case rel => exact ⟨pre ++ [(k, k + i)], k + i + z, f, by go_num, by omega, by omega, by rw [HX.out]; simp, hJ3, hz3, hc3⟩
        case measure => simp [intOf]; omega
      · gi_wp2
        refine bodyPost_ret (results_none rfl _ _ _) rfl ?_
        exact ⟨⟨_, rfl⟩, .inr ⟨pre ++ [(k, k + i)], ⟨linesF f s (k + i + z), by rw [HX.out]; simp⟩, hJx3⟩⟩

theorem lines_stops (n B n₀ : Nat) (s : ByteArray) (hs : s.size ≤ 1000000000) (w : World) (hB : B < w.heap.size) (hc : w.cell? ⟨B, 0, none⟩ = some (.string s)) :
    SeqStopsK Fence.wide n Tryd.prog 37 #[.pointer (some ⟨B, 0, none⟩)] encl (Kp n₀ B) (fun xs => xs = linesB s) (fun pre => pre <+: linesB s) (linesB s).length w := fun l J Jx W hW hJ _ hY h0 =>
  lines1 n l B n₀ s hs J Jx W (Nat.lt_of_lt_of_le hB hW.size) hJ hY ((hW.cell (p := ⟨B, 0, none⟩) hB).trans hc) h0

theorem linesOf_any (s : ByteArray) (w : World) :
    Calls Tryd.prog 26 #[.string s] w fun e w' => e = .returned (.func (.func 37) #[] #[.pointer (some ⟨w.heap.size, 0, none⟩)]) ∧ w' = w.alloc (.cells #[.string s] 9) := by
  have hmf : ∀ (fn : Fn) (first cap : Array Value) (w : World), (Instr.makeFunc fn first cap).run Tryd.prog w = .ok (.func fn first cap) w := fun _ _ _ _ => rfl
  go_enter Tryd.func26, Tryd.ntmps26
  go_wp2
  go_ret
  exact ⟨rfl, rfl⟩
end Go.Proofs.YtfhkahnajjbohaaDoor
