/-
  The walks of the reference's Valid, Len16, Unit, Byte.
-/
import Derived.Test.YtfedmhccbfhcbaaGreatDoorPL
namespace Go.Proofs.YtfedmhccbfhcbaaGreatDoor.Utf
open Go.RowKit

def strSize : Value → Nat
  | .string t => t.size
  | _ => 0
theorem isEmpty_no {s : ByteArray} (hs : 0 < s.size) : s.toList.isEmpty = false := by
  rw [Lib.toList_data]
  cases h : s.data.toList with
  | nil => exact absurd (by rw [Lib.size_eq, h]; rfl) (Nat.ne_of_gt hs)
  | cons _ _ => rfl
theorem isEmpty_yes {s : ByteArray} (hs : s.size = 0) : s.toList.isEmpty = true := by
  rw [Lib.toList_data]
  have : s.data.toList = [] := List.eq_nil_of_length_eq_zero (by rw [← Lib.size_eq]; exact hs)
  rw [this]; rfl
theorem okAll_cons (x : Nat × ByteArray) (xs : List (Nat × ByteArray)) : okAll (x :: xs) = (!strayB x.2 && okAll xs) := by simp [okAll]

set_option maxRecDepth 100000 in
set_option maxHeartbeats 1000000 in
theorem rvalid_any (s : ByteArray) (w : World) :
    Calls Tryz.prog 20 #[.string s] w fun e w' => e = .returned (.bool (validS s)) ∧ Below w.heap.size w w' := by
  have H0 : Hid (validS s = okAll (seqF s.size s 0)) := rfl
  have HS : Hid (s.extract 0 s.size = s) := by
    apply ba_ext; rw [extract_list, List.drop_zero, List.take_of_length_le (by rw [← Lib.size_eq]; exact Nat.le_refl _)]
  generalize validS s = V at H0 ⊢
  go_enter Tryz.func20, Tryz.ntmps20
  go_wp2
  go_loopw [0, 3, 4] (fun v _ _ wr => ∃ (k f : Nat) (t : ByteArray), v = .string t ∧ k ≤ s.size ∧ s.size ≤ k + f ∧ s.extract k s.size = t ∧ V = okAll (seqF f s k) ∧ Below w.heap.size w wr) (fun v _ _ _ => strSize v)
  case atStart => exact ⟨0, s.size, s, rfl, by omega, by omega, HS.out, H0.out, Below.refl _ _⟩
  case round =>
    obtain ⟨k, f, t, rfl, hk, hf, ht, hV, hB⟩ := hrel
    have hz : t.size = s.size - k := by rw [← ht]; exact size_extract s k s.size (Nat.le_refl _)
    by_cases hlt : k < s.size
    · have hne := isEmpty_no (s := t) (by omega)
      rw [seqF_step f s k hlt hf, okAll_cons] at hV
      obtain ⟨c1, c2, c3, c4, c5, c6⟩ := char_facts s k hlt
      have htt := tail_tail s k (rn (s.extract k s.size)) c3
      simp only at hV
      rw [c6] at hV
      rw [ht] at hV htt c1 c2 c3
      have hR := rrune_any t wr
      generalize rn t = n at hR hV htt c1 c2 c3
      generalize rp t = p at hR hV
      have HT := Lib.hid ht
      have HTT := Lib.hid htt
      have hnt : n ≤ t.size := by omega
      have hnz : (t.extract n t.size).size < t.size := by rw [size_extract t n t.size (Nat.le_refl _)]; omega
      by_cases hp : p < 0
      · rw [decide_eq_true hp] at hV
        have HV := Lib.hid hV
        clear hV ht htt hz c4 c5 c6
        go_wp2_with fail
        refine hR.mono ?_
        rintro e w1 ⟨rfl, hb1⟩
        go_wp2
        go_ret
        exact ⟨by rw [HV.out]; rfl, hB.trans (hb1.mono hB.size)⟩
      · rw [decide_eq_false hp] at hV
        have HV := Lib.hid hV
        clear hV ht htt hz c4 c5 c6
        go_wp2_with fail
        refine hR.mono ?_
        rintro e w1 ⟨rfl, hb1⟩
        go_wp2
        go_roundw
        case rel => exact ⟨k + n, f - 1, t.extract n t.size, rfl, c3, by omega, HTT.out.symm, by rw [HV.out]; simp, hB.trans (hb1.mono hB.size)⟩
        case measure => simp only [strSize]; exact hnz
    · have hne := isEmpty_yes (s := t) (by omega)
      rw [seqF_end f s k hlt] at hV
      have HV := Lib.hid hV
      clear hV ht hz
      go_wp2
      go_ret
      exact ⟨by rw [HV.out]; rfl, hB⟩

end Go.Proofs.YtfedmhccbfhcbaaGreatDoor.Utf
