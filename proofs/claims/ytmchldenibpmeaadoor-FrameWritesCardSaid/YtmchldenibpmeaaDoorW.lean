/-
  FrameWrites.
-/
import Derived.Test.YtmchldenibpmeaaDoorM
namespace Go.Proofs.YtmchldenibpmeaaDoor
open Go.RowKit Go.Shelf

theorem write_shape (l : List UInt8) : ∃ (X : ByteArray) (k : Int), WriteEnd l = .tuple #[.string X, .int .i64 k] := by
  unfold WriteEnd
  split
  · exact ⟨_, _, rfl⟩
  · exact ⟨_, _, rfl⟩
theorem frameWrites_walk (s : ByteArray) (w : World) (hT : Tab w ∧ 11 ≤ w.heap.size) : Calls Tryd.prog 3 #[.string s] w fun e w' => e = .returned (.bool true) ∧ Below w.heap.size w w' := by
  have ha := fun W (h : Below w.heap.size w W) => awake_any W (hT.1.below h) (Nat.le_trans hT.2 h.size)
  by_cases hs : 300000 < s.size
  · have hs' : (300000 : Int) < (s.size : Int) := by omega
    have ha0 := ha w (Below.refl _ _)
    clear hs ha
    go_enter Tryd.func3, Tryd.ntmps3
    go_wp2_with fail
    refine ha0.mono ?_
    rintro e w1 ⟨rfl, hb⟩
    have HB := Lib.hid hb
    clear hb ha0
    go_wp2_with fail
    go_ret
    exact ⟨rfl, HB.out⟩
  · have hs' : ¬ (300000 : Int) < (s.size : Int) := by omega
    have h1 := write_any s w hT.1
    have h2 := fun W => rwrite_any s W
    obtain ⟨X, k, hX⟩ := write_shape s.data.toList
    rw [hX] at h1 h2
    clear hs hX
    go_enter Tryd.func3, Tryd.ntmps3
    go_wp2_with fail
    refine h1.mono ?_
    rintro e w1 ⟨rfl, hb⟩
    have B1 := Lib.hid hb
    clear hb h1
    go_wp2_with fail
    refine (h2 _).mono ?_
    rintro e w2 ⟨rfl, hb⟩
    have B2 := Lib.hid (gcall B1.out B1.out.size hb)
    have ha2 := ha w2 B2.out
    clear hb h2 ha
    go_wp2_with fail
    refine ha2.mono ?_
    rintro e w3 ⟨rfl, hb⟩
    have B3 := Lib.hid (gcall B2.out B2.out.size hb)
    clear hb ha2
    go_wp2_with fail
    go_ret
    exact ⟨rfl, B3.out⟩
end Go.Proofs.YtmchldenibpmeaaDoor
