/-
  The law UtfRunes: its walk.
-/
import Derived.Test.YtffldjlgmbiplaaDoorH
namespace Go.Proofs.YtffldjlgmbiplaaDoor
open Go.RowKit

set_option maxRecDepth 100000 in
set_option maxHeartbeats 1600000 in
theorem utfRunes_walk (s : ByteArray) (a b : Int) (w : World) (hT : Lib.Utf8Tabs 0 1 w) :
    Calls Tryd.prog 5 #[.string s, .int .i64 a, .int .i64 b] w fun e w' => e = .returned (.bool true) ∧ Below w.heap.size w w' := by
  have c9 := rune_any s w hT
  have c21 := rrune_any s
  have c12 := pair_any a b
  have c22 := rpair_any a b
  have c11 := halves_any a
  have c23 := rhalves_any a
  have c10 := put_any a
  have c24 := rput_any a
  generalize rp s = p at c9 c21
  generalize rn s = n at c9 c21
  generalize pairP a b = q at c12 c22
  generalize pairQ a b = i at c12 c22
  generalize halfH a = h at c11 c23
  generalize halfL a = l at c11 c23
  generalize putB a = t at c10 c24
  go_enter Tryd.func5, Tryd.ntmps5
  go_wp2_with fail
  refine c9.mono ?_
  rintro e w1 ⟨rfl, hb1⟩
  go_wp2_with fail
  refine (c21 _).mono ?_
  rintro e w2 ⟨rfl, hb2⟩
  go_wp2_with fail
  refine (c12 _).mono ?_
  rintro e w' ⟨rfl, rfl⟩
  go_wp2_with fail
  refine (c22 _).mono ?_
  rintro e w' ⟨rfl, rfl⟩
  go_wp2_with fail
  refine (c11 _).mono ?_
  rintro e w' ⟨rfl, rfl⟩
  go_wp2_with fail
  refine (c23 _).mono ?_
  rintro e w' ⟨rfl, rfl⟩
  go_wp2_with fail
  refine (c10 _).mono ?_
  rintro e w' ⟨rfl, rfl⟩
  go_wp2_with fail
  refine (c24 _).mono ?_
  rintro e w3 ⟨rfl, hb3⟩
  go_wp2
  go_ret
  exact ⟨rfl, (hb1.trans (hb2.mono hb1.size)).trans (hb3.mono (Nat.le_trans hb1.size hb2.size))⟩
end Go.Proofs.YtffldjlgmbiplaaDoor
