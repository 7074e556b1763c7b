/-
  strings.IndexAny at the two bytes of line endings, for any text of at most 65536 bytes.
-/
import Derived.Test.YtfhkahnajjbohaaDoorC
import Derived.Shelf.Strings.IndexAnyAll
import Derived.Lib.OthersKept
import Derived.WalkMore
namespace Go.Proofs.YtfhkahnajjbohaaDoor
open Go.RowKit

theorem below_drewN {B : Nat} {a w : World} (h : Below B a w) (n : Nat) : Below B a (w.drewN n) := ⟨h.os, h.tape, h.output, h.size, h.block⟩
theorem enc2e (n : Int) (h : 128 ≤ n) (h2 : n < 2048) : Utf8.encode n = ⟨#[UInt8.ofNat (192 + n.toNat / 64), UInt8.ofNat (128 + n.toNat % 64)]⟩ := by
  have hv : Utf8.valid n = true := by simp [Utf8.valid]; omega
  simp only [Utf8.encode, hv, if_true]
  rw [if_neg (by omega), if_pos (by omega)]
theorem enc2 (n : Int) (h : 128 ≤ n) (h2 : n < 2048) : ∃ q, Utf8.encode n = q ∧ q.size = 2 ∧ ∃ hlt : 1 < q.size, 128 ≤ (q[1]'hlt).toNat := by
  refine ⟨_, enc2e n h h2, rfl, by show 1 < 2; omega, ?_⟩
  show 128 ≤ (UInt8.ofNat (128 + n.toNat % 64)).toNat
  simp [UInt8.toNat_ofNat']; omega
theorem enc3 (n : Int) (h : 2048 ≤ n) (h2 : n < 65536) (h3 : n < 55296 ∨ 57343 < n) : ∃ q, Utf8.encode n = q ∧ q.size = 3 := by
  have hv : Utf8.valid n = true := by simp [Utf8.valid]; omega
  refine ⟨_, rfl, ?_⟩
  simp only [Utf8.encode, hv, if_true]
  rw [if_neg (by omega), if_neg (by omega), if_pos (by omega)]
  rfl
theorem enc4 (n : Int) (h : 65536 ≤ n) (h2 : n ≤ 1114111) : ∃ q, Utf8.encode n = q ∧ q.size = 4 := by
  have hv : Utf8.valid n = true := by simp [Utf8.valid]; omega
  refine ⟨_, rfl, ?_⟩
  simp only [Utf8.encode, hv, if_true]
  rw [if_neg (by omega), if_neg (by omega), if_neg (by omega)]
  rfl

set_option maxRecDepth 100000 in
set_option maxHeartbeats 1000000 in
theorem rune_bad (r : Int) (w : World) (h1 : 128 ≤ r) (h2 : ((r : Int) == 65533) = false) (hv : Lib.validRune r = false) :
    Calls Tryd.prog 46 #[.string ⟨#[13, 10]⟩, .int .i32 r] w fun e w' => e = .returned (.int .i64 (-1)) ∧ Below w.heap.size w w' := by
  have c := Tryd.utf8_ValidRune r w
  rw [hv] at c
  have h3 : ¬ r < 128 := by omega
  have h4 : (0 : Int) ≤ r := by omega
  go_enter Tryd.func46, Tryd.ntmps46
  go_wp2_with (go_at_call 53; refine c.mono ?_; rintro e w' ⟨rfl, rfl⟩)
  go_ret
  exact ⟨rfl, Below.refl _ _⟩

set_option maxRecDepth 100000 in
set_option maxHeartbeats 1000000 in
theorem rune_long (r : Int) (w : World) (h1 : 2048 ≤ r) (h2 : ((r : Int) == 65533) = false) (hv : Lib.validRune r = true) :
    Calls Tryd.prog 46 #[.string ⟨#[13, 10]⟩, .int .i32 r] w fun e w' => e = .returned (.int .i64 (-1)) ∧ Below w.heap.size w w' := by
  have c := Tryd.utf8_ValidRune r w
  rw [hv] at c
  have hv' := of_decide_eq_true hv
  have h3 : ¬ r < 128 := by omega
  have h4 : (0 : Int) ≤ r := by omega
  have hu : r ≤ 1114111 := by omega
  obtain ⟨q, hq, hz⟩ : ∃ q, Utf8.encode r = q ∧ (q.size = 3 ∨ q.size = 4) := by
    by_cases h : r < 65536
    · obtain ⟨q, a, b⟩ := enc3 r h1 h (by omega); exact ⟨q, a, .inl b⟩
    · obtain ⟨q, a, b⟩ := enc4 r (by omega) (by omega); exact ⟨q, a, .inr b⟩
  clear hv hv'
  rcases hz with hz | hz
  all_goals
    go_enter Tryd.func46, Tryd.ntmps46
    go_wp2_with (go_at_call 53; refine c.mono ?_; rintro e w' ⟨rfl, rfl⟩)
    clear c
    go_step3
    go_wp2_with fail
    go_loop [9] (fun i => i = .int .i64 2 ∨ i = .int .i64 3) (fun _ => 0)
    case atStart => first | exact .inl rfl | exact .inr rfl
    case round =>
      rcases hrel with rfl | rfl
      all_goals
        go_wp2_with fail
        try rw [Exit.noGoto_ret]
        go_ret
        exact ⟨rfl, Below.refl _ _⟩

set_option maxRecDepth 100000 in
set_option maxHeartbeats 1000000 in
theorem rune_two (r : Int) (w : World) (h1 : 128 ≤ r) (h2 : r < 2048) :
    Calls Tryd.prog 46 #[.string ⟨#[13, 10]⟩, .int .i32 r] w fun e w' => e = .returned (.int .i64 (-1)) ∧ Below w.heap.size w w' := by
  have c := Tryd.utf8_ValidRune r w
  rw [show Lib.validRune r = true from decide_eq_true (by omega)] at c
  have h3 : ¬ r < 128 := by omega
  have h4 : (0 : Int) ≤ r := by omega
  have hu : ((r : Int) == 65533) = false := beq_eq_false_iff_ne.2 (by omega)
  obtain ⟨q, hq, hz, hlt, hy⟩ := enc2 r h1 h2
  obtain ⟨y, hy'⟩ : ∃ y, q[1]'hlt = y := ⟨_, rfl⟩
  rw [hy'] at hy
  have hyn : (((({ data := #[13, 10] } : ByteArray)[1]'(by decide)).toNat : Int) != (y.toNat : Int)) = true := by
    show ((10 : Int) != (y.toNat : Int)) = true
    simp; omega
  go_enter Tryd.func46, Tryd.ntmps46
  go_wp2_with (go_at_call 53; refine c.mono ?_; rintro e w' ⟨rfl, rfl⟩)
  clear c
  go_step3
  go_wp2_with fail
  go_loop [9] (fun i => i = .int .i64 1) (fun _ => 0)
  case atStart => rfl
  case round =>
    subst hrel
    go_wp2_with fail
    go_step3
    go_wp2_with fail
    go_quiet (fail)
    have hBq : Below w'.heap.size w' (w'.drewN nq) := below_drewN (Below.refl _ _) nq
    generalize w'.drewN nq = wq at *
    have hwr : IntKind.i64.wrap (1 + 1) = 2 := by decide
    have hcz : (⟨#[13, 10]⟩ : ByteArray).size = 2 := rfl
    have hex : (⟨#[13, 10]⟩ : ByteArray).extract 2 2 = ⟨#[]⟩ := rfl
    go_wp2_with fail
    go_quiet ((go_at_call 52; exact Calls.quiet_of_same (Tryd.strings_IndexByte _ _ _)))
    go_wp2_with fail
    simp +zetaDelta only [Exit.inBlock, Exit.noGoto_ret, Exit.then]
    go_ret
    exact ⟨rfl, below_drewN hBq _⟩

theorem below_iter {B : Nat} {a w : World} (h : Below B a w) (hz : B ≤ w.heap.size) (s : ByteArray) (p : Nat) : Below B a (w.iter s p) := by
  refine h.trans ?_
  exact (Below.refl _ _).alloc hz (.stringIter s p)

set_option maxRecDepth 100000 in
set_option maxHeartbeats 1000000 in
theorem rune_err (w : World) :
    Calls Tryd.prog 46 #[.string ⟨#[13, 10]⟩, .int .i32 65533] w fun e w' => e = .returned (.int .i64 (-1)) ∧ Below w.heap.size w w' := by
  go_enter Tryd.func46, Tryd.ntmps46
  go_wp2_with fail
  go_loopw [5, 6] (fun _ _ wr => ∃ k : Nat, k ≤ 2 ∧ wr = w.iter ⟨#[13, 10]⟩ k) (fun _ _ wr => 2 - wr.iterPos w.heap.size)
  case atStart => exact ⟨0, by omega, rfl⟩
  case round =>
    obtain ⟨k, hk, rfl⟩ := hrel
    rcases (by omega : k = 0 ∨ k = 1 ∨ k = 2) with rfl | rfl | rfl
    · have hnx := fun ty => run_next_ascii (P := Tryd.prog) w ⟨#[13, 10]⟩ 0 ty (by decide) (by decide)
      go_wp2
      go_roundw
      case rel => exact ⟨1, by omega, rfl⟩
      case measure => simp
    · have hnx := fun ty => run_next_ascii (P := Tryd.prog) w ⟨#[13, 10]⟩ 1 ty (by decide) (by decide)
      go_wp2
      go_roundw
      case rel => exact ⟨2, by omega, rfl⟩
      case measure => simp
    · have hnx := fun ty => run_next_end (P := Tryd.prog) w ⟨#[13, 10]⟩ 2 ty (by decide)
      go_wp2
      go_ret
      exact ⟨rfl, below_iter (Below.refl _ _) (Nat.le_refl _) _ _⟩

theorem rune_hi (r : Int) (w : World) (h1 : 128 ≤ r) :
    Calls Tryd.prog 46 #[.string ⟨#[13, 10]⟩, .int .i32 r] w fun e w' => e = .returned (.int .i64 (-1)) ∧ Below w.heap.size w w' := by
  by_cases h2 : r < 2048
  · exact rune_two r w h1 h2
  by_cases h3 : r = 65533
  · subst h3; exact rune_err w
  have h4 : ((r : Int) == 65533) = false := beq_eq_false_iff_ne.2 h3
  cases hv : Lib.validRune r
  · exact rune_bad r w h1 h4 hv
  · exact rune_long r w (by omega) h4 hv

end Go.Proofs.YtfhkahnajjbohaaDoor
