/-
  balance.
-/
import Derived.Test.YtbmcgmnmmnileaaD
namespace Go.Proofs.Ytbmcgmnmmnileaa
open Go.RowKit Go.Shelf

/-- What balance makes of two trees. -/
def Bal (w : World) (l r : T) (e : Ending) (w' : World) : Prop :=
  ∃ b t, e = .returned (.pointer (some ⟨b, 0, none⟩)) ∧ At w' b t ∧ t.Ok ∧ t.text = l.text ++ r.text ∧ max l.depth r.depth ≤ t.depth ∧ t.depth ≤ 1 + max l.depth r.depth ∧ (l.depth ≤ r.depth + 1 → r.depth ≤ l.depth + 1 → t.depth = 1 + max l.depth r.depth) ∧ Below w.heap.size w w'
theorem size_of_text {t : T} {x : List UInt8} (h : t.text = x) : t.size = x.length := by rw [← T.size_text, h]

set_option maxRecDepth 100000 in
set_option maxHeartbeats 4000000 in
theorem balance_cat (w : World) (bL bR : Nat) (l r : T) (hL : At w bL l) (hR : At w bR r) (ol : l.Ok) (or : r.Ok) (h1 : l.depth ≤ r.depth + 1) (h2 : r.depth ≤ l.depth + 1) (hs : l.size + r.size ≤ 1000000) :
    Calls Try.prog 52 #[.pointer (some ⟨bL, 0, none⟩), .pointer (some ⟨bR, 0, none⟩)] w (Bal w l r) := by
  have d1 := T.depth_le l ol
  have d2 := T.depth_le r or
  obtain ⟨_, _, a2⟩ := hL.cells
  obtain ⟨_, _, b2⟩ := hR.cells
  have cc := fun W (hW : Below w.heap.size w W) => concat_makes W bL bR l r (hL.below (Nat.le_refl _) hW) (hR.below (Nat.le_refl _) hW) (by omega) (by omega) (by omega)
  have H : Hid ((T.cat l r).Ok ∧ (T.cat l r).text = l.text ++ r.text ∧ (T.cat l r).depth = 1 + max l.depth r.depth) := Lib.hid ⟨⟨ol, or, h1, h2⟩, rfl, rfl⟩
  have i1 : (l.depth : Int) ≤ (r.depth : Int) + 1 := by omega
  have i2 : (r.depth : Int) ≤ (l.depth : Int) + 1 := by omega
  have i3 : (l.depth : Int) ≤ 1000000 := by omega
  have i4 : (r.depth : Int) ≤ 1000000 := by omega
  have i5 : (0 : Int) ≤ (l.depth : Int) := by omega
  have i6 : (0 : Int) ≤ (r.depth : Int) := by omega
  have w1 : IntKind.i64.wrap ((r.depth : Int) + 1) = (r.depth : Int) + 1 := IntWalk.i64_in _ (by omega)
  have w2 : IntKind.i64.wrap ((l.depth : Int) + 1) = (l.depth : Int) + 1 := IntWalk.i64_in _ (by omega)
  clear hL hR ol or h1 h2 hs d1 d2
  go_enter Try.func52, Try.ntmps52
  go_wp2
  go_quiet (fail)
  go_wp2
  go_quiet (fail)
  go_wp2_with fail
  refine Calls.mono (cc _ (below_drewN (Below.refl _ _) _)) ?_
  rintro e w1 ⟨b, rfl, hA, hB⟩
  have hB2 := (below_drewN (Below.refl w.heap.size w) _).trans hB
  go_wp2
  go_ret
  obtain ⟨o1, o2, o3⟩ := H.out
  exact ⟨b, _, rfl, hA, o1, o2, by rw [o3]; omega, by rw [o3]; omega, fun _ _ => o3, hB2⟩

/-- What the turn makes, by the parts. -/
theorem balance_right (w : World) (bL bR : Nat) (l r : T) (hL : At w bL l) (hR : At w bR r) (ol : l.Ok) (or : r.Ok) (h : l.depth = r.depth + 2) (hs : l.size + r.size ≤ 200000) :
    Calls Try.prog 59 #[.pointer (some ⟨bL, 0, none⟩), .pointer (some ⟨bR, 0, none⟩)] w (Bal w l r) := by
  have p1 := T.depth_pos l
  have p2 := T.depth_pos r
  have d1 := T.depth_le l ol
  have d2 := T.depth_le r or
  cases l with
  | leaf s => simp only [T.depth] at h; omega
  | cat ll lr =>
    obtain ⟨ol1, ol2, g1, g2⟩ := ol
    simp only [T.depth, T.size] at h hs d1
    by_cases hd : ll.depth < lr.depth
    · cases lr with
      | leaf s => simp only [T.depth] at hd; have := T.depth_pos ll; omega
      | cat il ir =>
        obtain ⟨oi1, oi2, k1, k2⟩ := ol2
        simp only [T.depth, T.size] at h hs hd g1 g2 d1
        have d3 := T.depth_le ll ol1
        have d4 := T.depth_le il oi1
        have d5 := T.depth_le ir oi2
        refine Calls.mono (turnR_two w bL bR ll il ir r hL hR hd (by omega) (by omega)) ?_
        rintro e w' ⟨b, rfl, hA, hB⟩
        refine ⟨b, _, rfl, hA, ⟨⟨ol1, oi1, ?_, ?_⟩, ⟨oi2, or, ?_, ?_⟩, ?_, ?_⟩, by simp only [T.text, List.append_assoc], ?_, ?_, fun _ _ => ?_, hB⟩
        all_goals (simp only [T.depth] at *; omega)
    · have d3 := T.depth_le ll ol1
      have d4 := T.depth_le lr ol2
      refine Calls.mono (turnR_one w bL bR ll lr r hL hR (by omega) (by omega) (by omega)) ?_
      rintro e w' ⟨b, rfl, hA, hB⟩
      refine ⟨b, _, rfl, hA, ⟨ol1, ⟨ol2, or, ?_, ?_⟩, ?_, ?_⟩, by simp only [T.text, List.append_assoc], ?_, ?_, fun _ _ => ?_, hB⟩
      all_goals (simp only [T.depth] at *; omega)

/-- What the turn makes, by the parts. -/
theorem balance_left (w : World) (bL bR : Nat) (l r : T) (hL : At w bL l) (hR : At w bR r) (ol : l.Ok) (or : r.Ok) (h : r.depth = l.depth + 2) (hs : l.size + r.size ≤ 200000) :
    Calls Try.prog 60 #[.pointer (some ⟨bL, 0, none⟩), .pointer (some ⟨bR, 0, none⟩)] w (Bal w l r) := by
  have p1 := T.depth_pos l
  have p2 := T.depth_pos r
  have d1 := T.depth_le l ol
  have d2 := T.depth_le r or
  cases r with
  | leaf s => simp only [T.depth] at h; omega
  | cat rl rr =>
    obtain ⟨or1, or2, g1, g2⟩ := or
    simp only [T.depth, T.size] at h hs d2
    by_cases hd : rr.depth < rl.depth
    · cases rl with
      | leaf s => simp only [T.depth] at hd; have := T.depth_pos rr; omega
      | cat il ir =>
        obtain ⟨oi1, oi2, k1, k2⟩ := or1
        simp only [T.depth, T.size] at h hs hd g1 g2 d2
        have d3 := T.depth_le rr or2
        have d4 := T.depth_le il oi1
        have d5 := T.depth_le ir oi2
        refine Calls.mono (turnL_two w bL bR l il ir rr hL hR hd (by omega) (by omega)) ?_
        rintro e w' ⟨b, rfl, hA, hB⟩
        refine ⟨b, _, rfl, hA, ⟨⟨ol, oi1, ?_, ?_⟩, ⟨oi2, or2, ?_, ?_⟩, ?_, ?_⟩, by simp only [T.text, List.append_assoc], ?_, ?_, fun _ _ => ?_, hB⟩
        all_goals (simp only [T.depth] at *; omega)
    · have d3 := T.depth_le rr or2
      have d4 := T.depth_le rl or1
      refine Calls.mono (turnL_one w bL bR l rl rr hL hR (by omega) (by omega) (by omega)) ?_
      rintro e w' ⟨b, rfl, hA, hB⟩
      refine ⟨b, _, rfl, hA, ⟨⟨ol, or1, ?_, ?_⟩, or2, ?_, ?_⟩, by simp only [T.text, List.append_assoc], ?_, ?_, fun _ _ => ?_, hB⟩
      all_goals (simp only [T.depth] at *; omega)

set_option maxRecDepth 100000 in
set_option maxHeartbeats 4000000 in
theorem balance_R (w : World) (bL bR : Nat) (l r : T) (hL : At w bL l) (hR : At w bR r) (ol : l.Ok) (or : r.Ok) (h : l.depth = r.depth + 2) (hs : l.size + r.size ≤ 200000) :
    Calls Try.prog 52 #[.pointer (some ⟨bL, 0, none⟩), .pointer (some ⟨bR, 0, none⟩)] w (Bal w l r) := by
  have d1 := T.depth_le l ol
  have d2 := T.depth_le r or
  obtain ⟨_, _, a2⟩ := hL.cells
  obtain ⟨_, _, b2⟩ := hR.cells
  have cc := fun W (hW : Below w.heap.size w W) => balance_right W bL bR l r (hL.below (Nat.le_refl _) hW) (hR.below (Nat.le_refl _) hW) ol or h hs
  have i1 : (r.depth : Int) + 1 < (l.depth : Int) := by omega
  have i3 : (l.depth : Int) ≤ 1000000 := by omega
  have i4 : (r.depth : Int) ≤ 1000000 := by omega
  have i5 : (0 : Int) ≤ (l.depth : Int) := by omega
  have i6 : (0 : Int) ≤ (r.depth : Int) := by omega
  have w1 : IntKind.i64.wrap ((r.depth : Int) + 1) = (r.depth : Int) + 1 := IntWalk.i64_in _ (by omega)
  have w2 : IntKind.i64.wrap ((l.depth : Int) + 1) = (l.depth : Int) + 1 := IntWalk.i64_in _ (by omega)
  clear hL hR ol or h hs d1 d2
  go_enter Try.func52, Try.ntmps52
  go_wp2
  go_quiet (fail)
  go_wp2_with fail
  refine Calls.mono (cc _ (below_drewN (Below.refl _ _) _)) ?_
  rintro e w1 ⟨b, t, rfl, hA, q1, q2, q3, q4, q5, hB⟩
  have HR := Lib.hid (And.intro q1 (And.intro q2 (And.intro q3 (And.intro q4 q5))))
  clear q1 q2 q3 q4 q5
  have hB2 := (below_drewN (Below.refl w.heap.size w) _).trans hB
  go_wp2
  go_ret
  obtain ⟨q1, q2, q3, q4, q5⟩ := HR.out
  exact ⟨b, t, rfl, hA, q1, q2, q3, q4, q5, hB2⟩

set_option maxRecDepth 100000 in
set_option maxHeartbeats 4000000 in
theorem balance_L (w : World) (bL bR : Nat) (l r : T) (hL : At w bL l) (hR : At w bR r) (ol : l.Ok) (or : r.Ok) (h : r.depth = l.depth + 2) (hs : l.size + r.size ≤ 200000) :
    Calls Try.prog 52 #[.pointer (some ⟨bL, 0, none⟩), .pointer (some ⟨bR, 0, none⟩)] w (Bal w l r) := by
  have d1 := T.depth_le l ol
  have d2 := T.depth_le r or
  obtain ⟨_, _, a2⟩ := hL.cells
  obtain ⟨_, _, b2⟩ := hR.cells
  have cc := fun W (hW : Below w.heap.size w W) => balance_left W bL bR l r (hL.below (Nat.le_refl _) hW) (hR.below (Nat.le_refl _) hW) ol or h hs
  have i1 : (l.depth : Int) + 1 < (r.depth : Int) := by omega
  have i2 : (l.depth : Int) ≤ (r.depth : Int) + 1 := by omega
  have i3 : (l.depth : Int) ≤ 1000000 := by omega
  have i4 : (r.depth : Int) ≤ 1000000 := by omega
  have i5 : (0 : Int) ≤ (l.depth : Int) := by omega
  have i6 : (0 : Int) ≤ (r.depth : Int) := by omega
  have w1 : IntKind.i64.wrap ((r.depth : Int) + 1) = (r.depth : Int) + 1 := IntWalk.i64_in _ (by omega)
  have w2 : IntKind.i64.wrap ((l.depth : Int) + 1) = (l.depth : Int) + 1 := IntWalk.i64_in _ (by omega)
  clear hL hR ol or h hs d1 d2
  go_enter Try.func52, Try.ntmps52
  go_wp2
  go_quiet (fail)
  go_wp2_with fail
  go_quiet (fail)
  go_wp2_with fail
  refine Calls.mono (cc _ (below_drewN (Below.refl _ _) _)) ?_
  rintro e w1 ⟨b, t, rfl, hA, q1, q2, q3, q4, q5, hB⟩
  have HR := Lib.hid (And.intro q1 (And.intro q2 (And.intro q3 (And.intro q4 q5))))
  clear q1 q2 q3 q4 q5
  have hB2 := (below_drewN (Below.refl w.heap.size w) _).trans hB
  go_wp2
  go_ret
  obtain ⟨q1, q2, q3, q4, q5⟩ := HR.out
  exact ⟨b, t, rfl, hA, q1, q2, q3, q4, q5, hB2⟩

theorem balance_any (w : World) (bL bR : Nat) (l r : T) (hL : At w bL l) (hR : At w bR r) (ol : l.Ok) (or : r.Ok) (h1 : l.depth ≤ r.depth + 2) (h2 : r.depth ≤ l.depth + 2) (hs : l.size + r.size ≤ 200000) :
    Calls Try.prog 52 #[.pointer (some ⟨bL, 0, none⟩), .pointer (some ⟨bR, 0, none⟩)] w (Bal w l r) := by
  by_cases a : l.depth = r.depth + 2
  · exact balance_R w bL bR l r hL hR ol or a hs
  by_cases b : r.depth = l.depth + 2
  · exact balance_L w bL bR l r hL hR ol or b hs
  · exact balance_cat w bL bR l r hL hR ol or (by omega) (by omega) (by omega)
end Go.Proofs.Ytbmcgmnmmnileaa
