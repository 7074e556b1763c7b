/-
  join.
-/
import Derived.Test.YtbmcgmnmmnileaaE
namespace Go.Proofs.Ytbmcgmnmmnileaa
open Go.RowKit Go.Shelf

/-- What join makes of two trees. -/
def Joined (w : World) (l r : T) (e : Ending) (w' : World) : Prop :=
  ∃ b t, e = .returned (.pointer (some ⟨b, 0, none⟩)) ∧ At w' b t ∧ t.Ok ∧ t.text = l.text ++ r.text ∧ max l.depth r.depth ≤ t.depth ∧ t.depth ≤ 1 + max l.depth r.depth ∧ Below w.heap.size w w'

theorem join_nil (w : World) (v : Value) (h : v = .pointer none ∨ ∃ b, v = .pointer (some ⟨b, 0, none⟩)) :
    Calls Try.prog 42 #[.pointer none, v] w fun e w' => e = .returned v ∧ w = w' := by
  rcases h with rfl | ⟨b, rfl⟩
  all_goals
    go_enter Try.func42, Try.ntmps42
    go_wp2
    go_ret
    exact ⟨rfl, rfl⟩
theorem join_none (w : World) (b : Nat) :
    Calls Try.prog 42 #[.pointer (some ⟨b, 0, none⟩), .pointer none] w fun e w' => e = .returned (.pointer (some ⟨b, 0, none⟩)) ∧ w = w' := by
  go_enter Try.func42, Try.ntmps42
  go_wp2
  go_ret
  exact ⟨rfl, rfl⟩

set_option maxRecDepth 100000 in
set_option maxHeartbeats 4000000 in
theorem join_eq (w : World) (bL bR : Nat) (l r : T) (hL : At w bL l) (hR : At w bR r) (ol : l.Ok) (or : r.Ok) (h : l.depth = r.depth) (hs : l.size + r.size ≤ 200000) :
    Calls Try.prog 42 #[.pointer (some ⟨bL, 0, none⟩), .pointer (some ⟨bR, 0, none⟩)] w (Joined w l r) := by
  have d1 := T.depth_le l ol
  have d2 := T.depth_le r or
  obtain ⟨_, _, a2⟩ := hL.cells
  obtain ⟨_, _, b2⟩ := hR.cells
  have cc := fun W (hW : Below w.heap.size w W) => concat_makes W bL bR l r (hL.below (Nat.le_refl _) hW) (hR.below (Nat.le_refl _) hW) (by omega) (by omega) (by omega)
  have H : Hid ((T.cat l r).Ok ∧ (T.cat l r).text = l.text ++ r.text ∧ (T.cat l r).depth = 1 + max l.depth r.depth) := Lib.hid ⟨⟨ol, or, by omega, by omega⟩, rfl, rfl⟩
  have i1 : (l.depth : Int) ≤ (r.depth : Int) := by omega
  have i2 : (r.depth : Int) ≤ (l.depth : Int) := by omega
  clear hL hR ol or h hs d1 d2
  go_enter Try.func42, Try.ntmps42
  go_wp2
  go_quiet (fail)
  go_wp2
  go_quiet (fail)
  go_wp2_with fail
  refine Calls.mono (cc _ (below_drewN (Below.refl _ _) _)) ?_
  rintro e w1 ⟨b, rfl, hA, hB⟩
  have hB2 := (below_drewN (Below.refl w.heap.size w) _).trans hB
  go_wp2
  go_ret
  obtain ⟨o1, o2, o3⟩ := H.out
  exact ⟨b, _, rfl, hA, o1, o2, by rw [o3]; omega, by rw [o3]; omega, hB2⟩

set_option maxRecDepth 100000 in
set_option maxHeartbeats 4000000 in
theorem join_L (w : World) (bL bR : Nat) (ll lr r : T) (hL : At w bL (.cat ll lr)) (hR : At w bR r) (ol : (T.cat ll lr).Ok) (h : r.depth < (T.cat ll lr).depth) (hs : (T.cat ll lr).size + r.size ≤ 200000)
    (ih : ∀ W bI, At W bI lr → At W bR r → Calls Try.prog 42 #[.pointer (some ⟨bI, 0, none⟩), .pointer (some ⟨bR, 0, none⟩)] W (Joined W lr r)) :
    Calls Try.prog 42 #[.pointer (some ⟨bL, 0, none⟩), .pointer (some ⟨bR, 0, none⟩)] w (Joined w (.cat ll lr) r) := by
  obtain ⟨_, _, a2⟩ := hL.cells
  obtain ⟨_, _, b2⟩ := hR.cells
  obtain ⟨ba, bI, _, c4, c5, hll, hI⟩ := hL.cat
  obtain ⟨o1, o2, g1, g2⟩ := ol
  have zL := At.lt hL
  have i1 : (r.depth : Int) < ((T.cat ll lr).depth : Int) := by omega
  have A1 : Hid (∀ W, Below w.heap.size w W → At W ba ll) := Lib.hid fun W hW => hll.below (Nat.le_refl _) hW
  have cJ := fun W (hW : Below w.heap.size w W) => ih W bI (hI.below (Nat.le_refl _) hW) (hR.below (Nat.le_refl _) hW)
  have cB : Hid (∀ W b1 t1, At W ba ll → At W b1 t1 → t1.Ok → t1.text = lr.text ++ r.text → max lr.depth r.depth ≤ t1.depth → t1.depth ≤ 1 + max lr.depth r.depth →
      Calls Try.prog 52 #[.pointer (some ⟨ba, 0, none⟩), .pointer (some ⟨b1, 0, none⟩)] W (Joined W (.cat ll lr) r)) := Lib.hid fun W b1 t1 k1 k2 k3 k4 k5 k6 => by
    have z1 := size_of_text k4
    rw [List.length_append, T.size_text, T.size_text] at z1
    simp only [T.depth, T.size] at h hs
    refine Calls.mono (balance_any W ba b1 ll t1 k1 k2 o1 k3 (by omega) (by omega) (by omega)) ?_
    rintro e w' ⟨b, t, rfl, m1, m2, m3, m4, m5, m6, m7⟩
    refine ⟨b, t, rfl, m1, m2, by rw [m3, k4]; simp only [T.text, List.append_assoc], ?_, ?_, m7⟩
    · simp only [T.depth]
      by_cases q1 : ll.depth ≤ t1.depth + 1
      · by_cases q2 : t1.depth ≤ ll.depth + 1
        · have := m6 q1 q2; omega
        · omega
      · omega
    · simp only [T.depth]; omega
  clear hL hR o1 o2 g1 g2 h hs hll hI ih
  generalize (T.cat ll lr).depth = dl at a2 i1
  generalize r.depth = dr at b2 i1
  go_enter Try.func42, Try.ntmps42
  go_wp2
  go_quiet (fail)
  go_wp2
  have hBq : Below w.heap.size w (w.drewN nq) := below_drewN (Below.refl _ _) _
  have k0 : (w.drewN nq).cell? ⟨bL, 4, none⟩ = some (.pointer (some ⟨ba, 0, none⟩)) := c4
  have k1 : (w.drewN nq).cell? ⟨bL, 5, none⟩ = some (.pointer (some ⟨bI, 0, none⟩)) := c5
  have yz : (w.drewN nq).heap.size = w.heap.size := rfl
  clear c4 c5 a2 b2
  generalize w.drewN nq = W at *
  have yL : bL < W.heap.size := by omega
  clear yz
  go_region_held3 (fun u => u.cell? ⟨bL, 4, none⟩ = some (.pointer (some ⟨ba, 0, none⟩)) ∧ u.cell? ⟨bL, 5, none⟩ = some (.pointer (some ⟨bI, 0, none⟩))) (first | exact ⟨k0, k1⟩ | exact ⟨p0, p1⟩ | exact ⟨q0, q1⟩ | go_keep) (first | (go_at_call 42; (with_reducible refine Calls.mono (cJ _ hBq.drew) ?_); rintro e w1 ⟨b1, t1, rfl, j1, j2, j3, j4, j5, hb1⟩; have p0 := (hb1.cell (p := ⟨bL, 4, none⟩) yL).trans k0; have p1 := (hb1.cell (p := ⟨bL, 5, none⟩) yL).trans k1; have hBw := hBq.drew.trans (hb1.mono hBq.drew.size)) | (go_at_call 52; (with_reducible refine Calls.mono (cB.out _ b1 t1 (A1.out _ hBw) j1 j2 j3 j4 j5) ?_); rintro e w2 ⟨b2, t2, rfl, m1, m2, m3, m4, m5, hb2⟩; have q0 := (hb2.cell (p := ⟨bL, 4, none⟩) (Nat.lt_of_lt_of_le yL hb1.size)).trans p0; have q1 := (hb2.cell (p := ⟨bL, 5, none⟩) (Nat.lt_of_lt_of_le yL hb1.size)).trans p1; have hBv := hBw.trans (hb2.mono hBw.size)))
  have HR := Lib.hid (And.intro m1 (And.intro m2 (And.intro m3 (And.intro m4 m5))))
  clear m1 m2 m3 m4 m5 j1 j2 j3 j4 j5
  go_wp2
  go_ret
  obtain ⟨m1, m2, m3, m4, m5⟩ := HR.out
  exact ⟨b2, t2, rfl, m1, m2, m3, m4, m5, hBv⟩

set_option maxRecDepth 100000 in
set_option maxHeartbeats 4000000 in
theorem join_R (w : World) (bL bR : Nat) (l rl rr : T) (hL : At w bL l) (hR : At w bR (.cat rl rr)) (or : (T.cat rl rr).Ok) (h : l.depth < (T.cat rl rr).depth) (hs : l.size + (T.cat rl rr).size ≤ 200000)
    (ih : ∀ W bI, At W bL l → At W bI rl → Calls Try.prog 42 #[.pointer (some ⟨bL, 0, none⟩), .pointer (some ⟨bI, 0, none⟩)] W (Joined W l rl)) :
    Calls Try.prog 42 #[.pointer (some ⟨bL, 0, none⟩), .pointer (some ⟨bR, 0, none⟩)] w (Joined w l (.cat rl rr)) := by
  obtain ⟨_, _, a2⟩ := hL.cells
  obtain ⟨_, _, b2⟩ := hR.cells
  obtain ⟨bI, ba, _, c4, c5, hI, hll⟩ := hR.cat
  obtain ⟨o2, o1, g1, g2⟩ := or
  have zL := At.lt hR
  have i1 : (l.depth : Int) < ((T.cat rl rr).depth : Int) := by omega
  have i2 : (l.depth : Int) ≤ ((T.cat rl rr).depth : Int) := by omega
  have A1 : Hid (∀ W, Below w.heap.size w W → At W ba rr) := Lib.hid fun W hW => hll.below (Nat.le_refl _) hW
  have cJ := fun W (hW : Below w.heap.size w W) => ih W bI (hL.below (Nat.le_refl _) hW) (hI.below (Nat.le_refl _) hW)
  have cB : Hid (∀ W b1 t1, At W ba rr → At W b1 t1 → t1.Ok → t1.text = l.text ++ rl.text → max l.depth rl.depth ≤ t1.depth → t1.depth ≤ 1 + max l.depth rl.depth →
      Calls Try.prog 52 #[.pointer (some ⟨b1, 0, none⟩), .pointer (some ⟨ba, 0, none⟩)] W (Joined W l (.cat rl rr))) := Lib.hid fun W b1 t1 k1 k2 k3 k4 k5 k6 => by
    have z1 := size_of_text k4
    rw [List.length_append, T.size_text, T.size_text] at z1
    simp only [T.depth, T.size] at h hs
    refine Calls.mono (balance_any W b1 ba t1 rr k2 k1 k3 o1 (by omega) (by omega) (by omega)) ?_
    rintro e w' ⟨b, t, rfl, m1, m2, m3, m4, m5, m6, m7⟩
    refine ⟨b, t, rfl, m1, m2, by rw [m3, k4]; simp only [T.text, List.append_assoc], ?_, ?_, m7⟩
    · simp only [T.depth]
      by_cases q1 : rr.depth ≤ t1.depth + 1
      · by_cases q2 : t1.depth ≤ rr.depth + 1
        · have := m6 q2 q1; omega
        · omega
      · omega
    · simp only [T.depth]; omega
  clear hL hR o1 o2 g1 g2 h hs hll hI ih
  generalize (T.cat rl rr).depth = dr at b2 i1 i2
  generalize l.depth = dl at a2 i1 i2
  go_enter Try.func42, Try.ntmps42
  go_wp2
  go_quiet (fail)
  revert nq
  intro n1
  go_wp2
  go_quiet (fail)
  go_wp2
  have hBq : Below w.heap.size w ((w.drewN n1).drewN nq) := below_drewN (below_drewN (Below.refl _ _) _) _
  have k0 : ((w.drewN n1).drewN nq).cell? ⟨bR, 4, none⟩ = some (.pointer (some ⟨bI, 0, none⟩)) := c4
  have k1 : ((w.drewN n1).drewN nq).cell? ⟨bR, 5, none⟩ = some (.pointer (some ⟨ba, 0, none⟩)) := c5
  have yz : ((w.drewN n1).drewN nq).heap.size = w.heap.size := rfl
  clear c4 c5 a2 b2
  generalize (w.drewN n1).drewN nq = W at *
  have yL : bR < W.heap.size := by omega
  clear yz
  go_region_held3 (fun u => u.cell? ⟨bR, 4, none⟩ = some (.pointer (some ⟨bI, 0, none⟩)) ∧ u.cell? ⟨bR, 5, none⟩ = some (.pointer (some ⟨ba, 0, none⟩))) (first | exact ⟨k0, k1⟩ | exact ⟨p0, p1⟩ | exact ⟨q0, q1⟩ | go_keep) (first | (go_at_call 42; (with_reducible refine Calls.mono (cJ _ hBq.drew) ?_); rintro e w1 ⟨b1, t1, rfl, j1, j2, j3, j4, j5, hb1⟩; have p0 := (hb1.cell (p := ⟨bR, 4, none⟩) yL).trans k0; have p1 := (hb1.cell (p := ⟨bR, 5, none⟩) yL).trans k1; have hBw := hBq.drew.trans (hb1.mono hBq.drew.size)) | (go_at_call 52; (with_reducible refine Calls.mono (cB.out _ b1 t1 (A1.out _ hBw) j1 j2 j3 j4 j5) ?_); rintro e w2 ⟨b2, t2, rfl, m1, m2, m3, m4, m5, hb2⟩; have q0 := (hb2.cell (p := ⟨bR, 4, none⟩) (Nat.lt_of_lt_of_le yL hb1.size)).trans p0; have q1 := (hb2.cell (p := ⟨bR, 5, none⟩) (Nat.lt_of_lt_of_le yL hb1.size)).trans p1; have hBv := hBw.trans (hb2.mono hBw.size)))
  have HR := Lib.hid (And.intro m1 (And.intro m2 (And.intro m3 (And.intro m4 m5))))
  clear m1 m2 m3 m4 m5 j1 j2 j3 j4 j5
  go_wp2
  go_ret
  obtain ⟨m1, m2, m3, m4, m5⟩ := HR.out
  exact ⟨b2, t2, rfl, m1, m2, m3, m4, m5, hBv⟩

theorem join_some (n : Nat) : ∀ (w : World) (bL bR : Nat) (l r : T), l.depth + r.depth ≤ n → At w bL l → At w bR r → l.Ok → r.Ok → l.size + r.size ≤ 200000 →
    Calls Try.prog 42 #[.pointer (some ⟨bL, 0, none⟩), .pointer (some ⟨bR, 0, none⟩)] w (Joined w l r) := by
  induction n with
  | zero => intro w bL bR l r h _ _ _ _ _; have := T.depth_pos l; omega
  | succ n ih =>
    intro w bL bR l r h hL hR ol or hs
    rcases Nat.lt_trichotomy l.depth r.depth with hd | hd | hd
    · cases r with
      | leaf s => have := T.depth_pos l; simp only [T.depth] at hd; omega
      | cat rl rr => exact join_R w bL bR l rl rr hL hR or hd hs fun W bI k1 k2 => ih W bL bI l rl (by simp only [T.depth] at h; omega) k1 k2 ol or.1 (by simp only [T.size] at hs; omega)
    · exact join_eq w bL bR l r hL hR ol or hd hs
    · cases l with
      | leaf s => have := T.depth_pos r; simp only [T.depth] at hd; omega
      | cat ll lr => exact join_L w bL bR ll lr r hL hR ol hd hs fun W bI k1 k2 => ih W bI bR lr r (by simp only [T.depth] at h; omega) k1 k2 ol.2.1 or (by simp only [T.size] at hs; omega)
/-- join, of trees or nil. -/
theorem join_any (w : World) (u v : Value) (x y : Option T) (hu : AtO w u x) (hv : AtO w v y) (ox : OkO x) (oy : OkO y) (hs : (textO x).length + (textO y).length ≤ 200000) :
    Calls Try.prog 42 #[u, v] w fun e w' => ∃ z o, e = .returned z ∧ AtO w' z o ∧ OkO o ∧ textO o = textO x ++ textO y ∧ Below w.heap.size w w' := by
  cases x with
  | none =>
    have hu' : u = .pointer none := hu
    subst hu'
    refine Calls.mono (join_nil w v ?_) ?_
    · cases y with
      | none => exact .inl hv
      | some t => obtain ⟨b, h, _⟩ := hv; exact .inr ⟨b, h⟩
    · rintro e w' ⟨rfl, rfl⟩
      exact ⟨v, y, rfl, hv, oy, rfl, Below.refl _ _⟩
  | some l =>
    obtain ⟨bL, rfl, hL⟩ := hu
    cases y with
    | none =>
      have hv' : v = .pointer none := hv
      subst hv'
      refine Calls.mono (join_none w bL) ?_
      rintro e w' ⟨rfl, rfl⟩
      exact ⟨_, some l, rfl, ⟨bL, rfl, hL⟩, ox, (List.append_nil _).symm, Below.refl _ _⟩
    | some r =>
      obtain ⟨bR, rfl, hR⟩ := hv
      refine Calls.mono (join_some _ w bL bR l r (Nat.le_refl _) hL hR ox oy (by rw [← T.size_text, ← T.size_text]; exact hs)) ?_
      rintro e w' ⟨b, t, rfl, m1, m2, m3, _, _, m6⟩
      exact ⟨_, some t, rfl, ⟨b, rfl, m1⟩, m2, m3, m6⟩
end Go.Proofs.Ytbmcgmnmmnileaa
