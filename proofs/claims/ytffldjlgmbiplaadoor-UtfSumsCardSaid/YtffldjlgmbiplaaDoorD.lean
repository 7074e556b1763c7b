/-
  The walk of utf.Unit.
-/
import Derived.Test.YtffldjlgmbiplaaDoorC
namespace Go.Proofs.YtffldjlgmbiplaaDoor
open Go.RowKit Go.Shelf
attribute [local go_sem] Oper.semAt_some

/-- Where the last of these characters ends. -/
def endW (xs : List (Nat × ByteArray)) : Int := match xs.getLast? with
  | none => 0
  | some x => wrap64 ((x.1 : Int) + (x.2.size : Int))
theorem endW_snoc (pre : List (Nat × ByteArray)) (x : Nat × ByteArray) : endW (pre ++ [x]) = wrap64 ((x.1 : Int) + (x.2.size : Int)) := by simp [endW]
/-- The characters that begin ahead of a byte, from the first one on. -/
def takeA (at_ : Int) (xs : List (Nat × ByteArray)) : List (Nat × ByteArray) := xs.takeWhile fun x => decide ((x.1 : Int) < at_)
theorem takeA_all {at_ : Int} {xs : List (Nat × ByteArray)} (h : ∀ x ∈ xs, (x.1 : Int) < at_) : takeA at_ xs = xs := by
  have := List.takeWhile_append_of_pos (p := fun x : Nat × ByteArray => decide ((x.1 : Int) < at_)) (l₁ := xs) (l₂ := []) (fun x hx => decide_eq_true (h x hx))
  simpa [takeA] using this
theorem takeA_stop {at_ : Int} {p xs : List (Nat × ByteArray)} {x : Nat × ByteArray} (hp : p ++ [x] <+: xs) (h : ∀ x ∈ p, (x.1 : Int) < at_) (hx : ¬ (x.1 : Int) < at_) : takeA at_ xs = p := by
  obtain ⟨r, rfl⟩ := hp
  unfold takeA
  rw [List.append_assoc, List.takeWhile_append_of_pos (fun y hy => decide_eq_true (h y hy))]
  simp [hx]
def unitS (s : ByteArray) (at_ : Int) : Int × Int :=
  if at_ < 0 ∨ (s.size : Int) < at_ then (0, 1) else if endW (takeA at_ (seqB s)) = at_ then (uw (takeA at_ (seqB s)), 0) else (0, 60)

def AllLt (at_ : Int) (xs : List (Nat × ByteArray)) : Prop := ∀ x ∈ xs, (x.1 : Int) < at_
theorem allLt_nil (at_ : Int) : AllLt at_ [] := fun x hx => by cases hx
theorem allLt_snoc {at_ : Int} {xs : List (Nat × ByteArray)} {x : Nat × ByteArray} (h : AllLt at_ xs) (hx : (x.1 : Int) < at_) : AllLt at_ (xs ++ [x]) := fun y hy => by
  rcases List.mem_append.1 hy with hy | hy
  · exact h y hy
  · rw [List.mem_singleton.1 hy]; exact hx
def StopA (at_ : Int) (xs : List (Nat × ByteArray)) : Prop := ∃ p x, xs = p ++ [x] ∧ AllLt at_ p ∧ ¬ (x.1 : Int) < at_

theorem unit_arg (s : ByteArray) (at_ : Int) (w : World) (h : at_ < 0 ∨ (s.size : Int) < at_) :
    Calls Tryd.prog 14 #[.string s, .int .i64 at_] w fun e W' => e = .returned (.tuple #[.int .i64 (unitS s at_).1, .int .i64 (unitS s at_).2]) ∧ Below w.heap.size w W' := by
  rw [show unitS s at_ = (0, 1) by rw [unitS, if_pos h]]
  rcases (by omega : at_ < 0 ∨ (0 ≤ at_ ∧ (s.size : Int) < at_)) with h | ⟨h, h2⟩
  · go_enter Tryd.func14, Tryd.ntmps14
    go_wp2
    go_ret2
    exact ⟨rfl, (Below.refl _ _).alloc (Nat.le_refl _) _⟩
  · go_enter Tryd.func14, Tryd.ntmps14
    go_wp2
    go_ret2
    exact ⟨rfl, (Below.refl _ _).alloc (Nat.le_refl _) _⟩

set_option maxRecDepth 100000 in
set_option maxHeartbeats 2000000 in
theorem unit_in (s : ByteArray) (at_ : Int) (w : World) (hs : s.size ≤ 1000000000) (hT : Lib.Utf8Tabs 0 1 w) (h0 : 0 ≤ at_) (h1 : at_ ≤ s.size) :
    Calls Tryd.prog 14 #[.string s, .int .i64 at_] w fun e W' => e = .returned (.tuple #[.int .i64 (unitS s at_).1, .int .i64 (unitS s at_).2]) ∧ Below w.heap.size w W' := by
  have h2 := tabs_size hT
  have d0 : decide (at_ < 0) = false := decide_eq_false (by omega)
  have d1 : decide ((s.size : Int) < at_) = false := decide_eq_false (by omega)
  refine (callsIn_wide (n := 4)).1 ?_
  refine callsIn_of_wp_marks Tryd.func14 rfl trivial ?_ rfl
  simp only [Tryd.ntmps14, List.size_toArray, List.length_cons, List.length_nil, Nat.reduceAdd, Nat.reduceSub, Array.replicate_succ, Array.replicate_zero, List.push_toArray, List.append_toArray, List.nil_append, List.cons_append]
  gi_wp2_with fail
  refine ⟨trivial, ?_⟩
  refine (callsIn_wide.2 (characters_any s _)).mono ?_
  rintro e w' ⟨rfl, rfl⟩
  gi_wp2_with fail
  clear d0 d1
  have b0 : Boxed ((((w.alloc (.cells #[.int .i64 at_] 3)).alloc (.cells #[.int .i64 0] 3)).alloc (.cells #[.int .i64 0] 3)).alloc (.cells #[.string s] 9)) w.heap.size 3 (.int .i64 at_) := (((Boxed.new w 3 _).alloc _).alloc _).alloc _
  have b1 : Boxed ((((w.alloc (.cells #[.int .i64 at_] 3)).alloc (.cells #[.int .i64 0] 3)).alloc (.cells #[.int .i64 0] 3)).alloc (.cells #[.string s] 9)) (w.heap.size + 1) 3 (.int .i64 0) := by
    have := Boxed.new (w.alloc (.cells #[.int .i64 at_] 3)) 3 (.int .i64 0)
    rw [World.size_alloc] at this
    exact (this.alloc _).alloc _
  have b2 : Boxed ((((w.alloc (.cells #[.int .i64 at_] 3)).alloc (.cells #[.int .i64 0] 3)).alloc (.cells #[.int .i64 0] 3)).alloc (.cells #[.string s] 9)) (w.heap.size + 1 + 1) 3 (.int .i64 0) := by
    have := Boxed.new ((w.alloc (.cells #[.int .i64 at_] 3)).alloc (.cells #[.int .i64 0] 3)) 3 (.int .i64 0)
    rw [World.size_alloc, World.size_alloc] at this
    exact this.alloc _
  have b3 : Boxed ((((w.alloc (.cells #[.int .i64 at_] 3)).alloc (.cells #[.int .i64 0] 3)).alloc (.cells #[.int .i64 0] 3)).alloc (.cells #[.string s] 9)) (w.heap.size + 1 + 1 + 1) 9 (.string s) := by
    have := Boxed.new (((w.alloc (.cells #[.int .i64 at_] 3)).alloc (.cells #[.int .i64 0] 3)).alloc (.cells #[.int .i64 0] 3)) 9 (.string s)
    rwa [World.size_alloc, World.size_alloc, World.size_alloc] at this
  have hB0 : Below w.heap.size w ((((w.alloc (.cells #[.int .i64 at_] 3)).alloc (.cells #[.int .i64 0] 3)).alloc (.cells #[.int .i64 0] 3)).alloc (.cells #[.string s] 9)) := ((((Below.refl _ w).alloc (Nat.le_refl _) _).alloc (by simp) _).alloc (by simp; omega) _).alloc (by simp; omega) _
  generalize ((((w.alloc (.cells #[.int .i64 at_] 3)).alloc (.cells #[.int .i64 0] 3)).alloc (.cells #[.int .i64 0] 3)).alloc (.cells #[.string s] 9)) = Wl at b0 b1 b2 b3 hB0 ⊢
  refine wpIn_rangeFunc_ownF rfl (by omega) (gf := 33) (lb := #[.pointer (some ⟨w.heap.size + 1 + 1 + 1, 0, none⟩)]) rfl trivial (enters_of Tryd.func33 (by kernel_rfl) rfl)
    (chars_stops _ (w.heap.size + 1 + 1 + 1) w.heap.size s hs h2 _ (Nat.le_trans h2 hB0.size) b3.lt b3.cell (tabs_below hT hB0 h2)) Kp.t (Kp.b hB0.size) (Below.refl _ _) (fun _ => rfl)
    (fun pre W => AllLt at_ pre ∧ Boxed W w.heap.size 3 (.int .i64 at_) ∧ Boxed W (w.heap.size + 1) 3 (.int .i64 (uw pre)) ∧ Boxed W (w.heap.size + 1 + 1) 3 (.int .i64 (endW pre)) ∧ Below w.heap.size w W)
    (fun c pre W => (c = .exit 0 ∧ StopA at_ pre) ∧ Boxed W w.heap.size 3 (.int .i64 at_) ∧ Boxed W (w.heap.size + 1) 3 (.int .i64 (uw pre.dropLast)) ∧ Boxed W (w.heap.size + 1 + 1) 3 (.int .i64 (endW pre.dropLast)) ∧ Below w.heap.size w W)
    (OwnFrom.and (ownFrom_pure _ _) (OwnFrom.and (Own.from (boxed_own _ _ _) _) (OwnFrom.and (Own.from (boxed_own _ _ _) _) (OwnFrom.and (Own.from (boxed_own _ _ _) _) (ownFrom_below (Nat.le_refl _) hB0.size)))))
    (fun c => OwnFrom.and (ownFrom_pure _ _) (OwnFrom.and (Own.from (boxed_own _ _ _) _) (OwnFrom.and (Own.from (boxed_own _ _ _) _) (OwnFrom.and (Own.from (boxed_own _ _ _) _) (ownFrom_below (Nat.le_refl _) hB0.size)))))
    ⟨allLt_nil _, b0, b1, b2, hB0⟩
    (fun x => { tmps := #[.string s, .int .i64 at_, undef, .pointer (some ⟨w.heap.size, 0, none⟩), .int .i64 0, .int .i64 0, .pointer (some ⟨w.heap.size + 1, 0, none⟩), .pointer (some ⟨w.heap.size + 1 + 1, 0, none⟩), .int .i64 x.1, .string x.2, .int .i64 at_, .bool false, .bool false, .int .i64 at_, .string s, .int .i64 s.size, .bool false, .bool false, .string s, .func (.func 33) #[] #[.pointer (some ⟨w.heap.size + 1 + 1 + 1, 0, none⟩)], .int .i64 x.1, .string x.2, undef, undef, undef, undef, undef, undef, undef, undef, undef, undef, undef, undef, undef, undef, undef], defers := [] }) ?assign ?body ?done ?stop
  case assign =>
    intro l x W K hK
    dsimp only [encs]
    gi_wp2
    exact hK
  case body => as_aux_lemma =>
    rintro l pre x W ⟨hp, a0, a1, a2, hB⟩ _
    have hc0 := a0.cell
    have hc1 := a1.cell
    have hf1 := a1.frozen
    have hc2 := a2.cell
    have hf2 := a2.frozen
    by_cases hx : (x.1 : Int) < at_
    · have hS := width_any x.2
      have HS := uw_snoc pre x
      have HE := Lib.hid (endW_snoc pre x)
      generalize widB x.2 = wd at hS HS
      have HU := Lib.hid HS
      have HP := Lib.hid hp
      clear HS hp
      have hd : 1 ≤ 4 - 1 - 1 := by omega
      have hmx : Tryd.prog.follows .mixedOrders = true := by kernel_rfl
      gi_wp2
      gi_region_with_o (refine ⟨trivial, ?_⟩; gi_at_call 28; refine (CallsIn.inRound l (callsIn_wide.2 (hS _))).mono ?_; rintro e w' ⟨rfl, rfl⟩)
      all_goals
        have HV : Hid (uw (pre ++ [x]) = IntKind.i64.wrap (uw pre + wd)) := HU
        clear HU
        generalize IntKind.i64.wrap (uw pre + wd) = uv at HV ⊢
        have q0 : Boxed (W.setCell ⟨w.heap.size + 1, 0, none⟩ (.int .i64 uv)).drew w.heap.size 3 (.int .i64 at_) := a0.other (B' := w.heap.size + 1) (by omega) _
        have q1 : Boxed (W.setCell ⟨w.heap.size + 1, 0, none⟩ (.int .i64 uv)).drew (w.heap.size + 1) 3 (.int .i64 uv) := a1.set _
        have q2 : Boxed (W.setCell ⟨w.heap.size + 1, 0, none⟩ (.int .i64 uv)).drew (w.heap.size + 1 + 1) 3 (.int .i64 (endW pre)) := a2.other (B' := w.heap.size + 1) (by omega) _
        have qk : KeepsOthers W (W.setCell ⟨w.heap.size + 1, 0, none⟩ (.int .i64 uv)).drew := (KeepsOthers.setCell _ _ _).trans (KeepsOthers.drew _)
        have qp : Kp w.heap.size (w.heap.size + 1 + 1 + 1) W (W.setCell ⟨w.heap.size + 1, 0, none⟩ (.int .i64 uv)).drew := ((Kp.refl _ _ _).set (b := w.heap.size + 1) (by omega) (by omega) _).drew
        have qb : Below w.heap.size w (W.setCell ⟨w.heap.size + 1, 0, none⟩ (.int .i64 uv)).drew := (hB.setCell (p := ⟨w.heap.size + 1, 0, none⟩) (by show w.heap.size ≤ w.heap.size + 1; omega) _).drew
        generalize (W.setCell ⟨w.heap.size + 1, 0, none⟩ (.int .i64 uv)).drew = W2 at q0 q1 q2 qk qp qb ⊢
        clear hc0 hc1 hf1 hc2 hf2
        have hc2 := q2.cell
        have hf2 := q2.frozen
        gi_wp2
        exact ⟨qk.trans (KeepsOthers.setCell _ _ _), qp.set (b := w.heap.size + 1 + 1) (by omega) (by omega) _, allLt_snoc HP.out hx, q0.other (B' := w.heap.size + 1 + 1) (by omega) _, by rw [HV.out]; exact q1.other (B' := w.heap.size + 1 + 1) (by omega) _, by rw [HE.out]; exact q2.set _, qb.setCell (p := ⟨w.heap.size + 1 + 1, 0, none⟩) (by show w.heap.size ≤ w.heap.size + 1 + 1; omega) _⟩
    · have hx2 : at_ ≤ (x.1 : Int) := by omega
      have HP := Lib.hid hp
      clear hp
      gi_wp2
      have e : (pre ++ [x]).dropLast = pre := by simp
      exact ⟨KeepsOthers.refl _, ⟨rfl, pre, x, rfl, HP.out, by omega⟩, a0, by rw [e]; exact a1, by rw [e]; exact a2, hB⟩
  case done => as_aux_lemma =>
    rintro D ys W hD rfl ⟨hp, a0, a1, a2, hB⟩ hK
    have hta := takeA_all hp
    have hres : unitS s at_ = if endW (seqB s) = at_ then (uw (seqB s), 0) else (0, 60) := by rw [unitS, if_neg (by omega), hta]
    clear hta
    generalize uw (seqB s) = U at a1 hres
    generalize endW (seqB s) = E at a2 hres
    have hc0 := a0.cell
    have hc1 := a1.cell
    have hc2 := a2.cell
    by_cases e : E = at_
    · rw [if_pos e] at hres
      have hne : (E != at_) = false := by simp [e]
      have HR := Lib.hid hres
      clear hres e
      gi_wp2
      refine ⟨by simp, .inl ⟨_, _, rfl, run_takeDeferred hK, ?_⟩⟩
      exact ⟨_, results_tmp2 rfl _ _ _, by rw [HR.out]; rfl, hB.trans (belowK_b (w := w) (Nat.le_refl _) W D _ _ (by have := hB0.size; omega) hK rfl rfl)⟩
    · rw [if_neg e] at hres
      have hne : (E != at_) = true := by simp [e]
      have HR := Lib.hid hres
      clear hres e
      gi_wp2
      refine ⟨by simp, .inl ⟨_, _, rfl, run_takeDeferred hK, ?_⟩⟩
      exact ⟨_, results_tmp2 rfl _ _ _, by rw [HR.out]; rfl, hB.trans (belowK_b (w := w) (Nat.le_refl _) W D _ _ (by have := hB0.size; omega) hK rfl rfl)⟩
  case stop => as_aux_lemma =>
    rintro D c pre W hD hpre ⟨⟨rfl, p, x, rfl, hp, hx⟩, a0, a1, a2, hB⟩ hK
    have hta := takeA_stop hpre hp hx
    rw [show (p ++ [x]).dropLast = p by simp] at a1 a2
    have hres : unitS s at_ = if endW (p) = at_ then (uw (p), 0) else (0, 60) := by rw [unitS, if_neg (by omega), hta]
    clear hta
    generalize uw (p) = U at a1 hres
    generalize endW (p) = E at a2 hres
    have hc0 := a0.cell
    have hc1 := a1.cell
    have hc2 := a2.cell
    by_cases e : E = at_
    · rw [if_pos e] at hres
      have hne : (E != at_) = false := by simp [e]
      have HR := Lib.hid hres
      clear hres e
      gi_wp2
      refine ⟨by simp, .inl ⟨_, _, rfl, run_takeDeferred hK, ?_⟩⟩
      exact ⟨_, results_tmp2 rfl _ _ _, by rw [HR.out]; rfl, hB.trans (belowK_b (w := w) (Nat.le_refl _) W D _ _ (by have := hB0.size; omega) hK rfl rfl)⟩
    · rw [if_neg e] at hres
      have hne : (E != at_) = true := by simp [e]
      have HR := Lib.hid hres
      clear hres e
      gi_wp2
      refine ⟨by simp, .inl ⟨_, _, rfl, run_takeDeferred hK, ?_⟩⟩
      exact ⟨_, results_tmp2 rfl _ _ _, by rw [HR.out]; rfl, hB.trans (belowK_b (w := w) (Nat.le_refl _) W D _ _ (by have := hB0.size; omega) hK rfl rfl)⟩

theorem unit_any (s : ByteArray) (at_ : Int) (w : World) (hs : s.size ≤ 1000000000) (hT : Lib.Utf8Tabs 0 1 w) :
    Calls Tryd.prog 14 #[.string s, .int .i64 at_] w fun e W' => e = .returned (.tuple #[.int .i64 (unitS s at_).1, .int .i64 (unitS s at_).2]) ∧ Below w.heap.size w W' := by
  by_cases h : at_ < 0 ∨ (s.size : Int) < at_
  · exact unit_arg s at_ w h
  · exact unit_in s at_ w hs hT (by omega) (by omega)
end Go.Proofs.YtffldjlgmbiplaaDoor
