/-
  The walk of utf.Byte.
-/
import Derived.Test.YtffldjlgmbiplaaDoorD
namespace Go.Proofs.YtffldjlgmbiplaaDoor
open Go.RowKit Go.Shelf
attribute [local go_sem] Oper.semAt_some

/-- The characters that are gone through, from the first one on, while fewer than u units stand ahead. -/
def takeU (u : Int) : Int → List (Nat × ByteArray) → List (Nat × ByteArray)
  | _, [] => []
  | acc, x :: r => if acc < u then x :: takeU u (IntKind.i64.wrap (acc + widB x.2)) r else []
def GoF (u : Int) : Int → List (Nat × ByteArray) → Prop
  | _, [] => True
  | acc, x :: r => acc < u ∧ GoF u (IntKind.i64.wrap (acc + widB x.2)) r
theorem goF_snoc (u : Int) (x : Nat × ByteArray) : ∀ (acc : Int) (p : List (Nat × ByteArray)), GoF u acc p → p.foldl (fun u x => IntKind.i64.wrap (u + widB x.2)) acc < u → GoF u acc (p ++ [x])
  | _, [], _, h => ⟨h, trivial⟩
  | _, _ :: r, h, h2 => ⟨h.1, goF_snoc u x _ r h.2 h2⟩
theorem takeU_eq (u : Int) : ∀ (acc : Int) (p rest : List (Nat × ByteArray)), GoF u acc p → (rest = [] ∨ ¬ p.foldl (fun u x => IntKind.i64.wrap (u + widB x.2)) acc < u) → takeU u acc (p ++ rest) = p
  | acc, [], rest, _, h => by
    rcases h with rfl | h
    · rfl
    · cases rest with
      | nil => rfl
      | cons y r => exact if_neg h
  | acc, y :: r, rest, hg, h => by
    rw [List.cons_append, takeU, if_pos hg.1, takeU_eq u _ r rest hg.2 h]
def byteS (s : ByteArray) (u : Int) : Int × Int :=
  if u < 0 then (0, 1) else if uw (takeU u 0 (seqB s)) < u then (0, 1) else if u < uw (takeU u 0 (seqB s)) then (0, 60) else (endW (takeU u 0 (seqB s)), 0)
def StopU (u : Int) (xs : List (Nat × ByteArray)) : Prop := ∃ p x, xs = p ++ [x] ∧ GoF u 0 p ∧ ¬ uw p < u

theorem byte_arg (s : ByteArray) (u : Int) (w : World) (h : u < 0) :
    Calls Tryd.prog 15 #[.string s, .int .i64 u] w fun e W' => e = .returned (.tuple #[.int .i64 (byteS s u).1, .int .i64 (byteS s u).2]) ∧ Below w.heap.size w W' := by
  rw [show byteS s u = (0, 1) by rw [byteS, if_pos h]]
  go_enter Tryd.func15, Tryd.ntmps15
  go_wp2
  go_ret2
  exact ⟨rfl, (Below.refl _ _).alloc (Nat.le_refl _) _⟩

set_option maxRecDepth 100000 in
set_option maxHeartbeats 2000000 in
theorem byte_in (s : ByteArray) (u : Int) (w : World) (hs : s.size ≤ 1000000000) (hT : Lib.Utf8Tabs 0 1 w) (h0 : 0 ≤ u) :
    Calls Tryd.prog 15 #[.string s, .int .i64 u] w fun e W' => e = .returned (.tuple #[.int .i64 (byteS s u).1, .int .i64 (byteS s u).2]) ∧ Below w.heap.size w W' := by
  have h2 := tabs_size hT
  have d0 : decide (u < 0) = false := decide_eq_false (by omega)
  refine (callsIn_wide (n := 4)).1 ?_
  refine callsIn_of_wp_marks Tryd.func15 rfl trivial ?_ rfl
  simp only [Tryd.ntmps15, List.size_toArray, List.length_cons, List.length_nil, Nat.reduceAdd, Nat.reduceSub, Array.replicate_succ, Array.replicate_zero, List.push_toArray, List.append_toArray, List.nil_append, List.cons_append]
  gi_wp2_with fail
  refine ⟨trivial, ?_⟩
  refine (callsIn_wide.2 (characters_any s _)).mono ?_
  rintro e w' ⟨rfl, rfl⟩
  gi_wp2_with fail
  clear d0
  have b0 : Boxed ((((w.alloc (.cells #[.int .i64 u] 3)).alloc (.cells #[.int .i64 0] 3)).alloc (.cells #[.int .i64 0] 3)).alloc (.cells #[.string s] 9)) w.heap.size 3 (.int .i64 u) := (((Boxed.new w 3 _).alloc _).alloc _).alloc _
  have b1 : Boxed ((((w.alloc (.cells #[.int .i64 u] 3)).alloc (.cells #[.int .i64 0] 3)).alloc (.cells #[.int .i64 0] 3)).alloc (.cells #[.string s] 9)) (w.heap.size + 1) 3 (.int .i64 0) := by
    have := Boxed.new (w.alloc (.cells #[.int .i64 u] 3)) 3 (.int .i64 0)
    rw [World.size_alloc] at this
    exact (this.alloc _).alloc _
  have b2 : Boxed ((((w.alloc (.cells #[.int .i64 u] 3)).alloc (.cells #[.int .i64 0] 3)).alloc (.cells #[.int .i64 0] 3)).alloc (.cells #[.string s] 9)) (w.heap.size + 1 + 1) 3 (.int .i64 0) := by
    have := Boxed.new ((w.alloc (.cells #[.int .i64 u] 3)).alloc (.cells #[.int .i64 0] 3)) 3 (.int .i64 0)
    rw [World.size_alloc, World.size_alloc] at this
    exact this.alloc _
  have b3 : Boxed ((((w.alloc (.cells #[.int .i64 u] 3)).alloc (.cells #[.int .i64 0] 3)).alloc (.cells #[.int .i64 0] 3)).alloc (.cells #[.string s] 9)) (w.heap.size + 1 + 1 + 1) 9 (.string s) := by
    have := Boxed.new (((w.alloc (.cells #[.int .i64 u] 3)).alloc (.cells #[.int .i64 0] 3)).alloc (.cells #[.int .i64 0] 3)) 9 (.string s)
    rwa [World.size_alloc, World.size_alloc, World.size_alloc] at this
  have hB0 : Below w.heap.size w ((((w.alloc (.cells #[.int .i64 u] 3)).alloc (.cells #[.int .i64 0] 3)).alloc (.cells #[.int .i64 0] 3)).alloc (.cells #[.string s] 9)) := ((((Below.refl _ w).alloc (Nat.le_refl _) _).alloc (by simp) _).alloc (by simp; omega) _).alloc (by simp; omega) _
  generalize ((((w.alloc (.cells #[.int .i64 u] 3)).alloc (.cells #[.int .i64 0] 3)).alloc (.cells #[.int .i64 0] 3)).alloc (.cells #[.string s] 9)) = Wl at b0 b1 b2 b3 hB0 ⊢
  refine wpIn_rangeFunc_ownF rfl (by omega) (gf := 33) (lb := #[.pointer (some ⟨w.heap.size + 1 + 1 + 1, 0, none⟩)]) rfl trivial (enters_of Tryd.func33 (by kernel_rfl) rfl)
    (chars_stops _ (w.heap.size + 1 + 1 + 1) w.heap.size s hs h2 _ (Nat.le_trans h2 hB0.size) b3.lt b3.cell (tabs_below hT hB0 h2)) Kp.t (Kp.b hB0.size) (Below.refl _ _) (fun _ => rfl)
    (fun pre W => GoF u 0 pre ∧ Boxed W w.heap.size 3 (.int .i64 u) ∧ Boxed W (w.heap.size + 1) 3 (.int .i64 (uw pre)) ∧ Boxed W (w.heap.size + 1 + 1) 3 (.int .i64 (endW pre)) ∧ Below w.heap.size w W)
    (fun c pre W => (c = .exit 0 ∧ StopU u pre) ∧ Boxed W w.heap.size 3 (.int .i64 u) ∧ Boxed W (w.heap.size + 1) 3 (.int .i64 (uw pre.dropLast)) ∧ Boxed W (w.heap.size + 1 + 1) 3 (.int .i64 (endW pre.dropLast)) ∧ Below w.heap.size w W)
    (OwnFrom.and (ownFrom_pure _ _) (OwnFrom.and (Own.from (boxed_own _ _ _) _) (OwnFrom.and (Own.from (boxed_own _ _ _) _) (OwnFrom.and (Own.from (boxed_own _ _ _) _) (ownFrom_below (Nat.le_refl _) hB0.size)))))
    (fun c => OwnFrom.and (ownFrom_pure _ _) (OwnFrom.and (Own.from (boxed_own _ _ _) _) (OwnFrom.and (Own.from (boxed_own _ _ _) _) (OwnFrom.and (Own.from (boxed_own _ _ _) _) (ownFrom_below (Nat.le_refl _) hB0.size)))))
    ⟨trivial, b0, b1, b2, hB0⟩
    (fun x => { tmps := #[.string s, .int .i64 u, undef, .pointer (some ⟨w.heap.size, 0, none⟩), .int .i64 0, .int .i64 0, .pointer (some ⟨w.heap.size + 1, 0, none⟩), .pointer (some ⟨w.heap.size + 1 + 1, 0, none⟩), .int .i64 x.1, .string x.2, .int .i64 u, .bool false, .string s, .func (.func 33) #[] #[.pointer (some ⟨w.heap.size + 1 + 1 + 1, 0, none⟩)], .int .i64 x.1, .string x.2, undef, undef, undef, undef, undef, undef, undef, undef, undef, undef, undef, undef, undef, undef, undef, undef, undef, undef], defers := [] }) ?assign ?body ?done ?stop
  case assign =>
    intro l x W K hK
    dsimp only [encs]
    gi_wp2
    exact hK
  case body => as_aux_lemma =>
    rintro l pre x W ⟨hp, a0, a1, a2, hB⟩ _
    have hc0 := a0.cell
    have hc1 := a1.cell
    have hf1 := a1.frozen
    have hc2 := a2.cell
    have hf2 := a2.frozen
    have HS := uw_snoc pre x
    have HE := Lib.hid (endW_snoc pre x)
    have hgo : uw pre < u → GoF u 0 (pre ++ [x]) := fun h => goF_snoc u x 0 pre hp h
    have hst : ¬ uw pre < u → StopU u (pre ++ [x]) := fun h => ⟨pre, x, rfl, hp, h⟩
    clear hp
    have e : (pre ++ [x]).dropLast = pre := by simp
    have HA : Hid (Boxed W (w.heap.size + 1) 3 (.int .i64 (uw (pre ++ [x]).dropLast))) := by rw [e]; exact a1
    generalize uw pre = U at a1 hc1 HS hgo hst
    by_cases hx : U < u
    · have hS := width_any x.2
      generalize widB x.2 = wd at hS HS
      have HU := Lib.hid HS
      have HP := Lib.hid (hgo hx)
      clear HS hgo hst e
      have hd : 1 ≤ 4 - 1 - 1 := by omega
      have hmx : Tryd.prog.follows .mixedOrders = true := by kernel_rfl
      gi_wp2
      gi_region_with_o (refine ⟨trivial, ?_⟩; gi_at_call 28; refine (CallsIn.inRound l (callsIn_wide.2 (hS _))).mono ?_; rintro e w' ⟨rfl, rfl⟩)
      all_goals
        have HV : Hid (uw (pre ++ [x]) = IntKind.i64.wrap (U + wd)) := HU
        clear HU
        generalize IntKind.i64.wrap (U + wd) = uv at HV ⊢
        have q0 : Boxed (W.setCell ⟨w.heap.size + 1, 0, none⟩ (.int .i64 uv)).drew w.heap.size 3 (.int .i64 u) := a0.other (B' := w.heap.size + 1) (by omega) _
        have q1 : Boxed (W.setCell ⟨w.heap.size + 1, 0, none⟩ (.int .i64 uv)).drew (w.heap.size + 1) 3 (.int .i64 uv) := a1.set _
        have q2 : Boxed (W.setCell ⟨w.heap.size + 1, 0, none⟩ (.int .i64 uv)).drew (w.heap.size + 1 + 1) 3 (.int .i64 (endW pre)) := a2.other (B' := w.heap.size + 1) (by omega) _
        have qk : KeepsOthers W (W.setCell ⟨w.heap.size + 1, 0, none⟩ (.int .i64 uv)).drew := (KeepsOthers.setCell _ _ _).trans (KeepsOthers.drew _)
        have qp : Kp w.heap.size (w.heap.size + 1 + 1 + 1) W (W.setCell ⟨w.heap.size + 1, 0, none⟩ (.int .i64 uv)).drew := ((Kp.refl _ _ _).set (b := w.heap.size + 1) (by omega) (by omega) _).drew
        have qb : Below w.heap.size w (W.setCell ⟨w.heap.size + 1, 0, none⟩ (.int .i64 uv)).drew := (hB.setCell (p := ⟨w.heap.size + 1, 0, none⟩) (by show w.heap.size ≤ w.heap.size + 1; omega) _).drew
        generalize (W.setCell ⟨w.heap.size + 1, 0, none⟩ (.int .i64 uv)).drew = W2 at q0 q1 q2 qk qp qb ⊢
        clear hc0 hc1 hf1 hc2 hf2
        have hc2 := q2.cell
        have hf2 := q2.frozen
        gi_wp2
        exact ⟨qk.trans (KeepsOthers.setCell _ _ _), qp.set (b := w.heap.size + 1 + 1) (by omega) (by omega) _, HP.out, q0.other (B' := w.heap.size + 1 + 1) (by omega) _, by rw [HV.out]; exact q1.other (B' := w.heap.size + 1 + 1) (by omega) _, by rw [HE.out]; exact q2.set _, qb.setCell (p := ⟨w.heap.size + 1 + 1, 0, none⟩) (by show w.heap.size ≤ w.heap.size + 1 + 1; omega) _⟩
    · have hx2 : u ≤ U := by omega
      have HP := Lib.hid (hst hx)
      have HE2 := Lib.hid e
      clear hgo hst HS e
      gi_wp2
      exact ⟨KeepsOthers.refl _, ⟨rfl, HP.out⟩, a0, HA.out, by rw [HE2.out]; exact a2, hB⟩
  case done => as_aux_lemma =>
    rintro D ys W hD rfl ⟨hp, a0, a1, a2, hB⟩ hK
    have hta : takeU u 0 (seqB s) = seqB s := by have := takeU_eq u 0 (seqB s) [] hp (.inl rfl); simpa using this
    have hres : byteS s u = if uw (seqB s) < u then (0, 1) else if u < uw (seqB s) then (0, 60) else (endW (seqB s), 0) := by rw [byteS, if_neg (by omega), hta]
    clear hta
    generalize uw (seqB s) = U at a1 hres
    generalize endW (seqB s) = E at a2 hres
    have hc0 := a0.cell
    have hc1 := a1.cell
    have hc2 := a2.cell
    rcases (by omega : U < u ∨ u < U ∨ u = U) with e | e | e
    · rw [if_pos e] at hres
      have HR := Lib.hid hres
      clear hres
      gi_wp2
      refine ⟨by simp, .inl ⟨_, _, rfl, run_takeDeferred hK, ?_⟩⟩
      exact ⟨_, results_tmp2 rfl _ _ _, by rw [HR.out]; rfl, hB.trans (belowK_b (w := w) (Nat.le_refl _) W D _ _ (by have := hB0.size; omega) hK rfl rfl)⟩
    · rw [if_neg (by omega), if_pos e] at hres
      have HR := Lib.hid hres
      clear hres
      gi_wp2
      refine ⟨by simp, .inl ⟨_, _, rfl, run_takeDeferred hK, ?_⟩⟩
      exact ⟨_, results_tmp2 rfl _ _ _, by rw [HR.out]; rfl, hB.trans (belowK_b (w := w) (Nat.le_refl _) W D _ _ (by have := hB0.size; omega) hK rfl rfl)⟩
    · rw [if_neg (by omega), if_neg (by omega)] at hres
      have HR := Lib.hid hres
      have e1 : ¬ U < u := by omega
      have e2 : ¬ u < U := by omega
      clear hres e
      gi_wp2
      refine ⟨by simp, .inl ⟨_, _, rfl, run_takeDeferred hK, ?_⟩⟩
      exact ⟨_, results_tmp2 rfl _ _ _, by rw [HR.out]; rfl, hB.trans (belowK_b (w := w) (Nat.le_refl _) W D _ _ (by have := hB0.size; omega) hK rfl rfl)⟩
  case stop => as_aux_lemma =>
    rintro D c pre W hD hpre ⟨⟨rfl, p, x, rfl, hp, hx⟩, a0, a1, a2, hB⟩ hK
    have hta : takeU u 0 (seqB s) = p := by
      obtain ⟨r, hr⟩ := hpre
      rw [← hr, List.append_assoc]
      exact takeU_eq u 0 p _ hp (.inr hx)
    rw [show (p ++ [x]).dropLast = p by simp] at a1 a2
    clear hx
    have hres : byteS s u = if uw (p) < u then (0, 1) else if u < uw (p) then (0, 60) else (endW (p), 0) := by rw [byteS, if_neg (by omega), hta]
    clear hta
    generalize uw (p) = U at a1 hres
    generalize endW (p) = E at a2 hres
    have hc0 := a0.cell
    have hc1 := a1.cell
    have hc2 := a2.cell
    rcases (by omega : U < u ∨ u < U ∨ u = U) with e | e | e
    · rw [if_pos e] at hres
      have HR := Lib.hid hres
      clear hres
      gi_wp2
      refine ⟨by simp, .inl ⟨_, _, rfl, run_takeDeferred hK, ?_⟩⟩
      exact ⟨_, results_tmp2 rfl _ _ _, by rw [HR.out]; rfl, hB.trans (belowK_b (w := w) (Nat.le_refl _) W D _ _ (by have := hB0.size; omega) hK rfl rfl)⟩
    · rw [if_neg (by omega), if_pos e] at hres
      have HR := Lib.hid hres
      clear hres
      gi_wp2
      refine ⟨by simp, .inl ⟨_, _, rfl, run_takeDeferred hK, ?_⟩⟩
      exact ⟨_, results_tmp2 rfl _ _ _, by rw [HR.out]; rfl, hB.trans (belowK_b (w := w) (Nat.le_refl _) W D _ _ (by have := hB0.size; omega) hK rfl rfl)⟩
    · rw [if_neg (by omega), if_neg (by omega)] at hres
      have HR := Lib.hid hres
      have e1 : ¬ U < u := by omega
      have e2 : ¬ u < U := by omega
      clear hres e
      gi_wp2
      refine ⟨by simp, .inl ⟨_, _, rfl, run_takeDeferred hK, ?_⟩⟩
      exact ⟨_, results_tmp2 rfl _ _ _, by rw [HR.out]; rfl, hB.trans (belowK_b (w := w) (Nat.le_refl _) W D _ _ (by have := hB0.size; omega) hK rfl rfl)⟩

theorem byte_any (s : ByteArray) (u : Int) (w : World) (hs : s.size ≤ 1000000000) (hT : Lib.Utf8Tabs 0 1 w) :
    Calls Tryd.prog 15 #[.string s, .int .i64 u] w fun e W' => e = .returned (.tuple #[.int .i64 (byteS s u).1, .int .i64 (byteS s u).2]) ∧ Below w.heap.size w W' := by
  by_cases h : u < 0
  · exact byte_arg s u w h
  · exact byte_in s u w hs hT (by omega)
end Go.Proofs.YtffldjlgmbiplaaDoor
