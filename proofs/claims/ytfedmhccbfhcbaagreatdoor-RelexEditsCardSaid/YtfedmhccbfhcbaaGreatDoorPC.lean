/-
  The walks of utf.Valid, Len16, Unit, Byte: ranges over the iterator of characters.
-/
import Derived.Test.YtfedmhccbfhcbaaGreatDoorPB
import Derived.RangeFuncFrom
namespace Go.Proofs.YtfedmhccbfhcbaaGreatDoor.Utf
open Go.RowKit Go.Shelf
attribute [local go_sem] Oper.semAt_some

theorem tabs_size {w : World} (h : Lib.Utf8Tabs 1 2 w) : 3 ≤ w.heap.size := by
  have := (h.2 0 (by omega)).1
  rcases Nat.lt_or_ge 2 w.heap.size with hlt | hge
  · omega
  · unfold World.cell? at this
    simp only [Array.getElem?_eq_none hge] at this
    cases this

def okAll (xs : List (Nat × ByteArray)) : Bool := xs.all fun x => !strayB x.2
theorem okAll_snoc (xs : List (Nat × ByteArray)) (x : Nat × ByteArray) : okAll (xs ++ [x]) = (okAll xs && !strayB x.2) := by simp [okAll]
theorem okAll_pre {xs ys : List (Nat × ByteArray)} (h : xs <+: ys) (hx : okAll xs = false) : okAll ys = false := by
  obtain ⟨r, rfl⟩ := h
  simp only [okAll, List.all_append] at hx ⊢
  rw [hx]; rfl
def validS (s : ByteArray) : Bool := okAll (seqB s)

theorem Kp.refl (n₀ B : Nat) (W : World) : Kp n₀ B W W := ⟨Below.refl _ _, fun _ h => h⟩
theorem Kp.set {n₀ B b : Nat} {X Y : World} (h : Kp n₀ B X Y) (hn : n₀ ≤ b) (hb : B ≠ b) (v : Value) : Kp n₀ B X (Y.setCell ⟨b, 0, none⟩ v) :=
  ⟨h.1.setCell (p := ⟨b, 0, none⟩) hn v, fun u hu => (World.cell?_setCell_other Y ⟨b, 0, none⟩ ⟨B, 0, none⟩ v (fun e => hb (by cases e; rfl))).trans (h.2 u hu)⟩
theorem Kp.drew {n₀ B : Nat} {X Y : World} (h : Kp n₀ B X Y) : Kp n₀ B X Y.drew := ⟨h.1.drew, fun u hu => h.2 u hu⟩

set_option maxRecDepth 100000 in
set_option maxRecDepth 100000 in
set_option maxHeartbeats 2000000 in
theorem valid_any (s : ByteArray) (w : World) (hs : s.size ≤ 1000000000) (hT : Lib.Utf8Tabs 1 2 w) :
    Calls Tryz.prog 38 #[.string s] w fun e W' => e = .returned (.bool (validS s)) ∧ Below w.heap.size w W' := by
  have h2 := tabs_size hT
  refine (callsIn_wide (n := 3)).1 ?_
  refine callsIn_of_wp_marks Tryz.func38 rfl trivial ?_ rfl
  simp only [Tryz.ntmps38, List.size_toArray, List.length_cons, List.length_nil, Nat.reduceAdd, Nat.reduceSub, Array.replicate_succ, Array.replicate_zero, List.push_toArray, List.append_toArray, List.nil_append, List.cons_append]
  gi_wp2_with fail
  refine ⟨trivial, ?_⟩
  refine (callsIn_wide.2 (characters_any s _)).mono ?_
  rintro e w' ⟨rfl, rfl⟩
  gi_wp2_with fail
  have b0 : Boxed ((w.alloc (.cells #[.bool false] 4)).alloc (.cells #[.string s] 9)) w.heap.size 4 (.bool false) := (Boxed.new w 4 _).alloc _
  have b1 : Boxed ((w.alloc (.cells #[.bool false] 4)).alloc (.cells #[.string s] 9)) (w.heap.size + 1) 9 (.string s) := by
    have := Boxed.new (w.alloc (.cells #[.bool false] 4)) 9 (.string s)
    rwa [World.size_alloc] at this
  have hB0 : Below w.heap.size w ((w.alloc (.cells #[.bool false] 4)).alloc (.cells #[.string s] 9)) := ((Below.refl _ w).alloc (Nat.le_refl _) _).alloc (by simp) _
  refine wpIn_rangeFunc_ownF rfl (by omega) (gf := 51) (lb := #[.pointer (some ⟨w.heap.size + 1, 0, none⟩)]) rfl trivial (enters_of Tryz.func51 (by kernel_rfl) rfl)
    (chars_stops _ (w.heap.size + 1) w.heap.size s hs h2 _ (Nat.le_trans h2 hB0.size) b1.lt b1.cell (tabs_below hT hB0 h2)) Kp.t (Kp.b (by simp; omega)) (Below.refl _ _) (fun _ => rfl)
    (fun pre W => (okAll pre = true ∧ Boxed W w.heap.size 4 (.bool false)) ∧ Below w.heap.size w W)
    (fun c pre W => ((c = .ret ∧ okAll pre = false) ∧ Boxed W w.heap.size 4 (.bool false)) ∧ Below w.heap.size w W)
    (OwnFrom.and (OwnFrom.and (ownFrom_pure _ _) (Own.from (boxed_own _ _ _) _)) (ownFrom_below (Nat.le_refl _) (by simp; omega)))
    (fun c => OwnFrom.and (OwnFrom.and (ownFrom_pure _ _) (Own.from (boxed_own _ _ _) _)) (ownFrom_below (Nat.le_refl _) (by simp; omega)))
    ⟨⟨rfl, b0⟩, hB0⟩
    (fun x => { tmps := #[.string s, undef, .pointer (some ⟨w.heap.size, 0, none⟩), undef, .string x.2, .string s, .func (.func 51) #[] #[.pointer (some ⟨w.heap.size + 1, 0, none⟩)], .int .i64 x.1, .string x.2, undef, undef], defers := [] }) ?assign ?body ?done ?stop
  case assign =>
    intro l x W K hK
    dsimp only [encs]
    gi_wp2
    exact hK
  case body =>
    rintro l pre x W ⟨⟨hp, hb⟩, hB⟩ _
    have hc := hb.cell
    have hf := hb.frozen
    have hS := stray_any x.2 W
    cases hst : strayB x.2
    · rw [hst] at hS
      have HO := Lib.hid (show okAll (pre ++ [x]) = true by rw [okAll_snoc, hp, hst]; rfl)
      clear hst hp
      gi_wp2_with fail
      refine ⟨trivial, ?_⟩
      refine (CallsIn.inRound l (callsIn_wide.2 hS)).mono ?_
      rintro e w' ⟨rfl, rfl⟩
      gi_wp2
      exact ⟨KeepsOthers.refl _, Kp.refl _ _ _, ⟨HO.out, hb⟩, hB⟩
    · rw [hst] at hS
      have HO := Lib.hid (show okAll (pre ++ [x]) = false by rw [okAll_snoc, hst]; simp)
      clear hst hp
      gi_wp2_with fail
      refine ⟨trivial, ?_⟩
      refine (CallsIn.inRound l (callsIn_wide.2 hS)).mono ?_
      rintro e w' ⟨rfl, rfl⟩
      gi_wp2
      exact ⟨KeepsOthers.setCell _ _ _, ⟨⟨rfl, HO.out⟩, hb.set _⟩, hB.setCell (p := ⟨w.heap.size, 0, none⟩) (Nat.le_refl _) _⟩
  case done =>
    rintro D ys W hD rfl ⟨⟨hp, hb⟩, hB⟩ hK
    have hc := hb.cell
    have hf := hb.frozen
    gi_wp2
    have hK' := (KeepsOthers.setCell W ⟨w.heap.size, 0, none⟩ (.bool true)).same D _ hK rfl
    refine ⟨by simp, .inl ⟨_, _, rfl, run_takeDeferred hK', ?_⟩⟩
    have hc5 := cell_kept (hb.set (.bool true)).cell (grownBy_putObj' _ D (.deferred none)) (fun r e => by cases e; exact ⟨_, hK', rfl⟩)
    refine ⟨.bool true, ?_, by rw [show validS s = true from hp], (hB.setCell (p := ⟨w.heap.size, 0, none⟩) (Nat.le_refl _) _).trans (belowK_b (w := w) (Nat.le_refl _) _ D _ _ (by simp at hD; omega) hK' rfl rfl)⟩
    simp [results, Tryz.f38, go_sem, hc5]
  case stop =>
    rintro D c pre W hD hpre ⟨⟨⟨rfl, hin⟩, hb⟩, hB⟩ hK
    gi_wp2
    refine ⟨by simp, .inl ⟨_, _, rfl, run_takeDeferred hK, ?_⟩⟩
    have hc5 := cell_kept hb.cell (grownBy_putObj' _ D (.deferred none)) (fun r e => by cases e; exact ⟨_, hK, rfl⟩)
    refine ⟨.bool false, ?_, by rw [show validS s = false from okAll_pre hpre hin], hB.trans (belowK_b (w := w) (Nat.le_refl _) W D _ _ (by simp at hD; omega) hK rfl rfl)⟩
    simp [results, Tryz.f38, go_sem, hc5]

def uw (xs : List (Nat × ByteArray)) : Int := xs.foldl (fun u x => IntKind.i64.wrap (u + widB x.2)) 0
theorem uw_snoc (pre : List (Nat × ByteArray)) (x : Nat × ByteArray) : uw (pre ++ [x]) = IntKind.i64.wrap (uw pre + widB x.2) := by simp [uw]

end Go.Proofs.YtfedmhccbfhcbaaGreatDoor.Utf
