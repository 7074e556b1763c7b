/-
  FrameBack.
-/
import Derived.Test.YtlafcnmopclgiaaDoorN
namespace Go.Proofs.YtlafcnmopclgiaaDoor
open Go.RowKit Go.Shelf

theorem flat2 : ∀ (l : List Ev) (i : Nat) (e : Ev), l[i]? = some e → (l.flatMap evC)[i * 2]? = some (bl e.1) ∧ (l.flatMap evC)[i * 2 + 1]? = some (.int .i64 e.2)
  | [], i, e, h => by simp at h
  | x :: l, 0, e, h => by
    simp at h; subst h
    rw [List.flatMap_cons]; exact ⟨rfl, rfl⟩
  | x :: l, i + 1, e, h => by
    simp at h
    obtain ⟨h1, h2⟩ := flat2 l i e h
    rw [List.flatMap_cons]
    have hx : (evC x).length = 2 := rfl
    constructor
    · rw [List.getElem?_append_right (by omega), hx, show (i + 1) * 2 - 2 = i * 2 by omega]; exact h1
    · rw [List.getElem?_append_right (by omega), hx, show (i + 1) * 2 + 1 - 2 = i * 2 + 1 by omega]; exact h2
theorem evs_at {B : Nat} {w : World} {v : Value} {l : List Ev} (h : EvsAt B w v l) {g n cap : Nat} (hv : v = .slice (some ⟨g, 0, none⟩) n cap) {i : Nat} {e : Ev} (hi : l[i]? = some e) : w.cell? ⟨g, i * 2, none⟩ = some (bl e.1) ∧ w.cell? ⟨g, i * 2 + 1, none⟩ = some (.int .i64 e.2) := by
  have hc := World.ownsRow.cells h (g := g) (by rw [hv]; rfl)
  obtain ⟨h1, h2⟩ := flat2 l i e hi
  have k1 := hc _ _ h1
  have k2 := hc _ _ h2
  rw [addr_add, Nat.zero_add] at k1 k2
  exact ⟨k1, k2⟩
theorem evs_block {B : Nat} {w : World} {v : Value} {l : List Ev} (h : EvsAt B w v l) : (∃ cap, v = .slice none l.length cap ∧ l = []) ∨ ∃ g cap, v = .slice (some ⟨g, 0, none⟩) l.length cap := by
  rcases h.2 with ⟨rfl, h2⟩ | ⟨g, cap, cur, rfl, _⟩
  · obtain rfl := List.eq_nil_of_length_eq_zero h2
    exact .inl ⟨0, rfl, rfl⟩
  · exact .inr ⟨g, cap, rfl⟩
theorem frames_told (l : List ByteArray) (h : ∀ X ∈ l, X.size ≤ 3000) : (runA .head (framesOf l)).2.1 = l.map fun X => (X.data.toList, 0) := by
  have h2 := run_frames (l.map fun X => X.data.toList) (fun b hb => by
    obtain ⟨X, hX, rfl⟩ := List.mem_map.1 hb
    have := h X hX
    rw [← Lib.size_eq]; omega)
  unfold framesOf
  rw [List.map_map] at h2
  have e : (fun X : ByteArray => frameOf X.data.toList) = frameOf ∘ fun X => X.data.toList := rfl
  rw [e, h2, List.map_map]
  rfl
set_option maxRecDepth 100000 in
set_option maxHeartbeats 4000000 in
theorem frameBack_walk (v : Value) (l : List ByteArray) (w : World) (hT : Tab w ∧ 11 ≤ w.heap.size) (hl : LStr w v l) (hz : l.length ≤ 9223372036854775807) :
    Calls Tryd.prog 6 #[v] w fun e w' => e = .returned (.bool true) ∧ Below w.heap.size w w' := by
  have ha := awake_any w hT.1 hT.2
  obtain ⟨p, cap, rfl⟩ := hl.shape
  have HL := Lib.hid hl
  clear hl
  go_enter Tryd.func6, Tryd.ntmps6
  go_wp2_with fail
  refine ha.mono ?_
  rintro e w1 ⟨rfl, hb1⟩
  have hw := written_any w1 (hT.1.below hb1) _ l (HL.out.below hb1) hz
  have B1 := Lib.hid hb1
  clear hb1 ha
  go_wp2_with fail
  refine hw.mono ?_
  rintro e w2 ⟨S, ok, rfl, hok, hb2⟩
  have B2 := Lib.hid (gcall B1.out B1.out.size hb2)
  clear hb2 hw
  cases ok with
  | false =>
    go_wp2_with fail
    go_ret
    exact ⟨rfl, B2.out⟩
  | true =>
    obtain ⟨hS, hSz, h50, hX⟩ := hok rfl
    have hall := all_any S w2 (hT.1.below B2.out) (Nat.le_trans hT.2 B2.out.size) (by omega)
    rw [hS, frames_told l hX] at hall
    clear hok hS
    go_wp2_with fail
    refine hall.mono ?_
    rintro e w3 ⟨ve, rfl, hev, hb3⟩
    have B3 := Lib.hid (gcall B2.out B2.out.size hb3)
    have HEV := Lib.hid hev
    clear hb3 hall hev
    have hlen : (l.map fun X => ((X.data.toList, 0) : Ev)).length = l.length := List.length_map _
    have hL3 := HL.out.below B3.out
    rcases evs_block HEV.out with ⟨cp, rfl, he⟩ | ⟨g, cp, rfl⟩
    · have hl0 : l = [] := List.map_eq_nil_iff.1 he
      subst hl0
      go_wp2_with fail
      go_loop [6] (fun i => i = .int .i64 0) (fun _ => 0)
      case atStart => rfl
      case round =>
        subst hrel
        go_wp2_with fail
        go_ret
        exact ⟨rfl, B3.out⟩
    · rw [hlen] at HEV ⊢
      go_wp2_with fail
      go_loopw [6] (fun i wr => ∃ k : Nat, i = .int .i64 k ∧ k ≤ l.length ∧ Hid (Below w3.heap.size w3 wr)) (fun i _ => l.length - (intOf i).toNat)
      case atStart => exact ⟨0, rfl, Nat.zero_le _, Lib.hid (Below.refl _ _)⟩
      case round =>
        obtain ⟨k, rfl, hk, HBr⟩ := hrel
        by_cases hlt : k < l.length
        · have hlt' : (k : Int) < (l.length : Int) := by omega
          obtain ⟨X, hXk⟩ : ∃ X, l[k]? = some X := ⟨_, List.getElem?_eq_getElem hlt⟩
          obtain ⟨c1, c2⟩ := evs_at HEV.out rfl (i := k) (e := (X.data.toList, 0)) (by rw [List.getElem?_map, hXk]; rfl)
          have hi : IntKind.i64.wrap ((k : Int) + 1) = ((k + 1 : Nat) : Int) := by rw [IntWalk.i64_in _ (by omega)]; omega
          rcases hL3 with ⟨e1, e2⟩ | ⟨g2, o2, cap2, e1, e2⟩
          · subst e2; exact absurd hlt (Nat.not_lt_zero _)
          · cases e1
            have c3 := e2 k X hXk
            have hbx : bl X.data.toList = .string X := rfl
            simp only [hbx] at c1
            replace c1 := (HBr.out.cell (World.block_lt_of_cell? w3 _ c1)).trans c1
            replace c2 := (HBr.out.cell (World.block_lt_of_cell? w3 _ c2)).trans c2
            replace c3 := (HBr.out.cell (World.block_lt_of_cell? w3 _ c3)).trans c3
            simp only at c2
            clear e2 hXk
            go_wp2_with fail
            go_quiet (fail)
            go_wp2
            go_roundw
            case rel => exact ⟨k + 1, by go_num, by omega, Lib.hid (belowN HBr.out _)⟩
            case measure => simp [intOf]; omega
        · obtain rfl : k = l.length := by omega
          have hlt' : ¬ (l.length : Int) < (l.length : Int) := by omega
          go_wp2_with fail
          go_ret
          exact ⟨rfl, B3.out.trans (HBr.out.mono B3.out.size)⟩
end Go.Proofs.YtlafcnmopclgiaaDoor
