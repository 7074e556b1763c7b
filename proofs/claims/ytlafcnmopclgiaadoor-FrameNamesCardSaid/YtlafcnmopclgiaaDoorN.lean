/-
  written: bodies as frames, one behind the other.
-/
import Derived.Test.YtlafcnmopclgiaaDoorM
namespace Go.Proofs.YtlafcnmopclgiaaDoor
open Go.RowKit Go.Shelf

/-- A row of texts. -/
def LStr (w : World) (v : Value) (l : List ByteArray) : Prop :=
  ((∃ p cap, v = .slice p 0 cap) ∧ l = []) ∨ ∃ g o cap, v = .slice (some ⟨g, o, none⟩) l.length cap ∧ ∀ (i : Nat) X, l[i]? = some X → w.cell? ⟨g, o + i, none⟩ = some (.string X)
theorem LStr.below {w w' : World} {v : Value} {l : List ByteArray} (h : LStr w v l) (hb : Below w.heap.size w w') : LStr w' v l := by
  rcases h with h | ⟨g, o, cap, h1, h2⟩
  · exact .inl h
  · exact .inr ⟨g, o, cap, h1, fun i X hX => (hb.cell (World.block_lt_of_cell? w _ (h2 i X hX))).trans (h2 i X hX)⟩
theorem LStr.shape {w : World} {v : Value} {l : List ByteArray} (h : LStr w v l) : ∃ p cap, v = .slice p l.length cap := by
  rcases h with ⟨⟨p, cap, rfl⟩, rfl⟩ | ⟨g, o, cap, h1, _⟩
  · exact ⟨p, cap, rfl⟩
  · exact ⟨_, cap, h1⟩
def framesOf (l : List ByteArray) : List UInt8 := (l.map fun X => frameOf X.data.toList).flatten
theorem frames_snoc {l : List ByteArray} {k : Nat} {X : ByteArray} (h : l[k]? = some X) : framesOf (l.take (k + 1)) = framesOf (l.take k) ++ frameOf X.data.toList := by
  unfold framesOf
  rw [List.take_add_one, h, List.map_append, List.flatten_append]
  simp
theorem frame_len (X : ByteArray) (h : X.size ≤ 3000) : (frameOf X.data.toList).length ≤ 3026 := by
  unfold frameOf
  have h2 := nDigits_few X.data.toList.length (by rw [← Lib.size_eq]; omega)
  rw [List.length_append, List.length_append, List.length_append, List.length_cons, Lib.decDigits_length]
  rw [← Lib.size_eq] at *
  show 15 + (_ + 1) + 4 + _ ≤ _
  omega
/-- What 'written' answers. -/
def WrittenEnd (l : List ByteArray) (w : World) (e : Ending) (w' : World) : Prop :=
  ∃ (S : ByteArray) (ok : Bool), e = .returned (.tuple #[.string S, .bool ok]) ∧ (ok = true → S.data.toList = framesOf l ∧ S.size ≤ 9100 ∧ l.length ≤ 50 ∧ ∀ X ∈ l, X.size ≤ 3000) ∧ Below w.heap.size w w'
set_option maxRecDepth 100000 in
set_option maxHeartbeats 4000000 in
theorem written_any (w : World) (hT : Tab w) (v : Value) (l : List ByteArray) (hl : LStr w v l) (hz : l.length ≤ 9223372036854775807) : Calls Tryd.prog 17 #[v] w (WrittenEnd l w) := by
  obtain ⟨p, cap, rfl⟩ := hl.shape
  have HL := Lib.hid hl

  by_cases h50 : 50 < l.length
  · have h' : (50 : Int) < (l.length : Int) := by omega
    clear hl
    go_enter Tryd.func17, Tryd.ntmps17
    go_wp2_with fail
    go_ret2
    exact ⟨⟨#[]⟩, false, rfl, (fun h => by cases h), Below.refl _ _⟩
  · have h' : ¬ (50 : Int) < (l.length : Int) := by omega
    clear hl
    go_enter Tryd.func17, Tryd.ntmps17
    go_wp2_with fail
    go_loopw [4, 5] (fun s i wr => ∃ (k : Nat) (S : ByteArray), i = .int .i64 k ∧ k ≤ l.length ∧ s = .string S ∧ S.size ≤ 9100 ∧ Hid (S.data.toList = framesOf (l.take k)) ∧ Hid (∀ X ∈ l.take k, X.size ≤ 3000) ∧ Hid (Below w.heap.size w wr)) (fun _ i _ => l.length - (intOf i).toNat)
    case atStart => exact ⟨0, ⟨#[]⟩, rfl, Nat.zero_le _, rfl, by decide, Lib.hid rfl, Lib.hid (fun X hX => by simp at hX), Lib.hid (Below.refl _ _)⟩
    case round =>
      obtain ⟨k, S, rfl, hk, rfl, hS, HS, HX, HB⟩ := hrel
      by_cases hlt : k < l.length
      · have hlt' : (k : Int) < (l.length : Int) := by omega
        obtain ⟨X, hX⟩ : ∃ X, l[k]? = some X := ⟨_, List.getElem?_eq_getElem hlt⟩
        have HXX := Lib.hid hX
        rcases HL.out with ⟨e1, e2⟩ | ⟨g, o, cap2, e1, e2⟩
        · subst e2; exact absurd hlt (Nat.not_lt_zero _)
        · cases e1
          have hc := (HB.out.cell (p := ⟨g, o + k, none⟩) (World.block_lt_of_cell? w _ (e2 k X hX))).trans (e2 k X hX)
          clear e2 hX
          by_cases h3 : 3000 < X.size
          · have h3' : (3000 : Int) < (X.size : Int) := by omega
            go_wp2_with fail
            go_ret2
            exact ⟨⟨#[]⟩, false, rfl, (fun h => by cases h), HB.out⟩
          · have h3' : ¬ (3000 : Int) < (X.size : Int) := by omega
            by_cases h6 : 6000 < S.size
            · have h6' : (6000 : Int) < (S.size : Int) := by omega
              go_wp2_with fail
              go_ret2
              exact ⟨⟨#[]⟩, false, rfl, (fun h => by cases h), HB.out⟩
            · have h6' : ¬ (6000 : Int) < (S.size : Int) := by omega
              have hw := write_any X wr (hT.below HB.out)
              have hWE : WriteEnd X.data.toList = .tuple #[bl (frameOf X.data.toList), .int .i64 0] := by unfold WriteEnd; rw [← Lib.size_eq, if_pos (by omega)]
              rw [hWE] at hw
              unfold bl at hw
              have hfl := frame_len X (by omega)
              obtain ⟨FX, hFX⟩ : ∃ F : ByteArray, (⟨(frameOf X.data.toList).toArray⟩ : ByteArray) = F := ⟨_, rfl⟩
              have hFl : FX.data.toList = frameOf X.data.toList := by rw [← hFX]
              have hFs : FX.size ≤ 3026 := by rw [Lib.size_eq, hFl]; exact hfl
              rw [hFX] at hw
              have za : ¬ 9223372036854775807 < S.size + FX.size := by omega
              have hi : IntKind.i64.wrap ((k : Int) + 1) = ((k + 1 : Nat) : Int) := by rw [IntWalk.i64_in _ (by omega)]; omega
              have HS2 : Hid ((S ++ FX).data.toList = framesOf (l.take (k + 1))) := Lib.hid (by rw [app_list, HS.out, hFl, frames_snoc HXX.out])
              have HX2 : Hid (∀ Y ∈ l.take (k + 1), Y.size ≤ 3000) := Lib.hid fun Y hY => by
                rw [List.take_add_one, HXX.out] at hY
                rcases List.mem_append.1 hY with hY | hY
                · exact HX.out Y hY
                · simp at hY; subst hY; omega
              have hSz : (S ++ FX).size ≤ 9100 := by rw [ByteArray.size_append]; omega
              clear hWE hFX hFl hfl
              go_wp2_with fail
              refine hw.mono ?_
              rintro e w2 ⟨rfl, hb⟩
              have B2 := Lib.hid (gcall HB.out HB.out.size hb)
              clear hb hw
              go_wp2_with fail
              go_roundw
              case rel => exact ⟨k + 1, S ++ FX, by go_num, by omega, rfl, hSz, HS2, HX2, B2⟩
              case measure => simp [intOf]; omega
      · obtain rfl : k = l.length := by omega
        have hlt' : ¬ (l.length : Int) < (l.length : Int) := by omega
        have h50' : l.length ≤ 50 := by omega
        go_wp2_with fail
        go_ret2
        refine ⟨S, true, rfl, fun _ => ⟨?_, hS, h50', ?_⟩, HB.out⟩
        · have := HS.out; rwa [List.take_length] at this
        · have := HX.out; rwa [List.take_length] at this
end Go.Proofs.YtlafcnmopclgiaaDoor
