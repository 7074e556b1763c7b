/-
  Tokens, One.
-/
import Derived.Test.YtfedmhccbfhcbaaGreatDoorL
import Derived.Test.YtfedmhccbfhcbaaGreatDoorPP
namespace Go.Proofs.YtfedmhccbfhcbaaGreatDoor
open Go.RowKit

def valB (l : List UInt8) : Bool := Utf.validS ⟨l.toArray⟩
theorem val_eq (s : ByteArray) : Utf.validS s = valB s.data.toList := congrArg Utf.validS (ba_of s rfl)
def tokE (l : List UInt8) : Int := if 65536 < l.length then 40 else if valB l then 0 else 4
def tokL (l : List UInt8) : List Tok := if tokE l = 0 then toks l else []
def TokEnd (E : List Tok) (k : Int) (w : World) (e : Ending) (w' : World) : Prop := ∃ v, e = .returned (.tuple #[v, .int .i64 k]) ∧ ToksAt w.heap.size w' v E ∧ Below w.heap.size w w'
theorem clone_any (s : ByteArray) (w : World) (hz : s.size ≤ 1000000000) : Calls Tryz.prog 40 #[.string s] w fun e w' => e = .returned (.string s) ∧ Below w.heap.size w w' := by
  have hc := Tryz.stringslite_Clone s w (by omega)
  go_enter Tryz.func40, Tryz.ntmps40
  go_wp2_with (go_at_call 49; refine hc.mono ?_; rintro e w' ⟨rfl, hb⟩)
  go_ret
  exact ⟨rfl, hb⟩
set_option maxRecDepth 100000 in
set_option maxHeartbeats 4000000 in
theorem tokens_any (s : ByteArray) (w : World) (hz : s.size ≤ 1000000) (hE : Env w) : Calls Tryz.prog 22 #[.string s] w (TokEnd (tokL s.data.toList) (tokE s.data.toList) w) := by
  have hls : s.data.toList.length = s.size := (Lib.size_eq s).symm
  have hL : tokL s.data.toList = if tokE s.data.toList = 0 then toks s.data.toList else [] := rfl
  have hK : tokE s.data.toList = if 65536 < s.size then 40 else if valB s.data.toList then 0 else 4 := by rw [← hls]; rfl
  generalize tokE s.data.toList = K at *
  generalize tokL s.data.toList = E at *
  by_cases h1 : 65536 < s.size
  · have h1' : (65536 : Int) < (s.size : Int) := by omega
    have HK : Hid (K = 40) := Lib.hid (by rw [hK, if_pos h1])
    have HL : Hid (E = []) := Lib.hid (by rw [hL, HK.out]; rfl)
    clear hL hK hls hE
    go_enter Tryz.func22, Tryz.ntmps22
    go_wp2_with fail
    go_ret2
    exact ⟨.slice none 0 0, by rw [HK.out]; rfl, by rw [HL.out]; exact World.ownsRow_nil _ _ _ _, Below.refl _ _⟩
  · have h1' : ¬ (65536 : Int) < (s.size : Int) := by omega
    rw [if_neg h1] at hK
    have hv := Utf.valid_any s w (by omega) hE.1
    rw [val_eq] at hv
    cases hV : valB s.data.toList with
    | false =>
      have HK : Hid (K = 4) := Lib.hid (by rw [hK, hV]; rfl)
      have HL : Hid (E = []) := Lib.hid (by rw [hL, HK.out]; rfl)
      rw [hV] at hv
      clear hL hK hls hE hV
      go_enter Tryz.func22, Tryz.ntmps22
      go_wp2_with (go_at_call 38; refine hv.mono ?_; rintro e w1 ⟨rfl, hb⟩)
      go_ret2
      exact ⟨.slice none 0 0, by rw [HK.out]; rfl, by rw [HL.out]; exact World.ownsRow_nil _ _ _ _, hb⟩
    | true =>
      have HK : Hid (K = 0) := Lib.hid (by rw [hK, hV]; rfl)
      have HL : Hid (E = toks s.data.toList) := Lib.hid (by rw [hL, HK.out]; rfl)
      rw [hV] at hv
      have HE := Lib.hid hE
      clear hL hK hls hE hV
      go_enter Tryz.func22, Tryz.ntmps22
      go_wp2_with fail
      refine hv.mono ?_
      rintro e w1 ⟨rfl, hb1⟩
      have HB1 := Lib.hid hb1
      clear hb1 hv
      go_wp2_with fail
      refine (clone_any s w1 (by omega)).mono ?_
      rintro e w2 ⟨rfl, hb2⟩
      have HB2 := Lib.hid (HB1.out.trans (hb2.mono HB1.out.size))
      clear hb2
      go_wp2_with fail
      refine (divide_any s w2 hz (HE.out.below HB2.out HE.out.size)).mono ?_
      rintro e w3 ⟨v, rfl, hT, hb3⟩
      have HT : Hid (ToksAt w.heap.size w3 v (toks s.data.toList)) := Lib.hid (owns_base hT HB2.out.size)
      have HB3 := Lib.hid (HB2.out.trans (hb3.mono HB2.out.size))
      clear hb3 hT
      go_wp2_with fail
      go_ret2
      exact ⟨v, by rw [HK.out]; rfl, by rw [HL.out]; exact HT.out, HB3.out⟩
def tokA (t : Tok) : Value := .agg #[.int .u8 t.1, bl t.2]
def oneE (l : List UInt8) : Int := if tokE l = 0 then (if (toks l).length = 1 then 0 else 4) else tokE l
def oneT (l : List UInt8) : Tok := if oneE l = 0 then (toks l).headD (0, []) else (0, [])
def OneEnd (t : Tok) (k : Int) (w : World) (e : Ending) (w' : World) : Prop := e = .returned (.tuple #[tokA t, .int .i64 k]) ∧ Below w.heap.size w w'
theorem flat_at : ∀ (E : List Tok) (i : Nat) (t : Tok), E[i]? = some t → (E.flatMap tokC)[i * 2]? = some (.int .u8 t.1) ∧ (E.flatMap tokC)[i * 2 + 1]? = some (bl t.2)
  | [], i, t, h => by simp at h
  | x :: E, 0, t, h => by
    simp at h; subst h; exact ⟨rfl, rfl⟩
  | x :: E, i + 1, t, h => by
    have ih := flat_at E i t (by simpa using h)
    rw [List.flatMap_cons, show (i + 1) * 2 = 2 + i * 2 by omega, show 2 + i * 2 + 1 = 2 + (i * 2 + 1) by omega]
    rw [List.getElem?_append_right (by show 2 ≤ _; omega), List.getElem?_append_right (by show 2 ≤ _; omega)]
    show (E.flatMap tokC)[2 + i * 2 - 2]? = _ ∧ (E.flatMap tokC)[2 + (i * 2 + 1) - 2]? = _
    rw [Nat.add_sub_cancel_left, Nat.add_sub_cancel_left]
    exact ih
theorem tok_at {B : Nat} {w : World} {v : Value} {E : List Tok} (h : ToksAt B w v E) {i : Nat} {t : Tok} (hi : E[i]? = some t) : ∃ g cap, v = .slice (some ⟨g, 0, none⟩) E.length cap ∧ w.cell? ⟨g, i * 2, none⟩ = some (.int .u8 t.1) ∧ w.cell? ⟨g, i * 2 + 1, none⟩ = some (bl t.2) := by
  have hlt : i < E.length := (List.getElem?_eq_some_iff.1 hi).1
  obtain ⟨f1, f2⟩ := flat_at E i t hi
  obtain ⟨h1, h2⟩ := h
  rcases h2 with ⟨_, h2⟩ | ⟨g, cap, cur, h3, h4, h5, h6, h7, h8, h9⟩
  · omega
  · refine ⟨g, cap, h3, ?_, ?_⟩
    · rw [cellH h5, ← f1, ← h9, List.getElem?_take_of_lt (by omega)]; simp
    · rw [cellH h5, ← f2, ← h9, List.getElem?_take_of_lt (by omega)]; simp
end Go.Proofs.YtfedmhccbfhcbaaGreatDoor
