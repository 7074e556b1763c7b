/-
  Tokens, One.
-/
import Derived.Test.YtaofpefmniadiaaDoorL
import Derived.Test.YtaofpefmniadiaaDoorPP
namespace Go.Proofs.YtaofpefmniadiaaDoor
open Go.RowKit

def valB (l : List UInt8) : Bool := Utf.validS ⟨l.toArray⟩
theorem val_eq (s : ByteArray) : Utf.validS s = valB s.data.toList := congrArg Utf.validS (ba_of s rfl)
def tokE (l : List UInt8) : Int := if 65536 < l.length then 40 else if valB l then 0 else 4
def tokL (l : List UInt8) : List Tok := if tokE l = 0 then toks l else []
def TokEnd (E : List Tok) (k : Int) (w : World) (e : Ending) (w' : World) : Prop := ∃ v, e = .returned (.tuple #[v, .int .i64 k]) ∧ ToksAt w.heap.size w' v E ∧ Below w.heap.size w w'
theorem clone_any (s : ByteArray) (w : World) (hz : s.size ≤ 1000000000) : Calls Tryd.prog 20 #[.string s] w fun e w' => e = .returned (.string s) ∧ Below w.heap.size w w' := by
  have hc := Tryd.stringslite_Clone s w (by omega)
  go_enter Tryd.func20, Tryd.ntmps20
  go_wp2_with (go_at_call 30; refine hc.mono ?_; rintro e w' ⟨rfl, hb⟩)
  go_ret
  exact ⟨rfl, hb⟩
set_option maxRecDepth 100000 in
set_option maxHeartbeats 4000000 in
theorem tokens_any (s : ByteArray) (w : World) (hz : s.size ≤ 1000000) (hE : Env w) : Calls Tryd.prog 9 #[.string s] w (TokEnd (tokL s.data.toList) (tokE s.data.toList) w) := by
  have hls : s.data.toList.length = s.size := (Lib.size_eq s).symm
  have hL : tokL s.data.toList = if tokE s.data.toList = 0 then toks s.data.toList else [] := rfl
  have hK : tokE s.data.toList = if 65536 < s.size then 40 else if valB s.data.toList then 0 else 4 := by rw [← hls]; rfl
  generalize tokE s.data.toList = K at *
  generalize tokL s.data.toList = E at *
  by_cases h1 : 65536 < s.size
  · have h1' : (65536 : Int) < (s.size : Int) := by omega
    have HK : Hid (K = 40) := Lib.hid (by rw [hK, if_pos h1])
    have HL : Hid (E = []) := Lib.hid (by rw [hL, HK.out]; rfl)
    clear hL hK hls hE
    go_enter Tryd.func9, Tryd.ntmps9
    go_wp2_with fail
    go_ret2
    exact ⟨.slice none 0 0, by rw [HK.out]; rfl, by rw [HL.out]; exact World.ownsRow_nil _ _ _ _, Below.refl _ _⟩
  · have h1' : ¬ (65536 : Int) < (s.size : Int) := by omega
    rw [if_neg h1] at hK
    have hv := Utf.valid_any s w (by omega) hE.1
    rw [val_eq] at hv
    cases hV : valB s.data.toList with
    | false =>
      have HK : Hid (K = 4) := Lib.hid (by rw [hK, hV]; rfl)
      have HL : Hid (E = []) := Lib.hid (by rw [hL, HK.out]; rfl)
      rw [hV] at hv
      clear hL hK hls hE hV
      go_enter Tryd.func9, Tryd.ntmps9
      go_wp2_with (go_at_call 18; refine hv.mono ?_; rintro e w1 ⟨rfl, hb⟩)
      go_ret2
      exact ⟨.slice none 0 0, by rw [HK.out]; rfl, by rw [HL.out]; exact World.ownsRow_nil _ _ _ _, hb⟩
    | true =>
      have HK : Hid (K = 0) := Lib.hid (by rw [hK, hV]; rfl)
      have HL : Hid (E = toks s.data.toList) := Lib.hid (by rw [hL, HK.out]; rfl)
      rw [hV] at hv
      have HE := Lib.hid hE
      clear hL hK hls hE hV
      go_enter Tryd.func9, Tryd.ntmps9
      go_wp2_with fail
      refine hv.mono ?_
      rintro e w1 ⟨rfl, hb1⟩
      have HB1 := Lib.hid hb1
      clear hb1 hv
      go_wp2_with fail
      refine (clone_any s w1 (by omega)).mono ?_
      rintro e w2 ⟨rfl, hb2⟩
      have HB2 := Lib.hid (HB1.out.trans (hb2.mono HB1.out.size))
      clear hb2
      go_wp2_with fail
      refine (divide_any s w2 hz (HE.out.below HB2.out HE.out.size)).mono ?_
      rintro e w3 ⟨v, rfl, hT, hb3⟩
      have HT : Hid (ToksAt w.heap.size w3 v (toks s.data.toList)) := Lib.hid (owns_base hT HB2.out.size)
      have HB3 := Lib.hid (HB2.out.trans (hb3.mono HB2.out.size))
      clear hb3 hT
      go_wp2_with fail
      go_ret2
      exact ⟨v, by rw [HK.out]; rfl, by rw [HL.out]; exact HT.out, HB3.out⟩
def tokA (t : Tok) : Value := .agg #[.int .u8 t.1, bl t.2]
def oneE (l : List UInt8) : Int := if tokE l = 0 then (if (toks l).length = 1 then 0 else 4) else tokE l
def oneT (l : List UInt8) : Tok := if oneE l = 0 then (toks l).headD (0, []) else (0, [])
def OneEnd (t : Tok) (k : Int) (w : World) (e : Ending) (w' : World) : Prop := e = .returned (.tuple #[tokA t, .int .i64 k]) ∧ Below w.heap.size w w'
theorem flat_at : ∀ (E : List Tok) (i : Nat) (t : Tok), E[i]? = some t → (E.flatMap tokC)[i * 2]? = some (.int .u8 t.1) ∧ (E.flatMap tokC)[i * 2 + 1]? = some (bl t.2)
  | [], i, t, h => by simp at h
  | x :: E, 0, t, h => by
    simp at h; subst h; exact ⟨rfl, rfl⟩
  | x :: E, i + 1, t, h => by
    have ih := flat_at E i t (by simpa using h)
    rw [List.flatMap_cons, show (i + 1) * 2 = 2 + i * 2 by omega, show 2 + i * 2 + 1 = 2 + (i * 2 + 1) by omega]
    rw [List.getElem?_append_right (by show 2 ≤ _; omega), List.getElem?_append_right (by show 2 ≤ _; omega)]
    show (E.flatMap tokC)[2 + i * 2 - 2]? = _ ∧ (E.flatMap tokC)[2 + (i * 2 + 1) - 2]? = _
    rw [Nat.add_sub_cancel_left, Nat.add_sub_cancel_left]
    exact ih
theorem tok_at {B : Nat} {w : World} {v : Value} {E : List Tok} (h : ToksAt B w v E) {i : Nat} {t : Tok} (hi : E[i]? = some t) : ∃ g cap, v = .slice (some ⟨g, 0, none⟩) E.length cap ∧ w.cell? ⟨g, i * 2, none⟩ = some (.int .u8 t.1) ∧ w.cell? ⟨g, i * 2 + 1, none⟩ = some (bl t.2) := by
  have hlt : i < E.length := (List.getElem?_eq_some_iff.1 hi).1
  obtain ⟨f1, f2⟩ := flat_at E i t hi
  obtain ⟨h1, h2⟩ := h
  rcases h2 with ⟨_, h2⟩ | ⟨g, cap, cur, h3, h4, h5, h6, h7, h8, h9⟩
  · omega
  · refine ⟨g, cap, h3, ?_, ?_⟩
    · rw [cellH h5, ← f1, ← h9, List.getElem?_take_of_lt (by omega)]; simp
    · rw [cellH h5, ← f2, ← h9, List.getElem?_take_of_lt (by omega)]; simp
set_option maxRecDepth 100000 in
set_option maxHeartbeats 4000000 in
theorem one_tok_any (s : ByteArray) (w : World) (hz : s.size ≤ 1000000) (hE : Env w) : Calls Tryd.prog 11 #[.string s] w (OneEnd (oneT s.data.toList) (oneE s.data.toList) w) := by
  have hc := tokens_any s (w.alloc (.cells #[.int .u8 0, .string ⟨#[]⟩] 32)) hz (hE.below (galloc2 (Below.refl _ _) (Nat.le_refl _) _) hE.size)
  have hL : tokL s.data.toList = if tokE s.data.toList = 0 then toks s.data.toList else [] := rfl
  have hK : oneE s.data.toList = if tokE s.data.toList = 0 then (if (toks s.data.toList).length = 1 then 0 else 4) else tokE s.data.toList := rfl
  have hT : oneT s.data.toList = if oneE s.data.toList = 0 then (toks s.data.toList).headD (0, []) else (0, []) := rfl
  have hew : tokE s.data.toList = 0 ∨ (tokE s.data.toList = 40 ∨ tokE s.data.toList = 4) := by unfold tokE; split; exact .inr (.inl rfl); split; exact .inl rfl; exact .inr (.inr rfl)
  generalize tokE s.data.toList = K1 at *
  generalize tokL s.data.toList = E1 at *
  generalize oneE s.data.toList = K2 at *
  generalize oneT s.data.toList = T2 at *
  generalize hE2 : toks s.data.toList = E2 at *
  have ba : Below w.heap.size w (w.alloc (.cells #[.int .u8 0, .string ⟨#[]⟩] 32)) := galloc2 (Below.refl _ _) (Nat.le_refl _) _
  have hz1 : (w.alloc (.cells #[.int .u8 0, .string ⟨#[]⟩] 32)).heap.size = w.heap.size + 1 := by simp
  have hn := heap_alloc_new w (.cells #[.int .u8 0, .string ⟨#[]⟩] 32)
  clear hE2 hE
  generalize hv : w.alloc (.cells #[.int .u8 0, .string ⟨#[]⟩] 32) = v0 at *
  rcases hew with rfl | hew
  · rw [if_pos rfl] at hL hK
    by_cases h1 : E2.length = 1
    · obtain ⟨⟨k, t⟩, rfl⟩ := List.length_eq_one_iff.1 h1
      have HK : Hid (K2 = 0) := Lib.hid (by rw [hK]; rfl)
      have HT : Hid (T2 = (k, t)) := Lib.hid (by rw [hT, HK.out]; rfl)
      have HL : Hid (E1 = [(k, t)]) := Lib.hid hL
      have HA := Lib.hid ba
      have HZ := Lib.hid hz1
      have HN := Lib.hid hn
      clear hL hK hT h1 ba hz1 hn
      go_enter Tryd.func11, Tryd.ntmps11
      go_wp2_with fail
      refine hc.mono ?_
      rintro e w1 ⟨v, rfl, hTk, hb⟩
      rw [HL.out] at hTk
      obtain ⟨g, cap, rfl, q0, q1⟩ := tok_at hTk (i := 0) (t := (k, t)) rfl
      have HB := Lib.hid (HA.out.trans (hb.mono HA.out.size))
      have hN1 : w1.heap[w.heap.size]? = some (.cells #[.int .u8 0, .string ⟨#[]⟩] 32 (0, 0)) := (hb.block _ (by have := HZ.out; omega)).trans HN.out
      have HN1 := Lib.hid hN1
      have p0 : w1.cell? ⟨w.heap.size, 0, none⟩ = some (.int .u8 0) := by rw [cellH hN1]; rfl
      have p1 : w1.cell? ⟨w.heap.size, 1, none⟩ = some (.string ⟨#[]⟩) := by rw [cellH hN1]; rfl
      have pf : ∀ o, w1.frozen? ⟨w.heap.size, o, none⟩ = false := fun o => Lib.frozen_of_heap hN1 o
      have q0' : w1.cell? ⟨g, 0, none⟩ = some (.int .u8 k) := q0
      have q1' : w1.cell? ⟨g, 1, none⟩ = some (.string ⟨t.toArray⟩) := q1
      clear hTk hb hN1 q0 q1 hv hc
      go_wp2_with fail
      have kF := heap_setCell_same _ _ 1 _ _ (.string ⟨t.toArray⟩) (heap_setCell_same _ _ 0 _ _ (.int .u8 k) HN1.out)
      have z0 := cellH kF 0
      have z1 := cellH kF 1
      refine bodyPost_ret (v := .tuple #[tokA (k, t), .int .i64 0]) (by simp at z0 z1; simp [results, Tryd.results11, go_sem, tokA, bl, z0, z1]) rfl ⟨by rw [HK.out, HT.out], ?_⟩
      exact (HB.out.setCell (p := ⟨w.heap.size, 0, none⟩) (Nat.le_refl _) _).setCell (p := ⟨w.heap.size, 1, none⟩) (Nat.le_refl _) _
    · have HK : Hid (K2 = 4) := Lib.hid (by rw [hK, if_neg h1])
      have HT : Hid (T2 = (0, [])) := Lib.hid (by rw [hT, HK.out]; rfl)
      have HL : Hid (E1 = E2) := Lib.hid hL
      have HA := Lib.hid ba
      have HZ := Lib.hid hz1
      have HN := Lib.hid hn
      have q : ((E2.length : Int) != 1) = true := by rw [bne_iff_ne]; omega
      clear hL hK hT ba hz1 hn
      go_enter Tryd.func11, Tryd.ntmps11
      go_wp2_with fail
      refine hc.mono ?_
      rintro e w1 ⟨v, rfl, hTk, hb⟩
      rw [HL.out] at hTk
      obtain ⟨po, co, rfl⟩ := owns_shape hTk
      have HB := Lib.hid (HA.out.trans (hb.mono HA.out.size))
      have hN1 : w1.heap[w.heap.size]? = some (.cells #[.int .u8 0, .string ⟨#[]⟩] 32 (0, 0)) := (hb.block _ (by have := HZ.out; omega)).trans HN.out
      have HN1 := Lib.hid hN1
      have p0 : w1.cell? ⟨w.heap.size, 0, none⟩ = some (.int .u8 0) := by rw [cellH hN1]; rfl
      have p1 : w1.cell? ⟨w.heap.size, 1, none⟩ = some (.string ⟨#[]⟩) := by rw [cellH hN1]; rfl
      have pf : ∀ o, w1.frozen? ⟨w.heap.size, o, none⟩ = false := fun o => Lib.frozen_of_heap hN1 o
      clear hTk hb hN1 hv hc
      go_wp2_with fail
      have kF := heap_setCell_same _ _ 1 _ _ (.string ⟨#[]⟩) (heap_setCell_same _ _ 0 _ _ (.int .u8 0) HN1.out)
      have z0 := cellH kF 0
      have z1 := cellH kF 1
      refine bodyPost_ret (v := .tuple #[tokA (0, []), .int .i64 4]) (by simp at z0 z1; simp [results, Tryd.results11, go_sem, tokA, bl, z0, z1]) rfl ⟨by rw [HK.out, HT.out], ?_⟩
      exact (HB.out.setCell (p := ⟨w.heap.size, 0, none⟩) (Nat.le_refl _) _).setCell (p := ⟨w.heap.size, 1, none⟩) (Nat.le_refl _) _
  · have hne : K1 ≠ 0 := by omega
    rw [if_neg hne] at hL hK
    have HK : Hid (K2 = K1) := Lib.hid hK
    have HT : Hid (T2 = (0, [])) := Lib.hid (by rw [hT, hK, if_neg hne])
    have HL : Hid (E1 = []) := Lib.hid hL
    have HA := Lib.hid ba
    have HZ := Lib.hid hz1
    have HN := Lib.hid hn
    have q : ((K1 : Int) != 0) = true := by rw [bne_iff_ne]; exact hne
    clear hL hK hT ba hz1 hn hew hne
    go_enter Tryd.func11, Tryd.ntmps11
    go_wp2_with fail
    refine hc.mono ?_
    rintro e w1 ⟨v, rfl, hTk, hb⟩
    rw [HL.out] at hTk
    obtain ⟨po, co, rfl⟩ := owns_shape hTk
    have HB := Lib.hid (HA.out.trans (hb.mono HA.out.size))
    have hN1 : w1.heap[w.heap.size]? = some (.cells #[.int .u8 0, .string ⟨#[]⟩] 32 (0, 0)) := (hb.block _ (by have := HZ.out; omega)).trans HN.out
    have HN1 := Lib.hid hN1
    have p0 : w1.cell? ⟨w.heap.size, 0, none⟩ = some (.int .u8 0) := by rw [cellH hN1]; rfl
    have p1 : w1.cell? ⟨w.heap.size, 1, none⟩ = some (.string ⟨#[]⟩) := by rw [cellH hN1]; rfl
    have pf : ∀ o, w1.frozen? ⟨w.heap.size, o, none⟩ = false := fun o => Lib.frozen_of_heap hN1 o
    clear hTk hb hN1 hv hc
    go_wp2_with fail
    have kF := heap_setCell_same _ _ 1 _ _ (.string ⟨#[]⟩) (heap_setCell_same _ _ 0 _ _ (.int .u8 0) HN1.out)
    have z0 := cellH kF 0
    have z1 := cellH kF 1
    refine bodyPost_ret (v := .tuple #[tokA (0, []), .int .i64 K1]) (by simp at z0 z1; simp [results, Tryd.results11, go_sem, tokA, bl, z0, z1]) rfl ⟨by rw [HK.out, HT.out], ?_⟩
    exact (HB.out.setCell (p := ⟨w.heap.size, 0, none⟩) (Nat.le_refl _) _).setCell (p := ⟨w.heap.size, 1, none⟩) (Nat.le_refl _) _
end Go.Proofs.YtaofpefmniadiaaDoor
