/-
  Row.
-/
import Derived.Test.YtfedmhccbfhcbaaGreatDoorXK
namespace Go.Proofs.YtfedmhccbfhcbaaGreatDoor
open Go.RowKit Go.Shelf

structure Ed where
  f : Int
  t : Int
  x : ByteArray
/-- The text behind the edits, which of them is refused, and how. -/
def rowF : List UInt8 → List Ed → Nat → List UInt8 × Nat × Int
  | s, [], _ => (s, 0, 0)
  | s, e :: l, i => if edE s e.x.data.toList e.f e.t = 0 then rowF (edX s e.x.data.toList e.f e.t) l (i + 1) else ([], i, edE s e.x.data.toList e.f e.t)
def rwR (s : List UInt8) (l : List Ed) : List UInt8 × Nat × Int := if tokE s = 0 then rowF s l 0 else ([], 0, tokE s)
def rowT (r : List UInt8 × Nat × Int) : List Tok := if r.2.2 = 0 then toks r.1 else []
/-- A row of edits that is read. -/
def EdsAt (w : World) (v : Value) (l : List Ed) : Prop := ∃ p c, v = .slice p l.length c ∧ l.length ≤ c ∧ (l = [] ∨ ∃ g o, p = some ⟨g, o, none⟩ ∧ ∀ i e, l[i]? = some e → w.cell? ⟨g, o + i * 3, none⟩ = some (.int .i64 e.f) ∧ w.cell? ⟨g, o + i * 3 + 1, none⟩ = some (.int .i64 e.t) ∧ w.cell? ⟨g, o + i * 3 + 2, none⟩ = some (.string e.x))
theorem EdsAt.below {w w' : World} {v : Value} {l : List Ed} (h : EdsAt w v l) (hb : Below w.heap.size w w') : EdsAt w' v l := by
  obtain ⟨p, c, h1, h2, h3⟩ := h
  refine ⟨p, c, h1, h2, ?_⟩
  rcases h3 with h3 | ⟨g, o, h4, h5⟩
  · exact .inl h3
  · exact .inr ⟨g, o, h4, fun i t hi => ⟨cell_below hb (h5 i t hi).1, cell_below hb (h5 i t hi).2.1, cell_below hb (h5 i t hi).2.2⟩⟩
theorem EdsAt.at {w : World} {v : Value} {l : List Ed} (h : EdsAt w v l) {i : Nat} {e : Ed} (hi : l[i]? = some e) : ∃ g o c, v = .slice (some ⟨g, o, none⟩) l.length c ∧ w.cell? ⟨g, o + i * 3, none⟩ = some (.int .i64 e.f) ∧ w.cell? ⟨g, o + i * 3 + 1, none⟩ = some (.int .i64 e.t) ∧ w.cell? ⟨g, o + i * 3 + 2, none⟩ = some (.string e.x) := by
  obtain ⟨p, c, h1, h2, h3⟩ := h
  rcases h3 with rfl | ⟨g, o, rfl, h5⟩
  · simp at hi
  · exact ⟨g, o, c, h1, (h5 i e hi).1, (h5 i e hi).2.1, (h5 i e hi).2.2⟩
theorem EdsAt.shape {w : World} {v : Value} {l : List Ed} (h : EdsAt w v l) : ∃ p c, v = .slice p l.length c := by
  obtain ⟨p, c, h1, _⟩ := h; exact ⟨p, c, h1⟩
theorem RowOwn.box {B b o : Nat} {w : World} {v : Value} {E : List Tok} {cs : Array Value} (h : RowOwn B w v E) (hb : w.heap[b]? = some (.cells cs 46 (0, 0))) (x : Value) : RowOwn B (w.setCell ⟨b, o, none⟩ x) v E := by
  rcases h with h | ⟨h1, h2⟩
  · exact .inl h
  · refine .inr ⟨h1, ?_⟩
    rcases h2 with h2 | ⟨g, cap, cur, h3, h4, h5, h6, h7, h8, h9⟩
    · exact .inl h2
    · refine .inr ⟨g, cap, cur, h3, h4, (heap_setCell_other w ⟨b, o, none⟩ g x ?_).trans h5, h6, h7, h8, h9⟩
      show g ≠ b
      intro e
      subst e
      rw [hb] at h5
      cases h5
theorem RowOwn.box2 {B b : Nat} {w : World} {v : Value} {E : List Tok} {u1 u2 : Value} (h : RowOwn B w v E) (hb : w.heap[b]? = some (.cells #[u1, u2] 46 (0, 0))) (x y : Value) : RowOwn B ((w.setCell ⟨b, 0, none⟩ x).setCell ⟨b, 1, none⟩ y) v E :=
  (h.box hb x).box (heap_setCell_same _ _ 0 _ _ x hb) y
theorem edX_ok {s x : List UInt8} {f t : Int} (h : edE s x f t = 0) : tokE (edX s x f t) = 0 := by
  have h1 := h
  unfold edE at h
  split at h
  · unfold edX; rw [if_pos h1]; exact h
  · cases h
def RowEnd (r : List UInt8 × Nat × Int) (w : World) (e : Ending) (w' : World) : Prop := ∃ v, e = .returned (.tuple #[v, .int .i64 r.2.1, .int .i64 r.2.2]) ∧ RowOwn w.heap.size w' v (rowT r) ∧ Below w.heap.size w w'
set_option maxRecDepth 100000 in
set_option maxHeartbeats 16000000 in
theorem row_any (s : ByteArray) (vl : Value) (l : List Ed) (w : World) (hs : s.size ≤ 1000000) (hl : EdsAt w vl l) (hx : ∀ e ∈ l, e.x.size ≤ 1000000) (hn : l.length ≤ 1000000) (hE : Env w) : Calls Tryz.prog 11 #[.string s, vl] w (RowEnd (rwR s.data.toList l) w) := by
  have hrd := read_any s w hs hE
  unfold ReadEnd at hrd
  obtain ⟨pl, cl, rfl⟩ := hl.shape
  have HL := Lib.hid hl
  have HE := Lib.hid hE
  have HX := Lib.hid hx
  have hrr : rwR s.data.toList l = if tokE s.data.toList = 0 then rowF s.data.toList l 0 else ([], 0, tokE s.data.toList) := rfl
  generalize rwR s.data.toList l = R at *
  have hlb := tokL_bad (l := s.data.toList)
  have hlg := tokL_good (l := s.data.toList)
  have hlz := tokE_zero (l := s.data.toList)
  obtain ⟨K, hK⟩ : ∃ K, tokE s.data.toList = K := ⟨_, rfl⟩
  rw [hK] at hrd hrr hlb hlg hlz
  clear hl hE hx hK
  by_cases hK0 : K = 0
  · subst hK0
    rw [if_pos rfl] at hrr
    rw [hlg rfl] at hrd
    have hok : okS 0 s = s := rfl
    rw [hok] at hrd
    have HR := Lib.hid hrr
    have HV := Lib.hid (hlz rfl)
    clear hrr hlb hlg hlz hok
    go_enter Tryz.func11, Tryz.ntmps11
    go_wp2_with fail
    refine hrd.mono ?_
    rintro e w1 ⟨v, rfl, hT, hb1⟩
    obtain ⟨q1, c1, rfl⟩ := owns_shape hT
    unfold lxV
    have hn2 := heap_alloc_new w1 (.cells #[.string ⟨#[]⟩, .slice none 0 0] 46)
    have hb2 : Below w1.heap.size w1 (w1.alloc (.cells #[.string ⟨#[]⟩, .slice none 0 0] 46)) := galloc2 (Below.refl _ _) (Nat.le_refl _) _
    have hT2 := hT.below hb2
    generalize hw2 : w1.alloc (.cells #[.string ⟨#[]⟩, .slice none 0 0] 46) = w2 at *
    have HB2 := Lib.hid (hb1.trans (hb2.mono hb1.size))
    have HN2 := Lib.hid hn2
    have z0 : w2.cell? ⟨w1.heap.size, 0, none⟩ = some (.string ⟨#[]⟩) := by rw [cellH hn2]; rfl
    have z1 : w2.cell? ⟨w1.heap.size, 1, none⟩ = some (.slice none 0 0) := by rw [cellH hn2]; rfl
    have zf : ∀ o, w2.frozen? ⟨w1.heap.size, o, none⟩ = false := fun o => Lib.frozen_of_heap hn2 o
    have HZ1 := Lib.hid hb1.size
    have HO3 : Hid (RowOwn w.heap.size ((w2.setCell ⟨w1.heap.size, 0, none⟩ (.string s)).setCell ⟨w1.heap.size, 1, none⟩ (.slice q1 (toks s.data.toList).length c1)) (.slice q1 (toks s.data.toList).length c1) (toks s.data.toList)) := Lib.hid (RowOwn.box2 (.inr hT2) hn2 _ _)
    have HN3 := Lib.hid (box_set2 hn2 (.string s) (.slice q1 (toks s.data.toList).length c1))
    have HB3 := Lib.hid (below_set2 (x := .string s) (y := .slice q1 (toks s.data.toList).length c1) HB2.out hb1.size)
    clear hT hb1 hn2 hb2 hT2 hrd
    go_wp2_with fail
    clear z0 z1 zf hw2
    generalize ((w2.setCell ⟨w1.heap.size, 0, none⟩ (.string s)).setCell ⟨w1.heap.size, 1, none⟩ (.slice q1 (toks s.data.toList).length c1)) = w3 at *
    generalize hq : (Value.slice q1 (toks s.data.toList).length c1) = v3 at *
    go_loopw [8, 21] (fun er i wr => ∃ (k : Nat) (S : ByteArray) (q : Option Addr) (c : Nat), er = .int .i64 0 ∧ i = .int .i64 k ∧ k ≤ l.length ∧ Hid (R = rowF S.data.toList (l.drop k) k) ∧ Hid (tokE S.data.toList = 0) ∧ Hid (wr.heap[w1.heap.size]? = some (.cells #[.string S, .slice q (toks S.data.toList).length c] 46 (0, 0))) ∧ Hid (RowOwn w.heap.size wr (.slice q (toks S.data.toList).length c) (toks S.data.toList)) ∧ Hid (Below w.heap.size w wr)) (fun _ i _ => l.length - (intOf i).toNat)
    case atStart =>
      refine ⟨0, s, q1, c1, rfl, rfl, Nat.zero_le _, HR, Lib.hid (tokE_good HV.out.1 HV.out.2), ?_, ?_, HB3⟩
      · rw [hq]; exact HN3
      · rw [hq]; exact HO3
    case round =>
      clear HR HO3 HN3 HB3 HV hq
      obtain ⟨k, S, q, c, rfl, rfl, hk, HRR, HTE, HNb, HOb, HBr⟩ := hrel
      by_cases hlt : k < l.length
      · have hlt' : (k : Int) < (l.length : Int) := by omega
        have hx := List.getElem?_eq_getElem hlt
        have HXK := HX.out _ (List.getElem_mem hlt)
        have hdr := List.drop_eq_getElem_cons hlt
        generalize l[k] = ed at hx HXK hdr
        obtain ⟨g, o, c', he, r0, r1, r2⟩ := (HL.out.below HBr.out).at hx
        cases he
        obtain ⟨f, t, x⟩ := ed
        change wr.cell? ⟨g, o + k * 3, none⟩ = some (.int .i64 f) at r0
        change wr.cell? ⟨g, o + k * 3 + 1, none⟩ = some (.int .i64 t) at r1
        change wr.cell? ⟨g, o + k * 3 + 2, none⟩ = some (.string x) at r2
        change x.size ≤ 1000000 at HXK
        obtain ⟨hS1, hS2⟩ := tokE_zero HTE.out
        rw [← Lib.size_eq] at hS1
        have hRF := HRR.out
        rw [hdr] at hRF
        change R = (if edE S.data.toList x.data.toList f t = 0 then rowF (edX S.data.toList x.data.toList f t) (l.drop (k + 1)) (k + 1) else ([], k, edE S.data.toList x.data.toList f t)) at hRF
        -- the box of the edit
        have hn4 := heap_alloc_new wr (.cells #[.int .i64 f, .int .i64 t, .string x] 25)
        have hb4 : Below wr.heap.size wr (wr.alloc (.cells #[.int .i64 f, .int .i64 t, .string x] 25)) := galloc2 (Below.refl _ _) (Nat.le_refl _) _
        generalize hw4 : wr.alloc (.cells #[.int .i64 f, .int .i64 t, .string x] 25) = w4 at *
        have HB4 := Lib.hid (HBr.out.trans (hb4.mono HBr.out.size))
        have HN4 := Lib.hid ((hb4.block _ (Array.getElem?_eq_some_iff.1 HNb.out).1).trans HNb.out)
        have HO4 := Lib.hid (HOb.out.below hb4)
        have a0 : w4.cell? ⟨w1.heap.size, 0, none⟩ = some (.string S) := by rw [cellH HN4.out]; rfl
        have a1 : w4.cell? ⟨w1.heap.size, 1, none⟩ = some (.slice q (toks S.data.toList).length c) := by rw [cellH HN4.out]; rfl
        have b0 : w4.cell? ⟨wr.heap.size, 0, none⟩ = some (.int .i64 f) := by rw [cellH hn4]; rfl
        have b1 : w4.cell? ⟨wr.heap.size, 1, none⟩ = some (.int .i64 t) := by rw [cellH hn4]; rfl
        have b2 : w4.cell? ⟨wr.heap.size, 2, none⟩ = some (.string x) := by rw [cellH hn4]; rfl
        have hed := edit_any S x (.slice q (toks S.data.toList).length c) f t w4 hS2 hS1 HXK HO4.out.row (HE.out.below HB4.out HE.out.size)
        unfold EditEnd lxV edV at hed
        have hok := edX_ok (s := S.data.toList) (x := x.data.toList) (f := f) (t := t)
        generalize edE S.data.toList x.data.toList f t = EE at *
        generalize edX S.data.toList x.data.toList f t = XX at *
        obtain ⟨T, rfl⟩ : ∃ T : ByteArray, XX = T.data.toList := ⟨⟨XX.toArray⟩, rfl⟩
        rw [show (⟨T.data.toList.toArray⟩ : ByteArray) = T from (ba_of T rfl).symm] at hed
        have HRF := Lib.hid hRF
        have HOK := Lib.hid hok
        clear hn4 hb4 hx HXK hdr hS1 hS2 hRF hok
        have u4 : IntKind.i64.wrap ((k : Int) + 1) = ((k + 1 : Nat) : Int) := by rw [IntWalk.i64_in _ (by omega)]; omega
        by_cases hee : EE = 0
        · subst hee
          have HTE2 := Lib.hid (HOK.out rfl)
          rw [if_pos rfl] at hed
          have hRF := HRF.out
          rw [if_pos rfl] at hRF
          have HRF := Lib.hid hRF
          clear hRF
          go_wp2_with fail
          refine hed.mono ?_
          rintro e w5 ⟨v5, rfl, hO5, hb5⟩
          obtain ⟨q5, c5, rfl⟩ := own_shape hO5
          have HB5 := Lib.hid (HB4.out.trans (hb5.mono HB4.out.size))
          have HN5 := Lib.hid ((hb5.block _ (Array.getElem?_eq_some_iff.1 HN4.out).1).trans HN4.out)
          have z0 : w5.cell? ⟨w1.heap.size, 0, none⟩ = some (.string S) := by rw [cellH HN5.out]; rfl
          have z1 : w5.cell? ⟨w1.heap.size, 1, none⟩ = some (.slice q (toks S.data.toList).length c) := by rw [cellH HN5.out]; rfl
          have zf : ∀ o, w5.frozen? ⟨w1.heap.size, o, none⟩ = false := fun o => Lib.frozen_of_heap HN5.out o
          have HO6 := Lib.hid (RowOwn.box2 (hO5.base (B' := w.heap.size) HB4.out.size) HN5.out (.string T) (.slice q5 (toks T.data.toList).length c5))
          have HN6 := Lib.hid (box_set2 HN5.out (.string T) (.slice q5 (toks T.data.toList).length c5))
          have HB6 := Lib.hid (below_set2 (x := .string T) (y := .slice q5 (toks T.data.toList).length c5) HB5.out HZ1.out)
          clear hed hO5 hb5 a0 a1 b0 b1 b2 hw4 r0 r1 r2
          go_wp2_with fail
          go_roundw
          case rel => exact ⟨k + 1, T, q5, c5, rfl, rfl, by omega, HRF, HTE2, HN6, HO6, HB6⟩
          case measure => simp [intOf]; omega
        · have qe : ((EE : Int) != 0) = true := by rw [bne_iff_ne]; exact hee
          rw [if_neg hee] at hed
          have hRF := HRF.out
          rw [if_neg hee] at hRF
          have HRF := Lib.hid hRF
          have HEE := Lib.hid hee
          clear hRF hee
          go_wp2_with fail
          refine hed.mono ?_
          rintro e w5 ⟨v5, rfl, hO5, hb5⟩
          obtain ⟨q5, c5, rfl⟩ := own_shape hO5
          have HB5 := Lib.hid (HB4.out.trans (hb5.mono HB4.out.size))
          have HN5 := Lib.hid ((hb5.block _ (Array.getElem?_eq_some_iff.1 HN4.out).1).trans HN4.out)
          have z0 : w5.cell? ⟨w1.heap.size, 0, none⟩ = some (.string S) := by rw [cellH HN5.out]; rfl
          have z1 : w5.cell? ⟨w1.heap.size, 1, none⟩ = some (.slice q (toks S.data.toList).length c) := by rw [cellH HN5.out]; rfl
          have zf : ∀ o, w5.frozen? ⟨w1.heap.size, o, none⟩ = false := fun o => Lib.frozen_of_heap HN5.out o
          have HB6 := Lib.hid (below_set2 (x := .string T) (y := .slice q5 0 c5) HB5.out HZ1.out)
          clear hed hO5 hb5 a0 a1 b0 b1 b2 hw4 r0 r1 r2
          go_wp2_with fail
          refine bodyPost_ret (v := .tuple #[.slice none 0 0, .int .i64 k, .int .i64 EE]) (by simp [results, Tryz.results11, go_sem]) rfl ⟨.slice none 0 0, by rw [HRF.out], ?_, HB6.out⟩
          rw [HRF.out]; unfold rowT; rw [if_neg HEE.out]; exact .inl ⟨rfl, none, rfl⟩
      · have hlt' : ¬ (k : Int) < (l.length : Int) := by omega
        have hRF := HRR.out
        rw [List.drop_eq_nil_of_le (by omega)] at hRF
        have HRF := Lib.hid hRF
        have a1 : wr.cell? ⟨w1.heap.size, 1, none⟩ = some (.slice q (toks S.data.toList).length c) := by rw [cellH HNb.out]; rfl
        clear hRF
        go_wp2_with fail
        refine bodyPost_ret (v := .tuple #[.slice q (toks S.data.toList).length c, .int .i64 0, .int .i64 0]) (by simp [results, Tryz.results11, go_sem]) rfl ⟨_, by rw [HRF.out]; rfl, ?_, HBr.out⟩
        rw [HRF.out]; exact HOb.out
  · have q : ((K : Int) != 0) = true := by rw [bne_iff_ne]; exact hK0
    rw [if_neg hK0] at hrr
    rw [hlb hK0] at hrd
    have hok : okS K s = ⟨#[]⟩ := if_neg hK0
    rw [hok] at hrd
    have HR := Lib.hid hrr
    have HK0 := Lib.hid hK0
    clear hrr hlb hlg hlz hok hK0
    go_enter Tryz.func11, Tryz.ntmps11
    go_wp2_with fail
    refine hrd.mono ?_
    rintro e w1 ⟨v, rfl, hT, hb1⟩
    obtain ⟨q1, c1, rfl⟩ := owns_shape hT
    unfold lxV
    have hn2 := heap_alloc_new w1 (.cells #[.string ⟨#[]⟩, .slice none 0 0] 46)
    have hb2 : Below w1.heap.size w1 (w1.alloc (.cells #[.string ⟨#[]⟩, .slice none 0 0] 46)) := galloc2 (Below.refl _ _) (Nat.le_refl _) _
    generalize hw2 : w1.alloc (.cells #[.string ⟨#[]⟩, .slice none 0 0] 46) = w2 at *
    have HB2 := Lib.hid (hb1.trans (hb2.mono hb1.size))
    have z0 : w2.cell? ⟨w1.heap.size, 0, none⟩ = some (.string ⟨#[]⟩) := by rw [cellH hn2]; rfl
    have z1 : w2.cell? ⟨w1.heap.size, 1, none⟩ = some (.slice none 0 0) := by rw [cellH hn2]; rfl
    have zf : ∀ o, w2.frozen? ⟨w1.heap.size, o, none⟩ = false := fun o => Lib.frozen_of_heap hn2 o
    have HZ1 := Lib.hid hb1.size
    clear hT hb1 hn2 hb2 hrd
    go_wp2_with fail
    refine bodyPost_ret (v := .tuple #[.slice none 0 0, .int .i64 0, .int .i64 K]) (by simp [results, Tryz.results11, go_sem]) rfl ⟨.slice none 0 0, by rw [HR.out]; rfl, ?_, below_set2 HB2.out HZ1.out⟩
    rw [HR.out]; unfold rowT; rw [if_neg HK0.out]; exact .inl ⟨rfl, none, rfl⟩
end Go.Proofs.YtfedmhccbfhcbaaGreatDoor
