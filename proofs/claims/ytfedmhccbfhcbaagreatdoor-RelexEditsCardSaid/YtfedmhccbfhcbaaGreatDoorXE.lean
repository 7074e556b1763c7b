/-
  refer.
-/
import Derived.Test.YtfedmhccbfhcbaaGreatDoorXD
namespace Go.Proofs.YtfedmhccbfhcbaaGreatDoor
open Go.RowKit Go.Shelf

set_option maxRecDepth 100000 in
theorem refer_nil (p : Option Addr) (c : Nat) (X : ByteArray) (w : World) : Calls Tryz.prog 26 #[.slice p 0 c, .string X] w fun e w' => e = .returned (.tuple #[]) ∧ Below w.heap.size w w' := by
  go_enter Tryz.func26, Tryz.ntmps26
  go_wp2_with fail
  go_loopw [1, 8] (fun x i wr => x = .string X ∧ i = .int .i64 0 ∧ wr = w) (fun _ _ _ => 0)
  case atStart => exact ⟨rfl, rfl, rfl⟩
  case round =>
    obtain ⟨rfl, rfl, rfl⟩ := hrel
    go_wp2_with fail
    go_end0
    exact ⟨rfl, Below.refl _ _⟩
/-- A token's text, written where it stands already. -/
theorem toks_same {B : Nat} {w : World} {v : Value} {E : List Tok} (h : ToksAt B w v E) {g n c k : Nat} (hv : v = .slice (some ⟨g, 0, none⟩) n c) {t : Tok} (ht : E[k]? = some t) : ToksAt B (w.setCell ⟨g, k * 2 + 1, none⟩ (bl t.2)) v E ∧ Below B w (w.setCell ⟨g, k * 2 + 1, none⟩ (bl t.2)) ∧ w.frozen? ⟨g, k * 2 + 1, none⟩ = false := by
  have hlt : k < E.length := (List.getElem?_eq_some_iff.1 ht).1
  obtain ⟨f1, f2⟩ := flat_at E k t ht
  obtain ⟨h1, h2⟩ := h
  rcases h2 with ⟨h2, h3⟩ | ⟨g', cap, cur, h3, h4, h5, h6, h7, h8, h9⟩
  · omega
  · rw [hv] at h3
    cases h3
    have hcur : cur[k * 2 + 1]? = some (bl t.2) := by
      rw [← f2, ← h9, List.getElem?_take_of_lt (by omega)]; simp
    have hk := heap_setCell_same w g (k * 2 + 1) cur _ (bl t.2) h5
    have hset : cur.setIfInBounds (k * 2 + 1) (bl t.2) = cur := by
      apply Array.ext_getElem?
      intro i
      by_cases hi : i = k * 2 + 1
      · subst hi
        rw [hcur, Array.getElem?_setIfInBounds, if_pos rfl, if_pos (Array.getElem?_eq_some_iff.1 hcur).1]
      · rw [Array.getElem?_setIfInBounds, if_neg (Ne.symm hi)]
    refine ⟨⟨h1, .inr ⟨g, _, cur, hv, h4, ?_, h6, h7, h8, h9⟩⟩, (Below.refl B w).setCell (p := ⟨g, k * 2 + 1, none⟩) h4 _, Lib.frozen_of_heap h5 _⟩
    rw [hk, hset]
theorem flat_drop {E : List Tok} {k : Nat} {t : Tok} (h : E[k]? = some t) : (E.drop k).flatMap (·.2) = t.2 ++ (E.drop (k + 1)).flatMap (·.2) := by
  have hi : k < E.length := (List.getElem?_eq_some_iff.1 h).1
  rw [List.drop_eq_getElem_cons hi, List.flatMap_cons, (List.getElem?_eq_some_iff.1 h).2]
set_option maxRecDepth 100000 in
set_option maxHeartbeats 8000000 in
theorem refer_any (B : Nat) (v : Value) (E : List Tok) (X : ByteArray) (w : World) (hT : ToksAt B w v E) (hX : X.data.toList = E.flatMap (·.2)) (hl : E.length ≤ 10000000) (hB : B ≤ w.heap.size) :
    Calls Tryz.prog 26 #[v, .string X] w fun e w' => e = .returned (.tuple #[]) ∧ ToksAt B w' v E ∧ Below B w w' := by
  obtain ⟨po, co, rfl⟩ := owns_shape hT
  have HT := Lib.hid hT
  have HX := Lib.hid hX
  clear hT hX
  go_enter Tryz.func26, Tryz.ntmps26
  go_wp2_with fail
  go_loopw [1, 8] (fun x i wr => ∃ (k : Nat) (Y : ByteArray), x = .string Y ∧ i = .int .i64 k ∧ k ≤ E.length ∧ Hid (Y.data.toList = (E.drop k).flatMap (·.2)) ∧ Hid (ToksAt B wr (.slice po E.length co) E) ∧ Hid (Below B w wr)) (fun _ i _ => E.length - (intOf i).toNat)
  case atStart => exact ⟨0, X, rfl, rfl, Nat.zero_le _, Lib.hid (by rw [HX.out]; rfl), HT, Lib.hid (Below.refl _ _)⟩
  case round =>
    obtain ⟨k, Y, rfl, rfl, hk, HY, HTr, HB⟩ := hrel
    by_cases hlt : k < E.length
    · have hlt' : (k : Int) < (E.length : Int) := by omega
      have hx := List.getElem?_eq_getElem hlt
      generalize E[k] = t at hx
      obtain ⟨g, c, he, r0, r1⟩ := tok_at HTr.out hx
      cases he
      have HD := flat_drop hx
      obtain ⟨kx, tx⟩ := t
      change wr.cell? ⟨g, k * 2, none⟩ = some (.int .u8 kx) at r0
      change wr.cell? ⟨g, k * 2 + 1, none⟩ = some (bl tx) at r1
      change _ = tx ++ _ at HD
      have hYl := HY.out
      rw [HD] at hYl
      obtain ⟨Q, rfl⟩ : ∃ Q : ByteArray, tx = Q.data.toList := ⟨⟨tx.toArray⟩, rfl⟩
      have hQ2 : (⟨Q.data.toList.toArray⟩ : ByteArray) = Q := (ba_of Q rfl).symm
      have hbq : bl Q.data.toList = .string Q := by unfold bl; rw [hQ2]
      rw [hbq] at r1
      have hsz : Q.size ≤ Y.size := by rw [Lib.size_eq, Lib.size_eq, hYl, List.length_append]; omega
      have hex : Y.extract 0 Q.size = Q := Utf.ba_ext (by rw [Utf.extract_list, List.drop_zero, hYl, Lib.size_eq Q, List.take_left])
      have hey : Hid ((Y.extract Q.size Y.size).data.toList = (E.drop (k + 1)).flatMap (·.2)) := Lib.hid (by rw [ext_list, hYl, Lib.size_eq Q, List.drop_left])
      have q0 : (0 : Int) ≤ (Q.size : Int) := by omega
      have q1 : (Q.size : Int) ≤ (Y.size : Int) := by omega
      have u2 : IntKind.i64.wrap ((k : Int) + 1) = ((k + 1 : Nat) : Int) := by rw [IntWalk.i64_in _ (by omega)]; omega
      have hbk := (galloc2 (w0 := wr) (Below.refl wr.heap.size wr) (Nat.le_refl _) (.cells #[.int .u8 kx, .string Q] 39))
      have HTa := Lib.hid (HTr.out.below hbk)
      have HBa := Lib.hid (HB.out.trans (hbk.mono (Nat.le_trans hB HB.out.size)))
      have hn := heap_alloc_new wr (.cells #[.int .u8 kx, .string Q] 39)
      have y1 : (wr.alloc (.cells #[.int .u8 kx, .string Q] 39)).cell? ⟨wr.heap.size, 1, none⟩ = some (.string Q) := by rw [cellH hn]; rfl
      have fz := (toks_same HTa.out rfl hx).2.2
      have r1a : (wr.alloc (.cells #[.int .u8 kx, .string Q] 39)).cell? ⟨g, k * 2 + 1, none⟩ = some (.string Q) := by
        obtain ⟨g', c', he', _, r1'⟩ := tok_at HTa.out hx
        cases he'
        rw [← hbq]; exact r1'
      have y1s : ((wr.alloc (.cells #[.int .u8 kx, .string Q] 39)).setCell ⟨g, k * 2 + 1, none⟩ (.string Q)).cell? ⟨wr.heap.size, 1, none⟩ = some (.string Q) := by
        have hg : g < wr.heap.size := by
          unfold World.cell? at r1
          cases hh : wr.heap[g]? with
          | none => rw [hh] at r1; cases r1
          | some o => exact (Array.getElem?_eq_some_iff.1 hh).1
        rw [cellH ((heap_setCell_other _ ⟨g, k * 2 + 1, none⟩ wr.heap.size (.string Q) (by simp; omega)).trans hn)]; rfl
      have HXX := Lib.hid hx
      clear HD hYl hQ2 hbk hn hx
      go_wp2_with fail
      generalize wr.alloc (.cells #[.int .u8 kx, .string Q] 39) = wa at *
      go_region
      obtain ⟨k1, k2, _⟩ := toks_same HTa.out rfl HXX.out
      rw [show bl (kx, Q.data.toList).2 = .string Q from hbq] at k1 k2
      have HT9 := Lib.hid (show ToksAt B (wa.setCell ⟨g, k * 2 + 1, none⟩ (.string Q)).drew _ E from k1)
      have HB9 := Lib.hid (show Below B w (wa.setCell ⟨g, k * 2 + 1, none⟩ (.string Q)).drew from (HBa.out.trans k2).drew)
      clear k1 k2 y1 y1s r1a fz
      generalize (wa.setCell ⟨g, k * 2 + 1, none⟩ (.string Q)).drew = w9 at *
      go_wp2_with fail
      go_roundw
      case rel => exact ⟨k + 1, Y.extract Q.size Y.size, rfl, rfl, by omega, hey, HT9, HB9⟩
      case measure => simp [intOf]; omega
    · have hlt' : ¬ (k : Int) < (E.length : Int) := by omega
      go_wp2_with fail
      go_end0
      exact ⟨rfl, HTr.out, HB.out⟩
end Go.Proofs.YtfedmhccbfhcbaaGreatDoor
