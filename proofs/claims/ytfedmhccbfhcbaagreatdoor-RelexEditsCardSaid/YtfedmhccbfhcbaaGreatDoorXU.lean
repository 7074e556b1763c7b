/-
  The document's turned: a row from its end on, in new memory.
-/
import Derived.Test.YtfedmhccbfhcbaaGreatDoorXR
import Derived.Test.YtfedmhccbfhcbaaGreatDoorXK
namespace Go.Proofs.YtfedmhccbfhcbaaGreatDoor
open Go.RowKit Go.Shelf

def TurnEnd (E : List Tok) (w : World) (e : Ending) (w' : World) : Prop := ∃ v, e = .returned v ∧ ToksAt w.heap.size w' v E.reverse ∧ Below w.heap.size w w'
theorem rev_snoc {E : List Tok} {k : Nat} {t : Tok} (h : E[k]? = some t) : (E.drop k).reverse = (E.drop (k + 1)).reverse ++ [t] := by
  have hi : k < E.length := (List.getElem?_eq_some_iff.1 h).1
  rw [List.drop_eq_getElem_cons hi, (List.getElem?_eq_some_iff.1 h).2, List.reverse_cons]
set_option maxRecDepth 100000 in
set_option maxHeartbeats 8000000 in
theorem turned_any (v : Value) (E : List Tok) (w : World) (hr : TokRow w v E) (hl : E.length ≤ 1000000) : Calls Tryz.prog 17 #[v] w (TurnEnd E w) := by
  obtain ⟨i32, hi9, hz0, hz1, hz2⟩ := info_parts info32
  obtain ⟨p, c, rfl⟩ := hr.shape
  have HR := Lib.hid hr
  have HL := Lib.hid hl
  obtain ⟨LE, hLE⟩ : ∃ LE : Int, (E.length : Int) - 1 = LE := ⟨_, rfl⟩
  have u0 : IntKind.i64.wrap ((E.length : Int) - 1) = LE := by rw [IntWalk.i64_in _ (by omega), hLE]
  have HLE := Lib.hid hLE
  clear hLE
  clear hr
  go_enter Tryz.func17, Tryz.ntmps17
  go_wp2_with fail
  go_loopw [3, 4] (fun ov i wr => ∃ (k : Nat) (j : Int), i = .int .i64 j ∧ j = (k : Int) - 1 ∧ k ≤ E.length ∧ Hid (ToksAt w.heap.size wr ov (E.drop k).reverse) ∧ Hid (Below w.heap.size w wr)) (fun _ i _ => (intOf i + 1).toNat)
  case atStart => exact ⟨E.length, _, rfl, HLE.out.symm, Nat.le_refl _, Lib.hid (by rw [List.drop_length]; exact World.ownsRow_nil _ _ _ _), Lib.hid (Below.refl _ _)⟩
  case round =>
    obtain ⟨k, j, rfl, hj, hk, HO, HB⟩ := hrel
    obtain ⟨LO, hLO⟩ : ∃ LO, (E.drop k).reverse = LO := ⟨_, rfl⟩
    rw [hLO] at HO
    obtain ⟨po, co, rfl⟩ := owns_shape HO.out
    by_cases h0 : 0 < k
    · obtain ⟨m, rfl⟩ : ∃ m, k = m + 1 := ⟨k - 1, by omega⟩
      obtain rfl : j = (m : Int) := by omega
      have hlt : m < E.length := by omega
      have hlt' : (m : Int) < (E.length : Int) := by omega
      have hx := List.getElem?_eq_getElem hlt
      generalize E[m] = t at hx
      have HS := Lib.hid (rev_snoc hx)
      obtain ⟨g, o, c', he, hc', r0, r1⟩ := (HR.out.below HB.out).at hx
      cases he
      obtain ⟨kx, tx⟩ := t
      change wr.cell? ⟨g, o + m * 2, none⟩ = some (.int .u8 kx) at r0
      change wr.cell? ⟨g, o + m * 2 + 1, none⟩ = some (bl tx) at r1
      unfold bl at r1
      obtain ⟨Q, hQ⟩ : ∃ Q : ByteArray, (⟨tx.toArray⟩ : ByteArray) = Q := ⟨_, rfl⟩
      rw [hQ] at r1
      have HQ : Hid (tokC (kx, tx) = [.int .u8 kx, .string Q]) := Lib.hid (by rw [← hQ]; rfl)
      clear hQ
      rw [hLO] at HS
      have hLl : LO.length ≤ 1000000 := by rw [← hLO, List.length_reverse, List.length_drop]; omega
      have hge : (0 : Int) ≤ (m : Int) := by omega
      obtain ⟨j2, hj2⟩ : ∃ j2 : Int, (m : Int) - 1 = j2 := ⟨_, rfl⟩
      have u4 : IntKind.i64.wrap ((m : Int) - 1) = j2 := by rw [IntWalk.i64_in _ (by omega), hj2]
      have HJ2 := Lib.hid hj2
      clear hj2
      obtain ⟨wa, hwa⟩ : ∃ wa, wr.alloc (.cells #[.int .u8 kx, .string Q] 39) = wa := ⟨_, rfl⟩
      have NW : Hid (∀ (j : Nat) u, ([.int .u8 kx, .string Q] : List Value)[j]? = some u → wa.cell? ((⟨wr.heap.size, 0, none⟩ : Addr).add j) = some u) := Lib.hid (by rw [← hwa]; exact World.news_of_block (heap_alloc_new wr _))
      have ba : Below wr.heap.size wr wa := by rw [← hwa]; exact galloc2 (Below.refl _ _) (Nat.le_refl _) _
      have OW : Hid (wa.ownsRow w.heap.size 39 2 _ LO.length (LO.flatMap tokC)) := Lib.hid (owns_below HO.out ba)
      have BA : Hid (Below w.heap.size w wa) := Lib.hid (HB.out.trans (ba.mono HB.out.size))
      have HLl := Lib.hid hLl
      clear ba hx hLO hc' hLl hk hj
      subst hwa
      go_wp2_with (at_builtin; refine wpList_append_own _ rfl _ _ 30 rfl w.heap.size 39 i32 (.agg #[.int .u8 0, .string ⟨#[]⟩]) 2 24 und26 hi9 hz0 hz1 hz2 rfl (by decide) _ _ _ rfl OW.out ⟨wr.heap.size, 0, none⟩ 1 1 [.int .u8 kx, .string Q] rfl rfl NW.out (by simp [Value.oneCell']) ?c3 ?c4 ?c5 ?_)
      case c3 => have := HLl.out; unfold maxLen; omega
      case c4 => have := HLl.out; omega
      case c5 => first | exact BA.out.size | (have := BA.out.size; simpa using this)
      intro v' w2 hown hgrow _
      have O1 : Hid (ToksAt w.heap.size w2 v' (E.drop m).reverse) := Lib.hid (by
        rw [HS.out]
        unfold ToksAt; rw [List.length_append, List.flatMap_append, List.flatMap_cons, List.flatMap_nil, HQ.out, List.append_nil]
        exact hown)
      have B1 : Hid (Below w.heap.size w w2) := Lib.hid (BA.out.grown hgrow BA.out.size (fun k h => (OW.out.lt k h).1))
      clear hown hgrow
      go_wp2_with fail
      go_roundw
      case rel => exact ⟨m, _, rfl, HJ2.out.symm, by omega, O1, B1⟩
      case measure => have := HJ2.out; simp [intOf]; omega
    · have hk0 : k = 0 := by omega
      subst hk0
      have hng : ¬ (0 : Int) ≤ j := by omega
      have HO2 : Hid (ToksAt w.heap.size wr (.slice po LO.length co) E.reverse) := Lib.hid (by have h := HO.out; rw [← hLO, List.drop_zero] at h; rw [← hLO, List.drop_zero]; exact h)
      clear hLO
      go_wp2_with fail
      go_ret
      exact ⟨_, rfl, HO2.out, HB.out⟩
end Go.Proofs.YtfedmhccbfhcbaaGreatDoor
