/-
  Join.
-/
import Derived.Test.YtaofpefmniadiaaDoorN
namespace Go.Proofs.YtaofpefmniadiaaDoor
open Go.RowKit Go.Shelf

def joinL (E : List Tok) : List UInt8 := E.flatMap (·.2)
theorem join_step {E : List Tok} {i : Nat} {t : Tok} (h : E[i]? = some t) : joinL (E.take (i + 1)) = joinL (E.take i) ++ t.2 := by
  have hi : i < E.length := (List.getElem?_eq_some_iff.1 h).1
  unfold joinL
  rw [List.take_succ_eq_append_getElem hi, List.flatMap_append, (List.getElem?_eq_some_iff.1 h).2]
  simp
theorem join_le (E : List Tok) (i : Nat) : (joinL (E.take i)).length ≤ (joinL E).length := by
  have h : E = E.take i ++ E.drop i := (List.take_append_drop i E).symm
  have : joinL E = joinL (E.take i) ++ joinL (E.drop i) := by
    unfold joinL; rw [← List.flatMap_append, ← h]
  rw [this, List.length_append]; omega
theorem builder_alloc {B b : Nat} {bs : List Value} {w : World} (h : Lib.IsBuilder 48 5 B b bs w) (o : Obj) : Lib.IsBuilder 48 5 B b bs (w.alloc o) :=
  builder_keep h (fun k _ h2 => (galloc2 (Below.refl w.heap.size w) (Nat.le_refl _) o).block k h2)
theorem builder_new (w : World) : Lib.IsBuilder 48 5 w.heap.size w.heap.size [] (w.alloc (.cells #[.pointer none, .slice none 0 0] 48)) :=
  .inl ⟨Nat.le_refl _, .slice none 0 0, heap_alloc_new w _, World.ownsRow_nil _ _ _ _, by intro h; cases h⟩
theorem builder_size {B b : Nat} {bs : List Value} {w : World} (h : Lib.IsBuilder 48 5 B b bs w) : b < w.heap.size := by
  rcases h with ⟨_, v, hb, _⟩ | ⟨_, v, hb, _⟩ <;> exact (Array.getElem?_eq_some_iff.1 hb).1
def JoinEnd (l : List UInt8) (w : World) (e : Ending) (w' : World) : Prop := e = .returned (bl l) ∧ Below w.heap.size w w'
set_option maxRecDepth 100000 in
set_option maxHeartbeats 8000000 in
theorem join_any (B0 : Nat) (v : Value) (E : List Tok) (w : World) (hT : ToksAt B0 w v E) (hl : E.length ≤ 10000000) (hj : (joinL E).length ≤ 100000000) : Calls Tryd.prog 17 #[v] w (JoinEnd (joinL E) w) := by
  obtain ⟨po, co, rfl⟩ := owns_shape hT
  have HT := Lib.hid hT
  have HJ := Lib.hid hj
  have hb0 : Below w.heap.size w (w.alloc (.cells #[.pointer none, .slice none 0 0] 48)) := galloc2 (Below.refl _ _) (Nat.le_refl _) _
  have HB0 := Lib.hid hb0
  have HI0 := Lib.hid (builder_new w)
  obtain ⟨J, hJ⟩ : ∃ J, joinL E = J := ⟨_, rfl⟩
  rw [hJ]
  have HJJ := Lib.hid hJ
  clear hJ hT hj hb0
  generalize hv : w.alloc (.cells #[.pointer none, .slice none 0 0] 48) = v0 at *
  go_enter Tryd.func17, Tryd.ntmps17
  go_wp2_with fail
  go_loopw [5, 8] (fun _ i wr => ∃ k : Nat, i = .int .i64 k ∧ k ≤ E.length ∧ Hid (Lib.IsBuilder 48 5 w.heap.size w.heap.size (Lib.byteCells (joinL (E.take k))) wr) ∧ Hid (Below w.heap.size w wr)) (fun _ i _ => E.length - (intOf i).toNat)
  case atStart => exact ⟨0, rfl, Nat.zero_le _, HI0, HB0⟩
  case round =>
    obtain ⟨k, rfl, hk, HI, HB⟩ := hrel
    by_cases hlt : k < E.length
    · have hlt' : (k : Int) < (E.length : Int) := by omega
      have hgt : E[k]? = some E[k] := List.getElem?_eq_getElem hlt
      obtain ⟨g, cap, he, q0, q1⟩ := tok_at (HT.out.below HB.out) hgt
      injection he with he1 _ he2
      subst he1
      subst he2
      have HS := Lib.hid (join_step hgt)
      have HLe := join_le E (k + 1)
      rw [HS.out, List.length_append] at HLe
      have HLe2 := Lib.hid HLe
      clear HLe
      generalize E[k] = t at *
      obtain ⟨tk, tt⟩ := t
      have q0' : wr.cell? ⟨g, k * 2, none⟩ = some (.int .u8 tk) := q0
      have q1' : wr.cell? ⟨g, k * 2 + 1, none⟩ = some (.string ⟨tt.toArray⟩) := q1
      have hQ : (⟨tt.toArray⟩ : ByteArray).size = tt.length := by rw [Lib.size_eq]
      have hQb : Lib.strCells ⟨tt.toArray⟩ = Lib.byteCells tt := rfl
      have HQ := Lib.hid hQ
      have HQb := Lib.hid hQb
      clear hgt q0 q1 hQ hQb
      generalize (⟨tt.toArray⟩ : ByteArray) = Q at *
      have hba : Below wr.heap.size wr (wr.alloc (.cells #[.int .u8 tk, .string Q] 32)) := galloc2 (Below.refl _ _) (Nat.le_refl _) _
      have hn := heap_alloc_new wr (.cells #[.int .u8 tk, .string Q] 32)
      have HIa := Lib.hid (builder_alloc HI.out (.cells #[.int .u8 tk, .string Q] 32))
      have HBa := Lib.hid (HB.out.trans (hba.mono HB.out.size))
      have z1 : (wr.alloc (.cells #[.int .u8 tk, .string Q] 32)).cell? ⟨wr.heap.size, 1, none⟩ = some (.string Q) := by rw [cellH hn]; rfl
      clear hba hn
      have w1 : IntKind.i64.wrap ((k : Int) + 1) = ((k + 1 : Nat) : Int) := by rw [IntWalk.i64_in _ (by omega)]; omega
      go_wp2_with fail
      refine (write_any w.heap.size w.heap.size _ Q _ HIa.out (by have := HLe2.out; have := HJ.out; have := HQ.out; unfold Lib.byteCells; rw [List.length_map]; omega) (by have := HBa.out.size; omega)).mono ?_
      rintro e w2 ⟨rfl, hI2, hb2⟩
      have HI2 : Hid (Lib.IsBuilder 48 5 w.heap.size w.heap.size (Lib.byteCells (joinL (E.take (k + 1)))) w2) := Lib.hid (by
        rw [HQb.out] at hI2
        rw [HS.out]; unfold Lib.byteCells at *; rw [List.map_append]; exact hI2)
      have HB2 := Lib.hid (HBa.out.trans hb2)
      clear hI2 hb2
      go_wp2_with fail
      go_roundw
      case rel => exact ⟨k + 1, rfl, by omega, HI2, HB2⟩
      case measure => simp [intOf]; omega
    · have hke : k = E.length := by omega
      have hlt' : ¬ (k : Int) < (E.length : Int) := by omega
      have HT2 : Hid (E.take k = E) := Lib.hid (by rw [hke, List.take_length])
      rw [HT2.out, HJJ.out] at HI
      clear hke
      go_wp2_with fail
      refine (Tryd.Builder_String_any w.heap.size w.heap.size J wr HI.out HB.out.size).mono ?_
      rintro e w2 ⟨rfl, hb2⟩
      have HB2 := Lib.hid (HB.out.trans hb2)
      clear hb2
      go_wp2_with fail
      go_ret
      exact ⟨rfl, HB2.out⟩
end Go.Proofs.YtaofpefmniadiaaDoor
