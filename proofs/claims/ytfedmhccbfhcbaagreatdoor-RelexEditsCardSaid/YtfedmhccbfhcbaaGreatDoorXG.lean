/-
  What edit comes to (plainly), and the append to a row that is full.
-/
import Derived.Test.YtfedmhccbfhcbaaGreatDoorXF
namespace Go.Proofs.YtfedmhccbfhcbaaGreatDoor
open Go.RowKit Go.Shelf

theorem und27 : Tryz.prog.underlying 30 = some (.slice 39) := und26
theorem run_append_zero (ty : TypeId) (p q : Option Addr) (c : Nat) (w : World) : (Builtin.append_ #[30, 30] ty #[.slice p 0 0, .slice q 0 c]).run Tryz.prog w = .ok (.slice p 0 0) w := by
  obtain ⟨i32, hi9, hz0, hz1, hz2⟩ := info_parts info32
  cases q <;> cases p <;> simp [Builtin.append_, run_underlying und27, sizeOf, typeInfo, hi9, Builtin.lenOf, Builtin.firstCells, loadCells, loadCellsFrom, storeCells]
theorem flat_len (E : List Tok) : (E.flatMap tokC).length = E.length * 2 := by
  induction E with
  | nil => rfl
  | cons t E ih => rw [List.flatMap_cons, List.length_append, ih, List.length_cons]; show 2 + _ = _; omega
theorem flat_cells {w : World} {g o : Nat} {E : List Tok} (h : ∀ i t, E[i]? = some t → w.cell? ⟨g, o + i * 2, none⟩ = some (.int .u8 t.1) ∧ w.cell? ⟨g, o + i * 2 + 1, none⟩ = some (bl t.2)) :
    ∀ j u, (E.flatMap tokC)[j]? = some u → w.cell? ((⟨g, o, none⟩ : Addr).add j) = some u := by
  intro j u hj
  have hlt : j < E.length * 2 := by rw [← flat_len]; exact (List.getElem?_eq_some_iff.1 hj).1
  have hi : j / 2 < E.length := by omega
  have ht := List.getElem?_eq_getElem hi
  obtain ⟨h1, h2⟩ := h _ _ ht
  obtain ⟨f1, f2⟩ := flat_at E _ _ ht
  rw [Addr.add_lit]
  rcases Nat.mod_two_eq_zero_or_one j with hm | hm
  · rw [show j / 2 * 2 = j by omega] at h1 f1
    rw [h1, ← f1, hj]
  · rw [show o + j / 2 * 2 + 1 = o + j by omega] at h2
    rw [show j / 2 * 2 + 1 = j by omega] at f2
    rw [h2, ← f2, hj]
/-- What an edit of a valid text answers. -/
def edE (s x : List UInt8) (f t : Int) : Int := if isSp f t s.length then tokE (edL s x f.toNat t.toNat) else 1
def edX (s x : List UInt8) (f t : Int) : List UInt8 := if edE s x f t = 0 then edL s x f.toNat t.toNat else []
theorem edL_len {s x : List UInt8} {f t : Nat} (h1 : f ≤ t) (h2 : t ≤ s.length) : (edL s x f t).length = s.length - (t - f) + x.length := by
  unfold edL; rw [List.length_append, List.length_append, List.length_take, List.length_drop]; omega
theorem flatN_join (E : List Tok) : flatN E = (E.flatMap (·.2)).length := rfl
theorem flatN_toks (l : List UInt8) : flatN (toks l) = l.length := by unfold flatN; rw [toks_join]
/-- What stays of the tokens ahead of an edit, where they end, and the rest. -/
theorem edit_toks (s x : List UInt8) (f t : Nat) (hv : valB s = true) (h1 : f ≤ t) (h2 : t ≤ s.length) :
    toks (edL s x f t) = (toks s).take (keepN f (toks s)) ++ toks ((edL s x f t).drop (flatN ((toks s).take (keepN f (toks s))))) ∧
    valB (edL s x f t) = valB ((edL s x f t).drop (flatN ((toks s).take (keepN f (toks s))))) := by
  have h := toks_loc (s.drop f) (x ++ s.drop t) (s.take f).length (s.take f) (Nat.le_refl _) (by rw [List.take_append_drop]; exact hv)
  rw [List.take_append_drop, List.length_take, Nat.min_eq_left (by omega)] at h
  exact h
/-- Where what stays ends: within the text; and if something stays, so does something behind it. -/
theorem keep_at (s x : List UInt8) (f t : Nat) (h1 : f ≤ t) (h2 : t ≤ s.length) : flatN ((toks s).take (keepN f (toks s))) ≤ (edL s x f t).length ∧ (keepN f (toks s) = 0 ∨ flatN ((toks s).take (keepN f (toks s))) < (edL s x f t).length) := by
  have hl := edL_len (x := x) h1 h2
  rcases keepN_end (toks s) f with h | h
  · rw [h]; exact ⟨Nat.zero_le _, .inl rfl⟩
  · exact ⟨by omega, .inr (by omega)⟩
theorem edit_err (s x : List UInt8) (f t : Nat) (hv : valB s = true) (h1 : f ≤ t) (h2 : t ≤ s.length) (hl : (edL s x f t).length ≤ 65536) : tokE ((edL s x f t).drop (flatN ((toks s).take (keepN f (toks s))))) = tokE (edL s x f t) := by
  have h := (edit_toks s x f t hv h1 h2).2
  unfold tokE
  rw [if_neg (show ¬ 65536 < ((edL s x f t).drop _).length by rw [List.length_drop]; omega), if_neg (show ¬ 65536 < (edL s x f t).length by omega), h]
/-- A row that is an edit's: in blocks of its own, or of no elements. -/
def RowOwn (B : Nat) (w : World) (v : Value) (E : List Tok) : Prop := (E = [] ∧ ∃ p, v = .slice p 0 0) ∨ ToksAt B w v E
theorem RowOwn.row {B : Nat} {w : World} {v : Value} {E : List Tok} (h : RowOwn B w v E) : TokRow w v E := by
  rcases h with ⟨rfl, p, rfl⟩ | h
  · exact ⟨p, 0, rfl, Nat.le_refl _, .inl rfl⟩
  · exact h.row
theorem RowOwn.below {B : Nat} {w w' : World} {v : Value} {E : List Tok} (h : RowOwn B w v E) (hb : Below w.heap.size w w') : RowOwn B w' v E := by
  rcases h with h | h
  · exact .inl h
  · exact .inr (h.below hb)
theorem RowOwn.base {B B' : Nat} {w : World} {v : Value} {E : List Tok} (h : RowOwn B w v E) (hB : B' ≤ B) : RowOwn B' w v E := by
  rcases h with h | h
  · exact .inl h
  · exact .inr (owns_base h hB)
theorem RowOwn.set {B b o : Nat} {w : World} {v : Value} {E : List Tok} (h : RowOwn B w v E) (hb : b < B) (x : Value) : RowOwn B (w.setCell ⟨b, o, none⟩ x) v E := by
  rcases h with h | h
  · exact .inl h
  · exact .inr (h.set hb x)
theorem refer_own (B : Nat) (v : Value) (E : List Tok) (X : ByteArray) (w : World) (hT : RowOwn B w v E) (hX : X.data.toList = E.flatMap (·.2)) (hl : E.length ≤ 10000000) (hB : B ≤ w.heap.size) :
    Calls Tryz.prog 26 #[v, .string X] w fun e w' => e = .returned (.tuple #[]) ∧ RowOwn B w' v E ∧ Below B w w' := by
  rcases hT with ⟨rfl, p, rfl⟩ | h
  · refine (refer_nil p 0 X w).mono ?_
    rintro e w' ⟨rfl, hb⟩
    exact ⟨rfl, .inl ⟨rfl, p, rfl⟩, hb.mono hB⟩
  · refine (refer_any B v E X w h hX hl hB).mono ?_
    rintro e w' ⟨rfl, h1, h2⟩
    exact ⟨rfl, .inr h1, h2⟩
end Go.Proofs.YtfedmhccbfhcbaaGreatDoor
