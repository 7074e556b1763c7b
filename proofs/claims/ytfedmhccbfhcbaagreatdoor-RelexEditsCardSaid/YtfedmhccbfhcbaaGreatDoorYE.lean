/-
  An edit among the arguments: opened and shut.
-/
import Derived.Test.YtfedmhccbfhcbaaGreatDoorY
import Derived.Lib.SmallJoins
import Derived.ChangeSame
namespace Go.Proofs.YtfedmhccbfhcbaaGreatDoor
open Go.ChangeShapes Go.WideShapes Go.ChangeAt Go.RowKit Go.ChangeMaps Go.Joins

theorem cells25 : Tryz.prog.cellsOf 25 = 3 := by kernel_rfl
theorem cells23 : Tryz.prog.cellsOf 23 = 2 := by kernel_rfl
theorem cells3 : Tryz.prog.cellsOf 3 = 1 := by kernel_rfl
theorem cells9 : Tryz.prog.cellsOf 9 = 1 := by kernel_rfl
section
variable {H : Type} {enc : TypeId × Value → H} {w : World} {base : Nat} {sp : Nat → Bool} {held : Bool}
theorem trod_span {n : Nat} {c0 c1 : Value} {y : DataW H × List MemPlace} (h : DataW.trod enc Tryz.prog w base sp held n 23 [c0, c1] = some y) :
    ∃ a b : Int, c0 = .int .i64 a ∧ c1 = .int .i64 b ∧ y = (.agg [.lit (.int .i64 a), .lit (.int .i64 b)], []) ∧ (Lit.int .i64 a).wf = true ∧ (Lit.int .i64 b).wf = true := by
  obtain ⟨y0, y1, m, rfl, _, h0, h1⟩ := trod_struct2 Tryz.underlying23 h
  simp [cells3] at h0 h1
  obtain ⟨a, e0, rfl, wa⟩ := DataW.trod_int Tryz.underlying3 h0
  obtain ⟨b, e1, rfl, wb⟩ := DataW.trod_int Tryz.underlying3 h1
  simp at e0 e1
  exact ⟨a, b, e0, e1, rfl, wa, wb⟩
set_option maxRecDepth 100000 in
theorem trod_edit {n : Nat} {c0 c1 c2 : Value} {y : DataW H × List MemPlace} (h : DataW.trod enc Tryz.prog w base sp held n 25 [c0, c1, c2] = some y) :
    ∃ (a b : Int) (s : ByteArray), c0 = .int .i64 a ∧ c1 = .int .i64 b ∧ c2 = .string s ∧ y = (.agg [.agg [.lit (.int .i64 a), .lit (.int .i64 b)], .lit (.string s.data.toList)], []) ∧ (Lit.int .i64 a).wf = true ∧ (Lit.int .i64 b).wf = true ∧ s.size ≤ maxLen := by
  obtain ⟨y0, y1, m, rfl, _, h0, h1⟩ := trod_struct2 Tryz.underlying25 h
  simp [cells23] at h0 h1
  obtain ⟨a, b, rfl, rfl, rfl, wa, wb⟩ := trod_span h0
  obtain ⟨s, e2, rfl, ws⟩ := DataW.trod_string Tryz.underlying9 h1
  exact ⟨a, b, s, rfl, rfl, by rw [cells9] at e2; simpa using e2, rfl, wa, wb, ws⟩
set_option maxRecDepth 100000 in
theorem open_edit {r : Reach} {b0 : Nat} {v : Value} {d : DataW H} {ps : List MemPlace} (hval : Value.okWide Tryz.prog w r b0 25 v) (hd : DataW.Trod enc Tryz.prog w base sp held 25 v d ps) :
    ∃ (a b : Int) (s : ByteArray), v = .agg #[.int .i64 a, .int .i64 b, .string s] ∧ d = .agg [.agg [.lit (.int .i64 a), .lit (.int .i64 b)], .lit (.string s.data.toList)] ∧ ps = [] ∧ (Lit.int .i64 a).wf = true ∧ (Lit.int .i64 b).wf = true ∧ s.size ≤ maxLen := by
  obtain ⟨cs, rfl, hsz⟩ := okWide_struct Tryz.underlying25 hval
  obtain ⟨c0, c1, c2, rfl⟩ := array3 (hsz.trans cells25)
  obtain ⟨fuel, hf⟩ := hd
  simp [Value.cells] at hf
  obtain ⟨a, b, s, rfl, rfl, rfl, hx, wa, wb, ws⟩ := trod_edit hf
  simp only [Prod.mk.injEq] at hx
  exact ⟨a, b, s, rfl, hx.1, hx.2, wa, wb, ws⟩
theorem trod_edit_mk {a b : Int} {s : ByteArray} (wa : (Lit.int .i64 a).wf = true) (wb : (Lit.int .i64 b).wf = true) (ws : s.size ≤ maxLen) : DataW.trod enc Tryz.prog w base sp held 3 25 [.int .i64 a, .int .i64 b, .string s] = some (.agg [.agg [.lit (.int .i64 a), .lit (.int .i64 b)], .lit (.string s.data.toList)], []) := by
  have i := fun (x : Int) (wx : (Lit.int .i64 x).wf = true) => trod_int_mk (enc := enc) (P := Tryz.prog) (w := w) (base := base) (spare := sp) (held := held) 0 Tryz.underlying3 wx
  have pair := trod_struct2_mk (enc := enc) (w := w) (base := base) (spare := sp) (held := held) (n := 1) (cs := [.int .i64 a, .int .i64 b]) Tryz.underlying23 (by simp [cells23]) (by simp [cells3]; exact i a wa) (by simp [cells3]; exact i b wb)
  have st : DataW.trod enc Tryz.prog w base sp held 2 9 [.string s] = some (.lit (.string s.data.toList), []) := by
    simp [DataW.trod, Tryz.underlying9, ws]
  have whole := trod_struct2_mk (enc := enc) (w := w) (base := base) (spare := sp) (held := held) (n := 2) (cs := [.int .i64 a, .int .i64 b, .string s]) Tryz.underlying25 (by simp [cells25]) (by simp [cells23]; exact pair) (by simp [cells9]; exact st)
  simpa using whole
theorem shut_edit {a b : Int} {s : ByteArray} (wa : (Lit.int .i64 a).wf = true) (wb : (Lit.int .i64 b).wf = true) (ws : s.size ≤ maxLen) : DataW.Trod enc Tryz.prog w base sp held 25 (.agg #[.int .i64 a, .int .i64 b, .string s]) (.agg [.agg [.lit (.int .i64 a), .lit (.int .i64 b)], .lit (.string s.data.toList)]) [] :=
  ⟨3, by simpa [Value.cells] using trod_edit_mk wa wb ws⟩
end
end Go.Proofs.YtfedmhccbfhcbaaGreatDoor
