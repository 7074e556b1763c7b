/-
  What the rows' lists give (the table of powers, strconv's errors, the two tables of unicode/utf8), a world for the witness, and the last step of a law.
-/
import Derived.Test.YtgcpgieojckheaaGreatDoorCards
import Derived.Test.YtgcpgieojckheaaGreatDoorTie
import Derived.Test.YtgcpgieojckheaaGreatDoorMgL
import Derived.WalkKit
import Derived.ProofKit
import Derived.OpenShut
import Derived.ShutString
import Derived.Deep.DeepHandedRow
import Derived.Lib.LaidU8
import Derived.MakeChecks
namespace Go.Proofs.YtgcpgieojckheaaGreatDoor
open Go.ChangeShapes Go.WideShapes Go.ChangeAt Go.RowKit

theorem own : ownKnob Tryz.prog.godebug = none := by kernel_rfl
set_option maxRecDepth 100000 in
theorem first_eq : Rows.laid_unicode_utf8_first = Lib.firstData := by kernel_rfl
theorem accept_eq : (Rows.laid_unicode_utf8_acceptRanges : DataW Unit) = Lib.acceptData := by kernel_rfl
theorem pow_eq : (Rows.laid_internal_strconv_uint64pow10 : DataW Unit) = Lib.tabData .u64 Lib.pow10Tab := by kernel_rfl
/-- The list of every row of this seat. -/
abbrev laidList : List (String × DataW Unit) := [("math/bits.deBruijn32tab", Rows.laid_math_bits_deBruijn32tab), ("math/bits.deBruijn64tab", Rows.laid_math_bits_deBruijn64tab), ("internal/strconv.uint64pow10", Rows.laid_internal_strconv_uint64pow10), ("unicode/utf8.acceptRanges", Rows.laid_unicode_utf8_acceptRanges), ("strconv.ErrRange", Rows.laid_strconv_ErrRange), ("strconv.ErrSyntax", Rows.laid_strconv_ErrSyntax), ("unicode/utf8.first", Rows.laid_unicode_utf8_first)]
theorem pow_cells {w : World} (h : Lib.VarReads Tryz.prog w "internal/strconv.uint64pow10" (Lib.tabData .u64 Lib.pow10Tab)) : Lib.TabIs Tryz.prog w "internal/strconv.uint64pow10" .u64 Lib.pow10Tab := by
  obtain ⟨g, t, cs, fuel, p, hg, hty, hvar, hd⟩ := h
  have hg2 : Tryz.prog.globalNamed "internal/strconv.uint64pow10" = some 2 := by kernel_rfl
  obtain rfl := Option.some.inj (hg2.symm.trans hg)
  have hty2 : ∃ t e n, (Tryz.prog.globals[2]?).map (·.type) = some t ∧ Tryz.prog.underlying t = some (.array n e) ∧ Tryz.prog.underlying e = some (.int .u64) ∧ Tryz.prog.cellsOf e = 1 ∧ Tryz.prog.cellsOf t = n := ⟨185, 82, 20, by kernel_rfl, by kernel_rfl, by kernel_rfl, by kernel_rfl, by kernel_rfl⟩
  obtain ⟨t2, e, n, a1, a2, a3, a4, a5⟩ := hty2
  obtain rfl := Option.some.inj (a1.symm.trans hty)
  unfold Lib.TabIs
  rw [hvar, ← Lib.cells_of_tab a2 a3 a4 a5 hd]
theorem err_cell {w : World} {n : String} {d : DataW Unit} (h : Lib.VarReads Tryz.prog w n d) (hn : Tryz.prog.globalNamed n = some 1) : ∃ ev, w.cell? ⟨1, 0, none⟩ = some ev ∧ (ev = .nilIface ∨ ∃ te pe, ev = .iface te pe) := by
  obtain ⟨g, t, cs, fuel, p, hg, hty, hvar, hd⟩ := h
  obtain rfl := Option.some.inj (hn.symm.trans hg)
  have hty2 : (Tryz.prog.globals[1]?).map (·.type) = some 78 := by kernel_rfl
  obtain rfl := Option.some.inj (hty2.symm.trans hty)
  have hu : ∃ ms, Tryz.prog.underlying 78 = some (.interface ms) := ⟨_, Tryz.underlying78⟩
  obtain ⟨ms, hu⟩ := hu
  have hc := World.var?_cell hn hvar 0
  cases fuel with
  | zero => simp [DataW.trod] at hd
  | succ k =>
    unfold DataW.trod at hd
    rw [hu] at hd
    rcases hcs : cs.toList with _ | ⟨v, r⟩
    · rw [hcs] at hd; simp at hd
    · have h0 : cs[0]? = some v := by rw [← Array.getElem?_toList, hcs]; rfl
      rw [h0] at hc
      refine ⟨v, hc, ?_⟩
      rw [hcs] at hd
      cases v <;> first | exact .inl rfl | exact .inr ⟨_, _, rfl⟩ | (exfalso; cases r <;> simp at hd)
theorem tabs {W : World} (h : laidMetH Tryz.prog laidList W) : Tab W := by
  rw [MakeChecks.laidMetH_plain Tryz.prog laidList W (by kernel_rfl)] at h
  refine ⟨pow_cells (by rw [← pow_eq]; exact Lib.laidMet.reads h (.tail _ (.tail _ (.head _)))), ?_⟩
  exact err_cell (Lib.laidMet.reads h (.tail _ (.tail _ (.tail _ (.tail _ (.head _)))))) (by kernel_rfl)
theorem u8 : U8Extra Tryz.prog Tryz.lays260_ren :=
  { n3 := by kernel_rfl, n4 := by kernel_rfl, y3 := by kernel_rfl, y4 := by kernel_rfl, c5 := by kernel_rfl, c119 := by kernel_rfl, c138 := by kernel_rfl }
theorem tabs8 {W : World} (h : laidMetH Tryz.prog laidList W) : Lib.Utf8Tabs 6 7 W := by
  rw [MakeChecks.laidMetH_plain Tryz.prog laidList W (by kernel_rfl)] at h
  exact utf8Tabs_of_reads Tryz.lays260 u8 (by rw [← first_eq]; exact Lib.laidMet.reads h (.tail _ (.tail _ (.tail _ (.tail _ (.tail _ (.tail _ (.head _)))))))) (by rw [← accept_eq]; exact Lib.laidMet.reads h (.tail _ (.tail _ (.tail _ (.head _)))))

def newCells (cs : Array Value) : Obj → Obj
  | .cells _ t frozen => .cells cs t frozen
  | o => o
/-- The cells of a table, as its datum lists them. -/
def flat : DataW Unit → List Value
  | .agg l => l.flatMap fun
    | .lit (.int k z) => [Value.int k z]
    | .agg m => m.map fun
      | .lit (.int k z) => Value.int k z
      | _ => .nilFunc
    | _ => []
  | _ => []
noncomputable def low : Nat := (World.holding Tryz.prog default ⟨#[], #[], []⟩).heap.size
/-- A world for the witness: the settled one, the listed variables holding what their initialisers lay. -/
noncomputable def laidWorld (os : Os) : World :=
  let w0 := World.holding Tryz.prog os ⟨#[.cells #[.string ⟨#[118, 97, 108, 117, 101, 32, 111, 117, 116, 32, 111, 102, 32, 114, 97, 110, 103, 101]⟩] 205, .cells #[.string ⟨#[105, 110, 118, 97, 108, 105, 100, 32, 115, 121, 110, 116, 97, 120]⟩] 205], #[], []⟩
  { w0 with heap := (((((((w0.heap.modify 1 (newCells #[.iface 203 (.pointer (some ⟨low, 0, none⟩))])).modify 0 (newCells #[.iface 203 (.pointer (some ⟨low + 1, 0, none⟩))])).modify 2 (newCells (flat Rows.laid_internal_strconv_uint64pow10).toArray)).modify 4 (newCells (flat Rows.laid_math_bits_deBruijn32tab).toArray)).modify 5 (newCells (flat Rows.laid_math_bits_deBruijn64tab).toArray)).modify 6 (newCells (flat Rows.laid_unicode_utf8_first).toArray)).modify 7 (newCells (flat Rows.laid_unicode_utf8_acceptRanges).toArray)) }
set_option maxRecDepth 100000 in
theorem laid_test (os : Os) : laidMet Tryz.prog Rows.decNamesRow.laid ((laidWorld os).forCall (fun _ _ => 0) ⟨#[], (#[] : Array Value), []⟩).memory :=
  laidMet_of_run' 8 (by kernel_rfl) (by kernel_rfl)

theorem wf_lo {k : Int} (h : (Lit.int .i64 k).wf = true) : -9223372036854775808 ≤ k := by
  have e : IntKind.i64.min = -9223372036854775808 := by kernel_rfl
  simp [Lit.wf] at h
  omega
theorem wf_hi {k : Int} (h : (Lit.int .i64 k).wf = true) : k ≤ 9223372036854775807 := by
  simp [Lit.wf] at h
  omega
/-- The last step of a law that has no place in memory among its arguments. -/
theorem post_law {H : Type} {enc : TypeId × Value → H} {P : Program} {f : Func} {s : ChangeSpec} {W W' : World} {args : Array Value} {v : Value} {ds : List (DataW H)}
    (hW : DataW.Whole enc P f.params.toList s.vars false W args.toList ds [] [])
    (hres : DataW.TrodAll enc P W' W.heap.size (fun _ => false) false f.resultTypes.toList (v.resultList f.resultTypes.size) (s.fn H (ds ++ [])).results [])
    (hargs : DataW.TrodAll enc P W' 0 (fun b => decide (b < W.heap.size)) true f.params.toList args.toList (s.fn H (ds ++ [])).args [])
    (hvars : DataW.TrodVars enc P W' (fun b => decide (b < W.heap.size)) s.vars (s.fn H (ds ++ [])).vars [])
    (hb : Below W.heap.size W W') : s.post enc P f false true false false W args v W' :=
  ⟨ds, [], [], [], [], [], hW, hres, hargs, hvars, World.keptBut_mono (fun p hp => by cases hp) (hb.frame (· ∈ [])), fun h => by cases h⟩
end Go.Proofs.YtgcpgieojckheaaGreatDoor
