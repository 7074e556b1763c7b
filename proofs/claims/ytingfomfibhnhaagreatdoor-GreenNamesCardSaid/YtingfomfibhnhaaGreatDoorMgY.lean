/-
  What the rows' lists give (strconv's error, the signs of two bytes, the two tables of unicode/utf8), a world for the witness, and the last step of a law.
-/
import Derived.Test.YtingfomfibhnhaaGreatDoorCards
import Derived.Test.YtingfomfibhnhaaGreatDoorTie
import Derived.Test.YtingfomfibhnhaaGreatDoorMgH
import Derived.WalkKit
import Derived.ProofKit
import Derived.OpenShut
import Derived.ShutString
import Derived.Deep.DeepHandedRow
import Derived.Lib.LaidU8
import Derived.Lib.LaidTab
import Derived.MakeChecks
import Derived.LaidMore
import Derived.Lay
namespace Go.Proofs.YtingfomfibhnhaaGreatDoor
open Go.ChangeShapes Go.WideShapes Go.ChangeAt Go.RowKit

theorem own : ownKnob Tryz.prog.godebug = none := by kernel_rfl
set_option maxRecDepth 100000 in
theorem first_eq : Rows.laid_unicode_utf8_first = Lib.firstData := by kernel_rfl
theorem accept_eq : (Rows.laid_unicode_utf8_acceptRanges : DataW Unit) = Lib.acceptData := by kernel_rfl
theorem u8 : U8Extra Tryz.prog Tryz.lays260_ren :=
  { n3 := by kernel_rfl, n4 := by kernel_rfl, y3 := by kernel_rfl, y4 := by kernel_rfl, c5 := by kernel_rfl, c119 := by kernel_rfl, c138 := by kernel_rfl }
theorem twos_eq : (Rows.laid_rostrum_lex_twoByteSigns : DataW Unit) = .agg (twosL.map fun l => .lit (.string l)) := by kernel_rfl
/-- The list of every row of this seat. -/
abbrev laidList : List (String × DataW Unit) := [("math/bits.deBruijn32tab", Rows.laid_math_bits_deBruijn32tab), ("math/bits.deBruijn64tab", Rows.laid_math_bits_deBruijn64tab), ("internal/strconv.uint64pow10", Rows.laid_internal_strconv_uint64pow10), ("unicode/utf8.acceptRanges", Rows.laid_unicode_utf8_acceptRanges), ("strconv.ErrRange", Rows.laid_strconv_ErrRange), ("strconv.ErrSyntax", Rows.laid_strconv_ErrSyntax), ("rostrum/lex.twoByteSigns", Rows.laid_rostrum_lex_twoByteSigns), ("unicode/utf8.first", Rows.laid_unicode_utf8_first)]
/-- An array of strings that reads as these texts holds them, cell for cell. -/
theorem cells_of_strs {H : Type} {enc : TypeId × Value → H} {P : Program} {w : World} {base : Nat} {sp : Nat → Bool} {held : Bool} {fuel : Nat} {t e : TypeId} {n : Nat} {cs : List Value} {zs : List (List UInt8)} {p : List MemPlace}
    (ht : P.underlying t = some (.array n e)) (he : P.underlying e = some .string) (hce : P.cellsOf e = 1) (hct : P.cellsOf t = n)
    (h : DataW.trod enc P w base sp held fuel t cs = some (.agg (zs.map fun l => .lit (.string l)), p)) : ∀ (i : Nat) l, zs[i]? = some l → cs[i]? = some (.string ⟨l.toArray⟩) := by
  cases fuel with
  | zero => simp [DataW.trod] at h
  | succ fuel =>
    simp only [DataW.trod, ht, hce, hct, Nat.mul_one] at h
    split at h
    · rename_i hl
      obtain ⟨xs, hm, hx⟩ := Option.map_eq_some_iff.1 h
      have hxs : xs.map (·.1) = zs.map fun l => (DataW.lit (.string l) : DataW H) := by
        have := congrArg Prod.fst hx
        simpa using this
      have hxl : xs.length = n := by simpa using Lib.mapM_length hm
      have hzl : zs.length = n := by
        have := congrArg List.length hxs
        simp at this
        omega
      intro i l hil
      have hi : i < n := by rw [← hzl]; exact (List.getElem?_eq_some_iff.1 hil).1
      obtain ⟨b, hb, hf⟩ := Lib.mapM_at hm i i (by simp [hi])
      obtain ⟨s, hc, rfl, _⟩ := DataW.trod_string he hf
      have h1 : cs[i]? = some (.string s) := by
        have := congrArg (·[0]?) hc
        simpa [List.getElem?_take, List.getElem?_drop] using this
      have h2 : (xs.map (·.1))[i]? = some (DataW.lit (.string s.data.toList) : DataW H) := by simp [hb]
      rw [hxs] at h2
      rw [List.getElem?_map, hil] at h2
      simp only [Option.map_some, Option.some.injEq, DataW.lit.injEq, Lit.string.injEq] at h2
      rw [h1, ba_of s h2.symm]
    · cases h
theorem twos_at {w : World} (h : Lib.VarReads Tryz.prog w "rostrum/lex.twoByteSigns" (.agg (twosL.map fun l => .lit (.string l)))) : TwosAt w := by
  obtain ⟨g, t, cs, fuel, p, hg, hty, hvar, hd⟩ := h
  have hg2 : Tryz.prog.globalNamed "rostrum/lex.twoByteSigns" = some 0 := by kernel_rfl
  obtain rfl := Option.some.inj (hg2.symm.trans hg)
  have hty2 : (Tryz.prog.globals[0]?).map (·.type) = some 128 := by kernel_rfl
  obtain rfl := Option.some.inj (hty2.symm.trans hty)
  have hc := cells_of_strs (n := 11) (e := 9) (by kernel_rfl) und9 (by kernel_rfl) (by kernel_rfl) hd
  intro i hi
  have h1 := World.var?_cell hg2 hvar i
  rw [h1, ← Array.getElem?_toList]
  refine hc i (twosL.getD i []) ?_
  rw [List.getD_eq_getElem?_getD, List.getElem?_eq_getElem (show i < twosL.length from hi)]; rfl
theorem err_at {w : World} {n : String} {d : DataW Unit} (h : Lib.VarReads Tryz.prog w n d) (hn : Tryz.prog.globalNamed n = some 4) : ErrAt w := by
  obtain ⟨g, t, cs, fuel, p, hg, hty, hvar, hd⟩ := h
  obtain rfl := Option.some.inj (hn.symm.trans hg)
  have hty2 : (Tryz.prog.globals[4]?).map (·.type) = some 75 := by kernel_rfl
  obtain rfl := Option.some.inj (hty2.symm.trans hty)
  have hu : ∃ ms, Tryz.prog.underlying 75 = some (.interface ms) := ⟨_, Tryz.underlying75⟩
  obtain ⟨ms, hu⟩ := hu
  have hc := World.var?_cell hn hvar 0
  cases fuel with
  | zero => simp [DataW.trod] at hd
  | succ k =>
    unfold DataW.trod at hd
    rw [hu] at hd
    rcases hcs : cs.toList with _ | ⟨v, r⟩
    · rw [hcs] at hd; simp at hd
    · have h0 : cs[0]? = some v := by rw [← Array.getElem?_toList, hcs]; rfl
      rw [h0] at hc
      refine ⟨v, hc, ?_⟩
      rw [hcs] at hd
      cases v <;> first | exact .inl rfl | exact .inr ⟨_, _, rfl⟩ | (exfalso; cases r <;> simp at hd)
theorem tabs {W : World} (h : laidMetH Tryz.prog laidList W) : Env W := by
  rw [MakeChecks.laidMetH_plain Tryz.prog laidList W (by kernel_rfl)] at h
  refine ⟨?_, ?_, ?_⟩
  · exact utf8Tabs_of_reads Tryz.lays260 u8 (by rw [← first_eq]; exact Lib.laidMet.reads h (.tail _ (.tail _ (.tail _ (.tail _ (.tail _ (.tail _ (.tail _ (.head _))))))))) (by rw [← accept_eq]; exact Lib.laidMet.reads h (.tail _ (.tail _ (.tail _ (.head _)))))
  · exact twos_at (by rw [← twos_eq]; exact Lib.laidMet.reads h (.tail _ (.tail _ (.tail _ (.tail _ (.tail _ (.tail _ (.head _))))))))
  · exact err_at (Lib.laidMet.reads h (.tail _ (.tail _ (.tail _ (.tail _ (.head _)))))) (by kernel_rfl)

/-- A world for the witness: the settled one, the listed variables holding what their initialisers lay. -/
noncomputable def laidWorld (os : Os) : World := World.laidAll Tryz.prog os laidList
theorem laid_any (os : Os) (args : Array Value) : laidMet Tryz.prog laidList ((laidWorld os).forCall (fun _ _ => 0) ⟨#[], args, []⟩).memory :=
  laidMet_laidAll args (by kernel_rfl) (by kernel_rfl)

/-- The last step of a law that has no place in memory among its arguments. -/
theorem post_law {H : Type} {enc : TypeId × Value → H} {P : Program} {f : Func} {s : ChangeSpec} {W W' : World} {args : Array Value} {v : Value} {ds : List (DataW H)}
    (hW : DataW.Whole enc P f.params.toList s.vars false W args.toList ds [] [])
    (hres : DataW.TrodAll enc P W' W.heap.size (fun _ => false) false f.resultTypes.toList (v.resultList f.resultTypes.size) (s.fn H (ds ++ [])).results [])
    (hargs : DataW.TrodAll enc P W' 0 (fun b => decide (b < W.heap.size)) true f.params.toList args.toList (s.fn H (ds ++ [])).args [])
    (hvars : DataW.TrodVars enc P W' (fun b => decide (b < W.heap.size)) s.vars (s.fn H (ds ++ [])).vars [])
    (hb : Below W.heap.size W W') : s.post enc P f false true false false W args v W' :=
  ⟨ds, [], [], [], [], [], hW, hres, hargs, hvars, World.keptBut_mono (fun p hp => by cases hp) (hb.frame (· ∈ [])), fun h => by cases h⟩
end Go.Proofs.YtingfomfibhnhaaGreatDoor
