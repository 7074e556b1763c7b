/-
  The names that an Object has so far: a set in memory; its add.
-/
import Derived.Test.YtgcpgieojckheaaGreatDoorMgJB
import Derived.Maps.OwnSet
import Derived.StringKeys
namespace Go.Proofs.YtgcpgieojckheaaGreatDoor.Json
open Go.RowKit Go.Shelf Go.Maps Go.WideMaps

theorem u127 : Tryz.prog.underlying 127 = some (.map 9 165) := by kernel_rfl
theorem u9s : Tryz.prog.underlying 9 = some .string := by kernel_rfl
theorem law9 : Keyed Tryz.prog 9 := string_keyed u9s
theorem zero165 (w : World) : (zeroValue 165).run Tryz.prog w = .ok (.agg #[]) w := by kernel_rfl
/-- These names lie in the map at M. -/
def MapAt (M : Nat) (ns : List (List UInt8)) (w : World) : Prop := w.ownsMap Tryz.prog 9 (unitElem (H := Unit)) M ns.length (setOf (.agg []) (ns.map Lit.string))
theorem MapAt.heap {M : Nat} {ns : List (List UInt8)} {w w' : World} (h : MapAt M ns w) (hb : w'.heap[M]? = w.heap[M]?) : MapAt M ns w' := by
  obtain ⟨es, clock, h1, h2⟩ := h
  exact ⟨es, clock, hb.trans h1, h2⟩
theorem MapAt.lt {M : Nat} {ns : List (List UInt8)} {w : World} (h : MapAt M ns w) : M < w.heap.size := by
  obtain ⟨es, clock, h1, h2⟩ := h
  exact (Array.getElem?_eq_some_iff.1 h1).1
theorem map_made (w : World) : MapAt w.heap.size [] (w.alloc (.map #[] 0)) := World.ownsMap_made _ _ _ _
theorem but_grown {M : Nat} {w w' : World} (h : w.grownBy w' (some M)) : But M w w' := ⟨h.os, h.tape, h.output, h.size, fun k hk hne => h.block k hk (fun e => hne (Option.some.inj e))⟩
theorem key_text (t : List UInt8) : WideAt.IsKeyLit (Lit.string t) := by simp [WideAt.IsKeyLit]
theorem has_names (ns : List (List UInt8)) (t : List UInt8) : Maps.has (setOf (H := Unit) (.agg []) (ns.map Lit.string)) (.string t) = ns.contains t := by
  rw [has_setOf _ _ _ (by intro x hx; obtain ⟨y, _, rfl⟩ := List.mem_map.1 hx; exact key_text y), List.any_map]
  induction ns with
  | nil => rfl
  | cons a r ih =>
    rw [List.any_cons, List.contains_cons, ih]
    congr 1
    simp [Lit.sameKey, Bool.beq_comm]
set_option maxRecDepth 100000 in
set_option maxHeartbeats 1000000 in
theorem add_any (M : Nat) (ns : List (List UInt8)) (t : List UInt8) (w : World) (h : MapAt M ns w) (hn : ns.length < 10000000) (ht : t.length ≤ 100000000) :
    Calls Tryz.prog 103 #[.map (some M), bl t] w fun e w' => e = .returned (.bool (!ns.contains t)) ∧ MapAt M (ns ++ [t]) w' ∧ But M w w' := by
  have hkey : keyOf Tryz.prog 9 (bl t) = some (.string t) := by
    have := keyOf_string_mk (P := Tryz.prog) (k := 9) u9s (s := ⟨t.toArray⟩) (by unfold maxLen; rw [Lib.size_eq]; simp; omega)
    simpa [bl] using this
  have hhas := has_names ns t
  have hown : w.ownsMap Tryz.prog 9 (unitElem (H := Unit)) M ns.length (setOf (.agg []) (ns.map Lit.string)) := h
  have hput : setOf (H := Unit) (.agg []) ((ns ++ [t]).map Lit.string) = (setOf (.agg []) (ns.map Lit.string)).put (.string t) (.agg []) := by rw [List.map_append]; exact setOf_snoc _ _ _
  generalize ns.contains t = C at hhas
  generalize bl t = V at hkey
  generalize setOf (H := Unit) (.agg []) (ns.map Lit.string) = D at hhas hown hput
  have HH := Lib.hid hhas
  have HP := Lib.hid hput
  clear hhas hput
  go_enter Tryz.func103, Tryz.ntmps103
  go_wp2_with (first
    | (at_lookup; refine wpList_lookup_own_unit _ rfl _ _ 127 rfl 9 165 law9 u127 (zero165 _) M ns.length _ rfl hown _ _ rfl hkey ?_; rw [HH.out])
    | (at_mapUpdate; refine wpList_mapUpdate_own _ rfl _ _ _ 127 rfl 9 165 law9 u127 (unitElem (H := Unit)) M ns.length _ rfl (hown.alloc _) (by unfold maxLen; omega) _ _ _ rfl rfl hkey _ [] unitElem_mk ?_; intro w1 hown1 hgrow1))
  go_ret
  refine ⟨rfl, ?_, (But.of (galloc (Below.refl w.heap.size w) _)).trans (but_grown hgrow1)⟩
  unfold MapAt
  rw [HP.out, List.length_append]
  exact hown1
end Go.Proofs.YtgcpgieojckheaaGreatDoor.Json
