/-
  append of events to events, at an operation that is guarded.
-/
import Derived.Test.YtlafcnmopclgiaaDoorT
namespace Go.Proofs.YtlafcnmopclgiaaDoor
open Go.RowKit Go.Shelf

theorem append_evs (t : TypeId) (A B : Nat) (w : World) (v vn : Value) (E N : List Ev) (hv : EvsAt A w v E) (hn : EvsAt B w vn N) (hz : E.length + N.length ≤ 3000000) (hA : A ≤ w.heap.size) :
    ∃ v' w', (Builtin.append_ #[28, 28] t #[v, vn]).run Tryd.prog w = .ok v' w' ∧ EvsAt A w' v' (E ++ N) ∧ Below A w w' := by
  obtain ⟨i41, hi, hz0, hz1, hz2⟩ := info_parts info41
  rcases hn.2 with ⟨rfl, hn0⟩ | ⟨g5, cap5, cur5, rfl, hg5, _⟩
  · have hN0 : N = [] := List.eq_nil_of_length_eq_zero hn0
    subst hN0
    exact ⟨v, w, run_append_owned_none (P := Tryd.prog) (w := w) A 28 t 41 i41 2 und28 hi v E.length (E.flatMap evC) hv, by rw [List.append_nil]; exact hv, Below.refl _ _⟩
  · obtain ⟨v', w', h1, h2, h3, _⟩ := run_append_own_at (P := Tryd.prog) w A 28 t 41 i41 (.agg #[.string ⟨#[]⟩, .int .i64 0]) 2 24 und28 hi hz0 hz1 hz2 rfl (by decide) v E.length (E.flatMap evC) hv ⟨g5, 0, none⟩ N.length cap5 (N.flatMap evC) (by simpa using evC_len N) (fun j u hj => World.ownsRow.cells hn rfl j u hj) (evC_one N) (by unfold maxLen; omega) (by omega) hA
    exact ⟨v', w', h1, by unfold EvsAt; rw [List.length_append, List.flatMap_append]; exact h2, (Below.refl A w).grown h3 hA (fun k e => (hv.lt k e).1)⟩
theorem wpList_append_evs {ops : Array Oper} {rest : List Oper} {o : Oper} {a : Act} {Q : Exit → Act → World → Prop} {w : World} (hw : Region.wanted o (yielded ops a.tmps) = true) (s x : Operand)
    (ho : o.op = .call { callee := .builtin .append, args := #[s, x], argTypes := #[28, 28] }) (A B : Nat) (v vn : Value) (E N : List Ev) (hs : a.eval s = v) (hx : a.eval x = vn) (hv : EvsAt A w v E) (hn : EvsAt B w vn N)
    (hz : E.length + N.length ≤ 3000000) (hA : A ≤ w.heap.size) (h : ∀ v' w', EvsAt A w' v' (E ++ N) → Below A w w' → wpList Tryd.prog ops Q rest (a.put o.dst v') w') : wpList Tryd.prog ops Q (o :: rest) a w := by
  refine wpList_step fun K hK => ?_
  rw [if_pos hw]
  obtain ⟨v', w', hr, h2, h3⟩ := append_evs o.type A B w v vn E N hv hn hz hA
  unfold Oper.wp execOp
  simp only [ho, resolve, invoke, builtin, Sem.run_bind, Sem.run_pure, Result.andThen_ok, List.map_toArray, List.map_cons, List.map_nil, hs, hx, hr]
  exact hK _ _ (h v' w' h2 h3)
end Go.Proofs.YtlafcnmopclgiaaDoor
