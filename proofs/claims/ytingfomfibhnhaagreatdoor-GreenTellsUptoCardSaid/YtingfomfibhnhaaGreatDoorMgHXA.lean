/-
  append(append([]int{}, path...), i), at a step of a region that draws.
-/
import Derived.Test.YtingfomfibhnhaaGreatDoorMgHT
import Derived.Test.YtingfomfibhnhaaGreatDoorMgHN
import Derived.Deep.AppendSrc
import Derived.Deep.Upon
namespace Go.Proofs.YtingfomfibhnhaaGreatDoor
open Go.RowKit Go.Shelf Go.Maps

theorem own_same {w w' : World} {B : Nat} {e : TypeId} {size n : Nat} {v : Value} {xs : List Value} (h : w.ownsRow B e size v n xs) (hb : Below w.heap.size w w') : w'.ownsRow B e size v n xs := by
  refine ⟨h.1, ?_⟩
  rcases h.2 with h2 | ⟨g, cap, cur, rfl, h4, h5, h6⟩
  · exact .inl h2
  · exact .inr ⟨g, cap, cur, rfl, h4, (hb.block g (Array.getElem?_eq_some_iff.1 h5).1).trans h5, h6⟩
/-- A step that appends, where its run is known. -/
theorem step_run_append {P : Program} {ops : Array Oper} {o : Oper} {a : Act} {w : World} {K : Act → World → Prop} {Q : Exit → Act → World → Prop} {E : Prop} {R : Value → World → Prop} (hgd : o.guard = none) (s x : Operand) (t : TypeId)
    (ho : o.op = .call { callee := .builtin .append, args := #[s, x], argTypes := #[t, t] }) (v u : Value) (hs : a.eval s = v) (hx : a.eval x = u)
    (hr : ∃ v' w', (Builtin.append_ #[t, t] o.type #[v, u]).run P w = .ok v' w' ∧ R v' w') (h : ∀ v' w', R v' w' → K (a.put o.dst v') w') :
    if Region.wanted o (yielded ops a.tmps) = true then Oper.wp P o a w K Q else E := by
  have hw : Region.wanted o (yielded ops a.tmps) = true := by simp [Region.wanted, hgd]
  rw [if_pos hw]
  obtain ⟨v', w', hr, hR⟩ := hr
  unfold Oper.wp execOp
  simp only [ho, resolve, invoke, builtin, Sem.run_bind, Sem.run_pure, Result.andThen_ok, List.map_toArray, List.map_cons, List.map_nil, hs, hx, hr]
  exact h v' w' hR
theorem wp_run_append {P : Program} {o : Oper} {a : Act} {w : World} {K : Act → World → Prop} {Q : Exit → Act → World → Prop} {R : Value → World → Prop} (s x : Operand) (t : TypeId)
    (ho : o.op = .call { callee := .builtin .append, args := #[s, x], argTypes := #[t, t] }) (v u : Value) (hs : a.eval s = v) (hx : a.eval x = u)
    (hr : ∃ v' w', (Builtin.append_ #[t, t] o.type #[v, u]).run P w = .ok v' w' ∧ R v' w') (h : ∀ v' w', R v' w' → K (a.put o.dst v') w') : Oper.wp P o a w K Q := by
  obtain ⟨v', w', hr, hR⟩ := hr
  unfold Oper.wp execOp
  simp only [ho, resolve, invoke, builtin, Sem.run_bind, Sem.run_pure, Result.andThen_ok, List.map_toArray, List.map_cons, List.map_nil, hs, hx, hr]
  exact h v' w' hR
theorem wpList_run_append {P : Program} {ops : Array Oper} {rest : List Oper} {o : Oper} {a : Act} {w : World} {Q : Exit → Act → World → Prop} {R : Value → World → Prop} (hgd : o.guard = none) (s x : Operand) (t : TypeId)
    (ho : o.op = .call { callee := .builtin .append, args := #[s, x], argTypes := #[t, t] }) (v u : Value) (hs : a.eval s = v) (hx : a.eval x = u)
    (hr : ∃ v' w', (Builtin.append_ #[t, t] o.type #[v, u]).run P w = .ok v' w' ∧ R v' w') (h : ∀ v' w', R v' w' → wpList P ops Q rest (a.put o.dst v') w') : wpList P ops Q (o :: rest) a w :=
  wpList_plain hgd fun _ hK => wp_run_append s x t ho v u hs hx hr (fun v' w' hR => hK _ _ (h v' w' hR))
/-- A path appended to an empty row: a row of the call's own; all other blocks are kept. -/
theorem app_inv {W w : World} {g : Nat} {pl : Option Addr} {cl : Nat} {l : List Int} {ty : TypeId} (hb : Below W.heap.size W w) (hg : w.heap[g]? = some (.cells #[] 3 (0, 0))) (hgW : W.heap.size ≤ g) (hl : PaAt w (.slice pl l.length cl) l) (hlen : l.length ≤ 1000000) :
    ∃ v' w', (Builtin.append_ #[38, 38] ty #[.slice (some ⟨g, 0, none⟩) 0 0, .slice pl l.length cl]).run Tryz.prog w = .ok v' w' ∧ (∃ p c, v' = .slice p l.length c) ∧ w'.ownsRow W.heap.size 3 1 v' l.length (l.map fun i => .int .i64 i) ∧ Below W.heap.size W w' ∧
      ∀ k o, w.heap[k]? = some o → k ≠ g → w'.heap[k]? = some o ∧ v'.ownBlock ≠ some k := by
  obtain ⟨i3, hi3, hz0, hz1, hz2⟩ := info_parts info3
  have hown : w.ownsRow W.heap.size 3 1 (.slice (some ⟨g, 0, none⟩) 0 0) 0 [] := ⟨rfl, .inr ⟨g, 0, #[], rfl, hgW, hg, Nat.le_refl _, by unfold maxLen; omega, rfl, rfl⟩⟩
  by_cases h0 : l = []
  · subst h0
    obtain ⟨_, p2, c2, h2, h3, _⟩ := hl
    cases h2
    have hsrc : Src Tryz.prog i3.size 38 (.slice pl 0 cl) 0 [] w := by
      cases pl with
      | none => exact Src.ofNil w und38 cl
      | some a => exact Src.ofSlice w und38 a 0 cl [] (by simp) (fun j u h => by simp at h) (fun u h => by simp at h)
    exact ⟨_, _, run_append_nothing w 38 38 ty 3 i3 und38 hi3 (some ⟨g, 0, none⟩) 0 0 (Nat.le_refl _) _ hsrc, ⟨_, _, rfl⟩, hown, hb, fun k o h hk => ⟨h, fun e => hk (Option.some.inj e).symm⟩⟩
  · have hpos : 0 < l.length := List.length_pos_iff.2 h0
    obtain ⟨gl, ol, rfl, hcl⟩ := hl.cellAt hpos
    obtain ⟨gg, cap, w', hr, h2, h3, h4, h5⟩ := run_append_lies (P := Tryz.prog) w 38 ty W.heap.size 3 i3 (.int .i64 0) 1 8 und38 hi3 hz0 hz1 hz2 rfl (by decide) (.slice (some ⟨g, 0, none⟩) 0 0) 0 [] hown
      ⟨gl, ol, none⟩ l.length cl (l.map fun i => .int .i64 i) (by simp) (fun j u h => by rw [Go.WideShapes.add_plain]; exact hcl j u h) (fun u hu => by obtain ⟨i, _, rfl⟩ := List.mem_map.1 hu; rfl) hpos (by unfold maxLen; omega) (by omega) hb.size w.heap.size rfl
    rw [Nat.zero_add, List.nil_append] at h2
    rw [Nat.zero_add] at hr
    have hbb : Below W.heap.size W w' := ⟨h3.os.trans hb.os, h3.tape.trans hb.tape, h3.output.trans hb.output, Nat.le_trans hb.size h3.size, fun k hk => (h3.block k (Nat.lt_of_lt_of_le hk hb.size) (fun e => by simp only [Value.ownBlock, Option.some.injEq] at e; omega)).trans (hb.block k hk)⟩
    refine ⟨_, w', hr, ⟨_, _, rfl⟩, h2, hbb, fun k o h hk => ?_⟩
    have hkl := (Array.getElem?_eq_some_iff.1 h).1
    refine ⟨(h3.block k hkl (fun e => hk (by simpa [Value.ownBlock] using e))).trans h, fun e => ?_⟩
    simp only [Value.ownBlock, Option.some.injEq] at e
    rcases h4 with h4 | h4
    · simp only [Value.ownBlock, Option.some.injEq] at h4; omega
    · omega
/-- One number more: the whole path. -/
theorem app_last {W w : World} {k : Nat} {v : Value} {l : List Int} {i : Int} {ty : TypeId} (hb : Below W.heap.size W w) (hown : w.ownsRow W.heap.size 3 1 v l.length (l.map fun i => .int .i64 i)) (k3 : w.heap[k]? = some (.cells #[.int .i64 i] 3 (0, 0))) (hlen : l.length ≤ 1000000) :
    ∃ v' w', (Builtin.append_ #[38, 38] ty #[v, .slice (some ⟨k, 0, none⟩) 1 1]).run Tryz.prog w = .ok v' w' ∧ (∃ p c, v' = .slice p (l.length + 1) c) ∧ PaAt w' v' (l ++ [i]) ∧ Below W.heap.size W w' ∧ ∀ k o, w.heap[k]? = some o → v.ownBlock ≠ some k → w'.heap[k]? = some o := by
  obtain ⟨i3, hi3, hz0, hz1, hz2⟩ := info_parts info3
  obtain ⟨gg, cap, w', hr, h2, h3, h4, h5⟩ := run_append_lies (P := Tryz.prog) w 38 ty W.heap.size 3 i3 (.int .i64 0) 1 8 und38 hi3 hz0 hz1 hz2 rfl (by decide) v l.length _ hown
      ⟨k, 0, none⟩ 1 1 [.int .i64 i] rfl (World.news_of_block k3) (fun u hu => by simp at hu; subst hu; rfl) (by decide) (by unfold maxLen; omega) (by omega) hb.size w.heap.size rfl
  have hbb : Below W.heap.size W w' := ⟨h3.os.trans hb.os, h3.tape.trans hb.tape, h3.output.trans hb.output, Nat.le_trans hb.size h3.size, fun k hk => (h3.block k (Nat.lt_of_lt_of_le hk hb.size) (fun e => by have := (hown.lt k e.symm).1; omega)).trans (hb.block k hk)⟩
  have hll : (l ++ [i]).length = l.length + 1 := by simp
  refine ⟨_, w', hr, ⟨_, _, rfl⟩, ?_, hbb, fun k o h hk => (h3.block k (Array.getElem?_eq_some_iff.1 h).1 (fun e => hk e.symm)).trans h⟩
  have h1 := SlIn.of_owns (S := AnyB) h2 (fun _ _ => trivial)
  unfold PaAt
  rw [hll, List.map_append]
  exact h1
end Go.Proofs.YtingfomfibhnhaaGreatDoor
