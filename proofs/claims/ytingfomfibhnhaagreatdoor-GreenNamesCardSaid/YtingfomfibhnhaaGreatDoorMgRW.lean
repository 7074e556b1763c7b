/-
  A region that draws its order, by what each slot holds: every operation gives its slot's fact from the facts of the slots that it waits for.
-/
import Derived.Test.YtingfomfibhnhaaGreatDoorMgRV
import Derived.Test.YtingfomfibhnhaaGreatDoorMgHJ
namespace Go.Proofs.YtingfomfibhnhaaGreatDoor
open Go Go.RowKit Go.Shelf

/-- Whatever holds of the value and the world that it comes to, this operation comes to such ones. -/
def OpGives (P : Program) (o : Oper) (ρ : Operand → Value) (w : World) (R : Value → World → Prop) : Prop :=
  ∀ (a : Act) (next : Act → World → Prop) (Q : Exit → Act → World → Prop), a.eval = ρ → (∀ v w', R v w' → next (a.put o.dst v) w') → o.wp P a w next Q
section
variable {P : Program} {ops : Array Oper} {Q : Exit → Act → World → Prop}
def dstB (ops : Array Oper) (n : Nat) : Bool := (List.range ops.size).all fun i => match (ops[i]?).bind (·.dst) with
  | none => false
  | some d => decide (d < n) && (List.range i).all fun j => ((ops[j]?).bind (·.dst)) != some d
def needs (ops : Array Oper) (o : Oper) : List Tmp := (o.after.toList.filter (Region.binds .any)).filterMap fun e => (ops[e.on]?).bind (·.dst)
def outB (ops : Array Oper) (d : Tmp) : Bool := ops.toList.all fun o => o.dst != some d
theorem dst_of {n : Nat} (h : dstB ops n = true) {i : Nat} {o : Oper} (ho : ops[i]? = some o) : ∃ d, o.dst = some d ∧ d < n ∧ ∀ j o2, j ≠ i → ops[j]? = some o2 → o2.dst ≠ some d := by
  have key : ∀ {i : Nat} {o : Oper}, ops[i]? = some o → ∃ d, o.dst = some d ∧ d < n ∧ ∀ j o2, j < i → ops[j]? = some o2 → o2.dst ≠ some d := by
    intro i o ho
    have h1 := List.all_eq_true.1 h i (List.mem_range.2 (Array.getElem?_eq_some_iff.1 ho).1)
    rw [ho] at h1
    cases hd : o.dst with
    | none => simp [hd] at h1
    | some d =>
      simp only [hd, Option.bind_some, Bool.and_eq_true, decide_eq_true_eq] at h1
      refine ⟨d, rfl, h1.1, fun j o2 hj h2 e => ?_⟩
      have h3 := List.all_eq_true.1 h1.2 j (List.mem_range.2 hj)
      rw [h2] at h3
      simp [e] at h3
  obtain ⟨d, h1, h2, h3⟩ := key ho
  refine ⟨d, h1, h2, fun j o2 hj h4 e => ?_⟩
  rcases Nat.lt_or_gt_of_ne hj with g | g
  · exact h3 j o2 g h4 e
  · obtain ⟨d2, k1, _, k3⟩ := key h4
    rw [e] at k1; cases k1
    exact k3 i o g ho h1
theorem region_slots {id : Nat} {a0 : Act} {W0 : World} (hm : P.follows .mixedOrders = true) (Φ : Tmp → World → Value → Prop)
    (hΦ : ∀ d w w' v, Below w.heap.size w w' → Φ d w v → Φ d w' v)
    (hdag : dagB ops = true) (hdst : dstB ops a0.tmps.size = true)
    (hstep : ∀ (i : Nat) (o : Oper), ops[i]? = some o → ∀ (ρ : Operand → Value) (w : World), Below W0.heap.size W0 w → (∀ v, ρ (.const v) = v) → (∀ f, ρ (.func f) = .func (.func f) #[] #[]) → (∀ d, outB ops d = true → ρ (.tmp d) = a0.eval (.tmp d)) → (∀ d ∈ needs ops o, Φ d w (ρ (.tmp d))) → OpGives P o ρ w (fun v w' => (∀ d, o.dst = some d → Φ d w' v) ∧ Below w.heap.size w w'))
    (hend : ∀ a w, Below W0.heap.size W0 w → a.tmps.size = a0.tmps.size → a.defers = a0.defers → (∀ d, outB ops d = true → a.tmps[d]? = a0.tmps[d]?) → (∀ (i : Nat) (o : Oper) d, ops[i]? = some o → o.dst = some d → Φ d w (a.eval (.tmp d))) → Q .normal a w) : (Code.region id ops true).wp P Q a0 W0 := by
  refine region_inv hm (fun L a w => Below W0.heap.size W0 w ∧ a.tmps.size = a0.tmps.size ∧ a.defers = a0.defers ∧ (∀ d, outB ops d = true → a.tmps[d]? = a0.tmps[d]?) ∧ (∀ (i : Nat) (o : Oper) d, ops[i]? = some o → o.dst = some d → L i = true → Φ d w (a.eval (.tmp d)))) hdag ?_ ?_ ?_
  · exact ⟨(Below.refl _ _).drew, rfl, rfl, fun _ _ => rfl, fun _ _ _ _ _ h => nomatch h⟩
  · intro i o ho L a w ⟨h1, h2, h3, h4, h5⟩ hL hafter
    obtain ⟨d, hd, hdn, hdd⟩ := dst_of hdst ho
    refine hstep i o ho a.eval w h1 (fun _ => rfl) (fun _ => rfl) (fun d hd => by show a.tmps.getD d undef = a0.tmps.getD d undef; rw [Array.getD_eq_getD_getElem?, Array.getD_eq_getD_getElem?, h4 d hd]) (fun d hd => ?_) a _ Q rfl (fun v w' ⟨hv, hb⟩ => ?_)
    · unfold needs at hd
      obtain ⟨e, he, h6⟩ := List.mem_filterMap.1 hd
      obtain ⟨he1, he2⟩ := List.mem_filter.1 he
      obtain ⟨o2, ho2, h7⟩ := Option.bind_eq_some_iff.1 h6
      exact h5 e.on o2 d ho2 h7 (hafter e (Array.mem_toList_iff.1 he1) he2)
    · rw [hd]
      refine ⟨h1.trans (hb.mono h1.size), by simpa [Act.put] using h2, h3, fun k hk => ?_, fun j o2 k hj hk hl => ?_⟩
      · have hne : d ≠ k := by
          rintro rfl
          have := List.all_eq_true.1 hk o (by rw [Array.mem_toList_iff]; exact Array.mem_of_getElem? ho)
          simp [hd] at this
        show (a.tmps.setIfInBounds d v)[k]? = _
        rw [Array.getElem?_setIfInBounds_ne hne]; exact h4 k hk
      · by_cases hji : j = i
        · subst hji
          rw [ho] at hj; cases hj
          rw [hd] at hk; cases hk
          have : (a.put (some d) v).eval (.tmp d) = v := by
            show (a.tmps.setIfInBounds d v).getD d undef = v
            rw [Array.getD_eq_getD_getElem?, Array.getElem?_setIfInBounds_self_of_lt (by rw [h2]; exact hdn)]; rfl
          rw [this]; exact hv d hd
        · have hne : d ≠ k := fun e => hdd j o2 hji hj (by rw [hk, e])
          have : (a.put (some d) v).eval (.tmp k) = a.eval (.tmp k) := by
            show (a.tmps.setIfInBounds d v).getD k undef = a.tmps.getD k undef
            rw [Array.getD_eq_getD_getElem?, Array.getD_eq_getD_getElem?, Array.getElem?_setIfInBounds_ne hne]
          rw [this]
          refine hΦ k w w' _ hb (h5 j o2 k hj hk ?_)
          simpa [hji] using hl
  · intro L a w ⟨h1, h2, h3, h4, h5⟩ hall
    exact hend a w h1 h2 h3 h4 fun i o d ho hd => h5 i o d ho hd (hall i (Array.getElem?_eq_some_iff.1 ho).1)
end
end Go.Proofs.YtingfomfibhnhaaGreatDoor
