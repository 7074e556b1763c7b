/-
  A region that draws its order, by an invariant: what holds whichever operations are done.
-/
import Derived.Orders
import Derived.Deep.RegionHeldLaw
namespace Go.Proofs.YtingfomfibhnhaaGreatDoor
open Go

theorem count_less (n i : Nat) (L : Nat → Bool) (hi : i < n) (h : L i = false) : ((List.range n).filter fun k => !(k == i || L k)).length < ((List.range n).filter fun k => !L k).length := by
  have key : ∀ l : List Nat, (l.filter fun k => !(k == i || L k)).length ≤ (l.filter fun k => !L k).length ∧ (i ∈ l → (l.filter fun k => !(k == i || L k)).length < (l.filter fun k => !L k).length) := by
    intro l
    induction l with
    | nil => simp
    | cons x r ih =>
      obtain ⟨h1, h2⟩ := ih
      by_cases hx : x = i
      · subst hx
        rw [List.filter_cons_of_neg (by simp), List.filter_cons_of_pos (by simp [h])]
        exact ⟨by rw [List.length_cons]; omega, fun _ => by rw [List.length_cons]; omega⟩
      · have e : (!(x == i || L x)) = !L x := by rw [beq_eq_false_iff_ne.2 hx, Bool.false_or]
        cases hl : L x with
        | true =>
          rw [List.filter_cons_of_neg (by simp [hl]), List.filter_cons_of_neg (by simp [hl])]
          refine ⟨h1, fun hm => h2 ?_⟩
          rcases List.mem_cons.1 hm with e | e
          · exact absurd e.symm hx
          · exact e
        | false =>
          rw [List.filter_cons_of_pos (by rw [e, hl]; rfl), List.filter_cons_of_pos (by rw [hl]; rfl)]
          refine ⟨by simpa using h1, fun hm => ?_⟩
          rcases List.mem_cons.1 hm with e | e
          · exact absurd e.symm hx
          · simpa using h2 e
  exact (key _).2 (List.mem_range.2 hi)
section
variable {P : Program} {ops : Array Oper} {Q : Exit → Act → World → Prop}
theorem wpAny_inv (J : (Nat → Bool) → Act → World → Prop)
    (hdag : ∀ i o, ops[i]? = some o → o.guard = none ∧ ∀ e ∈ o.after, Region.binds .any e = true → e.on < i)
    (hstep : ∀ (i : Nat) (o : Oper), ops[i]? = some o → ∀ L a w, J L a w → L i = false → (∀ e ∈ o.after, Region.binds .any e = true → L e.on = true) → o.wp P a w (fun a' w' => J (fun k => k == i || L k) a' w') Q)
    (hend : ∀ L a w, J L a w → (∀ i, i < ops.size → L i = true) → Q .normal a w) :
    ∀ (fuel : Nat) (listed : Array Bool) (L : Nat → Bool) (a : Act) (w : World), listed.size = ops.size → (∀ k, k < ops.size → listed[k]? = some (L k)) → ((List.range ops.size).filter fun k => !L k).length ≤ fuel → J L a w → wpAny P .any ops Q fuel listed a w := by
  intro fuel
  have hget : ∀ {listed : Array Bool} {L : Nat → Bool} {k : Nat} (d : Bool), (∀ k, k < ops.size → listed[k]? = some (L k)) → k < ops.size → listed.getD k d = L k := by
    intro listed L k d hL hk
    rw [Array.getD_eq_getD_getElem?, hL k hk]; rfl
  induction fuel with
  | zero =>
    intro listed L a w hs hL hc hJ
    have hall : ∀ i, i < ops.size → L i = true := by
      intro i hi
      have hn : ((List.range ops.size).filter fun k => !L k) = [] := List.eq_nil_of_length_eq_zero (by omega)
      cases h : L i with
      | true => rfl
      | false =>
        have : i ∈ ((List.range ops.size).filter fun k => !L k) := List.mem_filter.2 ⟨List.mem_range.2 hi, by rw [h]; rfl⟩
        rw [hn] at this; cases this
    refine ⟨?_, hend L a w hJ hall⟩
    unfold Region.ready
    rw [List.filter_eq_nil_iff]
    intro i hi
    rw [hget true hL (List.mem_range.1 hi), hall i (List.mem_range.1 hi)]
    simp
  | succ fuel ih =>
    intro listed L a w hs hL hc hJ
    refine ⟨fun hr => hend L a w hJ ?_, fun i hi => ?_⟩
    · intro i
      induction i using Nat.strongRecOn with
      | ind i ihi =>
        intro hi
        cases h : L i with
        | true => rfl
        | false =>
          exfalso
          have ho : ops[i]? = some ops[i] := Array.getElem?_eq_getElem hi
          have hm : i ∈ Region.ready .any ops listed := by
            unfold Region.ready
            refine List.mem_filter.2 ⟨List.mem_range.2 hi, ?_⟩
            rw [hget true hL hi, h, ho]
            simp only [Bool.not_false, Bool.true_and, Option.map_some, Option.getD_some]
            rw [Array.all_eq_true']
            intro e he
            cases hb : Region.binds .any e with
            | false => simp
            | true =>
              have hlt := (hdag i _ ho).2 e he hb
              rw [hget false hL (by omega), ihi e.on hlt (by omega)]
              simp
          rw [hr] at hm; cases hm
    · unfold Region.ready at hi
      obtain ⟨h1, h2⟩ := List.mem_filter.1 hi
      have hlt := List.mem_range.1 h1
      have ho : ops[i]? = some ops[i] := Array.getElem?_eq_getElem hlt
      rw [hget true hL hlt, ho] at h2
      simp only [Option.map_some, Option.getD_some, Bool.and_eq_true, Bool.not_eq_true'] at h2
      obtain ⟨h3, h4⟩ := h2
      rw [Array.all_eq_true'] at h4
      have hafter : ∀ e ∈ (ops[i]).after, Region.binds .any e = true → L e.on = true := by
        intro e he hb
        have h5 := h4 e he
        have hl := (hdag i _ ho).2 e he hb
        rw [hb, hget false hL (by omega)] at h5
        simpa using h5
      unfold wpOp
      rw [ho]
      have hw : Region.wanted ops[i] (yielded ops a.tmps) = true := by simp [Region.wanted, (hdag i _ ho).1]
      simp only [hw, if_true]
      refine .inl (Oper.wp_mono (fun a' w' h => ih _ _ a' w' ?_ ?_ ?_ h) (hstep i _ ho L a w hJ h3 hafter))
      · rw [Array.size_setIfInBounds]; exact hs
      · intro k hk
        rw [Array.getElem?_setIfInBounds]
        by_cases hki : i = k
        · subst hki
          simp [hs, hk]
        · rw [if_neg hki, hL k hk]
          simp [Ne.symm hki]
      · have := count_less ops.size i L hlt h3
        omega
def dagB (ops : Array Oper) : Bool := (List.range ops.size).all fun i => match ops[i]? with
  | none => true
  | some o => o.guard.isNone && o.after.all fun e => !Region.binds .any e || decide (e.on < i)
theorem dag_of (h : dagB ops = true) : ∀ i o, ops[i]? = some o → o.guard = none ∧ ∀ e ∈ o.after, Region.binds .any e = true → e.on < i := by
  intro i o ho
  have hi : i < ops.size := (Array.getElem?_eq_some_iff.1 ho).1
  unfold dagB at h
  have h1 := List.all_eq_true.1 h i (List.mem_range.2 hi)
  rw [ho] at h1
  simp only [Bool.and_eq_true, Option.isNone_iff_eq_none] at h1
  refine ⟨h1.1, fun e he hb => ?_⟩
  have h2 := Array.all_eq_true'.1 h1.2 e he
  rw [hb] at h2
  simpa using h2
theorem region_inv {id : Nat} {a : Act} {w : World} (hm : P.follows .mixedOrders = true) (J : (Nat → Bool) → Act → World → Prop)
    (hdag : dagB ops = true)
    (h0 : J (fun _ => false) a w.drew)
    (hstep : ∀ (i : Nat) (o : Oper), ops[i]? = some o → ∀ L a w, J L a w → L i = false → (∀ e ∈ o.after, Region.binds .any e = true → L e.on = true) → o.wp P a w (fun a' w' => J (fun k => k == i || L k) a' w') Q)
    (hend : ∀ L a w, J L a w → (∀ i, i < ops.size → L i = true) → Q .normal a w) : (Code.region id ops true).wp P Q a w :=
  wp_region_any hm (wpAny_inv J (dag_of hdag) hstep hend ops.size _ (fun _ => false) a _ (by simp) (fun k hk => by simp [hk]) (by have := List.length_filter_le (fun k => !(fun _ => false) k) (List.range ops.size); simpa using this) h0)
end
end Go.Proofs.YtingfomfibhnhaaGreatDoor
