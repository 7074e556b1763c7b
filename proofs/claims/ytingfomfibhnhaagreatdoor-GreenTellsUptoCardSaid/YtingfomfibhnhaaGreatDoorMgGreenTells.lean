/-
  Proved: the law GreenTells returns true at every input whose bulk is at most the given bound, and leaves its arguments as they were (its second card: the listed package-level variables are tied to the program's text). Conditions: those of the given row alone.
-/
import Derived.Test.YtingfomfibhnhaaGreatDoorMgHTL
import Derived.Test.YtingfomfibhnhaaGreatDoorMgYT
import Derived.Deep.DeepWitnessRowRef
namespace Go.Proofs.YtingfomfibhnhaaGreatDoor.greenTells
open Go.ChangeShapes Go.WideShapes Go.ChangeAt Go.RowKit Go.ChangeMaps

set_option maxRecDepth 100000 in
set_option maxHeartbeats 1000000 in
theorem contract (H : Type) (enc : TypeId × Value → H) (W : World) (base : Nat) (args : Array Value) (ds gs : List (DataW H)) (before : List MemPlace)
    (hval : ∀ (j : Nat) t v, Tryz.f4.params[j]? = some t → args[j]? = some v → Value.okWide Tryz.prog W .any base t v)
    (hW : DataW.Whole enc Tryz.prog Tryz.f4.params.toList Rows.greenTellsSpec.vars false W args.toList ds gs before) (hk : Rows.uptoSmall H (ds ++ gs) = true) (hL : laidMetH Tryz.prog Rows.greenTellsUptoRow.laid W) :
    Calls Tryz.prog 4 args W fun e W' => ∃ v, e = .returned v ∧ Rows.greenTellsSpec.post enc Tryz.prog Tryz.f4 false true false false W args v W' := by
  have hW' := hW
  obtain ⟨p, q, hA0, hV, rfl, hfz, hnd⟩ := hW
  have hA : DataW.TrodAll enc Tryz.prog W 0 (fun _ => true) true Tryz.f4.params.toList args.toList ds p := hA0
  rw [Tryz.params4] at hA hval
  obtain ⟨v0, vs0, d0, ds0, p0, q0, hargs, rfl, rfl, h0, r0⟩ := trodAll_cons hA
  obtain ⟨v1, vs1, d1, ds1, p1, q1, rfl, rfl, rfl, h1, r1⟩ := trodAll_cons r0
  obtain ⟨rfl, rfl, rfl⟩ := trodAll_nil r1
  obtain rfl : args = #[v0, v1] := by cases args; simp_all
  obtain ⟨rfl, rfl⟩ := trodVars_none hV
  have hb : Rows.uptoBulkAll [d0, d1] ≤ 1048576 := by
    rw [List.append_nil] at hk
    exact of_decide_eq_true hk
  simp only [Rows.uptoBulkAll] at hb
  have hv0 := hval 0 27 v0 rfl rfl
  unfold Value.okWide at hv0
  rw [Tryz.underlying27] at hv0
  obtain ⟨cs0, rfl, _⟩ := hv0
  have h0k := h0
  obtain ⟨fuel0, hf0⟩ := h0
  obtain ⟨j0, hj0, hm0⟩ := open_tree fuel0 _ _ hf0
  obtain ⟨a0, b0, hc0⟩ := hj0.four
  have hcs0 : cs0 = (cellsN j0 a0 b0).toArray := by
    have h : cs0.toList = cellsN j0 a0 b0 := hc0
    apply Array.toList_inj.1; rw [h]
  rw [hc0] at hj0
  subst hcs0
  have hn0 : countT j0 ≤ Rows.uptoBulk d0 := hm0
  have hv1 := hval 1 27 v1 rfl rfl
  unfold Value.okWide at hv1
  rw [Tryz.underlying27] at hv1
  obtain ⟨cs1, rfl, _⟩ := hv1
  have h1k := h1
  obtain ⟨fuel1, hf1⟩ := h1
  obtain ⟨j1, hj1, hm1⟩ := open_tree fuel1 _ _ hf1
  obtain ⟨a1, b1, hc1⟩ := hj1.four
  have hcs1 : cs1 = (cellsN j1 a1 b1).toArray := by
    have h : cs1.toList = cellsN j1 a1 b1 := hc1
    apply Array.toList_inj.1; rw [h]
  rw [hc1] at hj1
  subst hcs1
  have hn1 : countT j1 ≤ Rows.uptoBulk d1 := hm1
  clear hA0
  simp only [List.append_nil] at hW'
  have hlt0 : ∀ x ∈ p0, x.block < W.heap.size := fun x hx => by simpa using hW'.lt x (by simp [hx])
  have hlt1 : ∀ x ∈ p1, x.block < W.heap.size := fun x hx => by simpa using hW'.lt x (by simp [hx])
  refine (tells_walk j0 j1 W _ _ _ _ (tabs hL) hj0 hj1 (by omega) (by omega)).mono fun e W' ⟨he, hg⟩ => ?_
  subst he
  refine ⟨_, rfl, post_places hW' (trodAll_cons_mk (shut_bool Tryz.underlying4 _) trodAll_mk0) ?_ rfl hg⟩
  have h0' := Below.trod trydLaidOut (by kernel_rfl) (of_decide_eq_true (by kernel_rfl)) h0k hg hlt0
  have h1' := Below.trod trydLaidOut (by kernel_rfl) (of_decide_eq_true (by kernel_rfl)) h1k hg hlt1
  have hz := trodAll_cons_mk h0' (trodAll_cons_mk h1' (trodAll_mk0))
  simp only [List.append_nil] at hz
  exact hz

theorem laid_met (os : Os) : laidMet Tryz.prog Rows.greenTellsUptoRow.laid ((laidWorld os).forCall (fun _ _ => 0) ⟨#[], (#[.agg #[.int .u8 0, .int .u8 0, .string ⟨#[]⟩, .slice none 0 0], .agg #[.int .u8 0, .int .u8 0, .string ⟨#[]⟩, .slice none 0 0]] : Array Value), []⟩).memory :=
  laidMet_of_run' 8 (by kernel_rfl) (by kernel_rfl)
theorem reads (os : Os) {H : Type} (enc : TypeId × Value → H) : ∃ places, DataW.whole enc Tryz.prog ((laidWorld os).forCall (fun _ _ => 0) ⟨#[], (#[.agg #[.int .u8 0, .int .u8 0, .string ⟨#[]⟩, .slice none 0 0], .agg #[.int .u8 0, .int .u8 0, .string ⟨#[]⟩, .slice none 0 0]] : Array Value), []⟩).memory Tryz.f4.params.toList Rows.greenTellsSpec.vars false (#[.agg #[.int .u8 0, .int .u8 0, .string ⟨#[]⟩, .slice none 0 0], .agg #[.int .u8 0, .int .u8 0, .string ⟨#[]⟩, .slice none 0 0]] : Array Value).toList 8 = some ([.agg [.lit (.int .u8 0), .agg [.lit (.int .u8 0), .lit (.string [])], .nil], .agg [.lit (.int .u8 0), .agg [.lit (.int .u8 0), .lit (.string [])], .nil]], [], places) :=
  ⟨[], by kernel_rfl⟩

set_option maxRecDepth 100000 in
theorem lifted (os : Os) (started : os.Started) (H : Type) (enc : TypeId × Value → H) (F : Stop.Interp) :
    ReturnsInHanded {} Tryz.checked os 4 .any ((Rows.OpenSpec.upto Rows.greenTellsSpec).preRow enc Tryz.prog Tryz.f4 Rows.greenTellsUptoRow.domain false Rows.greenTellsUptoRow.laid) (((Rows.OpenSpec.upto Rows.greenTellsSpec).at F).post enc Tryz.prog Tryz.f4 false true false false) := by
  obtain ⟨places, hx⟩ := reads os enc
  refine returnsInHanded_of_row (C := Tryz.checked) (s := Rows.OpenSpec.upto Rows.greenTellsSpec) own started (by kernel_rfl) Tryz.func4
    (witness_row_atRef (enc := enc) (C := Tryz.checked) false (laidWorld os) (#[.agg #[.int .u8 0, .int .u8 0, .string ⟨#[]⟩, .slice none 0 0], .agg #[.int .u8 0, .int .u8 0, .string ⟨#[]⟩, .slice none 0 0]] : Array Value) rfl (by kernel_rfl) (by kernel_rfl) (by kernel_rfl)
      (OpenSpec.preRow_of_cond 8 hx (by kernel_rfl) (fun k hk => by cases hk; kernel_rfl) (by kernel_rfl) (laid_met os))) ?_
  intro W base args ds gs before hval hW _ hcond _ hL _ _
  exact contract H enc W base args ds gs before hval hW (hcond _ rfl) hL

theorem said : Rows.GreenTellsUptoSaid :=
  OpenClaim.holds_of_cond 4 Tryz.f4 rfl rfl rfl rfl rfl rfl rfl ⟨rfl, rfl, rfl, rfl, rfl⟩ rfl rfl rfl rfl rfl (by kernel_rfl) Tryz.func4 (by kernel_rfl)
    (of_decide_eq_true (by kernel_rfl)) (by unfold Func.isWrapper; first | (rw [if_pos (by decide +kernel)]; kernel_rfl) | (rw [if_neg (by decide +kernel)]; exact ⟨rfl, rfl⟩))
    (fun os started H enc _ F => by rw [OpenClaim.pre_eq_preRow]; exact lifted os started H enc F)

theorem plain (f : FuncId) (fn : Func) (hf : Tryz.pinned.checked.prog.funcNamed "rostrum/rostrumlaw11.GreenTells" = some f) (hfn : Tryz.pinned.checked.prog.funcs[f]? = some fn) :
    true = Tryz.pinned.checked.prog.looks [] ∧ ∀ (j : Nat) t, fn.params[j]? = some t → Tryz.pinned.checked.prog.wantsStandIn t = false := by
  obtain rfl : f = 4 := Option.some.inj ((show Tryz.prog.funcNamed "rostrum/rostrumlaw11.GreenTells" = some 4 by kernel_rfl).symm.trans hf) |>.symm
  obtain rfl : fn = Tryz.f4 := (Option.some.inj (Tryz.func4.symm.trans hfn)).symm
  refine ⟨by kernel_rfl, fun j t ht => ?_⟩
  rw [Tryz.params4] at ht
  have hm : t = 27 := by have := Array.mem_of_getElem? ht; simpa using this
  subst hm
  exact (show Tryz.prog.wantsStandIn 27 = false by kernel_rfl)

theorem card : Rows.GreenTellsUptoCardSaid :=
  Claim7.holds_tied_plain_at .later [] _ _ _ _ said (fun _ h => by cases h) (by kernel_rfl) (fun _ h => by cases h) greenTellsUpto_row_tie rfl ⟨rfl, rfl⟩ (by kernel_rfl) rfl plain (by kernel_rfl)
end Go.Proofs.YtingfomfibhnhaaGreatDoor.greenTells
