/-
  A law with an argument that lies in memory: the last step; small numbers.
  A value among the arguments: opened.
-/
import Derived.Test.YtgcpgieojckheaaGreatDoorMgY
import Derived.Test.YtgcpgieojckheaaGreatDoorMgMD
import Derived.Carry
import Derived.ChangeSlices
import Derived.Deep.Slices
namespace Go.Proofs.YtgcpgieojckheaaGreatDoor
open Go.ChangeShapes Go.WideShapes Go.ChangeAt Go.RowKit

theorem tryzLaidOut : laidOutB Tryz.prog = true := by kernel_rfl
theorem wf_u8 {k : Int} (h : (Lit.int .u8 k).wf = true) : 0 ≤ k ∧ k ≤ 255 := by
  have e : IntKind.u8.min = 0 := by kernel_rfl
  have e2 : IntKind.u8.max = 255 := by kernel_rfl
  simp [Lit.wf] at h
  omega
/-- From a walk to the row, where an argument leads into memory. -/
theorem post_places {H : Type} {enc : TypeId × Value → H} {P : Program} {f : Func} {s : ChangeSpec} {W W' : World} {args : Array Value} {v : Value} {ds : List (DataW H)} {before : List MemPlace}
    (hW : DataW.Whole enc P f.params.toList s.vars false W args.toList ds [] before)
    (hres : DataW.TrodAll enc P W' W.heap.size (fun _ => false) false f.resultTypes.toList (v.resultList f.resultTypes.size) (s.fn H (ds ++ [])).results [])
    (hargs : DataW.TrodAll enc P W' 0 (fun b => decide (b < W.heap.size)) true f.params.toList args.toList (s.fn H (ds ++ [])).args before)
    (hvars : DataW.TrodVars enc P W' (fun b => decide (b < W.heap.size)) s.vars (s.fn H (ds ++ [])).vars [])
    (hb : Below W.heap.size W W') : s.post enc P f false true false false W args v W' :=
  ⟨ds, [], before, [], before, [], hW, hres, hargs, hvars, World.keptBut_mono (fun p hp => by cases hp) (hb.frame (· ∈ [])), fun h => by cases h⟩
end Go.Proofs.YtgcpgieojckheaaGreatDoor
namespace Go.Proofs.YtgcpgieojckheaaGreatDoor
open Go.ChangeShapes Go.WideShapes Go.ChangeAt Go.RowKit Go.ChangeMaps Go.Joins Go.Deep
open Json (J JAt JsAt SlIn AnyB massJ massesJ)

theorem bl_back (b : ByteArray) : bl b.data.toList = .string b := rfl
theorem cel47 : Tryz.prog.cellsOf 47 = 4 := by kernel_rfl
theorem cel5 : Tryz.prog.cellsOf 5 = 1 := by kernel_rfl
theorem cel9 : Tryz.prog.cellsOf 9 = 1 := by kernel_rfl
theorem cel44 : Tryz.prog.cellsOf 44 = 1 := by kernel_rfl
theorem cel45 : Tryz.prog.cellsOf 45 = 1 := by kernel_rfl
section
variable {H : Type} {enc : TypeId × Value → H} {w : World} {base : Nat} {held : Bool}
theorem open_names : ∀ (elems : List (DataW H × List MemPlace)) (b off start : Nat) (fuel : Nat),
    (∀ i, i < elems.length → (w.cells? base (⟨b, off + (start + i), none⟩) 1).bind (DataW.trod enc Tryz.prog w base (fun _ => true) held fuel 9) = elems[i]?) →
    ∃ ns : List (List UInt8), ns.length = elems.length ∧ (∀ k u, (ns.map bl)[k]? = some u → w.cell? ⟨b, off + (start + k), none⟩ = some u) ∧ (ns.map fun n => n.length + 1).sum ≤ Rows.uptoBulkAll (elems.map (·.1))
  | [], b, off, start, fuel, _ => ⟨[], rfl, fun k u h => by simp at h, by simp [Rows.uptoBulkAll]⟩
  | y :: r, b, off, start, fuel, h => by
    have h0 := h 0 (by simp)
    rw [List.getElem?_cons_zero] at h0
    obtain ⟨cs, hc, ht⟩ := Option.bind_eq_some_iff.1 h0
    obtain ⟨s, rfl, rfl, _⟩ := DataW.trod_string Tryz.underlying9 ht
    obtain ⟨_, _, hcell⟩ := World.cells?_some hc
    have hc0 := hcell 0 (by omega)
    obtain ⟨ns, h1, h2, h3⟩ := open_names r b off (start + 1) fuel (fun i hi => by
      have := h (i + 1) (by simp; omega)
      rw [List.getElem?_cons_succ, show start + (i + 1) = start + 1 + i by omega] at this
      exact this)
    refine ⟨s.data.toList :: ns, by simp [h1], fun k u hk => ?_, ?_⟩
    · cases k with
      | zero =>
        simp at hk; subst hk
        rw [Go.WideShapes.add_plain] at hc0
        rw [bl_back]
        simpa using hc0
      | succ k =>
        have := h2 k u (by simpa using hk)
        rw [show start + (k + 1) = start + 1 + k by omega]
        exact this
    · simp only [List.map_cons, List.sum_cons, Rows.uptoBulkAll, Rows.uptoBulk]; omega
theorem open_values : ∀ (elems : List (DataW H × List MemPlace)) (b off start : Nat) (fuel : Nat),
    (∀ cs x, DataW.trod enc Tryz.prog w base (fun _ => true) held fuel 47 cs = some x → ∃ j : J, JAt AnyB w j cs ∧ massJ j ≤ Rows.uptoBulk x.1) →
    (∀ i, i < elems.length → (w.cells? base (⟨b, off + (start + i) * 4, none⟩) 4).bind (DataW.trod enc Tryz.prog w base (fun _ => true) held fuel 47) = elems[i]?) →
    ∃ (js : List J) (vs : List Value), js.length = elems.length ∧ vs.length = elems.length * 4 ∧ JsAt AnyB w js vs ∧ (∀ k u, vs[k]? = some u → w.cell? ⟨b, off + (start * 4 + k), none⟩ = some u) ∧ massesJ js ≤ Rows.uptoBulkAll (elems.map (·.1))
  | [], b, off, start, fuel, _, _ => ⟨[], [], rfl, rfl, by unfold JsAt; rfl, fun k u h => by simp at h, by simp [Rows.uptoBulkAll, massesJ]⟩
  | y :: r, b, off, start, fuel, hrec, h => by
    have h0 := h 0 (by simp)
    rw [List.getElem?_cons_zero] at h0
    obtain ⟨cs, hc, ht⟩ := Option.bind_eq_some_iff.1 h0
    obtain ⟨j, hj, hm⟩ := hrec cs y ht
    obtain ⟨_, hlen, hcell⟩ := World.cells?_some hc
    obtain ⟨js, vs, h1, h2, h3, h4, h5⟩ := open_values r b off (start + 1) fuel hrec (fun i hi => by
      have := h (i + 1) (by simp; omega)
      rw [List.getElem?_cons_succ, show start + (i + 1) = start + 1 + i by omega] at this
      exact this)
    refine ⟨j :: js, cs ++ vs, by simp [h1], by simp [h2, hlen]; omega, ?_, fun k u hk => ?_, ?_⟩
    · unfold JsAt; exact ⟨cs, vs, rfl, hj, h3⟩
    · rcases Nat.lt_or_ge k 4 with hk4 | hk4
      · rw [List.getElem?_append_left (by omega)] at hk
        have := hcell k hk4
        rw [show (⟨b, off + (start + 0) * 4, none⟩ : Addr).add k = ⟨b, off + (start * 4 + k), none⟩ by rw [Go.WideShapes.add_plain, Nat.add_zero, Nat.add_assoc]] at this
        rw [this]
        exact hk
      · rw [List.getElem?_append_right (by omega), hlen] at hk
        have := h4 (k - 4) u hk
        rw [show (start + 1) * 4 + (k - 4) = start * 4 + k by omega] at this
        exact this
    · simp only [List.map_cons, Rows.uptoBulkAll, massesJ]; omega
theorem sl_of {n size : Nat} {a : Addr} {cap : Nat} {vs : List Value} (hn : n ≤ cap) (hl : vs.length = n * size) (hsz : 0 < size)
    (h : ∀ b off, a = ⟨b, off, none⟩ → ∀ k u, vs[k]? = some u → w.cell? ⟨b, off + k, none⟩ = some u) (hs : 0 < n → a.spot = none) : SlIn AnyB w (.slice (some a) n cap) size n vs := by
  refine ⟨hl, some a, cap, rfl, hn, ?_⟩
  rcases Nat.eq_zero_or_pos n with h0 | h0
  · exact .inl h0
  · have hsp := hs h0
    obtain ⟨b, off, spot⟩ := a
    simp only at hsp
    subst hsp
    have hv : 0 < vs.length := by rw [hl]; exact Nat.mul_pos h0 hsz
    have hc := h b off rfl
    refine .inr ⟨b, off, rfl, trivial, ?_, hc⟩
    have := hc 0 _ (List.getElem?_eq_getElem hv)
    exact World.block_lt_of_cell? w ⟨b, off + 0, none⟩ this
set_option maxRecDepth 100000 in
theorem open_json : ∀ (fuel : Nat) (cs : List Value) (x : DataW H × List MemPlace), DataW.trod enc Tryz.prog w base (fun _ => true) held fuel 47 cs = some x → ∃ j : J, JAt AnyB w j cs ∧ massJ j ≤ Rows.uptoBulk x.1 := by
  intro fuel
  induction fuel using Nat.strongRecOn with
  | ind fuel ih =>
    intro cs x h
    obtain ⟨xs, n, rfl, rfl, hlen, hxl, hf⟩ := DataW.trod_struct Tryz.underlying47 h
    rw [cel47] at hlen
    match xs, hxl, cs, hlen with
    | [y0, y1, y2, y3], _, [v0, v1, v2, v3], _ =>
      have g0 := hf 0 _ rfl
      have g1 := hf 1 _ rfl
      have g2 := hf 2 _ rfl
      have g3 := hf 3 _ rfl
      simp [cel5, cel9, cel44, cel45] at g0 g1 g2 g3
      obtain ⟨k, e0, rfl, hwf⟩ := DataW.trod_int Tryz.underlying5 g0
      obtain ⟨s, e1, rfl, _⟩ := DataW.trod_string Tryz.underlying9 g1
      simp only [List.cons.injEq, and_true] at e0 e1
      subst e0 e1
      have hk := wf_u8 hwf
      obtain ⟨k, rfl⟩ : ∃ k' : Nat, k = (k' : Int) := ⟨k.toNat, by omega⟩
      have HN : ∃ ns : List (List UInt8), SlIn AnyB w v2 1 ns.length (ns.map bl) ∧ (ns.map fun n => n.length + 1).sum ≤ Rows.uptoBulk y2.1 := by
        rcases DataW.trod_slice Tryz.underlying44 g2 with ⟨h1, rfl⟩ | ⟨a, len, cap, elems, rest, m, rfl, h1, rfl, hb, hl, hm, hlen, hel, _, _⟩
        · simp at h1; subst h1
          exact ⟨[], SlIn.nil _ _ _, by simp [Rows.uptoBulk]⟩
        · simp at h1; subst h1
          rw [cel9] at hel
          have hs : 0 < len → a.spot = none := fun h0 => by
            have := hel 0 h0
            rw [List.getElem?_eq_getElem (by omega)] at this
            obtain ⟨cs, hc, _⟩ := Option.bind_eq_some_iff.1 this
            obtain ⟨_, hcl, hcell⟩ := World.cells?_some hc
            have hc0 := hcell 0 (by omega)
            rw [List.getElem?_eq_getElem (by omega)] at hc0
            have := World.cell?_spot hc0
            simpa [Addr.add] using this
          rcases Nat.eq_zero_or_pos len with h0 | h0
          · refine ⟨[], ?_, by simp⟩
            subst h0
            exact sl_of (by omega) rfl (by omega) (fun b off _ k u hk => by simp at hk) hs
          · obtain ⟨b, off, spot⟩ := a
            have := hs h0
            simp only at this
            subst this
            obtain ⟨ns, n1, n2, n3⟩ := open_names elems b off 0 m (fun i hi => by
              have := hel i (by omega)
              rw [Go.WideShapes.add_plain] at this
              rw [Nat.zero_add, show off + i = off + i * 1 by omega]
              exact this)
            refine ⟨ns, ?_, ?_⟩
            · rw [n1, hlen]
              refine sl_of hl (by simp [n1, hlen]) (by omega) (fun b' off' e k u hk => ?_) (fun _ => rfl)
              obtain ⟨rfl, rfl⟩ : b = b' ∧ off = off' := by injection e with e1 e2; exact ⟨e1, e2⟩
              have := n2 k u hk
              rw [Nat.zero_add] at this
              exact this
            · simp only [Rows.uptoBulk]; omega
      have HL : ∃ (ls : List J) (vs : List Value), SlIn AnyB w v3 4 ls.length vs ∧ JsAt AnyB w ls vs ∧ massesJ ls ≤ Rows.uptoBulk y3.1 := by
        rcases DataW.trod_slice Tryz.underlying45 g3 with ⟨h1, rfl⟩ | ⟨a, len, cap, elems, rest, m, rfl, h1, rfl, hb, hl, hm, hlen, hel, _, _⟩
        · simp at h1; subst h1
          exact ⟨[], [], SlIn.nil _ _ _, by unfold JsAt; rfl, by simp [Rows.uptoBulk, massesJ]⟩
        · simp at h1; subst h1
          rw [cel47] at hel
          have hs : 0 < len → a.spot = none := fun h0 => by
            have := hel 0 h0
            rw [List.getElem?_eq_getElem (by omega)] at this
            obtain ⟨cs, hc, _⟩ := Option.bind_eq_some_iff.1 this
            obtain ⟨_, hcl, hcell⟩ := World.cells?_some hc
            have hc0 := hcell 0 (by omega)
            rw [List.getElem?_eq_getElem (by omega)] at hc0
            have := World.cell?_spot hc0
            simpa [Addr.add] using this
          rcases Nat.eq_zero_or_pos len with h0 | h0
          · refine ⟨[], [], ?_, by unfold JsAt; rfl, by simp [massesJ]⟩
            subst h0
            exact sl_of (by omega) rfl (by omega) (fun b off _ k u hk => by simp at hk) hs
          · obtain ⟨b, off, spot⟩ := a
            have := hs h0
            simp only at this
            subst this
            obtain ⟨js, vs, n1, n2, n3, n4, n5⟩ := open_values elems b off 0 m (fun cs x hx => ih m (by omega) cs x hx) (fun i hi => by
              have := hel i (by omega)
              rw [Go.WideShapes.add_plain] at this
              rw [Nat.zero_add]
              exact this)
            refine ⟨js, vs, ?_, n3, ?_⟩
            · rw [n1, hlen]
              refine sl_of hl (by rw [n2, hlen]) (by omega) (fun b' off' e k u hk => ?_) (fun _ => rfl)
              obtain ⟨rfl, rfl⟩ : b = b' ∧ off = off' := by injection e with e1 e2; exact ⟨e1, e2⟩
              have := n4 k u hk
              rw [Nat.zero_mul, Nat.zero_add] at this
              exact this
            · simp only [Rows.uptoBulk]; omega
      obtain ⟨ns, hns, hnm⟩ := HN
      obtain ⟨ls, vs, hls, hjs, hlm⟩ := HL
      refine ⟨.mk k s.data.toList ns ls, ?_, ?_⟩
      · unfold JAt
        exact ⟨v2, v3, vs, by rw [bl_back], hns, hls, hjs⟩
      · simp only [massJ, List.map_cons, List.map_nil, Rows.uptoBulk, Rows.uptoBulkAll]; omega
end
end Go.Proofs.YtgcpgieojckheaaGreatDoor
