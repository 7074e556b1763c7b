/-
  A tree among the arguments, and a path: opened.
-/
import Derived.Test.YtingfomfibhnhaaGreatDoorMgHN
import Derived.Test.YtingfomfibhnhaaGreatDoorMgYY
import Derived.Deep.Slices
import Derived.Lib.SmallJoins
import Derived.ChangeSame
namespace Go.Proofs.YtingfomfibhnhaaGreatDoor
open Go.ChangeShapes Go.WideShapes Go.ChangeAt Go.RowKit Go.ChangeMaps Go.Joins Go.Deep

theorem wf_u8 {k : Int} (h : (Lit.int .u8 k).wf = true) : 0 ≤ k ∧ k ≤ 255 := by
  have e : IntKind.u8.min = 0 := by kernel_rfl
  have e2 : IntKind.u8.max = 255 := by kernel_rfl
  simp [Lit.wf] at h
  omega
theorem bl_back (b : ByteArray) : bl b.data.toList = .string b := rfl
theorem cel27 : Tryz.prog.cellsOf 27 = 4 := by kernel_rfl
theorem cel25 : Tryz.prog.cellsOf 25 = 2 := by kernel_rfl
theorem cel5 : Tryz.prog.cellsOf 5 = 1 := by kernel_rfl
theorem cel9 : Tryz.prog.cellsOf 9 = 1 := by kernel_rfl
theorem cel23 : Tryz.prog.cellsOf 23 = 1 := by kernel_rfl
section
variable {H : Type} {enc : TypeId × Value → H} {w : World} {base : Nat} {held : Bool}
theorem open_trees : ∀ (elems : List (DataW H × List MemPlace)) (b off start : Nat) (fuel : Nat),
    (∀ cs x, DataW.trod enc Tryz.prog w base (fun _ => true) held fuel 27 cs = some x → ∃ j : T, NAt AnyB w j cs ∧ countT j ≤ Rows.uptoBulk x.1) →
    (∀ i, i < elems.length → (w.cells? base (⟨b, off + (start + i) * 4, none⟩) 4).bind (DataW.trod enc Tryz.prog w base (fun _ => true) held fuel 27) = elems[i]?) →
    ∃ (js : List T) (vs : List Value), js.length = elems.length ∧ vs.length = elems.length * 4 ∧ NsAt AnyB w js vs ∧ (∀ k u, vs[k]? = some u → w.cell? ⟨b, off + (start * 4 + k), none⟩ = some u) ∧ countTs js ≤ Rows.uptoBulkAll (elems.map (·.1))
  | [], b, off, start, fuel, _, _ => ⟨[], [], rfl, rfl, by unfold NsAt; rfl, fun k u h => by simp at h, by simp [Rows.uptoBulkAll, countTs]⟩
  | y :: r, b, off, start, fuel, hrec, h => by
    have h0 := h 0 (by simp)
    rw [List.getElem?_cons_zero] at h0
    obtain ⟨cs, hc, ht⟩ := Option.bind_eq_some_iff.1 h0
    obtain ⟨j, hj, hm⟩ := hrec cs y ht
    obtain ⟨_, hlen, hcell⟩ := World.cells?_some hc
    obtain ⟨js, vs, h1, h2, h3, h4, h5⟩ := open_trees r b off (start + 1) fuel hrec (fun i hi => by
      have := h (i + 1) (by simp; omega)
      rw [List.getElem?_cons_succ, show start + (i + 1) = start + 1 + i by omega] at this
      exact this)
    refine ⟨j :: js, cs ++ vs, by simp [h1], by simp [h2, hlen]; omega, ?_, fun k u hk => ?_, ?_⟩
    · unfold NsAt; exact ⟨cs, vs, rfl, hj, h3⟩
    · rcases Nat.lt_or_ge k 4 with hk4 | hk4
      · rw [List.getElem?_append_left (by omega)] at hk
        have := hcell k hk4
        rw [show (⟨b, off + (start + 0) * 4, none⟩ : Addr).add k = ⟨b, off + (start * 4 + k), none⟩ by rw [Go.WideShapes.add_plain, Nat.add_zero, Nat.add_assoc]] at this
        rw [this]
        exact hk
      · rw [List.getElem?_append_right (by omega), hlen] at hk
        have := h4 (k - 4) u hk
        rw [show (start + 1) * 4 + (k - 4) = start * 4 + k by omega] at this
        exact this
    · simp only [List.map_cons, Rows.uptoBulkAll, countTs]; omega
theorem sl_of {n size : Nat} {a : Addr} {cap : Nat} {vs : List Value} (hn : n ≤ cap) (hl : vs.length = n * size) (hsz : 0 < size)
    (h : ∀ b off, a = ⟨b, off, none⟩ → ∀ k u, vs[k]? = some u → w.cell? ⟨b, off + k, none⟩ = some u) (hs : 0 < n → a.spot = none) : SlIn AnyB w (.slice (some a) n cap) size n vs := by
  refine ⟨hl, some a, cap, rfl, hn, ?_⟩
  rcases Nat.eq_zero_or_pos n with h0 | h0
  · exact .inl h0
  · have hsp := hs h0
    obtain ⟨b, off, spot⟩ := a
    simp only at hsp
    subst hsp
    have hv : 0 < vs.length := by rw [hl]; exact Nat.mul_pos h0 hsz
    have hc := h b off rfl
    refine .inr ⟨b, off, rfl, trivial, ?_, hc⟩
    have := hc 0 _ (List.getElem?_eq_getElem hv)
    exact World.block_lt_of_cell? w ⟨b, off + 0, none⟩ this
theorem open_tok {fuel : Nat} {c0 c1 : Value} {y : DataW H × List MemPlace} (h : DataW.trod enc Tryz.prog w base (fun _ => true) held fuel 25 [c0, c1] = some y) : ∃ t : Tok, c0 = .int .u8 t.1 ∧ c1 = bl t.2 := by
  obtain ⟨y0, y1, m, rfl, _, h0, h1⟩ := trod_struct2 Tryz.underlying25 h
  simp [cel5, cel9] at h0 h1
  obtain ⟨k, e0, _, hwf⟩ := DataW.trod_int Tryz.underlying5 h0
  obtain ⟨s, e1, _, _⟩ := DataW.trod_string Tryz.underlying9 h1
  simp at e0 e1
  subst e0 e1
  have hk := wf_u8 hwf
  obtain ⟨k, rfl⟩ : ∃ k' : Nat, k = (k' : Int) := ⟨k.toNat, by omega⟩
  exact ⟨(k, s.data.toList), rfl, by rw [bl_back]⟩
set_option maxRecDepth 100000 in
theorem open_tree : ∀ (fuel : Nat) (cs : List Value) (x : DataW H × List MemPlace), DataW.trod enc Tryz.prog w base (fun _ => true) held fuel 27 cs = some x → ∃ j : T, NAt AnyB w j cs ∧ countT j ≤ Rows.uptoBulk x.1 := by
  intro fuel
  induction fuel using Nat.strongRecOn with
  | ind fuel ih =>
    intro cs x h
    obtain ⟨xs, n, rfl, rfl, hlen, hxl, hf⟩ := DataW.trod_struct Tryz.underlying27 h
    rw [cel27] at hlen
    match xs, hxl, cs, hlen with
    | [y0, y1, y2], _, [v0, v1, v2, v3], _ =>
      have g0 := hf 0 _ rfl
      have g1 := hf 1 _ rfl
      have g2 := hf 2 _ rfl
      simp [cel5, cel25, cel23] at g0 g1 g2
      obtain ⟨k, e0, rfl, hwf⟩ := DataW.trod_int Tryz.underlying5 g0
      obtain ⟨t, rfl, rfl⟩ := open_tok g1
      simp only [List.cons.injEq, and_true] at e0
      subst e0
      have hk := wf_u8 hwf
      obtain ⟨k, rfl⟩ : ∃ k' : Nat, k = (k' : Int) := ⟨k.toNat, by omega⟩
      have HL : ∃ (ls : List T) (vs : List Value), SlIn AnyB w v3 4 ls.length vs ∧ NsAt AnyB w ls vs ∧ countTs ls ≤ Rows.uptoBulk y2.1 := by
        rcases DataW.trod_slice Tryz.underlying23 g2 with ⟨h1, rfl⟩ | ⟨a, len, cap, elems, rest, m, rfl, h1, rfl, hb, hl, hm, hlen, hel, _, _⟩
        · simp at h1; subst h1
          exact ⟨[], [], SlIn.nil _ _ _, by unfold NsAt; rfl, by simp [Rows.uptoBulk, countTs]⟩
        · simp at h1; subst h1
          rw [cel27] at hel
          have hs : 0 < len → a.spot = none := fun h0 => by
            have := hel 0 h0
            rw [List.getElem?_eq_getElem (by omega)] at this
            obtain ⟨cs, hc, _⟩ := Option.bind_eq_some_iff.1 this
            obtain ⟨_, hcl, hcell⟩ := World.cells?_some hc
            have hc0 := hcell 0 (by omega)
            rw [List.getElem?_eq_getElem (by omega)] at hc0
            have := World.cell?_spot hc0
            simpa [Addr.add] using this
          rcases Nat.eq_zero_or_pos len with h0 | h0
          · refine ⟨[], [], ?_, by unfold NsAt; rfl, by simp [countTs]⟩
            subst h0
            exact sl_of (by omega) rfl (by omega) (fun b off _ k u hk => by simp at hk) hs
          · obtain ⟨b, off, spot⟩ := a
            have := hs h0
            simp only at this
            subst this
            obtain ⟨js, vs, n1, n2, n3, n4, n5⟩ := open_trees elems b off 0 m (fun cs x hx => ih m (by omega) cs x hx) (fun i hi => by
              have := hel i (by omega)
              rw [Go.WideShapes.add_plain] at this
              rw [Nat.zero_add]
              exact this)
            refine ⟨js, vs, ?_, n3, ?_⟩
            · rw [n1, hlen]
              refine sl_of hl (by rw [n2, hlen]) (by omega) (fun b' off' e k u hk => ?_) (fun _ => rfl)
              obtain ⟨rfl, rfl⟩ : b = b' ∧ off = off' := by injection e with e1 e2; exact ⟨e1, e2⟩
              have := n4 k u hk
              rw [Nat.zero_mul, Nat.zero_add] at this
              exact this
            · simp only [Rows.uptoBulk]; omega
      obtain ⟨ls, vs, hls, hjs, hlm⟩ := HL
      refine ⟨.mk k t ls, ?_, ?_⟩
      · unfold NAt
        exact ⟨v3, vs, rfl, hls, hjs⟩
      · simp only [countT, List.map_cons, List.map_nil, Rows.uptoBulk, Rows.uptoBulkAll]; omega
theorem path_open {fuel : Nat} {pk : Option Addr} {np ck : Nat} {x : DataW H × List MemPlace}
    (hf : DataW.trod enc Tryz.prog w 0 (fun _ => true) held fuel 38 (Value.slice pk np ck).cells.toList = some x) : ∃ l : List Int, l.length = np ∧ PaAt w (.slice pk np ck) l := by
  rcases open_ints Tryz.underlying38 Tryz.underlying3 (by kernel_rfl) hf with ⟨hcs, _⟩ | ⟨a, n, c, zs, hcs, _, hl, hm, hz, _, hcell, hws⟩
  · simp [Value.cells] at hcs
    obtain ⟨rfl, rfl, rfl⟩ := hcs
    exact ⟨[], rfl, SlIn.nil _ _ _⟩
  · simp [Value.cells] at hcs
    obtain ⟨rfl, rfl, rfl⟩ := hcs
    simp only [if_true] at hz
    refine ⟨zs.take np, by simp; omega, ?_⟩
    have hlen : (zs.take np).length = np := by simp; omega
    unfold PaAt
    rw [hlen]
    refine sl_of hl (by simp; omega) (by omega) (fun b off e k u hk => ?_) (fun h0 => by simpa [Addr.add] using World.cell?_spot (hcell 0 (by omega)))
    subst e
    rw [List.getElem?_map] at hk
    have hkn : k < np := by
      rcases Nat.lt_or_ge k np with h | h
      · exact h
      · rw [List.getElem?_eq_none (by simp; omega)] at hk; simp at hk
    rw [List.getElem?_take_of_lt hkn, List.getElem?_eq_getElem (by omega)] at hk
    simp only [Option.map_some, Option.some.injEq] at hk
    subst hk
    have h1 := hcell k (by omega)
    rw [Go.WideShapes.add_plain] at h1
    have hg : zs.getD k 0 = zs[k]'(by omega) := by rw [List.getD_eq_getElem?_getD, List.getElem?_eq_getElem (by omega)]; rfl
    rw [hg] at h1
    exact h1
end
end Go.Proofs.YtingfomfibhnhaaGreatDoor
