/-
  An Object's member: its closure.
-/
import Derived.Test.YtgcpgieojckheaaGreatDoorMgJP4
import Derived.Test.YtgcpgieojckheaaGreatDoorMgJQ
import Derived.Maps.AppendAt
namespace Go.Proofs.YtgcpgieojckheaaGreatDoor.Json
open Go.RowKit Go.Shelf Go.Maps

theorem body_few : ∀ (f : Nat) {l t r : List UInt8}, body f l = some (t, r) → t.length + 4 * r.length ≤ 4 * l.length
  | 0, l, t, r, h => by unfold body at h; cases h
  | f + 1, [], t, r, h => by unfold body at h; cases h
  | f + 1, c :: l, t, r, h => by
    unfold body at h
    split at h
    · cases h; simp; omega
    · split at h
      · split at h
        · cases h
        · rename_i t2 r2 h2
          have l2 := escR_len h2
          have l3 := escR_few h2
          split at h
          · cases h
          · rename_i u r3 h3
            have l4 := body_few f h3
            cases h
            simp only [List.length_cons, List.length_append]; omega
      · split at h
        · cases h
        · split at h
          · cases h
          · rename_i u r3 h3
            have l4 := body_few f h3
            cases h
            simp only [List.length_cons]; omega
theorem quoted_few {l t r : List UInt8} (h : quoted l = some (t, r)) : t.length ≤ 4 * l.length := by
  unfold quoted at h
  split at h
  · split at h
    · cases h
    · rename_i h2
      have := body_few _ h2
      split at h
      · cases h; simp only [List.length_cons]; omega
      · cases h
  · cases h
theorem LstAt.name {W : World} {b P J B k : Nat} {ns : List (List UInt8)} {js : List Json.J} {nv lv v' : Value} {xs : List Value} {w w2 : World} {t : List UInt8} {o : Obj}
    (hbut : But b W w) (hWP : P ≠ b ∧ W.heap.size ≤ J) (hPJ : P < J) (hJB : J < B) (hBw : B ≤ w.heap.size) (hbW : b < W.heap.size) (hhP : w.heap[P]? = some (.cells #[.pointer (some ⟨b, 0, none⟩)] 87 (0, 0)))
    (hhJ : w.heap[J]? = some (.cells #[.int .u8 k, .string ⟨#[]⟩, nv, lv] 47 (0, 0))) (hown1 : w.ownsRow B 9 1 nv ns.length (ns.map bl)) (hown2 : w.ownsRow B 47 4 lv js.length xs)
    (hjs : JsAt (fun g => B ≤ g ∧ lv.ownBlock ≠ some g ∧ nv.ownBlock ≠ some g) w js xs)
    (hgrow : (w.alloc o).grownBy w2 nv.ownBlock) (hown3 : w2.ownsRow B 9 1 v' (ns.length + 1) (ns.map bl ++ [bl t])) (hat : v'.ownBlock = nv.ownBlock ∨ v'.ownBlock = some (w.heap.size + 1)) :
    LstAt W b P J B k (ns ++ [t]) js (w2.setCell ⟨J, 2, none⟩ v') ∧ ∀ i, i < B → i ≠ J → (w2.setCell ⟨J, 2, none⟩ v').heap[i]? = w.heap[i]? := by
  have hb0 := galloc (Below.refl w.heap.size w) o
  have hb : But b w (w.alloc o) := But.of hb0
  have hsz : (w.alloc o).heap.size = w.heap.size + 1 := by simp
  have hbl := hown2.lt
  have hnl := hown1.lt
  have hkind : ∀ i, nv.ownBlock = some i → lv.ownBlock ≠ some i := fun i h1 h2 => by
    obtain ⟨c1, f1, e1⟩ := own_kind hown1 i h1
    obtain ⟨c2, f2, e2⟩ := own_kind hown2 i h2
    rw [e1] at e2; injection e2 with e2; cases e2
  have far : ∀ i, i < B → some i ≠ nv.ownBlock := fun i hi e => by have := (hnl i e.symm).1; omega
  have hl3 : w2.ownsRow B 47 4 lv js.length xs := (own_but hown2 hb (by omega)).kept hgrow (by
    cases hq : lv.ownBlock with
    | none => exact .inl rfl
    | some i => exact .inr (fun e => hkind i e.symm hq))
  have hvl := hown3.lt
  have ho := Only.set J w2 2 v'
  have keep : ∀ i, i < B → i ≠ J → (w2.setCell ⟨J, 2, none⟩ v').heap[i]? = w.heap[i]? := fun i h1 h2 => (ho.block i h2).trans ((hgrow.block i (by omega) (far i h1)).trans (hb0.block i (by omega)))
  have hB2 : But b W w2 := by
    have h1 := hbut.trans hb
    have := hbut.size
    exact ⟨hgrow.os.trans h1.os, hgrow.tape.trans h1.tape, hgrow.output.trans h1.output, Nat.le_trans h1.size hgrow.size, fun i hi hib => (hgrow.block i (by omega) (far i (by omega))).trans (h1.block i hi hib)⟩
  refine ⟨⟨hB2.fresh hWP.2, hWP, hPJ, hJB, by rw [ho.size]; have := hgrow.size; omega, (keep P (by omega) (by omega)).trans hhP, v', lv, xs, heap_setCell_same w2 J 2 _ _ _ ((hgrow.block J (by omega) (far J hJB)).trans ((hb0.block J (by omega)).trans hhJ)), ?_, ownsRow_setCell_other hl3 (fun e => by have := (hl3.lt J e).1; omega) v', ?_⟩, keep⟩
  · rw [List.length_append, List.map_append]
    exact ownsRow_setCell_other hown3 (fun e => by have := (hvl J e).1; omega) v'
  · refine JsAt.mono (S := fun i => (B ≤ i ∧ lv.ownBlock ≠ some i ∧ nv.ownBlock ≠ some i) ∧ v'.ownBlock ≠ some i) (fun i _ h => ⟨h.1.1, h.1.2.1, h.2⟩) js xs ?_
    refine JsAt.world (W := w) ⟨by rw [ho.size]; have := hgrow.size; omega, fun i hi h => (ho.block i (by have := h.1.1; omega)).trans ((hgrow.block i (by omega) (fun e => h.1.2.2 e.symm)).trans (hb0.block i hi))⟩ js xs (JsAt.mono (fun i hi h => ⟨h, fun e => ?_⟩) js xs hjs)
    rcases hat with h' | h'
    · exact h.2.2 (by rw [← h']; exact e)
    · rw [h'] at e
      have := Option.some.inj e
      omega
theorem But.outside {b M : Nat} {W w w' : World} (h : But b W w) (hm : But M w w') (hM : W.heap.size ≤ M) : But b W w' :=
  ⟨hm.os.trans h.os, hm.tape.trans h.tape, hm.output.trans h.output, Nat.le_trans h.size hm.size, fun k hk hkb => (hm.block k (by have := h.size; omega) (by omega)).trans (h.block k hk hkb)⟩
theorem LstAt.outside {W : World} {b P J B k M : Nat} {ns : List (List UInt8)} {js : List Json.J} {w w' : World} (h : LstAt W b P J B k ns js w) (hb : But M w w') (hM : W.heap.size ≤ M) (hMP : M ≠ P) (hMJ : M ≠ J) (hMB : M < B) : LstAt W b P J B k ns js w' := by
  obtain ⟨hbut, hWP, hPJ, hJB, hBw, hhP, nv, lv, xs, hhJ, hown1, hown2, hjs⟩ := h
  exact ⟨hbut.outside hb hM, hWP, hPJ, hJB, Nat.le_trans hBw hb.size, (hb.block P (by omega) (fun e => hMP e.symm)).trans hhP, nv, lv, xs, (hb.block J (by omega) (fun e => hMJ e.symm)).trans hhJ, own_but hown1 hb hMB, own_but hown2 hb hMB,
    JsAt.world ⟨hb.size, fun i hi h => hb.block i hi (by have := h.1; omega)⟩ js xs hjs⟩
theorem PAt.outside {W w : World} {b M : Nat} {s : ByteArray} {x y z : Nat} (h : PAt W b s x y z) (hb : But M W w) (hM : b ≠ M) : PAt w b s x y z := (hb.block b h.lt hM).trans h
/-- An Object that is read: what it has so far. -/
def StO (W : World) (b P K M J B : Nat) (a : List (List UInt8) × List Json.J) (w : World) : Prop :=
  LstAt W b P J B 7 a.1 a.2 w ∧ MapAt M a.1 w ∧ w.heap[K]? = some (.cells #[.map (some M)] 127 (0, 0)) ∧ a.1.length = a.2.length
theorem StO.but {W : World} {b P K M J B : Nat} {a : List (List UInt8) × List Json.J} {w w' : World} (h : StO W b P K M J B a w) (hb : But b w w') (hbW : b < W.heap.size) (hK : K ≠ b) (hM : M ≠ b) : StO W b P K M J B a w' :=
  ⟨h.1.but hb hbW, h.2.1.heap (hb.block M h.2.1.lt hM), (hb.block K (Array.getElem?_eq_some_iff.1 h.2.2.1).1 hK).trans h.2.2.1, h.2.2.2⟩
theorem info9 : (Tryz.prog.info? 9).map (fun i => (i.zero, i.size, i.bytes)) = some (some (.string ⟨#[]⟩), 1, 16) := by kernel_rfl
theorem u44 : Tryz.prog.underlying 44 = some (.slice 9) := by kernel_rfl
theorem bl_one (t : List UInt8) : ∀ u ∈ [bl t], u.oneCell' = true := by intro u hu; simp at hu; subst hu; rfl
theorem bp_bad4 {W : World} {b P K M J B : Nat} {s : ByteArray} {x y : Nat} {c : Int} {w1 : World} (h : But b W w1) (t : Array Value) : bodyPost Tryz.prog Tryz.f184 (ListEnd (StO W b P K M J B) W b s x y (Except.error c)) (Exit.panic [{ v := .iface 23 (.int .i64 c), recovered := false }]) { tmps := t, defers := [] } w1 := ⟨rfl, rfl, h⟩
set_option maxRecDepth 100000 in
set_option maxHeartbeats 32000000 in
theorem obj_el {v : Val} (W : World) (b P K M J B : Nat) (s : ByteArray) (y : Nat) (hT : TabsJ W) (hb8 : 8 ≤ b) (hbW : b < W.heap.size) (h8 : 8 ≤ W.heap.size) (hz : s.size ≤ 300000) (hKb : K ≠ b) (hMb : M ≠ b)
    (hMW : W.heap.size ≤ M) (hMP : M ≠ P) (hMJ : M ≠ J) (hMB : M < B) (hKJ : K ≠ J) (hKB : K < B) (hKM : K ≠ M)
    (hV0 : ∀ x z w, x ≤ s.size → PAt w b s x y z → TabsJ w → 8 ≤ w.heap.size → Calls Tryz.prog 93 #[.pointer (some ⟨b, 0, none⟩)] w (ValEnd w b s x y (v (s.data.toList.drop x) z)))
    (a : List (List UInt8) × List Json.J) (x z : Nat) (w0 : World) (hx : x ≤ s.size) (hskip : skip (s.data.toList.drop x) = s.data.toList.drop x) (hn0 : a.1.length ≤ s.size) (hL0 : StO W b P K M J B a w0) (hP0 : PAt w0 b s x y z) :
    Calls Tryz.prog 184 #[.pointer (some ⟨P, 0, none⟩), .pointer (some ⟨K, 0, none⟩), .pointer (some ⟨J, 0, none⟩)] w0 (ListEnd (StO W b P K M J B) W b s x y (elM v a (s.data.toList.drop x) z)) := by
  obtain ⟨ns, js⟩ := a
  obtain ⟨G, hG⟩ : ∃ G, elM v (ns, js) (s.data.toList.drop x) z = G := ⟨_, rfl⟩
  rw [hG]
  unfold elM member at hG
  rw [hskip] at hG
  simp only at hG hn0
  have HLEN : Hid (ns.length = js.length) := Lib.hid hL0.2.2.2
  have hT0 : TabsJ w0 := hT.but hL0.1.1 hb8 h8
  have hqa := quoted_any w0 b s x y z hP0 hT0.1 hT0.2.2 hb8 hx (by omega)
  have cP0 : w0.cell? ⟨P, 0, none⟩ = some (.pointer (some ⟨b, 0, none⟩)) := by rw [Lib.cell_of_heap hL0.1.2.2.2.2.2.1]; rfl
  have HT := Lib.hid hT
  have HV0 := Lib.hid hV0
  have HL0 := Lib.hid hL0
  clear hT hV0 hL0 hP0 hT0 hskip
  go_enter Tryz.func184, Tryz.ntmps184
  go_wp2_with fail
  refine hqa.mono ?_
  intro e w1 h1
  clear hqa cP0
  cases hq : quoted (s.data.toList.drop x) with
  | none =>
    rw [hq] at h1 hG
    obtain ⟨rfl, hb1⟩ := h1
    have HG : Hid (G = .error 4) := Lib.hid hG.symm
    have HB1 := Lib.hid (HL0.out.1.1.trans hb1)
    clear hq hb1 hG
    go_wp2_with fail
    rw [HG.out]
    exact ⟨rfl, rfl, HB1.out⟩
  | some p =>
    obtain ⟨t, r0⟩ := p
    rw [hq] at h1 hG
    obtain ⟨k1, hk1, hk1s, hr0, rfl, hP1, hb1⟩ := h1
    simp only at hG
    have htl : t.length ≤ 4 * s.size := by
      have := quoted_few hq
      rw [List.length_drop, ← Lib.size_eq] at this; omega
    have HL1 := Lib.hid (HL0.out.but hb1 hbW hKb hMb)
    have HP1 := Lib.hid hP1
    have cK1 : w1.cell? ⟨K, 0, none⟩ = some (.map (some M)) := by rw [Lib.cell_of_heap HL1.out.2.2.1]; rfl
    have hadd := add_any M ns t w1 HL1.out.2.1 (by omega) (by omega)
    have HR0 := Lib.hid hr0
    have HG := Lib.hid hG
    clear hq hb1 hP1 hr0 hG
    cases hc : ns.contains t with
    | true =>
      rw [hc] at hadd
      have HG1 : Hid (G = .error 6) := Lib.hid (by have := HG.out; rw [if_pos hc] at this; exact this.symm)
      clear hc
      unfold bl at hadd ⊢
      generalize (⟨t.toArray⟩ : ByteArray) = Q at hadd ⊢
      go_wp2_with fail
      refine hadd.mono ?_
      rintro e w2 ⟨rfl, _, hb2⟩
      have HB2 := Lib.hid (HL1.out.1.1.outside hb2 hMW)
      clear hb2 hadd cK1
      go_wp2_with fail
      rw [HG1.out]
      exact ⟨rfl, rfl, HB2.out⟩
    | false =>
      rw [hc] at hadd
      have HC := Lib.hid hc
      clear hc
      obtain ⟨Q, hQ⟩ : ∃ Q : ByteArray, (⟨t.toArray⟩ : ByteArray) = Q := ⟨_, rfl⟩
      have HQ : Hid (bl t = .string Q) := Lib.hid (by unfold bl; rw [hQ])
      rw [HQ.out] at hadd ⊢
      clear hQ
      go_wp2_with fail
      refine hadd.mono ?_
      rintro e w2 ⟨rfl, hM2, hb2⟩
      have HL2 : Hid (LstAt W b P J B 7 ns js w2) := Lib.hid (HL1.out.1.outside hb2 hMW hMP hMJ hMB)
      have HM2 := Lib.hid hM2
      have HK2 : Hid (w2.heap[K]? = some (.cells #[.map (some M)] 127 (0, 0))) := Lib.hid ((hb2.block K (Array.getElem?_eq_some_iff.1 HL1.out.2.2.1).1 hKM).trans HL1.out.2.2.1)
      have HP2 := Lib.hid (HP1.out.outside hb2 (fun e => hMb e.symm))
      have cP2 : w2.cell? ⟨P, 0, none⟩ = some (.pointer (some ⟨b, 0, none⟩)) := by rw [Lib.cell_of_heap HL2.out.2.2.2.2.2.1]; rfl
      clear hb2 hadd cK1 hM2
      go_wp2_with fail
      refine (blanks_any w2 b s k1 y z HP2.out hk1s (by omega)).mono ?_
      rintro e w3 ⟨k3, hk3, hk3s, rfl, hP3, hb3, hd3⟩
      have HL3 := Lib.hid (HL2.out.but hb3 hbW)
      have HM3 := Lib.hid (HM2.out.heap (hb3.block M HM2.out.lt hMb))
      have HK3 : Hid (w3.heap[K]? = some (.cells #[.map (some M)] 127 (0, 0))) := Lib.hid ((hb3.block K (Array.getElem?_eq_some_iff.1 HK2.out).1 hKb).trans HK2.out)
      have HP3 := Lib.hid hP3
      have HD3 : Hid (skip r0 = s.data.toList.drop k3) := Lib.hid (by rw [HR0.out]; exact hd3)
      have cP3 : w3.cell? ⟨P, 0, none⟩ = some (.pointer (some ⟨b, 0, none⟩)) := by rw [Lib.cell_of_heap HL3.out.2.2.2.2.2.1]; rfl
      clear hP3 hb3 hd3 cP2
      by_cases h58 : ∃ r1, s.data.toList.drop k3 = 58 :: r1
      · obtain ⟨r1, hr1⟩ := h58
        have hk3l : k3 + 1 ≤ s.size := by have := (drop_cons hr1).1; rw [← Lib.size_eq] at this; omega
        have HG2 : Hid ((match v (s.data.toList.drop (k3 + 1)) z with | .error e => .error e | .ok (j, r, n2) => .ok ((ns ++ [t], js ++ [j]), r, n2) : Got (List (List UInt8) × List Json.J)) = G) := Lib.hid (by
          rw [← HG.out, HC.out, if_neg (by decide), HD3.out, hr1, ← (drop_cons hr1).2.2]
          simp only
          cases v r1 z with
          | error e => rfl
          | ok p => rfl)
        have hnd := need_yes w3 b s k3 y z 58 r1 HP3.out (by omega) hr1
        clear hr1 HG HD3
        go_wp2_with fail
        refine hnd.mono ?_
        rintro e w4 ⟨rfl, hP4, hb4⟩
        have HL4 := Lib.hid (HL3.out.but hb4 hbW)
        have HM4 := Lib.hid (HM3.out.heap (hb4.block M HM3.out.lt hMb))
        have HK4 : Hid (w4.heap[K]? = some (.cells #[.map (some M)] 127 (0, 0))) := Lib.hid ((hb4.block K (Array.getElem?_eq_some_iff.1 HK3.out).1 hKb).trans HK3.out)
        have HP4 := Lib.hid hP4
        clear hP4 hb4 hnd cP3
        obtain ⟨hbut, hWP, hPJ, hJB, hBw, hhP, nv, lv, xs, hhJ, hown1, hown2, hjs⟩ := HL4.out
        have cJ2 : w4.cell? ⟨J, 2, none⟩ = some nv := by rw [Lib.cell_of_heap hhJ]; rfl
        have fJ2 : w4.frozen? ⟨J, 2, none⟩ = false := Lib.frozen_of_heap hhJ 2
        obtain ⟨i9, ni, nz0, nz1, nz2⟩ := info_parts info9
        have HNM := Lib.hid (fun (v' : Value) (w2 : World) (o : Obj) h1 h2 h3 => LstAt.name (w2 := w2) (v' := v') (t := t) (o := o) hbut hWP hPJ hJB hBw hbW hhP hhJ hown1 hown2 hjs h1 h2 h3)
        have HOW := Lib.hid (own_but hown1 (But.of (b := b) (galloc (Below.refl w4.heap.size w4) (.cells #[.string Q] 9))) (by have := hbut.size; omega))
        have hJ4 : J < w4.heap.size := by omega
        have HJR : Hid (some J ≠ nv.ownBlock) := Lib.hid (fun e => by have := (hown1.lt J e.symm).1; omega)
        have HHJ := Lib.hid hhJ
        have hb4 : b < w4.heap.size := by have := hbut.size; omega
        have HbR : Hid (some b ≠ nv.ownBlock) := Lib.hid (fun e => by have := (hown1.lt b e.symm).1; have := hbut.size; omega)
        have HMs : Hid (∀ i, i < B → some i ≠ nv.ownBlock) := Lib.hid (fun i hi e => by have := (hown1.lt i e.symm).1; omega)
        clear hbut hhP hhJ hown1 hown2 hjs
        rw [HQ.out] at HNM
        go_wp2_with (at_builtin; refine wpList_append_own_at _ rfl _ _ 44 rfl B 9 i9 (.string ⟨#[]⟩) 1 16 u44 ni nz0 nz1 nz2 rfl (by decide) _ _ _ rfl HOW.out ⟨w4.heap.size, 0, none⟩ 1 1 [.string Q] rfl rfl (cell_one_new _ _ _) (by intro u hu; simp at hu; subst hu; rfl) (by unfold maxLen; omega) (by omega) (by simp; omega) ?_)
        intro v' w5 hown' hgrow hnil hloc
        obtain ⟨po5, co5, rfl⟩ := LstAt.form hown'
        have cJ5 : w5.cell? ⟨J, 2, none⟩ = some nv := by rw [Lib.cell_of_heap (((hgrow.block J (by simp; omega) HJR.out).trans ((galloc (Below.refl w4.heap.size w4) _).block J hJ4)).trans HHJ.out)]; rfl
        have fJ5 : w5.frozen? ⟨J, 2, none⟩ = false := Lib.frozen_of_heap (((hgrow.block J (by simp; omega) HJR.out).trans ((galloc (Below.refl w4.heap.size w4) _).block J hJ4)).trans HHJ.out) 2
        obtain ⟨hL6, HF6⟩ := HNM.out _ w5 _ hgrow hown' hloc
        have HL6 := Lib.hid hL6
        clear hL6
        have HP6 : Hid (PAt (w5.setCell ⟨J, 2, none⟩ (.slice po5 (ns.length + 1) co5)) b s (k3 + 1) y z) := Lib.hid (PAt.other (W := w5) (((hgrow.block b (by simp; omega) HbR.out).trans ((galloc (Below.refl w4.heap.size w4) _).block b hb4)).trans HP4.out) (by omega))
        have HM6 := Lib.hid (HM4.out.heap (HF6 M hMB hMJ))
        have HK6 := Lib.hid ((HF6 K hKB hKJ).trans HK4.out)
        clear hgrow hown' hloc hnil HF6 HNM HOW HHJ HJR HbR
        go_wp2_with fail
        clear cJ2 fJ2 cJ5 fJ5 hJ4 hb4
        generalize w5.setCell ⟨J, 2, none⟩ (.slice po5 (ns.length + 1) co5) = wq at *
        obtain ⟨kq, hkq⟩ : ∃ kq, k3 + 1 = kq := ⟨_, rfl⟩
        rw [hkq] at HP6 HP4 hk3l HG2
        have hL := HL6.out
        have hP := HP6.out
        have hn : js.length < 1000000 := by have := HLEN.out; omega
        have hT : TabsJ wq := HT.out.but hL.1 hb8 h8
        have hq8 : 8 ≤ wq.heap.size := by have := hL.1.size; omega
        have hVq := fun w hw ht => HV0.out kq z w hk3l hw ht (by have := hw.lt; omega)
        cases hvv : v (s.data.toList.drop kq) z with
        | error c =>
          rw [hvv] at HG2 hVq
          have HG3 : Hid (G = .error c) := Lib.hid HG2.out.symm
          have hV := hVq
          rw [HG3.out]
          obtain ⟨j, hj0⟩ : ∃ j, Json.J.zero = j := ⟨_, rfl⟩
          obtain ⟨r, hr0⟩ : ∃ r, ([] : List UInt8) = r := ⟨_, rfl⟩
          obtain ⟨n2, hn0⟩ : ∃ n2, 0 = n2 := ⟨_, rfl⟩
          clear hj0 hr0 hn0
          have fake : Hid False → ∀ w, Calls Tryz.prog 93 #[.pointer (some ⟨b, 0, none⟩)] w (ValEnd w b s kq y (.ok (j, r, n2))) := fun h => h.out.elim
          clear HG2 HG3 hVq HL6 HP6 HM6 HK6 hvv HT HV0 HL0 HL1 HP1 HL2 HM2 HK2 HP2 HL3 HM3 HK3 HP3 HL4 HM4 HK4 HP4 HQ HC HR0 HMs HLEN hKJ hKM hMJ hMP hMb hKb hMB hKB hMW ni nz0 nz1 nz2 hWP hPJ hJB hBw hn0 hkq hk3l hk3s hk3 hk1s hk1 htl hx h8 hz
          have h8 := hq8
          clear hq8
          obtain ⟨hbut, hWP, hPJ, hJB, hBw, hhP, nv2, lv, xs, hhJ, hown1, hown2, hjs⟩ := hL
          have cP : wq.cell? ⟨P, 0, none⟩ = some (.pointer (some ⟨b, 0, none⟩)) := by rw [Lib.cell_of_heap hhP]; rfl
          have cJ : wq.cell? ⟨J, 3, none⟩ = some lv := by rw [Lib.cell_of_heap hhJ]; rfl
          have fJ : wq.frozen? ⟨J, 3, none⟩ = false := Lib.frozen_of_heap hhJ 3
          obtain ⟨i47, hi, hz0, hz1, hz2⟩ := info_parts info47
          obtain ⟨po, co, rfl⟩ := LstAt.form hown2
          have hblt := hP.lt
          have hJlt : J < wq.heap.size := by omega
          have hPlt : P < wq.heap.size := by omega
          have hbB0 : b < B := by omega
          have hPb : P ≠ b := fun e => by rw [e] at hhP; rw [hP] at hhP; cases hhP
          have hJb : J ≠ b := fun e => by rw [e] at hhJ; rw [hP] at hhJ; cases hhJ
          have hP8 : TabsJ wq := hT
          obtain ⟨o, ho⟩ : ∃ o, Obj.cells #[.int .u8 0, .string ⟨#[]⟩, .slice none 0 0, .slice none 0 0] 47 = o := ⟨_, rfl⟩
          have hbA : Below wq.heap.size wq wq.drew := (Below.refl wq.heap.size wq).drew
          have hbB : Below wq.heap.size wq ((wq.alloc o).drew) := ((Below.refl wq.heap.size wq).alloc (Nat.le_refl _) o).drew
          have hJA : J < wq.drew.heap.size := hJlt
          have hJB2 : J < ((wq.alloc o).drew).heap.size := Nat.lt_of_lt_of_le hJlt hbB.size
          have hPA : P < wq.drew.heap.size := hPlt
          have hPB2 : P < ((wq.alloc o).drew).heap.size := Nat.lt_of_lt_of_le hPlt hbB.size
          have dJA : wq.drew.cell? ⟨J, 3, none⟩ = some (.slice po js.length co) := (hbA.cell (p := ⟨J, 3, none⟩) hJlt).trans cJ
          have dJB : ((wq.alloc o).drew).cell? ⟨J, 3, none⟩ = some (.slice po js.length co) := (hbB.cell (p := ⟨J, 3, none⟩) hJlt).trans cJ
          have dPB : ((wq.alloc o).drew).cell? ⟨P, 0, none⟩ = some (.pointer (some ⟨b, 0, none⟩)) := (hbB.cell (p := ⟨P, 0, none⟩) hPlt).trans cP
          have Wf1 : ∀ {w1}, But b wq.drew w1 → (w1.alloc o).ownsRow B 47 4 (.slice po js.length co) js.length xs := fun h => own_but hown2 (((But.of hbA).trans h).trans (But.of (galloc (Below.refl _ _) o))) (by omega)
          have Wf2 : ∀ {w1}, But b ((wq.alloc o).drew) w1 → w1.ownsRow B 47 4 (.slice po js.length co) js.length xs := fun h => own_but hown2 ((But.of hbB).trans h) (by omega)
          have hxl : xs.length = js.length * 4 := hown2.1
          have hJrow : some J ≠ (Value.slice po js.length co).ownBlock := fun e => by have := (hown2.lt J e.symm).1; omega
          have Jf1 : ∀ {w1}, But b wq.drew w1 → JFar J #[.int .u8 7, .string ⟨#[]⟩, nv2, .slice po js.length co] (Value.slice po js.length co).ownBlock (w1.alloc o) := fun h => ⟨((((But.of hbA).trans h).trans (But.of (galloc (Below.refl _ _) o))).block J hJlt hJb).trans hhJ, hJrow⟩
          have Jf2 : ∀ {w1}, But b ((wq.alloc o).drew) w1 → JFar J #[.int .u8 7, .string ⟨#[]⟩, nv2, .slice po js.length co] (Value.slice po js.length co).ownBlock w1 := fun h => ⟨(((But.of hbB).trans h).block J hJlt hJb).trans hhJ, hJrow⟩
          have Nf1 : ∀ w1 : World, ∀ (j : Nat) u, zeroL[j]? = some u → (w1.alloc o).cell? ((⟨w1.heap.size, 0, none⟩ : Addr).add j) = some u := fun w1 => zero_news (by rw [← ho]; exact heap_alloc_new w1 _)
          have Nf2 : ∀ {w1}, But b ((wq.alloc o).drew) w1 → ∀ (j : Nat) u, zeroL[j]? = some u → w1.cell? ((⟨wq.heap.size, 0, none⟩ : Addr).add j) = some u := fun h => zero_news ((h.block wq.heap.size (by simp) (by omega)).trans (by rw [← ho]; exact heap_alloc_new wq _))
          have Sf1 : ∀ {w1}, But b wq.drew w1 → B ≤ (w1.alloc o).heap.size := fun h => by have := h.size; simp at this ⊢; omega
          have Sf2 : ∀ {w1}, But b ((wq.alloc o).drew) w1 → B ≤ w1.heap.size := fun h => by have := h.size; simp at this ⊢; omega
          have Ff1 : ∀ {w1}, But b wq.drew w1 → But b W w1 := fun h => hbut.trans ((But.of hbA).trans h)
          have Ff2 : ∀ {w1}, But b ((wq.alloc o).drew) w1 → But b W w1 := fun h => hbut.trans ((But.of hbB).trans h)
          have Bf1 : ∀ {w1}, But b wq.drew w1 → But b wq (w1.alloc o) := fun h => ((But.of hbA).trans h).trans (But.of (galloc (Below.refl _ _) o))
          have Bf2 : ∀ {w1}, But b ((wq.alloc o).drew) w1 → But b wq w1 := fun h => (But.of hbB).trans h
          have Ef1 : ∀ {w1 : World} {four}, But b wq.drew w1 → JAt (fun g => wq.drew.heap.size ≤ g) w1 j four → JAt (fun g => wq.heap.size ≤ g) (w1.alloc o) j four := fun {w1} {_} _ h => JAt.world ⟨by simp, fun i hi _ => (galloc (Below.refl w1.heap.size w1) o).block i hi⟩ j _ h
          have Ef2 : ∀ {w1 : World} {four}, But b ((wq.alloc o).drew) w1 → JAt (fun g => ((wq.alloc o).drew).heap.size ≤ g) w1 j four → JAt (fun g => wq.heap.size ≤ g) w1 j four := fun _ h => JAt.mono (fun i _ hi => by simp at hi; omega) j _ h
          have HHP := Lib.hid hhP
          have HHJ := Lib.hid hhJ
          have HJS := Lib.hid hjs
          have HO2 := Lib.hid hown2
          have HO1 := Lib.hid hown1
          have HB := Lib.hid hbut
          have HBA := Lib.hid hbA
          have HBB := Lib.hid hbB
          have HP := Lib.hid hP
          have HPA := Lib.hid (hP.below hbA)
          have HPB := Lib.hid (hP.below hbB)
          have HTA : Hid (TabsJ wq.drew) := Lib.hid (hT.but (But.of hbA) hb8 h8)
          have HTB : Hid (TabsJ ((wq.alloc o).drew)) := Lib.hid (hT.but (But.of hbB) hb8 h8)
          clear hbut hjs hown1 hown2 hP hT hP8 hbA hbB
          have hm1 : js.length + 1 ≤ maxLen := by unfold maxLen; omega
          have hm2 : (js.length + 1) * 72 ≤ 140737488355328 := by omega
          have hidx : (js.length : Int) < (js.length : Int) + 1 := by omega
          go_region_law (first
            | (refine step_append_lies _ (by rfl) _ _ _ (by rfl) B 47 i47 (.agg #[.int .u8 0, .string ⟨#[]⟩, .slice none 0 0, .slice none 0 0]) 4 72 u45 hi hz0 hz1 hz2 rfl (by decide) (.slice po js.length co) js.length xs (by rfl) HW.out ⟨w1.heap.size, 0, none⟩ 1 1 zeroL (by rfl) rfl HN.out zero_one (by decide) hm1 hm2 HS.out _ rfl ?_; intro g1 cap1 w2 hown3 hgrow hat hlt1; obtain ⟨d0, d1, d2, d3, df⟩ := own_four hown3 hxl; have hne1 := own_far hown3 hJB; have cJ2 := cell_grown hgrow HO3.out; have fJ2 := froz_grown hgrow HO3.out; have HM := Lib.hid (Mid.mk' HB.out hWP hPJ hJB hBw hbW HHP.out HHJ.out HO1.out HO2.out HJS.out HBX.out HPX.out HJX.out hgrow hown3 hat))
            | (refine step_append_lies _ (by rfl) _ _ _ (by rfl) B 47 i47 (.agg #[.int .u8 0, .string ⟨#[]⟩, .slice none 0 0, .slice none 0 0]) 4 72 u45 hi hz0 hz1 hz2 rfl (by decide) (.slice po js.length co) js.length xs (by rfl) HW.out ⟨wq.heap.size, 0, none⟩ 1 1 zeroL (by rfl) rfl HN.out zero_one (by decide) hm1 hm2 HS.out _ rfl ?_; intro g1 cap1 w2 hown3 hgrow hat hlt1; obtain ⟨d0, d1, d2, d3, df⟩ := own_four hown3 hxl; have hne1 := own_far hown3 hJB; have cJ2 := cell_grown hgrow HO3.out; have fJ2 := froz_grown hgrow HO3.out; have HM := Lib.hid (Mid.mk' HB.out hWP hPJ hJB hBw hbW HHP.out HHJ.out HO1.out HO2.out HJS.out HBX.out HPX.out HJX.out hgrow hown3 hat))
            | (go_simp; go_at_call 93; with_reducible (refine calls_or (hV wq.drew HPA.out HTA.out) ?_ ?_); (· intro e w1 he; obtain ⟨rfl, hb1⟩ := bad_of he; exact bp_bad4 (Ff1 hb1) _); intro HF; with_reducible (refine Calls.mono (fake HF wq.drew) ?_); intro e w1 he; obtain ⟨k, kd, tx, pc, nc, cc, pd, nd, cd, hxk, hks, hr, rfl, hjv, hP1, hb1⟩ := val_ok he; have cJ1 := cell_but hb1 hJA hJb dJA; have HW := Lib.hid (Wf1 hb1); have HO3 := Lib.hid (Jf1 hb1); have cJ1b := cellJ HO3.out;  have HN := Lib.hid (Nf1 w1); have HS := Lib.hid (Sf1 hb1); have HBX := Lib.hid (Bf1 hb1); have HPX : Hid (PAt (w1.alloc o) b s k y n2) := Lib.hid (hP1.below (galloc (Below.refl _ _) o)); have HJX := Lib.hid (Ef1 hb1 hjv))
            | (go_simp; (try rw [ho]); go_at_call 93; with_reducible (refine calls_or (hV ((wq.alloc o).drew) HPB.out HTB.out) ?_ ?_); (· intro e w1 he; obtain ⟨rfl, hb1⟩ := bad_of he; exact bp_bad4 (Ff2 hb1) _); intro HF; with_reducible (refine Calls.mono (fake HF ((wq.alloc o).drew)) ?_); intro e w1 he; obtain ⟨k, kd, tx, pc, nc, cc, pd, nd, cd, hxk, hks, hr, rfl, hjv, hP1, hb1⟩ := val_ok he; have cJ1 := cell_but hb1 hJB2 hJb dJB; have HW := Lib.hid (Wf2 hb1); have HO3 := Lib.hid (Jf2 hb1);  have HN := Lib.hid (Nf2 hb1); have HS := Lib.hid (Sf2 hb1); have HBX := Lib.hid (Bf2 hb1); have HPX := Lib.hid hP1; have HJX := Lib.hid (Ef2 hb1 hjv)))
          all_goals exact HF.out.elim
        | ok p =>
          obtain ⟨j, r, n2⟩ := p
          rw [hvv] at HG2 hVq
          have hV := hVq
          have HEND : Hid (∀ (k : Nat) (wz : World), kq ≤ k → k ≤ s.size → r = s.data.toList.drop k → (PAt wz b s k y n2 ∧ LstAt W b P J B 7 (ns ++ [t]) (js ++ [j]) wz ∧ ∀ i, i < B → i ≠ b → i ≠ J → wz.heap[i]? = wq.heap[i]?) → ListEnd (StO W b P K M J B) W b s x y G (.returned NoVal) wz) := Lib.hid (fun k wz h1 h2 h3 h4 => by
            rw [← HG2.out]
            exact ⟨k, by omega, h2, h3, rfl, h4.1, h4.2.1, HM6.out.heap (h4.2.2 M hMB hMb hMJ), (h4.2.2 K hKB hKb hKJ).trans HK6.out, by simp; exact HLEN.out⟩)
          clear HG2 hVq HL6 HP6 HM6 HK6 hvv HT HV0 HL0 HL1 HP1 HL2 HM2 HK2 HP2 HL3 HM3 HK3 HP3 HL4 HM4 HK4 HP4 HQ HC HR0 HMs HLEN hKJ hKM hMJ hMP hMb hKb hMB hKB hMW ni nz0 nz1 nz2 hWP hPJ hJB hBw hn0 hkq hk3l hk3s hk3 hk1s hk1 htl hx h8 hz
          have h8 := hq8
          clear hq8
          obtain ⟨hbut, hWP, hPJ, hJB, hBw, hhP, nv2, lv, xs, hhJ, hown1, hown2, hjs⟩ := hL
          have cP : wq.cell? ⟨P, 0, none⟩ = some (.pointer (some ⟨b, 0, none⟩)) := by rw [Lib.cell_of_heap hhP]; rfl
          have cJ : wq.cell? ⟨J, 3, none⟩ = some lv := by rw [Lib.cell_of_heap hhJ]; rfl
          have fJ : wq.frozen? ⟨J, 3, none⟩ = false := Lib.frozen_of_heap hhJ 3
          obtain ⟨i47, hi, hz0, hz1, hz2⟩ := info_parts info47
          obtain ⟨po, co, rfl⟩ := LstAt.form hown2
          have hblt := hP.lt
          have hJlt : J < wq.heap.size := by omega
          have hPlt : P < wq.heap.size := by omega
          have hbB0 : b < B := by omega
          have hPb : P ≠ b := fun e => by rw [e] at hhP; rw [hP] at hhP; cases hhP
          have hJb : J ≠ b := fun e => by rw [e] at hhJ; rw [hP] at hhJ; cases hhJ
          have hP8 : TabsJ wq := hT
          obtain ⟨o, ho⟩ : ∃ o, Obj.cells #[.int .u8 0, .string ⟨#[]⟩, .slice none 0 0, .slice none 0 0] 47 = o := ⟨_, rfl⟩
          have hbA : Below wq.heap.size wq wq.drew := (Below.refl wq.heap.size wq).drew
          have hbB : Below wq.heap.size wq ((wq.alloc o).drew) := ((Below.refl wq.heap.size wq).alloc (Nat.le_refl _) o).drew
          have hJA : J < wq.drew.heap.size := hJlt
          have hJB2 : J < ((wq.alloc o).drew).heap.size := Nat.lt_of_lt_of_le hJlt hbB.size
          have hPA : P < wq.drew.heap.size := hPlt
          have hPB2 : P < ((wq.alloc o).drew).heap.size := Nat.lt_of_lt_of_le hPlt hbB.size
          have dJA : wq.drew.cell? ⟨J, 3, none⟩ = some (.slice po js.length co) := (hbA.cell (p := ⟨J, 3, none⟩) hJlt).trans cJ
          have dJB : ((wq.alloc o).drew).cell? ⟨J, 3, none⟩ = some (.slice po js.length co) := (hbB.cell (p := ⟨J, 3, none⟩) hJlt).trans cJ
          have dPB : ((wq.alloc o).drew).cell? ⟨P, 0, none⟩ = some (.pointer (some ⟨b, 0, none⟩)) := (hbB.cell (p := ⟨P, 0, none⟩) hPlt).trans cP
          have Wf1 : ∀ {w1}, But b wq.drew w1 → (w1.alloc o).ownsRow B 47 4 (.slice po js.length co) js.length xs := fun h => own_but hown2 (((But.of hbA).trans h).trans (But.of (galloc (Below.refl _ _) o))) (by omega)
          have Wf2 : ∀ {w1}, But b ((wq.alloc o).drew) w1 → w1.ownsRow B 47 4 (.slice po js.length co) js.length xs := fun h => own_but hown2 ((But.of hbB).trans h) (by omega)
          have hxl : xs.length = js.length * 4 := hown2.1
          have hJrow : some J ≠ (Value.slice po js.length co).ownBlock := fun e => by have := (hown2.lt J e.symm).1; omega
          have Jf1 : ∀ {w1}, But b wq.drew w1 → JFar J #[.int .u8 7, .string ⟨#[]⟩, nv2, .slice po js.length co] (Value.slice po js.length co).ownBlock (w1.alloc o) := fun h => ⟨((((But.of hbA).trans h).trans (But.of (galloc (Below.refl _ _) o))).block J hJlt hJb).trans hhJ, hJrow⟩
          have Jf2 : ∀ {w1}, But b ((wq.alloc o).drew) w1 → JFar J #[.int .u8 7, .string ⟨#[]⟩, nv2, .slice po js.length co] (Value.slice po js.length co).ownBlock w1 := fun h => ⟨(((But.of hbB).trans h).block J hJlt hJb).trans hhJ, hJrow⟩
          have Nf1 : ∀ w1 : World, ∀ (j : Nat) u, zeroL[j]? = some u → (w1.alloc o).cell? ((⟨w1.heap.size, 0, none⟩ : Addr).add j) = some u := fun w1 => zero_news (by rw [← ho]; exact heap_alloc_new w1 _)
          have Nf2 : ∀ {w1}, But b ((wq.alloc o).drew) w1 → ∀ (j : Nat) u, zeroL[j]? = some u → w1.cell? ((⟨wq.heap.size, 0, none⟩ : Addr).add j) = some u := fun h => zero_news ((h.block wq.heap.size (by simp) (by omega)).trans (by rw [← ho]; exact heap_alloc_new wq _))
          have Sf1 : ∀ {w1}, But b wq.drew w1 → B ≤ (w1.alloc o).heap.size := fun h => by have := h.size; simp at this ⊢; omega
          have Sf2 : ∀ {w1}, But b ((wq.alloc o).drew) w1 → B ≤ w1.heap.size := fun h => by have := h.size; simp at this ⊢; omega
          have Bf1 : ∀ {w1}, But b wq.drew w1 → But b wq (w1.alloc o) := fun h => ((But.of hbA).trans h).trans (But.of (galloc (Below.refl _ _) o))
          have Bf2 : ∀ {w1}, But b ((wq.alloc o).drew) w1 → But b wq w1 := fun h => (But.of hbB).trans h
          have Ef1 : ∀ {w1 : World} {four}, But b wq.drew w1 → JAt (fun g => wq.drew.heap.size ≤ g) w1 j four → JAt (fun g => wq.heap.size ≤ g) (w1.alloc o) j four := fun {w1} {_} _ h => JAt.world ⟨by simp, fun i hi _ => (galloc (Below.refl w1.heap.size w1) o).block i hi⟩ j _ h
          have Ef2 : ∀ {w1 : World} {four}, But b ((wq.alloc o).drew) w1 → JAt (fun g => ((wq.alloc o).drew).heap.size ≤ g) w1 j four → JAt (fun g => wq.heap.size ≤ g) w1 j four := fun _ h => JAt.mono (fun i _ hi => by simp at hi; omega) j _ h
          have HHP := Lib.hid hhP
          have HHJ := Lib.hid hhJ
          have HJS := Lib.hid hjs
          have HO2 := Lib.hid hown2
          have HO1 := Lib.hid hown1
          have HB := Lib.hid hbut
          have HBA := Lib.hid hbA
          have HBB := Lib.hid hbB
          have HP := Lib.hid hP
          have HPA := Lib.hid (hP.below hbA)
          have HPB := Lib.hid (hP.below hbB)
          have HTA : Hid (TabsJ wq.drew) := Lib.hid (hT.but (But.of hbA) hb8 h8)
          have HTB : Hid (TabsJ ((wq.alloc o).drew)) := Lib.hid (hT.but (But.of hbB) hb8 h8)
          clear hbut hjs hown1 hown2 hP hT hP8 hbA hbB
          have hm1 : js.length + 1 ≤ maxLen := by unfold maxLen; omega
          have hm2 : (js.length + 1) * 72 ≤ 140737488355328 := by omega
          have hidx : (js.length : Int) < (js.length : Int) + 1 := by omega
          go_region_law (first
            | (refine step_append_lies _ (by rfl) _ _ _ (by rfl) B 47 i47 (.agg #[.int .u8 0, .string ⟨#[]⟩, .slice none 0 0, .slice none 0 0]) 4 72 u45 hi hz0 hz1 hz2 rfl (by decide) (.slice po js.length co) js.length xs (by rfl) HW.out ⟨w1.heap.size, 0, none⟩ 1 1 zeroL (by rfl) rfl HN.out zero_one (by decide) hm1 hm2 HS.out _ rfl ?_; intro g1 cap1 w2 hown3 hgrow hat hlt1; obtain ⟨d0, d1, d2, d3, df⟩ := own_four hown3 hxl; have hne1 := own_far hown3 hJB; have cJ2 := cell_grown hgrow HO3.out; have fJ2 := froz_grown hgrow HO3.out; have HM := Lib.hid (Mid.mk' HB.out hWP hPJ hJB hBw hbW HHP.out HHJ.out HO1.out HO2.out HJS.out HBX.out HPX.out HJX.out hgrow hown3 hat))
            | (refine step_append_lies _ (by rfl) _ _ _ (by rfl) B 47 i47 (.agg #[.int .u8 0, .string ⟨#[]⟩, .slice none 0 0, .slice none 0 0]) 4 72 u45 hi hz0 hz1 hz2 rfl (by decide) (.slice po js.length co) js.length xs (by rfl) HW.out ⟨wq.heap.size, 0, none⟩ 1 1 zeroL (by rfl) rfl HN.out zero_one (by decide) hm1 hm2 HS.out _ rfl ?_; intro g1 cap1 w2 hown3 hgrow hat hlt1; obtain ⟨d0, d1, d2, d3, df⟩ := own_four hown3 hxl; have hne1 := own_far hown3 hJB; have cJ2 := cell_grown hgrow HO3.out; have fJ2 := froz_grown hgrow HO3.out; have HM := Lib.hid (Mid.mk' HB.out hWP hPJ hJB hBw hbW HHP.out HHJ.out HO1.out HO2.out HJS.out HBX.out HPX.out HJX.out hgrow hown3 hat))
            | (go_simp; go_at_call 93; with_reducible (refine Calls.mono (hV wq.drew HPA.out HTA.out) ?_); intro e w1 he; obtain ⟨k, kd, tx, pc, nc, cc, pd, nd, cd, hxk, hks, hr, rfl, hjv, hP1, hb1⟩ := val_ok he; have cJ1 := cell_but hb1 hJA hJb dJA; have HW := Lib.hid (Wf1 hb1); have HO3 := Lib.hid (Jf1 hb1); have cJ1b := cellJ HO3.out;  have HN := Lib.hid (Nf1 w1); have HS := Lib.hid (Sf1 hb1); have HBX := Lib.hid (Bf1 hb1); have HPX : Hid (PAt (w1.alloc o) b s k y n2) := Lib.hid (hP1.below (galloc (Below.refl _ _) o)); have HJX := Lib.hid (Ef1 hb1 hjv))
            | (go_simp; (try rw [ho]); go_at_call 93; with_reducible (refine Calls.mono (hV ((wq.alloc o).drew) HPB.out HTB.out) ?_); intro e w1 he; obtain ⟨k, kd, tx, pc, nc, cc, pd, nd, cd, hxk, hks, hr, rfl, hjv, hP1, hb1⟩ := val_ok he; have cJ1 := cell_but hb1 hJB2 hJb dJB; have HW := Lib.hid (Wf2 hb1); have HO3 := Lib.hid (Jf2 hb1);  have HN := Lib.hid (Nf2 hb1); have HS := Lib.hid (Sf2 hb1); have HBX := Lib.hid (Bf2 hb1); have HPX := Lib.hid hP1; have HJX := Lib.hid (Ef2 hb1 hjv)))
          all_goals go_end0
          all_goals (clear hV Wf1 Wf2 Nf1 Nf2 Sf1 Sf2 Jf1 Jf2 Bf1 Bf2 Ef1 Ef2)
          all_goals first
            | (have hz := ((((HM.out.setg (js.length * 4) (.int .u8 kd)).setg (js.length * 4 + 1) (.string tx)).setg (js.length * 4 + 2) (.slice pc nc cc)).setg (js.length * 4 + 3) (.slice pd nd cd)).setJ (.slice (some ⟨g1, 0, none⟩) (js.length + 1) cap1); unfold zeroL at hz; rw [set_four hxl] at hz; have he := hz.end; clear hz; refine HEND.out _ _ hxk hks hr ?_; with_reducible exact he)
            | (have hz := ((((HM.out.setJ (.slice (some ⟨g1, 0, none⟩) (js.length + 1) cap1)).setg (js.length * 4) (.int .u8 kd)).setg (js.length * 4 + 1) (.string tx)).setg (js.length * 4 + 2) (.slice pc nc cc)).setg (js.length * 4 + 3) (.slice pd nd cd); unfold zeroL at hz; rw [set_four hxl] at hz; have he := hz.end; clear hz; refine HEND.out _ _ hxk hks hr ?_; with_reducible exact he)
      · have HG2 : Hid (G = .error 4) := Lib.hid (by
          rw [← HG.out, HC.out, if_neg (by decide), HD3.out]
          split
          · rename_i h1
            split at h1
            · rename_i r1 hr1; exact absurd ⟨r1, hr1⟩ h58
            · cases h1; rfl
          · rename_i h1
            split at h1
            · rename_i r1 hr1; exact absurd ⟨r1, hr1⟩ h58
            · cases h1)
        have hnd := need_no w3 b s k3 y z 58 HP3.out hk3s (fun r1 hr1 => h58 ⟨r1, hr1⟩)
        clear h58 HG HD3
        go_wp2_with fail
        refine hnd.mono ?_
        rintro e w4 ⟨rfl, hb4⟩
        have HB4 := Lib.hid (HL3.out.1.trans hb4)
        clear hb4 hnd
        go_wp2_with fail
        rw [HG2.out]
        exact ⟨rfl, rfl, HB4.out⟩
end Go.Proofs.YtgcpgieojckheaaGreatDoor.Json
