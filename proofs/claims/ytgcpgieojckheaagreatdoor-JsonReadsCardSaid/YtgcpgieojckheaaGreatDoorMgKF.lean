/-
  The reference's list, of an Object.
-/
import Derived.Test.YtgcpgieojckheaaGreatDoorMgKE
namespace Go.Proofs.YtgcpgieojckheaaGreatDoor.Json
open Go.RowKit Go.Shelf Go.Maps

theorem und44 : Tryz.prog.underlying 44 = some (.slice 9) := u44
/-- A row of names that has grown by one. -/
theorem names_snoc {b B : Nat} {nv lv v' : Value} {ns : List (List UInt8)} {js : List Json.J} {t : List UInt8} {xs : List Value} {w w2 : World} {o : Obj}
    (hown1 : w.ownsRow B 9 1 nv ns.length (ns.map bl)) (hown2 : w.ownsRow B 47 4 lv js.length xs) (hjs : JsAt (fun g => B ≤ g ∧ lv.ownBlock ≠ some g ∧ nv.ownBlock ≠ some g) w js xs) (hbB : b < B)
    (hgrow : (w.alloc o).grownBy w2 nv.ownBlock) (_hown3 : w2.ownsRow B 9 1 v' (ns.length + 1) (ns.map bl ++ [bl t])) (hat : v'.ownBlock = nv.ownBlock ∨ v'.ownBlock = some (w.heap.size + 1)) :
    w2.ownsRow B 47 4 lv js.length xs ∧ JsAt (fun g => B ≤ g ∧ lv.ownBlock ≠ some g ∧ v'.ownBlock ≠ some g) w2 js xs := by
  have hbl := hown2.lt
  have hnl := hown1.lt
  have hb0 := galloc (Below.refl w.heap.size w) o
  have hs0 : (w.alloc o).heap.size = w.heap.size + 1 := by simp
  have hkind : ∀ i, nv.ownBlock = some i → lv.ownBlock ≠ some i := fun i h1 h2 => by
    obtain ⟨c1, f1, e1⟩ := own_kind hown1 i h1
    obtain ⟨c2, f2, e2⟩ := own_kind hown2 i h2
    rw [e1] at e2; injection e2 with e2; cases e2
  have hl3 : w2.ownsRow B 47 4 lv js.length xs := (own_but hown2 (But.of (b := b) hb0) hbB).kept hgrow (by
    cases hq : lv.ownBlock with
    | none => exact .inl rfl
    | some i => exact .inr (fun e => hkind i e.symm hq))
  refine ⟨hl3, ?_⟩
  refine JsAt.mono (S := fun i => (B ≤ i ∧ lv.ownBlock ≠ some i ∧ nv.ownBlock ≠ some i) ∧ v'.ownBlock ≠ some i) (fun i _ h => ⟨h.1.1, h.1.2.1, h.2⟩) js xs ?_
  refine JsAt.world (W := w) ⟨by have := hgrow.size; omega, fun i hi h => (hgrow.block i (by omega) (fun e => h.1.2.2 e.symm)).trans (hb0.block i hi)⟩ js xs (JsAt.mono (fun i hi h => ⟨h, fun e => ?_⟩) js xs hjs)
  rcases hat with h' | h'
  · exact h.2.2 (by rw [← h']; exact e)
  · rw [h'] at e
    have := Option.some.inj e
    omega
/-- The error behind the look for a name among the first i ones. -/
def eN (e0 : Int) (ns : List (List UInt8)) (t : List UInt8) (i : Nat) : Int := if e0 ≠ 0 then e0 else if (ns.take i).contains t then 6 else 0
theorem eN_hit {e0 : Int} {ns : List (List UInt8)} {t : List UInt8} {i : Nat} (h : ns[i]? = some t) : (if eN e0 ns t i = 0 then 6 else eN e0 ns t i) = eN e0 ns t (i + 1) := by
  have e : (ns.take (i + 1)).contains t = true := by
    rw [List.take_add_one, h]; simp
  unfold eN
  rw [e]
  by_cases h0 : e0 = 0
  · simp only [h0]
    by_cases hc : (ns.take i).contains t = true <;> simp
  · simp [h0]
theorem eN_miss {e0 : Int} {ns : List (List UInt8)} {t u : List UInt8} {i : Nat} (h : ns[i]? = some u) (hu : u ≠ t) : eN e0 ns t (i + 1) = eN e0 ns t i := by
  have e : (ns.take (i + 1)).contains t = (ns.take i).contains t := by
    rw [List.take_add_one, h]
    simp only [Option.toList_some, List.contains_eq_any_beq, List.any_append, List.any_cons, List.any_nil, Bool.or_false]
    have : (t == u) = false := beq_eq_false_iff_ne.2 fun e => hu e.symm
    rw [this, Bool.or_false]
  unfold eN
  rw [e]
theorem name_cell {w : World} {B g cap n : Nat} {ns : List (List UInt8)} (h : w.ownsRow B 9 1 (.slice (some ⟨g, 0, none⟩) n cap) n (ns.map bl)) {i : Nat} {u : List UInt8} (hu : ns[i]? = some u) : w.cell? ⟨g, i, none⟩ = some (bl u) := by
  have := World.ownsRow.cells h rfl i (bl u) (by rw [List.getElem?_map, hu]; rfl)
  have e : (⟨g, 0, none⟩ : Addr).add i = ⟨g, i, none⟩ := by unfold Addr.add; split <;> simp_all
  rw [e] at this
  exact this
/-- What an Object's list ends in. -/
def RObj (W : World) (b : Nat) (s : ByteArray) (x : Nat) : Got (List (List UInt8) × List J) → Ending → World → Prop
  | .ok ((ns, js), r, n), e, w' => ∃ (k : Nat) (pc : Option Addr) (cc : Nat) (pd : Option Addr) (cd : Nat), x ≤ k ∧ k ≤ s.size ∧ r = s.data.toList.drop k ∧ e = .returned (.tuple #[.slice pc ns.length cc, .slice pd js.length cd]) ∧ SlIn (fun g => W.heap.size ≤ g) w' (.slice pc ns.length cc) 1 ns.length (ns.map bl) ∧ RRow (fun g => W.heap.size ≤ g) w' js (.slice pd js.length cd) ∧ RAt w' b s k n 0 ∧ But b W w'
  | .error c, e, w' => c ≠ 0 ∧ ∃ (k n : Nat), e = .returned (.tuple #[.slice none 0 0, .slice none 0 0]) ∧ RAt w' b s k n c ∧ But b W w'
/-- What a value ends in where something went wrong ahead of it. -/
def RBad (w : World) (b : Nat) (s : ByteArray) (k : Nat) (c : Int) (e : Ending) (w' : World) : Prop :=
  ∃ (kd : Nat) (tx : ByteArray) (pc : Option Addr) (nc cc : Nat) (pd : Option Addr) (nd cd n2 : Nat), e = .returned (.agg #[.int .u8 kd, .string tx, .slice pc nc cc, .slice pd nd cd]) ∧ RAt w' b s k n2 c ∧ But b w w'
/-- The rows so far. -/
def ORows (B : Nat) (ns : List (List UInt8)) (js : List Json.J) (nv lv : Value) (w : World) : Prop := w.ownsRow B 9 1 nv ns.length (ns.map bl) ∧ ∃ xs, w.ownsRow B 47 4 lv js.length xs ∧ JsAt (fun g => B ≤ g ∧ lv.ownBlock ≠ some g ∧ nv.ownBlock ≠ some g) w js xs
theorem ORows.but {b B : Nat} {ns : List (List UInt8)} {js : List Json.J} {nv lv : Value} {w w' : World} (h : ORows B ns js nv lv w) (hb : But b w w') (hB : b < B) : ORows B ns js nv lv w' := by
  obtain ⟨h1, xs, h2, h3⟩ := h
  exact ⟨own_but h1 hb hB, xs, own_but h2 hb hB, JsAt.world ⟨hb.size, fun i hi h => hb.block i hi (by have := h.1; omega)⟩ js xs h3⟩
/-- The loop's state. -/
def OInv (el : List (List UInt8) × List J → List UInt8 → Nat → Got (List (List UInt8) × List J)) (W : World) (b B : Nat) (s : ByteArray) (G : Got (List (List UInt8) × List J)) (k n : Nat) (ns : List (List UInt8)) (js : List J) (nv lv : Value) (wr : World) : Prop :=
  RAt wr b s k n 0 ∧ ORows B ns js nv lv wr ∧ But b W wr ∧ B ≤ wr.heap.size ∧ G = thenL el 125 (el (ns, js) (s.data.toList.drop k) n) ∧ ns.length = js.length ∧ js.length ≤ k ∧ n ≤ 65536
set_option maxRecDepth 100000 in
set_option maxHeartbeats 32000000 in
theorem rlist_obj {v : Val} (W : World) (b : Nat) (s : ByteArray) (x n dp : Nat) (h : RAt W b s x n 0) (b8 : 8 ≤ b) (hx : x ≤ s.size) (hz : s.size ≤ 30000) (hn : n ≤ 65536) (hdp : dp ≤ 1000) (hv : Uses v) (hs : ∀ l n, v (skip l) n = v l n)
    (hvn : ∀ l n j r n2, v l n = .ok (j, r, n2) → n2 ≤ 65536)
    (hV : ∀ x n w, x ≤ s.size → n ≤ 65536 → skip (s.data.toList.drop x) = s.data.toList.drop x → RAt w b s x n 0 → Calls Tryz.prog 69 #[.pointer (some ⟨b, 0, none⟩), .int .i64 ((dp + 1 : Nat) : Int)] w (RVal w b s x (v (s.data.toList.drop x) n)))
    (hVE : ∀ k n c w, c ≠ 0 → n ≤ 65536 → RAt w b s k n c → Calls Tryz.prog 69 #[.pointer (some ⟨b, 0, none⟩), .int .i64 ((dp + 1 : Nat) : Int)] w (RBad w b s k c)) :
    Calls Tryz.prog 108 #[.pointer (some ⟨b, 0, none⟩), .int .i64 dp, .string ⟨#[125]⟩, .bool true] W (RObj W b s x (listL (elM v) 125 ([], []) (s.data.toList.drop x) n)) := by
  have hblt := h.lt
  obtain ⟨G, hG⟩ : ∃ G, listL (elM v) 125 ([], []) (s.data.toList.drop x) n = G := ⟨_, rfl⟩
  rw [hG]
  obtain ⟨d1, hd1⟩ : ∃ d1, dp + 1 = d1 := ⟨_, rfl⟩
  rw [hd1] at hV hVE
  have hwd : IntKind.i64.wrap ((dp : Int) + 1) = (d1 : Int) := by rw [IntWalk.i64_in _ (by omega)]; omega
  obtain ⟨i47, hi, hz0, hz1, hz2⟩ := info_parts info47
  obtain ⟨i9, ni, nz0, nz1, nz2⟩ := info_parts info9
  have HG := Lib.hid hG
  have HV := Lib.hid hV
  have HVE := Lib.hid hVE
  have HP := Lib.hid h
  have HU := Lib.hid (elM_uses hv)
  have HVS := Lib.hid hs
  have HVN := Lib.hid hvn
  clear hG hV h hv hs hvn hd1 hVE
  go_enter Tryz.func108, Tryz.ntmps108
  go_wp2_with fail
  refine (rblanks_any W b s x n HP.out hx (by omega)).mono ?_
  rintro e w1 ⟨k1, hk1, hk1s, rfl, hP1, hb1, hd1⟩
  have HP1 := Lib.hid hP1
  have HB1 := Lib.hid hb1
  have HD1 := Lib.hid hd1
  clear hP1 hb1 hd1
  by_cases hq : ∃ r, s.data.toList.drop k1 = 125 :: r
  · obtain ⟨r, hr⟩ := hq
    have hdc := drop_cons hr
    have hk2 : k1 + 1 ≤ s.size := by have := hdc.1; rw [← Lib.size_eq] at this; omega
    have HG2 : Hid (G = .ok (([], []), s.data.toList.drop (k1 + 1), n)) := Lib.hid (by rw [← HG.out, listL_shut (by rw [HD1.out]; exact hr), hdc.2.2])
    have ht := rtake_yes w1 b s [125] k1 n r HP1.out (by omega) (by simp) hr hk1s
    clear hr hdc
    go_wp2_with fail
    refine ht.mono ?_
    rintro e w2 ⟨rfl, hP2, hb2⟩
    have HP2 := Lib.hid hP2
    have HB2 := Lib.hid (HB1.out.trans hb2)
    clear hP2 hb2 ht
    go_wp2
    go_ret2
    rw [HG2.out]
    exact ⟨k1 + 1, none, 0, none, 0, by omega, hk2, rfl, rfl, SlIn.nil _ _ _, ⟨[], SlIn.nil _ _ _, by unfold JsAt; rfl⟩, HP2.out, HB2.out⟩
  · have HG2 : Hid (G = thenL (elM v) 125 (elM v ([], []) (s.data.toList.drop k1) n)) := Lib.hid (by rw [← HG.out, listL_el (by rw [HD1.out]; exact fun r e => hq ⟨r, e⟩), HD1.out])
    have ht := rtake_no w1 b s [125] k1 n HP1.out hk1s (by omega) (by simp) (fun r e => hq ⟨r, e⟩)
    clear hq
    go_wp2_with fail
    refine ht.mono ?_
    rintro e w2 ⟨rfl, hb2⟩
    have HI : Hid (OInv (elM v) W b W.heap.size s G k1 n [] [] (.slice none 0 0) (.slice none 0 0) w2) := Lib.hid ⟨HP1.out.below hb2, ⟨World.ownsRow_nil _ _ _ _, [], World.ownsRow_nil _ _ _ _, by unfold JsAt; rfl⟩, HB1.out.trans (But.of hb2), by have := HB1.out.size; have := hb2.size; omega, HG2.out, rfl, by simp, hn⟩
    clear hb2 ht HG2 HG
    go_wp2_with fail
    go_loopw [10, 11] (fun nv lv wr => (∃ (k n : Nat) (ns : List (List UInt8)) (js : List J) (pc : Option Addr) (cc : Nat) (pd : Option Addr) (cd : Nat), nv = .slice pc ns.length cc ∧ lv = .slice pd js.length cd ∧ x ≤ k ∧ k ≤ s.size ∧ Hid (OInv (elM v) W b W.heap.size s G k n ns js (.slice pc ns.length cc) (.slice pd js.length cd) wr)) ∨ (∃ (k n : Nat) (c : Int), c ≠ 0 ∧ Hid (RAt wr b s k n c ∧ But b W wr ∧ G = .error c))) (fun _ _ wr => rleft b s wr)
    case atStart => exact .inl ⟨k1, n, [], [], none, 0, none, 0, rfl, rfl, hk1, hk1s, HI⟩
    case round =>
      rcases hrel with ⟨k, n, ns, js, pc, cc, pd, cd, rfl, rfl, hxk, hk, HK⟩ | ⟨k, n, c, hc, HK⟩
      · obtain ⟨p0, p1, p2, p3, pf⟩ := HK.out.1.cells
        have hjl := HK.out.2.2.2.2.2.2.1
        have hnn := HK.out.2.2.2.2.2.2.2
        have HNJ := Lib.hid HK.out.2.2.2.2.2.1
        have hnl : ns.length ≤ k := by have := HNJ.out; omega
        go_wp2_with fail
        refine (rblanks_any wr b s k n HK.out.1 hk (by omega)).mono ?_
        rintro e w3 ⟨k3, hk3, hk3s, rfl, hP3, hb3, hd3⟩
        have HP3 := Lib.hid hP3
        have HB3 := Lib.hid (HK.out.2.2.1.trans hb3)
        have HR3 := Lib.hid (HK.out.2.1.but hb3 hblt)
        have hsk3 : skip (s.data.toList.drop k3) = s.data.toList.drop k3 := by rw [← hd3, skip_skip]
        have HG3 : Hid (G = thenL (elM v) 125 (elM v (ns, js) (s.data.toList.drop k3) n)) := Lib.hid (by rw [HK.out.2.2.2.2.1, ← hd3, elM_skip])
        have hstr := rstr_any w3 b s k3 n hP3 b8 hk3s hz
        have HSK := Lib.hid hsk3
        clear hP3 hb3 hd3 hsk3 p0 p1 p2 p3 pf
        go_wp2_with fail
        refine hstr.mono ?_
        intro e w4 h4
        clear hstr
        obtain ⟨E0, k4, Q, t, rfl, HQ, HP4, hb4, HGA, HGB⟩ : ∃ (E0 : Int) (k4 : Nat) (Q : ByteArray) (t : List UInt8), e = .returned (.string Q) ∧ Hid (bl t = .string Q) ∧ Hid (RAt w4 b s k4 n E0) ∧ But b w3 w4 ∧
            Hid (E0 ≠ 0 → G = .error E0) ∧ Hid (E0 = 0 → k3 ≤ k4 ∧ k4 ≤ s.size ∧ k3 < k4 ∧ quoted (s.data.toList.drop k3) = some (t, s.data.toList.drop k4)) := by
          cases hq : quoted (s.data.toList.drop k3) with
          | none =>
            rw [hq] at h4
            obtain ⟨k4, Q, rfl, hP4, hb4⟩ := h4
            refine ⟨4, k4, Q, Q.data.toList, rfl, Lib.hid rfl, Lib.hid hP4, hb4, Lib.hid fun _ => ?_, Lib.hid fun h => absurd h (by decide)⟩
            rw [HG3.out]; unfold elM member; rw [HSK.out, hq]; rfl
          | some p =>
            obtain ⟨t, r⟩ := p
            rw [hq] at h4
            obtain ⟨k4, hk4, hk4s, hr, rfl, hP4, hb4⟩ := h4
            refine ⟨0, k4, ⟨t.toArray⟩, t, rfl, Lib.hid rfl, Lib.hid hP4, hb4, Lib.hid fun h => absurd rfl h, Lib.hid fun _ => ⟨hk4, hk4s, ?_, by rw [hr]⟩⟩
            have := quoted_len hq
            rw [hr, List.length_drop, List.length_drop, ← Lib.size_eq] at this
            omega
        have HB4 := Lib.hid (HB3.out.trans hb4)
        have HR4 := Lib.hid (HR3.out.but hb4 hblt)
        have HTQ : Hid (∀ u, ((⟨u.toArray⟩ : ByteArray).toList == Q.toList) = (u == t)) := Lib.hid fun u => by
          have h1 : (⟨t.toArray⟩ : ByteArray) = Q := by have := HQ.out; unfold bl at this; injection this
          rw [← h1, Lib.toList_data, Lib.toList_data]
        clear hb4 h4
        go_wp2_with fail
        go_loopw [13] (fun iv wr => ∃ i : Nat, i ≤ ns.length ∧ iv = .int .i64 i ∧ Hid (RAt wr b s k4 n (eN E0 ns t i)) ∧ Hid (But b w4 wr)) (fun iv _ => ns.length - (intOf iv).toNat)
        case atStart =>
          refine ⟨0, by omega, rfl, Lib.hid ?_, Lib.hid (But.refl _ _)⟩
          have : eN E0 ns t 0 = E0 := by
            unfold eN
            by_cases h : E0 = 0 <;> simp [h]
          rw [this]; exact HP4.out
        case round =>
          obtain ⟨i, hil, rfl, HPI, HBI⟩ := hrel
          rcases Nat.lt_or_ge i ns.length with hlt | hge
          · have hlt' : (i : Int) < (ns.length : Int) := by omega
            have hwi : IntKind.i64.wrap ((i : Int) + 1) = ((i + 1 : Nat) : Int) := by rw [IntWalk.i64_in _ (by omega)]; omega
            have hui : ns[i]? = some (ns[i]'hlt) := List.getElem?_eq_getElem hlt
            have hown := own_but HR4.out.1 HBI.out hblt
            obtain ⟨g, hg⟩ : ∃ g, pc = some ⟨g, 0, none⟩ := by
              rcases hown.2 with ⟨h1, h2⟩ | ⟨g, cap, cur, h1, _⟩
              · omega
              · cases h1; exact ⟨g, rfl⟩
            subst hg
            have hcell := name_cell hown hui
            by_cases he : ns[i]'hlt = t
            · have HE := Lib.hid (eN_hit (e0 := E0) (ns := ns) (t := t) (i := i) (by rw [hui, he]))
              have hcmp := HTQ.out (ns[i]'hlt)
              rw [he, beq_self_eq_true] at hcmp
              rw [he] at hcell
              unfold bl at hcell
              generalize (⟨t.toArray⟩ : ByteArray) = QI at hcell hcmp
              clear he hui hown
              go_wp2_with fail
              refine (fail_any wr b s k4 n (eN E0 ns t i) 6 HPI.out).mono ?_
              rintro e w5 ⟨rfl, hP5, hb5⟩
              rw [HE.out] at hP5
              have HP5 := Lib.hid hP5
              have HB5 := Lib.hid (HBI.out.trans hb5)
              clear hP5 hb5
              go_wp2
              exact ⟨⟨i + 1, by omega, rfl, HP5, HB5⟩, by simp [intOf]; omega⟩
            · have HE := Lib.hid (eN_miss (e0 := E0) (ns := ns) (t := t) (i := i) hui he)
              have hcmp := HTQ.out (ns[i]'hlt)
              rw [beq_eq_false_iff_ne.2 he] at hcmp
              unfold bl at hcell
              generalize (⟨(ns[i]'hlt).toArray⟩ : ByteArray) = QI at hcell hcmp
              clear he hui hown
              go_wp2
              exact ⟨⟨i + 1, by omega, rfl, Lib.hid (by rw [HE.out]; exact HPI.out), HBI⟩, by simp [intOf]; omega⟩
          · obtain rfl : i = ns.length := by omega
            have hlt' : ¬ (ns.length : Int) < (ns.length : Int) := by omega
            have HB5 := Lib.hid (HB4.out.trans HBI.out)
            have HR5 := Lib.hid (HR4.out.but HBI.out hblt)
            have hs5 : W.heap.size ≤ wr.heap.size := HB5.out.size
            obtain ⟨EE, hEE⟩ : ∃ EE, eN E0 ns t ns.length = EE := ⟨_, rfl⟩
            rw [hEE] at HPI
            have HGC : Hid (EE ≠ 0 → G = .error EE) := Lib.hid fun h => by
              rw [← hEE] at h ⊢
              unfold eN at h ⊢
              by_cases h0 : E0 = 0
              · rw [if_neg (fun h => h h0)] at h ⊢
                rw [List.take_length] at h ⊢
                by_cases hcn : ns.contains t = true
                · rw [if_pos hcn]
                  rw [HG3.out]; unfold elM member; rw [HSK.out, (HGB.out h0).2.2.2]
                  simp only
                  rw [if_pos hcn]; rfl
                · rw [if_neg hcn] at h; exact absurd rfl h
              · rw [if_pos h0]; exact HGA.out h0
            have HGD : Hid (EE = 0 → E0 = 0 ∧ ns.contains t = false) := Lib.hid fun h => by
              rw [← hEE] at h
              unfold eN at h
              by_cases h0 : E0 = 0
              · refine ⟨h0, ?_⟩
                rw [if_neg (fun h => h h0), List.take_length] at h
                cases hcn : ns.contains t with
                | false => rfl
                | true => rw [hcn] at h; exact absurd h (by decide)
              · rw [if_pos h0] at h; exact absurd h h0
            clear hEE
            have hoN := own_but HR5.out.1 (But.of (b := b) (galloc (Below.refl wr.heap.size wr) (.cells #[.string Q] 9))) hblt
            have hrowN : Hid (∀ g, (Value.slice pc ns.length cc).ownBlock = some g → W.heap.size ≤ g) := Lib.hid (fun g hg => (HR5.out.1.lt g hg).1)
            go_wp2_with (at_builtin; refine wpList_append_own_at _ rfl _ _ 44 rfl W.heap.size 9 i9 (.string ⟨#[]⟩) 1 16 und44 ni nz0 nz1 nz2 rfl (by decide) _ _ _ rfl hoN ⟨wr.heap.size, 0, none⟩ 1 1 [.string Q] rfl rfl (cell_one_new _ _ _) (by intro u hu; simp at hu; subst hu; rfl) (by unfold maxLen; omega) (by omega) (by simp; omega) ?_)
            intro v' w5 hown' hgrow hnil hloc
            obtain ⟨pf, cf, rfl⟩ := LstAt.form hown'
            have HP6 : Hid (RAt w5 b s k4 n EE) := Lib.hid ((hgrow.block b (by simp; have := HPI.out.lt; omega) (fun e => by have := hrowN.out b e.symm; omega)).trans (HPI.out.below (galloc (Below.refl _ _) _)))
            have HB6 := Lib.hid ((HB5.out.trans (But.of (galloc (Below.refl wr.heap.size wr) _))).grownB hgrow hrowN.out)
            have HR6 : Hid (ORows W.heap.size (ns ++ [t]) js (.slice pf (ns.length + 1) cf) (.slice pd js.length cd) w5) := Lib.hid (by
              obtain ⟨h1, xs, h2, h3⟩ := HR5.out
              rw [← HQ.out] at hown'
              obtain ⟨g1, g2⟩ := names_snoc (b := b) (t := t) h1 h2 h3 hblt hgrow hown' hloc
              exact ⟨by rw [List.length_append, List.map_append]; exact hown', xs, g1, g2⟩)
            clear hown' hgrow hnil hloc hoN
            by_cases hEE : EE = 0
            · subst hEE
              obtain ⟨h0, hcn⟩ := HGD.out rfl
              obtain ⟨hk4, hk4s, hk34, hqt⟩ := HGB.out h0
              have HG4 : Hid (G = thenL (elM v) 125 (match (match skip (s.data.toList.drop k4) with
                  | 58 :: r1 => (match v r1 n with | .error e => .error e | .ok (j, r, n2) => .ok ((t, j), r, n2))
                  | _ => .error 4 : Got (List UInt8 × J)) with | .error e => .error e | .ok ((name, j), r, n2) => .ok ((ns ++ [name], js ++ [j]), r, n2))) := Lib.hid (by
                rw [HG3.out]; unfold elM member; rw [HSK.out, hqt]
                simp only
                rw [if_neg (by rw [hcn]; decide)]; rfl)
              clear HGC HGD HGA HGB h0 hcn hqt
              go_wp2_with fail
              refine (rblanks_any w5 b s k4 n HP6.out hk4s (by omega)).mono ?_
              rintro e w6 ⟨k6, hk6, hk6s, rfl, hP6, hb6, hd6⟩
              have HP7 := Lib.hid hP6
              have HB7 := Lib.hid (HB6.out.trans hb6)
              have HR7 := Lib.hid (HR6.out.but hb6 hblt)
              have HD6 := Lib.hid hd6
              clear hP6 hb6 hd6
              by_cases hq : ∃ r, s.data.toList.drop k6 = 58 :: r
              · obtain ⟨r, hr⟩ := hq
                have hdc := drop_cons hr
                have hk7 : k6 + 1 ≤ s.size := by have := hdc.1; rw [← Lib.size_eq] at this; omega
                have HG5 : Hid (G = thenL (elM v) 125 (match v (s.data.toList.drop (k6 + 1)) n with | .error e => .error e | .ok (j, r, n2) => .ok ((ns ++ [t], js ++ [j]), r, n2))) := Lib.hid (by
                  rw [HG4.out, HD6.out, hr, ← hdc.2.2]
                  simp only
                  cases v r n with
                  | error e => rfl
                  | ok p => rfl)
                have ht := rtake_yes w6 b s [58] k6 n r HP7.out (by omega) (by simp) hr hk6s
                clear hr hdc HG4
                go_wp2_with fail
                refine ht.mono ?_
                rintro e w7 ⟨rfl, hP7, hb7⟩
                have HP8 := Lib.hid hP7
                have HB8 := Lib.hid (HB7.out.trans hb7)
                have HR8 := Lib.hid (HR7.out.but hb7 hblt)
                clear hP7 hb7 ht
                go_wp2_with fail
                refine (rblanks_any w7 b s (k6 + 1) n HP8.out hk7 (by omega)).mono ?_
                rintro e w8 ⟨k8, hk8, hk8s, rfl, hP8, hb8, hd8⟩
                have HP9 := Lib.hid hP8
                have HB9 := Lib.hid (HB8.out.trans hb8)
                have HR9 := Lib.hid (HR8.out.but hb8 hblt)
                have hsk8 : skip (s.data.toList.drop k8) = s.data.toList.drop k8 := by rw [← hd8, skip_skip]
                have HG6 : Hid (G = thenL (elM v) 125 (match v (s.data.toList.drop k8) n with | .error e => .error e | .ok (j, r, n2) => .ok ((ns ++ [t], js ++ [j]), r, n2))) := Lib.hid (by rw [HG5.out, ← hd8, HVS.out])
                have hval := HV.out k8 n w8 hk8s hnn hsk8 hP8
                clear hP8 hb8 hd8 hsk8 HG5
                go_wp2_with fail
                refine hval.mono ?_
                intro e w9 h9
                clear hval
                cases hE : v (s.data.toList.drop k8) n with
                | error c =>
                  rw [hE] at h9
                  obtain ⟨hc, kA, nA, kd, tx, pg, ng, cg, pe, ne, ce, rfl, hPA, hbA⟩ := h9
                  have HGE : Hid (G = .error c) := Lib.hid (by rw [HG6.out, hE]; rfl)
                  have HPA := Lib.hid hPA
                  have HBA := Lib.hid (HB9.out.trans hbA)
                  have HRA := Lib.hid (HR9.out.but hbA hblt)
                  have hsA : W.heap.size ≤ w9.heap.size := HBA.out.size
                  clear hE hPA hbA HG6
                  obtain ⟨hownZ, xsZ, hown2Z, _⟩ := HRA.out
                  have hoZ := own_but hown2Z (But.of (b := b) (galloc (Below.refl w9.heap.size w9) (.cells #[.int .u8 kd, .string tx, .slice pg ng cg, .slice pe ne ce] 47))) hblt
                  have hrowZ : Hid (∀ g, (Value.slice pd js.length cd).ownBlock = some g → W.heap.size ≤ g) := Lib.hid (fun g hg => (hown2Z.lt g hg).1)
                  have hsZ : W.heap.size ≤ w9.heap.size := HBA.out.size
                  clear hownZ hown2Z
                  go_wp2_with (at_builtin; refine wpList_append_own_at _ rfl _ _ 45 rfl W.heap.size 47 i47 (.agg #[.int .u8 0, .string ⟨#[]⟩, .slice none 0 0, .slice none 0 0]) 4 72 und45 hi hz0 hz1 hz2 rfl (by decide) _ _ _ rfl hoZ ⟨w9.heap.size, 0, none⟩ 1 1 [.int .u8 kd, .string tx, .slice pg ng cg, .slice pe ne ce] rfl rfl (World.news_of_block (heap_alloc_new w9 _)) (by intro u hu; simp at hu; rcases hu with rfl | rfl | rfl | rfl <;> rfl) (by unfold maxLen; omega) (by omega) (by simp; omega) ?_)
                  intro v' wZ hown' hgrow hnil hloc
                  have HPZ : Hid (RAt wZ b s kA nA c) := Lib.hid ((hgrow.block b (by simp; have := HPA.out.lt; omega) (fun e => by have := hrowZ.out b e.symm; omega)).trans (HPA.out.below (galloc (Below.refl _ _) _)))
                  have HBZ := Lib.hid ((HBA.out.trans (But.of (galloc (Below.refl w9.heap.size w9) _))).grownB hgrow hrowZ.out)
                  clear hown' hgrow hnil hloc hoZ
                  go_wp2_with fail
                  refine (rblanks_err wZ b s kA nA c HPZ.out hc).mono ?_
                  rintro e wY ⟨rfl, hPY, hbY⟩
                  have HPY := Lib.hid hPY
                  have HBY := Lib.hid (HBZ.out.trans hbY)
                  clear hPY hbY
                  go_wp2_with fail
                  refine (take_err wY b s ⟨#[125]⟩ kA nA c HPY.out hc).mono ?_
                  rintro e wX ⟨rfl, hbX⟩
                  have HPX := Lib.hid (HPY.out.below hbX)
                  have HBX := Lib.hid (HBY.out.trans (But.of hbX))
                  clear hbX
                  go_wp2_with fail
                  refine (take_err wX b s ⟨#[44]⟩ kA nA c HPX.out hc).mono ?_
                  rintro e wV ⟨rfl, hbV⟩
                  have HPV := Lib.hid (HPX.out.below hbV)
                  have HBV := Lib.hid (HBX.out.trans (But.of hbV))
                  clear hbV
                  go_wp2_with fail
                  refine (fail_any wV b s kA nA c 4 HPV.out).mono ?_
                  rintro e wU ⟨rfl, hPU, hbU⟩
                  rw [if_neg hc] at hPU
                  have HPU := Lib.hid hPU
                  have HBU := Lib.hid (HBV.out.trans hbU)
                  clear hPU hbU
                  go_wp2
                  exact ⟨.inr ⟨kA, nA, c, hc, Lib.hid ⟨HPU.out, HBU.out, HGE.out⟩⟩, by rw [rleft_bad HPU.out hc, rleft_at HK.out.1]; omega⟩
                | ok p =>
                  obtain ⟨j, rA, nA⟩ := p
                  rw [hE] at h9
                  obtain ⟨kA, va, hkA, hkAs, hrA, rfl, ⟨qa, qb, qc, qd, rfl, hjA⟩, hPA, hbA⟩ := h9
                  have hnA : nA ≤ 65536 := HVN.out _ _ _ _ _ hE
                  have HGA2 : Hid (G = restA (elM v) 125 (ns ++ [t], js ++ [j]) (s.data.toList.drop kA) nA) := Lib.hid (by rw [HG6.out, hE, ← hrA]; rfl)
                  have HPA := Lib.hid hPA
                  obtain ⟨hown1, xs, hown, hjs⟩ := HR9.out
                  have hsz9 : W.heap.size ≤ w8.heap.size := HB9.out.size
                  have hszA : W.heap.size ≤ w9.heap.size := by have := hbA.size; omega
                  have hoA := own_but (own_but hown hbA hblt) (But.of (b := b) (galloc (Below.refl w9.heap.size w9) (.cells #[qa, qb, qc, qd] 47))) hblt
                  have hrow : Hid (∀ g, (Value.slice pd js.length cd).ownBlock = some g → W.heap.size ≤ g) := Lib.hid (fun g hg => (hown.lt g hg).1)
                  have HSN := Lib.hid (fun (v' : Value) (w2 : World) h1 h2 h3 => rows_snoc (b := b) (nv := .slice pf (ns.length + 1) cf) (ns := ns ++ [t]) (w := w8) (wx := w9) (w2 := w2) (v' := v') (o := .cells #[qa, qb, qc, qd] 47) hown1 hown hjs hsz9 hblt hbA hjA h1 h2 h3)
                  have HBA := Lib.hid (HB9.out.trans hbA)
                  obtain ⟨f1, f2, f3, f4⟩ : qa.oneCell' = true ∧ qb.oneCell' = true ∧ qc.oneCell' = true ∧ qd.oneCell' = true := by
                    cases j with
                    | mk kk tt ns ls =>
                      unfold JAt at hjA
                      obtain ⟨c, d, vs, he, ⟨_, pc, cc, hc, _⟩, ⟨_, pd, cd, hd, _⟩, _⟩ := hjA
                      simp only [List.cons.injEq, and_true] at he
                      obtain ⟨rfl, rfl, rfl, rfl⟩ := he
                      subst hc hd
                      exact ⟨rfl, rfl, rfl, rfl⟩
                  have hone : ∀ u ∈ [qa, qb, qc, qd], u.oneCell' = true := by intro u hu; simp at hu; rcases hu with rfl | rfl | rfl | rfl <;> assumption
                  clear hE hPA hbA hown hown1 hjs HG6 hrA hjA f1 f2 f3 f4
                  go_wp2_with (at_builtin; refine wpList_append_own_at _ rfl _ _ 45 rfl W.heap.size 47 i47 (.agg #[.int .u8 0, .string ⟨#[]⟩, .slice none 0 0, .slice none 0 0]) 4 72 und45 hi hz0 hz1 hz2 rfl (by decide) _ _ _ rfl hoA ⟨w9.heap.size, 0, none⟩ 1 1 [qa, qb, qc, qd] rfl rfl (World.news_of_block (heap_alloc_new w9 _)) hone (by unfold maxLen; omega) (by omega) (by simp; omega) ?_)
                  intro v' wA hown' hgrow hnil hloc
                  obtain ⟨pe, ce, rfl⟩ := LstAt.form hown'
                  have HPB : Hid (RAt wA b s kA nA 0) := Lib.hid ((hgrow.block b (by simp; have := HPA.out.lt; omega) (fun e => by have := hrow.out b e.symm; omega)).trans (HPA.out.below (galloc (Below.refl _ _) _)))
                  have HBB := Lib.hid ((HBA.out.trans (But.of (galloc (Below.refl w9.heap.size w9) _))).grownB hgrow hrow.out)
                  have HRB : Hid (ORows W.heap.size (ns ++ [t]) (js ++ [j]) (.slice pf (ns.length + 1) cf) (.slice pe (js.length + 1) ce) wA) := Lib.hid (by
                    obtain ⟨g1, g2⟩ := HSN.out _ wA hgrow hown' hloc
                    exact ⟨g1, _, by rw [List.length_append]; exact hown', g2⟩)
                  clear hown' hgrow hnil hloc hoA HSN hone
                  go_wp2_with fail
                  refine (rblanks_any wA b s kA nA HPB.out hkAs (by omega)).mono ?_
                  rintro e wB ⟨kB, hkB, hkBs, rfl, hPC, hbC, hdC⟩
                  have HPC := Lib.hid hPC
                  have HBC := Lib.hid (HBB.out.trans hbC)
                  have HRC := Lib.hid (HRB.out.but hbC hblt)
                  have HDC := Lib.hid hdC
                  clear hPC hbC hdC
                  by_cases hq : ∃ r, s.data.toList.drop kB = 125 :: r
                  · obtain ⟨r, hr⟩ := hq
                    have hdc := drop_cons hr
                    have hkC : kB + 1 ≤ s.size := by have := hdc.1; rw [← Lib.size_eq] at this; omega
                    have HG7 : Hid (G = .ok ((ns ++ [t], js ++ [j]), s.data.toList.drop (kB + 1), nA)) := Lib.hid (by rw [HGA2.out, rest_shut (by decide) (by rw [HDC.out]; exact hr), hdc.2.2])
                    have ht := rtake_yes wB b s [125] kB nA r HPC.out (by omega) (by simp) hr hkBs
                    clear hr hdc HGA2
                    go_wp2_with fail
                    refine ht.mono ?_
                    rintro e wC ⟨rfl, hPD, hbD⟩
                    have HPD := Lib.hid hPD
                    have HBD := Lib.hid (HBC.out.trans hbD)
                    have HRD := Lib.hid (HRC.out.but hbD hblt)
                    clear hPD hbD ht
                    go_wp2
                    go_ret2
                    rw [HG7.out]
                    obtain ⟨g1, xs, g2, g3⟩ := HRD.out
                    refine ⟨kB + 1, pf, cf, pe, ce, by omega, hkC, rfl, by rw [List.length_append, List.length_append]; rfl, ?_, ?_, HPD.out, HBD.out⟩
                    · rw [List.length_append] at g1 ⊢; exact SlIn.of_owns g1 (fun g hg => (g1.lt g hg).1)
                    · rw [List.length_append]; exact rrow_of g2 g3
                  · have HQN := Lib.hid hq
                    have ht := rtake_no wB b s [125] kB nA HPC.out hkBs (by omega) (by simp) (fun r e => hq ⟨r, e⟩)
                    clear hq
                    go_wp2_with fail
                    refine ht.mono ?_
                    rintro e wC ⟨rfl, hbD⟩
                    have HPD := Lib.hid (HPC.out.below hbD)
                    have HBD := Lib.hid (HBC.out.trans (But.of hbD))
                    have HRD := Lib.hid (HRC.out.but (But.of hbD) hblt)
                    clear hbD ht
                    by_cases hq : ∃ r, s.data.toList.drop kB = 44 :: r
                    · obtain ⟨r, hr⟩ := hq
                      have hdc := drop_cons hr
                      have hkC : kB + 1 ≤ s.size := by have := hdc.1; rw [← Lib.size_eq] at this; omega
                      have HG7 : Hid (G = thenL (elM v) 125 (elM v (ns ++ [t], js ++ [j]) (s.data.toList.drop (kB + 1)) nA)) := Lib.hid (by rw [HGA2.out, rest_comma HU.out (by rw [HDC.out]; exact hr), hdc.2.2])
                      have ht := rtake_yes wC b s [44] kB nA r HPD.out (by omega) (by simp) hr hkBs
                      clear hr hdc HGA2 HQN
                      go_wp2_with fail
                      refine ht.mono ?_
                      rintro e wD ⟨rfl, hPE, hbE⟩
                      have HPE := Lib.hid hPE
                      have HIE : Hid (OInv (elM v) W b W.heap.size s G (kB + 1) nA (ns ++ [t]) (js ++ [j]) (.slice pf (ns ++ [t]).length cf) (.slice pe (js ++ [j]).length ce) wD) := Lib.hid ⟨hPE, by
                          have := HRD.out.but hbE hblt
                          rw [List.length_append, List.length_append]; exact this, HBD.out.trans hbE, by have := HBD.out.size; have := hbE.size; omega, HG7.out, by rw [List.length_append, List.length_append]; have := HNJ.out; simp; omega, by rw [List.length_append]; simp; omega, hnA⟩
                      have HLN : Hid (Value.slice pf (ns.length + 1) cf = .slice pf (ns ++ [t]).length cf) := Lib.hid (by rw [List.length_append]; rfl)
                      have HLJ : Hid (Value.slice pe (js.length + 1) ce = .slice pe (js ++ [j]).length ce) := Lib.hid (by rw [List.length_append]; rfl)
                      clear hPE hbE ht
                      go_wp2
                      exact ⟨.inl ⟨kB + 1, nA, ns ++ [t], js ++ [j], pf, cf, pe, ce, HLN.out, HLJ.out, by omega, hkC, HIE⟩, by rw [rleft_at HPE.out, rleft_at HK.out.1]; omega⟩
                    · have HG7 : Hid (G = .error 4) := Lib.hid (by rw [HGA2.out, rest_else (by rw [HDC.out]; exact fun r e => hq ⟨r, e⟩) (by rw [HDC.out]; exact fun r e => HQN.out ⟨r, e⟩)])
                      have ht := rtake_no wC b s [44] kB nA HPD.out hkBs (by omega) (by simp) (fun r e => hq ⟨r, e⟩)
                      clear hq HGA2 HQN
                      go_wp2_with fail
                      refine ht.mono ?_
                      rintro e wD ⟨rfl, hbE⟩
                      have HPE := Lib.hid (HPD.out.below hbE)
                      have HBE := Lib.hid (HBD.out.trans (But.of hbE))
                      clear hbE ht
                      go_wp2_with fail
                      refine (fail_any wD b s kB nA 0 4 HPE.out).mono ?_
                      rintro e wE ⟨rfl, hPF, hbF⟩
                      rw [if_pos rfl] at hPF
                      have HPF := Lib.hid hPF
                      have HBF := Lib.hid (HBE.out.trans hbF)
                      clear hPF hbF
                      go_wp2
                      exact ⟨.inr ⟨kB, nA, 4, by decide, Lib.hid ⟨HPF.out, HBF.out, HG7.out⟩⟩, by rw [rleft_bad HPF.out (by decide), rleft_at HK.out.1]; omega⟩
              · have HGE : Hid (G = .error 4) := Lib.hid (by
                  rw [HG4.out, HD6.out]
                  split
                  · rename_i h1
                    split at h1
                    · rename_i r hr; exact absurd ⟨r, hr⟩ hq
                    · cases h1; rfl
                  · rename_i h1
                    split at h1
                    · rename_i r hr; exact absurd ⟨r, hr⟩ hq
                    · cases h1)
                have ht := rtake_no w6 b s [58] k6 n HP7.out hk6s (by omega) (by simp) (fun r e => hq ⟨r, e⟩)
                clear hq HG4
                go_wp2_with fail
                refine ht.mono ?_
                rintro e w7 ⟨rfl, hb7⟩
                have HP8 := Lib.hid (HP7.out.below hb7)
                have HB8 := Lib.hid (HB7.out.trans (But.of hb7))
                have HR8 := Lib.hid (HR7.out.but (But.of hb7) hblt)
                clear hb7 ht
                go_wp2_with fail
                refine (fail_any w7 b s k6 n 0 4 HP8.out).mono ?_
                rintro e w8 ⟨rfl, hP9, hb9⟩
                rw [if_pos rfl] at hP9
                have HP9 := Lib.hid hP9
                have HB9 := Lib.hid (HB8.out.trans hb9)
                have HR9 := Lib.hid (HR8.out.but hb9 hblt)
                have hc4 : (4 : Int) ≠ 0 := by decide
                clear hP9 hb9
                go_wp2_with fail
                refine (rblanks_err w8 b s k6 n 4 HP9.out hc4).mono ?_
                rintro e wa ⟨rfl, hPa, hba⟩
                have HPa := Lib.hid hPa
                have HBa := Lib.hid (HB9.out.trans hba)
                have HRa := Lib.hid (HR9.out.but hba hblt)
                clear hPa hba
                go_wp2_with fail
                refine (HVE.out k6 n 4 wa hc4 hnn HPa.out).mono ?_
                rintro e wb ⟨kd, tx, pg, ng, cg, pe, ne, ce, nb, rfl, hPb, hbb⟩
                have HPb := Lib.hid hPb
                have HBb := Lib.hid (HBa.out.trans hbb)
                have HRb := Lib.hid (HRa.out.but hbb hblt)
                clear hPb hbb
                obtain ⟨hownZ, xsZ, hown2Z, _⟩ := HRb.out
                have hoZ := own_but hown2Z (But.of (b := b) (galloc (Below.refl wb.heap.size wb) (.cells #[.int .u8 kd, .string tx, .slice pg ng cg, .slice pe ne ce] 47))) hblt
                have hrowZ : Hid (∀ g, (Value.slice pd js.length cd).ownBlock = some g → W.heap.size ≤ g) := Lib.hid (fun g hg => (hown2Z.lt g hg).1)
                have hsZ : W.heap.size ≤ wb.heap.size := HBb.out.size
                clear hownZ hown2Z
                go_wp2_with (at_builtin; refine wpList_append_own_at _ rfl _ _ 45 rfl W.heap.size 47 i47 (.agg #[.int .u8 0, .string ⟨#[]⟩, .slice none 0 0, .slice none 0 0]) 4 72 und45 hi hz0 hz1 hz2 rfl (by decide) _ _ _ rfl hoZ ⟨wb.heap.size, 0, none⟩ 1 1 [.int .u8 kd, .string tx, .slice pg ng cg, .slice pe ne ce] rfl rfl (World.news_of_block (heap_alloc_new wb _)) (by intro u hu; simp at hu; rcases hu with rfl | rfl | rfl | rfl <;> rfl) (by unfold maxLen; omega) (by omega) (by simp; omega) ?_)
                intro v' wZ hown' hgrow hnil hloc
                have HPZ : Hid (RAt wZ b s k6 nb 4) := Lib.hid ((hgrow.block b (by simp; have := HPb.out.lt; omega) (fun e => by have := hrowZ.out b e.symm; omega)).trans (HPb.out.below (galloc (Below.refl _ _) _)))
                have HBZ := Lib.hid ((HBb.out.trans (But.of (galloc (Below.refl wb.heap.size wb) _))).grownB hgrow hrowZ.out)
                clear hown' hgrow hnil hloc hoZ
                go_wp2_with fail
                refine (rblanks_err wZ b s k6 nb 4 HPZ.out hc4).mono ?_
                rintro e wY ⟨rfl, hPY, hbY⟩
                have HPY := Lib.hid hPY
                have HBY := Lib.hid (HBZ.out.trans hbY)
                clear hPY hbY
                go_wp2_with fail
                refine (take_err wY b s ⟨#[125]⟩ k6 nb 4 HPY.out hc4).mono ?_
                rintro e wX ⟨rfl, hbX⟩
                have HPX := Lib.hid (HPY.out.below hbX)
                have HBX := Lib.hid (HBY.out.trans (But.of hbX))
                clear hbX
                go_wp2_with fail
                refine (take_err wX b s ⟨#[44]⟩ k6 nb 4 HPX.out hc4).mono ?_
                rintro e wV ⟨rfl, hbV⟩
                have HPV := Lib.hid (HPX.out.below hbV)
                have HBV := Lib.hid (HBX.out.trans (But.of hbV))
                clear hbV
                go_wp2_with fail
                refine (fail_any wV b s k6 nb 4 4 HPV.out).mono ?_
                rintro e wU ⟨rfl, hPU, hbU⟩
                rw [if_neg hc4] at hPU
                have HPU := Lib.hid hPU
                have HBU := Lib.hid (HBV.out.trans hbU)
                clear hPU hbU
                go_wp2
                exact ⟨.inr ⟨k6, nb, 4, hc4, Lib.hid ⟨HPU.out, HBU.out, HGE.out⟩⟩, by rw [rleft_bad HPU.out hc4, rleft_at HK.out.1]; omega⟩
            · have HGE : Hid (G = .error EE) := Lib.hid (HGC.out hEE)
              have e1 : (EE == 0) = false := by simpa using hEE
              clear HGC HGD HGA HGB
              go_wp2_with fail
              refine (rblanks_err w5 b s k4 n EE HP6.out hEE).mono ?_
              rintro e w6 ⟨rfl, hP7, hb7⟩
              have HP7 := Lib.hid hP7
              have HB7 := Lib.hid (HB6.out.trans hb7)
              have HR7 := Lib.hid (HR6.out.but hb7 hblt)
              clear hP7 hb7
              go_wp2_with fail
              refine (take_err w6 b s ⟨#[58]⟩ k4 n EE HP7.out hEE).mono ?_
              rintro e w7 ⟨rfl, hb8⟩
              have HP8 := Lib.hid (HP7.out.below hb8)
              have HB8 := Lib.hid (HB7.out.trans (But.of hb8))
              have HR8 := Lib.hid (HR7.out.but (But.of hb8) hblt)
              clear hb8
              go_wp2_with fail
              refine (fail_any w7 b s k4 n EE 4 HP8.out).mono ?_
              rintro e w8 ⟨rfl, hP9, hb9⟩
              rw [if_neg hEE] at hP9
              have HP9 := Lib.hid hP9
              have HB9 := Lib.hid (HB8.out.trans hb9)
              have HR9 := Lib.hid (HR8.out.but hb9 hblt)
              clear hP9 hb9
              go_wp2_with fail
              refine (rblanks_err w8 b s k4 n EE HP9.out hEE).mono ?_
              rintro e wa ⟨rfl, hPa, hba⟩
              have HPa := Lib.hid hPa
              have HBa := Lib.hid (HB9.out.trans hba)
              have HRa := Lib.hid (HR9.out.but hba hblt)
              clear hPa hba
              go_wp2_with fail
              refine (HVE.out k4 n EE wa hEE hnn HPa.out).mono ?_
              rintro e wb ⟨kd, tx, pg, ng, cg, pe, ne, ce, nb, rfl, hPb, hbb⟩
              have HPb := Lib.hid hPb
              have HBb := Lib.hid (HBa.out.trans hbb)
              have HRb := Lib.hid (HRa.out.but hbb hblt)
              clear hPb hbb
              obtain ⟨hownZ, xsZ, hown2Z, _⟩ := HRb.out
              have hoZ := own_but hown2Z (But.of (b := b) (galloc (Below.refl wb.heap.size wb) (.cells #[.int .u8 kd, .string tx, .slice pg ng cg, .slice pe ne ce] 47))) hblt
              have hrowZ : Hid (∀ g, (Value.slice pd js.length cd).ownBlock = some g → W.heap.size ≤ g) := Lib.hid (fun g hg => (hown2Z.lt g hg).1)
              have hsZ : W.heap.size ≤ wb.heap.size := HBb.out.size
              clear hownZ hown2Z
              go_wp2_with (at_builtin; refine wpList_append_own_at _ rfl _ _ 45 rfl W.heap.size 47 i47 (.agg #[.int .u8 0, .string ⟨#[]⟩, .slice none 0 0, .slice none 0 0]) 4 72 und45 hi hz0 hz1 hz2 rfl (by decide) _ _ _ rfl hoZ ⟨wb.heap.size, 0, none⟩ 1 1 [.int .u8 kd, .string tx, .slice pg ng cg, .slice pe ne ce] rfl rfl (World.news_of_block (heap_alloc_new wb _)) (by intro u hu; simp at hu; rcases hu with rfl | rfl | rfl | rfl <;> rfl) (by unfold maxLen; omega) (by omega) (by simp; omega) ?_)
              intro v' wZ hown' hgrow hnil hloc
              have HPZ : Hid (RAt wZ b s k4 nb EE) := Lib.hid ((hgrow.block b (by simp; have := HPb.out.lt; omega) (fun e => by have := hrowZ.out b e.symm; omega)).trans (HPb.out.below (galloc (Below.refl _ _) _)))
              have HBZ := Lib.hid ((HBb.out.trans (But.of (galloc (Below.refl wb.heap.size wb) _))).grownB hgrow hrowZ.out)
              clear hown' hgrow hnil hloc hoZ
              go_wp2_with fail
              refine (rblanks_err wZ b s k4 nb EE HPZ.out hEE).mono ?_
              rintro e wY ⟨rfl, hPY, hbY⟩
              have HPY := Lib.hid hPY
              have HBY := Lib.hid (HBZ.out.trans hbY)
              clear hPY hbY
              go_wp2_with fail
              refine (take_err wY b s ⟨#[125]⟩ k4 nb EE HPY.out hEE).mono ?_
              rintro e wX ⟨rfl, hbX⟩
              have HPX := Lib.hid (HPY.out.below hbX)
              have HBX := Lib.hid (HBY.out.trans (But.of hbX))
              clear hbX
              go_wp2_with fail
              refine (take_err wX b s ⟨#[44]⟩ k4 nb EE HPX.out hEE).mono ?_
              rintro e wV ⟨rfl, hbV⟩
              have HPV := Lib.hid (HPX.out.below hbV)
              have HBV := Lib.hid (HBX.out.trans (But.of hbV))
              clear hbV
              go_wp2_with fail
              refine (fail_any wV b s k4 nb EE 4 HPV.out).mono ?_
              rintro e wU ⟨rfl, hPU, hbU⟩
              rw [if_neg hEE] at hPU
              have HPU := Lib.hid hPU
              have HBU := Lib.hid (HBV.out.trans hbU)
              clear hPU hbU
              go_wp2
              exact ⟨.inr ⟨k4, nb, EE, hEE, Lib.hid ⟨HPU.out, HBU.out, HGE.out⟩⟩, by rw [rleft_bad HPU.out hEE, rleft_at HK.out.1]; omega⟩
      · obtain ⟨p0, p1, p2, p3, pf⟩ := HK.out.1.cells
        have e1 : (c == 0) = false := by simpa using hc
        go_wp2
        go_ret2
        rw [HK.out.2.2]
        exact ⟨hc, k, n, rfl, HK.out.1, HK.out.2.1⟩
end Go.Proofs.YtgcpgieojckheaaGreatDoor.Json
