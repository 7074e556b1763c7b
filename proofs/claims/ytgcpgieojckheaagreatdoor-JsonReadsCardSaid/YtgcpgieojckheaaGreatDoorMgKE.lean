/-
  The reference's list, of an Array.
-/
import Derived.Test.YtgcpgieojckheaaGreatDoorMgKD0
import Derived.Test.YtgcpgieojckheaaGreatDoorMgJP5
namespace Go.Proofs.YtgcpgieojckheaaGreatDoor.Json
open Go.RowKit Go.Shelf Go.Maps

theorem und45 : Tryz.prog.underlying 45 = some (.slice 47) := u45
/-- A row of values that has grown by one. -/
theorem rows_snoc {b B : Nat} {nv lv v' : Value} {ns : List (List UInt8)} {js : List Json.J} {j : Json.J} {xs four : List Value} {w wx w2 : World} {o : Obj}
    (hown1 : w.ownsRow B 9 1 nv ns.length (ns.map bl)) (hown2 : w.ownsRow B 47 4 lv js.length xs) (hjs : JsAt (fun g => B ≤ g ∧ lv.ownBlock ≠ some g ∧ nv.ownBlock ≠ some g) w js xs) (hBw : B ≤ w.heap.size) (hbB : b < B)
    (hbx : But b w wx) (hj : JAt (fun g => w.heap.size ≤ g) wx j four)
    (hgrow : (wx.alloc o).grownBy w2 lv.ownBlock) (_hown3 : w2.ownsRow B 47 4 v' (js.length + 1) (xs ++ four)) (hat : v'.ownBlock = lv.ownBlock ∨ v'.ownBlock = some (wx.heap.size + 1)) :
    w2.ownsRow B 9 1 nv ns.length (ns.map bl) ∧ JsAt (fun g => B ≤ g ∧ v'.ownBlock ≠ some g ∧ nv.ownBlock ≠ some g) w2 (js ++ [j]) (xs ++ four) := by
  have hsz := hbx.size
  have hbl := hown2.lt
  have hnl := hown1.lt
  have hb0 := galloc (Below.refl wx.heap.size wx) o
  have hs0 : (wx.alloc o).heap.size = wx.heap.size + 1 := by simp
  have hkind : ∀ i, nv.ownBlock = some i → lv.ownBlock ≠ some i := fun i h1 h2 => by
    obtain ⟨c1, f1, e1⟩ := own_kind hown1 i h1
    obtain ⟨c2, f2, e2⟩ := own_kind hown2 i h2
    rw [e1] at e2; injection e2 with e2; cases e2
  have hnw : (wx.alloc o).ownsRow B 9 1 nv ns.length (ns.map bl) := own_but (own_but hown1 hbx hbB) (But.of (b := b) hb0) hbB
  have hn2 : w2.ownsRow B 9 1 nv ns.length (ns.map bl) := hnw.kept hgrow (by
    cases hq : nv.ownBlock with
    | none => exact .inl rfl
    | some i => exact .inr (fun e => hkind i hq e.symm))
  have key : ∀ i, i < wx.heap.size → lv.ownBlock ≠ some i → v'.ownBlock ≠ some i := fun i hi h e => by
    rcases hat with h' | h'
    · exact h (by rw [← h', e])
    · rw [h'] at e; have := Option.some.inj e; omega
  have st : Stays (fun i => (B ≤ i ∧ lv.ownBlock ≠ some i ∧ nv.ownBlock ≠ some i) ∧ v'.ownBlock ≠ some i) wx w2 :=
    ⟨by have := hgrow.size; omega, fun i hi h => (hgrow.block i (by omega) (fun e => h.1.2.1 e.symm)).trans (hb0.block i hi)⟩
  refine ⟨hn2, JsAt.snoc ?_ js xs ?_⟩
  · refine JAt.mono (S := fun i => (B ≤ i ∧ lv.ownBlock ≠ some i ∧ nv.ownBlock ≠ some i) ∧ v'.ownBlock ≠ some i) (fun i _ h => ⟨h.1.1, h.2, h.1.2.2⟩) j four ?_
    refine JAt.world st j four (JAt.mono (fun i hi h => ?_) j four hj)
    have h : w.heap.size ≤ i := h
    have h1 : lv.ownBlock ≠ some i := fun e => by have := (hbl i e).2; omega
    have h2 : nv.ownBlock ≠ some i := fun e => by have := (hnl i e).2; omega
    exact ⟨⟨Nat.le_trans hBw h, h1, h2⟩, key i hi h1⟩
  · refine JsAt.mono (S := fun i => (B ≤ i ∧ lv.ownBlock ≠ some i ∧ nv.ownBlock ≠ some i) ∧ v'.ownBlock ≠ some i) (fun i _ h => ⟨h.1.1, h.2, h.1.2.2⟩) js xs ?_
    refine JsAt.world st js xs (JsAt.mono (fun i hi h => ⟨h, key i hi h.2.1⟩) js xs (JsAt.world ⟨hsz, fun i hi h => hbx.block i hi (by have := h.1; omega)⟩ js xs hjs))
/-- A row of values, as it is handed on. -/
def RRow (S : Nat → Prop) (w : World) (js : List Json.J) (v : Value) : Prop := ∃ vs, SlIn S w v 4 js.length vs ∧ JsAt S w js vs
theorem rrow_of {w : World} {B : Nat} {nv lv : Value} {js : List Json.J} {xs : List Value} (h : w.ownsRow B 47 4 lv js.length xs) (hj : JsAt (fun g => B ≤ g ∧ lv.ownBlock ≠ some g ∧ nv.ownBlock ≠ some g) w js xs) : RRow (fun g => B ≤ g) w js lv :=
  ⟨xs, SlIn.of_owns h (fun g hg => (h.lt g hg).1), JsAt.mono (fun _ _ h => h.1) js xs hj⟩
/-- What an Array's list ends in. -/
def RArr (W : World) (b : Nat) (s : ByteArray) (x : Nat) : Got (List J) → Ending → World → Prop
  | .ok (js, r, n), e, w' => ∃ (k : Nat) (pd : Option Addr) (cd : Nat), x ≤ k ∧ k ≤ s.size ∧ r = s.data.toList.drop k ∧ e = .returned (.tuple #[.slice none 0 0, .slice pd js.length cd]) ∧ RRow (fun g => W.heap.size ≤ g) w' js (.slice pd js.length cd) ∧ RAt w' b s k n 0 ∧ But b W w'
  | .error c, e, w' => c ≠ 0 ∧ ∃ (k n : Nat), e = .returned (.tuple #[.slice none 0 0, .slice none 0 0]) ∧ RAt w' b s k n c ∧ But b W w'
/-- The loop's state. -/
def AInv (el : List J → List UInt8 → Nat → Got (List J)) (W : World) (b B : Nat) (s : ByteArray) (G : Got (List J)) (k n : Nat) (js : List J) (lv : Value) (wr : World) : Prop :=
  RAt wr b s k n 0 ∧ (∃ xs, wr.ownsRow B 47 4 lv js.length xs ∧ JsAt (fun g => B ≤ g ∧ lv.ownBlock ≠ some g ∧ (Value.slice none 0 0).ownBlock ≠ some g) wr js xs) ∧ But b W wr ∧ B ≤ wr.heap.size ∧ G = thenL el 93 (el js (s.data.toList.drop k) n) ∧ js.length ≤ k ∧ n ≤ 65536
set_option maxRecDepth 100000 in
set_option maxHeartbeats 16000000 in
theorem rlist_arr {v : Val} (W : World) (b : Nat) (s : ByteArray) (x n dp : Nat) (h : RAt W b s x n 0) (hx : x ≤ s.size) (hz : s.size ≤ 30000) (hn : n ≤ 65536) (hdp : dp ≤ 1000) (hv : Uses v) (hs : ∀ l n, v (skip l) n = v l n)
    (hvn : ∀ l n j r n2, v l n = .ok (j, r, n2) → n2 ≤ 65536)
    (hV : ∀ x n w, x ≤ s.size → n ≤ 65536 → skip (s.data.toList.drop x) = s.data.toList.drop x → RAt w b s x n 0 → Calls Tryz.prog 69 #[.pointer (some ⟨b, 0, none⟩), .int .i64 ((dp + 1 : Nat) : Int)] w (RVal w b s x (v (s.data.toList.drop x) n))) :
    Calls Tryz.prog 108 #[.pointer (some ⟨b, 0, none⟩), .int .i64 dp, .string ⟨#[93]⟩, .bool false] W (RArr W b s x (listL (elA v) 93 [] (s.data.toList.drop x) n)) := by
  have hblt := h.lt
  obtain ⟨G, hG⟩ : ∃ G, listL (elA v) 93 [] (s.data.toList.drop x) n = G := ⟨_, rfl⟩
  rw [hG]
  obtain ⟨d1, hd1⟩ : ∃ d1, dp + 1 = d1 := ⟨_, rfl⟩
  rw [hd1] at hV
  have hwd : IntKind.i64.wrap ((dp : Int) + 1) = (d1 : Int) := by rw [IntWalk.i64_in _ (by omega)]; omega
  obtain ⟨i47, hi, hz0, hz1, hz2⟩ := info_parts info47
  have HG := Lib.hid hG
  have HV := Lib.hid hV
  have HP := Lib.hid h
  have HU := Lib.hid (elA_uses hv)
  have HS := Lib.hid (elA_skip hs)
  have HVN := Lib.hid hvn
  clear hG hV h hv hs hvn hd1
  go_enter Tryz.func108, Tryz.ntmps108
  go_wp2_with fail
  refine (rblanks_any W b s x n HP.out hx (by omega)).mono ?_
  rintro e w1 ⟨k1, hk1, hk1s, rfl, hP1, hb1, hd1⟩
  have HP1 := Lib.hid hP1
  have HB1 := Lib.hid hb1
  have HD1 := Lib.hid hd1
  clear hP1 hb1 hd1
  by_cases hq : ∃ r, s.data.toList.drop k1 = 93 :: r
  · obtain ⟨r, hr⟩ := hq
    have hdc := drop_cons hr
    have hk2 : k1 + 1 ≤ s.size := by have := hdc.1; rw [← Lib.size_eq] at this; omega
    have HG2 : Hid (G = .ok ([], s.data.toList.drop (k1 + 1), n)) := Lib.hid (by rw [← HG.out, listL_shut (by rw [HD1.out]; exact hr), hdc.2.2])
    have ht := rtake_yes w1 b s [93] k1 n r HP1.out (by omega) (by simp) hr hk1s
    clear hr hdc
    go_wp2_with fail
    refine ht.mono ?_
    rintro e w2 ⟨rfl, hP2, hb2⟩
    have HP2 := Lib.hid hP2
    have HB2 := Lib.hid (HB1.out.trans hb2)
    clear hP2 hb2 ht
    go_wp2
    go_ret2
    rw [HG2.out]
    exact ⟨k1 + 1, none, 0, by omega, hk2, rfl, rfl, ⟨[], SlIn.nil _ _ _, by unfold JsAt; rfl⟩, HP2.out, HB2.out⟩
  · have HG2 : Hid (G = thenL (elA v) 93 (elA v [] (s.data.toList.drop k1) n)) := Lib.hid (by rw [← HG.out, listL_el (by rw [HD1.out]; exact fun r e => hq ⟨r, e⟩), HD1.out])
    have ht := rtake_no w1 b s [93] k1 n HP1.out hk1s (by omega) (by simp) (fun r e => hq ⟨r, e⟩)
    clear hq
    go_wp2_with fail
    refine ht.mono ?_
    rintro e w2 ⟨rfl, hb2⟩
    have HI : Hid (AInv (elA v) W b W.heap.size s G k1 n [] (.slice none 0 0) w2) := Lib.hid ⟨HP1.out.below hb2, ⟨[], World.ownsRow_nil _ _ _ _, by unfold JsAt; rfl⟩, HB1.out.trans (But.of hb2), by have := HB1.out.size; have := hb2.size; omega, HG2.out, by simp, hn⟩
    clear hb2 ht HG2 HG
    go_wp2_with fail
    go_loopw [10, 11] (fun nv lv wr => (∃ (k n : Nat) (js : List J) (pd : Option Addr) (cd : Nat), nv = .slice none 0 0 ∧ lv = .slice pd js.length cd ∧ x ≤ k ∧ k ≤ s.size ∧ Hid (AInv (elA v) W b W.heap.size s G k n js (.slice pd js.length cd) wr)) ∨ (∃ (k n : Nat) (c : Int), c ≠ 0 ∧ Hid (RAt wr b s k n c ∧ But b W wr ∧ G = .error c))) (fun _ _ wr => rleft b s wr)
    case atStart => exact .inl ⟨k1, n, [], none, 0, rfl, rfl, hk1, hk1s, HI⟩
    case round =>
      rcases hrel with ⟨k, n, js, pd, cd, rfl, rfl, hxk, hk, HK⟩ | ⟨k, n, c, hc, HK⟩
      · obtain ⟨p0, p1, p2, p3, pf⟩ := HK.out.1.cells
        have hjl := HK.out.2.2.2.2.2.1
        have hnn := HK.out.2.2.2.2.2.2
        go_wp2_with fail
        refine (rblanks_any wr b s k n HK.out.1 hk (by omega)).mono ?_
        rintro e w3 ⟨k3, hk3, hk3s, rfl, hP3, hb3, hd3⟩
        have HP3 := Lib.hid hP3
        have HB3 := Lib.hid hb3
        have hsk3 : skip (s.data.toList.drop k3) = s.data.toList.drop k3 := by rw [← hd3, skip_skip]
        have HG3 : Hid (G = thenL (elA v) 93 (elA v js (s.data.toList.drop k3) n)) := Lib.hid (by rw [HK.out.2.2.2.2.1, ← hd3, HS.out])
        have hval := HV.out k3 n w3 hk3s hnn hsk3 hP3
        clear hP3 hb3 hd3 hsk3 p0 p1 p2 p3 pf
        go_wp2_with fail
        refine hval.mono ?_
        intro e w4 h4
        clear hval
        cases hE : v (s.data.toList.drop k3) n with
        | error c =>
          rw [hE] at h4
          obtain ⟨hc, k4, n4, kd, tx, pc, nc, cc, pe, ne, ce, rfl, hP4, hb4⟩ := h4
          have HGE : Hid (G = .error c) := Lib.hid (by rw [HG3.out]; unfold elA; rw [hE]; rfl)
          have HP4 := Lib.hid hP4
          have HB4 := Lib.hid (HB3.out.trans hb4)
          obtain ⟨xs, hown, _⟩ := HK.out.2.1
          have hoA := own_but (own_but hown HB4.out hblt) (But.of (b := b) (galloc (Below.refl w4.heap.size w4) (.cells #[.int .u8 kd, .string tx, .slice pc nc cc, .slice pe ne ce] 47))) hblt
          have hsz4 : W.heap.size ≤ w4.heap.size := by have := HK.out.2.2.2.1; have := HB4.out.size; omega
          have hrow : Hid (∀ g, (Value.slice pd js.length cd).ownBlock = some g → W.heap.size ≤ g) := Lib.hid (fun g hg => (hown.lt g hg).1)
          clear hE hP4 hb4 hown HG3
          go_wp2_with (at_builtin; refine wpList_append_own_at _ rfl _ _ 45 rfl W.heap.size 47 i47 (.agg #[.int .u8 0, .string ⟨#[]⟩, .slice none 0 0, .slice none 0 0]) 4 72 und45 hi hz0 hz1 hz2 rfl (by decide) _ _ _ rfl hoA ⟨w4.heap.size, 0, none⟩ 1 1 [.int .u8 kd, .string tx, .slice pc nc cc, .slice pe ne ce] rfl rfl (World.news_of_block (heap_alloc_new w4 _)) (by intro u hu; simp at hu; rcases hu with rfl | rfl | rfl | rfl <;> rfl) (by unfold maxLen; omega) (by omega) (by simp; omega) ?_)
          intro v' w5 hown' hgrow hnil hloc
          have HP5 : Hid (RAt w5 b s k4 n4 c) := Lib.hid ((hgrow.block b (by simp; have := HP4.out.lt; omega) (fun e => by have := hrow.out b e.symm; omega)).trans (HP4.out.below (galloc (Below.refl _ _) _)))
          have HB5 := Lib.hid (((HK.out.2.2.1.trans HB4.out).trans (But.of (galloc (Below.refl w4.heap.size w4) _))).grownB hgrow hrow.out)
          clear hown' hgrow hnil hloc hoA
          go_wp2_with fail
          refine (rblanks_err w5 b s k4 n4 c HP5.out hc).mono ?_
          rintro e w6 ⟨rfl, hP6, hb6⟩
          have HP6 := Lib.hid hP6
          have HB6 := Lib.hid (HB5.out.trans hb6)
          clear hP6 hb6
          go_wp2_with fail
          refine (take_err w6 b s ⟨#[93]⟩ k4 n4 c HP6.out hc).mono ?_
          rintro e w7 ⟨rfl, hb7⟩
          have HP7 := Lib.hid (HP6.out.below hb7)
          have HB7 := Lib.hid (HB6.out.trans (But.of hb7))
          clear hb7
          go_wp2_with fail
          refine (take_err w7 b s ⟨#[44]⟩ k4 n4 c HP7.out hc).mono ?_
          rintro e w8 ⟨rfl, hb8⟩
          have HP8 := Lib.hid (HP7.out.below hb8)
          have HB8 := Lib.hid (HB7.out.trans (But.of hb8))
          clear hb8
          go_wp2_with fail
          refine (fail_any w8 b s k4 n4 c 4 HP8.out).mono ?_
          rintro e w9 ⟨rfl, hP9, hb9⟩
          rw [if_neg hc] at hP9
          have HP9 := Lib.hid hP9
          have HB9 := Lib.hid (HB8.out.trans hb9)
          clear hP9 hb9
          go_wp2
          exact ⟨.inr ⟨k4, n4, c, hc, Lib.hid ⟨HP9.out, HB9.out, HGE.out⟩⟩, by rw [rleft_bad HP9.out hc, rleft_at HK.out.1]; omega⟩
        | ok p =>
          obtain ⟨j, r4, n4⟩ := p
          rw [hE] at h4
          obtain ⟨k4, va, hk4, hk4s, hr4, rfl, ⟨qa, qb, qc, qd, rfl, hj4⟩, hP4, hb4⟩ := h4
          have hn4 : n4 ≤ 65536 := HVN.out _ _ _ _ _ hE
          have HG4 : Hid (G = restA (elA v) 93 (js ++ [j]) (s.data.toList.drop k4) n4) := Lib.hid (by rw [HG3.out]; unfold elA; rw [hE, ← hr4]; rfl)
          have hlt4 : k3 < k4 := by
            have h1 : r4.length < (s.data.toList.drop k3).length := by
              have := HU.out js _ _ (js ++ [j]) r4 n4 (by unfold elA; rw [hE])
              exact this
            rw [hr4, List.length_drop, List.length_drop, ← Lib.size_eq] at h1
            omega
          have HP4 := Lib.hid hP4
          obtain ⟨xs, hown, hjs⟩ := HK.out.2.1
          have hown3 := own_but hown HB3.out hblt
          have hjs3 := JsAt.world ⟨HB3.out.size, fun i hi h => HB3.out.block i hi (by have := h.1; omega)⟩ js xs hjs
          have hsz3 : W.heap.size ≤ w3.heap.size := by have := HK.out.2.2.2.1; have := HB3.out.size; omega
          have hsz4 : W.heap.size ≤ w4.heap.size := by have := hb4.size; omega
          have hoA := own_but (own_but hown3 hb4 hblt) (But.of (b := b) (galloc (Below.refl w4.heap.size w4) (.cells #[qa, qb, qc, qd] 47))) hblt
          have hrow : Hid (∀ g, (Value.slice pd js.length cd).ownBlock = some g → W.heap.size ≤ g) := Lib.hid (fun g hg => (hown.lt g hg).1)
          have HSN := Lib.hid (fun (v' : Value) (w2 : World) h1 h2 h3 => rows_snoc (b := b) (nv := .slice none 0 0) (ns := []) (w := w3) (wx := w4) (w2 := w2) (v' := v') (o := .cells #[qa, qb, qc, qd] 47) (World.ownsRow_nil _ _ _ _) hown3 hjs3 hsz3 hblt hb4 hj4 h1 h2 h3)
          have HB4 := Lib.hid ((HK.out.2.2.1.trans HB3.out).trans hb4)
          obtain ⟨f1, f2, f3, f4⟩ : qa.oneCell' = true ∧ qb.oneCell' = true ∧ qc.oneCell' = true ∧ qd.oneCell' = true := by
            cases j with
            | mk kk tt ns ls =>
              unfold JAt at hj4
              obtain ⟨c, d, vs, he, ⟨_, pc, cc, hc, _⟩, ⟨_, pd, cd, hd, _⟩, _⟩ := hj4
              simp only [List.cons.injEq, and_true] at he
              obtain ⟨rfl, rfl, rfl, rfl⟩ := he
              subst hc hd
              exact ⟨rfl, rfl, rfl, rfl⟩
          have hone : ∀ u ∈ [qa, qb, qc, qd], u.oneCell' = true := by intro u hu; simp at hu; rcases hu with rfl | rfl | rfl | rfl <;> assumption
          clear hE hP4 hb4 hown hown3 hjs hjs3 HG3 hr4 hj4 f1 f2 f3 f4
          go_wp2_with (at_builtin; refine wpList_append_own_at _ rfl _ _ 45 rfl W.heap.size 47 i47 (.agg #[.int .u8 0, .string ⟨#[]⟩, .slice none 0 0, .slice none 0 0]) 4 72 und45 hi hz0 hz1 hz2 rfl (by decide) _ _ _ rfl hoA ⟨w4.heap.size, 0, none⟩ 1 1 [qa, qb, qc, qd] rfl rfl (World.news_of_block (heap_alloc_new w4 _)) hone (by unfold maxLen; omega) (by omega) (by simp; omega) ?_)
          intro v' w5 hown' hgrow hnil hloc
          obtain ⟨pe, ce, rfl⟩ := LstAt.form hown'
          obtain ⟨_, hjs5⟩ := HSN.out _ w5 hgrow hown' hloc
          have HP5 : Hid (RAt w5 b s k4 n4 0) := Lib.hid ((hgrow.block b (by simp; have := HP4.out.lt; omega) (fun e => by have := hrow.out b e.symm; omega)).trans (HP4.out.below (galloc (Below.refl _ _) _)))
          have HB5 := Lib.hid ((HB4.out.trans (But.of (galloc (Below.refl w4.heap.size w4) _))).grownB hgrow hrow.out)
          have HO5 := Lib.hid hown'
          have HJ5 := Lib.hid hjs5
          clear hown' hgrow hnil hloc hoA hjs5 HSN hone
          go_wp2_with fail
          refine (rblanks_any w5 b s k4 n4 HP5.out hk4s (by omega)).mono ?_
          rintro e w6 ⟨k6, hk6, hk6s, rfl, hP6, hb6, hd6⟩
          have HP6 := Lib.hid hP6
          have HB6 := Lib.hid (HB5.out.trans hb6)
          have HO6 := Lib.hid (own_but HO5.out hb6 hblt)
          have HJ6 := Lib.hid (JsAt.world ⟨hb6.size, fun i hi h => hb6.block i hi (by have := h.1; omega)⟩ (js ++ [j]) _ HJ5.out)
          have HD6 := Lib.hid hd6
          clear hP6 hb6 hd6
          by_cases hq : ∃ r, s.data.toList.drop k6 = 93 :: r
          · obtain ⟨r, hr⟩ := hq
            have hdc := drop_cons hr
            have hk7 : k6 + 1 ≤ s.size := by have := hdc.1; rw [← Lib.size_eq] at this; omega
            have HG7 : Hid (G = .ok (js ++ [j], s.data.toList.drop (k6 + 1), n4)) := Lib.hid (by rw [HG4.out, rest_shut (by decide) (by rw [HD6.out]; exact hr), hdc.2.2])
            have ht := rtake_yes w6 b s [93] k6 n4 r HP6.out (by omega) (by simp) hr hk6s
            clear hr hdc HG4
            go_wp2_with fail
            refine ht.mono ?_
            rintro e w7 ⟨rfl, hP7, hb7⟩
            have HP7 := Lib.hid hP7
            have HB7 := Lib.hid (HB6.out.trans hb7)
            have HR7 := Lib.hid (rrow_of (js := js ++ [j]) (by rw [List.length_append]; exact own_but HO6.out hb7 hblt) (JsAt.world ⟨hb7.size, fun i hi h => hb7.block i hi (by have := h.1; omega)⟩ (js ++ [j]) _ HJ6.out))
            clear hP7 hb7 ht
            go_wp2
            go_ret2
            rw [HG7.out]
            exact ⟨k6 + 1, pe, ce, by omega, hk7, rfl, by rw [List.length_append]; rfl, by rw [List.length_append]; exact HR7.out, HP7.out, HB7.out⟩
          · have HQ := Lib.hid hq
            have ht := rtake_no w6 b s [93] k6 n4 HP6.out hk6s (by omega) (by simp) (fun r e => hq ⟨r, e⟩)
            clear hq
            go_wp2_with fail
            refine ht.mono ?_
            rintro e w7 ⟨rfl, hb7⟩
            have HP7 := Lib.hid (HP6.out.below hb7)
            have HB7 := Lib.hid (HB6.out.trans (But.of hb7))
            have HO7 := Lib.hid (own_but HO6.out (But.of (b := b) hb7) hblt)
            have HJ7 := Lib.hid (JsAt.world ⟨hb7.size, fun i hi _ => hb7.block i hi⟩ (js ++ [j]) _ HJ6.out)
            have hs7 : W.heap.size ≤ w7.heap.size := HB7.out.size
            clear hb7 ht
            by_cases hq : ∃ r, s.data.toList.drop k6 = 44 :: r
            · obtain ⟨r, hr⟩ := hq
              have hdc := drop_cons hr
              have hk8 : k6 + 1 ≤ s.size := by have := hdc.1; rw [← Lib.size_eq] at this; omega
              have HG7 : Hid (G = thenL (elA v) 93 (elA v (js ++ [j]) (s.data.toList.drop (k6 + 1)) n4)) := Lib.hid (by rw [HG4.out, rest_comma HU.out (by rw [HD6.out]; exact hr), hdc.2.2])
              have ht := rtake_yes w7 b s [44] k6 n4 r HP7.out (by omega) (by simp) hr hk6s
              clear hr hdc HG4 HQ
              go_wp2_with fail
              refine ht.mono ?_
              rintro e w8 ⟨rfl, hP8, hb8⟩
              have HP8 := Lib.hid hP8
              have HI8 : Hid (AInv (elA v) W b W.heap.size s G (k6 + 1) n4 (js ++ [j]) (.slice pe (js ++ [j]).length ce) w8) := Lib.hid ⟨hP8, ⟨_, by rw [List.length_append]; exact own_but HO7.out hb8 hblt, by rw [List.length_append]; exact JsAt.world ⟨hb8.size, fun i hi h => hb8.block i hi (by have := h.1; omega)⟩ (js ++ [j]) _ HJ7.out⟩, HB7.out.trans hb8, by have := hb8.size; omega, HG7.out, by rw [List.length_append]; simp; omega, hn4⟩
              have HLN : Hid (Value.slice pe (js.length + 1) ce = .slice pe (js ++ [j]).length ce) := Lib.hid (by rw [List.length_append]; rfl)
              clear hP8 hb8 ht
              go_wp2
              exact ⟨.inl ⟨k6 + 1, n4, js ++ [j], pe, ce, rfl, HLN.out, by omega, hk8, HI8⟩, by rw [rleft_at HP8.out, rleft_at HK.out.1]; omega⟩
            · have HG7 : Hid (G = .error 4) := Lib.hid (by rw [HG4.out, rest_else (by rw [HD6.out]; exact fun r e => hq ⟨r, e⟩) (by rw [HD6.out]; exact fun r e => HQ.out ⟨r, e⟩)])
              have ht := rtake_no w7 b s [44] k6 n4 HP7.out hk6s (by omega) (by simp) (fun r e => hq ⟨r, e⟩)
              clear hq HG4 HQ
              go_wp2_with fail
              refine ht.mono ?_
              rintro e w8 ⟨rfl, hb8⟩
              have HP8 := Lib.hid (HP7.out.below hb8)
              have HB8 := Lib.hid (HB7.out.trans (But.of hb8))
              clear hb8 ht
              go_wp2_with fail
              refine (fail_any w8 b s k6 n4 0 4 HP8.out).mono ?_
              rintro e w9 ⟨rfl, hP9, hb9⟩
              rw [if_pos rfl] at hP9
              have HP9 := Lib.hid hP9
              have HB9 := Lib.hid (HB8.out.trans hb9)
              clear hP9 hb9
              go_wp2
              exact ⟨.inr ⟨k6, n4, 4, by decide, Lib.hid ⟨HP9.out, HB9.out, HG7.out⟩⟩, by rw [rleft_bad HP9.out (by decide), rleft_at HK.out.1]; omega⟩
      · obtain ⟨p0, p1, p2, p3, pf⟩ := HK.out.1.cells
        have e1 : (c == 0) = false := by simpa using hc
        go_wp2
        go_ret2
        rw [HK.out.2.2]
        exact ⟨hc, k, n, rfl, HK.out.1, HK.out.2.1⟩
end Go.Proofs.YtgcpgieojckheaaGreatDoor.Json
