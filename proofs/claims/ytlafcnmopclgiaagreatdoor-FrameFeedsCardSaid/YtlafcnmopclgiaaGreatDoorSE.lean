/-
  The document's Feed; Same with what it tells.
-/
import Derived.Test.YtlafcnmopclgiaaGreatDoorSD
import Derived.Test.YtlafcnmopclgiaaGreatDoorFH
import Derived.StillTailTactics
namespace Go.Proofs.YtlafcnmopclgiaaGreatDoor
open Go.RowKit Go.Shelf

/-- Events of the document's, wherever they lie. -/
def RefIn (w : World) (v : Value) (l : List Ev) : Prop :=
  ∃ p cap, v = .slice p l.length cap ∧ ∀ (i : Nat) e, l[i]? = some e → ∃ g o, p = some ⟨g, o, none⟩ ∧ w.cell? ⟨g, o + i * 2, none⟩ = some (bl e.1) ∧ w.cell? ⟨g, o + i * 2 + 1, none⟩ = some (.int .i64 e.2)
theorem RefIn.below {w w' : World} {v : Value} {l : List Ev} (h : RefIn w v l) (hb : Below w.heap.size w w') : RefIn w' v l := by
  obtain ⟨p, cap, h1, h2⟩ := h
  refine ⟨p, cap, h1, fun i e hi => ?_⟩
  obtain ⟨g, o, h3, h4, h5⟩ := h2 i e hi
  exact ⟨g, o, h3, (hb.cell (World.block_lt_of_cell? w _ h4)).trans h4, (hb.cell (World.block_lt_of_cell? w _ h5)).trans h5⟩
theorem RefIn.but {w w' : World} {b : Nat} {v : Value} {l : List Ev} (h : RefIn w v l) (hb : But b w w') (hne : ∀ g o, (∃ n c, v = .slice (some ⟨g, o, none⟩) n c) → 0 < l.length → g ≠ b) : RefIn w' v l := by
  obtain ⟨p, cap, h1, h2⟩ := h
  refine ⟨p, cap, h1, fun i e hi => ?_⟩
  obtain ⟨g, o, h3, h4, h5⟩ := h2 i e hi
  have hg := hne g o ⟨_, _, by rw [h1, h3]⟩ (by have := (List.getElem?_eq_some_iff.1 hi).1; omega)
  exact ⟨g, o, h3, (World.cell?_of_block (hb.block g (World.block_lt_of_cell? w _ h4) hg)).trans h4, (World.cell?_of_block (hb.block g (World.block_lt_of_cell? w _ h5) hg)).trans h5⟩
set_option maxRecDepth 100000 in
set_option maxHeartbeats 2000000 in
theorem same_in (B1 : Nat) (w : World) (v1 v2 : Value) (l : List Ev) (h1 : RefAt B1 w v1 l) (h2 : RefIn w v2 l) (hz : l.length ≤ 3000000) :
    Calls Tryz.prog 10 #[v1, v2] w fun e w' => e = .returned (.bool true) ∧ Below w.heap.size w w' := by
  obtain ⟨p1, q1, rfl⟩ := owns_shape h1
  obtain ⟨p2, q2, rfl, h2c⟩ := h2
  have H1 := Lib.hid h1
  have H2 := Lib.hid h2c
  clear h1 h2c
  have hlen : ((l.length : Int) != (l.length : Int)) = false := by simp
  go_enter Tryz.func10, Tryz.ntmps10
  go_wp2_with fail
  go_loopw [5] (fun i wr => ∃ k : Nat, i = .int .i64 k ∧ k ≤ l.length ∧ Hid (Below w.heap.size w wr)) (fun i _ => l.length - (intOf i).toNat)
  case atStart => exact ⟨0, rfl, Nat.zero_le _, Lib.hid (Below.refl _ _)⟩
  case round =>
    obtain ⟨k, rfl, hk, HB⟩ := hrel
    by_cases hlt : k < l.length
    · have hlt' : (k : Int) < (l.length : Int) := by omega
      obtain ⟨⟨b, x⟩, hE⟩ : ∃ E, l[k]? = some E := ⟨_, List.getElem?_eq_getElem hlt⟩
      rcases ref_block H1.out with ⟨_, _, e2⟩ | ⟨g1, cap1, e1⟩
      · subst e2; exact absurd hlt (Nat.not_lt_zero _)
      cases e1
      obtain ⟨g2, o2, e2, d0, d1⟩ := H2.out k _ hE
      subst e2
      obtain ⟨c0, c1⟩ := ref_at H1.out rfl hE
      replace c0 := (HB.out.cell (World.block_lt_of_cell? w _ c0)).trans c0
      replace c1 := (HB.out.cell (World.block_lt_of_cell? w _ c1)).trans c1
      replace d0 := (HB.out.cell (World.block_lt_of_cell? w _ d0)).trans d0
      replace d1 := (HB.out.cell (World.block_lt_of_cell? w _ d1)).trans d1
      have hbx : bl b = .string ⟨b.toArray⟩ := rfl
      simp only [hbx] at c0 d0
      simp only at c1 d1
      clear hE
      generalize (⟨b.toArray⟩ : ByteArray) = X at *
      go_wp2_with fail
      go_quiet (fail)
      go_wp2
      go_roundw
      case rel => exact ⟨k + 1, by go_num, by omega, Lib.hid (belowN HB.out _)⟩
      case measure => simp [intOf]; omega
    · obtain rfl : k = l.length := by omega
      have hlt' : ¬ (l.length : Int) < (l.length : Int) := by omega
      go_wp2_with fail
      go_ret
      exact ⟨rfl, HB.out⟩
/-- The document's reader lies at x. -/
def XAt (w : World) (x : Nat) (A : ByteArray) (t : Nat) : Prop := w.heap[x]? = some (.cells #[.string A, .int .i64 t] 29 (0, 0))
theorem XAt.cells {w : World} {x : Nat} {A : ByteArray} {t : Nat} (h : XAt w x A t) : w.cell? ⟨x, 0, none⟩ = some (.string A) ∧ w.cell? ⟨x, 1, none⟩ = some (.int .i64 t) ∧ ∀ o, w.frozen? ⟨x, o, none⟩ = false :=
  ⟨by rw [cellH h]; rfl, by rw [cellH h]; rfl, fun o => Lib.frozen_of_heap h o⟩
theorem XAt.lt {w : World} {x : Nat} {A : ByteArray} {t : Nat} (h : XAt w x A t) : x < w.heap.size := (Array.getElem?_eq_some_iff.1 h).1
theorem XAt.below {w w' : World} {x : Nat} {A : ByteArray} {t : Nat} (h : XAt w x A t) (hb : Below w.heap.size w w') : XAt w' x A t := (hb.block x h.lt).trans h
theorem XAt.set0 {w : World} {x : Nat} {A : ByteArray} {t : Nat} (h : XAt w x A t) (C : ByteArray) : XAt (w.setCell ⟨x, 0, none⟩ (.string C)) x C t := heap_setCell_same w x 0 _ _ _ h
theorem XAt.set1 {w : World} {x : Nat} {A : ByteArray} {t : Nat} (h : XAt w x A t) (u : Nat) : XAt (w.setCell ⟨x, 1, none⟩ (.int .i64 u)) x A u := heap_setCell_same w x 1 _ _ _ h
def RFeedEnd (x : Nat) (AC : ByteArray) (n : Nat) (N : List Ev) (w : World) (e : Ending) (w' : World) : Prop := ∃ v, e = .returned v ∧ RefIn w' v N ∧ XAt w' x AC n ∧ But x w w' ∧ ∀ g o m c, v = .slice (some ⟨g, o, none⟩) m c → w.heap.size ≤ g
set_option maxRecDepth 100000 in
set_option maxHeartbeats 4000000 in
theorem rfeed_any (w : World) (x : Nat) (A C : ByteArray) (E N : List Ev) (h : XAt w x A E.length) (cv : Value) (hcv : (convert 30 9 cv).run Tryz.prog w.drew = .ok (.string C) w.drew) (hrun : (runA .head (A ++ C).data.toList).2.1 = E ++ N) (hz : (A ++ C).size ≤ 1000000) :
    Calls Tryz.prog 9 #[.pointer (some ⟨x, 0, none⟩), cv] w (RFeedEnd x (A ++ C) (E ++ N).length N w) := by
  have hx := h.lt
  have H1 : Hid (XAt (w.drew.setCell ⟨x, 0, none⟩ (.string (A ++ C))) x (A ++ C) E.length) := Lib.hid ((h.below (Below.refl _ _).drew).set0 (A ++ C))
  have HB1 : Hid (But x w (w.drew.setCell ⟨x, 0, none⟩ (.string (A ++ C)))) := Lib.hid ((But.of (Below.refl _ _).drew).trans (But.set _ _ _ _))
  have hsz : A.size + C.size ≤ 1000000 := by rw [ByteArray.size_append] at hz; exact hz
  have hn : ¬ 9223372036854775807 < A.size + C.size := by omega
  obtain ⟨k0, k1, kf⟩ := (h.below (Below.refl w.heap.size w).drew).cells
  clear h
  go_enter Tryz.func9, Tryz.ntmps9
  go_wp2_with fail
  go_still_tail 10, (by kernel_rfl)
  change wpList _ _ _ _ _ w.drew
  have hsd : w.drew.heap.size = w.heap.size := rfl
  clear hcv
  generalize w.drew = w2 at *
  obtain ⟨z0, z1, zf⟩ := H1.out.cells
  have hcut := fun wx => cut_any (A ++ C) wx hz
  rw [hrun] at hcut
  have hENl : Hid (E.length ≤ (E ++ N).length ∧ (E ++ N).length - E.length = N.length) := Lib.hid (by rw [List.length_append]; omega)
  have HEN := Lib.hid hrun
  have few := told_few (A ++ C).data.toList (by rw [← Lib.size_eq]; exact hz)
  rw [hrun] at few
  clear hrun
  go_wp2_with fail
  refine (hcut _).mono ?_
  rintro e w3 ⟨v, rfl, hv, hb3⟩
  have H3 := H1.out.below hb3
  have HB3 : Hid (But x w w3) := Lib.hid (HB1.out.trans (But.of hb3))
  obtain ⟨y0, y1, yf⟩ := H3.cells
  have HV := Lib.hid hv
  have hxlt := H3.lt
  have hxg : Hid (∀ g, v.ownBlock = some g → g ≠ x) := Lib.hid fun g hg e => by
    have h1 := (hv.lt g hg).1
    have h2 : x < w2.heap.size := by rw [hsd]; exact hx
    simp at h1; omega
  obtain ⟨p, cap, rfl⟩ := owns_shape hv
  have H3h := Lib.hid H3
  clear hv hb3 H3 hcut z0 z1 zf k0 k1 kf
  obtain ⟨hE1, hE2⟩ := hENl.out
  have hE1' : (E.length : Int) ≤ ((E ++ N).length : Int) := by omega
  rcases HV.out.2 with ⟨hv0, hl0⟩ | ⟨g, cap2, cur, hv0, _, _, hcap, _, _, _⟩
  · obtain ⟨hE0, hN0⟩ := List.append_eq_nil_iff.1 (List.eq_nil_of_length_eq_zero hl0)
    subst hE0
    subst hN0
    simp only [List.append_nil, List.length_nil] at hv0 y1
    injection hv0 with a1 _ a3
    subst a1
    subst a3
    simp only [List.append_nil, List.length_nil] at H3h HB3 ⊢
    clear hE1 hE2 hE1' hENl HEN few HV hl0
    go_wp2_with fail
    go_ret
    exact ⟨_, rfl, ⟨_, _, rfl, fun i e hi => by simp at hi⟩, H3h.out.set1 0, HB3.out.trans (But.set _ _ _ _), fun g o m c e => by cases e⟩
  · injection hv0 with a1 _ a3
    subst a1
    subst a3
    have hcap' : ((E ++ N).length : Int) ≤ (cap : Int) := by omega
    have hcl : (E.length : Int) ≤ (cap : Int) := by omega
    have hcell := fun (i : Nat) e (hi : N[i]? = some e) => ref_at HV.out rfl (i := E.length + i) (e := e) (by rw [List.getElem?_append_right (by omega), show E.length + i - E.length = i by omega]; exact hi)
    have HC : Hid (∀ (i : Nat) e, N[i]? = some e → (w3.setCell ⟨x, 1, none⟩ (.int .i64 ((E ++ N).length : Nat))).cell? ⟨g, E.length * 2 + i * 2, none⟩ = some (bl e.1) ∧ (w3.setCell ⟨x, 1, none⟩ (.int .i64 ((E ++ N).length : Nat))).cell? ⟨g, E.length * 2 + i * 2 + 1, none⟩ = some (.int .i64 e.2)) := Lib.hid fun i e hi => by
      obtain ⟨c0, c1⟩ := hcell i e hi
      rw [Nat.add_mul] at c0 c1
      exact ⟨(World.cell?_of_block (Below.heap_setCell w3 ⟨x, 1, none⟩ _ g (hxg.out g rfl))).trans c0, (World.cell?_of_block (Below.heap_setCell w3 ⟨x, 1, none⟩ _ g (hxg.out g rfl))).trans c1⟩
    clear hcell
    obtain ⟨T, hT⟩ : ∃ T, (E ++ N).length = T := ⟨_, rfl⟩
    rw [hT] at hE1 hE1' hE2 hcap hcap' HC ⊢
    obtain ⟨t, ht⟩ : ∃ t, E.length = t := ⟨_, rfl⟩
    rw [ht] at hE1 hE1' hE2 hcl HC y1
    have HE2 := Lib.hid hE2
    have HT := Lib.hid hT
    have HG0 : Hid (w.heap.size ≤ g) := Lib.hid (by have h1 := (HV.out.lt g rfl).1; simp at h1; omega)
    clear hE2 hENl HEN few HV hT ht
    by_cases hck : cap = t
    · have hq : (cap = t) = True := eq_true hck
      have hNl : N.length = 0 := by have := HE2.out; omega
      clear hck
      go_wp2_with fail
      go_ret
      exact ⟨_, rfl, ⟨_, _, congrArg (fun n => Value.slice _ n _) HE2.out, fun i e hi => by have := (List.getElem?_eq_some_iff.1 hi).1; omega⟩, by rw [HT.out]; exact H3h.out.set1 T, HB3.out.trans (But.set _ _ _ _), fun g' o m c e => by injection e with e1 _ _; injection e1 with e1; injection e1 with e1 _ _; rw [← e1]; exact HG0.out⟩
    · have hq : (cap = t) = False := eq_false hck
      clear hck
      go_wp2_with fail
      go_ret
      exact ⟨_, rfl, ⟨_, _, congrArg (fun n => Value.slice _ n _) HE2.out, fun i e hi => ⟨g, t * 2, rfl, HC.out i e hi⟩⟩, by rw [HT.out]; exact H3h.out.set1 T, HB3.out.trans (But.set _ _ _ _), fun g' o m c e => by injection e with e1 _ _; injection e1 with e1; injection e1 with e1 _ _; rw [← e1]; exact HG0.out⟩
end Go.Proofs.YtlafcnmopclgiaaGreatDoor
