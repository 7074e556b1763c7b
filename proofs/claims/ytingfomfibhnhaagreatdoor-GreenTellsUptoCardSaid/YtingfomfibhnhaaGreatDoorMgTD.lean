/-
  The document's form and Check of a tree.
-/
import Derived.Test.YtingfomfibhnhaaGreatDoorMgTC
namespace Go.Proofs.YtingfomfibhnhaaGreatDoor
open Go.RowKit Go.Shelf

mutual
/-- No token's text is too long to be cut. -/
def tinyT : T → Prop
  | .mk _ t ks => t.2.length ≤ 10000 ∧ tinysT ks
def tinysT : List T → Prop
  | [] => True
  | x :: r => tinyT x ∧ tinysT r
end
theorem tinysT_at : ∀ (l : List T) (i : Nat) (x : T), tinysT l → l[i]? = some x → tinyT x
  | [], i, x, _, h => by simp at h
  | y :: r, 0, x, h, hx => by
    simp at hx; subst hx
    unfold tinysT at h; exact h.1
  | y :: r, i + 1, x, h, hx => by
    simp at hx
    unfold tinysT at h
    exact tinysT_at r i x h.2 hx
mutual
theorem weight_tiny : ∀ x : T, weightT x < 600 → tinyT x
  | .mk k t ks, h => by
    have hw : weightT (.mk k t ks) = addW (1 + min t.2.length 10000 / 16) (weightsT ks) := by rw [weightT]
    rw [hw] at h
    have hs := addW_sum _ _ (by omega : addW (1 + min t.2.length 10000 / 16) (weightsT ks) < 1000)
    rw [hs] at h
    unfold tinyT
    exact ⟨by omega, weights_tiny ks (by omega)⟩
theorem weights_tiny : ∀ l : List T, (weightsT l).sum < 600 → tinysT l
  | [], _ => by unfold tinysT; trivial
  | x :: r, h => by
    unfold weightsT at h
    rw [List.sum_cons] at h
    unfold tinysT
    exact ⟨weight_tiny x (by omega), weights_tiny r (by omega)⟩
end
theorem formRs_all : ∀ l : List T, formRs l = l.all formR
  | [] => by unfold formRs; rfl
  | x :: r => by unfold formRs; rw [List.all_cons, formRs_all r]
def kidQ (y : T) : Bool := y.kind == 1 && y.kids.isEmpty && aheadK y.tok && isOne y.tok
theorem all_end {q : T → Bool} {b0 : Bool} {ks : List T} {i : Nat} (h : (b0 && (ks.take i).all q) = false) : (b0 && ks.all q) = false := by
  cases b0 with
  | false => rfl
  | true =>
    rw [Bool.true_and] at h ⊢
    rw [← List.take_append_drop i ks, List.all_append, h, Bool.false_and]
theorem all_next {q : T → Bool} {b0 : Bool} {ks : List T} {i : Nat} (hi : i < ks.length) (h : (b0 && (ks.take i).all q) = true) : (b0 && (ks.take (i + 1)).all q) = q (ks[i]'hi) := by
  rw [Bool.and_eq_true] at h
  rw [List.take_succ_eq_append_getElem hi, List.all_append, h.1, h.2]
  simp
/-- How the walk learns whether a token is empty. -/
theorem empty_cases (t : Tok) : (emptyT t = false ∧ ((t.1 : Int) == 0) = false) ∨ (emptyT t = false ∧ ((t.1 : Int) == 0) = true ∧ ((⟨t.2.toArray⟩ : ByteArray).toList.isEmpty) = false ∧ t.2.isEmpty = false) ∨ (emptyT t = true ∧ t = (0, [])) := by
  by_cases h0 : t.1 = 0
  · by_cases h2 : t.2 = []
    · exact .inr (.inr ⟨by unfold emptyT; exact beq_iff_eq.2 (Prod.ext h0 h2), Prod.ext h0 h2⟩)
    · refine .inr (.inl ⟨?_, by rw [h0]; rfl, ?_, by simpa using h2⟩)
      · unfold emptyT; exact beq_eq_false_iff_ne.2 fun e => h2 (by rw [e])
      · rw [Lib.toList_data]; simpa using h2
  · refine .inl ⟨?_, ?_⟩
    · unfold emptyT; exact beq_eq_false_iff_ne.2 fun e => h0 (by rw [e])
    · exact beq_eq_false_iff_ne.2 (by omega)
set_option maxRecDepth 100000 in
set_option maxHeartbeats 16000000 in
theorem gform_two (x : T) (W : World) (p : Option Addr) (c : Nat) (hx : NAt AnyB W x (cellsN x p c)) (hc : x.kids.length ≤ 1000000) (ht : tinyT x) (hE : Env W) (hk : x.kind = 2)
    (HREC : Hid (∀ (i : Nat) y, x.kids[i]? = some y → ∀ (w : World) (p : Option Addr) (c : Nat), Env w → NAt AnyB w y (cellsN y p c) → Calls Tryz.prog 45 #[aggN y p c] w (BoolEnd (formR y) w))) :
    Calls Tryz.prog 45 #[aggN x p c] W (BoolEnd (formR x) W) := by
  obtain ⟨w1, hw1⟩ : ∃ w, W.alloc (.cells #[.int .u8 x.kind, .int .u8 x.tok.1, .string ⟨x.tok.2.toArray⟩, .slice p x.kids.length c] 27) = w := ⟨_, rfl⟩
  have n1 : w1.heap[W.heap.size]? = some (boxN x p c) := by rw [← hw1]; exact World.alloc_heap_new W _
  have b1 : Below W.heap.size W w1 := by rw [← hw1]; exact galloc (Below.refl _ _) _
  obtain ⟨c0, c1, c2, c3⟩ := box4 n1
  have HEV : Hid (∀ w, Below W.heap.size W w → Env w) := Lib.hid fun w hb => hE.below hb hE.size
  have HB1 := Lib.hid b1
  have HN1 := Lib.hid n1
  have HX := Lib.hid (hx.below b1)
  have HTI := Lib.hid ht
  obtain ⟨R, hR⟩ : ∃ R, formR x = R := ⟨_, rfl⟩
  have HR := Lib.hid hR
  rw [hR]
  have hem := empty_cases x.tok
  obtain ⟨em, hemq⟩ : ∃ em, emptyT x.tok = em := ⟨_, rfl⟩
  have HEM := Lib.hid hemq
  rw [hemq] at hem
  clear n1 b1 hx hR ht hE hemq
  have hk3 : ((x.kind : Int) == 2) = true := by rw [hk]; rfl
  have hf : R = (x.tok.1 == 0 && x.kids.isEmpty) := by
    rw [← HR.out]
    obtain ⟨k, t, ks⟩ := x
    have hk : k = 2 := hk
    subst hk
    unfold formR; rw [if_pos rfl]; rfl
  subst hf
  have hq : (x.tok.1 == 0) = ((x.tok.1 : Int) == 0) := by rw [Bool.eq_iff_iff]; simp
  have hl : x.kids.isEmpty = ((x.kids.length : Int) == 0) := by rw [Bool.eq_iff_iff]; simp
  clear HR hk
  rcases hem with ⟨rfl, e1⟩ | ⟨rfl, e1, e2, e3⟩ | ⟨rfl, e1⟩
  case' inr.inr => (have e2 : ((x.tok.1 : Int) == 0) = true := (by rw [e1]; rfl); have e3 : ((⟨x.tok.2.toArray⟩ : ByteArray).toList.isEmpty) = true := (by rw [e1, Lib.toList_data]; rfl); have e4 : x.tok.2.isEmpty = true := (by rw [e1]; rfl); clear e1)
  all_goals
    cases hl0 : ((x.kids.length : Int) == 0) with
    | true =>
      go_enter Tryz.func45, Tryz.ntmps45
      go_wp2_with fail
      go_ret
      exact ⟨by first | (rw [hq, e1, hl, hl0]; rfl) | (rw [hq, e2, hl, hl0]; rfl), HB1.out⟩
    | false =>
      go_enter Tryz.func45, Tryz.ntmps45
      go_wp2_with fail
      go_ret
      exact ⟨by first | (rw [hq, e1, hl, hl0]; rfl) | (rw [hq, e2, hl, hl0]; rfl), HB1.out⟩
set_option maxRecDepth 100000 in
set_option maxHeartbeats 16000000 in
theorem gform_bad (x : T) (W : World) (p : Option Addr) (c : Nat) (hx : NAt AnyB W x (cellsN x p c)) (hc : x.kids.length ≤ 1000000) (ht : tinyT x) (hE : Env W) (hk : x.kind = 0 ∨ 18 < x.kind)
    (HREC : Hid (∀ (i : Nat) y, x.kids[i]? = some y → ∀ (w : World) (p : Option Addr) (c : Nat), Env w → NAt AnyB w y (cellsN y p c) → Calls Tryz.prog 45 #[aggN y p c] w (BoolEnd (formR y) w))) :
    Calls Tryz.prog 45 #[aggN x p c] W (BoolEnd (formR x) W) := by
  obtain ⟨w1, hw1⟩ : ∃ w, W.alloc (.cells #[.int .u8 x.kind, .int .u8 x.tok.1, .string ⟨x.tok.2.toArray⟩, .slice p x.kids.length c] 27) = w := ⟨_, rfl⟩
  have n1 : w1.heap[W.heap.size]? = some (boxN x p c) := by rw [← hw1]; exact World.alloc_heap_new W _
  have b1 : Below W.heap.size W w1 := by rw [← hw1]; exact galloc (Below.refl _ _) _
  obtain ⟨c0, c1, c2, c3⟩ := box4 n1
  have HEV : Hid (∀ w, Below W.heap.size W w → Env w) := Lib.hid fun w hb => hE.below hb hE.size
  have HB1 := Lib.hid b1
  have HN1 := Lib.hid n1
  have HX := Lib.hid (hx.below b1)
  have HTI := Lib.hid ht
  obtain ⟨R, hR⟩ : ∃ R, formR x = R := ⟨_, rfl⟩
  have HR := Lib.hid hR
  rw [hR]
  have hem := empty_cases x.tok
  obtain ⟨em, hemq⟩ : ∃ em, emptyT x.tok = em := ⟨_, rfl⟩
  have HEM := Lib.hid hemq
  rw [hemq] at hem
  clear n1 b1 hx hR ht hE hemq
  have hk3 : ((x.kind : Int) == 2) = false := beq_eq_false_iff_ne.2 (by omega)
  have hf : R = false := by
    rw [← HR.out]
    obtain ⟨k, t, ks⟩ := x
    have hk : k = 0 ∨ 18 < k := hk
    unfold formR; rw [if_neg (by omega), if_pos hk]
  subst hf
  clear HR
  rcases hk with hk | hk
  case' inl => (have h1 : decide ((x.kind : Int) < 1) = true := (by rw [hk]; rfl); have h1' : decide (x.kind < 1) = true := decide_eq_true (by omega))
  case' inr => (have h1 : decide ((x.kind : Int) < 1) = false := decide_eq_false (by omega); have h2 : decide ((18 : Int) < (x.kind : Int)) = true := decide_eq_true (by omega); have h1' : decide (x.kind < 1) = false := decide_eq_false (by omega); have h2' : decide (18 < x.kind) = true := decide_eq_true (by omega))
  all_goals
    clear hk
    rcases hem with ⟨rfl, e1⟩ | ⟨rfl, e1, e2, e3⟩ | ⟨rfl, e1⟩
    case' inr.inr => (have e2 : ((x.tok.1 : Int) == 0) = true := (by rw [e1]; rfl); have e3 : ((⟨x.tok.2.toArray⟩ : ByteArray).toList.isEmpty) = true := (by rw [e1, Lib.toList_data]; rfl); have e4 : x.tok.2.isEmpty = true := (by rw [e1]; rfl); clear e1)
    all_goals
      go_enter Tryz.func45, Tryz.ntmps45
      go_wp2_with fail
      go_ret
      exact ⟨rfl, HB1.out⟩
set_option maxRecDepth 100000 in
set_option maxHeartbeats 16000000 in
theorem gform_other (x : T) (W : World) (p : Option Addr) (c : Nat) (hx : NAt AnyB W x (cellsN x p c)) (hc : x.kids.length ≤ 1000000) (ht : tinyT x) (hE : Env W) (hk : 3 ≤ x.kind ∧ x.kind ≤ 18)
    (HREC : Hid (∀ (i : Nat) y, x.kids[i]? = some y → ∀ (w : World) (p : Option Addr) (c : Nat), Env w → NAt AnyB w y (cellsN y p c) → Calls Tryz.prog 45 #[aggN y p c] w (BoolEnd (formR y) w))) :
    Calls Tryz.prog 45 #[aggN x p c] W (BoolEnd (formR x) W) := by
  obtain ⟨w1, hw1⟩ : ∃ w, W.alloc (.cells #[.int .u8 x.kind, .int .u8 x.tok.1, .string ⟨x.tok.2.toArray⟩, .slice p x.kids.length c] 27) = w := ⟨_, rfl⟩
  have n1 : w1.heap[W.heap.size]? = some (boxN x p c) := by rw [← hw1]; exact World.alloc_heap_new W _
  have b1 : Below W.heap.size W w1 := by rw [← hw1]; exact galloc (Below.refl _ _) _
  obtain ⟨c0, c1, c2, c3⟩ := box4 n1
  have HEV : Hid (∀ w, Below W.heap.size W w → Env w) := Lib.hid fun w hb => hE.below hb hE.size
  have HB1 := Lib.hid b1
  have HN1 := Lib.hid n1
  have HX := Lib.hid (hx.below b1)
  have HTI := Lib.hid ht
  obtain ⟨R, hR⟩ : ∃ R, formR x = R := ⟨_, rfl⟩
  have HR := Lib.hid hR
  rw [hR]
  have hem := empty_cases x.tok
  obtain ⟨em, hemq⟩ : ∃ em, emptyT x.tok = em := ⟨_, rfl⟩
  have HEM := Lib.hid hemq
  rw [hemq] at hem
  clear n1 b1 hx hR ht hE hemq
  have hk3 : ((x.kind : Int) == 2) = false := beq_eq_false_iff_ne.2 (by omega)
  have hk4 : ((x.kind : Int) == 1) = false := beq_eq_false_iff_ne.2 (by omega)
  have h1 : decide ((x.kind : Int) < 1) = false := decide_eq_false (by omega)
  have h2 : decide ((18 : Int) < (x.kind : Int)) = false := decide_eq_false (by omega)
  have h1' : decide (x.kind < 1) = false := decide_eq_false (by omega)
  have h2' : decide (18 < x.kind) = false := decide_eq_false (by omega)
  obtain ⟨B0, hB0⟩ : ∃ B0, em = B0 := ⟨_, rfl⟩
  have HRB : Hid (R = (B0 && x.kids.all formR)) := Lib.hid (by
    rw [← HR.out, ← hB0, ← HEM.out]
    obtain ⟨k, t, ks⟩ := x
    have hk : 3 ≤ k ∧ k ≤ 18 := hk
    conv => lhs; unfold formR
    rw [if_neg (by omega), if_neg (by omega), if_neg (by omega), formRs_all]
    rfl)
  have HI0 : Hid (Below W.heap.size W w1 ∧ w1.heap[W.heap.size]? = some (boxN x p c) ∧ NAt AnyB w1 x (cellsN x p c)) := Lib.hid ⟨HB1.out, HN1.out, HX.out⟩
  have HO0 : Hid (em = (B0 && (x.kids.take 0).all formR)) := Lib.hid (by rw [hB0]; simp)
  clear HR hk HEM HB1 HN1 HX hB0
  rcases hem with ⟨rfl, e1⟩ | ⟨rfl, e1, e2, e3⟩ | ⟨rfl, e1⟩
  case' inr.inr => (have e2 : ((x.tok.1 : Int) == 0) = true := (by rw [e1]; rfl); have e3 : ((⟨x.tok.2.toArray⟩ : ByteArray).toList.isEmpty) = true := (by rw [e1, Lib.toList_data]; rfl); have e4 : x.tok.2.isEmpty = true := (by rw [e1]; rfl); clear e1)
  all_goals
    go_enter Tryz.func45, Tryz.ntmps45
    go_wp2_with fail
    go_loopw [4, 5, 6] (fun ov iv _ wr => ∃ (i : Nat) (b : Bool), i ≤ x.kids.length ∧ iv = .int .i64 i ∧ ov = .bool b ∧ Hid (b = (B0 && (x.kids.take i).all formR)) ∧ Hid (Below W.heap.size W wr ∧ wr.heap[W.heap.size]? = some (boxN x p c) ∧ NAt AnyB wr x (cellsN x p c))) (fun _ iv _ _ => x.kids.length - (intOf iv).toNat)
    case atStart => exact ⟨0, _, by omega, rfl, rfl, HO0, HI0⟩
    case round =>
      clear HI0 HO0 c0 c1 c2 c3
      obtain ⟨i, b, hi, rfl, rfl, HO, HI⟩ := hrel
      obtain ⟨c0, c1, c2, c3⟩ := box4 HI.out.2.1
      rcases Nat.lt_or_ge i x.kids.length with hlt | hge
      · have hlt' : (i : Int) < (x.kids.length : Int) := by omega
        have hlt2 : decide ((i : Int) < (x.kids.length : Int)) = true := decide_eq_true hlt'
        cases b with
        | false =>
          have hf : R = false := by rw [HRB.out]; exact all_end HO.out.symm
          subst hf
          have HE := Lib.hid HI.out.1
          clear HRB HO HI HREC
          go_wp2_with fail
          go_ret
          exact ⟨rfl, HE.out⟩
        | true =>
          have hwi : IntKind.i64.wrap ((i : Int) + 1) = ((i + 1 : Nat) : Int) := by rw [IntWalk.i64_in _ (by omega)]; omega
          obtain ⟨g1, o1, p1, c1', rfl, ⟨k0, k1, k2, k3⟩, hx1⟩ := node_kid HI.out.2.2 i hlt
          have hnx := all_next (q := formR) hlt HO.out.symm
          have hti : tinyT (x.kids[i]'hlt) := by
            have h := HTI.out
            obtain ⟨k, t, ks⟩ := x
            unfold tinyT at h
            exact tinysT_at ks i _ h.2 (List.getElem?_eq_getElem hlt)
          have HTY := Lib.hid hti
          have HRK := Lib.hid (HREC.out i _ (List.getElem?_eq_getElem hlt))
          have HNX := Lib.hid hnx
          obtain ⟨w2, hw2⟩ : ∃ w, wr.alloc (.cells #[.int .u8 (x.kids[i]'hlt).kind, .int .u8 (x.kids[i]'hlt).tok.1, .string ⟨(x.kids[i]'hlt).tok.2.toArray⟩, .slice p1 (x.kids[i]'hlt).kids.length c1'] 27) = w := ⟨_, rfl⟩
          have n2 : w2.heap[wr.heap.size]? = some (boxN (x.kids[i]'hlt) p1 c1') := by rw [← hw2]; exact World.alloc_heap_new wr _
          have b2 : Below wr.heap.size wr w2 := by rw [← hw2]; exact galloc (Below.refl _ _) _
          obtain ⟨KB, hKB⟩ : ∃ KB, wr.heap.size = KB := ⟨_, rfl⟩
          have HI2 : Hid (Below W.heap.size W w2 ∧ w2.heap[W.heap.size]? = some (boxN x (some ⟨g1, o1, none⟩) c) ∧ NAt AnyB w2 x (cellsN x (some ⟨g1, o1, none⟩) c)) := Lib.hid ⟨HI.out.1.trans (b2.mono HI.out.1.size), (b2.block _ (Array.getElem?_eq_some_iff.1 HI.out.2.1).1).trans HI.out.2.1, HI.out.2.2.below b2⟩
          have HK2 := Lib.hid (hx1.below b2)
          rw [hKB] at n2
          have HN2 := Lib.hid n2
          obtain ⟨x0, x1, x2, x3⟩ := box4 HI2.out.2.1
          obtain ⟨y0, y1, y2, y3⟩ := box4 n2
          clear hnx hti hx1 b2 n2 HO HI HREC
          generalize x.kids[i]'hlt = y at *
          obtain ⟨B1, hB1⟩ : ∃ B1, (B0 && (x.kids.take (i + 1)).all formR) = B1 := ⟨_, rfl⟩
          rw [hB1] at HNX
          have HBN := Lib.hid hB1.symm
          clear hB1
          have hcall := HRK.out w2 p1 c1' (HEV.out w2 HI2.out.1) HK2.out
          go_wp2_with fail
          refine hcall.mono ?_
          rintro e w5 ⟨rfl, h5⟩
          have HI5 : Hid (Below W.heap.size W w5 ∧ w5.heap[W.heap.size]? = some (boxN x (some ⟨g1, o1, none⟩) c) ∧ NAt AnyB w5 x (cellsN x (some ⟨g1, o1, none⟩) c)) := Lib.hid ⟨HI2.out.1.trans (h5.mono HI2.out.1.size), (h5.block _ (Array.getElem?_eq_some_iff.1 HI2.out.2.1).1).trans HI2.out.2.1, HI2.out.2.2.below h5⟩
          rw [← HNX.out]
          clear h5 hcall HI2 HK2 HN2 x0 x1 x2 x3 y0 y1 y2 y3
          go_wp2
          exact ⟨⟨i + 1, B1, by omega, rfl, rfl, HBN, HI5⟩, by simp [intOf]; omega⟩
      · obtain rfl : i = x.kids.length := by omega
        have hlt' : ¬ (x.kids.length : Int) < (x.kids.length : Int) := by omega
        have hlt2 : decide ((x.kids.length : Int) < (x.kids.length : Int)) = false := decide_eq_false hlt'
        have hf : R = b := by rw [HRB.out, HO.out, List.take_length]
        subst hf
        have HE := Lib.hid HI.out.1
        clear HRB HO HI HREC
        go_wp2_with fail
        go_ret
        exact ⟨rfl, HE.out⟩
end Go.Proofs.YtingfomfibhnhaaGreatDoor
