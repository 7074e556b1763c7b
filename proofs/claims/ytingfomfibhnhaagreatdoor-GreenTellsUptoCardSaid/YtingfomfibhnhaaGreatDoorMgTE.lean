/-
  The document's form of a Leaf, and of any tree.
-/
import Derived.Test.YtingfomfibhnhaaGreatDoorMgTD
namespace Go.Proofs.YtingfomfibhnhaaGreatDoor
open Go.RowKit Go.Shelf

set_option maxRecDepth 100000 in
set_option maxHeartbeats 16000000 in
theorem gform_leaf (x : T) (W : World) (p : Option Addr) (c : Nat) (hx : NAt AnyB W x (cellsN x p c)) (hc : x.kids.length ≤ 1000000) (ht : tinyT x) (hE : Env W) (hk : x.kind = 1)
    (HREC : Hid (∀ (i : Nat) y, x.kids[i]? = some y → ∀ (w : World) (p : Option Addr) (c : Nat), Env w → NAt AnyB w y (cellsN y p c) → Calls Tryz.prog 45 #[aggN y p c] w (BoolEnd (formR y) w))) :
    Calls Tryz.prog 45 #[aggN x p c] W (BoolEnd (formR x) W) := by
  obtain ⟨w1, hw1⟩ : ∃ w, W.alloc (.cells #[.int .u8 x.kind, .int .u8 x.tok.1, .string ⟨x.tok.2.toArray⟩, .slice p x.kids.length c] 27) = w := ⟨_, rfl⟩
  have n1 : w1.heap[W.heap.size]? = some (boxN x p c) := by rw [← hw1]; exact World.alloc_heap_new W _
  have b1 : Below W.heap.size W w1 := by rw [← hw1]; exact galloc (Below.refl _ _) _
  obtain ⟨c0, c1, c2, c3⟩ := box4 n1
  have HEV : Hid (∀ w, Below W.heap.size W w → Env w) := Lib.hid fun w hb => hE.below hb hE.size
  have HB1 := Lib.hid b1
  have HN1 := Lib.hid n1
  have HX := Lib.hid (hx.below b1)
  have HTI := Lib.hid ht
  obtain ⟨R, hR⟩ : ∃ R, formR x = R := ⟨_, rfl⟩
  have HR := Lib.hid hR
  rw [hR]
  have hem := empty_cases x.tok
  obtain ⟨em, hemq⟩ : ∃ em, emptyT x.tok = em := ⟨_, rfl⟩
  have HEM := Lib.hid hemq
  rw [hemq] at hem
  clear n1 b1 hx hR ht hE hemq
  have hk3 : ((x.kind : Int) == 2) = false := beq_eq_false_iff_ne.2 (by omega)
  have hk4 : ((x.kind : Int) == 1) = true := by rw [hk]; rfl
  have h1 : decide ((x.kind : Int) < 1) = false := decide_eq_false (by omega)
  have h2 : decide ((18 : Int) < (x.kind : Int)) = false := decide_eq_false (by omega)
  have h1' : decide (x.kind < 1) = false := decide_eq_false (by omega)
  have h2' : decide (18 < x.kind) = false := decide_eq_false (by omega)
  have htl : x.tok.2.length ≤ 1000000 := by
    have h := HTI.out
    obtain ⟨k, t, ks⟩ := x
    unfold tinyT at h
    exact Nat.le_trans h.1 (by omega)
  have hc58 := rone58_any x.tok w1 htl (HEV.out w1 HB1.out)
  obtain ⟨qo, hqo⟩ : ∃ q, isOne x.tok = q := ⟨_, rfl⟩
  obtain ⟨qa, hqa⟩ : ∃ q, aheadK x.tok = q := ⟨_, rfl⟩
  rw [hqo] at hc58
  have HC59 : Hid (∀ w, Calls Tryz.prog 59 #[.agg #[.int .u8 x.tok.1, .string ⟨x.tok.2.toArray⟩]] w (BoolEnd qa w)) := Lib.hid fun w => by rw [← hqa]; exact rahead_any x.tok w
  obtain ⟨B0, hB0⟩ : ∃ B0, (em || qo && !qa) = B0 := ⟨_, rfl⟩
  have HRB : Hid (R = (B0 && x.kids.all kidQ)) := Lib.hid (by
    rw [← HR.out, ← hB0, ← HEM.out, ← hqo, ← hqa]
    obtain ⟨k, t, ks⟩ := x
    have hk : k = 1 := hk
    conv => lhs; unfold formR
    rw [if_neg (by omega), if_neg (by omega), if_pos hk]
    rfl)
  have HBZ := Lib.hid hB0
  clear HR hk HEM htl hqo hqa hB0
  have HCE : Hid (∀ w, Below w1.heap.size w1 w → Hid (Below W.heap.size W w ∧ w.heap[W.heap.size]? = some (boxN x p c) ∧ NAt AnyB w x (cellsN x p c))) := Lib.hid fun w hb => Lib.hid ⟨HB1.out.trans (hb.mono HB1.out.size), (hb.block _ (Array.getElem?_eq_some_iff.1 HN1.out).1).trans HN1.out, HX.out.below hb⟩
  rcases hem with ⟨rfl, e1⟩ | ⟨rfl, e1, e2, e3⟩ | ⟨rfl, e1⟩
  case' inr.inr =>
    have e2 : ((x.tok.1 : Int) == 0) = true := by rw [e1]; rfl
    have e3 : ((⟨x.tok.2.toArray⟩ : ByteArray).toList.isEmpty) = true := by rw [e1, Lib.toList_data]; rfl
    have e4 : x.tok.2.isEmpty = true := by rw [e1]; rfl
    have HI0 := HCE.out w1 (Below.refl _ _)
    have HO0 : Hid (true = (B0 && (x.kids.take 0).all kidQ)) := Lib.hid (by rw [← HBZ.out]; simp)
    clear e1 HB1 HN1 HX HCE HC59 hc58
    go_enter Tryz.func45, Tryz.ntmps45
    go_wp2_with fail
    go_loopw [4, 5, 6] (fun ov iv _ wr => ∃ (i : Nat) (b : Bool), i ≤ x.kids.length ∧ iv = .int .i64 i ∧ ov = .bool b ∧ Hid (b = (B0 && (x.kids.take i).all kidQ)) ∧ Hid (Below W.heap.size W wr ∧ wr.heap[W.heap.size]? = some (boxN x p c) ∧ NAt AnyB wr x (cellsN x p c))) (fun _ iv _ _ => x.kids.length - (intOf iv).toNat)
    case atStart => exact ⟨0, _, by omega, rfl, rfl, HO0, HI0⟩
    case round =>
      clear HI0 HO0 c0 c1 c2 c3
      obtain ⟨i, b, hi, rfl, rfl, HO, HI⟩ := hrel
      obtain ⟨c0, c1, c2, c3⟩ := box4 HI.out.2.1
      rcases Nat.lt_or_ge i x.kids.length with hlt | hge
      · have hlt' : (i : Int) < (x.kids.length : Int) := by omega
        have hlt2 : decide ((i : Int) < (x.kids.length : Int)) = true := decide_eq_true hlt'
        cases b with
        | false =>
          have hf : R = false := by rw [HRB.out]; exact all_end HO.out.symm
          subst hf
          have HE := Lib.hid HI.out.1
          clear HRB HO HI HREC
          go_wp2_with fail
          go_ret
          exact ⟨rfl, HE.out⟩
        | true =>
          have hwi : IntKind.i64.wrap ((i : Int) + 1) = ((i + 1 : Nat) : Int) := by rw [IntWalk.i64_in _ (by omega)]; omega
          obtain ⟨g1, o1, p1, c1', rfl, ⟨k0, k1, k2, k3⟩, hx1⟩ := node_kid HI.out.2.2 i hlt
          have hnx := all_next (q := kidQ) hlt HO.out.symm
          have hti : tinyT (x.kids[i]'hlt) := by
            have h := HTI.out
            obtain ⟨k, t, ks⟩ := x
            unfold tinyT at h
            exact tinysT_at ks i _ h.2 (List.getElem?_eq_getElem hlt)
          have HTY := Lib.hid hti
          have HRK := Lib.hid (HREC.out i _ (List.getElem?_eq_getElem hlt))
          have HNX := Lib.hid hnx
          obtain ⟨w2, hw2⟩ : ∃ w, wr.alloc (.cells #[.int .u8 (x.kids[i]'hlt).kind, .int .u8 (x.kids[i]'hlt).tok.1, .string ⟨(x.kids[i]'hlt).tok.2.toArray⟩, .slice p1 (x.kids[i]'hlt).kids.length c1'] 27) = w := ⟨_, rfl⟩
          have n2 : w2.heap[wr.heap.size]? = some (boxN (x.kids[i]'hlt) p1 c1') := by rw [← hw2]; exact World.alloc_heap_new wr _
          have b2 : Below wr.heap.size wr w2 := by rw [← hw2]; exact galloc (Below.refl _ _) _
          obtain ⟨KB, hKB⟩ : ∃ KB, wr.heap.size = KB := ⟨_, rfl⟩
          have HI2 : Hid (Below W.heap.size W w2 ∧ w2.heap[W.heap.size]? = some (boxN x (some ⟨g1, o1, none⟩) c) ∧ NAt AnyB w2 x (cellsN x (some ⟨g1, o1, none⟩) c)) := Lib.hid ⟨HI.out.1.trans (b2.mono HI.out.1.size), (b2.block _ (Array.getElem?_eq_some_iff.1 HI.out.2.1).1).trans HI.out.2.1, HI.out.2.2.below b2⟩
          have HK2 := Lib.hid (hx1.below b2)
          rw [hKB] at n2
          have HN2 := Lib.hid n2
          obtain ⟨x0, x1, x2, x3⟩ := box4 HI2.out.2.1
          obtain ⟨y0, y1, y2, y3⟩ := box4 n2
          clear hnx hti hx1 b2 n2 HO HI HREC
          generalize x.kids[i]'hlt = y at *
          obtain ⟨B1, hB1⟩ : ∃ B1, (B0 && (x.kids.take (i + 1)).all kidQ) = B1 := ⟨_, rfl⟩
          rw [hB1] at HNX
          have HBN := Lib.hid hB1.symm
          clear hB1
          have hny : ∀ (e : Bool), kidQ y = e → B1 = e := fun e h => by rw [HNX.out, h]
          have hfin : ∀ (w : World), Below w2.heap.size w2 w → Hid (Below W.heap.size W w ∧ w.heap[W.heap.size]? = some (boxN x (some ⟨g1, o1, none⟩) c) ∧ NAt AnyB w x (cellsN x (some ⟨g1, o1, none⟩) c)) := fun w hb => Lib.hid ⟨HI2.out.1.trans (hb.mono HI2.out.1.size), (hb.block _ (Array.getElem?_eq_some_iff.1 HI2.out.2.1).1).trans HI2.out.2.1, HI2.out.2.2.below hb⟩
          have hkq : kidQ y = (((y.kind == 1) && y.kids.isEmpty) && aheadK y.tok && isOne y.tok) := rfl
          by_cases hyk : y.kind = 1
          case neg =>
            have d1 : ((y.kind : Int) == 1) = false := beq_eq_false_iff_ne.2 (by omega)
            obtain rfl := hny false (by rw [hkq, show (y.kind == 1) = false from beq_eq_false_iff_ne.2 hyk]; rfl)
            clear hkq hny hyk HRK
            go_wp2_with fail
            exact ⟨⟨i + 1, false, by omega, rfl, rfl, HBN, hfin _ (Below.refl _ _)⟩, by simp [intOf]; omega⟩
          have d1 : ((y.kind : Int) == 1) = true := by rw [hyk]; rfl
          have d1' : (y.kind == 1) = true := by rw [hyk]; rfl
          by_cases hyl : y.kids.length = 0
          case neg =>
            have d2 : ((y.kids.length : Int) == 0) = false := beq_eq_false_iff_ne.2 (by omega)
            obtain rfl := hny false (by rw [hkq, d1', show y.kids.isEmpty = false by cases h : y.kids with | nil => rw [h] at hyl; exact absurd rfl hyl | cons a b => rfl]; rfl)
            clear hkq hny hyk hyl d1' HRK
            go_wp2_with fail
            exact ⟨⟨i + 1, false, by omega, rfl, rfl, HBN, hfin _ (Below.refl _ _)⟩, by simp [intOf]; omega⟩
          have d2 : ((y.kids.length : Int) == 0) = true := by rw [hyl]; rfl
          have d2' : y.kids.isEmpty = true := by rw [List.isEmpty_iff]; exact List.eq_nil_of_length_eq_zero hyl
          have hc59 := rahead_any y.tok w2
          obtain ⟨qa, hqa⟩ : ∃ q, aheadK y.tok = q := ⟨_, rfl⟩
          rw [hqa] at hc59 hkq
          cases qa with
          | false =>
            obtain rfl := hny false (by rw [hkq, d1', d2']; rfl)
            clear hkq hny hyk hyl d1' d2' hqa HRK
            go_wp2_with fail
            refine hc59.mono ?_
            rintro e w5 ⟨rfl, h5⟩
            have HIz := hfin _ h5
            clear h5 hc59 hfin x0 x1 x2 x3 y0 y1 y2 y3
            go_wp2_with fail
            exact ⟨⟨i + 1, false, by omega, rfl, rfl, HBN, HIz⟩, by simp [intOf]; omega⟩
          | true =>
            rw [d1', d2'] at hkq
            have hB1 := hny (isOne y.tok) hkq
            have htl : y.tok.2.length ≤ 1000000 := by
              have h := HTY.out
              obtain ⟨k, t, ks⟩ := y
              unfold tinyT at h
              exact Nat.le_trans h.1 (by omega)
            clear hkq hny hyk hyl d1' d2' hqa HRK
            go_wp2_with fail
            refine hc59.mono ?_
            rintro e w5 ⟨rfl, h5⟩
            have hn5 := (h5.block _ (Array.getElem?_eq_some_iff.1 HN2.out).1).trans HN2.out
            obtain ⟨z0, z1, z2, z3⟩ := box4 hn5
            have hc58 := rone58_any y.tok w5 htl (HEV.out w5 (hfin _ h5).out.1)
            have HB5 := Lib.hid h5
            clear h5 hc59 x0 x1 x2 x3 y0 y1 y2 y3 hn5 htl
            go_wp2_with fail
            refine hc58.mono ?_
            rintro e w6 ⟨rfl, h6⟩
            have HIz := hfin _ (gcall HB5.out h6 HB5.out.size)
            rw [← hB1]
            clear h6 hc58 hfin z0 z1 z2 z3 hB1
            go_wp2_with fail
            exact ⟨⟨i + 1, B1, by omega, rfl, rfl, HBN, HIz⟩, by simp [intOf]; omega⟩
      · obtain rfl : i = x.kids.length := by omega
        have hlt' : ¬ (x.kids.length : Int) < (x.kids.length : Int) := by omega
        have hlt2 : decide ((x.kids.length : Int) < (x.kids.length : Int)) = false := decide_eq_false hlt'
        have hf : R = b := by rw [HRB.out, HO.out, List.take_length]
        subst hf
        have HE := Lib.hid HI.out.1
        clear HRB HO HI HREC
        go_wp2_with fail
        go_ret
        exact ⟨rfl, HE.out⟩

  all_goals
    cases qo with
    | false =>
      have HO0 : Hid (false = (B0 && (x.kids.take 0).all kidQ)) := Lib.hid (by rw [← HBZ.out]; simp)
      go_enter Tryz.func45, Tryz.ntmps45
      go_wp2_with fail
      refine hc58.mono ?_
      rintro e w3 ⟨rfl, h3⟩
      have HI0 := HCE.out w3 h3
      clear c0 c1 c2 c3
      obtain ⟨c0, c1, c2, c3⟩ := box4 HI0.out.2.1
      clear h3 HB1 HN1 HX HCE HC59 hc58
      go_wp2_with fail
      go_loopw [4, 5, 6] (fun ov iv _ wr => ∃ (i : Nat) (b : Bool), i ≤ x.kids.length ∧ iv = .int .i64 i ∧ ov = .bool b ∧ Hid (b = (B0 && (x.kids.take i).all kidQ)) ∧ Hid (Below W.heap.size W wr ∧ wr.heap[W.heap.size]? = some (boxN x p c) ∧ NAt AnyB wr x (cellsN x p c))) (fun _ iv _ _ => x.kids.length - (intOf iv).toNat)
      case atStart => exact ⟨0, _, by omega, rfl, rfl, HO0, HI0⟩
      case round =>
        clear HI0 HO0 c0 c1 c2 c3
        obtain ⟨i, b, hi, rfl, rfl, HO, HI⟩ := hrel
        obtain ⟨c0, c1, c2, c3⟩ := box4 HI.out.2.1
        rcases Nat.lt_or_ge i x.kids.length with hlt | hge
        · have hlt' : (i : Int) < (x.kids.length : Int) := by omega
          have hlt2 : decide ((i : Int) < (x.kids.length : Int)) = true := decide_eq_true hlt'
          cases b with
          | false =>
            have hf : R = false := by rw [HRB.out]; exact all_end HO.out.symm
            subst hf
            have HE := Lib.hid HI.out.1
            clear HRB HO HI HREC
            go_wp2_with fail
            go_ret
            exact ⟨rfl, HE.out⟩
          | true =>
            have hwi : IntKind.i64.wrap ((i : Int) + 1) = ((i + 1 : Nat) : Int) := by rw [IntWalk.i64_in _ (by omega)]; omega
            obtain ⟨g1, o1, p1, c1', rfl, ⟨k0, k1, k2, k3⟩, hx1⟩ := node_kid HI.out.2.2 i hlt
            have hnx := all_next (q := kidQ) hlt HO.out.symm
            have hti : tinyT (x.kids[i]'hlt) := by
              have h := HTI.out
              obtain ⟨k, t, ks⟩ := x
              unfold tinyT at h
              exact tinysT_at ks i _ h.2 (List.getElem?_eq_getElem hlt)
            have HTY := Lib.hid hti
            have HRK := Lib.hid (HREC.out i _ (List.getElem?_eq_getElem hlt))
            have HNX := Lib.hid hnx
            obtain ⟨w2, hw2⟩ : ∃ w, wr.alloc (.cells #[.int .u8 (x.kids[i]'hlt).kind, .int .u8 (x.kids[i]'hlt).tok.1, .string ⟨(x.kids[i]'hlt).tok.2.toArray⟩, .slice p1 (x.kids[i]'hlt).kids.length c1'] 27) = w := ⟨_, rfl⟩
            have n2 : w2.heap[wr.heap.size]? = some (boxN (x.kids[i]'hlt) p1 c1') := by rw [← hw2]; exact World.alloc_heap_new wr _
            have b2 : Below wr.heap.size wr w2 := by rw [← hw2]; exact galloc (Below.refl _ _) _
            obtain ⟨KB, hKB⟩ : ∃ KB, wr.heap.size = KB := ⟨_, rfl⟩
            have HI2 : Hid (Below W.heap.size W w2 ∧ w2.heap[W.heap.size]? = some (boxN x (some ⟨g1, o1, none⟩) c) ∧ NAt AnyB w2 x (cellsN x (some ⟨g1, o1, none⟩) c)) := Lib.hid ⟨HI.out.1.trans (b2.mono HI.out.1.size), (b2.block _ (Array.getElem?_eq_some_iff.1 HI.out.2.1).1).trans HI.out.2.1, HI.out.2.2.below b2⟩
            have HK2 := Lib.hid (hx1.below b2)
            rw [hKB] at n2
            have HN2 := Lib.hid n2
            obtain ⟨x0, x1, x2, x3⟩ := box4 HI2.out.2.1
            obtain ⟨y0, y1, y2, y3⟩ := box4 n2
            clear hnx hti hx1 b2 n2 HO HI HREC
            generalize x.kids[i]'hlt = y at *
            obtain ⟨B1, hB1⟩ : ∃ B1, (B0 && (x.kids.take (i + 1)).all kidQ) = B1 := ⟨_, rfl⟩
            rw [hB1] at HNX
            have HBN := Lib.hid hB1.symm
            clear hB1
            have hny : ∀ (e : Bool), kidQ y = e → B1 = e := fun e h => by rw [HNX.out, h]
            have hfin : ∀ (w : World), Below w2.heap.size w2 w → Hid (Below W.heap.size W w ∧ w.heap[W.heap.size]? = some (boxN x (some ⟨g1, o1, none⟩) c) ∧ NAt AnyB w x (cellsN x (some ⟨g1, o1, none⟩) c)) := fun w hb => Lib.hid ⟨HI2.out.1.trans (hb.mono HI2.out.1.size), (hb.block _ (Array.getElem?_eq_some_iff.1 HI2.out.2.1).1).trans HI2.out.2.1, HI2.out.2.2.below hb⟩
            have hkq : kidQ y = (((y.kind == 1) && y.kids.isEmpty) && aheadK y.tok && isOne y.tok) := rfl
            by_cases hyk : y.kind = 1
            case neg =>
              have d1 : ((y.kind : Int) == 1) = false := beq_eq_false_iff_ne.2 (by omega)
              obtain rfl := hny false (by rw [hkq, show (y.kind == 1) = false from beq_eq_false_iff_ne.2 hyk]; rfl)
              clear hkq hny hyk HRK
              go_wp2_with fail
              exact ⟨⟨i + 1, false, by omega, rfl, rfl, HBN, hfin _ (Below.refl _ _)⟩, by simp [intOf]; omega⟩
            have d1 : ((y.kind : Int) == 1) = true := by rw [hyk]; rfl
            have d1' : (y.kind == 1) = true := by rw [hyk]; rfl
            by_cases hyl : y.kids.length = 0
            case neg =>
              have d2 : ((y.kids.length : Int) == 0) = false := beq_eq_false_iff_ne.2 (by omega)
              obtain rfl := hny false (by rw [hkq, d1', show y.kids.isEmpty = false by cases h : y.kids with | nil => rw [h] at hyl; exact absurd rfl hyl | cons a b => rfl]; rfl)
              clear hkq hny hyk hyl d1' HRK
              go_wp2_with fail
              exact ⟨⟨i + 1, false, by omega, rfl, rfl, HBN, hfin _ (Below.refl _ _)⟩, by simp [intOf]; omega⟩
            have d2 : ((y.kids.length : Int) == 0) = true := by rw [hyl]; rfl
            have d2' : y.kids.isEmpty = true := by rw [List.isEmpty_iff]; exact List.eq_nil_of_length_eq_zero hyl
            have hc59 := rahead_any y.tok w2
            obtain ⟨qa, hqa⟩ : ∃ q, aheadK y.tok = q := ⟨_, rfl⟩
            rw [hqa] at hc59 hkq
            cases qa with
            | false =>
              obtain rfl := hny false (by rw [hkq, d1', d2']; rfl)
              clear hkq hny hyk hyl d1' d2' hqa HRK
              go_wp2_with fail
              refine hc59.mono ?_
              rintro e w5 ⟨rfl, h5⟩
              have HIz := hfin _ h5
              clear h5 hc59 hfin x0 x1 x2 x3 y0 y1 y2 y3
              go_wp2_with fail
              exact ⟨⟨i + 1, false, by omega, rfl, rfl, HBN, HIz⟩, by simp [intOf]; omega⟩
            | true =>
              rw [d1', d2'] at hkq
              have hB1 := hny (isOne y.tok) hkq
              have htl : y.tok.2.length ≤ 1000000 := by
                have h := HTY.out
                obtain ⟨k, t, ks⟩ := y
                unfold tinyT at h
                exact Nat.le_trans h.1 (by omega)
              clear hkq hny hyk hyl d1' d2' hqa HRK
              go_wp2_with fail
              refine hc59.mono ?_
              rintro e w5 ⟨rfl, h5⟩
              have hn5 := (h5.block _ (Array.getElem?_eq_some_iff.1 HN2.out).1).trans HN2.out
              obtain ⟨z0, z1, z2, z3⟩ := box4 hn5
              have hc58 := rone58_any y.tok w5 htl (HEV.out w5 (hfin _ h5).out.1)
              have HB5 := Lib.hid h5
              clear h5 hc59 x0 x1 x2 x3 y0 y1 y2 y3 hn5 htl
              go_wp2_with fail
              refine hc58.mono ?_
              rintro e w6 ⟨rfl, h6⟩
              have HIz := hfin _ (gcall HB5.out h6 HB5.out.size)
              rw [← hB1]
              clear h6 hc58 hfin z0 z1 z2 z3 hB1
              go_wp2_with fail
              exact ⟨⟨i + 1, B1, by omega, rfl, rfl, HBN, HIz⟩, by simp [intOf]; omega⟩
        · obtain rfl : i = x.kids.length := by omega
          have hlt' : ¬ (x.kids.length : Int) < (x.kids.length : Int) := by omega
          have hlt2 : decide ((x.kids.length : Int) < (x.kids.length : Int)) = false := decide_eq_false hlt'
          have hf : R = b := by rw [HRB.out, HO.out, List.take_length]
          subst hf
          have HE := Lib.hid HI.out.1
          clear HRB HO HI HREC
          go_wp2_with fail
          go_ret
          exact ⟨rfl, HE.out⟩

    | true =>
      have HO0 : Hid ((!qa) = (B0 && (x.kids.take 0).all kidQ)) := Lib.hid (by rw [← HBZ.out]; simp)
      go_enter Tryz.func45, Tryz.ntmps45
      go_wp2_with fail
      refine hc58.mono ?_
      rintro e w3 ⟨rfl, h3⟩
      clear c0 c1 c2 c3
      obtain ⟨c0, c1, c2, c3⟩ := box4 (HCE.out w3 h3).out.2.1
      have HB3 := Lib.hid h3
      clear h3 hc58
      go_wp2_with fail
      refine (HC59.out _).mono ?_
      rintro e w4 ⟨rfl, h4⟩
      have HI0 := HCE.out w4 (gcall HB3.out h4 HB3.out.size)
      clear c0 c1 c2 c3
      obtain ⟨c0, c1, c2, c3⟩ := box4 HI0.out.2.1
      clear h4 HB1 HN1 HX HCE HC59 HB3
      go_wp2_with fail
      go_loopw [4, 5, 6] (fun ov iv _ wr => ∃ (i : Nat) (b : Bool), i ≤ x.kids.length ∧ iv = .int .i64 i ∧ ov = .bool b ∧ Hid (b = (B0 && (x.kids.take i).all kidQ)) ∧ Hid (Below W.heap.size W wr ∧ wr.heap[W.heap.size]? = some (boxN x p c) ∧ NAt AnyB wr x (cellsN x p c))) (fun _ iv _ _ => x.kids.length - (intOf iv).toNat)
      case atStart => exact ⟨0, _, by omega, rfl, rfl, HO0, HI0⟩
      case round =>
        clear HI0 HO0 c0 c1 c2 c3
        obtain ⟨i, b, hi, rfl, rfl, HO, HI⟩ := hrel
        obtain ⟨c0, c1, c2, c3⟩ := box4 HI.out.2.1
        rcases Nat.lt_or_ge i x.kids.length with hlt | hge
        · have hlt' : (i : Int) < (x.kids.length : Int) := by omega
          have hlt2 : decide ((i : Int) < (x.kids.length : Int)) = true := decide_eq_true hlt'
          cases b with
          | false =>
            have hf : R = false := by rw [HRB.out]; exact all_end HO.out.symm
            subst hf
            have HE := Lib.hid HI.out.1
            clear HRB HO HI HREC
            go_wp2_with fail
            go_ret
            exact ⟨rfl, HE.out⟩
          | true =>
            have hwi : IntKind.i64.wrap ((i : Int) + 1) = ((i + 1 : Nat) : Int) := by rw [IntWalk.i64_in _ (by omega)]; omega
            obtain ⟨g1, o1, p1, c1', rfl, ⟨k0, k1, k2, k3⟩, hx1⟩ := node_kid HI.out.2.2 i hlt
            have hnx := all_next (q := kidQ) hlt HO.out.symm
            have hti : tinyT (x.kids[i]'hlt) := by
              have h := HTI.out
              obtain ⟨k, t, ks⟩ := x
              unfold tinyT at h
              exact tinysT_at ks i _ h.2 (List.getElem?_eq_getElem hlt)
            have HTY := Lib.hid hti
            have HRK := Lib.hid (HREC.out i _ (List.getElem?_eq_getElem hlt))
            have HNX := Lib.hid hnx
            obtain ⟨w2, hw2⟩ : ∃ w, wr.alloc (.cells #[.int .u8 (x.kids[i]'hlt).kind, .int .u8 (x.kids[i]'hlt).tok.1, .string ⟨(x.kids[i]'hlt).tok.2.toArray⟩, .slice p1 (x.kids[i]'hlt).kids.length c1'] 27) = w := ⟨_, rfl⟩
            have n2 : w2.heap[wr.heap.size]? = some (boxN (x.kids[i]'hlt) p1 c1') := by rw [← hw2]; exact World.alloc_heap_new wr _
            have b2 : Below wr.heap.size wr w2 := by rw [← hw2]; exact galloc (Below.refl _ _) _
            obtain ⟨KB, hKB⟩ : ∃ KB, wr.heap.size = KB := ⟨_, rfl⟩
            have HI2 : Hid (Below W.heap.size W w2 ∧ w2.heap[W.heap.size]? = some (boxN x (some ⟨g1, o1, none⟩) c) ∧ NAt AnyB w2 x (cellsN x (some ⟨g1, o1, none⟩) c)) := Lib.hid ⟨HI.out.1.trans (b2.mono HI.out.1.size), (b2.block _ (Array.getElem?_eq_some_iff.1 HI.out.2.1).1).trans HI.out.2.1, HI.out.2.2.below b2⟩
            have HK2 := Lib.hid (hx1.below b2)
            rw [hKB] at n2
            have HN2 := Lib.hid n2
            obtain ⟨x0, x1, x2, x3⟩ := box4 HI2.out.2.1
            obtain ⟨y0, y1, y2, y3⟩ := box4 n2
            clear hnx hti hx1 b2 n2 HO HI HREC
            generalize x.kids[i]'hlt = y at *
            obtain ⟨B1, hB1⟩ : ∃ B1, (B0 && (x.kids.take (i + 1)).all kidQ) = B1 := ⟨_, rfl⟩
            rw [hB1] at HNX
            have HBN := Lib.hid hB1.symm
            clear hB1
            have hny : ∀ (e : Bool), kidQ y = e → B1 = e := fun e h => by rw [HNX.out, h]
            have hfin : ∀ (w : World), Below w2.heap.size w2 w → Hid (Below W.heap.size W w ∧ w.heap[W.heap.size]? = some (boxN x (some ⟨g1, o1, none⟩) c) ∧ NAt AnyB w x (cellsN x (some ⟨g1, o1, none⟩) c)) := fun w hb => Lib.hid ⟨HI2.out.1.trans (hb.mono HI2.out.1.size), (hb.block _ (Array.getElem?_eq_some_iff.1 HI2.out.2.1).1).trans HI2.out.2.1, HI2.out.2.2.below hb⟩
            have hkq : kidQ y = (((y.kind == 1) && y.kids.isEmpty) && aheadK y.tok && isOne y.tok) := rfl
            by_cases hyk : y.kind = 1
            case neg =>
              have d1 : ((y.kind : Int) == 1) = false := beq_eq_false_iff_ne.2 (by omega)
              obtain rfl := hny false (by rw [hkq, show (y.kind == 1) = false from beq_eq_false_iff_ne.2 hyk]; rfl)
              clear hkq hny hyk HRK
              go_wp2_with fail
              exact ⟨⟨i + 1, false, by omega, rfl, rfl, HBN, hfin _ (Below.refl _ _)⟩, by simp [intOf]; omega⟩
            have d1 : ((y.kind : Int) == 1) = true := by rw [hyk]; rfl
            have d1' : (y.kind == 1) = true := by rw [hyk]; rfl
            by_cases hyl : y.kids.length = 0
            case neg =>
              have d2 : ((y.kids.length : Int) == 0) = false := beq_eq_false_iff_ne.2 (by omega)
              obtain rfl := hny false (by rw [hkq, d1', show y.kids.isEmpty = false by cases h : y.kids with | nil => rw [h] at hyl; exact absurd rfl hyl | cons a b => rfl]; rfl)
              clear hkq hny hyk hyl d1' HRK
              go_wp2_with fail
              exact ⟨⟨i + 1, false, by omega, rfl, rfl, HBN, hfin _ (Below.refl _ _)⟩, by simp [intOf]; omega⟩
            have d2 : ((y.kids.length : Int) == 0) = true := by rw [hyl]; rfl
            have d2' : y.kids.isEmpty = true := by rw [List.isEmpty_iff]; exact List.eq_nil_of_length_eq_zero hyl
            have hc59 := rahead_any y.tok w2
            obtain ⟨qa, hqa⟩ : ∃ q, aheadK y.tok = q := ⟨_, rfl⟩
            rw [hqa] at hc59 hkq
            cases qa with
            | false =>
              obtain rfl := hny false (by rw [hkq, d1', d2']; rfl)
              clear hkq hny hyk hyl d1' d2' hqa HRK
              go_wp2_with fail
              refine hc59.mono ?_
              rintro e w5 ⟨rfl, h5⟩
              have HIz := hfin _ h5
              clear h5 hc59 hfin x0 x1 x2 x3 y0 y1 y2 y3
              go_wp2_with fail
              exact ⟨⟨i + 1, false, by omega, rfl, rfl, HBN, HIz⟩, by simp [intOf]; omega⟩
            | true =>
              rw [d1', d2'] at hkq
              have hB1 := hny (isOne y.tok) hkq
              have htl : y.tok.2.length ≤ 1000000 := by
                have h := HTY.out
                obtain ⟨k, t, ks⟩ := y
                unfold tinyT at h
                exact Nat.le_trans h.1 (by omega)
              clear hkq hny hyk hyl d1' d2' hqa HRK
              go_wp2_with fail
              refine hc59.mono ?_
              rintro e w5 ⟨rfl, h5⟩
              have hn5 := (h5.block _ (Array.getElem?_eq_some_iff.1 HN2.out).1).trans HN2.out
              obtain ⟨z0, z1, z2, z3⟩ := box4 hn5
              have hc58 := rone58_any y.tok w5 htl (HEV.out w5 (hfin _ h5).out.1)
              have HB5 := Lib.hid h5
              clear h5 hc59 x0 x1 x2 x3 y0 y1 y2 y3 hn5 htl
              go_wp2_with fail
              refine hc58.mono ?_
              rintro e w6 ⟨rfl, h6⟩
              have HIz := hfin _ (gcall HB5.out h6 HB5.out.size)
              rw [← hB1]
              clear h6 hc58 hfin z0 z1 z2 z3 hB1
              go_wp2_with fail
              exact ⟨⟨i + 1, B1, by omega, rfl, rfl, HBN, HIz⟩, by simp [intOf]; omega⟩
        · obtain rfl : i = x.kids.length := by omega
          have hlt' : ¬ (x.kids.length : Int) < (x.kids.length : Int) := by omega
          have hlt2 : decide ((x.kids.length : Int) < (x.kids.length : Int)) = false := decide_eq_false hlt'
          have hf : R = b := by rw [HRB.out, HO.out, List.take_length]
          subst hf
          have HE := Lib.hid HI.out.1
          clear HRB HO HI HREC
          go_wp2_with fail
          go_ret
          exact ⟨rfl, HE.out⟩

theorem gform_any : ∀ (n : Nat) (x : T), countT x ≤ n → n ≤ 1000000 → tinyT x → ∀ (W : World) (p : Option Addr) (c : Nat), Env W → NAt AnyB W x (cellsN x p c) → Calls Tryz.prog 45 #[aggN x p c] W (BoolEnd (formR x) W)
  | 0, .mk k t ks, hc, _, _, _, _, _, _, _ => by rw [countT_mk] at hc; omega
  | n + 1, .mk k t ks, hc, hn, ht, W, p, c, hE, h => by
    rw [countT_mk] at hc
    have hl := counts_len ks
    have hrec : Hid (∀ (i : Nat) y, (T.mk k t ks).kids[i]? = some y → ∀ (w : World) (p : Option Addr) (c : Nat), Env w → NAt AnyB w y (cellsN y p c) → Calls Tryz.prog 45 #[aggN y p c] w (BoolEnd (formR y) w)) := Lib.hid fun i y hy w p c hE h1 => gform_any n y (by have := counts_at ks i y hy; omega) (by omega) (tinysT_at ks i y (by unfold tinyT at ht; exact ht.2) hy) w p c hE h1
    have hkl : (T.mk k t ks).kids.length ≤ 1000000 := by show ks.length ≤ _; omega
    by_cases h2 : k = 2
    · exact gform_two _ W p c h hkl ht hE h2 hrec
    · by_cases h0 : k = 0 ∨ 18 < k
      · exact gform_bad _ W p c h hkl ht hE h0 hrec
      · by_cases h1 : k = 1
        · exact gform_leaf _ W p c h hkl ht hE h1 hrec
        · exact gform_other _ W p c h hkl ht hE (show 3 ≤ k ∧ k ≤ 18 by omega) hrec
end Go.Proofs.YtingfomfibhnhaaGreatDoor
