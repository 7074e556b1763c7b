/-
  The document's Same, of two trees.
-/
import Derived.Test.YtingfomfibhnhaaGreatDoorMgHC
import Derived.Test.YtingfomfibhnhaaGreatDoorMgGZ
namespace Go.Proofs.YtingfomfibhnhaaGreatDoor
open Go.RowKit Go.Shelf

theorem samesT_len : ∀ (l r : List T), l.length ≠ r.length → samesT l r = false
  | [], [], h => absurd rfl h
  | [], _ :: _, _ => by unfold samesT; rfl
  | _ :: _, [], _ => by unfold samesT; rfl
  | a :: l, b :: r, h => by
    unfold samesT
    rw [samesT_len l r (by simpa using h), Bool.and_false]
mutual
theorem sameT_self : ∀ x : T, sameT x x = true
  | .mk k t ks => by
    unfold sameT
    rw [beq_self_eq_true, beq_self_eq_true, samesT_self ks]
    rfl
theorem samesT_self : ∀ l : List T, samesT l l = true
  | [] => by unfold samesT; rfl
  | x :: r => by unfold samesT; rw [sameT_self x, samesT_self r]; rfl
end
theorem gneq_tok (k1 k2 : Int) (T1 T2 : ByteArray) (W : World) (b : Bool) (h : b = true ↔ ¬ (k1 = k2 ∧ T1 = T2)) : (binOp .neq 25 (.agg #[.int .u8 k1, .string T1]) (.agg #[.int .u8 k2, .string T2])).run Tryz.prog W = .ok (.bool b) W := by
  have h3 : ∀ (hT : T1.toList = T2.toList), T1 = T2 := fun h3 => Utf.ba_ext (by rw [Lib.toList_data, Lib.toList_data] at h3; exact h3)
  cases b with
  | true =>
    have h := h.1 rfl
    by_cases hk : k1 = k2
    · have h4 : ¬ T1.toList = T2.toList := fun e => h ⟨hk, h3 e⟩
      simp [go_sem, hk, h4]
    · simp [go_sem, hk]
  | false =>
    have h : k1 = k2 ∧ T1 = T2 := Decidable.not_not.1 fun e => by have := h.2 e; cases this
    obtain ⟨rfl, rfl⟩ := h
    simp [go_sem]
theorem samesT_drop {l r : List T} {i : Nat} (h : l.length = r.length) (hi : i < l.length) : samesT (l.drop i) (r.drop i) = (sameT (l[i]'hi) (r[i]'(h ▸ hi)) && samesT (l.drop (i + 1)) (r.drop (i + 1))) := by
  rw [List.drop_eq_getElem_cons hi, List.drop_eq_getElem_cons (h ▸ hi : i < r.length)]
  conv => lhs; unfold samesT
set_option maxRecDepth 100000 in
set_option maxHeartbeats 8000000 in
theorem rsame_one (a b : T) (W : World) (p p2 : Option Addr) (c c2 : Nat) (ha : NAt AnyB W a (cellsN a p c)) (hb : NAt AnyB W b (cellsN b p2 c2)) (hal : a.kids.length ≤ 1000000000)
    (HREC : Hid (∀ (i : Nat) x, a.kids[i]? = some x → ∀ (y : T) (w : World) (p p2 : Option Addr) (c c2 : Nat), NAt AnyB w x (cellsN x p c) → NAt AnyB w y (cellsN y p2 c2) → Calls Tryz.prog 19 #[aggN x p c, aggN y p2 c2] w (BoolEnd (sameT x y) w))) :
    Calls Tryz.prog 19 #[aggN a p c, aggN b p2 c2] W (BoolEnd (sameT a b) W) := by
  obtain ⟨w1, hw1⟩ : ∃ w, W.alloc (.cells #[.int .u8 a.kind, .int .u8 a.tok.1, .string ⟨a.tok.2.toArray⟩, .slice p a.kids.length c] 27) = w := ⟨_, rfl⟩
  have n1 : w1.heap[W.heap.size]? = some (boxN a p c) := by rw [← hw1]; exact World.alloc_heap_new W _
  have b1 : Below W.heap.size W w1 := by rw [← hw1]; exact galloc (Below.refl _ _) _
  have z1 : w1.heap.size = W.heap.size + 1 := by rw [← hw1]; simp
  obtain ⟨w2, hw2⟩ : ∃ w, w1.alloc (.cells #[.int .u8 b.kind, .int .u8 b.tok.1, .string ⟨b.tok.2.toArray⟩, .slice p2 b.kids.length c2] 27) = w := ⟨_, rfl⟩
  have n2 : w2.heap[W.heap.size + 1]? = some (boxN b p2 c2) := by rw [← hw2, ← z1]; exact World.alloc_heap_new w1 _
  have b12 : Below w1.heap.size w1 w2 := by rw [← hw2]; exact galloc (Below.refl _ _) _
  have n21 : w2.heap[W.heap.size]? = some (boxN a p c) := (b12.block _ (by omega)).trans n1
  have b2 : Below W.heap.size W w2 := gcall b1 b12
  obtain ⟨x0, x1, x2, x3⟩ := box4 n21
  obtain ⟨y0, y1, y2, y3⟩ := box4 n2
  have HB2 := Lib.hid b2
  have HA := Lib.hid (ha.below b2)
  have HBT := Lib.hid (hb.below b2)
  have HN1 := Lib.hid n21
  have HN2 := Lib.hid n2
  obtain ⟨R, hR⟩ : ∃ R, sameT a b = R := ⟨_, rfl⟩
  rw [hR]
  have HRR := Lib.hid hR
  clear ha hb n1 b1 b12 n21 n2 b2 hR
  by_cases hk : a.kind = b.kind
  case neg =>
    have hk1 : ((a.kind : Int) != (b.kind : Int)) = true := by simpa [bne_iff_ne] using fun e => hk (Int.ofNat_inj.1 e)
    have hf : R = false := by rw [← HRR.out]; obtain ⟨k, t, ks⟩ := a; obtain ⟨k2, t2, ks2⟩ := b; unfold sameT; rw [show (k == k2) = false from beq_eq_false_iff_ne.2 hk]; rfl
    rw [hf]
    clear hk HRR hf
    go_enter Tryz.func19, Tryz.ntmps19
    go_wp2_with fail
    go_ret
    exact ⟨rfl, HB2.out⟩
  have hk1 : ((a.kind : Int) != (b.kind : Int)) = false := by rw [hk]; simp
  by_cases ht : a.tok = b.tok
  case neg =>
    have hq := fun (w : World) => gneq_tok a.tok.1 b.tok.1 ⟨a.tok.2.toArray⟩ ⟨b.tok.2.toArray⟩ w true ⟨fun _ h => ht (by
      have h1 : a.tok.1 = b.tok.1 := Int.ofNat_inj.1 h.1
      have h2 : a.tok.2 = b.tok.2 := by have := congrArg (fun z => z.data.toList) h.2; simpa using this
      exact Prod.ext h1 h2), fun _ => rfl⟩
    have hf : R = false := by rw [← HRR.out]; obtain ⟨k, t, ks⟩ := a; obtain ⟨k2, t2, ks2⟩ := b; unfold sameT; rw [show (t == t2) = false from beq_eq_false_iff_ne.2 ht]; simp
    rw [hf]
    clear hk ht HRR hf
    go_enter Tryz.func19, Tryz.ntmps19
    go_wp2_with fail
    go_ret
    exact ⟨rfl, HB2.out⟩
  have hq := fun (w : World) => gneq_tok a.tok.1 b.tok.1 ⟨a.tok.2.toArray⟩ ⟨b.tok.2.toArray⟩ w false ⟨fun h => (by cases h), fun h => absurd (show (a.tok.1 : Int) = b.tok.1 ∧ (⟨a.tok.2.toArray⟩ : ByteArray) = ⟨b.tok.2.toArray⟩ from ⟨by rw [ht], by rw [ht]⟩) h⟩
  have hRk : R = samesT a.kids b.kids := by rw [← HRR.out]; obtain ⟨k, t, ks⟩ := a; obtain ⟨k2, t2, ks2⟩ := b; unfold sameT; rw [show (k == k2) = true from beq_iff_eq.2 hk, show (t == t2) = true from beq_iff_eq.2 ht]; rfl
  by_cases hl : a.kids.length = b.kids.length
  case neg =>
    have hl1 : ((a.kids.length : Int) != (b.kids.length : Int)) = true := by simpa [bne_iff_ne] using fun e => hl (Int.ofNat_inj.1 e)
    have hf : R = false := by rw [hRk]; exact samesT_len _ _ hl
    rw [hf]
    clear hk ht HRR hf hRk hl
    go_enter Tryz.func19, Tryz.ntmps19
    go_wp2_with fail
    go_ret
    exact ⟨rfl, HB2.out⟩
  have hl1 : ((a.kids.length : Int) != (b.kids.length : Int)) = false := by rw [hl]; simp
  have HK := Lib.hid hk
  have HTT := Lib.hid ht
  have HI0 : Hid (Below w2.heap.size w2 w2 ∧ R = samesT (a.kids.drop 0) (b.kids.drop 0)) := Lib.hid ⟨Below.refl _ _, hRk⟩
  have HL := Lib.hid hl
  clear hk ht hRk HRR hl
  go_enter Tryz.func19, Tryz.ntmps19
  go_wp2_with fail
  go_loopw [5] (fun iv wr => ∃ i : Nat, i ≤ a.kids.length ∧ iv = .int .i64 i ∧ Hid (Below w2.heap.size w2 wr ∧ R = samesT (a.kids.drop i) (b.kids.drop i))) (fun iv _ => a.kids.length - (intOf iv).toNat)
  case atStart => exact ⟨0, by omega, rfl, HI0⟩
  case round =>
    clear HI0 x0 x1 x2 x3 y0 y1 y2 y3 hq hk1 hl1
    obtain ⟨i, hi, rfl, HI⟩ := hrel
    have hbr := HI.out.1
    obtain ⟨x0, x1, x2, x3⟩ := box4 ((hbr.block _ (Array.getElem?_eq_some_iff.1 HN1.out).1).trans HN1.out)
    obtain ⟨y0, y1, y2, y3⟩ := box4 ((hbr.block _ (Array.getElem?_eq_some_iff.1 HN2.out).1).trans HN2.out)
    rcases Nat.lt_or_ge i a.kids.length with hlt | hge
    · have hlt' : (i : Int) < (a.kids.length : Int) := by omega
      have hltb : i < b.kids.length := by have := HL.out; omega
      have hltb' : (i : Int) < (b.kids.length : Int) := by omega
      have hwi : IntKind.i64.wrap ((i : Int) + 1) = ((i + 1 : Nat) : Int) := by rw [IntWalk.i64_in _ (by omega)]; omega
      obtain ⟨g1, o1, p1, c1, rfl, ⟨k0, k1, k2, k3⟩, hx1⟩ := node_kid (HA.out.below hbr) i hlt
      obtain ⟨g3, o3, p3, c3, rfl, ⟨j0, j1, j2, j3⟩, hx3⟩ := node_kid (HBT.out.below hbr) i hltb
      have hR2 := HI.out.2
      rw [samesT_drop HL.out hlt] at hR2
      have hcall := HREC.out i _ (List.getElem?_eq_getElem hlt) (b.kids[i]'hltb) wr.drew p1 p3 c1 c3 (hx1.below (Below.refl _ _).drew) (hx3.below (Below.refl _ _).drew)
      have hcall2 : Calls Tryz.prog 19 #[.agg #[.int .u8 (a.kids[i]'hlt).kind, .int .u8 (a.kids[i]'hlt).tok.1, .string ⟨(a.kids[i]'hlt).tok.2.toArray⟩, .slice p1 (a.kids[i]'hlt).kids.length c1], .agg #[.int .u8 (b.kids[i]'hltb).kind, .int .u8 (b.kids[i]'hltb).tok.1, .string ⟨(b.kids[i]'hltb).tok.2.toArray⟩, .slice p3 (b.kids[i]'hltb).kids.length c3]] wr.drew fun e w' => e = .returned (.bool (sameT (a.kids[i]'hlt) (b.kids[i]'hltb))) ∧ Hid (Below w2.heap.size w2 w') :=
        hcall.mono fun e w' ⟨h1, h2⟩ => ⟨h1, Lib.hid (hbr.trans (((Below.refl wr.heap.size wr).drew.trans h2).mono hbr.size))⟩
      have HR2 := Lib.hid hR2
      have HA2 := Lib.hid hbr
      clear hcall hx1 hx3 hR2 hbr HI HREC
      generalize sameT (a.kids[i]'hlt) (b.kids[i]'hltb) = s at *
      generalize a.kids[i]'hlt = xa at *
      generalize b.kids[i]'hltb = xb at *
      cases s with
      | true =>
        go_wp2_with fail
        go_region_with (go_at_call 19; (with_reducible refine Calls.mono hcall2 ?_); rintro e w5 ⟨rfl, HB5⟩)
        all_goals go_wp2
        all_goals exact ⟨⟨i + 1, by omega, rfl, Lib.hid ⟨HB5.out, by rw [HR2.out, Bool.true_and]⟩⟩, by simp [intOf]; omega⟩
      | false =>
        have hf : R = false := by rw [HR2.out, Bool.false_and]
        subst hf
        clear HR2
        go_wp2_with fail
        go_region_with (go_at_call 19; (with_reducible refine Calls.mono hcall2 ?_); rintro e w5 ⟨rfl, HB5⟩)
        all_goals go_wp2
        all_goals go_ret
        all_goals exact ⟨rfl, HB2.out.trans (HB5.out.mono HB2.out.size)⟩
    · obtain rfl : i = a.kids.length := by omega
      have hlt' : ¬ (a.kids.length : Int) < (a.kids.length : Int) := by omega
      have hf : R = true := by rw [HI.out.2, List.drop_length, HL.out, List.drop_length]; unfold samesT; rfl
      subst hf
      have HE := Lib.hid (HB2.out.trans (hbr.mono HB2.out.size))
      clear HI hbr HREC
      go_wp2
      go_ret
      exact ⟨rfl, HE.out⟩
theorem rsame_deep : ∀ (n : Nat) (a : T), countT a ≤ n → n ≤ 1000000000 → ∀ (b : T) (W : World) (p p2 : Option Addr) (c c2 : Nat), NAt AnyB W a (cellsN a p c) → NAt AnyB W b (cellsN b p2 c2) → Calls Tryz.prog 19 #[aggN a p c, aggN b p2 c2] W (BoolEnd (sameT a b) W)
  | 0, .mk k t ks, hc, _, _, _, _, _, _, _, _, _ => by rw [countT_mk] at hc; omega
  | n + 1, .mk k t ks, hc, hn, b, W, p, p2, c, c2, ha, hb => by
    rw [countT_mk] at hc
    have hl := counts_len ks
    refine rsame_one (.mk k t ks) b W p p2 c c2 ha hb (by show ks.length ≤ _; omega) (Lib.hid fun i x hx y w p p2 c c2 h1 h2 => rsame_deep n x ?_ (by omega) y w p p2 c c2 h1 h2)
    have := counts_at ks i x hx
    omega
theorem rsame_any (a b : T) (W : World) (p p2 : Option Addr) (c c2 : Nat) (ha : NAt AnyB W a (cellsN a p c)) (hb : NAt AnyB W b (cellsN b p2 c2)) (hc : countT a ≤ 1000000) : Calls Tryz.prog 19 #[aggN a p c, aggN b p2 c2] W (BoolEnd (sameT a b) W) :=
  rsame_deep _ a (Nat.le_refl _) (by omega) b W p p2 c c2 ha hb
end Go.Proofs.YtingfomfibhnhaaGreatDoor
