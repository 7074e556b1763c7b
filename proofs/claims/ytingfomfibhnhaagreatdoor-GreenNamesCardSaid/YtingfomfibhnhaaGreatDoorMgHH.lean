/-
  formed, isNotFormed.
-/
import Derived.Test.YtingfomfibhnhaaGreatDoorMgHG
namespace Go.Proofs.YtingfomfibhnhaaGreatDoor
open Go.RowKit Go.Shelf

theorem formPs_any : ∀ l : List T, formPs l = !(l.any fun x => !formP x)
  | [] => by unfold formPs; rfl
  | x :: r => by unfold formPs; rw [formPs_any r]; simp
theorem kids_any (l : List T) : (l.all fun x => x.kind == 1 && x.kids.isEmpty && aheadK x.tok) = !(l.any notAhead) := by
  induction l with
  | nil => rfl
  | cons x r ih => rw [List.all_cons, List.any_cons, ih, notAhead]; simp
set_option maxRecDepth 100000 in
theorem isNotFormed_of (x : T) (p : Option Addr) (c : Nat) (w : World) (h : ∀ w1, Below w.heap.size w w1 → Calls Tryz.prog 30 #[aggN x p c] w1 (BoolEnd (formP x) w1)) : Calls Tryz.prog 51 #[aggN x p c] w (BoolEnd (!formP x) w) := by
  obtain ⟨w1, hw1⟩ : ∃ w1, w.alloc (.cells #[.int .u8 x.kind, .int .u8 x.tok.1, .string ⟨x.tok.2.toArray⟩, .slice p x.kids.length c] 27) = w1 := ⟨_, rfl⟩
  have n1 : w1.heap[w.heap.size]? = some (boxN x p c) := by rw [← hw1]; exact World.alloc_heap_new w _
  have b1 : Below w.heap.size w w1 := by rw [← hw1]; exact galloc (Below.refl _ _) _
  obtain ⟨c0, c1, c2, c3⟩ := box4 n1
  have hc := h w1 b1
  have HB := Lib.hid b1
  clear h b1 n1
  generalize formP x = R at *
  go_enter Tryz.func51, Tryz.ntmps51
  go_wp2_with (go_at_call 30; refine hc.mono ?_; rintro e w2 ⟨rfl, h2⟩)
  go_ret
  exact ⟨rfl, gcall HB.out h2⟩
set_option maxRecDepth 100000 in
set_option maxHeartbeats 8000000 in
theorem formed_one (k : Nat) (t : Tok) (ks : List T) (W : World) (p : Option Addr) (c : Nat) (vs : List Value) (hd : SlIn AnyB W (.slice p ks.length c) 4 ks.length vs) (hj : NsAt AnyB W ks vs) (hl : ks.length ≤ 1000000)
    (HREC : Hid (∀ (i : Nat) x, ks[i]? = some x → ∀ (w : World) (p : Option Addr) (c : Nat), NAt AnyB w x (cellsN x p c) → Calls Tryz.prog 30 #[aggN x p c] w (BoolEnd (formP x) w))) :
    Calls Tryz.prog 30 #[.agg #[.int .u8 k, .int .u8 t.1, .string ⟨t.2.toArray⟩, .slice p ks.length c]] W (BoolEnd (formP (.mk k t ks)) W) := by
  obtain ⟨R, hR⟩ : ∃ R, formP (.mk k t ks) = R := ⟨_, rfl⟩
  rw [hR]
  unfold formP at hR
  obtain ⟨K, hK⟩ : ∃ K : Int, (k : Int) = K := ⟨_, rfl⟩
  rw [hK]
  obtain ⟨w1, hw1⟩ : ∃ w1, W.alloc (.cells #[.int .u8 K, .int .u8 t.1, .string ⟨t.2.toArray⟩, .slice p ks.length c] 27) = w1 := ⟨_, rfl⟩
  have n1 : w1.heap[W.heap.size]? = some (.cells #[.int .u8 K, .int .u8 t.1, .string ⟨t.2.toArray⟩, .slice p ks.length c] 27 (0, 0)) := by rw [← hw1]; exact World.alloc_heap_new W _
  have b1 : Below W.heap.size W w1 := by rw [← hw1]; exact galloc (Below.refl _ _) _
  obtain ⟨c0, c1, c2, c3⟩ := box4 n1
  have HB := Lib.hid b1
  have HN := Lib.hid n1
  have hst : ∀ w2, Below W.heap.size W w2 → Stays AnyB W w2 := fun w2 h => ⟨h.size, fun i hi _ => h.block i hi⟩
  have HC50 : Hid (∀ w2, Below W.heap.size W w2 → Calls Tryz.prog 49 #[.slice p ks.length c, .func (.func 50) #[] #[]] w2 (BoolEnd (ks.any notAhead) w2)) :=
    Lib.hid fun w2 h => contains50 notAhead ks w2 _ vs (hd.world (hst w2 h)) (NsAt.world (hst w2 h) ks vs hj) hl (Lib.hid fun i x _ w p c _ => notAhead_any x p c w)
  have HC51 : Hid (∀ w2, Below W.heap.size W w2 → Calls Tryz.prog 49 #[.slice p ks.length c, .func (.func 51) #[] #[]] w2 (BoolEnd (ks.any fun x => !formP x) w2)) :=
    Lib.hid fun w2 h => contains51 (fun x => !formP x) ks w2 _ vs (hd.world (hst w2 h)) (NsAt.world (hst w2 h) ks vs hj) hl (Lib.hid fun i x hi w p c hx => isNotFormed_of x p c w fun w1 hb => HREC.out i x hi w1 p c (hx.below hb))
  have HM := Lib.hid (isEmpty_any t w1)
  have HA := Lib.hid (ahead_any t w1)
  have htk : ((t.1 : Int) == 0) = (t.1 == 0) := by rw [Bool.eq_iff_iff]; simp
  have hle0 : ((ks.length : Int) == 0) = ks.isEmpty := by rw [Bool.eq_iff_iff]; simp
  by_cases h1 : k = 1
  · have e1 : (K == 1) = true := by rw [← hK, h1]; rfl
    rw [if_pos h1, kids_any] at hR
    have HR := Lib.hid hR
    clear hR hd hj HREC n1 b1 hK h1 HM HC51 hst htk hle0
    cases hA : aheadK t with
    | true =>
      rw [hA] at HA HR
      go_enter Tryz.func30, Tryz.ntmps30
      go_wp2_with (go_at_call 48; refine HA.out.mono ?_; rintro e w2 ⟨rfl, h2⟩)
      go_ret
      exact ⟨by rw [← HR.out]; rfl, gcall HB.out h2⟩
    | false =>
      rw [hA] at HA HR
      generalize ks.any notAhead = Q at *
      go_enter Tryz.func30, Tryz.ntmps30
      go_wp2_with (first
        | (go_at_call 48; refine HA.out.mono ?_; rintro e w2 ⟨rfl, h2⟩; have k3 := cell_in h2 c3)
        | (go_at_call 49; refine (HC50.out _ (gcall HB.out h2)).mono ?_; rintro e w3 ⟨rfl, h3⟩))
      go_ret
      exact ⟨by rw [← HR.out]; simp, (gcall HB.out h2).trans (h3.mono (gcall HB.out h2).size)⟩
  · have e1 : (K == 1) = false := by rw [← hK, beq_eq_false_iff_ne]; omega
    rw [if_neg h1] at hR
    by_cases h2 : k = 2
    · have e2 : (K == 2) = true := by rw [← hK, h2]; rfl
      rw [if_pos h2, ← htk, ← hle0] at hR
      have HR := Lib.hid hR
      clear hR hd hj HREC n1 b1 hK h1 h2 HM HA HC50 HC51 hst htk hle0
      cases hA : ((t.1 : Int) == 0) with
      | false =>
        rw [hA] at HR
        go_enter Tryz.func30, Tryz.ntmps30
        go_wp2
        go_ret
        exact ⟨by rw [← HR.out]; rfl, HB.out⟩
      | true =>
        rw [hA] at HR
        go_enter Tryz.func30, Tryz.ntmps30
        go_wp2
        go_ret
        exact ⟨by rw [← HR.out]; simp, HB.out⟩
    · have e2 : (K == 2) = false := by rw [← hK, beq_eq_false_iff_ne]; omega
      rw [if_neg h2] at hR
      by_cases h3 : 3 ≤ k ∧ k ≤ 18
      · have e3 : (3 : Int) ≤ K := by omega
        have e4 : K ≤ (18 : Int) := by omega
        rw [if_pos h3, formPs_any] at hR
        have HR := Lib.hid hR
        clear hR hd hj HREC n1 b1 hK h1 h2 h3 HA HC50 hst htk hle0
        cases hA : emptyT t with
        | false =>
          rw [hA] at HM HR
          go_enter Tryz.func30, Tryz.ntmps30
          go_wp2_with (go_at_call 43; refine HM.out.mono ?_; rintro e w2 ⟨rfl, h2⟩)
          go_ret
          exact ⟨by rw [← HR.out]; rfl, gcall HB.out h2⟩
        | true =>
          rw [hA] at HM HR
          generalize (ks.any fun x => !formP x) = Q at *
          go_enter Tryz.func30, Tryz.ntmps30
          go_wp2_with (first
            | (go_at_call 43; refine HM.out.mono ?_; rintro e w2 ⟨rfl, h2⟩; have k3 := cell_in h2 c3)
            | (go_at_call 49; refine (HC51.out _ (gcall HB.out h2)).mono ?_; rintro e w3 ⟨rfl, h3⟩))
          go_ret
          exact ⟨by rw [← HR.out]; simp, (gcall HB.out h2).trans (h3.mono (gcall HB.out h2).size)⟩
      · rw [if_neg h3] at hR
        subst hR
        clear hd hj HREC n1 b1 HM HA HC50 HC51 hst htk hle0
        by_cases h4 : 3 ≤ k
        · have e3 : (3 : Int) ≤ K := by omega
          have e4 : ¬ K ≤ (18 : Int) := by omega
          clear hK h1 h2 h3 h4
          go_enter Tryz.func30, Tryz.ntmps30
          go_wp2
          go_ret
          exact ⟨rfl, HB.out⟩
        · have e3 : ¬ (3 : Int) ≤ K := by omega
          clear hK h1 h2 h3 h4
          go_enter Tryz.func30, Tryz.ntmps30
          go_wp2
          go_ret
          exact ⟨rfl, HB.out⟩
theorem formed_deep : ∀ (n : Nat) (x : T), countT x ≤ n → n ≤ 1000000 → ∀ (W : World) (p : Option Addr) (c : Nat), NAt AnyB W x (cellsN x p c) → Calls Tryz.prog 30 #[aggN x p c] W (BoolEnd (formP x) W)
  | 0, x, h, _, _, _, _, _ => by have := count_pos x; omega
  | n + 1, .mk k t ks, h, hn, W, p, c, hx => by
    rw [countT_mk] at h
    obtain ⟨vs, h1, h2⟩ := hx.parts
    have := counts_len ks
    exact formed_one k t ks W p c vs h1 h2 (by omega) (Lib.hid fun i x hi w p c hx => formed_deep n x (by have := counts_at ks i x hi; omega) (by omega) w p c hx)
theorem formed_any (x : T) (p : Option Addr) (c : Nat) (W : World) (hx : NAt AnyB W x (cellsN x p c)) (hc : countT x ≤ 1000000) : Calls Tryz.prog 30 #[aggN x p c] W (BoolEnd (formP x) W) := formed_deep (countT x) x (Nat.le_refl _) hc W p c hx
end Go.Proofs.YtingfomfibhnhaaGreatDoor
