/-
  weight: how many parts a tree has, as far as a bound.
-/
import Derived.Test.YtingfomfibhnhaaGreatDoorMgHC
namespace Go.Proofs.YtingfomfibhnhaaGreatDoor
open Go.RowKit Go.Shelf

/-- A sum that stops at 1000. -/
def addW : Nat → List Nat → Nat
  | n, [] => n
  | n, x :: r => if n < 1000 then addW (n + x) r else n
theorem addW_le : ∀ (l : List Nat) (n : Nat), addW n l ≤ n + l.sum
  | [], n => by simp [addW]
  | x :: r, n => by
    unfold addW
    rw [List.sum_cons]
    split
    · have := addW_le r (n + x); omega
    · omega
theorem addW_sum : ∀ (l : List Nat) (n : Nat), addW n l < 1000 → addW n l = n + l.sum
  | [], n, _ => by simp [addW]
  | x :: r, n, h => by
    unfold addW at h ⊢
    rw [List.sum_cons]
    split at h
    · rename_i hn
      rw [if_pos hn, addW_sum r (n + x) h]; omega
    · omega
theorem addW_stop (l : List Nat) (n : Nat) (h : ¬ n < 1000) : addW n l = n := by
  cases l with
  | nil => rfl
  | cons x r => unfold addW; rw [if_neg h]
mutual
def weightT : T → Nat
  | .mk _ t ks => addW (1 + min t.2.length 10000 / 16) (weightsT ks)
def weightsT : List T → List Nat
  | [] => []
  | x :: r => weightT x :: weightsT r
end
theorem weightsT_len : ∀ l : List T, (weightsT l).length = l.length
  | [] => by unfold weightsT; rfl
  | x :: r => by unfold weightsT; rw [List.length_cons, List.length_cons, weightsT_len r]
theorem weightsT_get : ∀ (l : List T) (i : Nat) (h : i < l.length), (weightsT l).drop i = weightT (l[i]'h) :: (weightsT l).drop (i + 1)
  | [], i, h => by simp at h
  | x :: r, 0, h => by unfold weightsT; rfl
  | x :: r, i + 1, h => by
    have := weightsT_get r i (by simpa using h)
    unfold weightsT
    simpa using this
mutual
theorem weight_le : ∀ x : T, weightT x ≤ 626 * countT x
  | .mk k t ks => by
    unfold weightT
    rw [countT_mk]
    have h1 := addW_le (weightsT ks) (1 + min t.2.length 10000 / 16)
    have h2 := weights_le ks
    omega
theorem weights_le : ∀ l : List T, (weightsT l).sum ≤ 626 * countTs l
  | [] => by unfold weightsT countTs; simp
  | x :: r => by
    unfold weightsT countTs
    rw [List.sum_cons]
    have := weight_le x
    have := weights_le r
    omega
end
mutual
/-- What a tree of little weight holds. -/
theorem weight_fine : ∀ x : T, weightT x < 600 → countT x ≤ weightT x ∧ sizeT x ≤ 16 * weightT x
  | .mk k t ks, h => by
    have hw : weightT (.mk k t ks) = addW (1 + min t.2.length 10000 / 16) (weightsT ks) := by rw [weightT]
    rw [hw] at h ⊢
    have hs := addW_sum _ _ (by omega : addW (1 + min t.2.length 10000 / 16) (weightsT ks) < 1000)
    rw [hs] at h ⊢
    have hf := weights_fine ks (by omega)
    rw [countT_mk]
    refine ⟨by omega, ?_⟩
    have ht : t.2.length < 16 * (1 + min t.2.length 10000 / 16) := by omega
    by_cases h2 : k = 2
    · subst h2
      have : sizeT (.mk 2 t ks) = 0 := by unfold sizeT textT; rfl
      rw [this]; omega
    · have : sizeT (.mk k t ks) = (textL ks).length + (if k = 1 then t.2 else []).length := by unfold sizeT; rw [textT_mk t ks h2, List.length_append]
      rw [this]
      have : (if k = 1 then t.2 else []).length ≤ t.2.length := by split <;> simp
      omega
theorem weights_fine : ∀ l : List T, (weightsT l).sum < 600 → countTs l ≤ (weightsT l).sum ∧ (textL l).length ≤ 16 * (weightsT l).sum
  | [], _ => by unfold weightsT countTs textL; simp
  | x :: r, h => by
    have e1 : weightsT (x :: r) = weightT x :: weightsT r := by rw [weightsT]
    have e2 : countTs (x :: r) = countT x + countTs r := by rw [countTs]
    rw [e1, List.sum_cons] at h ⊢
    rw [e2, textL_cons, List.length_append]
    have h1 := weight_fine x (by omega)
    have h2 := weights_fine r (by omega)
    unfold sizeT at h1
    omega
end
set_option maxHeartbeats 8000000 in
set_option maxRecDepth 100000 in
theorem min_fact (ats : Array TypeId) (ty : TypeId) (a : Nat) : Builtin.min_ ats ty #[.int .i64 a, .int .i64 10000] = pure (.int .i64 (min a 10000 : Nat)) := by
  have h : (if (10000 : Int) < (a : Int) then (10000 : Int) else (a : Int)) = ((min a 10000 : Nat) : Int) := by
    split
    · rw [Nat.min_eq_right (by omega)]; rfl
    · rw [Nat.min_eq_left (by omega)]
  show (pure (.int .i64 (if (10000 : Int) < (a : Int) then (10000 : Int) else (a : Int))) : Sem Value) = _
  rw [h]
set_option maxHeartbeats 8000000 in
set_option maxRecDepth 100000 in
theorem weight_one (k : Nat) (t : Tok) (ks : List T) (W : World) (p : Option Addr) (c : Nat) (vs : List Value) (hm : countT (.mk k t ks) ≤ 1000000000000000) (hd : SlIn AnyB W (.slice p ks.length c) 4 ks.length vs) (hj : NsAt AnyB W ks vs)
    (HREC : Hid (∀ (i : Nat) x, ks[i]? = some x → ∀ (w : World) (p : Option Addr) (c : Nat), NAt AnyB w x (cellsN x p c) → Calls Tryz.prog 20 #[aggN x p c] w fun e w' => e = .returned (.int .i64 (weightT x)) ∧ Below w.heap.size w w')) :
    Calls Tryz.prog 20 #[.agg #[.int .u8 k, .int .u8 t.1, .string ⟨t.2.toArray⟩, .slice p ks.length c]] W fun e w' => e = .returned (.int .i64 (weightT (.mk k t ks))) ∧ Below W.heap.size W w' := by
  obtain ⟨R, hR⟩ : ∃ R, weightT (.mk k t ks) = R := ⟨_, rfl⟩
  rw [hR]
  obtain ⟨A0, hA0⟩ : ∃ a, 1 + min t.2.length 10000 / 16 = a := ⟨_, rfl⟩
  have hF : R = addW A0 (weightsT ks) := by rw [← hR, weightT, hA0]
  rw [countT_mk] at hm
  have hll := counts_len ks
  have hbnd : A0 + (weightsT ks).sum ≤ 1000000000000000000 := by have := weights_le ks; omega
  obtain ⟨TX, hTX⟩ : ∃ TX : ByteArray, (⟨t.2.toArray⟩ : ByteArray) = TX := ⟨_, rfl⟩
  have htl : TX.size = t.2.length := by rw [← hTX, Lib.size_eq]
  rw [hTX]
  obtain ⟨K, hK⟩ : ∃ K : Int, (k : Int) = K := ⟨_, rfl⟩
  obtain ⟨TK, hTK⟩ : ∃ K : Int, (t.1 : Int) = K := ⟨_, rfl⟩
  rw [hK, hTK]
  obtain ⟨w1, hw1⟩ : ∃ w1, W.alloc (.cells #[.int .u8 K, .int .u8 TK, .string TX, .slice p ks.length c] 27) = w1 := ⟨_, rfl⟩
  have hp1 : w1.heap[W.heap.size]? = some (.cells #[.int .u8 K, .int .u8 TK, .string TX, .slice p ks.length c] 27 (0, 0)) := by rw [← hw1]; exact World.alloc_heap_new W _
  have hb1 : Below W.heap.size W w1 := by rw [← hw1]; exact galloc (Below.refl _ _) _
  obtain ⟨N, hN⟩ : ∃ N, W.heap.size = N := ⟨_, rfl⟩
  rw [hN] at hp1
  obtain ⟨d0, d1, d2, d3⟩ := box4 hp1
  have hll2 : ks.length ≤ 1000000000000000 := by omega
  obtain ⟨m, hm0⟩ : ∃ m, min t.2.length 10000 = m := ⟨_, rfl⟩
  have hml : m ≤ 10000 := by omega
  have hmf : ∀ (ats : Array TypeId) (ty : TypeId), Builtin.min_ ats ty #[.int .i64 (TX.size : Nat), .int .i64 10000] = pure (.int .i64 (m : Nat)) := by
    intro ats ty; rw [min_fact, htl, hm0]
  rw [hm0] at hA0
  obtain ⟨q, hq⟩ : ∃ q, m / 16 = q := ⟨_, rfl⟩
  rw [hq] at hA0
  have e1 : IntKind.i64.wrap (Int.tdiv (m : Int) 16) = (q : Int) := by rw [Int.tdiv_eq_ediv_of_nonneg (by omega), IntWalk.i64_in _ (by omega)]; omega
  have e1b : IntKind.i64.wrap ((m : Int) / 16) = (q : Int) := by rw [IntWalk.i64_in _ (by omega)]; omega
  have e2 : IntKind.i64.wrap (1 + (q : Int)) = (A0 : Int) := by rw [IntWalk.i64_in _ (by omega)]; omega
  have HP1 := Lib.hid hp1
  have HB1 := Lib.hid hb1
  have HF := Lib.hid hF
  have HD := Lib.hid hd
  have HJ := Lib.hid hj
  have HN := Lib.hid hN
  have HL2 := Lib.hid hll2
  have HI0 : Hid (Below w1.heap.size w1 w1 ∧ R = addW A0 ((weightsT ks).drop 0) ∧ A0 + ((weightsT ks).drop 0).sum ≤ 1000000000000000000) := Lib.hid ⟨Below.refl _ _, by rw [hF]; rfl, hbnd⟩
  clear hF hR hp1 hb1 hd hj hK hTK hll hll2 hbnd hq hA0 htl hm hm0 hml hTX
  go_enter Tryz.func20, Tryz.ntmps20
  go_wp2_with fail
  go_loopw [3, 4] (fun nv iv wr => ∃ (i a : Nat), i ≤ ks.length ∧ iv = .int .i64 i ∧ nv = .int .i64 a ∧ Hid (Below w1.heap.size w1 wr ∧ R = addW a ((weightsT ks).drop i) ∧ a + ((weightsT ks).drop i).sum ≤ 1000000000000000000)) (fun _ iv _ => ks.length - (intOf iv).toNat)
  case atStart => exact ⟨0, A0, by omega, rfl, rfl, HI0⟩
  case round =>
    clear HI0
    obtain ⟨i, a, hi, rfl, rfl, HI⟩ := hrel
    have e3 : wr.cell? ⟨N, 3, none⟩ = some (.slice p ks.length c) := cell_in HI.out.1 d3
    have HBW : Hid (Below W.heap.size W wr) := Lib.hid (gcall HB1.out HI.out.1)
    rcases Nat.lt_or_ge i ks.length with hlt | hge
    · have hlt1 : decide ((i : Int) < (ks.length : Int)) = true := decide_eq_true (by omega)
      by_cases ha : a < 1000
      · have hlt2 : decide ((a : Int) < 1000) = true := decide_eq_true (by omega)
        have hlx : (i : Int) < (ks.length : Int) := by omega
        have hwi : IntKind.i64.wrap ((i : Int) + 1) = ((i + 1 : Nat) : Int) := by rw [IntWalk.i64_in _ (by have := HL2.out; omega)]; omega
        obtain ⟨g1, o1, rfl, hx1⟩ := HD.out.cellAt (by omega)
        have hu1 := List.getElem?_eq_getElem hlt
        obtain ⟨pf, cf, hjx, m1, m2, m3, m4⟩ := HJ.out.nth ks vs i _ hu1
        have k1 : wr.cell? ⟨g1, o1 + i * 4, none⟩ = some (.int .u8 (ks[i]'hlt).kind) := cell_in HBW.out (hx1 _ _ m1)
        have k2 : wr.cell? ⟨g1, o1 + i * 4 + 1, none⟩ = some (.int .u8 (ks[i]'hlt).tok.1) := cell_in HBW.out (hx1 _ _ m2)
        have k3 : wr.cell? ⟨g1, o1 + i * 4 + 2, none⟩ = some (.string ⟨(ks[i]'hlt).tok.2.toArray⟩) := cell_in HBW.out (hx1 _ _ m3)
        have k4 : wr.cell? ⟨g1, o1 + i * 4 + 3, none⟩ = some (.slice pf (ks[i]'hlt).kids.length cf) := cell_in HBW.out (hx1 _ _ m4)
        have hcall := HREC.out i _ hu1 wr pf cf (hjx.below HBW.out)
        dsimp only [aggN] at hcall
        have HR2 : Hid (R = addW (a + weightT (ks[i]'hlt)) ((weightsT ks).drop (i + 1)) ∧ a + weightT (ks[i]'hlt) + ((weightsT ks).drop (i + 1)).sum ≤ 1000000000000000000) := Lib.hid (by
          have h1 := HI.out.2.1
          have h2 := HI.out.2.2
          rw [weightsT_get ks i hlt] at h1 h2
          rw [List.sum_cons] at h2
          refine ⟨?_, by omega⟩
          rw [h1, addW, if_pos ha])
        have HB4 := Lib.hid HI.out.1
        generalize weightT (ks[i]'hlt) = wt at *
        generalize ((ks[i]'hlt).kind : Int) = v1 at *
        generalize ((ks[i]'hlt).tok.1 : Int) = v2 at *
        generalize (⟨(ks[i]'hlt).tok.2.toArray⟩ : ByteArray) = v3 at *
        generalize (ks[i]'hlt).kids.length = v4 at *
        have hwa : IntKind.i64.wrap ((a : Int) + (wt : Int)) = ((a + wt : Nat) : Int) := by have := HR2.out.2; rw [IntWalk.i64_in _ (by omega)]; omega
        clear hx1 hu1 hjx m1 m2 m3 m4 HI ha
        go_wp2_with fail
        refine hcall.mono ?_
        rintro e w5 ⟨rfl, hb5⟩
        have HI5 : Hid (Below w1.heap.size w1 w5 ∧ R = addW (a + wt) ((weightsT ks).drop (i + 1)) ∧ a + wt + ((weightsT ks).drop (i + 1)).sum ≤ 1000000000000000000) := Lib.hid ⟨gcall HB4.out hb5, HR2.out.1, HR2.out.2⟩
        clear hb5 hcall
        go_wp2
        exact ⟨⟨i + 1, a + wt, by omega, rfl, rfl, HI5⟩, by simp [intOf]; omega⟩
      · have hlt2 : decide ((a : Int) < 1000) = false := decide_eq_false (by omega)
        have hlt2n : decide (a < 1000) = false := decide_eq_false ha
        have HE : Hid (R = a ∧ Below W.heap.size W wr) := Lib.hid ⟨by rw [HI.out.2.1, addW_stop _ _ ha], HBW.out⟩
        clear HI ha
        go_wp2
        go_ret
        rw [HE.out.1]
        exact ⟨rfl, by first | exact HE.out.2 | (rw [← HN.out]; exact HE.out.2)⟩
    · obtain rfl : i = ks.length := by omega
      have hlt1 : decide ((ks.length : Int) < (ks.length : Int)) = false := decide_eq_false (by omega)
      have HE : Hid (R = a ∧ Below W.heap.size W wr) := Lib.hid ⟨by rw [HI.out.2.1, ← weightsT_len ks, List.drop_length, addW], HBW.out⟩
      clear HI hge
      go_wp2
      go_ret
      rw [HE.out.1]
      exact ⟨rfl, by first | exact HE.out.2 | (rw [← HN.out]; exact HE.out.2)⟩
theorem weight_deep : ∀ (n : Nat) (x : T), countT x ≤ n → n ≤ 1000000000000000 → ∀ (W : World) (p : Option Addr) (c : Nat), NAt AnyB W x (cellsN x p c) → Calls Tryz.prog 20 #[aggN x p c] W fun e w' => e = .returned (.int .i64 (weightT x)) ∧ Below W.heap.size W w'
  | 0, .mk k t ks, hc, _, _, _, _, _ => by rw [countT_mk] at hc; omega
  | n + 1, .mk k t ks, hc, hn, W, p, c, h => by
    obtain ⟨vs, h1, h2⟩ := h.parts
    refine weight_one k t ks W p c vs (by omega) h1 h2 (Lib.hid fun i x hx w p' c' h' => ?_)
    refine weight_deep n x ?_ (by omega) w p' c' h'
    have := counts_at ks i x hx
    rw [countT_mk] at hc
    omega
theorem weight_any (x : T) (p : Option Addr) (c : Nat) (W : World) (hx : NAt AnyB W x (cellsN x p c)) (hc : countT x ≤ 1000000000000000) : Calls Tryz.prog 20 #[aggN x p c] W fun e w' => e = .returned (.int .i64 (weightT x)) ∧ Below W.heap.size W w' :=
  weight_deep _ x (Nat.le_refl _) hc W p c hx
end Go.Proofs.YtingfomfibhnhaaGreatDoor
