/-
  weight: how many parts a value has, as far as a bound.
-/
import Derived.Test.YtgcpgieojckheaaGreatDoorMgLH
namespace Go.Proofs.YtgcpgieojckheaaGreatDoor.Json
open Go.RowKit Go.Shelf

/-- A sum that stops at 2000. -/
def addN : Nat → List Nat → Nat
  | n, [] => n
  | n, x :: r => if n < 2000 then addN (n + x) r else n
theorem addN_le : ∀ (l : List Nat) (n : Nat), addN n l ≤ n + l.sum
  | [], n => by simp [addN]
  | x :: r, n => by
    unfold addN
    rw [List.sum_cons]
    split
    · have := addN_le r (n + x); omega
    · omega
theorem addN_ge : ∀ (l : List Nat) (n : Nat), n ≤ addN n l
  | [], n => by simp [addN]
  | x :: r, n => by
    unfold addN
    split
    · have := addN_ge r (n + x); omega
    · omega
theorem addN_sum : ∀ (l : List Nat) (n : Nat), addN n l < 2000 → addN n l = n + l.sum
  | [], n, _ => by simp [addN]
  | x :: r, n, h => by
    unfold addN at h ⊢
    rw [List.sum_cons]
    split at h
    · rename_i hn
      rw [if_pos hn, addN_sum r (n + x) h]; omega
    · omega
theorem addN_stop (l : List Nat) (n : Nat) (h : ¬ n < 2000) : addN n l = n := by
  cases l with
  | nil => rfl
  | cons x r => unfold addN; rw [if_neg h]
mutual
def weightJ : J → Nat
  | .mk _ t ns ls => addN (addN (1 + t.length / 64 + ns.length) (ns.map fun n => n.length / 64)) (weightsJ ls)
def weightsJ : List J → List Nat
  | [] => []
  | j :: js => weightJ j :: weightsJ js
end
theorem weightsJ_len : ∀ l : List J, (weightsJ l).length = l.length
  | [] => by unfold weightsJ; rfl
  | j :: js => by unfold weightsJ; rw [List.length_cons, List.length_cons, weightsJ_len js]
theorem weightsJ_get : ∀ (l : List J) (i : Nat) (h : i < l.length), (weightsJ l).drop i = weightJ (l[i]'h) :: (weightsJ l).drop (i + 1)
  | [], i, h => by simp at h
  | j :: js, 0, h => by unfold weightsJ; rfl
  | j :: js, i + 1, h => by
    have := weightsJ_get js i (by simpa using h)
    unfold weightsJ
    simpa using this
mutual
/-- How much a value holds. -/
def massJ : J → Nat
  | .mk _ t ns ls => 1 + t.length + (ns.map fun n => n.length + 1).sum + massesJ ls
def massesJ : List J → Nat
  | [] => 0
  | j :: js => massJ j + massesJ js
end
theorem names_sum : ∀ ns : List (List UInt8), ns.length + (ns.map fun n => n.length / 64).sum ≤ (ns.map fun n => n.length + 1).sum
  | [] => by simp
  | n :: r => by
    have := names_sum r
    simp only [List.map_cons, List.sum_cons, List.length_cons]; omega
mutual
theorem weight_le : ∀ j : J, weightJ j ≤ massJ j
  | .mk k t ns ls => by
    unfold weightJ massJ
    have h1 := addN_le (weightsJ ls) (addN (1 + t.length / 64 + ns.length) (ns.map fun n => n.length / 64))
    have h2 := addN_le (ns.map fun n => n.length / 64) (1 + t.length / 64 + ns.length)
    have h3 := weights_le ls
    have h4 := names_sum ns
    omega
theorem weights_le : ∀ l : List J, (weightsJ l).sum ≤ massesJ l
  | [] => by unfold weightsJ massesJ; simp
  | j :: js => by
    unfold weightsJ massesJ
    rw [List.sum_cons]
    have := weight_le j
    have := weights_le js
    omega
end
theorem masses_at : ∀ (l : List J) (i : Nat) (x : J), l[i]? = some x → massJ x ≤ massesJ l
  | [], i, x, h => by simp at h
  | j :: js, 0, x, h => by simp at h; subst h; unfold massesJ; omega
  | j :: js, i + 1, x, h => by
    simp at h
    have := masses_at js i x h
    unfold massesJ; omega
theorem mass_pos (j : J) : 1 ≤ massJ j := by cases j; unfold massJ; omega
theorem masses_len : ∀ l : List J, l.length ≤ massesJ l
  | [] => by simp
  | j :: js => by
    have := masses_len js
    have := mass_pos j
    unfold massesJ; rw [List.length_cons]; omega
theorem names_len : ∀ ns : List (List UInt8), ns.length ≤ (ns.map fun n => n.length + 1).sum
  | [] => by simp
  | n :: r => by
    have := names_len r
    simp only [List.map_cons, List.sum_cons, List.length_cons]; omega
theorem names_mem : ∀ (ns : List (List UInt8)) (n : List UInt8), n ∈ ns → n.length + 1 ≤ (ns.map fun n => n.length + 1).sum
  | [], n, h => by simp at h
  | m :: r, n, h => by
    simp only [List.map_cons, List.sum_cons]
    rcases List.mem_cons.1 h with rfl | h
    · omega
    · have := names_mem r n h; omega
theorem bl_size (t : List UInt8) : ∃ X : ByteArray, bl t = .string X ∧ X.size = t.length := ⟨⟨t.toArray⟩, rfl, by simp [ByteArray.size]⟩
set_option maxHeartbeats 8000000 in
set_option maxRecDepth 100000 in
theorem weight_one (k : Nat) (t : List UInt8) (ns : List (List UInt8)) (ls : List J) (W : World) (pc : Option Addr) (cc : Nat) (pd : Option Addr) (cd : Nat) (vs : List Value)
    (hm : massJ (.mk k t ns ls) ≤ 1048576) (hc : SlIn AnyB W (.slice pc ns.length cc) 1 ns.length (ns.map bl))
    (hd : SlIn AnyB W (.slice pd ls.length cd) 4 ls.length vs) (hj : JsAt AnyB W ls vs)
    (HREC : Hid (∀ (i : Nat) x, ls[i]? = some x → ∀ (w : World) (cs : List Value), JAt AnyB w x cs → Calls Tryz.prog 38 #[.agg cs.toArray] w fun e w' => e = .returned (.int .i64 (weightJ x)) ∧ Below w.heap.size w w')) :
    Calls Tryz.prog 38 #[.agg #[.int .u8 k, bl t, .slice pc ns.length cc, .slice pd ls.length cd]] W fun e w' => e = .returned (.int .i64 (weightJ (.mk k t ns ls))) ∧ Below W.heap.size W w' := by
  obtain ⟨R, hR⟩ : ∃ R, weightJ (.mk k t ns ls) = R := ⟨_, rfl⟩
  rw [hR]
  obtain ⟨A0, hA0⟩ : ∃ a, 1 + t.length / 64 + ns.length = a := ⟨_, rfl⟩
  have hF : R = addN (addN A0 (ns.map fun n => n.length / 64)) (weightsJ ls) := by rw [← hR, weightJ, hA0]
  unfold massJ at hm
  have hA0l : A0 ≤ 1048576 := by have := names_len ns; omega
  have hnl : ns.length ≤ 1048576 := by have := names_len ns; omega
  have hll : ls.length ≤ 1048576 := by have := masses_len ls; omega
  have hbnd1 : A0 + (ns.map fun n => n.length / 64).sum ≤ 1048576 := by have := names_sum ns; omega
  have hbnd2 : A0 + (ns.map fun n => n.length / 64).sum + (weightsJ ls).sum ≤ 1048576 := by have := names_sum ns; have := weights_le ls; omega
  obtain ⟨tx, hbl, htl⟩ := bl_size t
  obtain ⟨K, hK⟩ : ∃ K : Int, (k : Int) = K := ⟨_, rfl⟩
  rw [hK, hbl]
  obtain ⟨w1, hw1⟩ : ∃ w1, W.alloc (.cells #[.int .u8 K, .string tx, .slice pc ns.length cc, .slice pd ls.length cd] 47) = w1 := ⟨_, rfl⟩
  have hp1 : w1.heap[W.heap.size]? = some (.cells #[.int .u8 K, .string tx, .slice pc ns.length cc, .slice pd ls.length cd] 47 (0, 0)) := by rw [← hw1]; exact World.alloc_heap_new W _
  have hb1 : Below W.heap.size W w1 := by rw [← hw1]; exact galloc (Below.refl _ _) _
  obtain ⟨N, hN⟩ : ∃ N, W.heap.size = N := ⟨_, rfl⟩
  rw [hN] at hp1
  obtain ⟨d0, d1, d2, d3⟩ : w1.cell? ⟨N, 0, none⟩ = some (.int .u8 K) ∧ w1.cell? ⟨N, 1, none⟩ = some (.string tx) ∧ w1.cell? ⟨N, 2, none⟩ = some (.slice pc ns.length cc) ∧ w1.cell? ⟨N, 3, none⟩ = some (.slice pd ls.length cd) :=
    ⟨by rw [cellH hp1]; rfl, by rw [cellH hp1]; rfl, by rw [cellH hp1]; rfl, by rw [cellH hp1]; rfl⟩
  have e1 : IntKind.i64.wrap (Int.tdiv (tx.size : Int) 64) = ((t.length / 64 : Nat) : Int) := by rw [htl, Int.tdiv_eq_ediv_of_nonneg (by omega), IntWalk.i64_in _ (by omega)]; omega
  have e1b : IntKind.i64.wrap ((tx.size : Int) / 64) = ((t.length / 64 : Nat) : Int) := by rw [htl, IntWalk.i64_in _ (by omega)]; omega
  obtain ⟨q, hq⟩ : ∃ q, t.length / 64 = q := ⟨_, rfl⟩
  rw [hq] at e1 e1b hA0
  obtain ⟨q2, hq2⟩ : ∃ q2, 1 + q = q2 := ⟨_, rfl⟩
  rw [hq2] at hA0
  have e2 : IntKind.i64.wrap (1 + (q : Int)) = (q2 : Int) := by rw [IntWalk.i64_in _ (by omega)]; omega
  have e3 : IntKind.i64.wrap ((q2 : Int) + (ns.length : Int)) = (A0 : Int) := by rw [IntWalk.i64_in _ (by omega)]; omega
  have HP1 := Lib.hid hp1
  have HB1 := Lib.hid hb1
  have HF := Lib.hid hF
  have HD := Lib.hid hd
  have HC := Lib.hid hc
  have HJ := Lib.hid hj
  have HN := Lib.hid hN
  have HL := Lib.hid hnl
  have HL2 := Lib.hid hll
  have HBN1 := Lib.hid hbnd1
  have HBN2 := Lib.hid hbnd2
  have HI0 : Hid (addN A0 (ns.map fun n => n.length / 64) = addN A0 ((ns.map fun n => n.length / 64).drop 0) ∧ A0 + ((ns.map fun n => n.length / 64).drop 0).sum ≤ 1048576) := Lib.hid ⟨rfl, hbnd1⟩
  clear hF hR hp1 hb1 hc hd hj hK hbl hnl hll hbnd1 hbnd2 hq hq2 hA0 htl hm hA0l
  go_enter Tryz.func38, Tryz.ntmps38
  go_wp2_with fail
  go_loopw [3, 4] (fun nv iv wr => ∃ (i a : Nat), i ≤ ns.length ∧ iv = .int .i64 i ∧ nv = .int .i64 a ∧ w1 = wr ∧ Hid (addN A0 (ns.map fun n => n.length / 64) = addN a ((ns.map fun n => n.length / 64).drop i) ∧ a + ((ns.map fun n => n.length / 64).drop i).sum ≤ 1048576)) (fun _ iv _ => ns.length - (intOf iv).toNat)
  case atStart => exact ⟨0, A0, by omega, rfl, rfl, rfl, HI0⟩
  case round =>
    obtain ⟨i, a, hi, rfl, rfl, rfl, HI⟩ := hrel
    rcases Nat.lt_or_ge i ns.length with hlt | hge
    · have hlt1 : decide ((i : Int) < (ns.length : Int)) = true := decide_eq_true (by omega)
      by_cases ha : a < 2000
      · have hlt2 : decide ((a : Int) < 2000) = true := decide_eq_true (by omega)
        have hlx : (i : Int) < (ns.length : Int) := by omega
        have hwi : IntKind.i64.wrap ((i : Int) + 1) = ((i + 1 : Nat) : Int) := by rw [IntWalk.i64_in _ (by have := HL.out; omega)]; omega
        obtain ⟨g1, o1, rfl, hx1⟩ := HC.out.cellAt (by omega)
        have hu1 := List.getElem?_eq_getElem hlt
        have hm : (ns.map bl)[i]? = some (bl (ns[i]'hlt)) := by rw [List.getElem?_map, hu1]; rfl
        have h0 := hx1 i _ hm
        obtain ⟨X, hX, hXl⟩ := bl_size (ns[i]'hlt)
        rw [hX] at h0
        have k1 : w1.cell? ⟨g1, o1 + i, none⟩ = some (.string X) := cell_in HB1.out h0
        have hdr : (ns.map fun n => n.length / 64).drop i = X.size / 64 :: (ns.map fun n => n.length / 64).drop (i + 1) := by
          rw [List.drop_eq_getElem_cons (by rw [List.length_map]; exact hlt), List.getElem_map, hXl]
        have HI2 : Hid (addN A0 (ns.map fun n => n.length / 64) = addN (a + X.size / 64) ((ns.map fun n => n.length / 64).drop (i + 1)) ∧ a + X.size / 64 + ((ns.map fun n => n.length / 64).drop (i + 1)).sum ≤ 1048576) := Lib.hid (by
          have h1 := HI.out.1
          have h2 := HI.out.2
          rw [hdr] at h1 h2
          rw [List.sum_cons] at h2
          refine ⟨?_, by omega⟩
          rw [h1, addN, if_pos ha])
        have hsz : X.size / 64 ≤ 1048576 := by have := HI2.out.2; omega
        have e7 : IntKind.i64.wrap (Int.tdiv (X.size : Int) 64) = ((X.size / 64 : Nat) : Int) := by rw [Int.tdiv_eq_ediv_of_nonneg (by omega), IntWalk.i64_in _ (by omega)]; omega
        have e8 : IntKind.i64.wrap ((X.size : Int) / 64) = ((X.size / 64 : Nat) : Int) := by rw [IntWalk.i64_in _ (by omega)]; omega
        obtain ⟨q, hq⟩ : ∃ q, X.size / 64 = q := ⟨_, rfl⟩
        rw [hq] at e7 e8 HI2 hsz
        have hwa : IntKind.i64.wrap ((a : Int) + (q : Int)) = ((a + q : Nat) : Int) := by have := HI2.out.2; rw [IntWalk.i64_in _ (by omega)]; omega
        clear hx1 hu1 hm h0 hX hXl hdr HI hq hsz ha
        go_wp2
        exact ⟨⟨i + 1, a + q, by omega, rfl, rfl, trivial, HI2⟩, by simp [intOf]; omega⟩
      · have hlt2 : decide ((a : Int) < 2000) = false := decide_eq_false (by omega)
        have hlt2n : decide (a < 2000) = false := decide_eq_false ha
        have HI1 : Hid (Below w1.heap.size w1 w1 ∧ R = addN a ((weightsJ ls).drop 0) ∧ a + ((weightsJ ls).drop 0).sum ≤ 1048576) := Lib.hid ⟨Below.refl _ _, by rw [HF.out, HI.out.1, addN_stop _ _ ha]; rfl, by
          have h1 := HI.out.1
          have h2 := addN_le (ns.map fun n => n.length / 64) A0
          have h3 := HBN2.out
          rw [addN_stop _ _ ha] at h1
          rw [List.drop_zero]; omega⟩
        clear HI ha
        go_wp2_with fail
        go_loopw [3, 5] (fun nv iv wr => ∃ (i a : Nat), i ≤ ls.length ∧ iv = .int .i64 i ∧ nv = .int .i64 a ∧ Hid (Below w1.heap.size w1 wr ∧ R = addN a ((weightsJ ls).drop i) ∧ a + ((weightsJ ls).drop i).sum ≤ 1048576)) (fun _ iv _ => ls.length - (intOf iv).toNat)
        case atStart => exact ⟨0, a, by omega, rfl, rfl, HI1⟩
        case round =>
          clear hi HI1
          obtain ⟨i, a, hi, rfl, rfl, HI⟩ := hrel
          have e3 : wr.cell? ⟨N, 3, none⟩ = some (.slice pd ls.length cd) := cell_in HI.out.1 d3
          have HBW : Hid (Below W.heap.size W wr) := Lib.hid (gcall HB1.out HI.out.1)
          rcases Nat.lt_or_ge i ls.length with hlt | hge
          · have hlt1 : decide ((i : Int) < (ls.length : Int)) = true := decide_eq_true (by omega)
            by_cases ha : a < 2000
            · have hlt2 : decide ((a : Int) < 2000) = true := decide_eq_true (by omega)
              have hlx : (i : Int) < (ls.length : Int) := by omega
              have hwi : IntKind.i64.wrap ((i : Int) + 1) = ((i + 1 : Nat) : Int) := by rw [IntWalk.i64_in _ (by have := HL2.out; omega)]; omega
              obtain ⟨g1, o1, rfl, hx1⟩ := HD.out.cellAt (by omega)
              have hu1 := List.getElem?_eq_getElem hlt
              obtain ⟨xa, xb, xc, xd, hjx, m1, m2, m3, m4⟩ := HJ.out.nth ls vs i _ hu1
              obtain ⟨kd, ty, pe, ne, ce, pf, nf, cf, rfl, rfl, rfl, rfl⟩ := jat_four hjx
              have k1 : wr.cell? ⟨g1, o1 + i * 4, none⟩ = some (.int .u8 (kd : Nat)) := cell_in HBW.out (hx1 _ _ m1)
              have k2 : wr.cell? ⟨g1, o1 + i * 4 + 1, none⟩ = some (.string ty) := cell_in HBW.out (hx1 _ _ m2)
              have k3 : wr.cell? ⟨g1, o1 + i * 4 + 2, none⟩ = some (.slice pe ne ce) := cell_in HBW.out (hx1 _ _ m3)
              have k4 : wr.cell? ⟨g1, o1 + i * 4 + 3, none⟩ = some (.slice pf nf cf) := cell_in HBW.out (hx1 _ _ m4)
              have hcall := HREC.out i _ hu1 wr [.int .u8 (kd : Nat), .string ty, .slice pe ne ce, .slice pf nf cf] (hjx.below HBW.out)
              rw [show ([.int .u8 (kd : Nat), .string ty, .slice pe ne ce, .slice pf nf cf] : List Value).toArray = #[.int .u8 (kd : Nat), .string ty, .slice pe ne ce, .slice pf nf cf] from rfl] at hcall
              have HR2 : Hid (R = addN (a + weightJ (ls[i]'hlt)) ((weightsJ ls).drop (i + 1)) ∧ a + weightJ (ls[i]'hlt) + ((weightsJ ls).drop (i + 1)).sum ≤ 1048576) := Lib.hid (by
                have h1 := HI.out.2.1
                have h2 := HI.out.2.2
                rw [weightsJ_get ls i hlt] at h1 h2
                rw [List.sum_cons] at h2
                refine ⟨?_, by omega⟩
                rw [h1, addN, if_pos ha])
              have HB4 := Lib.hid HI.out.1
              generalize weightJ (ls[i]'hlt) = wt at *
              have hwa : IntKind.i64.wrap ((a : Int) + (wt : Int)) = ((a + wt : Nat) : Int) := by have := HR2.out.2; rw [IntWalk.i64_in _ (by omega)]; omega
              clear hx1 hu1 hjx m1 m2 m3 m4 HI ha
              go_wp2_with fail
              refine hcall.mono ?_
              rintro e w5 ⟨rfl, hb5⟩
              have HI5 : Hid (Below w1.heap.size w1 w5 ∧ R = addN (a + wt) ((weightsJ ls).drop (i + 1)) ∧ a + wt + ((weightsJ ls).drop (i + 1)).sum ≤ 1048576) := Lib.hid ⟨gcall HB4.out hb5, HR2.out.1, HR2.out.2⟩
              clear hb5 hcall
              go_wp2
              exact ⟨⟨i + 1, a + wt, by omega, rfl, rfl, HI5⟩, by simp [intOf]; omega⟩
            · have hlt2 : decide ((a : Int) < 2000) = false := decide_eq_false (by omega)
              have hlt2n : decide (a < 2000) = false := decide_eq_false ha
              have HE : Hid (R = a ∧ Below W.heap.size W wr) := Lib.hid ⟨by rw [HI.out.2.1, addN_stop _ _ ha], HBW.out⟩
              clear HI ha
              go_wp2
              go_ret
              rw [HE.out.1]
              exact ⟨rfl, by first | exact HE.out.2 | (rw [← HN.out]; exact HE.out.2)⟩
          · obtain rfl : i = ls.length := by omega
            have hlt1 : decide ((ls.length : Int) < (ls.length : Int)) = false := decide_eq_false (by omega)
            have HE : Hid (R = a ∧ Below W.heap.size W wr) := Lib.hid ⟨by rw [HI.out.2.1, ← weightsJ_len ls, List.drop_length, addN], HBW.out⟩
            clear HI hge
            go_wp2
            go_ret
            rw [HE.out.1]
            exact ⟨rfl, by first | exact HE.out.2 | (rw [← HN.out]; exact HE.out.2)⟩
    · obtain rfl : i = ns.length := by omega
      have hlt1 : decide ((ns.length : Int) < (ns.length : Int)) = false := decide_eq_false (by omega)
      have HI1 : Hid (Below w1.heap.size w1 w1 ∧ R = addN a ((weightsJ ls).drop 0) ∧ a + ((weightsJ ls).drop 0).sum ≤ 1048576) := Lib.hid ⟨Below.refl _ _, by
          have h1 := HI.out.1
          rw [show ns.length = (ns.map fun n => n.length / 64).length from (List.length_map _).symm, List.drop_length, addN] at h1
          rw [HF.out, h1]; rfl, by
          have h1 := HI.out.1
          have h2 := addN_le (ns.map fun n => n.length / 64) A0
          have h3 := HBN2.out
          rw [show ns.length = (ns.map fun n => n.length / 64).length from (List.length_map _).symm, List.drop_length, addN] at h1
          rw [List.drop_zero]; omega⟩
      clear HI hge
      go_wp2_with fail
      go_loopw [3, 5] (fun nv iv wr => ∃ (i a : Nat), i ≤ ls.length ∧ iv = .int .i64 i ∧ nv = .int .i64 a ∧ Hid (Below w1.heap.size w1 wr ∧ R = addN a ((weightsJ ls).drop i) ∧ a + ((weightsJ ls).drop i).sum ≤ 1048576)) (fun _ iv _ => ls.length - (intOf iv).toNat)
      case atStart => exact ⟨0, a, by omega, rfl, rfl, HI1⟩
      case round =>
        clear hi HI1
        obtain ⟨i, a, hi, rfl, rfl, HI⟩ := hrel
        have e3 : wr.cell? ⟨N, 3, none⟩ = some (.slice pd ls.length cd) := cell_in HI.out.1 d3
        have HBW : Hid (Below W.heap.size W wr) := Lib.hid (gcall HB1.out HI.out.1)
        rcases Nat.lt_or_ge i ls.length with hlt | hge
        · have hlt1 : decide ((i : Int) < (ls.length : Int)) = true := decide_eq_true (by omega)
          by_cases ha : a < 2000
          · have hlt2 : decide ((a : Int) < 2000) = true := decide_eq_true (by omega)
            have hlx : (i : Int) < (ls.length : Int) := by omega
            have hwi : IntKind.i64.wrap ((i : Int) + 1) = ((i + 1 : Nat) : Int) := by rw [IntWalk.i64_in _ (by have := HL2.out; omega)]; omega
            obtain ⟨g1, o1, rfl, hx1⟩ := HD.out.cellAt (by omega)
            have hu1 := List.getElem?_eq_getElem hlt
            obtain ⟨xa, xb, xc, xd, hjx, m1, m2, m3, m4⟩ := HJ.out.nth ls vs i _ hu1
            obtain ⟨kd, ty, pe, ne, ce, pf, nf, cf, rfl, rfl, rfl, rfl⟩ := jat_four hjx
            have k1 : wr.cell? ⟨g1, o1 + i * 4, none⟩ = some (.int .u8 (kd : Nat)) := cell_in HBW.out (hx1 _ _ m1)
            have k2 : wr.cell? ⟨g1, o1 + i * 4 + 1, none⟩ = some (.string ty) := cell_in HBW.out (hx1 _ _ m2)
            have k3 : wr.cell? ⟨g1, o1 + i * 4 + 2, none⟩ = some (.slice pe ne ce) := cell_in HBW.out (hx1 _ _ m3)
            have k4 : wr.cell? ⟨g1, o1 + i * 4 + 3, none⟩ = some (.slice pf nf cf) := cell_in HBW.out (hx1 _ _ m4)
            have hcall := HREC.out i _ hu1 wr [.int .u8 (kd : Nat), .string ty, .slice pe ne ce, .slice pf nf cf] (hjx.below HBW.out)
            rw [show ([.int .u8 (kd : Nat), .string ty, .slice pe ne ce, .slice pf nf cf] : List Value).toArray = #[.int .u8 (kd : Nat), .string ty, .slice pe ne ce, .slice pf nf cf] from rfl] at hcall
            have HR2 : Hid (R = addN (a + weightJ (ls[i]'hlt)) ((weightsJ ls).drop (i + 1)) ∧ a + weightJ (ls[i]'hlt) + ((weightsJ ls).drop (i + 1)).sum ≤ 1048576) := Lib.hid (by
              have h1 := HI.out.2.1
              have h2 := HI.out.2.2
              rw [weightsJ_get ls i hlt] at h1 h2
              rw [List.sum_cons] at h2
              refine ⟨?_, by omega⟩
              rw [h1, addN, if_pos ha])
            have HB4 := Lib.hid HI.out.1
            generalize weightJ (ls[i]'hlt) = wt at *
            have hwa : IntKind.i64.wrap ((a : Int) + (wt : Int)) = ((a + wt : Nat) : Int) := by have := HR2.out.2; rw [IntWalk.i64_in _ (by omega)]; omega
            clear hx1 hu1 hjx m1 m2 m3 m4 HI ha
            go_wp2_with fail
            refine hcall.mono ?_
            rintro e w5 ⟨rfl, hb5⟩
            have HI5 : Hid (Below w1.heap.size w1 w5 ∧ R = addN (a + wt) ((weightsJ ls).drop (i + 1)) ∧ a + wt + ((weightsJ ls).drop (i + 1)).sum ≤ 1048576) := Lib.hid ⟨gcall HB4.out hb5, HR2.out.1, HR2.out.2⟩
            clear hb5 hcall
            go_wp2
            exact ⟨⟨i + 1, a + wt, by omega, rfl, rfl, HI5⟩, by simp [intOf]; omega⟩
          · have hlt2 : decide ((a : Int) < 2000) = false := decide_eq_false (by omega)
            have hlt2n : decide (a < 2000) = false := decide_eq_false ha
            have HE : Hid (R = a ∧ Below W.heap.size W wr) := Lib.hid ⟨by rw [HI.out.2.1, addN_stop _ _ ha], HBW.out⟩
            clear HI ha
            go_wp2
            go_ret
            rw [HE.out.1]
            exact ⟨rfl, by first | exact HE.out.2 | (rw [← HN.out]; exact HE.out.2)⟩
        · obtain rfl : i = ls.length := by omega
          have hlt1 : decide ((ls.length : Int) < (ls.length : Int)) = false := decide_eq_false (by omega)
          have HE : Hid (R = a ∧ Below W.heap.size W wr) := Lib.hid ⟨by rw [HI.out.2.1, ← weightsJ_len ls, List.drop_length, addN], HBW.out⟩
          clear HI hge
          go_wp2
          go_ret
          rw [HE.out.1]
          exact ⟨rfl, by first | exact HE.out.2 | (rw [← HN.out]; exact HE.out.2)⟩
/-- How much a value weighs, of any value in memory. -/
theorem weight_deep : ∀ (n : Nat) (j : J), deepJ j ≤ n → massJ j ≤ 1048576 → ∀ (W : World) (cs : List Value), JAt AnyB W j cs → Calls Tryz.prog 38 #[.agg cs.toArray] W fun e w' => e = .returned (.int .i64 (weightJ j)) ∧ Below W.heap.size W w'
  | 0, .mk k t ns ls, hd, _, _, _, _ => by unfold deepJ at hd; omega
  | n + 1, .mk k t ns ls, hd, hm, W, cs, hj => by
    obtain ⟨pc, cc, pd, cd, vs, rfl, h1, h2, h3⟩ := hj.form
    refine weight_one k t ns ls W pc cc pd cd vs hm h1 h2 h3 (Lib.hid fun i x hi w cs hjx => weight_deep n x ?_ ?_ w cs hjx)
    · have := deepJ_at ls i x hi
      unfold deepJ at hd; omega
    · have := masses_at ls i x hi
      unfold massJ at hm; omega
theorem weight_any (j : J) (hm : massJ j ≤ 1048576) (W : World) (cs : List Value) (hj : JAt AnyB W j cs) : Calls Tryz.prog 38 #[.agg cs.toArray] W fun e w' => e = .returned (.int .i64 (weightJ j)) ∧ Below W.heap.size W w' :=
  weight_deep (deepJ j) j (Nat.le_refl _) hm W cs hj
end Go.Proofs.YtgcpgieojckheaaGreatDoor.Json
