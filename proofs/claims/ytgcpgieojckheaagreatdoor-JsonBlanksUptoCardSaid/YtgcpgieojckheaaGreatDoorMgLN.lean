/-
  canonical; invalid; whether some name is invalid.
  Whether a value's fields are those of its Kind.
-/
import Derived.Test.YtgcpgieojckheaaGreatDoorMgLH
namespace Go.Proofs.YtgcpgieojckheaaGreatDoor.Json
open Go.RowKit Go.Shelf

/-- A Number's text is its own form. -/
def canonG (t : List UInt8) : Bool := (ownR t).2 == 0 && (ownR t).1 == t
theorem bytes_eq (a b : List UInt8) : ((⟨a.toArray⟩ : ByteArray).toList == (⟨b.toArray⟩ : ByteArray).toList) = (a == b) := by
  have h : ∀ l : List UInt8, (⟨l.toArray⟩ : ByteArray).toList = l := fun l => by rw [Lib.toList_data]
  rw [h, h]
set_option maxHeartbeats 2000000 in
set_option maxRecDepth 100000 in
theorem canonical_any (t : List UInt8) (w : World) (hT : Tab w) (hs : t.length ≤ 1000000) : Calls Tryz.prog 150 #[bl t] w fun e w' => e = .returned (.bool (canonG t)) ∧ Below w.heap.size w w' := by
  obtain ⟨tx, htx⟩ : ∃ tx : ByteArray, (⟨t.toArray⟩ : ByteArray) = tx := ⟨_, rfl⟩
  have htl : tx.data.toList = t := by rw [← htx]
  have hbl : bl t = .string tx := by unfold bl; rw [htx]
  have cO := own_any tx w hT (by rw [Lib.size_eq, htl]; omega)
  unfold OwnEnd at cO
  rw [htl] at cO
  obtain ⟨G, hG⟩ : ∃ g : ByteArray, (⟨(ownR t).1.toArray⟩ : ByteArray) = g := ⟨_, rfl⟩
  have he : (G.toList == tx.toList) = ((ownR t).1 == t) := by rw [← hG, ← htx]; exact bytes_eq _ _
  unfold bl at cO
  rw [hG] at cO
  have HC : Hid (canonG t = ((ownR t).2 == 0 && (G.toList == tx.toList))) := Lib.hid (by unfold canonG; rw [he])
  obtain ⟨c, hc⟩ : ∃ c : Int, (ownR t).2 = c := ⟨_, rfl⟩
  rw [hc] at cO HC
  rw [hbl]
  clear htx htl hbl hG he hc hT hs
  by_cases h0 : c = 0
  · have h0' : (c == 0) = true := by rw [h0]; rfl
    rw [h0'] at HC
    clear h0
    go_enter Tryz.func150, Tryz.ntmps150
    go_wp2_with fail
    refine cO.mono ?_
    rintro e w1 ⟨rfl, hb1⟩
    have HB1 := Lib.hid hb1
    clear hb1 cO
    go_wp2
    go_ret
    rw [HC.out]
    exact ⟨rfl, HB1.out⟩
  · have h0' : (c == 0) = false := by rw [beq_eq_false_iff_ne]; exact h0
    rw [h0'] at HC
    clear h0
    go_enter Tryz.func150, Tryz.ntmps150
    go_wp2_with fail
    refine cO.mono ?_
    rintro e w1 ⟨rfl, hb1⟩
    have HB1 := Lib.hid hb1
    clear hb1 cO
    go_wp2
    go_ret
    rw [HC.out]
    exact ⟨rfl, HB1.out⟩
theorem invalid_any (s : ByteArray) (w : World) (hs : s.size ≤ 1000000) (hT : Lib.Utf8Tabs 6 7 w) : Calls Tryz.prog 153 #[.string s] w fun e w' => e = .returned (.bool (!Utf.validS s)) ∧ Below w.heap.size w w' := by
  have hv := Utf.valid_any s w (by omega) hT
  generalize Utf.validS s = v at *
  go_enter Tryz.func153, Tryz.ntmps153
  go_wp2_with fail
  refine hv.mono ?_
  rintro e w1 ⟨rfl, hb1⟩
  have HB1 := Lib.hid hb1
  clear hb1 hv
  go_wp2
  go_ret
  exact ⟨rfl, HB1.out⟩
/-- The first invalid name's place, or -1. -/
def badAt : List (List UInt8) → Nat → Int
  | [], _ => -1
  | n :: r, i => if Utf.validS ⟨n.toArray⟩ then badAt r (i + 1) else (i : Int)
set_option maxHeartbeats 4000000 in
set_option maxRecDepth 100000 in
theorem index_any (ns : List (List UInt8)) (pc : Option Addr) (cc : Nat) (W : World) (hn : ∀ n ∈ ns, n.length ≤ 1000000) (hlen : ns.length ≤ 1000000000) (hT : Lib.Utf8Tabs 6 7 W) (h8 : 8 ≤ W.heap.size)
    (hc : SlIn AnyB W (.slice pc ns.length cc) 1 ns.length (ns.map bl)) :
    Calls Tryz.prog 189 #[.slice pc ns.length cc, .func (.func 153) #[] #[]] W fun e w' => e = .returned (.int .i64 (badAt ns 0)) ∧ Below W.heap.size W w' := by
  obtain ⟨R, hR⟩ : ∃ R, badAt ns 0 = R := ⟨_, rfl⟩
  rw [hR]
  have HI0 : Hid (Below W.heap.size W W ∧ R = badAt (ns.drop 0) 0) := Lib.hid ⟨Below.refl _ _, hR.symm⟩
  have HC := Lib.hid hc
  have HN := Lib.hid hn
  have HT := Lib.hid hT
  clear hR hc hn hT
  go_enter Tryz.func189, Tryz.ntmps189
  go_wp2_with fail
  go_loopw [8] (fun iv wr => ∃ i : Nat, i ≤ ns.length ∧ iv = .int .i64 i ∧ Hid (Below W.heap.size W wr ∧ R = badAt (ns.drop i) i)) (fun iv _ => ns.length - (intOf iv).toNat)
  case atStart => exact ⟨0, by omega, rfl, HI0⟩
  case round =>
    obtain ⟨i, hi, rfl, HI⟩ := hrel
    rcases Nat.lt_or_ge i ns.length with hlt | hge
    · have hlt' : (i : Int) < (ns.length : Int) := by omega
      have hwi : IntKind.i64.wrap ((i : Int) + 1) = ((i + 1 : Nat) : Int) := by rw [IntWalk.i64_in _ (by omega)]; omega
      obtain ⟨g1, o1, rfl, hx1⟩ := HC.out.cellAt (by omega)
      have hu1 := List.getElem?_eq_getElem hlt
      have hm : (ns.map bl)[i]? = some (.string ⟨(ns[i]'hlt).toArray⟩) := by rw [List.getElem?_map, hu1]; rfl
      have k1 : wr.cell? ⟨g1, o1 + i, none⟩ = some (.string ⟨(ns[i]'hlt).toArray⟩) := cell_in HI.out.1 (hx1 i _ hm)
      have hcall := invalid_any ⟨(ns[i]'hlt).toArray⟩ wr (by have := HN.out _ (List.getElem_mem hlt); rw [Lib.size_eq]; simpa using this) (Utf.tabs_below HT.out HI.out.1 h8)
      have HD : Hid (R = if Utf.validS ⟨(ns[i]'hlt).toArray⟩ then badAt (ns.drop (i + 1)) (i + 1) else (i : Int)) := Lib.hid (by rw [HI.out.2, List.drop_eq_getElem_cons hlt, badAt])
      have HB := Lib.hid HI.out.1
      generalize (⟨(ns[i]'hlt).toArray⟩ : ByteArray) = X at *
      clear hx1 hu1 hm HI
      cases hv : Utf.validS X with
      | true =>
        rw [hv] at hcall HD
        go_wp2_with fail
        refine hcall.mono ?_
        rintro e w1 ⟨rfl, hb1⟩
        have HI2 : Hid (Below W.heap.size W w1 ∧ R = badAt (ns.drop (i + 1)) (i + 1)) := Lib.hid ⟨gcall HB.out hb1, HD.out⟩
        clear hb1 hcall hv
        go_wp2
        exact ⟨⟨i + 1, by omega, rfl, HI2⟩, by simp [intOf]; omega⟩
      | false =>
        rw [hv] at hcall HD
        go_wp2_with fail
        refine hcall.mono ?_
        rintro e w1 ⟨rfl, hb1⟩
        have HE : Hid (R = (i : Int) ∧ Below W.heap.size W w1) := Lib.hid ⟨HD.out, gcall HB.out hb1⟩
        clear hb1 hcall hv
        go_wp2
        go_ret
        rw [HE.out.1]
        exact ⟨rfl, HE.out.2⟩
    · obtain rfl : i = ns.length := by omega
      have hlt' : ¬ (ns.length : Int) < (ns.length : Int) := by omega
      have HE : Hid (R = -1 ∧ Below W.heap.size W wr) := Lib.hid ⟨by rw [HI.out.2, List.drop_length, badAt], HI.out.1⟩
      go_wp2
      go_ret
      rw [HE.out.1]
      exact ⟨rfl, HE.out.2⟩
theorem badAt_ge : ∀ (ns : List (List UInt8)) (i : Nat), decide ((0 : Int) ≤ badAt ns i) = !(ns.all fun n => Utf.validS ⟨n.toArray⟩)
  | [], _ => rfl
  | n :: r, i => by
    unfold badAt
    by_cases h : Utf.validS ⟨n.toArray⟩ = true
    · rw [if_pos h, badAt_ge r (i + 1)]; simp [h]
    · rw [if_neg h]
      have h' : Utf.validS ⟨n.toArray⟩ = false := by simpa using h
      simp [h']
theorem contains_any (ns : List (List UInt8)) (pc : Option Addr) (cc : Nat) (W : World) (hn : ∀ n ∈ ns, n.length ≤ 1000000) (hlen : ns.length ≤ 1000000000) (hT : Lib.Utf8Tabs 6 7 W) (h8 : 8 ≤ W.heap.size)
    (hc : SlIn AnyB W (.slice pc ns.length cc) 1 ns.length (ns.map bl)) :
    Calls Tryz.prog 152 #[.slice pc ns.length cc, .func (.func 153) #[] #[]] W fun e w' => e = .returned (.bool (!(ns.all fun n => Utf.validS ⟨n.toArray⟩))) ∧ Below W.heap.size W w' := by
  have hi := index_any ns pc cc W hn hlen hT h8 hc
  rw [← badAt_ge ns 0]
  generalize badAt ns 0 = R at *
  clear hc hT hn
  go_enter Tryz.func152, Tryz.ntmps152
  go_wp2_with fail
  refine hi.mono ?_
  rintro e w1 ⟨rfl, hb1⟩
  have HB1 := Lib.hid hb1
  clear hb1 hi
  go_wp2
  go_ret
  exact ⟨rfl, HB1.out⟩
end Go.Proofs.YtgcpgieojckheaaGreatDoor.Json
namespace Go.Proofs.YtgcpgieojckheaaGreatDoor.Json
open Go.RowKit Go.Shelf

/-- Whether the fields are the Kind's. -/
def fitsG : J → Bool
  | .mk k t ns ls => if k = 1 ∨ k = 2 ∨ k = 3 then t.isEmpty && (ns.isEmpty && ls.isEmpty) else if k = 4 then canonG t && (ns.isEmpty && ls.isEmpty) else if k = 5 then Utf.validS ⟨t.toArray⟩ && (ns.isEmpty && ls.isEmpty)
      else if k = 6 then t.isEmpty && ns.isEmpty else if k = 7 then t.isEmpty && (decide (ns.length = ls.length) && ns.all fun n => Utf.validS ⟨n.toArray⟩) else false
theorem int_empty {α : Type} (l : List α) : ((l.length : Int) == 0) = l.isEmpty := by
  cases l with
  | nil => rfl
  | cons a l => rw [List.isEmpty_cons, beq_eq_false_iff_ne, List.length_cons]; omega
theorem int_same {α β : Type} (l : List α) (m : List β) : ((l.length : Int) == (m.length : Int)) = decide (l.length = m.length) := by
  rw [Bool.eq_iff_iff, beq_iff_eq, decide_eq_true_iff]; omega
set_option maxHeartbeats 8000000 in
set_option maxRecDepth 100000 in
theorem fits_one (k : Nat) (t : List UInt8) (ns : List (List UInt8)) (ls : List J) (W : World) (pc : Option Addr) (cc : Nat) (pd : Option Addr) (cd : Nat) (hT : TabsJ W) (h8 : 8 ≤ W.heap.size)
    (ht : t.length ≤ 1000000) (hn : ∀ n ∈ ns, n.length ≤ 1000000) (hlen : ns.length ≤ 1000000000) (hc : SlIn AnyB W (.slice pc ns.length cc) 1 ns.length (ns.map bl)) :
    Calls Tryz.prog 102 #[.agg #[.int .u8 k, bl t, .slice pc ns.length cc, .slice pd ls.length cd]] W fun e w' => e = .returned (.bool (fitsG (.mk k t ns ls))) ∧ Below W.heap.size W w' := by
  obtain ⟨R, hR⟩ : ∃ R, fitsG (.mk k t ns ls) = R := ⟨_, rfl⟩
  rw [hR]
  obtain ⟨K, hK⟩ : ∃ K : Int, (k : Int) = K := ⟨_, rfl⟩
  obtain ⟨tx, htx⟩ : ∃ tx : ByteArray, (⟨t.toArray⟩ : ByteArray) = tx := ⟨_, rfl⟩
  have htl : tx.toList = t := by rw [← htx, Lib.toList_data]
  have hbl : bl t = .string tx := by unfold bl; rw [htx]
  rw [hbl, hK]
  obtain ⟨w1, hw1⟩ : ∃ w1, W.alloc (.cells #[.int .u8 K, .string tx, .slice pc ns.length cc, .slice pd ls.length cd] 47) = w1 := ⟨_, rfl⟩
  have hp1 : w1.heap[W.heap.size]? = some (.cells #[.int .u8 K, .string tx, .slice pc ns.length cc, .slice pd ls.length cd] 47 (0, 0)) := by rw [← hw1]; exact World.alloc_heap_new W _
  have hb1 : Below W.heap.size W w1 := by rw [← hw1]; exact galloc (Below.refl _ _) _
  obtain ⟨N, hN⟩ : ∃ N, W.heap.size = N := ⟨_, rfl⟩
  rw [hN] at hp1
  obtain ⟨d0, d1, d2, d3⟩ : w1.cell? ⟨N, 0, none⟩ = some (.int .u8 K) ∧ w1.cell? ⟨N, 1, none⟩ = some (.string tx) ∧ w1.cell? ⟨N, 2, none⟩ = some (.slice pc ns.length cc) ∧ w1.cell? ⟨N, 3, none⟩ = some (.slice pd ls.length cd) :=
    ⟨by rw [cellH hp1]; rfl, by rw [cellH hp1]; rfl, by rw [cellH hp1]; rfl, by rw [cellH hp1]; rfl⟩
  have hT1 : ∀ n, TabsJ (w1.drewN n) := fun n => TabsJ.below hT (belowN hb1 n) h8
  have HBN : Hid (∀ n, Below W.heap.size W (w1.drewN n)) := Lib.hid (fun n => belowN hb1 n)
  have hcan := fun n => canonical_any t (w1.drewN n) (hT1 n).2.1 ht
  have hval := fun n => Utf.valid_any tx (w1.drewN n) (by rw [← htx, Lib.size_eq]; simp; omega) (hT1 n).2.2
  have hcon := fun n => contains_any ns pc cc (w1.drewN n) hn hlen (hT1 n).2.2 (Nat.le_trans h8 (belowN hb1 n).size) (hc.world ⟨(belowN hb1 n).size, fun i hi _ => (belowN hb1 n).block i hi⟩)
  rw [hbl] at hcan
  have l1 := int_empty ns
  have l2 := int_empty ls
  have l3 := int_same ns ls
  have e1 : (tx.toList == (⟨#[]⟩ : ByteArray).toList) = t.isEmpty := by rw [htl, show (⟨#[]⟩ : ByteArray).toList = [] from by rw [Lib.toList_data]]; cases t <;> rfl
  have e2 : (tx.toList == []) = t.isEmpty := by rw [htl]; cases t <;> rfl
  have e3 : tx.toList.isEmpty = t.isEmpty := by rw [htl]
  have hF : R = if k = 1 ∨ k = 2 ∨ k = 3 then t.isEmpty && (ns.isEmpty && ls.isEmpty) else if k = 4 then canonG t && (ns.isEmpty && ls.isEmpty) else if k = 5 then Utf.validS tx && (ns.isEmpty && ls.isEmpty)
      else if k = 6 then t.isEmpty && ns.isEmpty else if k = 7 then t.isEmpty && (decide (ns.length = ls.length) && ns.all fun n => Utf.validS ⟨n.toArray⟩) else false := by rw [← hR, fitsG, htx]
  generalize t.isEmpty = bare at *
  generalize ns.isEmpty = nz at *
  generalize ls.isEmpty = lz at *
  generalize canonG t = can at *
  generalize Utf.validS tx = val at *
  generalize (ns.all fun n => Utf.validS ⟨n.toArray⟩) = all at *
  generalize decide (ns.length = ls.length) = same at *
  have HF := Lib.hid hF
  clear hF
  clear hR hT h8 hc hn hp1 hb1 htl hbl htx
  by_cases hk : k = 1 ∨ k = 2 ∨ k = 3 ∨ k = 4 ∨ k = 5 ∨ k = 6 ∨ k = 7
  · rcases hk with rfl | rfl | rfl | rfl | rfl | rfl | rfl
    · have q1 : (K == 1) = true := by rw [← hK]; rfl
      clear hK
      clear hcan hval hcon
      cases bare with
      | true =>
        cases nz with
        | true =>
          have HG : Hid (R = lz) := Lib.hid (by rw [HF.out]; simp)
          go_enter Tryz.func102, Tryz.ntmps102
          go_wp2
          go_quiet (fail)
          go_wp2
          go_ret
          rw [HG.out]
          exact ⟨rfl, HBN.out nq⟩
        | false =>
          have HG : Hid (R = false) := Lib.hid (by rw [HF.out]; simp)
          go_enter Tryz.func102, Tryz.ntmps102
          go_wp2
          go_quiet (fail)
          go_wp2
          go_ret
          rw [HG.out]
          exact ⟨rfl, HBN.out nq⟩
      | false =>
        cases nz with
        | true =>
          have HG : Hid (R = false) := Lib.hid (by rw [HF.out]; simp)
          go_enter Tryz.func102, Tryz.ntmps102
          go_wp2
          go_quiet (fail)
          go_wp2
          go_ret
          rw [HG.out]
          exact ⟨rfl, HBN.out nq⟩
        | false =>
          have HG : Hid (R = false) := Lib.hid (by rw [HF.out]; simp)
          go_enter Tryz.func102, Tryz.ntmps102
          go_wp2
          go_quiet (fail)
          go_wp2
          go_ret
          rw [HG.out]
          exact ⟨rfl, HBN.out nq⟩
    · have q1 : (K == 1) = false := by rw [← hK]; rfl
      have q2 : (K == 2) = true := by rw [← hK]; rfl
      clear hK
      clear hcan hval hcon
      cases bare with
      | true =>
        cases nz with
        | true =>
          have HG : Hid (R = lz) := Lib.hid (by rw [HF.out]; simp)
          go_enter Tryz.func102, Tryz.ntmps102
          go_wp2
          go_quiet (fail)
          go_wp2
          go_ret
          rw [HG.out]
          exact ⟨rfl, HBN.out nq⟩
        | false =>
          have HG : Hid (R = false) := Lib.hid (by rw [HF.out]; simp)
          go_enter Tryz.func102, Tryz.ntmps102
          go_wp2
          go_quiet (fail)
          go_wp2
          go_ret
          rw [HG.out]
          exact ⟨rfl, HBN.out nq⟩
      | false =>
        cases nz with
        | true =>
          have HG : Hid (R = false) := Lib.hid (by rw [HF.out]; simp)
          go_enter Tryz.func102, Tryz.ntmps102
          go_wp2
          go_quiet (fail)
          go_wp2
          go_ret
          rw [HG.out]
          exact ⟨rfl, HBN.out nq⟩
        | false =>
          have HG : Hid (R = false) := Lib.hid (by rw [HF.out]; simp)
          go_enter Tryz.func102, Tryz.ntmps102
          go_wp2
          go_quiet (fail)
          go_wp2
          go_ret
          rw [HG.out]
          exact ⟨rfl, HBN.out nq⟩
    · have q1 : (K == 1) = false := by rw [← hK]; rfl
      have q2 : (K == 2) = false := by rw [← hK]; rfl
      have q3 : (K == 3) = true := by rw [← hK]; rfl
      clear hK
      clear hcan hval hcon
      cases bare with
      | true =>
        cases nz with
        | true =>
          have HG : Hid (R = lz) := Lib.hid (by rw [HF.out]; simp)
          go_enter Tryz.func102, Tryz.ntmps102
          go_wp2
          go_quiet (fail)
          go_wp2
          go_ret
          rw [HG.out]
          exact ⟨rfl, HBN.out nq⟩
        | false =>
          have HG : Hid (R = false) := Lib.hid (by rw [HF.out]; simp)
          go_enter Tryz.func102, Tryz.ntmps102
          go_wp2
          go_quiet (fail)
          go_wp2
          go_ret
          rw [HG.out]
          exact ⟨rfl, HBN.out nq⟩
      | false =>
        cases nz with
        | true =>
          have HG : Hid (R = false) := Lib.hid (by rw [HF.out]; simp)
          go_enter Tryz.func102, Tryz.ntmps102
          go_wp2
          go_quiet (fail)
          go_wp2
          go_ret
          rw [HG.out]
          exact ⟨rfl, HBN.out nq⟩
        | false =>
          have HG : Hid (R = false) := Lib.hid (by rw [HF.out]; simp)
          go_enter Tryz.func102, Tryz.ntmps102
          go_wp2
          go_quiet (fail)
          go_wp2
          go_ret
          rw [HG.out]
          exact ⟨rfl, HBN.out nq⟩
    · have q1 : (K == 1) = false := by rw [← hK]; rfl
      have q2 : (K == 2) = false := by rw [← hK]; rfl
      have q3 : (K == 3) = false := by rw [← hK]; rfl
      have q4 : (K == 4) = true := by rw [← hK]; rfl
      clear hK
      clear hval hcon
      cases can with
      | true =>
        cases nz with
        | true =>
          have HG : Hid (R = lz) := Lib.hid (by rw [HF.out]; simp)
          clear HF
          go_enter Tryz.func102, Tryz.ntmps102
          go_wp2
          go_quiet (fail)
          go_wp2_with fail
          refine (hcan nq).mono ?_
          rintro e w2 ⟨rfl, hb2⟩
          have HB2 := Lib.hid (gcall (HBN.out nq) hb2)
          clear hb2
          go_wp2
          go_ret
          rw [HG.out]
          exact ⟨rfl, HB2.out⟩
        | false =>
          have HG : Hid (R = false) := Lib.hid (by rw [HF.out]; simp)
          clear HF
          go_enter Tryz.func102, Tryz.ntmps102
          go_wp2
          go_quiet (fail)
          go_wp2_with fail
          refine (hcan nq).mono ?_
          rintro e w2 ⟨rfl, hb2⟩
          have HB2 := Lib.hid (gcall (HBN.out nq) hb2)
          clear hb2
          go_wp2
          go_ret
          rw [HG.out]
          exact ⟨rfl, HB2.out⟩
      | false =>
        cases nz with
        | true =>
          have HG : Hid (R = false) := Lib.hid (by rw [HF.out]; simp)
          clear HF
          go_enter Tryz.func102, Tryz.ntmps102
          go_wp2
          go_quiet (fail)
          go_wp2_with fail
          refine (hcan nq).mono ?_
          rintro e w2 ⟨rfl, hb2⟩
          have HB2 := Lib.hid (gcall (HBN.out nq) hb2)
          clear hb2
          go_wp2
          go_ret
          rw [HG.out]
          exact ⟨rfl, HB2.out⟩
        | false =>
          have HG : Hid (R = false) := Lib.hid (by rw [HF.out]; simp)
          clear HF
          go_enter Tryz.func102, Tryz.ntmps102
          go_wp2
          go_quiet (fail)
          go_wp2_with fail
          refine (hcan nq).mono ?_
          rintro e w2 ⟨rfl, hb2⟩
          have HB2 := Lib.hid (gcall (HBN.out nq) hb2)
          clear hb2
          go_wp2
          go_ret
          rw [HG.out]
          exact ⟨rfl, HB2.out⟩
    · have q1 : (K == 1) = false := by rw [← hK]; rfl
      have q2 : (K == 2) = false := by rw [← hK]; rfl
      have q3 : (K == 3) = false := by rw [← hK]; rfl
      have q4 : (K == 4) = false := by rw [← hK]; rfl
      have q5 : (K == 5) = true := by rw [← hK]; rfl
      clear hK
      clear hcan hcon
      cases val with
      | true =>
        cases nz with
        | true =>
          have HG : Hid (R = lz) := Lib.hid (by rw [HF.out]; simp)
          clear HF
          go_enter Tryz.func102, Tryz.ntmps102
          go_wp2
          go_quiet (fail)
          go_wp2_with fail
          refine (hval nq).mono ?_
          rintro e w2 ⟨rfl, hb2⟩
          have HB2 := Lib.hid (gcall (HBN.out nq) hb2)
          clear hb2
          go_wp2
          go_ret
          rw [HG.out]
          exact ⟨rfl, HB2.out⟩
        | false =>
          have HG : Hid (R = false) := Lib.hid (by rw [HF.out]; simp)
          clear HF
          go_enter Tryz.func102, Tryz.ntmps102
          go_wp2
          go_quiet (fail)
          go_wp2_with fail
          refine (hval nq).mono ?_
          rintro e w2 ⟨rfl, hb2⟩
          have HB2 := Lib.hid (gcall (HBN.out nq) hb2)
          clear hb2
          go_wp2
          go_ret
          rw [HG.out]
          exact ⟨rfl, HB2.out⟩
      | false =>
        cases nz with
        | true =>
          have HG : Hid (R = false) := Lib.hid (by rw [HF.out]; simp)
          clear HF
          go_enter Tryz.func102, Tryz.ntmps102
          go_wp2
          go_quiet (fail)
          go_wp2_with fail
          refine (hval nq).mono ?_
          rintro e w2 ⟨rfl, hb2⟩
          have HB2 := Lib.hid (gcall (HBN.out nq) hb2)
          clear hb2
          go_wp2
          go_ret
          rw [HG.out]
          exact ⟨rfl, HB2.out⟩
        | false =>
          have HG : Hid (R = false) := Lib.hid (by rw [HF.out]; simp)
          clear HF
          go_enter Tryz.func102, Tryz.ntmps102
          go_wp2
          go_quiet (fail)
          go_wp2_with fail
          refine (hval nq).mono ?_
          rintro e w2 ⟨rfl, hb2⟩
          have HB2 := Lib.hid (gcall (HBN.out nq) hb2)
          clear hb2
          go_wp2
          go_ret
          rw [HG.out]
          exact ⟨rfl, HB2.out⟩
    · have q1 : (K == 1) = false := by rw [← hK]; rfl
      have q2 : (K == 2) = false := by rw [← hK]; rfl
      have q3 : (K == 3) = false := by rw [← hK]; rfl
      have q4 : (K == 4) = false := by rw [← hK]; rfl
      have q5 : (K == 5) = false := by rw [← hK]; rfl
      have q6 : (K == 6) = true := by rw [← hK]; rfl
      clear hK
      clear hcan hval hcon
      cases bare with
      | true =>
        cases nz with
        | true =>
          have HG : Hid (R = true) := Lib.hid (by rw [HF.out]; simp)
          go_enter Tryz.func102, Tryz.ntmps102
          go_wp2
          go_quiet (fail)
          go_wp2
          go_ret
          rw [HG.out]
          exact ⟨rfl, HBN.out nq⟩
        | false =>
          have HG : Hid (R = false) := Lib.hid (by rw [HF.out]; simp)
          go_enter Tryz.func102, Tryz.ntmps102
          go_wp2
          go_quiet (fail)
          go_wp2
          go_ret
          rw [HG.out]
          exact ⟨rfl, HBN.out nq⟩
      | false =>
        cases nz with
        | true =>
          have HG : Hid (R = false) := Lib.hid (by rw [HF.out]; simp)
          go_enter Tryz.func102, Tryz.ntmps102
          go_wp2
          go_quiet (fail)
          go_wp2
          go_ret
          rw [HG.out]
          exact ⟨rfl, HBN.out nq⟩
        | false =>
          have HG : Hid (R = false) := Lib.hid (by rw [HF.out]; simp)
          go_enter Tryz.func102, Tryz.ntmps102
          go_wp2
          go_quiet (fail)
          go_wp2
          go_ret
          rw [HG.out]
          exact ⟨rfl, HBN.out nq⟩
    · have q1 : (K == 1) = false := by rw [← hK]; rfl
      have q2 : (K == 2) = false := by rw [← hK]; rfl
      have q3 : (K == 3) = false := by rw [← hK]; rfl
      have q4 : (K == 4) = false := by rw [← hK]; rfl
      have q5 : (K == 5) = false := by rw [← hK]; rfl
      have q6 : (K == 6) = false := by rw [← hK]; rfl
      have q7 : (K == 7) = true := by rw [← hK]; rfl
      clear hK
      clear hcan hval
      cases bare with
      | true =>
        cases nz with
        | true =>
          cases same with
          | true =>
            have HG : Hid (R = all) := Lib.hid (by rw [HF.out]; simp)
            clear HF
            go_enter Tryz.func102, Tryz.ntmps102
            go_wp2
            go_quiet (fail)
            go_wp2_with fail
            refine (hcon nq).mono ?_
            rintro e w2 ⟨rfl, hb2⟩
            have HB2 := Lib.hid (gcall (HBN.out nq) hb2)
            clear hb2
            go_wp2
            go_ret
            rw [HG.out]
            exact ⟨rfl, HB2.out⟩
          | false =>
            have HG : Hid (R = false) := Lib.hid (by rw [HF.out]; simp)
            go_enter Tryz.func102, Tryz.ntmps102
            go_wp2
            go_quiet (fail)
            go_wp2
            go_ret
            rw [HG.out]
            exact ⟨rfl, HBN.out nq⟩
        | false =>
          cases same with
          | true =>
            have HG : Hid (R = all) := Lib.hid (by rw [HF.out]; simp)
            clear HF
            go_enter Tryz.func102, Tryz.ntmps102
            go_wp2
            go_quiet (fail)
            go_wp2_with fail
            refine (hcon nq).mono ?_
            rintro e w2 ⟨rfl, hb2⟩
            have HB2 := Lib.hid (gcall (HBN.out nq) hb2)
            clear hb2
            go_wp2
            go_ret
            rw [HG.out]
            exact ⟨rfl, HB2.out⟩
          | false =>
            have HG : Hid (R = false) := Lib.hid (by rw [HF.out]; simp)
            go_enter Tryz.func102, Tryz.ntmps102
            go_wp2
            go_quiet (fail)
            go_wp2
            go_ret
            rw [HG.out]
            exact ⟨rfl, HBN.out nq⟩
      | false =>
        cases nz with
        | true =>
          have HG : Hid (R = false) := Lib.hid (by rw [HF.out]; simp)
          go_enter Tryz.func102, Tryz.ntmps102
          go_wp2
          go_quiet (fail)
          go_wp2
          go_ret
          rw [HG.out]
          exact ⟨rfl, HBN.out nq⟩
        | false =>
          have HG : Hid (R = false) := Lib.hid (by rw [HF.out]; simp)
          go_enter Tryz.func102, Tryz.ntmps102
          go_wp2
          go_quiet (fail)
          go_wp2
          go_ret
          rw [HG.out]
          exact ⟨rfl, HBN.out nq⟩
  · have q1 : (K == 1) = false := by rw [← hK, beq_eq_false_iff_ne]; omega
    have q2 : (K == 2) = false := by rw [← hK, beq_eq_false_iff_ne]; omega
    have q3 : (K == 3) = false := by rw [← hK, beq_eq_false_iff_ne]; omega
    have q4 : (K == 4) = false := by rw [← hK, beq_eq_false_iff_ne]; omega
    have q5 : (K == 5) = false := by rw [← hK, beq_eq_false_iff_ne]; omega
    have q6 : (K == 6) = false := by rw [← hK, beq_eq_false_iff_ne]; omega
    have q7 : (K == 7) = false := by rw [← hK, beq_eq_false_iff_ne]; omega
    have HG0 : Hid (R = false) := Lib.hid (by rw [HF.out, if_neg (by omega), if_neg (by omega), if_neg (by omega), if_neg (by omega), if_neg (by omega)])
    clear hK hk hcan hval hcon
    cases nz with
    | true =>
      go_enter Tryz.func102, Tryz.ntmps102
      go_wp2
      go_quiet (fail)
      go_wp2
      go_ret
      rw [HG0.out]
      exact ⟨rfl, HBN.out nq⟩
    | false =>
      go_enter Tryz.func102, Tryz.ntmps102
      go_wp2
      go_quiet (fail)
      go_wp2
      go_ret
      rw [HG0.out]
      exact ⟨rfl, HBN.out nq⟩
end Go.Proofs.YtgcpgieojckheaaGreatDoor.Json
