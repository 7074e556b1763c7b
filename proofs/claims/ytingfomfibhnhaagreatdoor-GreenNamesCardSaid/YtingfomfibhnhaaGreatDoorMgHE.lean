/-
  outermost; Find: the path of the Leaf in which a byte lies.
-/
import Derived.Test.YtingfomfibhnhaaGreatDoorMgHC
import Derived.Test.YtingfomfibhnhaaGreatDoorMgGY
namespace Go.Proofs.YtingfomfibhnhaaGreatDoor
open Go.RowKit Go.Shelf
attribute [local go_sem] Oper.semAt_some

abbrev asInts (q : List Nat) : List Int := List.map (fun (i : Nat) => (i : Int)) q
def outN : T → List Nat → Nat
  | _, [] => 0
  | x, i :: r => if x.kind = 1 then 0 else match x.kids[i]? with
    | none => 0
    | some z => 1 + outN z r
theorem outN_le : ∀ (q : List Nat) (x : T), outN x q ≤ q.length
  | [], x => by unfold outN; simp
  | i :: r, x => by
    unfold outN
    split
    · simp
    · split
      · simp
      · rename_i z _
        have := outN_le r z
        simp only [List.length_cons]; omega
theorem outN_leaf (x : T) (q : List Nat) (h : x.kind = 1) : outN x q = 0 := by
  cases q with
  | nil => rfl
  | cons i r => unfold outN; rw [if_pos h]
theorem outN_in (x : T) (j : Nat) (r : List Nat) (h : x.kind ≠ 1) (hj : j < x.kids.length) : outN x (j :: r) = 1 + outN (x.kids[j]'hj) r := by
  conv => lhs; unfold outN
  rw [if_neg h, List.getElem?_eq_getElem hj]
set_option maxRecDepth 100000 in
set_option maxHeartbeats 8000000 in
theorem outermost_any (x : T) (q : List Nat) (W : World) (p : Option Addr) (c : Nat) (v : Value) (z : T) (hx : NAt AnyB W x (cellsN x p c)) (hl : PaAt W v (asInts q)) (hlen : q.length ≤ 1000000) (hz : atT x (asInts q) = some z) :
    Calls Tryz.prog 40 #[aggN x p c, v] W (IntEnd (outN x q) W) := by
  have hl' := hl
  obtain ⟨_, pl, cl, rfl, _⟩ := hl'
  have hll : (asInts q).length = q.length := by simp [asInts]
  rw [hll] at *
  obtain ⟨R, hR⟩ : ∃ R, outN x q = R := ⟨_, rfl⟩
  rw [hR]
  obtain ⟨w1, hw1⟩ : ∃ w, W.alloc (.cells #[.int .u8 x.kind, .int .u8 x.tok.1, .string ⟨x.tok.2.toArray⟩, .slice p x.kids.length c] 27) = w := ⟨_, rfl⟩
  have n1 : w1.heap[W.heap.size]? = some (boxN x p c) := by rw [← hw1]; exact World.alloc_heap_new W _
  have b1 : Below W.heap.size W w1 := by rw [← hw1]; exact galloc (Below.refl _ _) _
  have HI0 : Hid (w1.heap[W.heap.size]? = some (boxN x p c) ∧ Below W.heap.size W w1 ∧ NAt (· < W.heap.size) w1 x (cellsN x p c) ∧ R = 0 + outN x (q.drop 0) ∧ atT x (asInts (q.drop 0)) = some z) :=
    Lib.hid ⟨n1, b1, NAt.world ⟨b1.size, fun k hk _ => b1.block k hk⟩ _ _ (NAt.mono (fun k hk _ => hk) _ _ hx), by rw [← hR, Nat.zero_add]; rfl, hz⟩
  have HL := Lib.hid hl
  clear hl hx hR hz n1 b1 hll
  go_enter Tryz.func40, Tryz.ntmps40
  go_wp2_with fail
  go_loopw [5, 6, 9] (fun _ _ iv wr => ∃ (k : Nat) (y : T) (p : Option Addr) (c : Nat), k ≤ q.length ∧ iv = .int .i64 k ∧ Hid (wr.heap[W.heap.size]? = some (boxN y p c) ∧ Below W.heap.size W wr ∧ NAt (· < W.heap.size) wr y (cellsN y p c) ∧ R = k + outN y (q.drop k) ∧ atT y (asInts (q.drop k)) = some z)) (fun _ _ iv _ => q.length - (intOf iv).toNat)
  case atStart => exact ⟨0, x, p, c, by omega, rfl, HI0⟩
  case round =>
    clear HI0
    obtain ⟨k, y, p, c, hk, rfl, HI⟩ := hrel
    obtain ⟨hN, hB, hY, hS, hA⟩ := HI.out
    obtain ⟨cc0, cc1, cc2, cc3⟩ := box4 hN
    have cf : ∀ o, wr.frozen? ⟨W.heap.size, o, none⟩ = false := fun o => Lib.frozen_of_heap hN o
    rcases Nat.lt_or_ge k q.length with hlt | hge
    · have hlt' : (k : Int) < (q.length : Int) := by omega
      have hwi : IntKind.i64.wrap ((k : Int) + 1) = ((k + 1 : Nat) : Int) := by rw [IntWalk.i64_in _ (by omega)]; omega
      obtain ⟨gl, ol, rfl, hcl⟩ := (HL.out.below hB).cellAt (by simp [asInts]; omega)
      have hu := List.getElem?_eq_getElem hlt
      have e0 : wr.cell? ⟨gl, ol + k, none⟩ = some (.int .i64 ((q[k]'hlt : Nat) : Int)) := hcl k _ (by rw [List.getElem?_map, List.getElem?_map, hu]; rfl)
      have hdr : q.drop k = q[k]'hlt :: q.drop (k + 1) := List.drop_eq_getElem_cons hlt
      rw [hdr] at hS hA
      generalize q[k]'hlt = j at *
      clear hu hcl hdr
      by_cases hk1 : y.kind = 1
      · have hk1' : ((y.kind : Int) == 1) = true := by rw [hk1]; rfl
        have HE : Hid (R = k ∧ Below W.heap.size W wr) := Lib.hid ⟨by rw [hS, outN_leaf y _ hk1, Nat.add_zero], hB⟩
        clear hS hA HI hN hB hY hk1
        go_wp2_with fail
        go_ret
        exact ⟨by rw [HE.out.1]; rfl, HE.out.2⟩
      · have hk1' : ((y.kind : Int) == 1) = false := beq_eq_false_iff_ne.2 (by omega)
        obtain ⟨j', hjj, hj, hA2⟩ := atT_valid (show atT y ((j : Int) :: asInts (q.drop (k + 1))) = some z from hA)
        obtain rfl : j' = j := by omega
        have hj2 : (j' : Int) < (y.kids.length : Int) := by omega
        rw [outN_in y j' _ hk1 hj] at hS
        obtain ⟨g1, o1, p1, c1, rfl, hn1, hx1⟩ := node_kid hY j' hj
        obtain ⟨k1, k2, k3, k4⟩ := hn1
        generalize y.kids[j']'hj = z1 at *
        obtain ⟨V6, hV6⟩ : ∃ V', ((((wr.setCell ⟨W.heap.size, 0, none⟩ (.int .u8 z1.kind)).setCell ⟨W.heap.size, 1, none⟩ (.int .u8 z1.tok.1)).setCell ⟨W.heap.size, 2, none⟩ (.string ⟨z1.tok.2.toArray⟩)).setCell ⟨W.heap.size, 3, none⟩ (.slice p1 z1.kids.length c1)) = V' := ⟨_, rfl⟩
        have HI6 : Hid (V6.heap[W.heap.size]? = some (boxN z1 p1 c1) ∧ Below W.heap.size W V6 ∧ NAt (· < W.heap.size) V6 z1 (cellsN z1 p1 c1) ∧ R = k + 1 + outN z1 (q.drop (k + 1)) ∧ atT z1 (asInts (q.drop (k + 1))) = some z) := Lib.hid (by
          rw [← hV6]
          refine ⟨box_put hN rfl, put_below hB (Nat.le_refl _) _ _ _ _, ?_, by omega, hA2⟩
          exact NAt.world ⟨by simp, fun k _ hk => put_other _ _ _ _ k (by have : k < W.heap.size := hk; omega)⟩ _ _ hx1)
        clear hS hA hA2 HI hN hB hY hk1 hx1 hjj
        go_wp2
        exact ⟨⟨k + 1, z1, p1, _, by omega, rfl, HI6⟩, by simp [intOf]; omega⟩
    · obtain rfl : k = q.length := by omega
      have hlt' : ¬ (q.length : Int) < (q.length : Int) := by omega
      have HE : Hid (R = q.length ∧ Below W.heap.size W wr) := Lib.hid ⟨by rw [hS, List.drop_length]; unfold outN; rw [Nat.add_zero], hB⟩
      clear hS hA HI hN hB hY
      go_wp2_with fail
      go_ret
      exact ⟨by rw [HE.out.1]; rfl, HE.out.2⟩
end Go.Proofs.YtingfomfibhnhaaGreatDoor
