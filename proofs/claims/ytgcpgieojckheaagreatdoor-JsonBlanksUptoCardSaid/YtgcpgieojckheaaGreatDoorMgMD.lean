/-
  What the bound on weight gives, plainly; the law JsonBack.
-/
import Derived.Test.YtgcpgieojckheaaGreatDoorMgMA
import Derived.Test.YtgcpgieojckheaaGreatDoorMgMB
import Derived.Test.YtgcpgieojckheaaGreatDoorMgMC
namespace Go.Proofs.YtgcpgieojckheaaGreatDoor.Json
open Go.RowKit Go.Shelf

theorem names_light : ∀ (ns : List (List UInt8)) (n : List UInt8), n ∈ ns → n.length / 64 ≤ (ns.map fun n => n.length / 64).sum
  | [], n, h => by simp at h
  | m :: r, n, h => by
    simp only [List.map_cons, List.sum_cons]
    rcases List.mem_cons.1 h with rfl | h
    · omega
    · have := names_light r n h; omega
mutual
theorem weight_fine : ∀ j : J, weightJ j < 2000 → countJ j ≤ weightJ j ∧ longJ j ∧ bigJ j ∧ bigM j
  | .mk k t ns ls, h => by
    unfold weightJ at h ⊢
    have h1 := addN_ge (weightsJ ls) (addN (1 + t.length / 64 + ns.length) (ns.map fun n => n.length / 64))
    have h2 := addN_sum (ns.map fun n => n.length / 64) (1 + t.length / 64 + ns.length) (by omega)
    have h3 := addN_sum (weightsJ ls) _ h
    have hl := fun n hn => names_light ns n hn
    obtain ⟨a1, a2, a3, a4, a5⟩ := weights_fine ls (by omega)
    unfold countJ longJ bigJ bigM
    exact ⟨by omega, ⟨by omega, fun n hn => by have := hl n hn; omega, by omega, a2⟩, ⟨by omega, by omega, a3⟩, by omega, by omega, a4⟩
theorem weights_fine : ∀ l : List J, (weightsJ l).sum < 2000 → countsJ l ≤ (weightsJ l).sum ∧ longsJ l ∧ bigsJ l ∧ bigsM l ∧ l.length ≤ (weightsJ l).sum
  | [], _ => by unfold weightsJ countsJ longsJ bigsJ bigsM; simp
  | j :: js, h => by
    unfold weightsJ at h ⊢
    rw [List.sum_cons] at h ⊢
    obtain ⟨a1, a2, a3, a4⟩ := weight_fine j (by omega)
    obtain ⟨b1, b2, b3, b4, b5⟩ := weights_fine js (by omega)
    have h1 : 1 ≤ countJ j := by cases j; unfold countJ; omega
    unfold countsJ longsJ bigsJ bigsM
    rw [List.length_cons]
    exact ⟨by omega, ⟨a2, b2⟩, ⟨a3, b3⟩, ⟨a4, b4⟩, by omega⟩
end
theorem print_j (j : J) (hbig : bigJ j) (hlong : longJ j) (hc : countJ j ≤ 2147483647) (W : World) (a b c d : Value) (hT : TabsJ W) (h8 : 8 ≤ W.heap.size) (hj : JAt AnyB W j [a, b, c, d]) :
    Calls Tryz.prog 32 #[.agg #[a, b, c, d]] W fun e w' => e = .returned (.tuple #[.string ⟨(printO j).1.toArray⟩, .int .i64 (printO j).2]) ∧ Below W.heap.size W w' :=
  print_any j hbig hlong (check_ok j hc hlong) W [a, b, c, d] hT h8 hj
theorem parse_l (W : World) (l : List UInt8) (hT : TabsJ W) (h8 : 8 ≤ W.heap.size) (hz : l.length ≤ 262144) :
    Calls Tryz.prog 27 #[.string ⟨l.toArray⟩] W fun e w' => ∃ v, e = .returned (.tuple #[v, .int .i64 (parse l).2]) ∧ JVal (fun g => W.heap.size ≤ g) w' (parse l).1 v ∧ Below W.heap.size W w' :=
  parse_any W ⟨l.toArray⟩ hT h8 (by rw [Lib.size_eq]; simpa using hz)
theorem same_j (a b : J) (hbig : bigJ a) (W : World) (p q u v p2 q2 u2 v2 : Value) (ha : JAt AnyB W a [p, q, u, v]) (hb : JAt AnyB W b [p2, q2, u2, v2]) :
    Calls Tryz.prog 28 #[.agg #[p, q, u, v], .agg #[p2, q2, u2, v2]] W fun e w' => e = .returned (.bool (sameJ a b)) ∧ Below W.heap.size W w' := same_any a b hbig W [p, q, u, v] [p2, q2, u2, v2] ha hb
theorem check_j (j : J) (hbig : bigJ j) (hlong : longJ j) (W : World) (a b c d : Value) (hT : TabsJ W) (h8 : 8 ≤ W.heap.size) (hj : JAt AnyB W j [a, b, c, d]) :
    Calls Tryz.prog 36 #[.agg #[a, b, c, d]] W fun e w' => e = .returned (.int .i64 (checkG j)) ∧ Below W.heap.size W w' := check_any j hbig hlong W [a, b, c, d] hT h8 hj
theorem weight_j (j : J) (hm : massJ j ≤ 1048576) (W : World) (a b c d : Value) (hj : JAt AnyB W j [a, b, c, d]) : Calls Tryz.prog 38 #[.agg #[a, b, c, d]] W fun e w' => e = .returned (.int .i64 (weightJ j)) ∧ Below W.heap.size W w' :=
  weight_any j hm W [a, b, c, d] hj
theorem given_j (j : J) (hm : bigM j) (W : World) (a b c d : Value) (hj : JAt AnyB W j [a, b, c, d]) : Calls Tryz.prog 39 #[.agg #[a, b, c, d]] W fun e w' => ∃ v, e = .returned v ∧ JVal (fun g => W.heap.size ≤ g) w' j v ∧ Below W.heap.size W w' :=
  given_any j hm W [a, b, c, d] hj
/-- A box with a value in it. -/
def BoxJ (N : Nat) (j : J) (a b c d : Value) (w : World) : Prop := w.heap[N]? = some (.cells #[a, b, c, d] 47 (0, 0)) ∧ JAt AnyB w j [a, b, c, d]
theorem BoxJ.below {N : Nat} {j : J} {a b c d : Value} {w w' : World} (h : BoxJ N j a b c d w) (hb : Below w.heap.size w w') : BoxJ N j a b c d w' :=
  ⟨(hb.block N (Array.getElem?_eq_some_iff.1 h.1).1).trans h.1, h.2.below hb⟩
theorem BoxJ.new {w : World} {j : J} {a b c d : Value} (h : JAt AnyB w j [a, b, c, d]) : BoxJ w.heap.size j a b c d (w.alloc (.cells #[a, b, c, d] 47)) := ⟨World.alloc_heap_new w _, h.below (galloc (Below.refl _ _) _)⟩
theorem BoxJ.cells {N : Nat} {j : J} {a b c d : Value} {w : World} (h : BoxJ N j a b c d w) : w.cell? ⟨N, 0, none⟩ = some a ∧ w.cell? ⟨N, 1, none⟩ = some b ∧ w.cell? ⟨N, 2, none⟩ = some c ∧ w.cell? ⟨N, 3, none⟩ = some d := box_cells h.1
end Go.Proofs.YtgcpgieojckheaaGreatDoor.Json
