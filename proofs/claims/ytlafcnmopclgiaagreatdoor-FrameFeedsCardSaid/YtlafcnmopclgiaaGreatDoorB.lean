/-
  A reader in memory, what an operation answers; fault, New.
-/
import Derived.Test.YtlafcnmopclgiaaGreatDoorA
import Derived.Laws.AppendOwn
import Derived.Laws.AppendOwnNone
import Derived.Laws.EntriesVeiled
namespace Go.Proofs.YtlafcnmopclgiaaGreatDoor
open Go.RowKit

def bl (l : List UInt8) : Value := .string ⟨l.toArray⟩
def part0 : Value := .agg #[.int .i64 0]
/-- An operation, as a method's value. -/
def fnOf : Mode → Value
  | .head => .func (.func 13) #[.agg #[.int .i64 0]] #[]
  | .body n => .func (.func 21) #[.agg #[.int .i64 n]] #[]
  | .skip => .func (.func 30) #[.agg #[.int .i64 0]] #[]
def fnO : Option Mode → Value
  | none => .nilFunc
  | some m => fnOf m
/-- An event's cells. -/
def evC (e : Ev) : List Value := [bl e.1, .int .i64 e.2]
/-- A row of events. -/
def EvsAt (B : Nat) (w : World) (v : Value) (l : List Ev) : Prop := w.ownsRow B 40 2 v l.length (l.flatMap evC)
def stepV (u : Nat) (v : Value) (n : Option Mode) : Value := .agg #[.int .i64 u, v, fnO n]
theorem cellH {w : World} {b : Nat} {cs : Array Value} {t : TypeId} {fr : Nat × Nat} (h : w.heap[b]? = some (.cells cs t fr)) (o : Nat) : w.cell? ⟨b, o, none⟩ = cs[o]? := cell_of_row w b o cs t fr h
theorem makeFunc_run (fn : Fn) (first cap : Array Value) (w : World) : (Instr.makeFunc fn first cap).run Tryz.prog w = .ok (.func fn first cap) w := rfl
theorem galloc2 {w0 w : World} {n : Nat} (h : Below n w0 w) (hn : n ≤ w.heap.size) (o : Obj) : Below n w0 (w.alloc o) := Below.alloc h hn o
theorem heap_old {w : World} {o : Obj} {k : Nat} {x : Obj} (h : w.heap[k]? = some x) : (w.alloc o).heap[k]? = some x := by
  have hk : k < w.heap.size := (Array.getElem?_eq_some_iff.1 h).1
  exact ((galloc2 (Below.refl w.heap.size w) (Nat.le_refl _) o).block k hk).trans h
/-- A step's box. -/
def SBox (w : World) (b : Nat) (c0 c1 c2 : Value) : Prop := w.heap[b]? = some (.cells #[c0, c1, c2] 56 (0, 0))
theorem SBox.cells {w : World} {b : Nat} {c0 c1 c2 : Value} (h : SBox w b c0 c1 c2) : w.cell? ⟨b, 0, none⟩ = some c0 ∧ w.cell? ⟨b, 1, none⟩ = some c1 ∧ w.cell? ⟨b, 2, none⟩ = some c2 ∧ ∀ o, w.frozen? ⟨b, o, none⟩ = false :=
  ⟨by rw [cellH h]; rfl, by rw [cellH h]; rfl, by rw [cellH h]; rfl, fun o => Lib.frozen_of_heap h o⟩
theorem SBox.set {w : World} {b : Nat} {c0 c1 c2 : Value} (h : SBox w b c0 c1 c2) (d0 d1 d2 : Value) : SBox (((w.setCell ⟨b, 0, none⟩ d0).setCell ⟨b, 1, none⟩ d1).setCell ⟨b, 2, none⟩ d2) b d0 d1 d2 :=
  heap_setCell_same _ _ 2 _ _ d2 (heap_setCell_same _ _ 1 _ _ d1 (heap_setCell_same _ _ 0 _ _ d0 h))
theorem set3_other {w : World} {b k : Nat} {d0 d1 d2 : Value} {x : Obj} (hk : k ≠ b) (h : w.heap[k]? = some x) : (((w.setCell ⟨b, 0, none⟩ d0).setCell ⟨b, 1, none⟩ d1).setCell ⟨b, 2, none⟩ d2).heap[k]? = some x := by
  rw [Below.heap_setCell _ ⟨b, 2, none⟩ d2 k hk, Below.heap_setCell _ ⟨b, 1, none⟩ d1 k hk, Below.heap_setCell _ ⟨b, 0, none⟩ d0 k hk]; exact h
theorem set3_below {w0 w : World} {n b : Nat} {d0 d1 d2 : Value} (hn : n ≤ b) (h : Below n w0 w) : Below n w0 (((w.setCell ⟨b, 0, none⟩ d0).setCell ⟨b, 1, none⟩ d1).setCell ⟨b, 2, none⟩ d2) :=
  ((h.setCell (p := ⟨b, 0, none⟩) hn d0).setCell (p := ⟨b, 1, none⟩) hn d1).setCell (p := ⟨b, 2, none⟩) hn d2
theorem evs_one {w : World} {B g : Nat} {e : Ev} (hB : B ≤ g) (h : w.heap[g]? = some (.cells #[bl e.1, .int .i64 e.2] 40 (0, 0))) : EvsAt B w (.slice (some ⟨g, 0, none⟩) 1 1) [e] :=
  ⟨rfl, .inr ⟨g, 1, _, rfl, hB, h, Nat.le_refl _, by unfold maxLen; decide, rfl, rfl⟩⟩
theorem evs_none (B : Nat) (w : World) : EvsAt B w (.slice none 0 0) [] := World.ownsRow_nil w B 40 2
set_option maxHeartbeats 1000000 in
theorem fault_any (e : Int) (w : World) :
    Calls Tryz.prog 19 #[.int .i64 e] w fun r w' => ∃ v, r = .returned (stepV 1 v (some .skip)) ∧ EvsAt w.heap.size w' v [([], e)] ∧ Below w.heap.size w w' := by
  have hmf := makeFunc_run
  have kS : SBox (w.alloc (.cells #[.int .i64 0, .slice none 0 0, .nilFunc] 56)) w.heap.size (.int .i64 0) (.slice none 0 0) .nilFunc := heap_alloc_new w _
  have hs : (w.alloc (.cells #[.int .i64 0, .slice none 0 0, .nilFunc] 56)).heap.size = w.heap.size + 1 := by simp
  have kE := heap_alloc_new (w.alloc (.cells #[.int .i64 0, .slice none 0 0, .nilFunc] 56)) (.cells #[.string ⟨#[]⟩, .int .i64 e] 40)
  rw [hs] at kE
  have kS2 : SBox ((w.alloc (.cells #[.int .i64 0, .slice none 0 0, .nilFunc] 56)).alloc (.cells #[.string ⟨#[]⟩, .int .i64 e] 40)) w.heap.size (.int .i64 0) (.slice none 0 0) .nilFunc := heap_old kS
  have hB := galloc2 (galloc2 (Below.refl w.heap.size w) (Nat.le_refl _) (.cells #[.int .i64 0, .slice none 0 0, .nilFunc] 56)) (by rw [hs]; omega) (.cells #[.string ⟨#[]⟩, .int .i64 e] 40)
  have HE := Lib.hid kE
  have HB := Lib.hid hB
  have HS := Lib.hid kS2
  obtain ⟨q0, q1, q2, qf⟩ := kS2.cells
  clear kS kE hB kS2
  generalize hv1 : w.alloc (.cells #[.int .i64 0, .slice none 0 0, .nilFunc] 56) = W1 at *
  generalize hv2 : W1.alloc (.cells #[.string ⟨#[]⟩, .int .i64 e] 40) = w1 at *
  go_enter Tryz.func19, Tryz.ntmps19
  go_wp2
  have kF := HS.out.set (.int .i64 1) (.slice (some ⟨w.heap.size + 1, 0, none⟩) 1 1) (fnOf .skip)
  obtain ⟨z0, z1, z2, _⟩ := kF.cells
  refine bodyPost_ret (v := stepV 1 (.slice (some ⟨w.heap.size + 1, 0, none⟩) 1 1) (some .skip)) (by simp only [fnOf] at z0 z1 z2; simp [results, Tryz.results19, go_sem, stepV, fnO, fnOf, z0, z1, z2]) rfl ⟨_, rfl, ?_, ?_⟩
  · exact evs_one (e := ([], e)) (by omega) (set3_other (by omega) HE.out)
  · exact set3_below (Nat.le_refl _) HB.out
end Go.Proofs.YtlafcnmopclgiaaGreatDoor
