/-
  leaf, blank, example; paths.
-/
import Derived.Test.YtingfomfibhnhaaGreatDoorMgHC
namespace Go.Proofs.YtingfomfibhnhaaGreatDoor
open Go.RowKit Go.Shelf

def LeafEnd (k : Int) (s : ByteArray) (v : Value) (w : World) (e : Ending) (w' : World) : Prop := e = .returned (.agg #[.int .u8 1, .int .u8 k, .string s, v]) ∧ Below w.heap.size w w'
set_option maxRecDepth 100000 in
set_option maxHeartbeats 2000000 in
theorem leaf_any (k : Int) (s : ByteArray) (p : Option Addr) (n c : Nat) (w : World) : Calls Tryz.prog 10 #[.int .u8 k, .string s, .slice p n c] w (LeafEnd k s (.slice p n c) w) := by
  obtain ⟨w1, hw1⟩ : ∃ w1, w.alloc (.cells #[.int .u8 0, .int .u8 0, .string ⟨#[]⟩, .slice none 0 0] 27) = w1 := ⟨_, rfl⟩
  have n1 : w1.heap[w.heap.size]? = some (.cells #[.int .u8 0, .int .u8 0, .string ⟨#[]⟩, .slice none 0 0] 27 (0, 0)) := by rw [← hw1]; exact World.alloc_heap_new w _
  have b1 : Below w.heap.size w w1 := by rw [← hw1]; exact galloc (Below.refl _ _) _
  obtain ⟨c0, c1, c2, c3⟩ := box4 n1
  have cf : ∀ o, w1.frozen? ⟨w.heap.size, o, none⟩ = false := fun o => Lib.frozen_of_heap n1 o
  obtain ⟨V, hV⟩ : ∃ V', ((((w1.setCell ⟨w.heap.size, 0, none⟩ (.int .u8 1)).setCell ⟨w.heap.size, 1, none⟩ (.int .u8 k)).setCell ⟨w.heap.size, 2, none⟩ (.string s)).setCell ⟨w.heap.size, 3, none⟩ (.slice p n c)) = V' := ⟨_, rfl⟩
  have hVR : V.heap[w.heap.size]? = some (.cells #[.int .u8 1, .int .u8 k, .string s, .slice p n c] 27 (0, 0)) := by rw [← hV]; exact box_put n1 rfl
  have HVB := Lib.hid (show Below w.heap.size w V by rw [← hV]; exact put_below b1 (Nat.le_refl _) _ _ _ _)
  obtain ⟨v0, v1, v2, v3⟩ := box4 hVR
  clear n1 b1 hVR
  go_enter Tryz.func10, Tryz.ntmps10
  go_wp2
  exact bodyPost_ret (v := .agg #[.int .u8 1, .int .u8 k, .string s, .slice p n c]) (by simp [results, Tryz.results10, go_sem, v0, v1, v2, v3]) rfl ⟨rfl, HVB.out⟩
set_option maxRecDepth 100000 in
set_option maxHeartbeats 2000000 in
theorem blank_leaf (s : ByteArray) (w : World) : Calls Tryz.prog 11 #[.string s] w (LeafEnd 1 s (.slice none 0 0) w) := by
  obtain ⟨w1, hw1⟩ : ∃ w1, w.alloc (.cells #[.int .u8 0, .int .u8 0, .string ⟨#[]⟩, .slice none 0 0] 27) = w1 := ⟨_, rfl⟩
  have n1 : w1.heap[w.heap.size]? = some (.cells #[.int .u8 0, .int .u8 0, .string ⟨#[]⟩, .slice none 0 0] 27 (0, 0)) := by rw [← hw1]; exact World.alloc_heap_new w _
  have b1 : Below w.heap.size w w1 := by rw [← hw1]; exact galloc (Below.refl _ _) _
  have HN := Lib.hid n1
  have HB := Lib.hid b1
  clear n1 b1
  go_enter Tryz.func11, Tryz.ntmps11
  go_wp2_with fail
  refine (leaf_any 1 s none 0 0 w1).mono ?_
  rintro e w2 ⟨rfl, h2⟩
  have hN2 := (h2.block _ (Array.getElem?_eq_some_iff.1 HN.out).1).trans HN.out
  obtain ⟨c0, c1, c2, c3⟩ := box4 hN2
  have cf : ∀ o, w2.frozen? ⟨w.heap.size, o, none⟩ = false := fun o => Lib.frozen_of_heap hN2 o
  obtain ⟨V, hV⟩ : ∃ V', ((((w2.setCell ⟨w.heap.size, 0, none⟩ (.int .u8 1)).setCell ⟨w.heap.size, 1, none⟩ (.int .u8 1)).setCell ⟨w.heap.size, 2, none⟩ (.string s)).setCell ⟨w.heap.size, 3, none⟩ (.slice none 0 0)) = V' := ⟨_, rfl⟩
  have hVR : V.heap[w.heap.size]? = some (.cells #[.int .u8 1, .int .u8 1, .string s, .slice none 0 0] 27 (0, 0)) := by rw [← hV]; exact box_put hN2 rfl
  have HVB := Lib.hid (show Below w.heap.size w V by rw [← hV]; exact put_below (gcall HB.out h2) (Nat.le_refl _) _ _ _ _)
  obtain ⟨v0, v1, v2, v3⟩ := box4 hVR
  clear h2 hN2 hVR
  go_wp2
  exact bodyPost_ret (v := .agg #[.int .u8 1, .int .u8 1, .string s, .slice none 0 0]) (by simp [results, Tryz.results11, go_sem, v0, v1, v2, v3]) rfl ⟨rfl, HVB.out⟩
/-- The example's tree. -/
def exT : T := .mk 4 (0, []) [.mk 1 (3, [108, 101, 116]) [], .mk 1 (4, [120]) [.mk 1 (1, [32]) []], .mk 2 (0, [61]) [], .mk 1 (0, []) [.mk 1 (1, [10]) []]]
theorem sl_block {S : Nat → Prop} {w : World} {b : Nat} {cs : Array Value} {ty : TypeId} {fr : Nat × Nat} (h : w.heap[b]? = some (.cells cs ty fr)) (hS : S b) (n size : Nat) (hn : cs.size = n * size) :
    SlIn S w (.slice (some ⟨b, 0, none⟩) n n) size n cs.toList := by
  refine ⟨by simpa using hn, _, n, rfl, Nat.le_refl _, .inr ⟨b, 0, rfl, hS, (Array.getElem?_eq_some_iff.1 h).1, fun j u hj => ?_⟩⟩
  rw [Nat.zero_add, cellH h]
  simpa using hj
theorem nat_leaf (S : Nat → Prop) (w : World) (k : Nat) (t : Tok) : NAt S w (.mk k t []) [.int .u8 k, .int .u8 t.1, .string ⟨t.2.toArray⟩, .slice none 0 0] := NAt.make (ks := []) (SlIn.nil _ _ _) (by unfold NsAt; rfl)
theorem nat_cons {S : Nat → Prop} {w : World} {j : T} {js : List T} {a b c d : Value} {vs : List Value} (h : NAt S w j [a, b, c, d]) (hs : NsAt S w js vs) : NsAt S w (j :: js) (a :: b :: c :: d :: vs) := by
  unfold NsAt
  exact ⟨[a, b, c, d], vs, rfl, h, hs⟩
theorem nat_nil (S : Nat → Prop) (w : World) : NsAt S w [] [] := by unfold NsAt; rfl
theorem ex_at {w : World} {A B C : Nat} (hA : w.heap[A]? = some (.cells #[.int .u8 1, .int .u8 1, .string ⟨#[32]⟩, .slice none 0 0] 27 (0, 0))) (hB : w.heap[B]? = some (.cells #[.int .u8 1, .int .u8 1, .string ⟨#[10]⟩, .slice none 0 0] 27 (0, 0)))
    (hC : w.heap[C]? = some (.cells #[.int .u8 1, .int .u8 3, .string ⟨#[108, 101, 116]⟩, .slice none 0 0, .int .u8 1, .int .u8 4, .string ⟨#[120]⟩, .slice (some ⟨A, 0, none⟩) 1 1, .int .u8 2, .int .u8 0, .string ⟨#[61]⟩, .slice none 0 0, .int .u8 1, .int .u8 0, .string ⟨#[]⟩, .slice (some ⟨B, 0, none⟩) 1 1] 27 (0, 0))) :
    NAt AnyB w exT [.int .u8 4, .int .u8 0, .string ⟨#[]⟩, .slice (some ⟨C, 0, none⟩) 4 4] := by
  unfold exT
  refine NAt.make (t := (0, [])) (sl_block hC trivial 4 4 rfl) ?_
  refine nat_cons (nat_leaf _ _ 1 (3, [108, 101, 116])) (nat_cons ?_ (nat_cons (nat_leaf _ _ 2 (0, [61])) (nat_cons ?_ (nat_nil _ _))))
  · exact NAt.make (t := (4, [120])) (sl_block hA trivial 1 4 rfl) (nat_cons (nat_leaf _ _ 1 (1, [32])) (nat_nil _ _))
  · exact NAt.make (t := (0, [])) (sl_block hB trivial 1 4 rfl) (nat_cons (nat_leaf _ _ 1 (1, [10])) (nat_nil _ _))
def ExEnd (w : World) (e : Ending) (w' : World) : Prop := ∃ C, e = .returned (.agg #[.int .u8 4, .int .u8 0, .string ⟨#[]⟩, .slice (some ⟨C, 0, none⟩) 4 4]) ∧ NAt AnyB w' exT [.int .u8 4, .int .u8 0, .string ⟨#[]⟩, .slice (some ⟨C, 0, none⟩) 4 4] ∧ Below w.heap.size w w'
set_option maxRecDepth 100000 in
set_option maxHeartbeats 8000000 in
theorem example_any (w : World) : Calls Tryz.prog 13 #[] w (ExEnd w) := by
  obtain ⟨w1, hw1⟩ : ∃ w1, w.alloc (.cells #[.int .u8 0, .int .u8 0, .string ⟨#[]⟩, .slice none 0 0] 27) = w1 := ⟨_, rfl⟩
  have n1 : w1.heap[w.heap.size]? = some (.cells #[.int .u8 0, .int .u8 0, .string ⟨#[]⟩, .slice none 0 0] 27 (0, 0)) := by rw [← hw1]; exact World.alloc_heap_new w _
  have b1 : Below w.heap.size w w1 := by rw [← hw1]; exact galloc (Below.refl _ _) _
  have HN := Lib.hid n1
  have HB := Lib.hid b1
  clear n1 b1
  go_enter Tryz.func13, Tryz.ntmps13
  go_wp2_with fail
  refine (leaf_any 3 ⟨#[108, 101, 116]⟩ none 0 0 w1).mono ?_
  rintro e w2 ⟨rfl, h2⟩
  have HB2 := Lib.hid h2
  clear h2
  go_wp2_with fail
  refine (blank_leaf ⟨#[32]⟩ w2).mono ?_
  rintro e w3 ⟨rfl, h3⟩
  obtain ⟨w4, hw4⟩ : ∃ w4, w3.alloc (.cells #[.int .u8 1, .int .u8 1, .string ⟨#[32]⟩, .slice none 0 0] 27) = w4 := ⟨_, rfl⟩
  have n4 : w4.heap[w3.heap.size]? = some (.cells #[.int .u8 1, .int .u8 1, .string ⟨#[32]⟩, .slice none 0 0] 27 (0, 0)) := by rw [← hw4]; exact World.alloc_heap_new w3 _
  have b4 : Below w3.heap.size w3 w4 := by rw [← hw4]; exact galloc (Below.refl _ _) _
  have HB4 := Lib.hid (h3.trans (b4.mono h3.size))
  obtain ⟨A, hA⟩ : ∃ A, w3.heap.size = A := ⟨_, rfl⟩
  rw [hA] at n4
  have HN4 := Lib.hid n4
  clear h3 b4 n4
  go_wp2_with fail
  refine (leaf_any 4 ⟨#[120]⟩ (some ⟨A, 0, none⟩) 1 1 w4).mono ?_
  rintro e w5 ⟨rfl, h5⟩
  have HB5 := Lib.hid h5
  clear h5
  go_wp2_with fail
  refine (blank_leaf ⟨#[10]⟩ w5).mono ?_
  rintro e w6 ⟨rfl, h6⟩
  obtain ⟨w7, hw7⟩ : ∃ w7, w6.alloc (.cells #[.int .u8 1, .int .u8 1, .string ⟨#[10]⟩, .slice none 0 0] 27) = w7 := ⟨_, rfl⟩
  have n7 : w7.heap[w6.heap.size]? = some (.cells #[.int .u8 1, .int .u8 1, .string ⟨#[10]⟩, .slice none 0 0] 27 (0, 0)) := by rw [← hw7]; exact World.alloc_heap_new w6 _
  have b7 : Below w6.heap.size w6 w7 := by rw [← hw7]; exact galloc (Below.refl _ _) _
  have HB7 := Lib.hid (h6.trans (b7.mono h6.size))
  obtain ⟨B, hBq⟩ : ∃ B, w6.heap.size = B := ⟨_, rfl⟩
  rw [hBq] at n7
  have HN7 := Lib.hid n7
  clear h6 b7 n7
  go_wp2_with fail
  refine (leaf_any 0 ⟨#[]⟩ (some ⟨B, 0, none⟩) 1 1 w7).mono ?_
  rintro e w8 ⟨rfl, h8⟩
  obtain ⟨w9, hw9⟩ : ∃ w9, w8.alloc (.cells #[.int .u8 1, .int .u8 3, .string ⟨#[108, 101, 116]⟩, .slice none 0 0, .int .u8 1, .int .u8 4, .string ⟨#[120]⟩, .slice (some ⟨A, 0, none⟩) 1 1, .int .u8 2, .int .u8 0, .string ⟨#[61]⟩, .slice none 0 0, .int .u8 1, .int .u8 0, .string ⟨#[]⟩, .slice (some ⟨B, 0, none⟩) 1 1] 27) = w9 := ⟨_, rfl⟩
  have n9 : w9.heap[w8.heap.size]? = some (.cells #[.int .u8 1, .int .u8 3, .string ⟨#[108, 101, 116]⟩, .slice none 0 0, .int .u8 1, .int .u8 4, .string ⟨#[120]⟩, .slice (some ⟨A, 0, none⟩) 1 1, .int .u8 2, .int .u8 0, .string ⟨#[61]⟩, .slice none 0 0, .int .u8 1, .int .u8 0, .string ⟨#[]⟩, .slice (some ⟨B, 0, none⟩) 1 1] 27 (0, 0)) := by rw [← hw9]; exact World.alloc_heap_new w8 _
  have b9 : Below w8.heap.size w8 w9 := by rw [← hw9]; exact galloc (Below.refl _ _) _
  have h79 := h8.trans (b9.mono h8.size)
  have h57 := HB7.out.trans (h79.mono HB7.out.size)
  have h45 := HB5.out.trans (h57.mono HB5.out.size)
  have h24 := HB4.out.trans (h45.mono HB4.out.size)
  have h12 := HB2.out.trans (h24.mono HB2.out.size)
  have hA9 := (h45.block _ (Array.getElem?_eq_some_iff.1 HN4.out).1).trans HN4.out
  have hB9 := (h79.block _ (Array.getElem?_eq_some_iff.1 HN7.out).1).trans HN7.out
  have hN9 := (h12.block _ (Array.getElem?_eq_some_iff.1 HN.out).1).trans HN.out
  obtain ⟨c0, c1, c2, c3⟩ := box4 hN9
  have cf : ∀ o, w9.frozen? ⟨w.heap.size, o, none⟩ = false := fun o => Lib.frozen_of_heap hN9 o
  obtain ⟨C, hC⟩ : ∃ C, w8.heap.size = C := ⟨_, rfl⟩
  rw [hC] at n9
  obtain ⟨V, hV⟩ : ∃ V', ((((w9.setCell ⟨w.heap.size, 0, none⟩ (.int .u8 4)).setCell ⟨w.heap.size, 1, none⟩ (.int .u8 0)).setCell ⟨w.heap.size, 2, none⟩ (.string ⟨#[]⟩)).setCell ⟨w.heap.size, 3, none⟩ (.slice (some ⟨C, 0, none⟩) 4 4)) = V' := ⟨_, rfl⟩
  have hVR : V.heap[w.heap.size]? = some (.cells #[.int .u8 4, .int .u8 0, .string ⟨#[]⟩, .slice (some ⟨C, 0, none⟩) 4 4] 27 (0, 0)) := by rw [← hV]; exact box_put hN9 rfl
  have so : ∀ k o, k ≠ w.heap.size → w9.heap[k]? = some o → V.heap[k]? = some o := fun k o hk ho => by rw [← hV]; exact (put_other _ _ _ _ k hk).trans ho
  have g1 : ∀ k cs, w9.heap[k]? = some (.cells cs 27 (0, 0)) → cs.size ≠ 4 ∨ cs[0]? ≠ some (.int .u8 0) → k ≠ w.heap.size := fun k cs h h2 e => by
    subst e
    rw [hN9] at h; cases h
    rcases h2 with h2 | h2
    · exact h2 rfl
    · exact h2 rfl
  have HVB : Hid (ExEnd w (.returned (.agg #[.int .u8 4, .int .u8 0, .string ⟨#[]⟩, .slice (some ⟨C, 0, none⟩) 4 4])) V) := Lib.hid ⟨C, rfl, ex_at (so A _ (g1 _ _ hA9 (.inr (by simp))) hA9) (so B _ (g1 _ _ hB9 (.inr (by simp))) hB9) (so C _ (g1 _ _ n9 (.inr (by simp))) n9), by rw [← hV]; exact put_below (HB.out.trans (h12.mono HB.out.size)) (Nat.le_refl _) _ _ _ _⟩
  obtain ⟨v0, v1, v2, v3⟩ := box4 hVR
  clear h79 h57 h45 h24 h12 hA9 hB9 hN9 so g1 hVR n9 b9 h8
  go_wp2
  exact bodyPost_ret (v := .agg #[.int .u8 4, .int .u8 0, .string ⟨#[]⟩, .slice (some ⟨C, 0, none⟩) 4 4]) (by simp [results, Tryz.results13, go_sem, v0, v1, v2, v3]) rfl HVB.out
end Go.Proofs.YtingfomfibhnhaaGreatDoor
