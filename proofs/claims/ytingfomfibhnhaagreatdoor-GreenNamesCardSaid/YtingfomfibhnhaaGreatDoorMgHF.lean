/-
  Find: the path of the Leaf in which a byte lies.
-/
import Derived.Test.YtingfomfibhnhaaGreatDoorMgHE
namespace Go.Proofs.YtingfomfibhnhaaGreatDoor
open Go.RowKit Go.Shelf
attribute [local go_sem] Oper.semAt_some

def findP (x : T) (a : Int) : Option (List Nat) := if a < 0 then none else (findL (leavesT [] x) 0 a.toNat).map fun q => q.take (outN x q)
theorem findL_hit : ∀ (pre : List (List Nat × T)) (y : List Nat × T) (r : List (List Nat × T)) (e a : Nat), e + lenL pre ≤ a → a < e + lenL pre + y.2.tok.2.length → findL (pre ++ y :: r) e a = some y.1
  | [], y, r, e, a, h1, h2 => by
    show findL (y :: r) e a = _
    unfold findL
    have : lenL [] = 0 := rfl
    rw [if_pos (by unfold leafText; omega)]
  | x :: pre, y, r, e, a, h1, h2 => by
    have hx : lenL (x :: pre) = x.2.tok.2.length + lenL pre := by simp [lenL, leafText]
    rw [hx] at h1 h2
    show findL (x :: (pre ++ y :: r)) e a = _
    unfold findL
    rw [if_neg (by unfold leafText; omega)]
    exact findL_hit pre y r _ a (by unfold leafText; omega) (by unfold leafText; omega)
theorem findL_miss : ∀ (l : List (List Nat × T)) (e a : Nat), e + lenL l ≤ a → findL l e a = none
  | [], e, a, _ => rfl
  | x :: l, e, a, h => by
    have hx : lenL (x :: l) = x.2.tok.2.length + lenL l := by simp [lenL, leafText]
    rw [hx] at h
    unfold findL
    rw [if_neg (by unfold leafText; omega)]
    exact findL_miss l _ a (by unfold leafText; omega)
mutual
theorem leaves_at : ∀ (x : T) (p : List Nat) (y : List Nat × T), y ∈ leavesT p x → ∃ r, y.1 = p ++ r ∧ atT x (asInts r) = some y.2 ∧ y.2.kind = 1 ∧ r.length < countT x
  | .mk k t ks, p, y, h => by
    by_cases h2 : k = 2
    · subst h2; unfold leavesT at h; simp at h
    · rw [leavesT_mk p t ks h2] at h
      rcases List.mem_append.1 h with h | h
      · obtain ⟨i, z, r, h3, h4, h5, h6, h7⟩ := leavesL_at ks p 0 y h
        refine ⟨i :: r, by rw [h4, Nat.zero_add, List.append_assoc]; rfl, ?_, h6, by rw [countT_mk, List.length_cons]; omega⟩
        have hi := (List.getElem?_eq_some_iff.1 h3)
        obtain ⟨hi1, hi2⟩ := hi
        have := atT_in (.mk k t ks) i (asInts r) hi1
        show atT (.mk k t ks) ((i : Int) :: asInts r) = _
        rw [this]
        show atT (ks[i]'hi1) _ = _
        rw [hi2]; exact h5
      · by_cases h1 : k = 1
        · rw [if_pos h1] at h
          simp at h; subst h
          exact ⟨[], by simp, rfl, h1, by rw [countT_mk, List.length_nil]; omega⟩
        · rw [if_neg h1] at h; cases h
theorem leavesL_at : ∀ (l : List T) (p : List Nat) (i0 : Nat) (y : List Nat × T), y ∈ leavesL p i0 l → ∃ i z r, l[i]? = some z ∧ y.1 = p ++ [i0 + i] ++ r ∧ atT z (asInts r) = some y.2 ∧ y.2.kind = 1 ∧ r.length < countTs l
  | [], p, i0, y, h => by unfold leavesL at h; cases h
  | x :: l, p, i0, y, h => by
    rw [leavesL_cons] at h
    rcases List.mem_append.1 h with h | h
    · obtain ⟨r, h1, h2, h3, h4⟩ := leaves_at x (p ++ [i0]) y h
      exact ⟨0, x, r, rfl, h1, h2, h3, by unfold countTs; omega⟩
    · obtain ⟨i, z, r, h1, h2, h3, h4, h5⟩ := leavesL_at l p (i0 + 1) y h
      exact ⟨i + 1, z, r, h1, by rw [h2, show i0 + 1 + i = i0 + (i + 1) by omega], h3, h4, by unfold countTs; omega⟩
end
theorem leaf_pre {x : T} {pre : List (List Nat × T)} {y : List Nat × T} (h : (pre ++ [y]) <+: leavesT [] x) : atT x (asInts y.1) = some y.2 ∧ y.2.kind = 1 ∧ y.1.length < countT x ∧ ∃ r, leavesT [] x = pre ++ y :: r := by
  obtain ⟨r, hr⟩ := h
  have hm : y ∈ leavesT [] x := by rw [← hr]; simp
  obtain ⟨q, h1, h2, h3, h4⟩ := leaves_at x [] y hm
  rw [List.nil_append] at h1
  rw [h1]
  exact ⟨h2, h3, h4, r, by rw [← hr]; simp⟩
/-- slices.Clone of a path's beginning. -/
theorem clonePath (D k : Nat) (q : List Nat) (g : Nat) (cap : Nat) (w : World) (h : w.ownsRow D 3 1 (.slice (some ⟨g, 0, none⟩) q.length cap) q.length (ints q)) (hk : k ≤ q.length) (hq : q.length ≤ 1000000) :
    Calls Tryz.prog 39 #[.slice (some ⟨g, 0, none⟩) k cap] w fun e w' => ∃ p' c', e = .returned (.slice p' k c') ∧ w'.ownsRow w.heap.size 3 1 (.slice p' k c') k (ints (q.take k)) ∧ Below w.heap.size w w' := by
  have hc := World.ownsRow.cells h (show (Value.slice (some ⟨g, 0, none⟩) q.length cap).ownBlock = some g from rfl)
  refine (Tryz.slices_Clone_int g 0 k cap (asInts q) w (by simp [asInts]; exact hk) (by omega) (fun j hj => ?_)).mono ?_
  · have hj' : j < q.length := by simpa [asInts] using hj
    have := hc j (.int .i64 ((q[j]'hj' : Nat) : Int)) (by simp [ints, List.getElem?_eq_getElem hj'])
    have e : (⟨g, 0, none⟩ : Addr).add j = ⟨g, 0 + j, none⟩ := by rw [Nat.zero_add]; unfold Addr.add; split <;> simp_all
    rw [e] at this
    rw [this]
    simp [asInts, List.getD_eq_getElem?_getD, List.getElem?_eq_getElem hj']
  · rintro e w' ⟨v', rfl, hr, _, hb⟩
    obtain ⟨p', c', rfl⟩ := owns_shape hr
    refine ⟨p', c', rfl, ?_, hb⟩
    have : (List.take k (asInts q)).map (Value.int .i64) = ints (q.take k) := by
      simp [asInts, ints, List.map_take]
      rfl
    rw [← this]; exact hr
theorem old_alloc2 {W : World} {k : Nat} {o : Obj} (o' : Obj) (h : W.heap[k]? = some o) : (W.alloc o').heap[k]? = some o := ((galloc (Below.refl W.heap.size W) o').block k (Array.getElem?_eq_some_iff.1 h).1).trans h
theorem find_start (W : World) (o1 o6 : Obj) (a : Int) (w6 : World) (h6 : w6 = (((((W.alloc o1).alloc (.cells #[.int .i64 a] 3)).alloc (.cells #[.slice none 0 0] 38)).alloc (.cells #[.int .i64 0] 30)).alloc (.cells #[.int .i64 0] 3)).alloc o6) :
    (w6.heap[W.heap.size]? = some o1 ∧ w6.heap[W.heap.size + 1]? = some (.cells #[.int .i64 a] 3 (0, 0)) ∧ w6.heap[W.heap.size + 1 + 1]? = some (.cells #[.slice none 0 0] 38 (0, 0)) ∧ w6.heap[W.heap.size + 1 + 1 + 1]? = some (.cells #[.int .i64 0] 30 (0, 0)) ∧ w6.heap[W.heap.size + 1 + 1 + 1 + 1]? = some (.cells #[.int .i64 0] 3 (0, 0))) ∧
      w6.heap[W.heap.size + 1 + 1 + 1 + 1 + 1]? = some o6 ∧ Below W.heap.size W w6 ∧ w6.heap.size = W.heap.size + 6 := by
  obtain ⟨w1, hw1⟩ : ∃ w, W.alloc o1 = w := ⟨_, rfl⟩
  have n1 := World.alloc_heap_new W o1
  have z1 : w1.heap.size = W.heap.size + 1 := by rw [← hw1]; simp
  have b1 : Below W.heap.size W w1 := by rw [← hw1]; exact galloc (Below.refl _ _) _
  rw [hw1] at h6 n1
  obtain ⟨w2, hw2⟩ : ∃ w, w1.alloc (.cells #[.int .i64 a] 3) = w := ⟨_, rfl⟩
  have n2 := World.alloc_heap_new w1 (.cells #[.int .i64 a] 3)
  have z2 : w2.heap.size = W.heap.size + 1 + 1 := by rw [← hw2]; simp; omega
  have b2 : Below W.heap.size W w2 := by rw [← hw2]; exact galloc b1 _
  replace n1 := old_alloc2 (.cells #[.int .i64 a] 3) n1
  rw [hw2] at h6 n1 n2
  obtain ⟨w3, hw3⟩ : ∃ w, w2.alloc (.cells #[.slice none 0 0] 38) = w := ⟨_, rfl⟩
  have n3 := World.alloc_heap_new w2 (.cells #[.slice none 0 0] 38)
  have z3 : w3.heap.size = W.heap.size + 1 + 1 + 1 := by rw [← hw3]; simp; omega
  have b3 : Below W.heap.size W w3 := by rw [← hw3]; exact galloc b2 _
  replace n1 := old_alloc2 (.cells #[.slice none 0 0] 38) n1
  replace n2 := old_alloc2 (.cells #[.slice none 0 0] 38) n2
  rw [hw3] at h6 n1 n2 n3
  obtain ⟨w4, hw4⟩ : ∃ w, w3.alloc (.cells #[.int .i64 0] 30) = w := ⟨_, rfl⟩
  have n4 := World.alloc_heap_new w3 (.cells #[.int .i64 0] 30)
  have z4 : w4.heap.size = W.heap.size + 1 + 1 + 1 + 1 := by rw [← hw4]; simp; omega
  have b4 : Below W.heap.size W w4 := by rw [← hw4]; exact galloc b3 _
  replace n1 := old_alloc2 (.cells #[.int .i64 0] 30) n1
  replace n2 := old_alloc2 (.cells #[.int .i64 0] 30) n2
  replace n3 := old_alloc2 (.cells #[.int .i64 0] 30) n3
  rw [hw4] at h6 n1 n2 n3 n4
  obtain ⟨w5, hw5⟩ : ∃ w, w4.alloc (.cells #[.int .i64 0] 3) = w := ⟨_, rfl⟩
  have n5 := World.alloc_heap_new w4 (.cells #[.int .i64 0] 3)
  have z5 : w5.heap.size = W.heap.size + 1 + 1 + 1 + 1 + 1 := by rw [← hw5]; simp; omega
  have b5 : Below W.heap.size W w5 := by rw [← hw5]; exact galloc b4 _
  replace n1 := old_alloc2 (.cells #[.int .i64 0] 3) n1
  replace n2 := old_alloc2 (.cells #[.int .i64 0] 3) n2
  replace n3 := old_alloc2 (.cells #[.int .i64 0] 3) n3
  replace n4 := old_alloc2 (.cells #[.int .i64 0] 3) n4
  rw [hw5] at h6 n1 n2 n3 n4 n5
  have n6 := World.alloc_heap_new w5 o6
  replace n1 := old_alloc2 o6 n1
  replace n2 := old_alloc2 o6 n2
  replace n3 := old_alloc2 o6 n3
  replace n4 := old_alloc2 o6 n4
  replace n5 := old_alloc2 o6 n5
  have b6 : Below W.heap.size W (w5.alloc o6) := galloc b5 _
  have z6 : (w5.alloc o6).heap.size = W.heap.size + 6 := by simp; omega
  subst h6
  rw [z1] at n2
  rw [z2] at n3
  rw [z3] at n4
  rw [z4] at n5
  rw [z5] at n6
  exact ⟨⟨n1, n2, n3, n4, n5⟩, n6, b6, z6⟩
def FindEnd (f : Option (List Nat)) (w : World) (e : Ending) (w' : World) : Prop := Below w.heap.size w w' ∧ match f with
  | none => e = .returned (.tuple #[.slice none 0 0, .int .i64 1])
  | some q => ∃ p c, e = .returned (.tuple #[.slice p q.length c, .int .i64 0]) ∧ w'.ownsRow w.heap.size 3 1 (.slice p q.length c) q.length (ints q)
/-- Find's boxes. -/
structure FindAt (W : World) (x : T) (p : Option Addr) (c : Nat) (a : Int) (e : Nat) (V : World) : Prop where
  n0 : V.heap[W.heap.size]? = some (boxN x p c)
  n1 : V.heap[W.heap.size + 1]? = some (.cells #[.int .i64 a] 3 (0, 0))
  n2 : V.heap[W.heap.size + 1 + 1]? = some (.cells #[.slice none 0 0] 38 (0, 0))
  n3 : V.heap[W.heap.size + 1 + 1 + 1]? = some (.cells #[.int .i64 0] 30 (0, 0))
  n4 : V.heap[W.heap.size + 1 + 1 + 1 + 1]? = some (.cells #[.int .i64 e] 3 (0, 0))
  nx : NAt (· < W.heap.size) V x (cellsN x p c)
  nb : Below W.heap.size W V
theorem FindAt.ke {W : World} {x : T} {p : Option Addr} {c : Nat} {a : Int} {e : Nat} {A B : World} (h : FindAt W x p c a e A) (k : KeI (W.heap.size + 6) A B) : FindAt W x p c a e B := by
  have s : ∀ j o, j < W.heap.size + 6 → A.heap[j]? = some o → B.heap[j]? = some o := fun j o hj ho => (k.keep j (Array.getElem?_eq_some_iff.1 ho).1 (.inl hj)).trans ho
  exact ⟨s _ _ (by omega) h.n0, s _ _ (by omega) h.n1, s _ _ (by omega) h.n2, s _ _ (by omega) h.n3, s _ _ (by omega) h.n4, NAt.world ⟨k.size, fun j hj hl => k.keep j hj (.inl (by omega))⟩ _ _ h.nx, below_ke h.nb (by omega) h.nb.size k⟩
theorem pa_of_row {D : Nat} {W : World} {v : Value} {q : List Nat} (h : W.ownsRow D 3 1 v q.length (ints q)) : PaAt W v (asInts q) := by
  have h1 := SlIn.of_owns (S := AnyB) h (fun _ _ => trivial)
  have e1 : (asInts q).length = q.length := List.length_map ..
  have e2 : (asInts q).map (fun i => Value.int .i64 i) = ints q := by rw [List.map_map]; rfl
  unfold PaAt; rw [e1, e2]; exact h1
/-- What Find leaves behind where it has found the Leaf. -/
def IxF (W : World) (FF : Option (List Nat)) (cd : Code) (_ : List (List Nat × T)) (V : World) : Prop := cd = .ret ∧ ∃ q, FF = some q ∧ ∃ v, (∃ p c, v = .slice p q.length c) ∧ V.heap[W.heap.size + 1 + 1]? = some (.cells #[v] 38 (0, 0)) ∧ V.heap[W.heap.size + 1 + 1 + 1]? = some (.cells #[.int .i64 0] 30 (0, 0)) ∧ V.ownsRow W.heap.size 3 1 v q.length (ints q) ∧ Below W.heap.size W V
theorem IxF.own {W : World} {FF : Option (List Nat)} {cd : Code} {s : List (List Nat × T)} {A B : World} {row : Option Nat} (h : IxF W FF cd s A) (hg : A.grownBy B row) (hr : ∀ r, row = some r → W.heap.size + 6 ≤ r ∧ ∃ o : Obj, A.heap[r]? = some o ∧ o.isCells = false) : IxF W FF cd s B := by
  obtain ⟨h1, q, h2, v, h3, h4, h5, h6, h7⟩ := h
  have hk : ∀ (k : Nat) (cs : Array Value) (t : TypeId) (fz : Nat × Nat), A.heap[k]? = some (Obj.cells cs t fz) → B.heap[k]? = A.heap[k]? := fun k cs t fz h => hg.block k (Array.getElem?_eq_some_iff.1 h).1 fun e => by
    obtain ⟨_, o, h6, h7⟩ := hr k e.symm
    rw [h] at h6; cases h6; cases h7
  exact ⟨h1, q, h2, v, h3, (hk _ _ _ _ h4).trans h4, (hk _ _ _ _ h5).trans h5, row_keep h6 fun g cs _ hc => hk _ _ _ _ hc, h7.trans ⟨hg.os, hg.tape, hg.output, hg.size, fun k hk' => hg.block k (by have := h7.size; omega) fun e => by have := (hr k e.symm).1; omega⟩⟩
set_option maxRecDepth 100000 in
set_option maxHeartbeats 8000000 in
theorem find_any (x : T) (p : Option Addr) (c : Nat) (a : Int) (W : World) (hx : NAt AnyB W x (cellsN x p c)) (hc : countT x ≤ 100000) (hs : sizeT x ≤ 100000000) : Calls Tryz.prog 18 #[aggN x p c, .int .i64 a] W (FindEnd (findP x a) W) := by
  by_cases hneg : a < 0
  · have hF : findP x a = none := by unfold findP; rw [if_pos hneg]
    rw [hF]
    obtain ⟨⟨h0, h1, h2, h3, h4⟩, _, _, _⟩ := find_start W (.cells #[.int .u8 x.kind, .int .u8 x.tok.1, .string ⟨x.tok.2.toArray⟩, .slice p x.kids.length c] 27) (.cells #[.int .u8 x.kind, .int .u8 x.tok.1, .string ⟨x.tok.2.toArray⟩, .slice p x.kids.length c] 27) a _ rfl
    clear h0 h1 h4 hF
    have hbw : Below W.heap.size W ((((W.alloc (.cells #[.int .u8 x.kind, .int .u8 x.tok.1, .string ⟨x.tok.2.toArray⟩, .slice p x.kids.length c] 27)).alloc (.cells #[.int .i64 a] 3)).alloc (.cells #[.slice none 0 0] 38)).alloc (.cells #[.int .i64 0] 30)) := galloc (galloc (galloc (galloc (Below.refl _ _) _) _) _) _
    have k2 := World.alloc_heap_new ((W.alloc (.cells #[.int .u8 x.kind, .int .u8 x.tok.1, .string ⟨x.tok.2.toArray⟩, .slice p x.kids.length c] 27)).alloc (.cells #[.int .i64 a] 3)) (.cells #[.slice none 0 0] 38)
    have k3 := World.alloc_heap_new (((W.alloc (.cells #[.int .u8 x.kind, .int .u8 x.tok.1, .string ⟨x.tok.2.toArray⟩, .slice p x.kids.length c] 27)).alloc (.cells #[.int .i64 a] 3)).alloc (.cells #[.slice none 0 0] 38)) (.cells #[.int .i64 0] 30)
    have k1 := World.alloc_heap_new (W.alloc (.cells #[.int .u8 x.kind, .int .u8 x.tok.1, .string ⟨x.tok.2.toArray⟩, .slice p x.kids.length c] 27)) (.cells #[.int .i64 a] 3)
    replace k1 := old_alloc2 (.cells #[.int .i64 0] 30) (old_alloc2 (.cells #[.slice none 0 0] 38) k1)
    rw [World.size_alloc] at k1
    replace k2 := old_alloc2 (.cells #[.int .i64 0] 30) k2
    rw [World.size_alloc, World.size_alloc] at k2
    rw [World.size_alloc, World.size_alloc, World.size_alloc] at k3
    clear h2 h3
    generalize hw4 : ((((W.alloc (.cells #[.int .u8 x.kind, .int .u8 x.tok.1, .string ⟨x.tok.2.toArray⟩, .slice p x.kids.length c] 27)).alloc (.cells #[.int .i64 a] 3)).alloc (.cells #[.slice none 0 0] 38)).alloc (.cells #[.int .i64 0] 30)) = w4 at *
    obtain ⟨V4, hV4⟩ : ∃ V4, (w4.setCell ⟨W.heap.size + 1 + 1, 0, none⟩ (.slice none 0 0)).setCell ⟨W.heap.size + 1 + 1 + 1, 0, none⟩ (.int .i64 1) = V4 := ⟨_, rfl⟩
    have hn2 : V4.heap[W.heap.size + 1 + 1]? = some (.cells #[.slice none 0 0] 38 (0, 0)) := by rw [← hV4]; exact (heap_setCell_other _ ⟨W.heap.size + 1 + 1 + 1, 0, none⟩ _ _ (by show W.heap.size + 1 + 1 ≠ W.heap.size + 1 + 1 + 1; omega)).trans (heap_setCell_same w4 _ 0 _ _ _ k2)
    have hn3 : V4.heap[W.heap.size + 1 + 1 + 1]? = some (.cells #[.int .i64 1] 30 (0, 0)) := by rw [← hV4]; exact heap_setCell_same _ _ 0 _ _ _ ((heap_setCell_other w4 ⟨W.heap.size + 1 + 1, 0, none⟩ _ _ (by show W.heap.size + 1 + 1 + 1 ≠ W.heap.size + 1 + 1; omega)).trans k3)
    have hb4 : Below W.heap.size W V4 := by rw [← hV4]; exact (hbw.setCell (p := ⟨W.heap.size + 1 + 1, 0, none⟩) (by show W.heap.size ≤ W.heap.size + 1 + 1; omega) _).setCell (p := ⟨W.heap.size + 1 + 1 + 1, 0, none⟩) (by show W.heap.size ≤ W.heap.size + 1 + 1 + 1; omega) _
    have HB4 := Lib.hid hb4
    have z0 : V4.cell? ⟨W.heap.size + 1 + 1, 0, none⟩ = some (.slice none 0 0) := by rw [cellH hn2]; rfl
    have z1 : V4.cell? ⟨W.heap.size + 1 + 1 + 1, 0, none⟩ = some (.int .i64 1) := by rw [cellH hn3]; rfl
    have x1 : w4.cell? ⟨W.heap.size + 1, 0, none⟩ = some (.int .i64 a) := by rw [cellH k1]; rfl
    have y2 : w4.cell? ⟨W.heap.size + 1 + 1, 0, none⟩ = some (.slice none 0 0) := by rw [cellH k2]; rfl
    have y3 : w4.cell? ⟨W.heap.size + 1 + 1 + 1, 0, none⟩ = some (.int .i64 0) := by rw [cellH k3]; rfl
    have yf2 : ∀ o, w4.frozen? ⟨W.heap.size + 1 + 1, o, none⟩ = false := fun o => Lib.frozen_of_heap k2 o
    have yf3 : ∀ o, w4.frozen? ⟨W.heap.size + 1 + 1 + 1, o, none⟩ = false := fun o => Lib.frozen_of_heap k3 o
    clear hb4 hn2 hn3 hbw k1 k2 k3
    go_enter Tryz.func18, Tryz.ntmps18
    go_wp2
    exact bodyPost_ret (v := .tuple #[.slice none 0 0, .int .i64 1]) (by simp [results, Tryz.results18, go_sem, z0, z1]) rfl ⟨HB4.out, rfl⟩
  · have hneg' : ¬ a < 0 := hneg
    obtain ⟨a, rfl⟩ := Int.eq_ofNat_of_zero_le (by omega : 0 ≤ a)
    have hFP : ∀ o, findL (leavesT [] x) 0 a = o → findP x (a : Int) = o.map fun q => q.take (outN x q) := fun o ho => by unfold findP; rw [if_neg hneg, Int.toNat_natCast, ho]
    obtain ⟨FF, hFF⟩ : ∃ f, findP x (a : Int) = f := ⟨_, rfl⟩
    rw [hFF]
    rw [hFF] at hFP
    have HFP := Lib.hid hFP
    clear hFP hFF hneg
    refine (callsIn_wide (n := 3)).1 ?_
    refine callsIn_of_wp_marks Tryz.func18 rfl trivial ?_ rfl
    simp only [Tryz.ntmps18, List.size_toArray, List.length_cons, List.length_nil, Nat.reduceAdd, Nat.reduceSub, Array.replicate_succ, Array.replicate_zero, List.push_toArray, List.append_toArray, List.nil_append, List.cons_append]
    gi_wp2_with (refine ⟨trivial, ?_⟩; gi_at_call 38; refine (callsIn_wide.2 (leaves_any x p c _)).mono ?_; rintro e w' ⟨rfl, rfl⟩)
    obtain ⟨⟨h0, h1, h2, h3, h4⟩, hbx, hbw, hz3⟩ := find_start W (.cells #[.int .u8 x.kind, .int .u8 x.tok.1, .string ⟨x.tok.2.toArray⟩, .slice p x.kids.length c] 27) (.cells #[.int .u8 x.kind, .int .u8 x.tok.1, .string ⟨x.tok.2.toArray⟩, .slice p x.kids.length c] 27) (a : Nat) _ rfl
    generalize ((((((W.alloc (.cells #[.int .u8 x.kind, .int .u8 x.tok.1, .string ⟨x.tok.2.toArray⟩, .slice p x.kids.length c] 27)).alloc (.cells #[.int .i64 (a : Nat)] 3)).alloc (.cells #[.slice none 0 0] 38)).alloc (.cells #[.int .i64 0] 30)).alloc (.cells #[.int .i64 0] 3)).alloc (.cells #[.int .u8 x.kind, .int .u8 x.tok.1, .string ⟨x.tok.2.toArray⟩, .slice p x.kids.length c] 27)) = w3 at *
    have hF0 : FindAt W x p c (a : Nat) (lenL []) w3 := ⟨h0, h1, h2, h3, h4, NAt.world ⟨hbw.size, fun k hk _ => hbw.block k hk⟩ _ _ (NAt.mono (fun k hk _ => hk) _ _ hx), hbw⟩
    have hne23 : W.heap.size + 1 + 1 ≠ W.heap.size + 1 + 1 + 1 := by omega
    have hne32 : W.heap.size + 1 + 1 + 1 ≠ W.heap.size + 1 + 1 := by omega
    have hle2b : W.heap.size ≤ W.heap.size + 1 + 1 := by omega
    have hle3b : W.heap.size ≤ W.heap.size + 1 + 1 + 1 := by omega
    have hne4 : ∀ g, W.heap.size + 6 ≤ g → g ≠ W.heap.size + 1 + 1 + 1 + 1 := fun g h => by omega
    refine range_green (D := W.heap.size + 6) (n0 := W.heap.size) (x := x) (p := p) (c := c) hz3 rfl rfl (by omega) (by omega) hbx hF0.nx
      (fun pre V => FindAt W x p c (a : Nat) (lenL pre) V ∧ lenL pre ≤ a) (IxF W FF) (fun s A B h k => ⟨h.1.ke k, h.2⟩) (fun cd s A B row h hg hr => IxF.own h hg hr) ⟨hF0, by simp [lenL]⟩
      (fun Bx pv y py cy => { tmps := #[aggN x p c, .int .i64 (a : Nat), .pointer (some ⟨W.heap.size, 0, none⟩), .pointer (some ⟨W.heap.size + 1, 0, none⟩), .pointer (some ⟨W.heap.size + 1 + 1, 0, none⟩), .pointer (some ⟨W.heap.size + 1 + 1 + 1, 0, none⟩), .pointer (some ⟨W.heap.size + 1 + 1 + 1 + 1, 0, none⟩), pv, .pointer (some ⟨Bx, 0, none⟩), .int .i64 (a : Nat), .bool false, aggN x p c, .func (.func 55) #[] #[.pointer (some ⟨W.heap.size + 1 + 1 + 1 + 1 + 1, 0, none⟩)], pv, aggN y py cy, undef, undef, undef, undef, undef, undef, undef, undef, undef, undef, undef, undef, undef, undef, undef], defers := [] }) ?assign ?body ?done ?stop
    case assign =>
      intro l m y pv py cy V K hK
      gi_wp2
      exact hK
    case body =>
      rintro l m pre y pv py cy Bx V hl hl2 ⟨hF, hle⟩ hpre hBx hbox hrow hn
      have hdd : ∀ k : Nat, ((Fence.wide.inRound l).depth.isSome = true → 1 ≤ k) := fun k h => (by cases h)
      obtain ⟨hat, hyk, hyl, r, hr⟩ := leaf_pre hpre
      have hle2 := lenL_pre hpre
      rw [lenL_snoc, lenL_all] at hle2
      obtain ⟨E0, hE0⟩ : ∃ e, lenL pre = e := ⟨_, rfl⟩
      have HSN := Lib.hid (lenL_snoc pre y)
      rw [hE0] at hF hle hle2 HSN
      obtain ⟨E1, hE1⟩ : ∃ e, E0 + y.2.tok.2.length = e := ⟨_, rfl⟩
      rw [hE1] at HSN
      have hwr : IntKind.i64.wrap ((E0 : Int) + (y.2.tok.2.length : Int)) = (E1 : Int) := by rw [IntWalk.i64_in _ (by omega)]; omega
      have hwr2 : wrap64 ((E0 : Int) + (y.2.tok.2.length : Int)) = (E1 : Int) := by rw [IntWalk.wrap64_in _ (by omega)]; omega
      obtain ⟨d0, d1, d2, d3⟩ := box4 hbox
      have e0 : V.cell? ⟨W.heap.size + 1 + 1 + 1 + 1, 0, none⟩ = some (.int .i64 E0) := by rw [cellH hF.n4]; rfl
      have ef : ∀ o, V.frozen? ⟨W.heap.size + 1 + 1 + 1 + 1, o, none⟩ = false := fun o => Lib.frozen_of_heap hF.n4 o
      obtain ⟨V1, hV1⟩ : ∃ V1, V.setCell ⟨W.heap.size + 1 + 1 + 1 + 1, 0, none⟩ (.int .i64 E1) = V1 := ⟨_, rfl⟩
      have so : ∀ k o, k ≠ W.heap.size + 1 + 1 + 1 + 1 → V.heap[k]? = some o → V1.heap[k]? = some o := fun k o hk ho => by rw [← hV1]; exact (heap_setCell_other V ⟨W.heap.size + 1 + 1 + 1 + 1, 0, none⟩ k _ hk).trans ho
      have hF1 : FindAt W x p c (a : Nat) E1 V1 := ⟨so _ _ (by omega) hF.n0, so _ _ (by omega) hF.n1, so _ _ (by omega) hF.n2, so _ _ (by omega) hF.n3, by rw [← hV1]; exact heap_setCell_same V _ 0 _ _ _ hF.n4,
        NAt.world ⟨by rw [← hV1]; simp, fun k hk hl => by have hl' : k < W.heap.size := hl; rw [← hV1]; exact heap_setCell_other V ⟨W.heap.size + 1 + 1 + 1 + 1, 0, none⟩ k _ (by show k ≠ W.heap.size + 1 + 1 + 1 + 1; omega)⟩ _ _ hF.nx, by rw [← hV1]; exact hF.nb.setCell (p := ⟨W.heap.size + 1 + 1 + 1 + 1, 0, none⟩) (by show W.heap.size ≤ W.heap.size + 1 + 1 + 1 + 1; omega) _⟩
      have hk1 : KeepsFrom (W.heap.size + 6) V V1 ∧ KpG W.heap.size (W.heap.size + 6) V V1 := by rw [← hV1]; exact ⟨(KeepsOthers.setCell _ _ _).from _, KpG.mid (grown_set V _ _ _) (by omega) (by omega)⟩
      have m1 : V1.cell? ⟨W.heap.size + 1, 0, none⟩ = some (.int .i64 (a : Nat)) := by rw [cellH hF1.n1]; rfl
      have m4 : V1.cell? ⟨W.heap.size + 1 + 1 + 1 + 1, 0, none⟩ = some (.int .i64 E1) := by rw [cellH hF1.n4]; rfl
      by_cases hit : a < E1
      · have hit' : (a : Int) < (E1 : Int) := Int.ofNat_lt.2 hit
        have hyl2 : y.1.length ≤ 1000000 := Nat.le_trans (Nat.le_of_lt hyl) (Nat.le_trans hc (by decide))
        obtain ⟨q0, q1, q2, q3⟩ := box4 hF1.n0
        have hrow1 : V1.ownsRow (W.heap.size + 6) 3 1 pv y.1.length (ints y.1) := row_keep hrow fun g cs hg hc => (so g _ (hne4 g hg) hc).trans hc.symm
        have hpa : PaAt V1 pv (asInts y.1) := pa_of_row hrow1
        have hom := outermost_any x y.1 V1 p c pv y.2 hF1.nx.any hpa hyl2 hat
        have hol := outN_le y.1 x
        have HFF : Hid (FF = some (y.1.take (outN x y.1))) := Lib.hid (by
          have := HFP.out (some y.1) (by rw [hr]; exact findL_hit pre y r 0 a (by rw [hE0, Nat.zero_add]; exact hle) (by rw [hE0, Nat.zero_add, hE1]; exact hit))
          rw [this]; rfl)
        obtain ⟨k0, hk0⟩ : ∃ k0, outN x y.1 = k0 := ⟨_, rfl⟩
        rw [hk0] at hom hol HFF
        have HQ : Hid (y.1.length ≤ 1000000 ∧ (y.1.take k0).length = k0) := Lib.hid ⟨hyl2, by rw [List.length_take]; exact Nat.min_eq_left hol⟩
        have HK1 := Lib.hid hk1
        have HF1 := Lib.hid hF1
        have HRW := Lib.hid hrow1
        have HV := Lib.hid hF
        clear hk1 hF1 hF so hpa hle hle2 hbox hrow hn hpre hat hr hE1 hE0 hyl hyk hx hF0 hyl2
        obtain ⟨pp, cq, rfl⟩ := owns_shape hrow1
        have hIX : ∀ (V3 V4 : World) (p' : Option Addr) (c' : Nat), Below V1.heap.size V1 V3 → V3.ownsRow W.heap.size 3 1 (.slice p' k0 c') k0 (ints (y.1.take k0)) → (V3.setCell ⟨W.heap.size + 1 + 1, 0, none⟩ (.slice p' k0 c')).setCell ⟨W.heap.size + 1 + 1 + 1, 0, none⟩ (.int .i64 0) = V4 → KeepsFrom (W.heap.size + 6) V V4 ∧ IxF W FF .ret (pre ++ [y]) V4 := fun V3 V4 p' c' h3 hr3 h4 => by
          subst h4
          have hb2 := (h3.block _ (Array.getElem?_eq_some_iff.1 HF1.out.n2).1).trans HF1.out.n2
          have hb3 := (h3.block _ (Array.getElem?_eq_some_iff.1 HF1.out.n3).1).trans HF1.out.n3
          refine ⟨(HK1.out.1.trans (keeps_below h3)).trans (((KeepsOthers.setCell _ _ _).trans (KeepsOthers.setCell _ _ _)).from _), rfl, _, HFF.out, .slice p' k0 c', by rw [HQ.out.2]; exact ⟨_, _, rfl⟩, ?_, ?_, ?_, ?_⟩
          · exact (heap_setCell_other _ ⟨W.heap.size + 1 + 1 + 1, 0, none⟩ _ _ hne23).trans (heap_setCell_same V3 _ 0 _ _ _ hb2)
          · exact heap_setCell_same _ _ 0 _ _ _ ((heap_setCell_other V3 ⟨W.heap.size + 1 + 1, 0, none⟩ _ _ hne32).trans hb3)
          · rw [HQ.out.2]
            refine row_keep hr3 fun g cs _ hc => (heap_setCell_other _ ⟨W.heap.size + 1 + 1 + 1, 0, none⟩ g _ (fun e => ?_)).trans (heap_setCell_other _ ⟨W.heap.size + 1 + 1, 0, none⟩ g _ (fun e => ?_))
            · have e' : g = W.heap.size + 1 + 1 + 1 := e
              subst e'; rw [hb3] at hc; cases hc
            · have e' : g = W.heap.size + 1 + 1 := e
              subst e'; rw [hb2] at hc; cases hc
          · exact ((HF1.out.nb.trans (h3.mono HF1.out.nb.size)).setCell (p := ⟨W.heap.size + 1 + 1, 0, none⟩) hle2b _).setCell (p := ⟨W.heap.size + 1 + 1 + 1, 0, none⟩) hle3b _
        have HIX := Lib.hid hIX
        have hbase : ∀ {n : Nat} {v : Value} {zs : List Value} {A : World}, W.heap.size ≤ A.heap.size → ∀ {B : World}, B.ownsRow A.heap.size 3 1 v n zs → B.ownsRow W.heap.size 3 1 v n zs := fun h _ h2 => owns_base h2 h
        have HBS := Lib.hid (fun (p' : Option Addr) (c' : Nat) (A B : World) (h : W.heap.size ≤ A.heap.size) (h2 : B.ownsRow A.heap.size 3 1 (.slice p' k0 c') k0 (ints (y.1.take k0))) => hbase h h2)
        clear hIX hbase
        rcases Classical.em (∃ g, pp = some ⟨g, 0, none⟩) with ⟨g, rfl⟩ | hnil
        · have hcl := fun V2 (h2 : Below V1.heap.size V1 V2) => clonePath (W.heap.size + 6) k0 y.1 g cq V2 (owns_below HRW.out h2) hol HQ.out.1
          have HCL := Lib.hid hcl
          have hkc : (k0 : Int) ≤ (cq : Int) := by
            obtain ⟨_, h⟩ := hrow1
            rcases h with ⟨h, _⟩ | ⟨g', cap', _, h3, _, _, h6, _⟩
            · cases h
            · cases h3; exact Int.ofNat_le.2 (Nat.le_trans hol h6)
          clear hcl hrow1 hol
          generalize y.1.length = yl at *
          gi_wp2_with (first
            | (refine ⟨trivial, hdd _, ?_⟩; gi_at_call 40; refine (CallsIn.inRound l (callsIn_wide.2 hom)).mono ?_; rintro e V2 ⟨rfl, hb2⟩; have hc3 := HCL.out V2 hb2)
            | (refine ⟨trivial, hdd _, ?_⟩; gi_at_call 39; refine (CallsIn.inRound l (callsIn_wide.2 hc3)).mono ?_; rintro e V3 ⟨p', c', rfl, hr3, hb3⟩; have HB3 := Lib.hid (hb2.trans (hb3.mono hb2.size)); have y2 : V3.cell? ⟨W.heap.size + 1 + 1, 0, none⟩ = some (.slice none 0 0) := (by rw [cellH ((HB3.out.block _ (Array.getElem?_eq_some_iff.1 HF1.out.n2).1).trans HF1.out.n2)]; rfl); have y3 : V3.cell? ⟨W.heap.size + 1 + 1 + 1, 0, none⟩ = some (.int .i64 0) := (by rw [cellH ((HB3.out.block _ (Array.getElem?_eq_some_iff.1 HF1.out.n3).1).trans HF1.out.n3)]; rfl); have yf2 : ∀ o, V3.frozen? ⟨W.heap.size + 1 + 1, o, none⟩ = false := (fun o => Lib.frozen_of_heap ((HB3.out.block _ (Array.getElem?_eq_some_iff.1 HF1.out.n2).1).trans HF1.out.n2) o); have yf3 : ∀ o, V3.frozen? ⟨W.heap.size + 1 + 1 + 1, o, none⟩ = false := (fun o => Lib.frozen_of_heap ((HB3.out.block _ (Array.getElem?_eq_some_iff.1 HF1.out.n3).1).trans HF1.out.n3) o); have hz := HBS.out p' c' V2 V3 (Nat.le_trans HF1.out.nb.size hb2.size) hr3; have HZ := Lib.hid hz; clear hb2 hb3 hr3 hz))
          exact HIX.out V3 _ p' c' HB3.out HZ.out rfl
        · have hq0 : y.1 = [] ∧ pp = none ∧ cq = 0 := by
            obtain ⟨_, h⟩ := hrow1
            rcases h with ⟨h, h'⟩ | ⟨g', cap', _, h3, _⟩
            · obtain ⟨e1, _, e3⟩ : pp = none ∧ y.1.length = 0 ∧ cq = 0 := by simpa using h
              exact ⟨List.eq_nil_of_length_eq_zero h', e1, e3⟩
            · obtain ⟨e1, _⟩ : pp = some ⟨g', 0, none⟩ ∧ cq = cap' := by simpa using h3
              exact absurd ⟨g', e1⟩ hnil
          obtain ⟨hy0, rfl, rfl⟩ := hq0
          have hk00 : k0 = 0 := by rw [hy0] at hol; simpa using hol
          subst hk00
          have hly : y.1.length = 0 := by rw [hy0]; rfl
          rw [hly] at hom
          have HRN := Lib.hid (fun (V2 : World) => (World.ownsRow_nil V2 W.heap.size 3 1 : World.ownsRow V2 W.heap.size 3 1 (.slice none 0 0) 0 (ints (y.1.take 0))))
          have hcl := fun (V2 : World) => Tryz.slices_Clone_int_nil 0 0 V2
          clear hrow1 hol hnil
          rw [hly] at *
          have HRW2 := Lib.hid hy0
          clear hy0 hly
          gi_wp2_with (first
            | (refine ⟨trivial, hdd _, ?_⟩; gi_at_call 40; refine (CallsIn.inRound l (callsIn_wide.2 hom)).mono ?_; rintro e V2 ⟨rfl, hb2⟩)
            | (refine ⟨trivial, hdd _, ?_⟩; gi_at_call 39; refine (CallsIn.inRound l (callsIn_wide.2 (hcl V2))).mono ?_; rintro e V3 ⟨rfl, rfl⟩; have HB3 := Lib.hid hb2; have y2 : V3.cell? ⟨W.heap.size + 1 + 1, 0, none⟩ = some (.slice none 0 0) := (by rw [cellH ((HB3.out.block _ (Array.getElem?_eq_some_iff.1 HF1.out.n2).1).trans HF1.out.n2)]; rfl); have y3 : V3.cell? ⟨W.heap.size + 1 + 1 + 1, 0, none⟩ = some (.int .i64 0) := (by rw [cellH ((HB3.out.block _ (Array.getElem?_eq_some_iff.1 HF1.out.n3).1).trans HF1.out.n3)]; rfl); have yf2 : ∀ o, V3.frozen? ⟨W.heap.size + 1 + 1, o, none⟩ = false := (fun o => Lib.frozen_of_heap ((HB3.out.block _ (Array.getElem?_eq_some_iff.1 HF1.out.n2).1).trans HF1.out.n2) o); have yf3 : ∀ o, V3.frozen? ⟨W.heap.size + 1 + 1 + 1, o, none⟩ = false := (fun o => Lib.frozen_of_heap ((HB3.out.block _ (Array.getElem?_eq_some_iff.1 HF1.out.n3).1).trans HF1.out.n3) o); clear hb2))
          exact HIX.out V3 _ none 0 HB3.out (HRN.out V3) rfl
      · have hit' : ¬ (a : Int) < (E1 : Int) := fun h => hit (Int.ofNat_lt.1 h)
        have HE : Hid (KeepsFrom (W.heap.size + 6) V V1 ∧ KpG W.heap.size (W.heap.size + 6) V V1 ∧ FindAt W x p c (a : Nat) (lenL (pre ++ [y])) V1 ∧ lenL (pre ++ [y]) ≤ a) := Lib.hid ⟨hk1.1, hk1.2, by rw [HSN.out]; exact hF1, by rw [HSN.out]; exact Nat.le_of_not_lt hit⟩
        clear hk1 hF1 hF so hle hle2 hbox hrow hn hpre hat hr hE1 hE0
        gi_wp2
        exact HE.out
    case done =>
      rintro E V hE ⟨hF, hle⟩ hK
      have hFF : FF = none := by
        have := HFP.out none (findL_miss _ 0 a (by omega))
        rw [this]; rfl
      subst hFF
      have y2 : V.cell? ⟨W.heap.size + 1 + 1, 0, none⟩ = some (.slice none 0 0) := by rw [cellH hF.n2]; rfl
      have y3 : V.cell? ⟨W.heap.size + 1 + 1 + 1, 0, none⟩ = some (.int .i64 0) := by rw [cellH hF.n3]; rfl
      have yf2 : ∀ o, V.frozen? ⟨W.heap.size + 1 + 1, o, none⟩ = false := fun o => Lib.frozen_of_heap hF.n2 o
      have yf3 : ∀ o, V.frozen? ⟨W.heap.size + 1 + 1 + 1, o, none⟩ = false := fun o => Lib.frozen_of_heap hF.n3 o
      obtain ⟨V4, hV4⟩ : ∃ V4, (V.setCell ⟨W.heap.size + 1 + 1, 0, none⟩ (.slice none 0 0)).setCell ⟨W.heap.size + 1 + 1 + 1, 0, none⟩ (.int .i64 1) = V4 := ⟨_, rfl⟩
      have hn2 : V4.heap[W.heap.size + 1 + 1]? = some (.cells #[.slice none 0 0] 38 (0, 0)) := by rw [← hV4]; exact (heap_setCell_other _ ⟨W.heap.size + 1 + 1 + 1, 0, none⟩ _ _ hne23).trans (heap_setCell_same V _ 0 _ _ _ hF.n2)
      have hn3 : V4.heap[W.heap.size + 1 + 1 + 1]? = some (.cells #[.int .i64 1] 30 (0, 0)) := by rw [← hV4]; exact heap_setCell_same _ _ 0 _ _ _ ((heap_setCell_other V ⟨W.heap.size + 1 + 1, 0, none⟩ _ _ hne32).trans hF.n3)
      have hK4 : V4.heap[E]? = some (.deferred (some [])) := by rw [← hV4]; exact ((heap_setCell_other _ ⟨W.heap.size + 1 + 1 + 1, 0, none⟩ E _ (by show E ≠ W.heap.size + 1 + 1 + 1; omega)).trans (heap_setCell_other _ ⟨W.heap.size + 1 + 1, 0, none⟩ E _ (by show E ≠ W.heap.size + 1 + 1; omega))).trans hK
      have hb4 : Below W.heap.size W V4 := by rw [← hV4]; exact (hF.nb.setCell (p := ⟨W.heap.size + 1 + 1, 0, none⟩) hle2b _).setCell (p := ⟨W.heap.size + 1 + 1 + 1, 0, none⟩) hle3b _
      have HH := Lib.hid (And.intro hn2 (And.intro hn3 (And.intro hK4 hb4)))
      clear hn2 hn3 hK4 hb4 hF hF0 hK
      gi_wp2
      refine ⟨by simp, .inl ⟨_, _, rfl, run_takeDeferred HH.out.2.2.1, ?_⟩⟩
      have z0 := cell_kept (show V4.cell? ⟨W.heap.size + 1 + 1, 0, none⟩ = some (.slice none 0 0) by rw [cellH HH.out.1]; rfl) (grownBy_putObj' V4 E (.deferred none)) (fun r e => by cases e; exact ⟨_, HH.out.2.2.1, rfl⟩)
      have z1 := cell_kept (show V4.cell? ⟨W.heap.size + 1 + 1 + 1, 0, none⟩ = some (.int .i64 1) by rw [cellH HH.out.2.1]; rfl) (grownBy_putObj' V4 E (.deferred none)) (fun r e => by cases e; exact ⟨_, HH.out.2.2.1, rfl⟩)
      exact ⟨.tuple #[.slice none 0 0, .int .i64 1], by simp [results, Tryz.results18, go_sem, z0, z1], HH.out.2.2.2.trans (belowK_b (w := W) (Nat.le_refl _) V4 E _ _ (by omega) HH.out.2.2.1 rfl rfl), rfl⟩
    case stop =>
      rintro E cd pre V hE hpre ⟨rfl, q, hFF, v, ⟨p', c', rfl⟩, h2, h3, hr, hb⟩ hK
      subst hFF
      gi_wp2
      refine ⟨by simp, .inl ⟨_, _, rfl, run_takeDeferred hK, ?_⟩⟩
      have z0 := cell_kept (show V.cell? ⟨W.heap.size + 1 + 1, 0, none⟩ = some (.slice p' q.length c') by rw [cellH h2]; rfl) (grownBy_putObj' V E (.deferred none)) (fun r e => by cases e; exact ⟨_, hK, rfl⟩)
      have z1 := cell_kept (show V.cell? ⟨W.heap.size + 1 + 1 + 1, 0, none⟩ = some (.int .i64 0) by rw [cellH h3]; rfl) (grownBy_putObj' V E (.deferred none)) (fun r e => by cases e; exact ⟨_, hK, rfl⟩)
      exact ⟨.tuple #[.slice p' q.length c', .int .i64 0], by simp [results, Tryz.results18, go_sem, z0, z1], hb.trans (belowK_b (w := W) (Nat.le_refl _) V E _ _ (by omega) hK rfl rfl), p', c', rfl, row_keep hr fun g cs _ hc => World.putObj_heap_other (fun e => by subst e; rw [hK] at hc; cases hc)⟩
end Go.Proofs.YtingfomfibhnhaaGreatDoor
