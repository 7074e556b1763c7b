/-
  leaves: the iterator over a tree's Leaves.
  size, Text, Tokens: ranges over the Leaves.
-/
import Derived.Test.YtingfomfibhnhaaGreatDoorMgGV
import Derived.Test.YtingfomfibhnhaaGreatDoorMgM
namespace Go.Proofs.YtingfomfibhnhaaGreatDoor
open Go.RowKit Go.Shelf
attribute [local go_sem] Oper.semAt_some

mutual
/-- How many nodes a tree has. -/
def countT : T → Nat
  | .mk _ _ ks => 1 + countTs ks
def countTs : List T → Nat
  | [] => 0
  | x :: r => countT x + countTs r
end
theorem count_pos (x : T) : 1 ≤ countT x := by cases x; unfold countT; omega
theorem counts_len : ∀ l : List T, l.length ≤ countTs l
  | [] => by simp
  | x :: r => by
    have := counts_len r
    have := count_pos x
    unfold countTs; rw [List.length_cons]; omega
theorem counts_at : ∀ (l : List T) (i : Nat) (x : T), l[i]? = some x → countT x ≤ countTs l
  | [], i, x, h => by simp at h
  | y :: r, 0, x, h => by simp at h; subst h; unfold countTs; omega
  | y :: r, i + 1, x, h => by
    simp at h
    have := counts_at r i x h
    unfold countTs; omega
theorem visit_deep (l B D n0 : Nat) (xs : List (List Nat × T)) (J Jx : List (List Nat × T) → World → Prop) (hn0 : n0 ≤ D) (hDB : D ≤ B)
    (hJ : ∀ s A C, J s A → StG D A C → J s C) (hY : RoundsG Tryz.prog n0 D l xs J Jx) :
    ∀ (f : Nat) (x : T), countT x ≤ f → ∀ (p : List Nat), p.length + countT x ≤ 1000000 → ∀ (pre : List (List Nat × T)) (W : World) (cs : List Value), NAt (· < n0) W x cs → PathAt D l B p W → J pre W → pre ++ leavesT p x <+: xs → D ≤ W.heap.size →
      ∀ m, CallsIn Fence.wide m Tryz.prog 56 #[.pointer (some ⟨B, 0, none⟩), .agg cs.toArray] W (VisitEnd J Jx n0 D l B xs p x pre W)
  | 0, x, h, _, _, _, _, _, _, _, _, _, _ => by have := count_pos x; omega
  | f + 1, .mk k t ks, hf, p, hp, pre, W, cs, hx, hP, h0, hpre, hD => by
    obtain ⟨pc, cc, vs, rfl, hd, hj⟩ := hx.form
    unfold countT at hf hp
    have := counts_len ks
    exact visit_one l B D n0 xs J Jx hn0 hDB hJ hY k t ks p pre W pc cc vs hd hj hP h0 hpre (by omega) (by omega) hD (Lib.hid fun i x hi pre w cs hx hP h0 hpre hD m => by
      have := counts_at ks i x hi
      exact visit_deep l B D n0 xs J Jx hn0 hDB hJ hY f x (by omega) (p ++ [i]) (by rw [List.length_append]; simp; omega) pre w cs hx hP h0 hpre hD m)
set_option maxRecDepth 100000 in
set_option maxHeartbeats 4000000 in
theorem leaves1 (D n0 Bn : Nat) (x : T) (p : Option Addr) (c : Nat) (W : World) (hn0 : n0 ≤ D) (hDW : D ≤ W.heap.size) (hc : countT x ≤ 1000000)
    (hB : W.heap[Bn]? = some (boxN x p c)) (hx : NAt (· < n0) W x (cellsN x p c)) :
    Seq Tryz.prog 55 #[.pointer (some ⟨Bn, 0, none⟩)] (EncG n0 D) (StG D) (KpG n0 D) (leavesT [] x) W := by
  intro l J Jx hJ hY h0 n
  have hdd : ∀ k : Nat, (Fence.wide.depth.isSome = true → 1 ≤ k) := fun k h => (by cases h)
  obtain ⟨w1, hw1⟩ : ∃ w1, W.alloc (.cells #[.slice none 0 0, .func (.yield l) #[] #[]] 88) = w1 := ⟨_, rfl⟩
  have hB1 : w1.heap[W.heap.size]? = some (.cells #[.slice none 0 0, .func (.yield l) #[] #[]] 88 (0, 0)) := by rw [← hw1]; exact World.alloc_heap_new W _
  have hb1 : Below W.heap.size W w1 := by rw [← hw1]; exact galloc (Below.refl _ _) _
  have o1 : OsG n0 D W w1 := OsG.below hb1
  have hN := (hb1.block Bn (Array.getElem?_eq_some_iff.1 hB).1).trans hB
  have hv := visit_deep l W.heap.size D n0 (leavesT [] x) J Jx hn0 hDW hJ hY (countT x) x (Nat.le_refl _) [] (by simpa using hc) [] w1 (cellsN x p c) (hx.vi o1.vi) ⟨_, hB1, World.ownsRow_nil _ _ _ _⟩ (hJ _ _ _ h0 o1.st) (by simp) (by have := hb1.size; omega) (n - 1)
  obtain ⟨c0, c1, c2, c3⟩ := box4 hN
  dsimp only [cellsN] at hv
  generalize (x.kind : Int) = xk at *
  generalize (x.tok.1 : Int) = xt at *
  generalize (⟨x.tok.2.toArray⟩ : ByteArray) = xs' at *
  generalize x.kids.length = xl at *
  have HV : CallsIn Fence.wide (n - 1) Tryz.prog 56 #[.pointer (some ⟨W.heap.size, 0, none⟩), .agg #[.int .u8 xk, .int .u8 xt, .string xs', .slice p xl c]] w1 (VisitEnd J Jx n0 D l W.heap.size (leavesT [] x) [] x [] w1) := hv
  clear hv hB1 hb1 o1 hN hx hB hY hJ h0
  refine callsIn_of_wp Tryz.func55 rfl trivial ?_ rfl
  simp only [Tryz.ntmps55, List.size_toArray, List.length_cons, List.length_nil, Nat.reduceAdd, Nat.reduceSub, Array.replicate_succ, Array.replicate_zero, List.push_toArray, List.append_toArray, List.nil_append, List.cons_append]
  gi_wp2_with fail
  refine ⟨trivial, hdd _, ?_⟩
  refine HV.mono ?_
  rintro e w2 (⟨rfl, hJ2, _, _⟩ | ⟨rfl, q, hq, hx2⟩)
  · have HE : Hid (J (leavesT [] x) w2) := Lib.hid (by simpa using hJ2)
    clear hJ2
    gi_wp2
    go_end0
    exact ⟨⟨_, rfl⟩, .inl HE.out⟩
  · have HE : Hid (q <+: leavesT [] x ∧ Jx q w2) := Lib.hid ⟨hq, hx2⟩
    clear hq hx2
    gi_wp2
    go_end0
    exact ⟨⟨_, rfl⟩, .inr ⟨q, HE.out⟩⟩
set_option maxRecDepth 100000 in
set_option maxHeartbeats 4000000 in
theorem leaves_any (x : T) (p : Option Addr) (c : Nat) (w : World) : Calls Tryz.prog 38 #[aggN x p c] w fun e w' => e = .returned (.func (.func 55) #[] #[.pointer (some ⟨w.heap.size, 0, none⟩)]) ∧ w' = w.alloc (.cells #[.int .u8 x.kind, .int .u8 x.tok.1, .string ⟨x.tok.2.toArray⟩, .slice p x.kids.length c] 27) := by
  have hmf : ∀ (fn : Fn) (first cap : Array Value) (w : World), (Instr.makeFunc fn first cap).run Tryz.prog w = .ok (.func fn first cap) w := fun _ _ _ _ => rfl
  dsimp only [aggN]
  generalize (x.kind : Int) = xk at *
  generalize (x.tok.1 : Int) = xt at *
  generalize (⟨x.tok.2.toArray⟩ : ByteArray) = xs' at *
  generalize x.kids.length = xl at *
  go_enter Tryz.func38, Tryz.ntmps38
  go_wp2
  go_ret
  exact ⟨rfl, rfl⟩

/-! ### the callers -/
/-- What keeps what a caller says of its own. -/
abbrev KeI (D : Nat) := StepG fun (A : World) (k : Nat) => k < D ∨ ∃ cs t fz, A.heap[k]? = some (Obj.cells cs t fz) ∧ t ≠ 3 ∧ t ≠ 88 ∧ t ≠ 27
theorem KeI.of_st {D : Nat} {A B : World} (h : StG D A B) : KeI D A B := h.mono fun k hk => hk.imp id fun ⟨cs, t, fz, h1, h2, h3, h4⟩ ⟨cs2, t2, fz2, h5, h6⟩ => by
  rw [h1] at h5; cases h5; rcases h6 with h6 | h6 | h6 <;> contradiction
theorem KeI.of_own {D : Nat} {A B : World} {row : Option Nat} (hg : A.grownBy B row) (hr : ∀ r, row = some r → D ≤ r ∧ ∃ o : Obj, A.heap[r]? = some o ∧ o.isCells = false) : KeI D A B :=
  ⟨hg.os, hg.tape, hg.output, hg.size, fun k hk hp => hg.block k hk fun e => by
    obtain ⟨h1, o, h2, h3⟩ := hr k e.symm
    rcases hp with hp | ⟨cs, t, fz, hp, _⟩
    · omega
    · rw [h2] at hp; cases hp; cases h3⟩
theorem KpG.of_own {n0 D : Nat} {A B : World} {row : Option Nat} (hn : n0 ≤ D) (hg : A.grownBy B row) (hr : ∀ r, row = some r → D ≤ r ∧ ∃ o : Obj, A.heap[r]? = some o ∧ o.isCells = false) : KpG n0 D A B :=
  ⟨hg.os, hg.tape, hg.output, hg.size, fun k hk hp => hg.block k hk fun e => by
    obtain ⟨h1, o, h2, h3⟩ := hr k e.symm
    rcases hp with hp | ⟨_, cs, t, fz, hp, _⟩
    · omega
    · rw [h2] at hp; cases hp; cases h3⟩
theorem StG.keeps {D : Nat} {A B : World} (h : StG D A B) : KeepsFrom D A B := ⟨h.size, fun k o _ hk ho => (h.keep k (Array.getElem?_eq_some_iff.1 hk).1 (.inr fun ⟨cs, t, fz, h1, _⟩ => by rw [hk] at h1; cases h1; cases ho)).trans hk⟩
theorem KpG.below {n0 D : Nat} {A B : World} (h : Below A.heap.size A B) : KpG n0 D A B := ⟨h.os, h.tape, h.output, h.size, fun k hk _ => h.block k hk⟩
theorem KeI.below {D : Nat} {A B : World} (h : Below A.heap.size A B) : KeI D A B := ⟨h.os, h.tape, h.output, h.size, fun k hk _ => h.block k hk⟩
theorem keeps_below {D : Nat} {A B : World} (h : Below A.heap.size A B) : KeepsFrom D A B := ⟨h.size, fun k _ _ hk _ => (h.block k (Array.getElem?_eq_some_iff.1 hk).1).trans hk⟩
theorem range_green {g : Operand} {ps : Array Tmp} {assign body : Code} {Q : Exit → Act → World → Prop} {a : Act} {w : World} {n Bn D n0 : Nat} {x : T} {p : Option Addr} {c : Nat} (hD : w.heap.size = D)
    (hg : a.eval g = .func (.func 55) #[] #[.pointer (some ⟨Bn, 0, none⟩)]) (hps : ps.size = 2) (hn0 : n0 ≤ D) (hcnt : countT x ≤ 1000000) (hB : w.heap[Bn]? = some (boxN x p c)) (hx : NAt (· < n0) w x (cellsN x p c))
    (I : List (List Nat × T) → World → Prop) (Ix : Code → List (List Nat × T) → World → Prop) (hI : ∀ s A B, I s A → KeI D A B → I s B) (hIx : ∀ c, OwnFrom D (Ix c)) (h0 : I [] w)
    (F : Nat → Value → T → Option Addr → Nat → Act)
    (hassign : ∀ (l m : Nat) (y : List Nat × T) (pv : Value) (py : Option Addr) (cy : Nat) (W : World) (K : Act → World → Prop), K (F W.heap.size pv y.2 py cy) (W.alloc (.cells #[.int .u8 y.2.kind, .int .u8 y.2.tok.1, .string ⟨y.2.tok.2.toArray⟩, .slice py y.2.kids.length cy] 27)) →
      assign.wpIn (Fence.wide.inRound l) m Tryz.prog (Exit.then K (fun _ _ _ => False)) { tmps := (ps.zip #[pv, aggN y.2 py cy]).foldl (fun t (p, v) => t.setIfInBounds p v) a.tmps, defers := [] } W)
    (hbody : ∀ (l m : Nat) (pre : List (List Nat × T)) (y : List Nat × T) (pv : Value) (py : Option Addr) (cy Bx : Nat) (W : World), D < l → l < W.heap.size → I pre W → (pre ++ [y]) <+: leavesT [] x → D ≤ Bx → W.heap[Bx]? = some (boxN y.2 py cy) →
      W.ownsRow D 3 1 pv y.1.length (ints y.1) → NAt (· < n0) W y.2 (cellsN y.2 py cy) → body.wpIn (Fence.wide.inRound l) m Tryz.prog (leftBy D (KpG n0 D) I Ix (pre ++ [y]) W) (F Bx pv y.2 py cy) W)
    (hdone : ∀ (E : Nat) (W : World), D ≤ E → I (leavesT [] x) W → W.heap[E]? = some (.deferred (some [])) → Q .normal { a with defers := { target := .collected E, args := #[] } :: a.defers } W)
    (hstop : ∀ (E : Nat) (c : Code) (pre : List (List Nat × T)) (W : World), D ≤ E → pre <+: leavesT [] x → Ix c pre W → W.heap[E]? = some (.deferred (some [])) → c.wpIn Fence.wide n Tryz.prog Q { a with defers := { target := .collected E, args := #[] } :: a.defers } W) :
    (Code.rangeFunc g ps assign body).wpIn Fence.wide n Tryz.prog Q a w := by
  subst hD
  refine range_own hg (enters_of Tryz.func55 (by kernel_rfl) rfl) (EncG n0 w.heap.size) (StG w.heap.size) (KpG n0 w.heap.size) (leavesT [] x) (fun y args W h => by obtain ⟨_, _, _, rfl, _⟩ := h; rw [hps]; rfl)
    (fun A B h => h.keeps) (fun A B C h k => h.trans k) (fun W l o o' hl h ho => KpG.of_own hn0 (grownBy_putObj' W l o') (fun r e => by cases e; exact ⟨hl, o, h, ho⟩))
    I Ix (fun s A B row h hg hr => hI s A B h (KeI.of_own hg hr)) hIx (fun s A B h k => hI s A B h (KeI.of_st k))
    (fun W1 hb hz => leaves1 w.heap.size n0 Bn x p c W1 hn0 hb.size hcnt ((hb.block Bn (Array.getElem?_eq_some_iff.1 hB).1).trans hB) (NAt.world ⟨hb.size, fun k hk _ => hb.block k hk⟩ _ _ hx))
    h0 (fun y args a' W => ∃ Bx pv py cy, a' = F Bx pv y.2 py cy ∧ w.heap.size ≤ Bx ∧ W.heap[Bx]? = some (boxN y.2 py cy) ∧ W.ownsRow w.heap.size 3 1 pv y.1.length (ints y.1) ∧ NAt (· < n0) W y.2 (cellsN y.2 py cy)) ?_ ?_ ?_ hdone hstop
  · rintro y args a' _ A B row ⟨Bx, pv, py, cy, h1, h2, h3, h4, h5⟩ hg hr
    have hk : ∀ (k : Nat) (cs : Array Value) (t : TypeId) (fz : Nat × Nat), A.heap[k]? = some (Obj.cells cs t fz) → B.heap[k]? = A.heap[k]? := fun k cs t fz h => hg.block k (Array.getElem?_eq_some_iff.1 h).1 fun e => by
      obtain ⟨_, o, h6, h7⟩ := hr k e.symm
      rw [h] at h6; cases h6; cases h7
    exact ⟨Bx, pv, py, cy, h1, h2, (hk _ _ _ _ h3).trans h3, row_keep h4 fun g cs _ hc => hk _ _ _ _ hc, h5.vi ((KpG.of_own (n0 := n0) hn0 hg hr).vi)⟩
  · rintro l m pre y args W K hl hl2 hi ⟨pv, py, cy, rfl, h1, h2⟩ hpre hK
    have hb : Below W.heap.size W (W.alloc (.cells #[.int .u8 y.2.kind, .int .u8 y.2.tok.1, .string ⟨y.2.tok.2.toArray⟩, .slice py y.2.kids.length cy] 27)) := galloc (Below.refl _ _) _
    exact hassign l m y pv py cy W K (hK _ _ (keeps_below hb) (KpG.below hb) (hI _ _ _ hi (KeI.below hb))
      ⟨W.heap.size, pv, py, cy, rfl, by omega, World.alloc_heap_new W _, owns_below h1 hb, h2.vi (OsG.below (D := w.heap.size) hb).vi⟩)
  · rintro l m pre y args a' W hl hl2 hi ⟨Bx, pv, py, cy, rfl, h2, h3, h4, h5⟩ hpre
    exact hbody l m pre y pv py cy Bx W hl hl2 hi hpre h2 h3 h4 h5
end Go.Proofs.YtingfomfibhnhaaGreatDoor
namespace Go.Proofs.YtingfomfibhnhaaGreatDoor
open Go.RowKit Go.Shelf
attribute [local go_sem] Oper.semAt_some

def IntEnd (k : Int) (w : World) (e : Ending) (w' : World) : Prop := e = .returned (.int .i64 k) ∧ Below w.heap.size w w'
def lenL (l : List (List Nat × T)) : Nat := (l.flatMap leafText).length
theorem lenL_snoc (l : List (List Nat × T)) (y : List Nat × T) : lenL (l ++ [y]) = lenL l + y.2.tok.2.length := by simp [lenL, leafText]
theorem lenL_all (x : T) (p : List Nat) : lenL (leavesT p x) = sizeT x := by unfold lenL sizeT; rw [leaves_text]
theorem lenL_pre {l m : List (List Nat × T)} (h : l <+: m) : lenL l ≤ lenL m := by
  obtain ⟨r, rfl⟩ := h
  simp [lenL]
theorem boxed_ke {D k : Nat} {A B : World} {t : TypeId} {v : Value} (h : Boxed A k t v) (hk : k < D) (hs : KeI D A B) : Boxed B k t v := (hs.keep k (Array.getElem?_eq_some_iff.1 h).1 (.inl hk)).trans h
theorem below_ke {n0 D : Nat} {W A B : World} (h : Below n0 W A) (hn : n0 ≤ D) (hA : n0 ≤ A.heap.size) (hs : KeI D A B) : Below n0 W B :=
  h.trans ⟨hs.os, hs.tape, hs.output, hs.size, fun k hk => hs.keep k (by omega) (.inl (by omega))⟩
theorem KpG.mid {n0 D b : Nat} {A B : World} (hg : A.grownBy B (some b)) (h1 : n0 ≤ b) (h2 : b < D) : KpG n0 D A B :=
  ⟨hg.os, hg.tape, hg.output, hg.size, fun k hk hp => hg.block k hk fun e => by cases e; omega⟩
set_option maxRecDepth 100000 in
set_option maxHeartbeats 4000000 in
theorem size_any (x : T) (p : Option Addr) (c : Nat) (W : World) (hx : NAt AnyB W x (cellsN x p c)) (hc : countT x ≤ 1000000) (hz : sizeT x ≤ 1000000000) : Calls Tryz.prog 36 #[aggN x p c] W (IntEnd (sizeT x) W) := by
  refine (callsIn_wide (n := 3)).1 ?_
  refine callsIn_of_wp_marks Tryz.func36 rfl trivial ?_ rfl
  simp only [Tryz.ntmps36, List.size_toArray, List.length_cons, List.length_nil, Nat.reduceAdd, Nat.reduceSub, Array.replicate_succ, Array.replicate_zero, List.push_toArray, List.append_toArray, List.nil_append, List.cons_append]
  gi_wp2_with (refine ⟨trivial, ?_⟩; gi_at_call 38; refine (callsIn_wide.2 (leaves_any x p c _)).mono ?_; rintro e w' ⟨rfl, rfl⟩)
  have hbx := World.alloc_heap_new ((W.alloc (.cells #[.int .u8 x.kind, .int .u8 x.tok.1, .string ⟨x.tok.2.toArray⟩, .slice p x.kids.length c] 27)).alloc (.cells #[.int .i64 0] 3)) (.cells #[.int .u8 x.kind, .int .u8 x.tok.1, .string ⟨x.tok.2.toArray⟩, .slice p x.kids.length c] 27)
  have hbi := World.alloc_heap_new (W.alloc (.cells #[.int .u8 x.kind, .int .u8 x.tok.1, .string ⟨x.tok.2.toArray⟩, .slice p x.kids.length c] 27)) (.cells #[.int .i64 0] 3)
  have hbw : Below W.heap.size W (((W.alloc (.cells #[.int .u8 x.kind, .int .u8 x.tok.1, .string ⟨x.tok.2.toArray⟩, .slice p x.kids.length c] 27)).alloc (.cells #[.int .i64 0] 3)).alloc (.cells #[.int .u8 x.kind, .int .u8 x.tok.1, .string ⟨x.tok.2.toArray⟩, .slice p x.kids.length c] 27)) := galloc (galloc (galloc (Below.refl _ _) _) _) _
  rw [World.size_alloc, World.size_alloc] at hbx
  rw [World.size_alloc] at hbi
  have hbi3 := (galloc (Below.refl _ ((W.alloc (.cells #[.int .u8 x.kind, .int .u8 x.tok.1, .string ⟨x.tok.2.toArray⟩, .slice p x.kids.length c] 27)).alloc (.cells #[.int .i64 0] 3))) (.cells #[.int .u8 x.kind, .int .u8 x.tok.1, .string ⟨x.tok.2.toArray⟩, .slice p x.kids.length c] 27)).block (W.heap.size + 1) (by simp)
  have hz3 : (((W.alloc (.cells #[.int .u8 x.kind, .int .u8 x.tok.1, .string ⟨x.tok.2.toArray⟩, .slice p x.kids.length c] 27)).alloc (.cells #[.int .i64 0] 3)).alloc (.cells #[.int .u8 x.kind, .int .u8 x.tok.1, .string ⟨x.tok.2.toArray⟩, .slice p x.kids.length c] 27)).heap.size = W.heap.size + 3 := by simp
  generalize (((W.alloc (.cells #[.int .u8 x.kind, .int .u8 x.tok.1, .string ⟨x.tok.2.toArray⟩, .slice p x.kids.length c] 27)).alloc (.cells #[.int .i64 0] 3)).alloc (.cells #[.int .u8 x.kind, .int .u8 x.tok.1, .string ⟨x.tok.2.toArray⟩, .slice p x.kids.length c] 27)) = w3 at *
  refine range_green (D := W.heap.size + 3) (n0 := W.heap.size) (x := x) (p := p) (c := c) hz3 rfl rfl (by omega) hc hbx (NAt.world ⟨hbw.size, fun k hk _ => hbw.block k hk⟩ _ _ (NAt.mono (fun k hk _ => hk) _ _ hx))
    (fun pre V => Boxed V (W.heap.size + 1) 3 (.int .i64 (lenL pre : Nat)) ∧ Below W.heap.size W V) (fun _ _ _ => False) (fun s A B h k => ⟨boxed_ke h.1 (by omega) k, below_ke h.2 (by omega) h.2.size k⟩) (fun _ _ _ _ _ h _ _ => h) ⟨hbi3.trans hbi, hbw⟩
    (fun Bx pv y py cy => { tmps := #[aggN x p c, .pointer (some ⟨W.heap.size, 0, none⟩), .int .i64 0, .pointer (some ⟨W.heap.size + 1, 0, none⟩), undef, .pointer (some ⟨Bx, 0, none⟩), aggN x p c, .func (.func 55) #[] #[.pointer (some ⟨W.heap.size + 1 + 1, 0, none⟩)], pv, aggN y py cy, undef, undef, undef, undef, undef, undef, undef], defers := [] }) ?assign ?body ?done ?stop
  case assign =>
    intro l m y pv py cy V K hK
    gi_wp2
    exact hK
  case body =>
    rintro l m pre y pv py cy Bx V hl hl2 ⟨hb, hBe⟩ hpre hBx hbox hrow hn
    have hle := lenL_pre hpre
    rw [lenL_snoc, lenL_all] at hle
    have HW : Hid (wrap64 ((lenL pre : Int) + (y.2.tok.2.length : Int)) = ((lenL (pre ++ [y]) : Nat) : Int)) := Lib.hid (by
      rw [lenL_snoc]
      have := IntWalk.wrap64_in ((lenL pre : Int) + (y.2.tok.2.length : Int)) (by omega)
      exact this.trans (Int.natCast_add _ _).symm)
    obtain ⟨d0, d1, d2, d3⟩ := box4 hbox
    have b1 := hb.cell
    have b2 := hb.frozen
    clear hle hbox hrow hn hpre
    gi_wp2
    exact ⟨(KeepsOthers.setCell _ _ _).from _, KpG.mid (grown_set V _ _ _) (by omega) (by omega), by rw [HW.out]; exact hb.set _, hBe.setCell (p := ⟨W.heap.size + 1, 0, none⟩) (by show W.heap.size ≤ W.heap.size + 1; omega) _⟩
  case done =>
    rintro E V hE ⟨hb, hBe⟩ hK
    have b1 := hb.cell
    gi_wp2
    refine ⟨by simp, .inl ⟨_, _, rfl, run_takeDeferred hK, ?_⟩⟩
    exact ⟨_, results_tmp rfl _ _ _, by rw [← lenL_all x []]; rfl, hBe.trans (belowK_b (w := W) (Nat.le_refl _) V E _ _ (by omega) hK rfl rfl)⟩
  case stop =>
    rintro E c' pre V _ _ h _
    exact h.elim
end Go.Proofs.YtingfomfibhnhaaGreatDoor
