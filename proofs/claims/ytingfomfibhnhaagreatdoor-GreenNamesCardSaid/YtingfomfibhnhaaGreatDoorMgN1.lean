/-
  GreenNames: what the slots of its rows hold; each kind of operation.
  GreenNames: its rows are made (written by gen_n2.py).
-/
import Derived.Test.YtingfomfibhnhaaGreatDoorMgRW
import Derived.Test.YtingfomfibhnhaaGreatDoorMgHSA
namespace Go.Proofs.YtingfomfibhnhaaGreatDoor
open Go Go.RowKit Go.Shelf

set_option maxRecDepth 100000 in
set_option maxHeartbeats 2000000 in
theorem doc_leaf (p : Option Addr) (n c : Nat) (w : World) : Calls Tryz.prog 9 #[.slice p n c] w fun e w' => e = .returned (.agg #[.int .u8 4, .int .u8 0, .string ⟨#[]⟩, .slice p n c]) ∧ Below w.heap.size w w' := by
  obtain ⟨w1, hw1⟩ : ∃ w1, w.alloc (.cells #[.int .u8 0, .int .u8 0, .string ⟨#[]⟩, .slice none 0 0] 27) = w1 := ⟨_, rfl⟩
  have n1 : w1.heap[w.heap.size]? = some (.cells #[.int .u8 0, .int .u8 0, .string ⟨#[]⟩, .slice none 0 0] 27 (0, 0)) := by rw [← hw1]; exact World.alloc_heap_new w _
  have b1 : Below w.heap.size w w1 := by rw [← hw1]; exact galloc (Below.refl _ _) _
  obtain ⟨c0, c1, c2, c3⟩ := box4 n1
  have cf : ∀ o, w1.frozen? ⟨w.heap.size, o, none⟩ = false := fun o => Lib.frozen_of_heap n1 o
  obtain ⟨V, hV⟩ : ∃ V', ((((w1.setCell ⟨w.heap.size, 0, none⟩ (.int .u8 4)).setCell ⟨w.heap.size, 1, none⟩ (.int .u8 0)).setCell ⟨w.heap.size, 2, none⟩ (.string ⟨#[]⟩)).setCell ⟨w.heap.size, 3, none⟩ (.slice p n c)) = V' := ⟨_, rfl⟩
  have hVR : V.heap[w.heap.size]? = some (.cells #[.int .u8 4, .int .u8 0, .string ⟨#[]⟩, .slice p n c] 27 (0, 0)) := by rw [← hV]; exact box_put n1 rfl
  have HVB := Lib.hid (show Below w.heap.size w V by rw [← hV]; exact put_below b1 (Nat.le_refl _) _ _ _ _)
  obtain ⟨v0, v1, v2, v3⟩ := box4 hVR
  clear n1 b1 hVR
  go_enter Tryz.func9, Tryz.ntmps9
  go_wp2
  exact bodyPost_ret (v := .agg #[.int .u8 4, .int .u8 0, .string ⟨#[]⟩, .slice p n c]) (by simp [results, Tryz.results9, go_sem, v0, v1, v2, v3]) rfl ⟨rfl, HVB.out⟩

/-- What a slot may hold. -/
inductive K where
  | fv | nd (x : T) | ns (l : List T) | ne (x : T) (e : Int) | tk (t : Tok) | rows (l : List (T × Int)) | num (i : Int)
def NeAt (w : World) (v : Value) (x : T) (e : Int) : Prop := ∃ p c, v = .agg #[.int .u8 x.kind, .int .u8 x.tok.1, .string ⟨x.tok.2.toArray⟩, .slice p x.kids.length c, .int .i64 e] ∧ NAt AnyB w x (cellsN x p c)
def Is : K → World → Value → Prop
  | .fv, _, v => v = .func (.func 9) #[] #[]
  | .nd x, w, v => ∃ p c, v = aggN x p c ∧ NAt AnyB w x (cellsN x p c)
  | .ns l, w, v => ∃ p c vs, v = .slice p l.length c ∧ SlIn AnyB w (.slice p l.length c) 4 l.length vs ∧ NsAt AnyB w l vs
  | .ne x e, w, v => NeAt w v x e
  | .tk t, _, v => v = .agg #[.int .u8 t.1, .string ⟨t.2.toArray⟩]
  | .rows l, w, v => ∃ g, v = .slice (some ⟨g, 0, none⟩) l.length l.length ∧ g < w.heap.size ∧ ∀ (i : Nat) x e, l[i]? = some (x, e) → ∃ p c, NAt AnyB w x (cellsN x p c) ∧ w.cell? ⟨g, i * 5, none⟩ = some (.int .u8 x.kind) ∧ w.cell? ⟨g, i * 5 + 1, none⟩ = some (.int .u8 x.tok.1) ∧ w.cell? ⟨g, i * 5 + 2, none⟩ = some (.string ⟨x.tok.2.toArray⟩) ∧ w.cell? ⟨g, i * 5 + 3, none⟩ = some (.slice p x.kids.length c) ∧ w.cell? ⟨g, i * 5 + 4, none⟩ = some (.int .i64 e)
  | .num i, _, v => v = .int .i64 i
theorem cell_below {w w' : World} {g o : Nat} {u : Value} (hb : Below w.heap.size w w') (hg : g < w.heap.size) (h : w.cell? ⟨g, o, none⟩ = some u) : w'.cell? ⟨g, o, none⟩ = some u := by
  rw [← h]; exact hb.cell (p := ⟨g, o, none⟩) hg
theorem Is.below {k : K} {w w' : World} {v : Value} (hb : Below w.heap.size w w') (h : Is k w v) : Is k w' v := by
  cases k with
  | fv => exact h
  | nd x => obtain ⟨p, c, h1, h2⟩ := h; exact ⟨p, c, h1, h2.below hb⟩
  | ns l => obtain ⟨p, c, vs, h1, h2, h3⟩ := h; exact ⟨p, c, vs, h1, h2.world ⟨hb.size, fun k hk _ => hb.block k hk⟩, NsAt.world ⟨hb.size, fun k hk _ => hb.block k hk⟩ _ _ h3⟩
  | ne x e => obtain ⟨p, c, h1, h2⟩ := h; exact ⟨p, c, h1, h2.below hb⟩
  | tk t => exact h
  | rows l =>
    obtain ⟨g, h1, h2, h3⟩ := h
    refine ⟨g, h1, Nat.lt_of_lt_of_le h2 hb.size, fun i x e hi => ?_⟩
    obtain ⟨p, c, k0, k1, k2, k3, k4, k5⟩ := h3 i x e hi
    exact ⟨p, c, k0.below hb, cell_below hb h2 k1, cell_below hb h2 k2, cell_below hb h2 k3, cell_below hb h2 k4, cell_below hb h2 k5⟩
  | num i => exact h
abbrev Gv (k : K) (w : World) (v : Value) (w' : World) : Prop := Is k w' v ∧ Below w.heap.size w w'
section
variable {ρ : Operand → Value} {w : World} {dst : Option Tmp} {type : TypeId} {pos : String} {after : Array Edge}
set_option maxRecDepth 100000 in
set_option maxHeartbeats 2000000 in
theorem op_move {k : K} {x : Operand} (h : Is k w (ρ x)) : OpGives Tryz.prog { dst, op := .move x, type, pos, after, guard := none } ρ w (Gv k w) := by
  intro a next Q ha hn
  have HN := Lib.hid (hn _ _ ⟨h, Below.refl _ _⟩)
  clear hn
  unfold Oper.wp
  rw [ha]
  go_simp
  exact HN.out
set_option maxRecDepth 100000 in
set_option maxHeartbeats 2000000 in
theorem op_leaf {k : Nat} {s : List UInt8} {l : List T} {x : Operand} (hc : ∀ v, ρ (.const v) = v) (hf : ∀ f, ρ (.func f) = .func (.func f) #[] #[]) (h : Is (.ns l) w (ρ x)) :
    OpGives Tryz.prog { dst, op := .call { callee := .value (.func 10), args := #[.const (.int .u8 k), .const (.string ⟨s.toArray⟩), x], argTypes := #[5, 9, 23] }, type := 27, pos, after, guard := none } ρ w (Gv (.nd (.mk 1 (k, s) l)) w) := by
  intro a next Q ha hn
  obtain ⟨p, c, vs, h1, h2, h3⟩ := h
  have HN := Lib.hid hn
  clear hn
  unfold Oper.wp
  rw [ha]
  go_simp
  go_at_call 10
  with_reducible (refine Calls.mono (leaf_any k ⟨s.toArray⟩ p l.length c w) ?_)
  rintro e w' ⟨rfl, hb⟩
  exact HN.out _ _ ⟨⟨p, c, rfl, NAt.make (t := (k, s)) (h2.world ⟨hb.size, fun k hk _ => hb.block k hk⟩) (NsAt.world ⟨hb.size, fun k hk _ => hb.block k hk⟩ _ _ h3)⟩, hb⟩
set_option maxRecDepth 100000 in
set_option maxHeartbeats 2000000 in
theorem op_blank {s : List UInt8} (hc : ∀ v, ρ (.const v) = v) (hf : ∀ f, ρ (.func f) = .func (.func f) #[] #[]) :
    OpGives Tryz.prog { dst, op := .call { callee := .value (.func 11), args := #[.const (.string ⟨s.toArray⟩)], argTypes := #[9] }, type := 27, pos, after, guard := none } ρ w (Gv (.nd (.mk 1 (1, s) [])) w) := by
  intro a next Q ha hn
  have HN := Lib.hid hn
  clear hn
  unfold Oper.wp
  rw [ha]
  go_simp
  go_at_call 11
  with_reducible (refine Calls.mono (blank_leaf ⟨s.toArray⟩ w) ?_)
  rintro e w' ⟨rfl, hb⟩
  exact HN.out _ _ ⟨⟨none, 0, rfl, nat_leaf _ _ 1 (1, s)⟩, hb⟩
set_option maxRecDepth 100000 in
set_option maxHeartbeats 2000000 in
theorem op_doc {l : List T} {f x : Operand} (h0 : Is .fv w (ρ f)) (h : Is (.ns l) w (ρ x)) :
    OpGives Tryz.prog { dst, op := .call { callee := .value f, args := #[x], argTypes := #[23] }, type := 27, pos, after, guard := none } ρ w (Gv (.nd (.mk 4 (0, []) l)) w) := by
  intro a next Q ha hn
  obtain ⟨p, c, vs, h1, h2, h3⟩ := h
  have h0 : ρ f = .func (.func 9) #[] #[] := h0
  have HN := Lib.hid hn
  clear hn
  unfold Oper.wp
  rw [ha]
  go_simp
  go_at_call 9
  with_reducible (refine Calls.mono (doc_leaf p l.length c w) ?_)
  rintro e w' ⟨rfl, hb⟩
  exact HN.out _ _ ⟨⟨p, c, rfl, NAt.make (t := (0, [])) (h2.world ⟨hb.size, fun k hk _ => hb.block k hk⟩) (NsAt.world ⟨hb.size, fun k hk _ => hb.block k hk⟩ _ _ h3)⟩, hb⟩
theorem ns_one {w : World} {a : T} {p : Option Addr} {c : Nat} (h : NAt AnyB w a (cellsN a p c)) : NsAt AnyB w [a] (cellsN a p c) := nat_cons h (nat_nil _ _)
set_option maxRecDepth 100000 in
set_option maxHeartbeats 2000000 in
theorem op_ns1 {a : T} {x : Operand} (h : Is (.nd a) w (ρ x)) :
    OpGives Tryz.prog { dst, op := .buildSlice 23 1 #[(0, x)], type := 23, pos, after, guard := none } ρ w (Gv (.ns [a]) w) := by
  intro A next Q ha hn
  obtain ⟨p, c, h1, h2⟩ := h
  have b1 := galloc (Below.refl w.heap.size w) (.cells (cellsN a p c).toArray 27)
  have HN := Lib.hid (hn _ _ ⟨⟨some ⟨w.heap.size, 0, none⟩, 1, _, rfl, sl_block (World.alloc_heap_new w _) trivial 1 4 rfl, ns_one (h2.below b1)⟩, b1⟩)
  clear hn b1
  unfold Oper.wp
  rw [ha]
  go_simp
  exact HN.out
set_option maxRecDepth 100000 in
set_option maxHeartbeats 2000000 in
theorem op_ns2 {a b : T} {x y : Operand} (h : Is (.nd a) w (ρ x)) (h' : Is (.nd b) w (ρ y)) :
    OpGives Tryz.prog { dst, op := .buildSlice 23 2 #[(0, x), (1, y)], type := 23, pos, after, guard := none } ρ w (Gv (.ns [a, b]) w) := by
  intro A next Q ha hn
  obtain ⟨p, c, h1, h2⟩ := h
  obtain ⟨p', c', h1', h2'⟩ := h'
  have b1 := galloc (Below.refl w.heap.size w) (.cells (cellsN a p c ++ cellsN b p' c').toArray 27)
  have HN := Lib.hid (hn _ _ ⟨⟨some ⟨w.heap.size, 0, none⟩, 2, _, rfl, sl_block (World.alloc_heap_new w _) trivial 2 4 rfl, nat_cons (h2.below b1) (ns_one (h2'.below b1))⟩, b1⟩)
  clear hn b1
  unfold Oper.wp
  rw [ha]
  go_simp
  exact HN.out
set_option maxRecDepth 100000 in
set_option maxHeartbeats 2000000 in
theorem op_ns3 {a b d : T} {x y z : Operand} (h : Is (.nd a) w (ρ x)) (h' : Is (.nd b) w (ρ y)) (h'' : Is (.nd d) w (ρ z)) :
    OpGives Tryz.prog { dst, op := .buildSlice 23 3 #[(0, x), (1, y), (2, z)], type := 23, pos, after, guard := none } ρ w (Gv (.ns [a, b, d]) w) := by
  intro A next Q ha hn
  obtain ⟨p, c, h1, h2⟩ := h
  obtain ⟨p', c', h1', h2'⟩ := h'
  obtain ⟨p'', c'', h1'', h2''⟩ := h''
  have b1 := galloc (Below.refl w.heap.size w) (.cells (cellsN a p c ++ (cellsN b p' c' ++ cellsN d p'' c'')).toArray 27)
  have HN := Lib.hid (hn _ _ ⟨⟨some ⟨w.heap.size, 0, none⟩, 3, _, rfl, sl_block (World.alloc_heap_new w _) trivial 3 4 rfl, nat_cons (h2.below b1) (nat_cons (h2'.below b1) (ns_one (h2''.below b1)))⟩, b1⟩)
  clear hn b1
  unfold Oper.wp
  rw [ha]
  go_simp
  exact HN.out
set_option maxRecDepth 100000 in
set_option maxHeartbeats 2000000 in
theorem op_ne {a : T} {e : Int} {x : Operand} (hc : ∀ v, ρ (.const v) = v) (h : Is (.nd a) w (ρ x)) :
    OpGives Tryz.prog { dst, op := .build 31 #[(0, x), (1, .const (.int .i64 e))], type := 31, pos, after, guard := none } ρ w (Gv (.ne a e) w) := by
  intro A next Q ha hn
  obtain ⟨p, c, h1, h2⟩ := h
  have HN := Lib.hid (hn _ _ ⟨⟨p, c, rfl, h2⟩, Below.refl _ _⟩)
  clear hn
  unfold Oper.wp
  rw [ha]
  go_simp
  exact HN.out
/-- The box of x. -/
def BoxAt (w : World) (g : Nat) (x : T) : Prop := ∃ p c, w.heap[g]? = some (.cells #[.int .u8 x.kind, .int .u8 x.tok.1, .string ⟨x.tok.2.toArray⟩, .slice p x.kids.length c] 27 (0, 0)) ∧ NAt AnyB w x (cellsN x p c)
set_option maxRecDepth 100000 in
set_option maxHeartbeats 2000000 in
theorem op_load {g : Nat} {a : T} {x : Operand} (h0 : ρ x = .pointer (some ⟨g, 0, none⟩)) (h : BoxAt w g a) :
    OpGives Tryz.prog { dst, op := .load 27 x, type := 27, pos, after, guard := none } ρ w (Gv (.nd a) w) := by
  intro A next Q ha hn
  obtain ⟨p, c, h1, h2⟩ := h
  have HN := Lib.hid (hn _ _ ⟨⟨p, c, rfl, h2⟩, Below.refl _ _⟩)
  obtain ⟨c0, c1, c2, c3⟩ := box4 h1
  clear hn h1
  unfold Oper.wp
  rw [ha]
  go_simp
  exact HN.out
theorem nat_row {w : World} (k : Nat) (t : Tok) {p : Option Addr} {c : Nat} {l : List T} {vs : List Value} (h2 : SlIn AnyB w (.slice p l.length c) 4 l.length vs) (h3 : NsAt AnyB w l vs) : Is (.nd (.mk k t l)) w (.agg #[.int .u8 k, .int .u8 t.1, .string ⟨t.2.toArray⟩, .slice p l.length c]) := ⟨p, c, rfl, NAt.make h2 h3⟩
set_option maxRecDepth 100000 in
set_option maxHeartbeats 2000000 in
theorem op_kids {k : Nat} {l : List T} {x : Operand} (hc : ∀ v, ρ (.const v) = v) (h : Is (.ns l) w (ρ x)) :
    OpGives Tryz.prog { dst, op := .build 27 #[(0, .const (.int .u8 k)), (2, x)], type := 27, pos, after, guard := none } ρ w (Gv (.nd (.mk k (0, []) l)) w) := by
  intro A next Q ha hn
  obtain ⟨p, c, vs, h1, h2, h3⟩ := h
  have HN := Lib.hid (hn _ _ ⟨nat_row k (0, []) h2 h3, Below.refl _ _⟩)
  clear hn
  unfold Oper.wp
  rw [ha]
  go_simp
  exact HN.out
set_option maxRecDepth 100000 in
set_option maxHeartbeats 2000000 in
theorem op_tok {k : Nat} {t : Tok} {x : Operand} (hc : ∀ v, ρ (.const v) = v) (h : Is (.tk t) w (ρ x)) :
    OpGives Tryz.prog { dst, op := .build 27 #[(0, .const (.int .u8 k)), (1, x)], type := 27, pos, after, guard := none } ρ w (Gv (.nd (.mk k t [])) w) := by
  intro A next Q ha hn
  have h : ρ x = .agg #[.int .u8 t.1, .string ⟨t.2.toArray⟩] := h
  have HN := Lib.hid (hn _ _ ⟨⟨none, 0, rfl, nat_leaf _ _ k t⟩, Below.refl _ _⟩)
  clear hn
  unfold Oper.wp
  rw [ha]
  go_simp
  exact HN.out
set_option maxRecDepth 100000 in
set_option maxHeartbeats 2000000 in
theorem op_kind {k : Nat} (hc : ∀ v, ρ (.const v) = v) :
    OpGives Tryz.prog { dst, op := .build 27 #[(0, .const (.int .u8 k))], type := 27, pos, after, guard := none } ρ w (Gv (.nd (.mk k (0, []) [])) w) := by
  intro A next Q ha hn
  have HN := Lib.hid (hn _ _ ⟨⟨none, 0, rfl, nat_leaf _ _ k (0, [])⟩, Below.refl _ _⟩)
  clear hn
  unfold Oper.wp
  rw [ha]
  go_simp
  exact HN.out
set_option maxRecDepth 100000 in
set_option maxHeartbeats 2000000 in
theorem op_none : OpGives Tryz.prog { dst, op := .build 27 #[], type := 27, pos, after, guard := none } ρ w (Gv (.nd (.mk 0 (0, []) [])) w) := by
  intro A next Q ha hn
  have HN := Lib.hid (hn _ _ ⟨⟨none, 0, rfl, nat_leaf _ _ 0 (0, [])⟩, Below.refl _ _⟩)
  clear hn
  unfold Oper.wp
  rw [ha]
  go_simp
  exact HN.out
set_option maxRecDepth 100000 in
set_option maxHeartbeats 2000000 in
theorem op_tk0 {k : Nat} (hc : ∀ v, ρ (.const v) = v) : OpGives Tryz.prog { dst, op := .build 25 #[(0, .const (.int .u8 k))], type := 25, pos, after, guard := none } ρ w (Gv (.tk (k, [])) w) := by
  intro A next Q ha hn
  have HN := Lib.hid (hn _ _ ⟨rfl, Below.refl _ _⟩)
  clear hn
  unfold Oper.wp
  rw [ha]
  go_simp
  exact HN.out
set_option maxRecDepth 100000 in
set_option maxHeartbeats 2000000 in
theorem op_tk1 {s : List UInt8} (hc : ∀ v, ρ (.const v) = v) : OpGives Tryz.prog { dst, op := .build 25 #[(1, .const (.string ⟨s.toArray⟩))], type := 25, pos, after, guard := none } ρ w (Gv (.tk (0, s)) w) := by
  intro A next Q ha hn
  have HN := Lib.hid (hn _ _ ⟨rfl, Below.refl _ _⟩)
  clear hn
  unfold Oper.wp
  rw [ha]
  go_simp
  exact HN.out
set_option maxRecDepth 100000 in
set_option maxHeartbeats 2000000 in
theorem op_len {l : List (T × Int)} {x : Operand} (h : Is (.rows l) w (ρ x)) : OpGives Tryz.prog { dst, op := .call { callee := .builtin .len, args := #[x], argTypes := #[33] }, type := 3, pos, after, guard := none } ρ w (Gv (.num l.length) w) := by
  intro A next Q ha hn
  obtain ⟨g, h1, h2, h3⟩ := h
  have HN := Lib.hid (hn _ _ ⟨rfl, Below.refl _ _⟩)
  clear hn h3
  unfold Oper.wp
  rw [ha]
  go_simp
  exact HN.out
end
end Go.Proofs.YtingfomfibhnhaaGreatDoor
namespace Go.Proofs.YtingfomfibhnhaaGreatDoor
open Go Go.RowKit Go.Shelf

def namesOps : Array Oper := ([{ dst := some 41, op := Op.move (Operand.tmp 1), type := 28, pos := "outright.go:42", after := #[], guard := none }, { dst := some 42, op := Op.call { callee := Callee.value (Operand.tmp 41), args := #[Operand.const (Value.slice none 0 0)], argTypes := #[23] }, type := 27, pos := "outright.go:45", after := #[{ on := 0, ground := Ground.data }], guard := none }, { dst := some 43, op := Op.build 31 #[(0, Operand.tmp 42), (1, Operand.const (Value.int IntKind.i64 0))], type := 31, pos := "outright.go:42", after := #[{ on := 1, ground := Ground.data }], guard := none }, { dst := some 44, op := Op.move (Operand.tmp 1), type := 28, pos := "outright.go:42", after := #[], guard := none }, { dst := some 45, op := Op.call { callee := Callee.value (Operand.func 10), args := #[Operand.const (Value.int IntKind.u8 3), Operand.const (Value.string { data := #[108, 101, 116] }), Operand.const (Value.slice none 0 0)], argTypes := #[5, 9, 23] }, type := 27, pos := "outright.go:45", after := #[{ on := 1, ground := Ground.chain }], guard := none }, { dst := some 46, op := Op.load 27 (Operand.tmp 2), type := 27, pos := "outright.go:42", after := #[], guard := none }, { dst := some 47, op := Op.buildSlice 23 2 #[(0, Operand.tmp 45), (1, Operand.tmp 46)], type := 23, pos := "outright.go:42", after := #[{ on := 4, ground := Ground.data }, { on := 5, ground := Ground.data }], guard := none }, { dst := some 48, op := Op.call { callee := Callee.value (Operand.tmp 44), args := #[Operand.tmp 47], argTypes := #[23] }, type := 27, pos := "outright.go:45", after := #[{ on := 3, ground := Ground.data }, { on := 6, ground := Ground.data }, { on := 4, ground := Ground.chain }], guard := none }, { dst := some 49, op := Op.build 31 #[(0, Operand.tmp 48), (1, Operand.const (Value.int IntKind.i64 4))], type := 31, pos := "outright.go:42", after := #[{ on := 7, ground := Ground.data }], guard := none }, { dst := some 50, op := Op.move (Operand.tmp 1), type := 28, pos := "outright.go:42", after := #[], guard := none }, { dst := some 51, op := Op.load 27 (Operand.tmp 2), type := 27, pos := "outright.go:42", after := #[], guard := none }, { dst := some 52, op := Op.move (Operand.tmp 1), type := 28, pos := "outright.go:42", after := #[], guard := none }, { dst := some 53, op := Op.load 27 (Operand.tmp 2), type := 27, pos := "outright.go:42", after := #[], guard := none }, { dst := some 54, op := Op.buildSlice 23 1 #[(0, Operand.tmp 53)], type := 23, pos := "outright.go:42", after := #[{ on := 12, ground := Ground.data }], guard := none }, { dst := some 55, op := Op.call { callee := Callee.value (Operand.tmp 52), args := #[Operand.tmp 54], argTypes := #[23] }, type := 27, pos := "outright.go:45", after := #[{ on := 11, ground := Ground.data }, { on := 13, ground := Ground.data }, { on := 7, ground := Ground.chain }], guard := none }, { dst := some 56, op := Op.buildSlice 23 2 #[(0, Operand.tmp 51), (1, Operand.tmp 55)], type := 23, pos := "outright.go:42", after := #[{ on := 10, ground := Ground.data }, { on := 14, ground := Ground.data }], guard := none }, { dst := some 57, op := Op.call { callee := Callee.value (Operand.tmp 50), args := #[Operand.tmp 56], argTypes := #[23] }, type := 27, pos := "outright.go:45", after := #[{ on := 9, ground := Ground.data }, { on := 15, ground := Ground.data }, { on := 14, ground := Ground.chain }], guard := none }, { dst := some 58, op := Op.build 31 #[(0, Operand.tmp 57), (1, Operand.const (Value.int IntKind.i64 4))], type := 31, pos := "outright.go:42", after := #[{ on := 16, ground := Ground.data }], guard := none }, { dst := some 59, op := Op.move (Operand.tmp 1), type := 28, pos := "outright.go:42", after := #[], guard := none }, { dst := some 60, op := Op.call { callee := Callee.value (Operand.func 10), args := #[Operand.const (Value.int IntKind.u8 3), Operand.const (Value.string { data := #[120] }), Operand.const (Value.slice none 0 0)], argTypes := #[5, 9, 23] }, type := 27, pos := "outright.go:45", after := #[{ on := 16, ground := Ground.chain }], guard := none }, { dst := some 61, op := Op.buildSlice 23 1 #[(0, Operand.tmp 60)], type := 23, pos := "outright.go:42", after := #[{ on := 19, ground := Ground.data }], guard := none }, { dst := some 62, op := Op.call { callee := Callee.value (Operand.tmp 59), args := #[Operand.tmp 61], argTypes := #[23] }, type := 27, pos := "outright.go:45", after := #[{ on := 18, ground := Ground.data }, { on := 20, ground := Ground.data }, { on := 19, ground := Ground.chain }], guard := none }, { dst := some 63, op := Op.build 31 #[(0, Operand.tmp 62), (1, Operand.const (Value.int IntKind.i64 4))], type := 31, pos := "outright.go:42", after := #[{ on := 21, ground := Ground.data }], guard := none }, { dst := some 64, op := Op.move (Operand.tmp 1), type := 28, pos := "outright.go:42", after := #[], guard := none }, { dst := some 65, op := Op.call { callee := Callee.value (Operand.func 10), args := #[Operand.const (Value.int IntKind.u8 4), Operand.const (Value.string { data := #[120, 32] }), Operand.const (Value.slice none 0 0)], argTypes := #[5, 9, 23] }, type := 27, pos := "outright.go:45", after := #[{ on := 21, ground := Ground.chain }], guard := none }, { dst := some 66, op := Op.buildSlice 23 1 #[(0, Operand.tmp 65)], type := 23, pos := "outright.go:42", after := #[{ on := 24, ground := Ground.data }], guard := none }, { dst := some 67, op := Op.call { callee := Callee.value (Operand.tmp 64), args := #[Operand.tmp 66], argTypes := #[23] }, type := 27, pos := "outright.go:45", after := #[{ on := 23, ground := Ground.data }, { on := 25, ground := Ground.data }, { on := 24, ground := Ground.chain }], guard := none }, { dst := some 68, op := Op.build 31 #[(0, Operand.tmp 67), (1, Operand.const (Value.int IntKind.i64 4))], type := 31, pos := "outright.go:42", after := #[{ on := 26, ground := Ground.data }], guard := none }, { dst := some 69, op := Op.move (Operand.tmp 1), type := 28, pos := "outright.go:42", after := #[], guard := none }, { dst := some 70, op := Op.call { callee := Callee.value (Operand.func 11), args := #[Operand.const (Value.string { data := #[32] })], argTypes := #[9] }, type := 27, pos := "outright.go:45", after := #[{ on := 26, ground := Ground.chain }], guard := none }, { dst := some 71, op := Op.buildSlice 23 1 #[(0, Operand.tmp 70)], type := 23, pos := "outright.go:42", after := #[{ on := 29, ground := Ground.data }], guard := none }, { dst := some 72, op := Op.call { callee := Callee.value (Operand.tmp 69), args := #[Operand.tmp 71], argTypes := #[23] }, type := 27, pos := "outright.go:45", after := #[{ on := 28, ground := Ground.data }, { on := 30, ground := Ground.data }, { on := 29, ground := Ground.chain }], guard := none }, { dst := some 73, op := Op.build 31 #[(0, Operand.tmp 72), (1, Operand.const (Value.int IntKind.i64 4))], type := 31, pos := "outright.go:42", after := #[{ on := 31, ground := Ground.data }], guard := none }, { dst := some 74, op := Op.move (Operand.tmp 1), type := 28, pos := "outright.go:42", after := #[], guard := none }, { dst := some 75, op := Op.call { callee := Callee.value (Operand.func 11), args := #[Operand.const (Value.string { data := #[32] })], argTypes := #[9] }, type := 27, pos := "outright.go:45", after := #[{ on := 31, ground := Ground.chain }], guard := none }, { dst := some 76, op := Op.call { callee := Callee.value (Operand.func 11), args := #[Operand.const (Value.string { data := #[32] })], argTypes := #[9] }, type := 27, pos := "outright.go:45", after := #[{ on := 34, ground := Ground.chain }], guard := none }, { dst := some 77, op := Op.buildSlice 23 2 #[(0, Operand.tmp 75), (1, Operand.tmp 76)], type := 23, pos := "outright.go:42", after := #[{ on := 34, ground := Ground.data }, { on := 35, ground := Ground.data }], guard := none }, { dst := some 78, op := Op.call { callee := Callee.value (Operand.func 10), args := #[Operand.const (Value.int IntKind.u8 0), Operand.const (Value.string { data := #[] }), Operand.tmp 77], argTypes := #[5, 9, 23] }, type := 27, pos := "outright.go:45", after := #[{ on := 36, ground := Ground.data }, { on := 35, ground := Ground.chain }], guard := none }, { dst := some 79, op := Op.buildSlice 23 1 #[(0, Operand.tmp 78)], type := 23, pos := "outright.go:42", after := #[{ on := 37, ground := Ground.data }], guard := none }, { dst := some 80, op := Op.call { callee := Callee.value (Operand.tmp 74), args := #[Operand.tmp 79], argTypes := #[23] }, type := 27, pos := "outright.go:45", after := #[{ on := 33, ground := Ground.data }, { on := 38, ground := Ground.data }, { on := 37, ground := Ground.chain }], guard := none }, { dst := some 81, op := Op.build 31 #[(0, Operand.tmp 80), (1, Operand.const (Value.int IntKind.i64 4))], type := 31, pos := "outright.go:42", after := #[{ on := 39, ground := Ground.data }], guard := none }, { dst := some 82, op := Op.move (Operand.tmp 1), type := 28, pos := "outright.go:42", after := #[], guard := none }, { dst := some 83, op := Op.call { callee := Callee.value (Operand.func 11), args := #[Operand.const (Value.string { data := #[32] })], argTypes := #[9] }, type := 27, pos := "outright.go:45", after := #[{ on := 39, ground := Ground.chain }], guard := none }, { dst := some 84, op := Op.call { callee := Callee.value (Operand.func 10), args := #[Operand.const (Value.int IntKind.u8 2), Operand.const (Value.string { data := #[40, 42, 42, 41] }), Operand.const (Value.slice none 0 0)], argTypes := #[5, 9, 23] }, type := 27, pos := "outright.go:45", after := #[{ on := 42, ground := Ground.chain }], guard := none }, { dst := some 85, op := Op.call { callee := Callee.value (Operand.func 11), args := #[Operand.const (Value.string { data := #[10] })], argTypes := #[9] }, type := 27, pos := "outright.go:45", after := #[{ on := 43, ground := Ground.chain }], guard := none }, { dst := some 86, op := Op.buildSlice 23 3 #[(0, Operand.tmp 83), (1, Operand.tmp 84), (2, Operand.tmp 85)], type := 23, pos := "outright.go:42", after := #[{ on := 42, ground := Ground.data }, { on := 43, ground := Ground.data }, { on := 44, ground := Ground.data }], guard := none }, { dst := some 87, op := Op.call { callee := Callee.value (Operand.func 10), args := #[Operand.const (Value.int IntKind.u8 0), Operand.const (Value.string { data := #[] }), Operand.tmp 86], argTypes := #[5, 9, 23] }, type := 27, pos := "outright.go:45", after := #[{ on := 45, ground := Ground.data }, { on := 44, ground := Ground.chain }], guard := none }, { dst := some 88, op := Op.buildSlice 23 1 #[(0, Operand.tmp 87)], type := 23, pos := "outright.go:42", after := #[{ on := 46, ground := Ground.data }], guard := none }, { dst := some 89, op := Op.call { callee := Callee.value (Operand.tmp 82), args := #[Operand.tmp 88], argTypes := #[23] }, type := 27, pos := "outright.go:45", after := #[{ on := 41, ground := Ground.data }, { on := 47, ground := Ground.data }, { on := 46, ground := Ground.chain }], guard := none }, { dst := some 90, op := Op.build 31 #[(0, Operand.tmp 89), (1, Operand.const (Value.int IntKind.i64 0))], type := 31, pos := "outright.go:42", after := #[{ on := 48, ground := Ground.data }], guard := none }, { dst := some 91, op := Op.move (Operand.tmp 1), type := 28, pos := "outright.go:42", after := #[], guard := none }, { dst := some 92, op := Op.call { callee := Callee.value (Operand.func 10), args := #[Operand.const (Value.int IntKind.u8 0), Operand.const (Value.string { data := #[120] }), Operand.const (Value.slice none 0 0)], argTypes := #[5, 9, 23] }, type := 27, pos := "outright.go:45", after := #[{ on := 48, ground := Ground.chain }], guard := none }, { dst := some 93, op := Op.buildSlice 23 1 #[(0, Operand.tmp 92)], type := 23, pos := "outright.go:42", after := #[{ on := 51, ground := Ground.data }], guard := none }, { dst := some 94, op := Op.call { callee := Callee.value (Operand.tmp 91), args := #[Operand.tmp 93], argTypes := #[23] }, type := 27, pos := "outright.go:45", after := #[{ on := 50, ground := Ground.data }, { on := 52, ground := Ground.data }, { on := 51, ground := Ground.chain }], guard := none }, { dst := some 95, op := Op.build 31 #[(0, Operand.tmp 94), (1, Operand.const (Value.int IntKind.i64 4))], type := 31, pos := "outright.go:42", after := #[{ on := 53, ground := Ground.data }], guard := none }, { dst := some 96, op := Op.move (Operand.tmp 1), type := 28, pos := "outright.go:42", after := #[], guard := none }, { dst := some 97, op := Op.call { callee := Callee.value (Operand.func 10), args := #[Operand.const (Value.int IntKind.u8 0), Operand.const (Value.string { data := #[] }), Operand.const (Value.slice none 0 0)], argTypes := #[5, 9, 23] }, type := 27, pos := "outright.go:45", after := #[{ on := 53, ground := Ground.chain }], guard := none }].append [{ dst := some 98, op := Op.load 27 (Operand.tmp 2), type := 27, pos := "outright.go:42", after := #[], guard := none }, { dst := some 99, op := Op.call { callee := Callee.value (Operand.func 10), args := #[Operand.const (Value.int IntKind.u8 0), Operand.const (Value.string { data := #[] }), Operand.const (Value.slice none 0 0)], argTypes := #[5, 9, 23] }, type := 27, pos := "outright.go:45", after := #[{ on := 56, ground := Ground.chain }], guard := none }, { dst := some 100, op := Op.buildSlice 23 3 #[(0, Operand.tmp 97), (1, Operand.tmp 98), (2, Operand.tmp 99)], type := 23, pos := "outright.go:42", after := #[{ on := 56, ground := Ground.data }, { on := 57, ground := Ground.data }, { on := 58, ground := Ground.data }], guard := none }, { dst := some 101, op := Op.call { callee := Callee.value (Operand.tmp 96), args := #[Operand.tmp 100], argTypes := #[23] }, type := 27, pos := "outright.go:45", after := #[{ on := 55, ground := Ground.data }, { on := 59, ground := Ground.data }, { on := 58, ground := Ground.chain }], guard := none }, { dst := some 102, op := Op.build 31 #[(0, Operand.tmp 101), (1, Operand.const (Value.int IntKind.i64 0))], type := 31, pos := "outright.go:42", after := #[{ on := 60, ground := Ground.data }], guard := none }, { dst := some 103, op := Op.load 27 (Operand.tmp 2), type := 27, pos := "outright.go:42", after := #[], guard := none }, { dst := some 104, op := Op.buildSlice 23 1 #[(0, Operand.tmp 103)], type := 23, pos := "outright.go:42", after := #[{ on := 62, ground := Ground.data }], guard := none }, { dst := some 105, op := Op.call { callee := Callee.value (Operand.func 10), args := #[Operand.const (Value.int IntKind.u8 4), Operand.const (Value.string { data := #[120] }), Operand.tmp 104], argTypes := #[5, 9, 23] }, type := 27, pos := "outright.go:45", after := #[{ on := 63, ground := Ground.data }, { on := 60, ground := Ground.chain }], guard := none }, { dst := some 106, op := Op.build 31 #[(0, Operand.tmp 105), (1, Operand.const (Value.int IntKind.i64 4))], type := 31, pos := "outright.go:42", after := #[{ on := 64, ground := Ground.data }], guard := none }, { dst := some 107, op := Op.call { callee := Callee.value (Operand.func 11), args := #[Operand.const (Value.string { data := #[32] })], argTypes := #[9] }, type := 27, pos := "outright.go:45", after := #[{ on := 64, ground := Ground.chain }], guard := none }, { dst := some 108, op := Op.buildSlice 23 1 #[(0, Operand.tmp 107)], type := 23, pos := "outright.go:42", after := #[{ on := 66, ground := Ground.data }], guard := none }, { dst := some 109, op := Op.call { callee := Callee.value (Operand.func 10), args := #[Operand.const (Value.int IntKind.u8 1), Operand.const (Value.string { data := #[32] }), Operand.tmp 108], argTypes := #[5, 9, 23] }, type := 27, pos := "outright.go:45", after := #[{ on := 67, ground := Ground.data }, { on := 66, ground := Ground.chain }], guard := none }, { dst := some 110, op := Op.buildSlice 23 1 #[(0, Operand.tmp 109)], type := 23, pos := "outright.go:42", after := #[{ on := 68, ground := Ground.data }], guard := none }, { dst := some 111, op := Op.call { callee := Callee.value (Operand.func 10), args := #[Operand.const (Value.int IntKind.u8 4), Operand.const (Value.string { data := #[120] }), Operand.tmp 110], argTypes := #[5, 9, 23] }, type := 27, pos := "outright.go:45", after := #[{ on := 69, ground := Ground.data }, { on := 68, ground := Ground.chain }], guard := none }, { dst := some 112, op := Op.build 31 #[(0, Operand.tmp 111), (1, Operand.const (Value.int IntKind.i64 4))], type := 31, pos := "outright.go:42", after := #[{ on := 70, ground := Ground.data }], guard := none }, { dst := some 113, op := Op.call { callee := Callee.value (Operand.func 10), args := #[Operand.const (Value.int IntKind.u8 2), Operand.const (Value.string { data := #[40, 42, 42, 41] }), Operand.const (Value.slice none 0 0)], argTypes := #[5, 9, 23] }, type := 27, pos := "outright.go:45", after := #[{ on := 70, ground := Ground.chain }], guard := none }, { dst := some 114, op := Op.buildSlice 23 1 #[(0, Operand.tmp 113)], type := 23, pos := "outright.go:42", after := #[{ on := 72, ground := Ground.data }], guard := none }, { dst := some 115, op := Op.call { callee := Callee.value (Operand.func 10), args := #[Operand.const (Value.int IntKind.u8 1), Operand.const (Value.string { data := #[32] }), Operand.tmp 114], argTypes := #[5, 9, 23] }, type := 27, pos := "outright.go:45", after := #[{ on := 73, ground := Ground.data }, { on := 72, ground := Ground.chain }], guard := none }, { dst := some 116, op := Op.buildSlice 23 1 #[(0, Operand.tmp 115)], type := 23, pos := "outright.go:42", after := #[{ on := 74, ground := Ground.data }], guard := none }, { dst := some 117, op := Op.call { callee := Callee.value (Operand.func 10), args := #[Operand.const (Value.int IntKind.u8 4), Operand.const (Value.string { data := #[120] }), Operand.tmp 116], argTypes := #[5, 9, 23] }, type := 27, pos := "outright.go:45", after := #[{ on := 75, ground := Ground.data }, { on := 74, ground := Ground.chain }], guard := none }, { dst := some 118, op := Op.build 31 #[(0, Operand.tmp 117), (1, Operand.const (Value.int IntKind.i64 4))], type := 31, pos := "outright.go:42", after := #[{ on := 76, ground := Ground.data }], guard := none }, { dst := some 119, op := Op.load 27 (Operand.tmp 2), type := 27, pos := "outright.go:42", after := #[], guard := none }, { dst := some 120, op := Op.buildSlice 23 1 #[(0, Operand.tmp 119)], type := 23, pos := "outright.go:42", after := #[{ on := 78, ground := Ground.data }], guard := none }, { dst := some 121, op := Op.build 27 #[(0, Operand.const (Value.int IntKind.u8 2)), (2, Operand.tmp 120)], type := 27, pos := "outright.go:42", after := #[{ on := 79, ground := Ground.data }], guard := none }, { dst := some 122, op := Op.build 31 #[(0, Operand.tmp 121), (1, Operand.const (Value.int IntKind.i64 4))], type := 31, pos := "outright.go:42", after := #[{ on := 80, ground := Ground.data }], guard := none }, { dst := some 123, op := Op.build 25 #[(0, Operand.const (Value.int IntKind.u8 4))], type := 25, pos := "outright.go:42", after := #[], guard := none }, { dst := some 124, op := Op.build 27 #[(0, Operand.const (Value.int IntKind.u8 2)), (1, Operand.tmp 123)], type := 27, pos := "outright.go:42", after := #[{ on := 82, ground := Ground.data }], guard := none }, { dst := some 125, op := Op.build 31 #[(0, Operand.tmp 124), (1, Operand.const (Value.int IntKind.i64 4))], type := 31, pos := "outright.go:42", after := #[{ on := 83, ground := Ground.data }], guard := none }, { dst := some 126, op := Op.build 27 #[], type := 27, pos := "outright.go:42", after := #[], guard := none }, { dst := some 127, op := Op.build 31 #[(0, Operand.tmp 126), (1, Operand.const (Value.int IntKind.i64 4))], type := 31, pos := "outright.go:42", after := #[{ on := 85, ground := Ground.data }], guard := none }, { dst := some 128, op := Op.build 27 #[(0, Operand.const (Value.int IntKind.u8 19))], type := 27, pos := "outright.go:42", after := #[], guard := none }, { dst := some 129, op := Op.build 31 #[(0, Operand.tmp 128), (1, Operand.const (Value.int IntKind.i64 4))], type := 31, pos := "outright.go:42", after := #[{ on := 87, ground := Ground.data }], guard := none }, { dst := some 130, op := Op.build 25 #[(1, Operand.const (Value.string { data := #[120] }))], type := 25, pos := "outright.go:42", after := #[], guard := none }, { dst := some 131, op := Op.build 27 #[(0, Operand.const (Value.int IntKind.u8 8)), (1, Operand.tmp 130)], type := 27, pos := "outright.go:42", after := #[{ on := 89, ground := Ground.data }], guard := none }, { dst := some 132, op := Op.build 31 #[(0, Operand.tmp 131), (1, Operand.const (Value.int IntKind.i64 4))], type := 31, pos := "outright.go:42", after := #[{ on := 90, ground := Ground.data }], guard := none }, { dst := some 133, op := Op.move (Operand.tmp 1), type := 28, pos := "outright.go:42", after := #[], guard := none }, { dst := some 134, op := Op.call { callee := Callee.value (Operand.func 10), args := #[Operand.const (Value.int IntKind.u8 8), Operand.const (Value.string { data := #[45] }), Operand.const (Value.slice none 0 0)], argTypes := #[5, 9, 23] }, type := 27, pos := "outright.go:45", after := #[{ on := 76, ground := Ground.chain }], guard := none }, { dst := some 135, op := Op.call { callee := Callee.value (Operand.func 10), args := #[Operand.const (Value.int IntKind.u8 8), Operand.const (Value.string { data := #[62] }), Operand.const (Value.slice none 0 0)], argTypes := #[5, 9, 23] }, type := 27, pos := "outright.go:45", after := #[{ on := 93, ground := Ground.chain }], guard := none }, { dst := some 136, op := Op.buildSlice 23 2 #[(0, Operand.tmp 134), (1, Operand.tmp 135)], type := 23, pos := "outright.go:42", after := #[{ on := 93, ground := Ground.data }, { on := 94, ground := Ground.data }], guard := none }, { dst := some 137, op := Op.call { callee := Callee.value (Operand.tmp 133), args := #[Operand.tmp 136], argTypes := #[23] }, type := 27, pos := "outright.go:45", after := #[{ on := 92, ground := Ground.data }, { on := 95, ground := Ground.data }, { on := 94, ground := Ground.chain }], guard := none }, { dst := some 138, op := Op.build 31 #[(0, Operand.tmp 137), (1, Operand.const (Value.int IntKind.i64 4))], type := 31, pos := "outright.go:42", after := #[{ on := 96, ground := Ground.data }], guard := none }, { dst := some 139, op := Op.move (Operand.tmp 1), type := 28, pos := "outright.go:42", after := #[], guard := none }, { dst := some 140, op := Op.call { callee := Callee.value (Operand.func 10), args := #[Operand.const (Value.int IntKind.u8 9), Operand.const (Value.string { data := #[40, 42] }), Operand.const (Value.slice none 0 0)], argTypes := #[5, 9, 23] }, type := 27, pos := "outright.go:45", after := #[{ on := 96, ground := Ground.chain }], guard := none }, { dst := some 141, op := Op.load 27 (Operand.tmp 2), type := 27, pos := "outright.go:42", after := #[], guard := none }, { dst := some 142, op := Op.buildSlice 23 2 #[(0, Operand.tmp 140), (1, Operand.tmp 141)], type := 23, pos := "outright.go:42", after := #[{ on := 99, ground := Ground.data }, { on := 100, ground := Ground.data }], guard := none }, { dst := some 143, op := Op.call { callee := Callee.value (Operand.tmp 139), args := #[Operand.tmp 142], argTypes := #[23] }, type := 27, pos := "outright.go:45", after := #[{ on := 98, ground := Ground.data }, { on := 101, ground := Ground.data }, { on := 99, ground := Ground.chain }], guard := none }, { dst := some 144, op := Op.build 31 #[(0, Operand.tmp 143), (1, Operand.const (Value.int IntKind.i64 4))], type := 31, pos := "outright.go:42", after := #[{ on := 102, ground := Ground.data }], guard := none }, { dst := some 145, op := Op.move (Operand.tmp 1), type := 28, pos := "outright.go:42", after := #[], guard := none }, { dst := some 146, op := Op.load 27 (Operand.tmp 2), type := 27, pos := "outright.go:42", after := #[], guard := none }, { dst := some 147, op := Op.call { callee := Callee.value (Operand.func 10), args := #[Operand.const (Value.int IntKind.u8 9), Operand.const (Value.string { data := #[40, 42] }), Operand.const (Value.slice none 0 0)], argTypes := #[5, 9, 23] }, type := 27, pos := "outright.go:45", after := #[{ on := 102, ground := Ground.chain }], guard := none }, { dst := some 148, op := Op.buildSlice 23 2 #[(0, Operand.tmp 146), (1, Operand.tmp 147)], type := 23, pos := "outright.go:42", after := #[{ on := 105, ground := Ground.data }, { on := 106, ground := Ground.data }], guard := none }, { dst := some 149, op := Op.call { callee := Callee.value (Operand.tmp 145), args := #[Operand.tmp 148], argTypes := #[23] }, type := 27, pos := "outright.go:45", after := #[{ on := 104, ground := Ground.data }, { on := 107, ground := Ground.data }, { on := 106, ground := Ground.chain }], guard := none }, { dst := some 150, op := Op.build 31 #[(0, Operand.tmp 149), (1, Operand.const (Value.int IntKind.i64 0))], type := 31, pos := "outright.go:42", after := #[{ on := 108, ground := Ground.data }], guard := none }, { dst := some 151, op := Op.build 27 #[(0, Operand.const (Value.int IntKind.u8 18))], type := 27, pos := "outright.go:42", after := #[], guard := none }, { dst := some 152, op := Op.build 31 #[(0, Operand.tmp 151), (1, Operand.const (Value.int IntKind.i64 0))], type := 31, pos := "outright.go:42", after := #[{ on := 110, ground := Ground.data }], guard := none }, { dst := some 153, op := Op.buildSlice 33 22 #[(0, Operand.tmp 43), (1, Operand.tmp 49), (2, Operand.tmp 58), (3, Operand.tmp 63), (4, Operand.tmp 68), (5, Operand.tmp 73), (6, Operand.tmp 81), (7, Operand.tmp 90), (8, Operand.tmp 95), (9, Operand.tmp 102), (10, Operand.tmp 106), (11, Operand.tmp 112), (12, Operand.tmp 118), (13, Operand.tmp 122), (14, Operand.tmp 125), (15, Operand.tmp 127), (16, Operand.tmp 129), (17, Operand.tmp 132), (18, Operand.tmp 138), (19, Operand.tmp 144), (20, Operand.tmp 150), (21, Operand.tmp 152)], type := 33, pos := "outright.go:42", after := #[{ on := 2, ground := Ground.data }, { on := 8, ground := Ground.data }, { on := 17, ground := Ground.data }, { on := 22, ground := Ground.data }, { on := 27, ground := Ground.data }, { on := 32, ground := Ground.data }, { on := 40, ground := Ground.data }, { on := 49, ground := Ground.data }, { on := 54, ground := Ground.data }, { on := 61, ground := Ground.data }, { on := 65, ground := Ground.data }, { on := 71, ground := Ground.data }, { on := 77, ground := Ground.data }, { on := 81, ground := Ground.data }, { on := 84, ground := Ground.data }, { on := 86, ground := Ground.data }, { on := 88, ground := Ground.data }, { on := 91, ground := Ground.data }, { on := 97, ground := Ground.data }, { on := 103, ground := Ground.data }, { on := 109, ground := Ground.data }, { on := 111, ground := Ground.data }], guard := none }, { dst := some 154, op := Op.call { callee := Callee.builtin Builtin.len, args := #[Operand.tmp 153], argTypes := #[33] }, type := 3, pos := "outright.go:42", after := #[{ on := 112, ground := Ground.data }], guard := none }, { dst := some 155, op := Op.move (Operand.const (Value.int IntKind.i64 0)), type := 3, pos := "outright.go:42", after := #[], guard := none }]).toArray
def casesL : List (T × Int) := [((.mk 4 (0, []) []), 0), ((.mk 4 (0, []) [(.mk 1 (3, [108, 101, 116]) []), (.mk 1 (4, [120]) [])]), 4), ((.mk 4 (0, []) [(.mk 1 (4, [120]) []), (.mk 4 (0, []) [(.mk 1 (4, [120]) [])])]), 4), ((.mk 4 (0, []) [(.mk 1 (3, [120]) [])]), 4), ((.mk 4 (0, []) [(.mk 1 (4, [120, 32]) [])]), 4), ((.mk 4 (0, []) [(.mk 1 (1, [32]) [])]), 4), ((.mk 4 (0, []) [(.mk 1 (0, []) [(.mk 1 (1, [32]) []), (.mk 1 (1, [32]) [])])]), 4), ((.mk 4 (0, []) [(.mk 1 (0, []) [(.mk 1 (1, [32]) []), (.mk 1 (2, [40, 42, 42, 41]) []), (.mk 1 (1, [10]) [])])]), 0), ((.mk 4 (0, []) [(.mk 1 (0, [120]) [])]), 4), ((.mk 4 (0, []) [(.mk 1 (0, []) []), (.mk 1 (4, [120]) []), (.mk 1 (0, []) [])]), 0), ((.mk 1 (4, [120]) [(.mk 1 (4, [120]) [])]), 4), ((.mk 1 (4, [120]) [(.mk 1 (1, [32]) [(.mk 1 (1, [32]) [])])]), 4), ((.mk 1 (4, [120]) [(.mk 1 (1, [32]) [(.mk 1 (2, [40, 42, 42, 41]) [])])]), 4), ((.mk 2 (0, []) [(.mk 1 (4, [120]) [])]), 4), ((.mk 2 (4, []) []), 4), ((.mk 0 (0, []) []), 4), ((.mk 19 (0, []) []), 4), ((.mk 8 (0, [120]) []), 4), ((.mk 4 (0, []) [(.mk 1 (8, [45]) []), (.mk 1 (8, [62]) [])]), 4), ((.mk 4 (0, []) [(.mk 1 (9, [40, 42]) []), (.mk 1 (4, [120]) [])]), 4), ((.mk 4 (0, []) [(.mk 1 (4, [120]) []), (.mk 1 (9, [40, 42]) [])]), 0), ((.mk 18 (0, []) []), 0)]
def kT (d : Nat) : K := ([.fv, .nd (.mk 4 (0, []) []), .ne (.mk 4 (0, []) []) 0, .fv, .nd (.mk 1 (3, [108, 101, 116]) []), .nd (.mk 1 (4, [120]) []), .ns [(.mk 1 (3, [108, 101, 116]) []), (.mk 1 (4, [120]) [])], .nd (.mk 4 (0, []) [(.mk 1 (3, [108, 101, 116]) []), (.mk 1 (4, [120]) [])]), .ne (.mk 4 (0, []) [(.mk 1 (3, [108, 101, 116]) []), (.mk 1 (4, [120]) [])]) 4, .fv, .nd (.mk 1 (4, [120]) []), .fv, .nd (.mk 1 (4, [120]) []), .ns [(.mk 1 (4, [120]) [])], .nd (.mk 4 (0, []) [(.mk 1 (4, [120]) [])]), .ns [(.mk 1 (4, [120]) []), (.mk 4 (0, []) [(.mk 1 (4, [120]) [])])], .nd (.mk 4 (0, []) [(.mk 1 (4, [120]) []), (.mk 4 (0, []) [(.mk 1 (4, [120]) [])])]), .ne (.mk 4 (0, []) [(.mk 1 (4, [120]) []), (.mk 4 (0, []) [(.mk 1 (4, [120]) [])])]) 4, .fv, .nd (.mk 1 (3, [120]) []), .ns [(.mk 1 (3, [120]) [])], .nd (.mk 4 (0, []) [(.mk 1 (3, [120]) [])]), .ne (.mk 4 (0, []) [(.mk 1 (3, [120]) [])]) 4, .fv, .nd (.mk 1 (4, [120, 32]) []), .ns [(.mk 1 (4, [120, 32]) [])], .nd (.mk 4 (0, []) [(.mk 1 (4, [120, 32]) [])]), .ne (.mk 4 (0, []) [(.mk 1 (4, [120, 32]) [])]) 4, .fv, .nd (.mk 1 (1, [32]) []), .ns [(.mk 1 (1, [32]) [])], .nd (.mk 4 (0, []) [(.mk 1 (1, [32]) [])]), .ne (.mk 4 (0, []) [(.mk 1 (1, [32]) [])]) 4, .fv, .nd (.mk 1 (1, [32]) []), .nd (.mk 1 (1, [32]) []), .ns [(.mk 1 (1, [32]) []), (.mk 1 (1, [32]) [])], .nd (.mk 1 (0, []) [(.mk 1 (1, [32]) []), (.mk 1 (1, [32]) [])]), .ns [(.mk 1 (0, []) [(.mk 1 (1, [32]) []), (.mk 1 (1, [32]) [])])], .nd (.mk 4 (0, []) [(.mk 1 (0, []) [(.mk 1 (1, [32]) []), (.mk 1 (1, [32]) [])])]), .ne (.mk 4 (0, []) [(.mk 1 (0, []) [(.mk 1 (1, [32]) []), (.mk 1 (1, [32]) [])])]) 4, .fv, .nd (.mk 1 (1, [32]) []), .nd (.mk 1 (2, [40, 42, 42, 41]) []), .nd (.mk 1 (1, [10]) []), .ns [(.mk 1 (1, [32]) []), (.mk 1 (2, [40, 42, 42, 41]) []), (.mk 1 (1, [10]) [])], .nd (.mk 1 (0, []) [(.mk 1 (1, [32]) []), (.mk 1 (2, [40, 42, 42, 41]) []), (.mk 1 (1, [10]) [])]), .ns [(.mk 1 (0, []) [(.mk 1 (1, [32]) []), (.mk 1 (2, [40, 42, 42, 41]) []), (.mk 1 (1, [10]) [])])], .nd (.mk 4 (0, []) [(.mk 1 (0, []) [(.mk 1 (1, [32]) []), (.mk 1 (2, [40, 42, 42, 41]) []), (.mk 1 (1, [10]) [])])]), .ne (.mk 4 (0, []) [(.mk 1 (0, []) [(.mk 1 (1, [32]) []), (.mk 1 (2, [40, 42, 42, 41]) []), (.mk 1 (1, [10]) [])])]) 0, .fv, .nd (.mk 1 (0, [120]) []), .ns [(.mk 1 (0, [120]) [])], .nd (.mk 4 (0, []) [(.mk 1 (0, [120]) [])]), .ne (.mk 4 (0, []) [(.mk 1 (0, [120]) [])]) 4, .fv, .nd (.mk 1 (0, []) []), .nd (.mk 1 (4, [120]) []), .nd (.mk 1 (0, []) []), .ns [(.mk 1 (0, []) []), (.mk 1 (4, [120]) []), (.mk 1 (0, []) [])], .nd (.mk 4 (0, []) [(.mk 1 (0, []) []), (.mk 1 (4, [120]) []), (.mk 1 (0, []) [])]), .ne (.mk 4 (0, []) [(.mk 1 (0, []) []), (.mk 1 (4, [120]) []), (.mk 1 (0, []) [])]) 0, .nd (.mk 1 (4, [120]) []), .ns [(.mk 1 (4, [120]) [])], .nd (.mk 1 (4, [120]) [(.mk 1 (4, [120]) [])]), .ne (.mk 1 (4, [120]) [(.mk 1 (4, [120]) [])]) 4, .nd (.mk 1 (1, [32]) []), .ns [(.mk 1 (1, [32]) [])], .nd (.mk 1 (1, [32]) [(.mk 1 (1, [32]) [])]), .ns [(.mk 1 (1, [32]) [(.mk 1 (1, [32]) [])])], .nd (.mk 1 (4, [120]) [(.mk 1 (1, [32]) [(.mk 1 (1, [32]) [])])]), .ne (.mk 1 (4, [120]) [(.mk 1 (1, [32]) [(.mk 1 (1, [32]) [])])]) 4, .nd (.mk 1 (2, [40, 42, 42, 41]) []), .ns [(.mk 1 (2, [40, 42, 42, 41]) [])], .nd (.mk 1 (1, [32]) [(.mk 1 (2, [40, 42, 42, 41]) [])]), .ns [(.mk 1 (1, [32]) [(.mk 1 (2, [40, 42, 42, 41]) [])])], .nd (.mk 1 (4, [120]) [(.mk 1 (1, [32]) [(.mk 1 (2, [40, 42, 42, 41]) [])])]), .ne (.mk 1 (4, [120]) [(.mk 1 (1, [32]) [(.mk 1 (2, [40, 42, 42, 41]) [])])]) 4, .nd (.mk 1 (4, [120]) []), .ns [(.mk 1 (4, [120]) [])], .nd (.mk 2 (0, []) [(.mk 1 (4, [120]) [])]), .ne (.mk 2 (0, []) [(.mk 1 (4, [120]) [])]) 4, .tk (4, []), .nd (.mk 2 (4, []) []), .ne (.mk 2 (4, []) []) 4, .nd (.mk 0 (0, []) []), .ne (.mk 0 (0, []) []) 4, .nd (.mk 19 (0, []) []), .ne (.mk 19 (0, []) []) 4, .tk (0, [120]), .nd (.mk 8 (0, [120]) []), .ne (.mk 8 (0, [120]) []) 4, .fv, .nd (.mk 1 (8, [45]) []), .nd (.mk 1 (8, [62]) []), .ns [(.mk 1 (8, [45]) []), (.mk 1 (8, [62]) [])], .nd (.mk 4 (0, []) [(.mk 1 (8, [45]) []), (.mk 1 (8, [62]) [])]), .ne (.mk 4 (0, []) [(.mk 1 (8, [45]) []), (.mk 1 (8, [62]) [])]) 4, .fv, .nd (.mk 1 (9, [40, 42]) []), .nd (.mk 1 (4, [120]) []), .ns [(.mk 1 (9, [40, 42]) []), (.mk 1 (4, [120]) [])], .nd (.mk 4 (0, []) [(.mk 1 (9, [40, 42]) []), (.mk 1 (4, [120]) [])]), .ne (.mk 4 (0, []) [(.mk 1 (9, [40, 42]) []), (.mk 1 (4, [120]) [])]) 4, .fv, .nd (.mk 1 (4, [120]) []), .nd (.mk 1 (9, [40, 42]) []), .ns [(.mk 1 (4, [120]) []), (.mk 1 (9, [40, 42]) [])], .nd (.mk 4 (0, []) [(.mk 1 (4, [120]) []), (.mk 1 (9, [40, 42]) [])]), .ne (.mk 4 (0, []) [(.mk 1 (4, [120]) []), (.mk 1 (9, [40, 42]) [])]) 0, .nd (.mk 18 (0, []) []), .ne (.mk 18 (0, []) []) 0, .rows casesL, .num 22, .num 0] : List K).getD (d - 41) (.num 0)
def AllB (S : Oper → Prop) : List Oper → Prop
  | [] => True
  | o :: l => S o ∧ AllB S l
theorem all_mem {S : Oper → Prop} : ∀ {l : List Oper}, AllB S l → ∀ o ∈ l, S o
  | [], _, o, h => nomatch h
  | x :: l, h, o, hm => by
    rcases List.mem_cons.1 hm with rfl | hm
    · exact h.1
    · exact all_mem h.2 o hm
theorem ns_nil (w : World) : Is (.ns []) w (.slice none 0 0) := ⟨none, 0, [], rfl, SlIn.nil _ _ _, nat_nil _ _⟩
theorem box_below {W0 w : World} {g : Nat} {x : T} (hB : Below W0.heap.size W0 w) (h : BoxAt W0 g x) : BoxAt w g x := by
  obtain ⟨p, c, h1, h2⟩ := h
  exact ⟨p, c, (hB.block g (Array.getElem?_eq_some_iff.1 h1).1).trans h1, h2.below hB⟩
theorem OpGives.to {P : Program} {o : Oper} {ρ : Operand → Value} {w : World} {k : K} (d : Nat) (hd : o.dst = some d) (hk : kT d = k) (h : OpGives P o ρ w (Gv k w)) : OpGives P o ρ w (fun v w' => (∀ d, o.dst = some d → Is (kT d) w' v) ∧ Below w.heap.size w w') := by
  intro a next Q ha hn
  refine h a next Q ha fun v w' ⟨h1, h2⟩ => hn v w' ⟨fun d' h' => ?_, h2⟩
  rw [hd] at h'
  cases h'
  rw [hk]; exact h1

def rowC (x : T) (p : Option Addr) (c : Nat) (e : Int) : List Value := [.int .u8 x.kind, .int .u8 x.tok.1, .string ⟨x.tok.2.toArray⟩, .slice p x.kids.length c, .int .i64 e]
def rowsC : List (T × Int) → List (Option Addr × Nat) → List Value
  | (x, e) :: l, (p, c) :: r => rowC x p c e ++ rowsC l r
  | _, _ => []
theorem rows_at {w w' : World} : ∀ (l : List (T × Int)) (r : List (Option Addr × Nat)) (i : Nat) (x : T) (e : Int), l.length = r.length → (∀ q ∈ l.zip r, NAt AnyB w q.1.1 (cellsN q.1.1 q.2.1 q.2.2)) → l[i]? = some (x, e) → ∃ p c, NAt AnyB w x (cellsN x p c) ∧ ∀ j, j < 5 → (rowsC l r)[i * 5 + j]? = (rowC x p c e)[j]?
  | [], _, i, x, e, _, _, h => by simp at h
  | (y, f) :: l, [], i, x, e, h, _, _ => by simp at h
  | (y, f) :: l, (p, c) :: r, 0, x, e, _, hn, h => by
    simp only [List.getElem?_cons_zero, Option.some.injEq, Prod.mk.injEq] at h
    obtain ⟨rfl, rfl⟩ := h
    refine ⟨p, c, hn ((y, f), (p, c)) (by simp), fun j hj => ?_⟩
    rw [rowsC, List.getElem?_append_left (by simp [rowC]; omega)]
    simp
  | (y, f) :: l, (p, c) :: r, i + 1, x, e, hl, hn, h => by
    obtain ⟨p', c', k1, k2⟩ := rows_at (w := w) (w' := w') l r i x e (by simpa using hl) (fun q hq => hn q (by simp [hq])) (by simpa using h)
    refine ⟨p', c', k1, fun j hj => ?_⟩
    rw [rowsC, List.getElem?_append_right (by simp [rowC]; omega), ← k2 j hj]
    congr 1
    simp [rowC]; omega
theorem rows_is {w : World} (l : List (T × Int)) (r : List (Option Addr × Nat)) (hl : l.length = r.length) (hn : ∀ q ∈ l.zip r, NAt AnyB w q.1.1 (cellsN q.1.1 q.2.1 q.2.2)) : Gv (.rows l) w (.slice (some ⟨w.heap.size, 0, none⟩) l.length l.length) (w.alloc (.cells (rowsC l r).toArray 31)) := by
  have hb := galloc (Below.refl w.heap.size w) (.cells (rowsC l r).toArray 31)
  have hnew := World.alloc_heap_new w (.cells (rowsC l r).toArray 31)
  refine ⟨⟨w.heap.size, rfl, (Array.getElem?_eq_some_iff.1 hnew).1, fun i x e hi => ?_⟩, hb⟩
  obtain ⟨p, c, k1, k2⟩ := rows_at (w := w) (w' := w) l r i x e hl hn hi
  have cell : ∀ j, j < 5 → (w.alloc (.cells (rowsC l r).toArray 31)).cell? ⟨w.heap.size, i * 5 + j, none⟩ = (rowC x p c e)[j]? := fun j hj => by
    rw [cellH hnew, ← k2 j hj]; simp
  exact ⟨p, c, k1.below hb, cell 0 (by omega), cell 1 (by omega), cell 2 (by omega), cell 3 (by omega), cell 4 (by omega)⟩
set_option maxRecDepth 100000 in
set_option maxHeartbeats 8000000 in
theorem op_rows {ρ : Operand → Value} {w : World} {dst : Option Tmp} {pos : String} {after : Array Edge} {x0 : Operand} {x1 : Operand} {x2 : Operand} {x3 : Operand} {x4 : Operand} {x5 : Operand} {x6 : Operand} {x7 : Operand} {x8 : Operand} {x9 : Operand} {x10 : Operand} {x11 : Operand} {x12 : Operand} {x13 : Operand} {x14 : Operand} {x15 : Operand} {x16 : Operand} {x17 : Operand} {x18 : Operand} {x19 : Operand} {x20 : Operand} {x21 : Operand} (h0 : Is (.ne (.mk 4 (0, []) []) 0) w (ρ x0)) (h1 : Is (.ne (.mk 4 (0, []) [(.mk 1 (3, [108, 101, 116]) []), (.mk 1 (4, [120]) [])]) 4) w (ρ x1)) (h2 : Is (.ne (.mk 4 (0, []) [(.mk 1 (4, [120]) []), (.mk 4 (0, []) [(.mk 1 (4, [120]) [])])]) 4) w (ρ x2)) (h3 : Is (.ne (.mk 4 (0, []) [(.mk 1 (3, [120]) [])]) 4) w (ρ x3)) (h4 : Is (.ne (.mk 4 (0, []) [(.mk 1 (4, [120, 32]) [])]) 4) w (ρ x4)) (h5 : Is (.ne (.mk 4 (0, []) [(.mk 1 (1, [32]) [])]) 4) w (ρ x5)) (h6 : Is (.ne (.mk 4 (0, []) [(.mk 1 (0, []) [(.mk 1 (1, [32]) []), (.mk 1 (1, [32]) [])])]) 4) w (ρ x6)) (h7 : Is (.ne (.mk 4 (0, []) [(.mk 1 (0, []) [(.mk 1 (1, [32]) []), (.mk 1 (2, [40, 42, 42, 41]) []), (.mk 1 (1, [10]) [])])]) 0) w (ρ x7)) (h8 : Is (.ne (.mk 4 (0, []) [(.mk 1 (0, [120]) [])]) 4) w (ρ x8)) (h9 : Is (.ne (.mk 4 (0, []) [(.mk 1 (0, []) []), (.mk 1 (4, [120]) []), (.mk 1 (0, []) [])]) 0) w (ρ x9)) (h10 : Is (.ne (.mk 1 (4, [120]) [(.mk 1 (4, [120]) [])]) 4) w (ρ x10)) (h11 : Is (.ne (.mk 1 (4, [120]) [(.mk 1 (1, [32]) [(.mk 1 (1, [32]) [])])]) 4) w (ρ x11)) (h12 : Is (.ne (.mk 1 (4, [120]) [(.mk 1 (1, [32]) [(.mk 1 (2, [40, 42, 42, 41]) [])])]) 4) w (ρ x12)) (h13 : Is (.ne (.mk 2 (0, []) [(.mk 1 (4, [120]) [])]) 4) w (ρ x13)) (h14 : Is (.ne (.mk 2 (4, []) []) 4) w (ρ x14)) (h15 : Is (.ne (.mk 0 (0, []) []) 4) w (ρ x15)) (h16 : Is (.ne (.mk 19 (0, []) []) 4) w (ρ x16)) (h17 : Is (.ne (.mk 8 (0, [120]) []) 4) w (ρ x17)) (h18 : Is (.ne (.mk 4 (0, []) [(.mk 1 (8, [45]) []), (.mk 1 (8, [62]) [])]) 4) w (ρ x18)) (h19 : Is (.ne (.mk 4 (0, []) [(.mk 1 (9, [40, 42]) []), (.mk 1 (4, [120]) [])]) 4) w (ρ x19)) (h20 : Is (.ne (.mk 4 (0, []) [(.mk 1 (4, [120]) []), (.mk 1 (9, [40, 42]) [])]) 0) w (ρ x20)) (h21 : Is (.ne (.mk 18 (0, []) []) 0) w (ρ x21)) :
    OpGives Tryz.prog { dst, op := .buildSlice 33 22 #[(0, x0), (1, x1), (2, x2), (3, x3), (4, x4), (5, x5), (6, x6), (7, x7), (8, x8), (9, x9), (10, x10), (11, x11), (12, x12), (13, x13), (14, x14), (15, x15), (16, x16), (17, x17), (18, x18), (19, x19), (20, x20), (21, x21)], type := 33, pos, after, guard := none } ρ w (Gv (.rows casesL) w) := by
  intro A next Q ha hn
  obtain ⟨p0, c0, h0, k0⟩ := h0
  obtain ⟨p1, c1, h1, k1⟩ := h1
  obtain ⟨p2, c2, h2, k2⟩ := h2
  obtain ⟨p3, c3, h3, k3⟩ := h3
  obtain ⟨p4, c4, h4, k4⟩ := h4
  obtain ⟨p5, c5, h5, k5⟩ := h5
  obtain ⟨p6, c6, h6, k6⟩ := h6
  obtain ⟨p7, c7, h7, k7⟩ := h7
  obtain ⟨p8, c8, h8, k8⟩ := h8
  obtain ⟨p9, c9, h9, k9⟩ := h9
  obtain ⟨p10, c10, h10, k10⟩ := h10
  obtain ⟨p11, c11, h11, k11⟩ := h11
  obtain ⟨p12, c12, h12, k12⟩ := h12
  obtain ⟨p13, c13, h13, k13⟩ := h13
  obtain ⟨p14, c14, h14, k14⟩ := h14
  obtain ⟨p15, c15, h15, k15⟩ := h15
  obtain ⟨p16, c16, h16, k16⟩ := h16
  obtain ⟨p17, c17, h17, k17⟩ := h17
  obtain ⟨p18, c18, h18, k18⟩ := h18
  obtain ⟨p19, c19, h19, k19⟩ := h19
  obtain ⟨p20, c20, h20, k20⟩ := h20
  obtain ⟨p21, c21, h21, k21⟩ := h21
  have HN := Lib.hid (hn _ _ (rows_is casesL [(p0, c0), (p1, c1), (p2, c2), (p3, c3), (p4, c4), (p5, c5), (p6, c6), (p7, c7), (p8, c8), (p9, c9), (p10, c10), (p11, c11), (p12, c12), (p13, c13), (p14, c14), (p15, c15), (p16, c16), (p17, c17), (p18, c18), (p19, c19), (p20, c20), (p21, c21)] rfl (by
    unfold casesL
    simp only [List.zip_cons_cons, List.zip_nil_right, List.forall_mem_cons]
    exact ⟨k0, k1, k2, k3, k4, k5, k6, k7, k8, k9, k10, k11, k12, k13, k14, k15, k16, k17, k18, k19, k20, k21, fun q h => nomatch h⟩)))
  clear hn k0 k1 k2 k3 k4 k5 k6 k7 k8 k9 k10 k11 k12 k13 k14 k15 k16 k17 k18 k19 k20 k21
  unfold Oper.wp
  rw [ha]
  go_simp
  exact HN.out
set_option maxRecDepth 100000 in
set_option maxHeartbeats 16000000 in
theorem names_steps {a0 : Act} {W0 : World} {g : Nat} (h1 : a0.eval (.tmp 1) = .func (.func 9) #[] #[]) (h2 : a0.eval (.tmp 2) = .pointer (some ⟨g, 0, none⟩)) (hx : BoxAt W0 g (.mk 1 (4, [120]) [])) :
    ∀ o ∈ namesOps.toList, ∀ (ρ : Operand → Value) (w : World), Below W0.heap.size W0 w → (∀ v, ρ (.const v) = v) → (∀ f, ρ (.func f) = .func (.func f) #[] #[]) → (∀ d, outB namesOps d = true → ρ (.tmp d) = a0.eval (.tmp d)) → (∀ d ∈ needs namesOps o, Is (kT d) w (ρ (.tmp d))) → OpGives Tryz.prog o ρ w (fun v w' => (∀ d, o.dst = some d → Is (kT d) w' v) ∧ Below w.heap.size w w') := by
  refine all_mem ?_
  refine ⟨?_, ?_, ?_, ?_, ?_, ?_, ?_, ?_, ?_, ?_, ?_, ?_, ?_, ?_, ?_, ?_, ?_, ?_, ?_, ?_, ?_, ?_, ?_, ?_, ?_, ?_, ?_, ?_, ?_, ?_, ?_, ?_, ?_, ?_, ?_, ?_, ?_, ?_, ?_, ?_, ?_, ?_, ?_, ?_, ?_, ?_, ?_, ?_, ?_, ?_, ?_, ?_, ?_, ?_, ?_, ?_, ?_, ?_, ?_, ?_, ?_, ?_, ?_, ?_, ?_, ?_, ?_, ?_, ?_, ?_, ?_, ?_, ?_, ?_, ?_, ?_, ?_, ?_, ?_, ?_, ?_, ?_, ?_, ?_, ?_, ?_, ?_, ?_, ?_, ?_, ?_, ?_, ?_, ?_, ?_, ?_, ?_, ?_, ?_, ?_, ?_, ?_, ?_, ?_, ?_, ?_, ?_, ?_, ?_, ?_, ?_, ?_, ?_, ?_, ?_, trivial⟩
  · intro ρ w hB hc hf ho hn; exact OpGives.to 41 rfl rfl (op_move (k := .fv) (by rw [ho 1 (by decide +kernel)]; exact h1))
  · intro ρ w hB hc hf ho hn; exact OpGives.to 42 rfl rfl (op_doc (l := []) (hn 41 (by decide +kernel)) (by rw [hc]; exact ns_nil w))
  · intro ρ w hB hc hf ho hn; exact OpGives.to 43 rfl rfl (op_ne (e := 0) hc (hn 42 (by decide +kernel)))
  · intro ρ w hB hc hf ho hn; exact OpGives.to 44 rfl rfl (op_move (k := .fv) (by rw [ho 1 (by decide +kernel)]; exact h1))
  · intro ρ w hB hc hf ho hn; exact OpGives.to 45 rfl rfl (op_leaf (k := 3) (s := [108, 101, 116]) (l := []) hc hf (by rw [hc]; exact ns_nil w))
  · intro ρ w hB hc hf ho hn; exact OpGives.to 46 rfl rfl (op_load (g := g) (a := (.mk 1 (4, [120]) [])) (by rw [ho 2 (by decide +kernel)]; exact h2) (box_below hB hx))
  · intro ρ w hB hc hf ho hn; exact OpGives.to 47 rfl rfl (op_ns2 (a := (.mk 1 (3, [108, 101, 116]) [])) (b := (.mk 1 (4, [120]) [])) (hn 45 (by decide +kernel)) (hn 46 (by decide +kernel)))
  · intro ρ w hB hc hf ho hn; exact OpGives.to 48 rfl rfl (op_doc (l := [(.mk 1 (3, [108, 101, 116]) []), (.mk 1 (4, [120]) [])]) (hn 44 (by decide +kernel)) (hn 47 (by decide +kernel)))
  · intro ρ w hB hc hf ho hn; exact OpGives.to 49 rfl rfl (op_ne (e := 4) hc (hn 48 (by decide +kernel)))
  · intro ρ w hB hc hf ho hn; exact OpGives.to 50 rfl rfl (op_move (k := .fv) (by rw [ho 1 (by decide +kernel)]; exact h1))
  · intro ρ w hB hc hf ho hn; exact OpGives.to 51 rfl rfl (op_load (g := g) (a := (.mk 1 (4, [120]) [])) (by rw [ho 2 (by decide +kernel)]; exact h2) (box_below hB hx))
  · intro ρ w hB hc hf ho hn; exact OpGives.to 52 rfl rfl (op_move (k := .fv) (by rw [ho 1 (by decide +kernel)]; exact h1))
  · intro ρ w hB hc hf ho hn; exact OpGives.to 53 rfl rfl (op_load (g := g) (a := (.mk 1 (4, [120]) [])) (by rw [ho 2 (by decide +kernel)]; exact h2) (box_below hB hx))
  · intro ρ w hB hc hf ho hn; exact OpGives.to 54 rfl rfl (op_ns1 (a := (.mk 1 (4, [120]) [])) (hn 53 (by decide +kernel)))
  · intro ρ w hB hc hf ho hn; exact OpGives.to 55 rfl rfl (op_doc (l := [(.mk 1 (4, [120]) [])]) (hn 52 (by decide +kernel)) (hn 54 (by decide +kernel)))
  · intro ρ w hB hc hf ho hn; exact OpGives.to 56 rfl rfl (op_ns2 (a := (.mk 1 (4, [120]) [])) (b := (.mk 4 (0, []) [(.mk 1 (4, [120]) [])])) (hn 51 (by decide +kernel)) (hn 55 (by decide +kernel)))
  · intro ρ w hB hc hf ho hn; exact OpGives.to 57 rfl rfl (op_doc (l := [(.mk 1 (4, [120]) []), (.mk 4 (0, []) [(.mk 1 (4, [120]) [])])]) (hn 50 (by decide +kernel)) (hn 56 (by decide +kernel)))
  · intro ρ w hB hc hf ho hn; exact OpGives.to 58 rfl rfl (op_ne (e := 4) hc (hn 57 (by decide +kernel)))
  · intro ρ w hB hc hf ho hn; exact OpGives.to 59 rfl rfl (op_move (k := .fv) (by rw [ho 1 (by decide +kernel)]; exact h1))
  · intro ρ w hB hc hf ho hn; exact OpGives.to 60 rfl rfl (op_leaf (k := 3) (s := [120]) (l := []) hc hf (by rw [hc]; exact ns_nil w))
  · intro ρ w hB hc hf ho hn; exact OpGives.to 61 rfl rfl (op_ns1 (a := (.mk 1 (3, [120]) [])) (hn 60 (by decide +kernel)))
  · intro ρ w hB hc hf ho hn; exact OpGives.to 62 rfl rfl (op_doc (l := [(.mk 1 (3, [120]) [])]) (hn 59 (by decide +kernel)) (hn 61 (by decide +kernel)))
  · intro ρ w hB hc hf ho hn; exact OpGives.to 63 rfl rfl (op_ne (e := 4) hc (hn 62 (by decide +kernel)))
  · intro ρ w hB hc hf ho hn; exact OpGives.to 64 rfl rfl (op_move (k := .fv) (by rw [ho 1 (by decide +kernel)]; exact h1))
  · intro ρ w hB hc hf ho hn; exact OpGives.to 65 rfl rfl (op_leaf (k := 4) (s := [120, 32]) (l := []) hc hf (by rw [hc]; exact ns_nil w))
  · intro ρ w hB hc hf ho hn; exact OpGives.to 66 rfl rfl (op_ns1 (a := (.mk 1 (4, [120, 32]) [])) (hn 65 (by decide +kernel)))
  · intro ρ w hB hc hf ho hn; exact OpGives.to 67 rfl rfl (op_doc (l := [(.mk 1 (4, [120, 32]) [])]) (hn 64 (by decide +kernel)) (hn 66 (by decide +kernel)))
  · intro ρ w hB hc hf ho hn; exact OpGives.to 68 rfl rfl (op_ne (e := 4) hc (hn 67 (by decide +kernel)))
  · intro ρ w hB hc hf ho hn; exact OpGives.to 69 rfl rfl (op_move (k := .fv) (by rw [ho 1 (by decide +kernel)]; exact h1))
  · intro ρ w hB hc hf ho hn; exact OpGives.to 70 rfl rfl (op_blank (s := [32]) hc hf)
  · intro ρ w hB hc hf ho hn; exact OpGives.to 71 rfl rfl (op_ns1 (a := (.mk 1 (1, [32]) [])) (hn 70 (by decide +kernel)))
  · intro ρ w hB hc hf ho hn; exact OpGives.to 72 rfl rfl (op_doc (l := [(.mk 1 (1, [32]) [])]) (hn 69 (by decide +kernel)) (hn 71 (by decide +kernel)))
  · intro ρ w hB hc hf ho hn; exact OpGives.to 73 rfl rfl (op_ne (e := 4) hc (hn 72 (by decide +kernel)))
  · intro ρ w hB hc hf ho hn; exact OpGives.to 74 rfl rfl (op_move (k := .fv) (by rw [ho 1 (by decide +kernel)]; exact h1))
  · intro ρ w hB hc hf ho hn; exact OpGives.to 75 rfl rfl (op_blank (s := [32]) hc hf)
  · intro ρ w hB hc hf ho hn; exact OpGives.to 76 rfl rfl (op_blank (s := [32]) hc hf)
  · intro ρ w hB hc hf ho hn; exact OpGives.to 77 rfl rfl (op_ns2 (a := (.mk 1 (1, [32]) [])) (b := (.mk 1 (1, [32]) [])) (hn 75 (by decide +kernel)) (hn 76 (by decide +kernel)))
  · intro ρ w hB hc hf ho hn; exact OpGives.to 78 rfl rfl (op_leaf (k := 0) (s := []) (l := [(.mk 1 (1, [32]) []), (.mk 1 (1, [32]) [])]) hc hf (hn 77 (by decide +kernel)))
  · intro ρ w hB hc hf ho hn; exact OpGives.to 79 rfl rfl (op_ns1 (a := (.mk 1 (0, []) [(.mk 1 (1, [32]) []), (.mk 1 (1, [32]) [])])) (hn 78 (by decide +kernel)))
  · intro ρ w hB hc hf ho hn; exact OpGives.to 80 rfl rfl (op_doc (l := [(.mk 1 (0, []) [(.mk 1 (1, [32]) []), (.mk 1 (1, [32]) [])])]) (hn 74 (by decide +kernel)) (hn 79 (by decide +kernel)))
  · intro ρ w hB hc hf ho hn; exact OpGives.to 81 rfl rfl (op_ne (e := 4) hc (hn 80 (by decide +kernel)))
  · intro ρ w hB hc hf ho hn; exact OpGives.to 82 rfl rfl (op_move (k := .fv) (by rw [ho 1 (by decide +kernel)]; exact h1))
  · intro ρ w hB hc hf ho hn; exact OpGives.to 83 rfl rfl (op_blank (s := [32]) hc hf)
  · intro ρ w hB hc hf ho hn; exact OpGives.to 84 rfl rfl (op_leaf (k := 2) (s := [40, 42, 42, 41]) (l := []) hc hf (by rw [hc]; exact ns_nil w))
  · intro ρ w hB hc hf ho hn; exact OpGives.to 85 rfl rfl (op_blank (s := [10]) hc hf)
  · intro ρ w hB hc hf ho hn; exact OpGives.to 86 rfl rfl (op_ns3 (a := (.mk 1 (1, [32]) [])) (b := (.mk 1 (2, [40, 42, 42, 41]) [])) (d := (.mk 1 (1, [10]) [])) (hn 83 (by decide +kernel)) (hn 84 (by decide +kernel)) (hn 85 (by decide +kernel)))
  · intro ρ w hB hc hf ho hn; exact OpGives.to 87 rfl rfl (op_leaf (k := 0) (s := []) (l := [(.mk 1 (1, [32]) []), (.mk 1 (2, [40, 42, 42, 41]) []), (.mk 1 (1, [10]) [])]) hc hf (hn 86 (by decide +kernel)))
  · intro ρ w hB hc hf ho hn; exact OpGives.to 88 rfl rfl (op_ns1 (a := (.mk 1 (0, []) [(.mk 1 (1, [32]) []), (.mk 1 (2, [40, 42, 42, 41]) []), (.mk 1 (1, [10]) [])])) (hn 87 (by decide +kernel)))
  · intro ρ w hB hc hf ho hn; exact OpGives.to 89 rfl rfl (op_doc (l := [(.mk 1 (0, []) [(.mk 1 (1, [32]) []), (.mk 1 (2, [40, 42, 42, 41]) []), (.mk 1 (1, [10]) [])])]) (hn 82 (by decide +kernel)) (hn 88 (by decide +kernel)))
  · intro ρ w hB hc hf ho hn; exact OpGives.to 90 rfl rfl (op_ne (e := 0) hc (hn 89 (by decide +kernel)))
  · intro ρ w hB hc hf ho hn; exact OpGives.to 91 rfl rfl (op_move (k := .fv) (by rw [ho 1 (by decide +kernel)]; exact h1))
  · intro ρ w hB hc hf ho hn; exact OpGives.to 92 rfl rfl (op_leaf (k := 0) (s := [120]) (l := []) hc hf (by rw [hc]; exact ns_nil w))
  · intro ρ w hB hc hf ho hn; exact OpGives.to 93 rfl rfl (op_ns1 (a := (.mk 1 (0, [120]) [])) (hn 92 (by decide +kernel)))
  · intro ρ w hB hc hf ho hn; exact OpGives.to 94 rfl rfl (op_doc (l := [(.mk 1 (0, [120]) [])]) (hn 91 (by decide +kernel)) (hn 93 (by decide +kernel)))
  · intro ρ w hB hc hf ho hn; exact OpGives.to 95 rfl rfl (op_ne (e := 4) hc (hn 94 (by decide +kernel)))
  · intro ρ w hB hc hf ho hn; exact OpGives.to 96 rfl rfl (op_move (k := .fv) (by rw [ho 1 (by decide +kernel)]; exact h1))
  · intro ρ w hB hc hf ho hn; exact OpGives.to 97 rfl rfl (op_leaf (k := 0) (s := []) (l := []) hc hf (by rw [hc]; exact ns_nil w))
  · intro ρ w hB hc hf ho hn; exact OpGives.to 98 rfl rfl (op_load (g := g) (a := (.mk 1 (4, [120]) [])) (by rw [ho 2 (by decide +kernel)]; exact h2) (box_below hB hx))
  · intro ρ w hB hc hf ho hn; exact OpGives.to 99 rfl rfl (op_leaf (k := 0) (s := []) (l := []) hc hf (by rw [hc]; exact ns_nil w))
  · intro ρ w hB hc hf ho hn; exact OpGives.to 100 rfl rfl (op_ns3 (a := (.mk 1 (0, []) [])) (b := (.mk 1 (4, [120]) [])) (d := (.mk 1 (0, []) [])) (hn 97 (by decide +kernel)) (hn 98 (by decide +kernel)) (hn 99 (by decide +kernel)))
  · intro ρ w hB hc hf ho hn; exact OpGives.to 101 rfl rfl (op_doc (l := [(.mk 1 (0, []) []), (.mk 1 (4, [120]) []), (.mk 1 (0, []) [])]) (hn 96 (by decide +kernel)) (hn 100 (by decide +kernel)))
  · intro ρ w hB hc hf ho hn; exact OpGives.to 102 rfl rfl (op_ne (e := 0) hc (hn 101 (by decide +kernel)))
  · intro ρ w hB hc hf ho hn; exact OpGives.to 103 rfl rfl (op_load (g := g) (a := (.mk 1 (4, [120]) [])) (by rw [ho 2 (by decide +kernel)]; exact h2) (box_below hB hx))
  · intro ρ w hB hc hf ho hn; exact OpGives.to 104 rfl rfl (op_ns1 (a := (.mk 1 (4, [120]) [])) (hn 103 (by decide +kernel)))
  · intro ρ w hB hc hf ho hn; exact OpGives.to 105 rfl rfl (op_leaf (k := 4) (s := [120]) (l := [(.mk 1 (4, [120]) [])]) hc hf (hn 104 (by decide +kernel)))
  · intro ρ w hB hc hf ho hn; exact OpGives.to 106 rfl rfl (op_ne (e := 4) hc (hn 105 (by decide +kernel)))
  · intro ρ w hB hc hf ho hn; exact OpGives.to 107 rfl rfl (op_blank (s := [32]) hc hf)
  · intro ρ w hB hc hf ho hn; exact OpGives.to 108 rfl rfl (op_ns1 (a := (.mk 1 (1, [32]) [])) (hn 107 (by decide +kernel)))
  · intro ρ w hB hc hf ho hn; exact OpGives.to 109 rfl rfl (op_leaf (k := 1) (s := [32]) (l := [(.mk 1 (1, [32]) [])]) hc hf (hn 108 (by decide +kernel)))
  · intro ρ w hB hc hf ho hn; exact OpGives.to 110 rfl rfl (op_ns1 (a := (.mk 1 (1, [32]) [(.mk 1 (1, [32]) [])])) (hn 109 (by decide +kernel)))
  · intro ρ w hB hc hf ho hn; exact OpGives.to 111 rfl rfl (op_leaf (k := 4) (s := [120]) (l := [(.mk 1 (1, [32]) [(.mk 1 (1, [32]) [])])]) hc hf (hn 110 (by decide +kernel)))
  · intro ρ w hB hc hf ho hn; exact OpGives.to 112 rfl rfl (op_ne (e := 4) hc (hn 111 (by decide +kernel)))
  · intro ρ w hB hc hf ho hn; exact OpGives.to 113 rfl rfl (op_leaf (k := 2) (s := [40, 42, 42, 41]) (l := []) hc hf (by rw [hc]; exact ns_nil w))
  · intro ρ w hB hc hf ho hn; exact OpGives.to 114 rfl rfl (op_ns1 (a := (.mk 1 (2, [40, 42, 42, 41]) [])) (hn 113 (by decide +kernel)))
  · intro ρ w hB hc hf ho hn; exact OpGives.to 115 rfl rfl (op_leaf (k := 1) (s := [32]) (l := [(.mk 1 (2, [40, 42, 42, 41]) [])]) hc hf (hn 114 (by decide +kernel)))
  · intro ρ w hB hc hf ho hn; exact OpGives.to 116 rfl rfl (op_ns1 (a := (.mk 1 (1, [32]) [(.mk 1 (2, [40, 42, 42, 41]) [])])) (hn 115 (by decide +kernel)))
  · intro ρ w hB hc hf ho hn; exact OpGives.to 117 rfl rfl (op_leaf (k := 4) (s := [120]) (l := [(.mk 1 (1, [32]) [(.mk 1 (2, [40, 42, 42, 41]) [])])]) hc hf (hn 116 (by decide +kernel)))
  · intro ρ w hB hc hf ho hn; exact OpGives.to 118 rfl rfl (op_ne (e := 4) hc (hn 117 (by decide +kernel)))
  · intro ρ w hB hc hf ho hn; exact OpGives.to 119 rfl rfl (op_load (g := g) (a := (.mk 1 (4, [120]) [])) (by rw [ho 2 (by decide +kernel)]; exact h2) (box_below hB hx))
  · intro ρ w hB hc hf ho hn; exact OpGives.to 120 rfl rfl (op_ns1 (a := (.mk 1 (4, [120]) [])) (hn 119 (by decide +kernel)))
  · intro ρ w hB hc hf ho hn; exact OpGives.to 121 rfl rfl (op_kids (k := 2) hc (hn 120 (by decide +kernel)))
  · intro ρ w hB hc hf ho hn; exact OpGives.to 122 rfl rfl (op_ne (e := 4) hc (hn 121 (by decide +kernel)))
  · intro ρ w hB hc hf ho hn; exact OpGives.to 123 rfl rfl (op_tk0 (k := 4) hc)
  · intro ρ w hB hc hf ho hn; exact OpGives.to 124 rfl rfl (op_tok (k := 2) hc (hn 123 (by decide +kernel)))
  · intro ρ w hB hc hf ho hn; exact OpGives.to 125 rfl rfl (op_ne (e := 4) hc (hn 124 (by decide +kernel)))
  · intro ρ w hB hc hf ho hn; exact OpGives.to 126 rfl rfl (op_none)
  · intro ρ w hB hc hf ho hn; exact OpGives.to 127 rfl rfl (op_ne (e := 4) hc (hn 126 (by decide +kernel)))
  · intro ρ w hB hc hf ho hn; exact OpGives.to 128 rfl rfl (op_kind (k := 19) hc)
  · intro ρ w hB hc hf ho hn; exact OpGives.to 129 rfl rfl (op_ne (e := 4) hc (hn 128 (by decide +kernel)))
  · intro ρ w hB hc hf ho hn; exact OpGives.to 130 rfl rfl (op_tk1 (s := [120]) hc)
  · intro ρ w hB hc hf ho hn; exact OpGives.to 131 rfl rfl (op_tok (k := 8) hc (hn 130 (by decide +kernel)))
  · intro ρ w hB hc hf ho hn; exact OpGives.to 132 rfl rfl (op_ne (e := 4) hc (hn 131 (by decide +kernel)))
  · intro ρ w hB hc hf ho hn; exact OpGives.to 133 rfl rfl (op_move (k := .fv) (by rw [ho 1 (by decide +kernel)]; exact h1))
  · intro ρ w hB hc hf ho hn; exact OpGives.to 134 rfl rfl (op_leaf (k := 8) (s := [45]) (l := []) hc hf (by rw [hc]; exact ns_nil w))
  · intro ρ w hB hc hf ho hn; exact OpGives.to 135 rfl rfl (op_leaf (k := 8) (s := [62]) (l := []) hc hf (by rw [hc]; exact ns_nil w))
  · intro ρ w hB hc hf ho hn; exact OpGives.to 136 rfl rfl (op_ns2 (a := (.mk 1 (8, [45]) [])) (b := (.mk 1 (8, [62]) [])) (hn 134 (by decide +kernel)) (hn 135 (by decide +kernel)))
  · intro ρ w hB hc hf ho hn; exact OpGives.to 137 rfl rfl (op_doc (l := [(.mk 1 (8, [45]) []), (.mk 1 (8, [62]) [])]) (hn 133 (by decide +kernel)) (hn 136 (by decide +kernel)))
  · intro ρ w hB hc hf ho hn; exact OpGives.to 138 rfl rfl (op_ne (e := 4) hc (hn 137 (by decide +kernel)))
  · intro ρ w hB hc hf ho hn; exact OpGives.to 139 rfl rfl (op_move (k := .fv) (by rw [ho 1 (by decide +kernel)]; exact h1))
  · intro ρ w hB hc hf ho hn; exact OpGives.to 140 rfl rfl (op_leaf (k := 9) (s := [40, 42]) (l := []) hc hf (by rw [hc]; exact ns_nil w))
  · intro ρ w hB hc hf ho hn; exact OpGives.to 141 rfl rfl (op_load (g := g) (a := (.mk 1 (4, [120]) [])) (by rw [ho 2 (by decide +kernel)]; exact h2) (box_below hB hx))
  · intro ρ w hB hc hf ho hn; exact OpGives.to 142 rfl rfl (op_ns2 (a := (.mk 1 (9, [40, 42]) [])) (b := (.mk 1 (4, [120]) [])) (hn 140 (by decide +kernel)) (hn 141 (by decide +kernel)))
  · intro ρ w hB hc hf ho hn; exact OpGives.to 143 rfl rfl (op_doc (l := [(.mk 1 (9, [40, 42]) []), (.mk 1 (4, [120]) [])]) (hn 139 (by decide +kernel)) (hn 142 (by decide +kernel)))
  · intro ρ w hB hc hf ho hn; exact OpGives.to 144 rfl rfl (op_ne (e := 4) hc (hn 143 (by decide +kernel)))
  · intro ρ w hB hc hf ho hn; exact OpGives.to 145 rfl rfl (op_move (k := .fv) (by rw [ho 1 (by decide +kernel)]; exact h1))
  · intro ρ w hB hc hf ho hn; exact OpGives.to 146 rfl rfl (op_load (g := g) (a := (.mk 1 (4, [120]) [])) (by rw [ho 2 (by decide +kernel)]; exact h2) (box_below hB hx))
  · intro ρ w hB hc hf ho hn; exact OpGives.to 147 rfl rfl (op_leaf (k := 9) (s := [40, 42]) (l := []) hc hf (by rw [hc]; exact ns_nil w))
  · intro ρ w hB hc hf ho hn; exact OpGives.to 148 rfl rfl (op_ns2 (a := (.mk 1 (4, [120]) [])) (b := (.mk 1 (9, [40, 42]) [])) (hn 146 (by decide +kernel)) (hn 147 (by decide +kernel)))
  · intro ρ w hB hc hf ho hn; exact OpGives.to 149 rfl rfl (op_doc (l := [(.mk 1 (4, [120]) []), (.mk 1 (9, [40, 42]) [])]) (hn 145 (by decide +kernel)) (hn 148 (by decide +kernel)))
  · intro ρ w hB hc hf ho hn; exact OpGives.to 150 rfl rfl (op_ne (e := 0) hc (hn 149 (by decide +kernel)))
  · intro ρ w hB hc hf ho hn; exact OpGives.to 151 rfl rfl (op_kind (k := 18) hc)
  · intro ρ w hB hc hf ho hn; exact OpGives.to 152 rfl rfl (op_ne (e := 0) hc (hn 151 (by decide +kernel)))
  · intro ρ w hB hc hf ho hn; exact OpGives.to 153 rfl rfl (op_rows (hn 43 (by decide +kernel)) (hn 49 (by decide +kernel)) (hn 58 (by decide +kernel)) (hn 63 (by decide +kernel)) (hn 68 (by decide +kernel)) (hn 73 (by decide +kernel)) (hn 81 (by decide +kernel)) (hn 90 (by decide +kernel)) (hn 95 (by decide +kernel)) (hn 102 (by decide +kernel)) (hn 106 (by decide +kernel)) (hn 112 (by decide +kernel)) (hn 118 (by decide +kernel)) (hn 122 (by decide +kernel)) (hn 125 (by decide +kernel)) (hn 127 (by decide +kernel)) (hn 129 (by decide +kernel)) (hn 132 (by decide +kernel)) (hn 138 (by decide +kernel)) (hn 144 (by decide +kernel)) (hn 150 (by decide +kernel)) (hn 152 (by decide +kernel)))
  · intro ρ w hB hc hf ho hn; exact OpGives.to 154 rfl rfl (op_len (l := casesL) (hn 153 (by decide +kernel)))
  · intro ρ w hB hc hf ho hn; exact OpGives.to 155 rfl rfl (op_move (k := .num 0) (hc _))
set_option maxRecDepth 100000 in
theorem names_rows {id : Nat} {a0 : Act} {W0 : World} {g : Nat} {Q : Exit → Act → World → Prop} (hs : a0.tmps.size = 294) (h1 : a0.eval (.tmp 1) = .func (.func 9) #[] #[]) (h2 : a0.eval (.tmp 2) = .pointer (some ⟨g, 0, none⟩)) (hx : BoxAt W0 g (.mk 1 (4, [120]) []))
    (hend : ∀ a w, Below W0.heap.size W0 w → a.tmps.size = 294 → a.defers = a0.defers → (∀ d, outB namesOps d = true → a.tmps[d]? = a0.tmps[d]?) → Is (.rows casesL) w (a.eval (.tmp 153)) → a.eval (.tmp 154) = .int .i64 22 → a.eval (.tmp 155) = .int .i64 0 → Q .normal a w) : (Code.region id namesOps true).wp Tryz.prog Q a0 W0 := by
  refine region_slots rfl (fun d w v => Is (kT d) w v) (fun d w w' v hb h => h.below hb) (by decide +kernel) (by rw [hs]; decide +kernel) (fun i o ho => names_steps h1 h2 hx o (by rw [Array.mem_toList_iff]; exact Array.mem_of_getElem? ho)) (fun a w hb h3 h4 h5 h6 => ?_)
  exact hend a w hb (h3.trans hs) h4 h5 (h6 112 _ 153 rfl rfl) (h6 113 _ 154 rfl rfl) (h6 114 _ 155 rfl rfl)
end Go.Proofs.YtingfomfibhnhaaGreatDoor
