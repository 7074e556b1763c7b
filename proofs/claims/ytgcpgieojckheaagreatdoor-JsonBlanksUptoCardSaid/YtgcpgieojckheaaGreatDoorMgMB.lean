/-
  given: a value copied.
-/
import Derived.Test.YtgcpgieojckheaaGreatDoorMgKX
import Derived.Test.YtgcpgieojckheaaGreatDoorMgKJ
import Derived.Test.YtgcpgieojckheaaGreatDoorMgMC
namespace Go.Proofs.YtgcpgieojckheaaGreatDoor.Json
open Go.RowKit Go.Shelf

theorem und44b : Tryz.prog.underlying 44 = some (.slice 9) := by kernel_rfl
/-- Nothing appended to a row of no room. -/
theorem append_none (g : Nat) (pc : Option Addr) (cc : Nat) (w : World) : (Builtin.append_ #[44, 44] 44 #[.slice (some ⟨g, 0, none⟩) 0 0, .slice pc 0 cc]).run Tryz.prog w = .ok (.slice (some ⟨g, 0, none⟩) 0 0) w := by
  obtain ⟨i9, hi, hz0, hz1, hz2⟩ := info_parts info9
  cases pc with
  | none => simp [Builtin.append_, run_underlying und44b, sizeOf, typeInfo, hi, Builtin.lenOf, Builtin.firstCells, storeCells]
  | some a => simp [Builtin.append_, run_underlying und44b, sizeOf, typeInfo, hi, Builtin.lenOf, Builtin.firstCells, storeCells, loadCells, loadCellsFrom]
mutual
/-- Lists that may be copied. -/
def bigM : J → Prop
  | .mk _ _ ns ls => ns.length ≤ 1000000 ∧ ls.length ≤ 1000000 ∧ bigsM ls
def bigsM : List J → Prop
  | [] => True
  | j :: js => bigM j ∧ bigsM js
end
theorem bigsM_at : ∀ (l : List J) (i : Nat) (x : J), bigsM l → l[i]? = some x → bigM x
  | [], i, x, _, h => by simp at h
  | j :: js, 0, x, h, hx => by
    simp at hx; subst hx
    unfold bigsM at h; exact h.1
  | j :: js, i + 1, x, h, hx => by
    simp at hx
    unfold bigsM at h
    exact bigsM_at js i x h.2 hx
/-- The out value, begun: its box, the row of names. -/
def GIn (w2 : World) (K : Int) (tx : ByteArray) (ns : List (List UInt8)) (O : Nat) (pn : Option Addr) (cn : Nat) (wx : World) : Prop :=
  Below w2.heap.size w2 wx ∧ w2.heap.size ≤ O ∧ O < wx.heap.size ∧ wx.heap[O]? = some (.cells #[.int .u8 K, .string tx, .slice pn ns.length cn, .slice none 0 0] 47 (0, 0)) ∧ SlIn (fun g => w2.heap.size ≤ g ∧ g ≠ O) wx (.slice pn ns.length cn) 1 ns.length (ns.map bl)
theorem gin_none {w2 wx : World} {K : Int} {tx : ByteArray} {ns : List (List UInt8)} {O : Nat} {pn : Option Addr} (hz : ns.length = 0) (hb : Below w2.heap.size w2 wx) (h1 : w2.heap.size ≤ O)
    (h3 : wx.heap[O]? = some (.cells #[.int .u8 K, .string tx, .slice pn 0 0, .slice none 0 0] 47 (0, 0))) : GIn w2 K tx ns O pn 0 wx :=
  ⟨hb, h1, (Array.getElem?_eq_some_iff.1 h3).1, by rw [hz]; exact h3, by rw [hz]; exact ⟨by simp [hz], pn, 0, rfl, Nat.le_refl _, .inl rfl⟩⟩
theorem gin_a {w2 w3 : World} {K : Int} {tx : ByteArray} {ns : List (List UInt8)} {g cap : Nat} (hb : Below w2.heap.size w2 w3) (hown : w3.ownsRow w2.heap.size 9 1 (.slice (some ⟨g, 0, none⟩) ns.length cap) ns.length (ns.map bl)) :
    GIn w2 K tx ns w3.heap.size (some ⟨g, 0, none⟩) cap (w3.alloc (.cells #[.int .u8 K, .string tx, .slice (some ⟨g, 0, none⟩) ns.length cap, .slice none 0 0] 47)) := by
  have hl := (hown.lt g rfl).2
  refine ⟨galloc hb _, hb.size, by simp, World.alloc_heap_new w3 _, ?_⟩
  have h1 : SlIn (fun i => w2.heap.size ≤ i ∧ i ≠ w3.heap.size) w3 (.slice (some ⟨g, 0, none⟩) ns.length cap) 1 ns.length (ns.map bl) := SlIn.of_owns hown (fun i hi => ⟨(hown.lt i hi).1, by have := (hown.lt i hi).2; omega⟩)
  exact h1.world ⟨by simp, fun i hi _ => (galloc (Below.refl w3.heap.size w3) _).block i hi⟩
theorem gin_b {w2 w3 : World} {K : Int} {tx : ByteArray} {ns : List (List UInt8)} {O g cap : Nat} (hb : Below w2.heap.size w2 w3) (hown : w3.ownsRow w2.heap.size 9 1 (.slice (some ⟨g, 0, none⟩) ns.length cap) ns.length (ns.map bl)) (hO : w2.heap.size ≤ O) (hg : g ≠ O)
    (h3 : w3.heap[O]? = some (.cells #[.int .u8 0, .string ⟨#[]⟩, .slice none 0 0, .slice none 0 0] 47 (0, 0))) :
    GIn w2 K tx ns O (some ⟨g, 0, none⟩) cap ((((w3.setCell ⟨O, 0, none⟩ (.int .u8 K)).setCell ⟨O, 1, none⟩ (.string tx)).setCell ⟨O, 2, none⟩ (.slice (some ⟨g, 0, none⟩) ns.length cap)).setCell ⟨O, 3, none⟩ (.slice none 0 0)) := by
  have hB := (((hb.setCell (p := ⟨O, 0, none⟩) hO (.int .u8 K)).setCell (p := ⟨O, 1, none⟩) hO (.string tx)).setCell (p := ⟨O, 2, none⟩) hO (.slice (some ⟨g, 0, none⟩) ns.length cap)).setCell (p := ⟨O, 3, none⟩) hO (.slice none 0 0)
  have hbox := box_four h3 (.int .u8 K) (.string tx) (.slice (some ⟨g, 0, none⟩) ns.length cap) (.slice none 0 0)
  have o : ∀ i, i ≠ O → ((((w3.setCell ⟨O, 0, none⟩ (.int .u8 K)).setCell ⟨O, 1, none⟩ (.string tx)).setCell ⟨O, 2, none⟩ (.slice (some ⟨g, 0, none⟩) ns.length cap)).setCell ⟨O, 3, none⟩ (.slice none 0 0)).heap[i]? = w3.heap[i]? := fun i hk => by
    rw [(Only.set O _ 3 _).block i hk, (Only.set O _ 2 _).block i hk, (Only.set O _ 1 _).block i hk, (Only.set O _ 0 _).block i hk]
  have sz : ((((w3.setCell ⟨O, 0, none⟩ (.int .u8 K)).setCell ⟨O, 1, none⟩ (.string tx)).setCell ⟨O, 2, none⟩ (.slice (some ⟨g, 0, none⟩) ns.length cap)).setCell ⟨O, 3, none⟩ (.slice none 0 0)).heap.size = w3.heap.size := by
    rw [(Only.set O _ 3 _).size, (Only.set O _ 2 _).size, (Only.set O _ 1 _).size, (Only.set O _ 0 _).size]
  generalize (((w3.setCell ⟨O, 0, none⟩ (.int .u8 K)).setCell ⟨O, 1, none⟩ (.string tx)).setCell ⟨O, 2, none⟩ (.slice (some ⟨g, 0, none⟩) ns.length cap)).setCell ⟨O, 3, none⟩ (.slice none 0 0) = wf at *
  refine ⟨hB, hO, (Array.getElem?_eq_some_iff.1 hbox).1, hbox, ?_⟩
  have h1 : SlIn (fun i => w2.heap.size ≤ i ∧ i ≠ O) w3 (.slice (some ⟨g, 0, none⟩) ns.length cap) 1 ns.length (ns.map bl) := SlIn.of_owns hown (fun i hi => ⟨(hown.lt i hi).1, by
    have : g = i := by simpa [Value.ownBlock] using hi
    omega⟩)
  exact h1.world ⟨by rw [sz]; exact Nat.le_refl _, fun i _ h => o i h.2⟩
theorem grown_below {w w' : World} {B : Nat} {row : Option Nat} (hg : w.grownBy w' row) (hr : ∀ g, row = some g → B ≤ g) (hB : B ≤ w.heap.size) : Below B w w' :=
  ⟨hg.os, hg.tape, hg.output, hg.size, fun k hk => hg.block k (by omega) (fun e => by have := hr k e.symm; omega)⟩
theorem zero_b {w2 w3 : World} {cs : Array Value} (hg : ((w2.alloc (.cells #[] 9)).alloc (.cells cs 47)).drew.grownBy w3 (Value.slice (some ⟨w2.heap.size, 0, none⟩) 0 0).ownBlock) : w3.heap[w2.heap.size + 1]? = some (.cells cs 47 (0, 0)) := by
  refine (hg.block (w2.heap.size + 1) (by simp) (by simp [Value.ownBlock])).trans ?_
  have := World.alloc_heap_new (w2.alloc (.cells #[] 9)) (.cells cs 47)
  rw [show (w2.alloc (.cells #[] 9)).heap.size = w2.heap.size + 1 by simp] at this
  exact this
theorem zero_a {w2 w3 : World} {cs : Array Value} (hg : ((w2.alloc (.cells cs 47)).alloc (.cells #[] 9)).drew.grownBy w3 (Value.slice (some ⟨w2.heap.size + 1, 0, none⟩) 0 0).ownBlock) : w3.heap[w2.heap.size]? = some (.cells cs 47 (0, 0)) := by
  refine (hg.block w2.heap.size (by simp; omega) (by simp [Value.ownBlock])).trans ?_
  exact ((galloc (Below.refl (w2.alloc (.cells cs 47)).heap.size (w2.alloc (.cells cs 47))) (.cells #[] 9)).block w2.heap.size (by simp)).trans (World.alloc_heap_new w2 _)
theorem own_zero {w : World} {B n : Nat} {g cap : Nat} {xs : List Value} (h : w.ownsRow B 9 1 (.slice (some ⟨g, 0, none⟩) (0 + n) cap) (0 + n) ([] ++ xs)) : w.ownsRow B 9 1 (.slice (some ⟨g, 0, none⟩) n cap) n xs := by
  rw [Nat.zero_add, List.nil_append] at h; exact h
theorem keep_n {w2 wA w3 : World} {N o : Nat} {v : Value} {row : Option Nat} (hbA : Below w2.heap.size w2 wA) (hg : wA.grownBy w3 row) (hr : ∀ g, row = some g → w2.heap.size ≤ g) (hN : N < w2.heap.size) (hc : w2.cell? ⟨N, o, none⟩ = some v) : w3.cell? ⟨N, o, none⟩ = some v :=
  (World.cell?_of_block (a := ⟨N, o, none⟩) ((hg.block N (Nat.lt_of_lt_of_le hN hbA.size) (fun e => by have := hr N e.symm; omega)).trans (hbA.block N hN))).trans hc
theorem keep_n2 {w3 : World} {N o : Nat} {v : Value} (hc : w3.cell? ⟨N, o, none⟩ = some v) (x : Obj) : (w3.alloc x).cell? ⟨N, o, none⟩ = some v := cell_in (galloc (Below.refl w3.heap.size w3) x) hc
theorem keepD' {w : World} {a : Addr} {v : Value} (h : w.cell? a = some v) : w.drew.cell? a = some v := h
theorem keepA' {w : World} {a : Addr} {v : Value} (h : w.cell? a = some v) (o : Obj) : (w.alloc o).cell? a = some v := cell_in (galloc (Below.refl w.heap.size w) o) h
theorem keepS' {w : World} {N O k j : Nat} {u v : Value} (hne : N ≠ O) (h : w.cell? ⟨N, k, none⟩ = some v) : (w.setCell ⟨O, j, none⟩ u).cell? ⟨N, k, none⟩ = some v :=
  (World.cell?_of_block (a := ⟨N, k, none⟩) ((Only.set O w j u).block N hne)).trans h
/-- The box of the out value, and its row of values so far. -/
def GInv (w0 : World) (O : Nat) (a b c : Value) (js : List J) (wr : World) : Prop :=
  But O w0 wr ∧ ∃ (pd : Option Addr) (cd : Nat) (xs : List Value), wr.heap[O]? = some (.cells #[a, b, c, .slice pd js.length cd] 47 (0, 0)) ∧ wr.ownsRow w0.heap.size 47 4 (.slice pd js.length cd) js.length xs ∧
    JsAt (fun g => w0.heap.size ≤ g ∧ (Value.slice pd js.length cd).ownBlock ≠ some g ∧ (Value.slice none 0 0).ownBlock ≠ some g) wr js xs
theorem own_o {w : World} {B O : Nat} {v : Value} {n : Nat} {xs : List Value} (h : w.ownsRow B 47 4 v n xs) (hO : O < B) : some O ≠ v.ownBlock := fun e => by have := (h.lt O e.symm).1; omega
theorem ginv_step {w0 wr w5 w6 : World} {O g cap : Nat} {a b c p q u x : Value} {pd : Option Addr} {cd n : Nat} {js : List J} {j : J} {xs : List Value} (hn : js.length = n) (hO : O < w0.heap.size) (hb : But O w0 wr)
    (hh : wr.heap[O]? = some (.cells #[a, b, c, .slice pd n cd] 47 (0, 0))) (hown : wr.ownsRow w0.heap.size 47 4 (.slice pd n cd) n xs)
    (hjs : JsAt (fun g => w0.heap.size ≤ g ∧ (Value.slice pd n cd).ownBlock ≠ some g ∧ (Value.slice none 0 0).ownBlock ≠ some g) wr js xs)
    (hb5 : Below wr.heap.size wr w5) (hj : JAt (fun g => wr.heap.size ≤ g) w5 j [p, q, u, x])
    (hgrow : (w5.alloc (.cells #[p, q, u, x] 47)).grownBy w6 (Value.slice pd n cd).ownBlock) (hown3 : w6.ownsRow w0.heap.size 47 4 (.slice (some ⟨g, 0, none⟩) (n + 1) cap) (n + 1) (xs ++ [p, q, u, x]))
    (hat : (Value.slice pd n cd).ownBlock = some g ∨ g = (w5.alloc (.cells #[p, q, u, x] 47)).heap.size) :
    GInv w0 O a b c (js ++ [j]) (w6.setCell ⟨O, 3, none⟩ (.slice (some ⟨g, 0, none⟩) (n + 1) cap)) := by
  subst hn
  have hO5 : some O ≠ (Value.slice pd js.length cd).ownBlock := own_o hown hO
  have hs := hb.size
  have hs5 := hb5.size
  obtain ⟨_, hj6⟩ := rows_snoc (b := O) (nv := .slice none 0 0) (ns := []) (w := wr) (wx := w5) (w2 := w6) (v' := .slice (some ⟨g, 0, none⟩) (js.length + 1) cap) (o := .cells #[p, q, u, x] 47) (World.ownsRow_nil _ _ _ _) hown hjs hs hO (But.of hb5) hj hgrow hown3
    (by rcases hat with h | h
        · exact .inl (by rw [h]; rfl)
        · exact .inr (by rw [h]; simp [Value.ownBlock]))
  have hOl : O < wr.heap.size := by omega
  have hb6 : But O w0 w6 := ((hb.trans (But.of hb5)).trans (But.of (galloc (Below.refl w5.heap.size w5) (.cells #[p, q, u, x] 47)))).grownB hgrow (fun g hg => (hown.lt g hg).1)
  have hO6 : w6.heap[O]? = some (.cells #[a, b, c, .slice pd js.length cd] 47 (0, 0)) := (hgrow.block O (by simp; omega) hO5).trans (((galloc (Below.refl w5.heap.size w5) _).block O (by omega)).trans ((hb5.block O hOl).trans hh))
  have ho := Only.set O w6 3 (.slice (some ⟨g, 0, none⟩) (js.length + 1) cap)
  refine ⟨hb6.trans (But.set _ _ _ _), some ⟨g, 0, none⟩, cap, xs ++ [p, q, u, x], ?_, ?_, ?_⟩
  · rw [List.length_append]
    exact heap_setCell_same w6 O 3 _ _ _ hO6
  · rw [List.length_append]
    exact ownsRow_setCell_other hown3 (fun e => by have := (hown3.lt O e).1; omega) _
  · rw [List.length_append]
    exact JsAt.world ⟨Nat.le_of_eq ho.size.symm, fun k _ hk => ho.block k (fun e => by have := hk.1; omega)⟩ _ _ hj6
/-- The out value, told: its box R. -/
theorem given_end {W w2 wc wr : World} {k : Nat} {K : Int} {t : List UInt8} {tx : ByteArray} {ns : List (List UInt8)} {ls : List J} {O R : Nat} {pn : Option Addr} {cn : Nat} {pd : Option Addr} {cd : Nat}
    (hK : (k : Int) = K) (ht : bl t = .string tx) (hbW : Below W.heap.size W w2) (hWR : W.heap.size ≤ R) (hR2 : R < w2.heap.size) (hG : GIn w2 K tx ns O pn cn wc)
    (hI : GInv wc O (.int .u8 K) (.string tx) (.slice pn ns.length cn) ls wr) (hO : wr.heap[O]? = some (.cells #[.int .u8 K, .string tx, .slice pn ns.length cn, .slice pd ls.length cd] 47 (0, 0)))
    (hR : wr.heap[R]? = some (.cells #[.int .u8 0, .string ⟨#[]⟩, .slice none 0 0, .slice none 0 0] 47 (0, 0))) :
    JVal (fun g => W.heap.size ≤ g) ((((wr.setCell ⟨R, 0, none⟩ (.int .u8 K)).setCell ⟨R, 1, none⟩ (.string tx)).setCell ⟨R, 2, none⟩ (.slice pn ns.length cn)).setCell ⟨R, 3, none⟩ (.slice pd ls.length cd)) (.mk k t ns ls) (.agg #[.int .u8 K, .string tx, .slice pn ns.length cn, .slice pd ls.length cd]) ∧
    Below W.heap.size W ((((wr.setCell ⟨R, 0, none⟩ (.int .u8 K)).setCell ⟨R, 1, none⟩ (.string tx)).setCell ⟨R, 2, none⟩ (.slice pn ns.length cn)).setCell ⟨R, 3, none⟩ (.slice pd ls.length cd)) ∧
    ((((wr.setCell ⟨R, 0, none⟩ (.int .u8 K)).setCell ⟨R, 1, none⟩ (.string tx)).setCell ⟨R, 2, none⟩ (.slice pn ns.length cn)).setCell ⟨R, 3, none⟩ (.slice pd ls.length cd)).heap[R]? = some (.cells #[.int .u8 K, .string tx, .slice pn ns.length cn, .slice pd ls.length cd] 47 (0, 0)) := by
  subst hK
  obtain ⟨hb, pe, ce, xs, hO', hown, hjs⟩ := hI
  obtain ⟨g1, g2, g3, g4, g5⟩ := hG
  rw [hO] at hO'
  have e := Option.some.inj hO'
  injection e with e _ _
  have e3 : (Value.slice pd ls.length cd) = .slice pe ls.length ce := by
    have := congrArg (fun (x : Array Value) => x[3]?) e
    simpa using this
  have hs1 := hbW.size
  have hs2 := g1.size
  have hs3 := hb.size
  have o : ∀ i, i ≠ R → ((((wr.setCell ⟨R, 0, none⟩ (.int .u8 (k : Int))).setCell ⟨R, 1, none⟩ (.string tx)).setCell ⟨R, 2, none⟩ (.slice pn ns.length cn)).setCell ⟨R, 3, none⟩ (.slice pd ls.length cd)).heap[i]? = wr.heap[i]? := fun i hk => by
    rw [(Only.set R _ 3 _).block i hk, (Only.set R _ 2 _).block i hk, (Only.set R _ 1 _).block i hk, (Only.set R _ 0 _).block i hk]
  have sz : ((((wr.setCell ⟨R, 0, none⟩ (.int .u8 (k : Int))).setCell ⟨R, 1, none⟩ (.string tx)).setCell ⟨R, 2, none⟩ (.slice pn ns.length cn)).setCell ⟨R, 3, none⟩ (.slice pd ls.length cd)).heap.size = wr.heap.size := by
    rw [(Only.set R _ 3 _).size, (Only.set R _ 2 _).size, (Only.set R _ 1 _).size, (Only.set R _ 0 _).size]
  have hBr : Below W.heap.size W wr := by
    have hx := gcall hbW g1
    exact ⟨hb.os.trans hx.os, hb.tape.trans hx.tape, hb.output.trans hx.output, Nat.le_trans hx.size hb.size, fun k hk => (hb.block k (by omega) (by omega)).trans (hx.block k hk)⟩
  have hBf := (((hBr.setCell (p := ⟨R, 0, none⟩) hWR (.int .u8 (k : Int))).setCell (p := ⟨R, 1, none⟩) hWR (.string tx)).setCell (p := ⟨R, 2, none⟩) hWR (.slice pn ns.length cn)).setCell (p := ⟨R, 3, none⟩) hWR (.slice pd ls.length cd)
  have hbox := box_four hR (.int .u8 (k : Int)) (.string tx) (.slice pn ns.length cn) (.slice pd ls.length cd)
  generalize (((wr.setCell ⟨R, 0, none⟩ (.int .u8 (k : Int))).setCell ⟨R, 1, none⟩ (.string tx)).setCell ⟨R, 2, none⟩ (.slice pn ns.length cn)).setCell ⟨R, 3, none⟩ (.slice pd ls.length cd) = wf at *
  clear hBr hR hO hO' e g4
  refine ⟨⟨_, _, _, _, rfl, ?_⟩, hBf, hbox⟩
  unfold JAt
  rw [← ht]
  refine ⟨_, _, xs, rfl, ?_, ?_, ?_⟩
  · have hst : Stays (fun g => w2.heap.size ≤ g ∧ g ≠ O) wc wf := ⟨by rw [sz]; exact hs3, fun i hi h => (o i (by have := h.1; omega)).trans (hb.block i hi h.2)⟩
    exact SlIn.mono (g5.world hst) (fun i _ h => by have := h.1; omega)
  · rw [e3]
    have hst : Stays (fun g => wc.heap.size ≤ g) wr wf := ⟨by rw [sz]; exact Nat.le_refl _, fun i _ h => o i (by have h : wc.heap.size ≤ i := h; omega)⟩
    exact SlIn.mono ((SlIn.of_owns hown (fun g hg => (hown.lt g hg).1)).world hst) (fun i _ h => by have h : wc.heap.size ≤ i := h; omega)
  · have hst : Stays (fun g => wc.heap.size ≤ g) wr wf := ⟨by rw [sz]; exact Nat.le_refl _, fun i _ h => o i (by have h : wc.heap.size ≤ i := h; omega)⟩
    exact JsAt.mono (fun i _ h => by have h : wc.heap.size ≤ i := h; omega) ls xs (JsAt.world hst ls xs (JsAt.mono (fun i _ h => h.1) ls xs hjs))
set_option maxHeartbeats 8000000 in
set_option maxRecDepth 100000 in
theorem given_one (k : Nat) (t : List UInt8) (ns : List (List UInt8)) (ls : List J) (W : World) (pc : Option Addr) (cc : Nat) (pd : Option Addr) (cd : Nat) (vs : List Value)
    (hnl : ns.length ≤ 1000000) (hll : ls.length ≤ 1000000) (hc : SlIn AnyB W (.slice pc ns.length cc) 1 ns.length (ns.map bl))
    (hd : SlIn AnyB W (.slice pd ls.length cd) 4 ls.length vs) (hj : JsAt AnyB W ls vs)
    (HREC : Hid (∀ (i : Nat) x, ls[i]? = some x → ∀ (w : World) (cs : List Value), JAt AnyB w x cs → Calls Tryz.prog 39 #[.agg cs.toArray] w fun e w' => ∃ v, e = .returned v ∧ JVal (fun g => w.heap.size ≤ g) w' x v ∧ Below w.heap.size w w')) :
    Calls Tryz.prog 39 #[.agg #[.int .u8 k, bl t, .slice pc ns.length cc, .slice pd ls.length cd]] W fun e w' => ∃ v, e = .returned v ∧ JVal (fun g => W.heap.size ≤ g) w' (.mk k t ns ls) v ∧ Below W.heap.size W w' := by
  obtain ⟨tx, hbl⟩ : ∃ tx : ByteArray, bl t = .string tx := ⟨_, rfl⟩
  obtain ⟨K, hK⟩ : ∃ K : Int, (k : Int) = K := ⟨_, rfl⟩
  rw [hK, hbl]
  obtain ⟨w1, hw1⟩ : ∃ w1, W.alloc (.cells #[.int .u8 K, .string tx, .slice pc ns.length cc, .slice pd ls.length cd] 47) = w1 := ⟨_, rfl⟩
  have hp1 : w1.heap[W.heap.size]? = some (.cells #[.int .u8 K, .string tx, .slice pc ns.length cc, .slice pd ls.length cd] 47 (0, 0)) := by rw [← hw1]; exact World.alloc_heap_new W _
  have hb1 : Below W.heap.size W w1 := by rw [← hw1]; exact galloc (Below.refl _ _) _
  have hs1 : w1.heap.size = W.heap.size + 1 := by rw [← hw1]; simp
  obtain ⟨w2, hw2⟩ : ∃ w2, w1.alloc (.cells #[.int .u8 0, .string ⟨#[]⟩, .slice none 0 0, .slice none 0 0] 47) = w2 := ⟨_, rfl⟩
  have hp2 : w2.heap[w1.heap.size]? = some (.cells #[.int .u8 0, .string ⟨#[]⟩, .slice none 0 0, .slice none 0 0] 47 (0, 0)) := by rw [← hw2]; exact World.alloc_heap_new w1 _
  have hb2 : Below w1.heap.size w1 w2 := by rw [← hw2]; exact galloc (Below.refl _ _) _
  have hs2 : w2.heap.size = W.heap.size + 2 := by rw [← hw2]; simp [hs1]
  have hbW : Below W.heap.size W w2 := gcall hb1 hb2
  obtain ⟨N, hN⟩ : ∃ N, W.heap.size = N := ⟨_, rfl⟩
  obtain ⟨R, hR⟩ : ∃ R, w1.heap.size = R := ⟨_, rfl⟩
  have hq2 : w2.heap[N]? = some (.cells #[.int .u8 K, .string tx, .slice pc ns.length cc, .slice pd ls.length cd] 47 (0, 0)) := by rw [← hN]; exact (hb2.block _ (by omega)).trans hp1
  rw [hR] at hp2
  obtain ⟨d0, d1, d2, d3⟩ := box_cells hq2
  have HQ2 := Lib.hid hq2
  have HP2 := Lib.hid hp2
  have HBW := Lib.hid hbW
  have HD := Lib.hid hd
  have HC := Lib.hid hc
  have HJ := Lib.hid hj
  have HN := Lib.hid hN
  have HRe := Lib.hid hR
  have HS1 := Lib.hid hs1
  have HS2 := Lib.hid hs2
  have HL := Lib.hid hnl
  have HL2 := Lib.hid hll
  have HK := Lib.hid hK
  have HBL := Lib.hid hbl
  clear hp1 hb1 hs1 hp2 hb2 hbW hq2 hc hd hj hnl hll hK hbl hs2
  go_enter Tryz.func39, Tryz.ntmps39
  go_upto_region 1 with fail
  have hNl : N < w2.heap.size := by have := HS2.out; omega
  go_cut [3] (fun ov wx => ∃ (O : Nat) (pn : Option Addr) (cn : Nat), ov = .pointer (some ⟨O, 0, none⟩) ∧ Hid (GIn w2 K tx ns O pn cn wx))
  case first => as_aux_lemma =>
    have a0 : ∀ o, (w2.alloc o).cell? ⟨N, 0, none⟩ = some (.int .u8 K) := fun o => ((galloc (Below.refl w2.heap.size w2) o).cell (p := ⟨N, 0, none⟩) hNl).trans d0
    have a1 : ∀ o, (w2.alloc o).cell? ⟨N, 1, none⟩ = some (.string tx) := fun o => ((galloc (Below.refl w2.heap.size w2) o).cell (p := ⟨N, 1, none⟩) hNl).trans d1
    have a2 : ∀ o, (w2.alloc o).cell? ⟨N, 2, none⟩ = some (.slice pc ns.length cc) := fun o => ((galloc (Below.refl w2.heap.size w2) o).cell (p := ⟨N, 2, none⟩) hNl).trans d2
    have b0 : ∀ o o', ((w2.alloc o).alloc o').cell? ⟨N, 0, none⟩ = some (.int .u8 K) := fun o o' => ((galloc (galloc (Below.refl w2.heap.size w2) o) o').cell (p := ⟨N, 0, none⟩) hNl).trans d0
    have b1 : ∀ o o', ((w2.alloc o).alloc o').cell? ⟨N, 1, none⟩ = some (.string tx) := fun o o' => ((galloc (galloc (Below.refl w2.heap.size w2) o) o').cell (p := ⟨N, 1, none⟩) hNl).trans d1
    have b2 : ∀ o o', ((w2.alloc o).alloc o').cell? ⟨N, 2, none⟩ = some (.slice pc ns.length cc) := fun o o' => ((galloc (galloc (Below.refl w2.heap.size w2) o) o').cell (p := ⟨N, 2, none⟩) hNl).trans d2
    by_cases hz : ns.length = 0
    · rw [hz] at d2 a2 b2
      have HZ0 := Lib.hid hz
      clear hw1 hw2 hz
      have n1 : N ≠ w2.heap.size := by omega
      have n2 : N ≠ w2.heap.size + 1 := by omega
      rcases pc with _ | pa
      · go_region_held3 (fun u => u.cell? ⟨N, 0, none⟩ = some (.int .u8 K) ∧ u.cell? ⟨N, 1, none⟩ = some (.string tx) ∧ u.cell? ⟨N, 2, none⟩ = some (.slice none 0 cc)) (first | exact ⟨d0, d1, d2⟩ | ((with_reducible (refine ⟨?_, ?_, ?_⟩ <;> (repeat' (first | assumption | refine keepD' ?_ | refine keepA' ?_ _ | refine keepS' n1 ?_ | refine keepS' n2 ?_)))); done) | go_keep) (fail)
        all_goals go_wp2
        all_goals go_meet
        all_goals first
          | exact ⟨_, _, _, rfl, Lib.hid (gin_none HZ0.out (galloc (galloc (Below.refl w2.heap.size w2) _) _).drew (by omega) (by first | exact World.alloc_heap_new (w2.alloc (.cells #[] 9)) _ | (rw [← show (w2.alloc (.cells #[] 9)).heap.size = w2.heap.size + 1 by simp]; exact World.alloc_heap_new (w2.alloc (.cells #[] 9)) _)))⟩
          | exact ⟨_, _, _, rfl, Lib.hid (gin_none HZ0.out (galloc (galloc (Below.refl w2.heap.size w2) _) _).drew (Nat.le_refl _) (((galloc (Below.refl (w2.alloc _).heap.size (w2.alloc _)) (.cells #[] 9)).block w2.heap.size (by simp)).trans (World.alloc_heap_new w2 _)))⟩
      · go_region_held3 (fun u => u.cell? ⟨N, 0, none⟩ = some (.int .u8 K) ∧ u.cell? ⟨N, 1, none⟩ = some (.string tx) ∧ u.cell? ⟨N, 2, none⟩ = some (.slice (some pa) 0 cc)) (first | exact ⟨d0, d1, d2⟩ | ((with_reducible (refine ⟨?_, ?_, ?_⟩ <;> (repeat' (first | assumption | refine keepD' ?_ | refine keepA' ?_ _ | refine keepS' n1 ?_ | refine keepS' n2 ?_)))); done) | go_keep) (fail)
        all_goals go_wp2
        all_goals go_meet
        all_goals first
          | exact ⟨_, _, _, rfl, Lib.hid (gin_none HZ0.out (galloc (galloc (Below.refl w2.heap.size w2) _) _).drew (by omega) (by first | exact World.alloc_heap_new (w2.alloc (.cells #[] 9)) _ | (rw [← show (w2.alloc (.cells #[] 9)).heap.size = w2.heap.size + 1 by simp]; exact World.alloc_heap_new (w2.alloc (.cells #[] 9)) _)))⟩
          | exact ⟨_, _, _, rfl, Lib.hid (gin_none HZ0.out (galloc (galloc (Below.refl w2.heap.size w2) _) _).drew (Nat.le_refl _) (((galloc (Below.refl (w2.alloc _).heap.size (w2.alloc _)) (.cells #[] 9)).block w2.heap.size (by simp)).trans (World.alloc_heap_new w2 _)))⟩
    · obtain ⟨i9, hi, hz0, hz1, hz2⟩ := info_parts info9
      obtain ⟨gc, oc, rfl, hcell⟩ := HC.out.cellAt (by omega)
      have HE : Hid (∀ j u, (ns.map bl)[j]? = some u → w2.cell? ⟨gc, oc + j, none⟩ = some u) := Lib.hid fun j u hu => cell_in HBW.out (hcell j u hu)
      have e1 : ∀ o j u, (ns.map bl)[j]? = some u → (w2.alloc o).cell? ((⟨gc, oc, none⟩ : Addr).add j) = some u := fun o j u hu => by
        rw [show (⟨gc, oc, none⟩ : Addr).add j = ⟨gc, oc + j, none⟩ by unfold Addr.add; split <;> simp_all]
        exact cell_in (galloc (Below.refl w2.heap.size w2) o) (HE.out j u hu)
      have e2 : ∀ o o' j u, (ns.map bl)[j]? = some u → ((w2.alloc o).alloc o').cell? ((⟨gc, oc, none⟩ : Addr).add j) = some u := fun o o' j u hu => by
        rw [show (⟨gc, oc, none⟩ : Addr).add j = ⟨gc, oc + j, none⟩ by unfold Addr.add; split <;> simp_all]
        exact cell_in (galloc (galloc (Below.refl w2.heap.size w2) o) o') (HE.out j u hu)
      have hone : ∀ u ∈ ns.map bl, u.oneCell' = true := by intro u hu; obtain ⟨x, _, rfl⟩ := List.mem_map.1 hu; rfl
      have o1 : (w2.alloc (.cells #[] 9)).ownsRow w2.heap.size 9 1 (.slice (some ⟨w2.heap.size, 0, none⟩) 0 0) 0 [] := World.ownsRow_lit w2 #[] 0 (Nat.le_refl _) (by decide) rfl
      have o2 : ∀ o, ((w2.alloc (.cells #[] 9)).alloc o).ownsRow w2.heap.size 9 1 (.slice (some ⟨w2.heap.size, 0, none⟩) 0 0) 0 [] := fun o =>
        ⟨rfl, .inr ⟨w2.heap.size, 0, #[], rfl, Nat.le_refl _, ((galloc (Below.refl (w2.alloc (.cells #[] 9)).heap.size (w2.alloc (.cells #[] 9))) o).block w2.heap.size (by simp)).trans (World.alloc_heap_new w2 _), Nat.le_refl _, by decide, rfl, rfl⟩⟩
      have o3 : ∀ o, ((w2.alloc o).alloc (.cells #[] 9)).ownsRow w2.heap.size 9 1 (.slice (some ⟨w2.heap.size + 1, 0, none⟩) 0 0) 0 [] := fun o => by
        have := World.ownsRow_lit (base := w2.heap.size) (e := 9) (size := 1) (w2.alloc o) #[] 0 (by simp) (by decide) rfl
        simpa using this
      have hlm : (ns.map bl).length = ns.length * 1 := by simp
      have hpos : 0 < ns.length := by omega
      have hm1 : 0 + ns.length ≤ maxLen := by have := HL.out; unfold maxLen; omega
      have hm2 : (0 + ns.length) * 16 ≤ 140737488355328 := by have := HL.out; omega
      have hs1 : w2.heap.size ≤ (w2.alloc (.cells #[] 9)).heap.size := by simp
      have hs2 : ∀ o o', w2.heap.size ≤ ((w2.alloc o).alloc o').heap.size := fun o o' => by simp; omega
      have r1 : ∀ g, (Value.slice (some ⟨w2.heap.size, 0, none⟩) 0 0).ownBlock = some g → w2.heap.size ≤ g := fun g hg => by simp [Value.ownBlock] at hg; omega
      have r3 : ∀ g, (Value.slice (some ⟨w2.heap.size + 1, 0, none⟩) 0 0).ownBlock = some g → w2.heap.size ≤ g := fun g hg => by simp [Value.ownBlock] at hg; omega
      have g1A : ∀ o, Below w2.heap.size w2 (w2.alloc o).drew := fun o => (galloc (Below.refl w2.heap.size w2) o).drew
      have g2A : ∀ o o', Below w2.heap.size w2 ((w2.alloc o).alloc o').drew := fun o o' => (galloc (galloc (Below.refl w2.heap.size w2) o) o').drew
      clear hw1 hw2
      have n1 : N ≠ w2.heap.size := by omega
      have n2 : N ≠ w2.heap.size + 1 := by omega
      go_region_held3 (fun u => u.cell? ⟨N, 0, none⟩ = some (.int .u8 K) ∧ u.cell? ⟨N, 1, none⟩ = some (.string tx) ∧ u.cell? ⟨N, 2, none⟩ = some (.slice (some ⟨gc, oc, none⟩) ns.length cc)) (first | exact ⟨d0, d1, d2⟩ | ((with_reducible (refine ⟨?_, ?_, ?_⟩ <;> (repeat' (first | assumption | refine keepD' ?_ | refine keepA' ?_ _ | refine keepS' n1 ?_ | refine keepS' n2 ?_)))); done) | go_keep) (first
        | (refine step_append_lies _ (by rfl) _ _ _ (by rfl) w2.heap.size 9 i9 (.string ⟨#[]⟩) 1 16 und44b hi hz0 hz1 hz2 rfl (by decide) (.slice (some ⟨w2.heap.size, 0, none⟩) 0 0) 0 [] (by rfl) o1 ⟨gc, oc, none⟩ ns.length cc (ns.map bl) (by rfl) hlm (e1 _) hone hpos hm1 hm2 hs1 _ rfl ?_; intro g1 cap1 w3 hown3 hgrow hat hlt1; have y0 := keep_n (g1A _) hgrow r1 hNl d0; have y1 := keep_n (g1A _) hgrow r1 hNl d1; have y4 := keep_n (g1A _) hgrow r1 hNl d2; have HOW := Lib.hid hown3; have HGR := Lib.hid hgrow; clear hown3 hgrow hat hlt1)
        | (refine step_append_lies _ (by rfl) _ _ _ (by rfl) w2.heap.size 9 i9 (.string ⟨#[]⟩) 1 16 und44b hi hz0 hz1 hz2 rfl (by decide) (.slice (some ⟨w2.heap.size, 0, none⟩) 0 0) 0 [] (by rfl) (o2 _) ⟨gc, oc, none⟩ ns.length cc (ns.map bl) (by rfl) hlm (e2 _ _) hone hpos hm1 hm2 (hs2 _ _) _ rfl ?_; intro g1 cap1 w3 hown3 hgrow hat hlt1; have y0 := keep_n (g2A _ _) hgrow r1 hNl d0; have y1 := keep_n (g2A _ _) hgrow r1 hNl d1; have y4 := keep_n (g2A _ _) hgrow r1 hNl d2; have hZ := zero_b hgrow; obtain ⟨q0, q1, q2, q3⟩ := box_cells hZ; have qf : ∀ o, w3.frozen? ⟨w2.heap.size + 1, o, none⟩ = false := fun o => Lib.frozen_of_heap hZ o; have HZ := Lib.hid hZ; have HAT := Lib.hid hat; clear hZ; have HOW := Lib.hid hown3; have HGR := Lib.hid hgrow; clear hown3 hgrow hat hlt1)
        | (refine step_append_lies _ (by rfl) _ _ _ (by rfl) w2.heap.size 9 i9 (.string ⟨#[]⟩) 1 16 und44b hi hz0 hz1 hz2 rfl (by decide) (.slice (some ⟨w2.heap.size + 1, 0, none⟩) 0 0) 0 [] (by rfl) (o3 _) ⟨gc, oc, none⟩ ns.length cc (ns.map bl) (by rfl) hlm (e2 _ _) hone hpos hm1 hm2 (hs2 _ _) _ rfl ?_; intro g1 cap1 w3 hown3 hgrow hat hlt1; have y0 := keep_n (g2A _ _) hgrow r3 hNl d0; have y1 := keep_n (g2A _ _) hgrow r3 hNl d1; have y4 := keep_n (g2A _ _) hgrow r3 hNl d2; have hZ := zero_a hgrow; obtain ⟨q0, q1, q2, q3⟩ := box_cells hZ; have qf : ∀ o, w3.frozen? ⟨w2.heap.size, o, none⟩ = false := fun o => Lib.frozen_of_heap hZ o; have HZ := Lib.hid hZ; have HAT := Lib.hid hat; clear hZ; have HOW := Lib.hid hown3; have HGR := Lib.hid hgrow; clear hown3 hgrow hat hlt1))
      all_goals go_wp2
      all_goals go_meet
      all_goals first
        | exact ⟨_, _, _, rfl, Lib.hid (gin_a ((g1A _).trans (grown_below HGR.out r1 hs1)) (own_zero HOW.out))⟩
        | exact ⟨_, _, _, rfl, Lib.hid (gin_b ((g2A _ _).trans (grown_below HGR.out r1 (hs2 _ _))) (own_zero HOW.out) (by omega) (by have h := HAT.out; simp [Value.ownBlock] at h; omega) HZ.out)⟩
        | exact ⟨_, _, _, rfl, Lib.hid (gin_b ((g2A _ _).trans (grown_below HGR.out r3 (hs2 _ _))) (own_zero HOW.out) (by omega) (by have h := HAT.out; simp [Value.ownBlock] at h; omega) HZ.out)⟩
  obtain ⟨O, pn, cn, rfl, HG⟩ := hcut
  have hOl := HG.out.2.2.1
  have hO2 := HG.out.2.1
  have hRl : R < w2.heap.size := by have := HS1.out; have := HS2.out; have := HRe.out; omega
  have hNx : wc.heap[N]? = some (.cells #[.int .u8 K, .string tx, .slice pc ns.length cc, .slice pd ls.length cd] 47 (0, 0)) := (HG.out.1.block N hNl).trans HQ2.out
  have HRx : Hid (wc.heap[R]? = some (.cells #[.int .u8 0, .string ⟨#[]⟩, .slice none 0 0, .slice none 0 0] 47 (0, 0))) := Lib.hid ((HG.out.1.block R hRl).trans HP2.out)
  have HNx := Lib.hid hNx
  have HBX : Hid (Below W.heap.size W wc) := Lib.hid (gcall HBW.out HG.out.1)
  have e3 : wc.cell? ⟨N, 3, none⟩ = some (.slice pd ls.length cd) := by rw [cellH hNx]; rfl
  have HI0 : Hid (GInv wc O (.int .u8 K) (.string tx) (.slice pn ns.length cn) (ls.take 0) wc) := Lib.hid ⟨But.refl _ _, none, 0, [], HG.out.2.2.2.1, World.ownsRow_nil _ _ _ _, by unfold JsAt; rfl⟩
  clear d0 d1 d2 d3 hNx
  go_wp2_with fail
  go_loopw [4] (fun iv wr => ∃ i : Nat, i ≤ ls.length ∧ iv = .int .i64 i ∧ Hid (GInv wc O (.int .u8 K) (.string tx) (.slice pn ns.length cn) (ls.take i) wr)) (fun iv _ => ls.length - (intOf iv).toNat)
  case atStart => exact ⟨0, by omega, rfl, HI0⟩
  case round =>
    clear e3
    obtain ⟨i, hi, rfl, HI⟩ := hrel
    obtain ⟨hbI, pe, ce, xs, hhO, hown, hjs⟩ := HI.out
    have htl : (ls.take i).length = i := by rw [List.length_take]; omega
    rw [htl] at hhO hown hjs
    have hNr : wr.heap[N]? = some (.cells #[.int .u8 K, .string tx, .slice pc ns.length cc, .slice pd ls.length cd] 47 (0, 0)) := (hbI.block N (by have := HG.out.1.size; omega) (by omega)).trans HNx.out
    have e3 : wr.cell? ⟨N, 3, none⟩ = some (.slice pd ls.length cd) := by rw [cellH hNr]; rfl
    obtain ⟨z0, z1, z2, z3⟩ := box_cells hhO
    rcases Nat.lt_or_ge i ls.length with hlt | hge
    · have hlt' : (i : Int) < (ls.length : Int) := by omega
      have hwi : IntKind.i64.wrap ((i : Int) + 1) = ((i + 1 : Nat) : Int) := by rw [IntWalk.i64_in _ (by have := HL2.out; omega)]; omega
      obtain ⟨g1, o1, rfl, hx1⟩ := HD.out.cellAt (by omega)
      have hu1 := List.getElem?_eq_getElem hlt
      obtain ⟨xa, xb, xc, xd, hjx, m1, m2, m3, m4⟩ := HJ.out.nth ls vs i _ hu1
      obtain ⟨kd, ty, pe', ne, ce', pf, nf, cf, rfl, rfl, rfl, rfl⟩ := jat_four hjx
      have hBr : Below W.heap.size W wr := ⟨hbI.os.trans HBX.out.os, hbI.tape.trans HBX.out.tape, hbI.output.trans HBX.out.output, Nat.le_trans HBX.out.size hbI.size, fun k hk => (hbI.block k (by have := HBX.out.size; omega) (by have := HBW.out.size; omega)).trans (HBX.out.block k hk)⟩
      have k1 : wr.cell? ⟨g1, o1 + i * 4, none⟩ = some (.int .u8 (kd : Nat)) := cell_in hBr (hx1 _ _ m1)
      have k2 : wr.cell? ⟨g1, o1 + i * 4 + 1, none⟩ = some (.string ty) := cell_in hBr (hx1 _ _ m2)
      have k3 : wr.cell? ⟨g1, o1 + i * 4 + 2, none⟩ = some (.slice pe' ne ce') := cell_in hBr (hx1 _ _ m3)
      have k4 : wr.cell? ⟨g1, o1 + i * 4 + 3, none⟩ = some (.slice pf nf cf) := cell_in hBr (hx1 _ _ m4)
      have hcall := HREC.out i _ hu1 wr.drew [.int .u8 (kd : Nat), .string ty, .slice pe' ne ce', .slice pf nf cf] (hjx.below hBr.drew)
      rw [show ([.int .u8 (kd : Nat), .string ty, .slice pe' ne ce', .slice pf nf cf] : List Value).toArray = #[.int .u8 (kd : Nat), .string ty, .slice pe' ne ce', .slice pf nf cf] from rfl] at hcall
      obtain ⟨i47, hi47, hz0, hz1, hz2⟩ := info_parts info47
      have hwO : O < wc.heap.size := hOl
      have HSTEP := Lib.hid (fun (w5 w6 : World) (g cap : Nat) (p q u x : Value) => @ginv_step wc wr w5 w6 O g cap (.int .u8 K) (.string tx) (.slice pn ns.length cn) p q u x pe ce i (ls.take i) (ls[i]'hlt) xs htl hwO hbI hhO hown hjs)
      have hown0 := Lib.hid hown
      have HBI := Lib.hid hbI
      have HHO := Lib.hid hhO
      have HBr := Lib.hid hBr
      have hm1 : i + 1 ≤ maxLen := by have := HL2.out; unfold maxLen; omega
      have hm2 : (i + 1) * 72 ≤ 140737488355328 := by have := HL2.out; omega
      have hOr : O < wr.heap.size := by have := hbI.size; omega
      have hOrow : some O ≠ (Value.slice pe i ce).ownBlock := own_o hown hOl
      have Jf : ∀ {w5 : World} (o : Obj), Below wr.drew.heap.size wr.drew w5 → JFar O #[.int .u8 K, .string tx, .slice pn ns.length cn, .slice pe i ce] (Value.slice pe i ce).ownBlock (w5.alloc o) := fun {w5} o h => ⟨((galloc (Below.refl w5.heap.size w5) o).block O (Nat.lt_of_lt_of_le hOr h.size)).trans ((h.block O hOr).trans hhO), hOrow⟩
      have Wf : ∀ {w5 : World} (o : Obj), Below wr.drew.heap.size wr.drew w5 → (w5.alloc o).ownsRow wc.heap.size 47 4 (.slice pe i ce) i xs := fun {w5} o h => own_but (b := O) (own_but (b := O) (w := wr.drew) hown (But.of h) hOl) (But.of (galloc (Below.refl w5.heap.size w5) o)) hOl
      have Sf : ∀ {w5 : World} (o : Obj), Below wr.drew.heap.size wr.drew w5 → wc.heap.size ≤ (w5.alloc o).heap.size := fun {w5} o h => by have h1 := h.size; have h2 := hbI.size; simp at h1 ⊢; omega
      have HC0 := Lib.hid hcall
      have HT : Hid (ls.take (i + 1) = ls.take i ++ [ls[i]'hlt]) := Lib.hid (by rw [List.take_add_one, List.getElem?_eq_getElem hlt]; rfl)
      have hOrd : O < wr.drew.heap.size := hOr
      have zD : wr.drew.cell? ⟨O, 3, none⟩ = some (.slice pe i ce) := ((Below.refl wr.heap.size wr).drew.cell (p := ⟨O, 3, none⟩) hOr).trans z3
      have Ef : ∀ {w5 : World} {four : List Value}, JAt (fun g => wr.drew.heap.size ≤ g) w5 (ls[i]'hlt) four → JAt (fun g => wr.heap.size ≤ g) w5 (ls[i]'hlt) four := fun {w5} {four} h => JAt.mono (fun _ _ h => h) _ _ h
      clear HI hbI hhO hown hjs hx1 hu1 hjx m1 m2 m3 m4 hBr hNr hcall
      go_wp2_with fail
      go_region_law (first
        | (go_simp; go_at_call 39; with_reducible (refine Calls.mono HC0.out ?_); rintro e w5 ⟨v, rfl, hv, hb5⟩; obtain ⟨kd2, tx2, pc2, nc2, cc2, pd2, nd2, cd2, rfl, hj5⟩ := jval_four hv; have HJF := Lib.hid (Jf (.cells #[.int .u8 (kd2 : Nat), .string tx2, .slice pc2 nc2 cc2, .slice pd2 nd2 cd2] 47) hb5); have HOX := Lib.hid (Wf (.cells #[.int .u8 (kd2 : Nat), .string tx2, .slice pc2 nc2 cc2, .slice pd2 nd2 cd2] 47) hb5); have HSZ := Lib.hid (Sf (.cells #[.int .u8 (kd2 : Nat), .string tx2, .slice pc2 nc2 cc2, .slice pd2 nd2 cd2] 47) hb5); have HB5 : Hid (Below wr.heap.size wr w5) := Lib.hid (gcall (Below.refl wr.heap.size wr).drew hb5); have HJ5 : Hid (JAt (fun g => wr.heap.size ≤ g) w5 (ls[i]'hlt) [.int .u8 (kd2 : Nat), .string tx2, .slice pc2 nc2 cc2, .slice pd2 nd2 cd2]) := Lib.hid (Ef hj5); have c5 := (hb5.cell (p := ⟨O, 3, none⟩) hOrd).trans zD; have c5b := cellJ HJF.out; clear hv hj5 hb5)
        | (refine step_append_lies _ (by rfl) _ _ _ (by rfl) wc.heap.size 47 i47 (.agg #[.int .u8 0, .string ⟨#[]⟩, .slice none 0 0, .slice none 0 0]) 4 72 u45 hi47 hz0 hz1 hz2 rfl (by decide) (.slice pe i ce) i xs (by rfl) HOX.out ⟨w5.heap.size, 0, none⟩ 1 1 [.int .u8 kd2, .string tx2, .slice pc2 nc2 cc2, .slice pd2 nd2 cd2] (by rfl) rfl (World.news_of_block (heap_alloc_new w5 _)) (by intro u hu; simp at hu; rcases hu with rfl | rfl | rfl | rfl <;> rfl) (by decide) hm1 hm2 HSZ.out _ rfl ?_; intro gg cap1 w6 hown3 hgrow hat hlt1; have c6 := cell_grown hgrow HJF.out; have f6 := froz_grown hgrow HJF.out; have HFIN := Lib.hid (HSTEP.out w5 w6 gg cap1 _ _ _ _ HB5.out HJ5.out hgrow hown3 hat)))
      all_goals (clear Jf Wf Sf Ef HC0 HREC HSTEP)
      all_goals (have HF2 : Hid (GInv wc O (.int .u8 K) (.string tx) (.slice pn ns.length cn) (ls.take (i + 1)) (w6.setCell ⟨O, 3, none⟩ (.slice (some ⟨gg, 0, none⟩) (i + 1) cap1))) := Lib.hid (by rw [HT.out]; exact HFIN.out))
      all_goals (generalize w6.setCell ⟨O, 3, none⟩ (.slice (some ⟨gg, 0, none⟩) (i + 1) cap1) = w7 at *)
      all_goals go_wp2
      all_goals exact ⟨⟨i + 1, by omega, rfl, HF2⟩, by simp [intOf]; omega⟩
    · obtain rfl : i = ls.length := by omega
      have hlt' : ¬ (ls.length : Int) < (ls.length : Int) := by omega
      rw [List.take_length] at HI
      have hRr := (hbI.block R (by have := HG.out.1.size; omega) (by omega)).trans HRx.out
      have hWR : W.heap.size ≤ R := by have := HS1.out; have := HRe.out; omega
      have hE := given_end HK.out HBL.out HBW.out hWR hRl HG.out HI.out hhO hRr
      obtain ⟨q0, q1, q2, q3⟩ := box_cells hRr
      have qf : ∀ o, wr.frozen? ⟨R, o, none⟩ = false := fun o => Lib.frozen_of_heap hRr o
      obtain ⟨c0, c1, c2, c3⟩ := box_cells hE.2.2
      have HE := Lib.hid hE
      have HC := Lib.hid (And.intro c0 (And.intro c1 (And.intro c2 c3)))
      clear hE hRr hNr hhO hown hjs HI hbI c0 c1 c2 c3 HREC
      go_wp2
      obtain ⟨c0, c1, c2, c3⟩ := HC.out
      exact bodyPost_ret (v := .agg #[.int .u8 K, .string tx, .slice pn ns.length cn, .slice pe ls.length ce]) (by simp [results, Tryz.results39, go_sem, c0, c1, c2, c3]) rfl ⟨_, rfl, by first | exact HE.out.1 | (rw [← HN.out]; exact HE.out.1), by first | exact HE.out.2.1 | (rw [← HN.out]; exact HE.out.2.1)⟩
/-- given, of any value in memory. -/
theorem given_deep : ∀ (n : Nat) (j : J), deepJ j ≤ n → bigM j → ∀ (W : World) (cs : List Value), JAt AnyB W j cs → Calls Tryz.prog 39 #[.agg cs.toArray] W fun e w' => ∃ v, e = .returned v ∧ JVal (fun g => W.heap.size ≤ g) w' j v ∧ Below W.heap.size W w'
  | 0, .mk k t ns ls, hd, _, _, _, _ => by unfold deepJ at hd; omega
  | n + 1, .mk k t ns ls, hd, hm, W, cs, hj => by
    obtain ⟨pc, cc, pd, cd, vs, rfl, h1, h2, h3⟩ := hj.form
    unfold bigM at hm
    refine given_one k t ns ls W pc cc pd cd vs hm.1 hm.2.1 h1 h2 h3 (Lib.hid fun i x hi w cs hjx => given_deep n x ?_ (bigsM_at ls i x hm.2.2 hi) w cs hjx)
    have := deepJ_at ls i x hi
    unfold deepJ at hd; omega
theorem given_any (j : J) (hm : bigM j) (W : World) (cs : List Value) (hj : JAt AnyB W j cs) : Calls Tryz.prog 39 #[.agg cs.toArray] W fun e w' => ∃ v, e = .returned v ∧ JVal (fun g => W.heap.size ≤ g) w' j v ∧ Below W.heap.size W w' :=
  given_deep (deepJ j) j (Nat.le_refl _) hm W cs hj
end Go.Proofs.YtgcpgieojckheaaGreatDoor.Json
