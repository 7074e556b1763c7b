/-
  A tree in memory; the small functions on its nodes.
-/
import Derived.Test.YtbmcgmnmmnileaaA
import Derived.Test.YtbmcgmnmmnileaaShelf
import Derived.WalkKit
import Derived.WalkLawsBesides
import Derived.RangeFuncRecord
import Derived.IntWalk
import Derived.Deep.RegionHeld3
import Derived.Deep.QuietTactic
import Derived.BigQuiet
import Derived.WalkSpells
import Derived.Below
import Derived.Lib.Hide
namespace Go.Proofs.Ytbmcgmnmmnileaa
open Go.RowKit Go.Shelf

/-- A node's cells. -/
def leafC (s : ByteArray) : Array Value := #[.int .i64 s.size, .int .i64 (s.data.toList.count 10 : Nat), .int .i64 1, .string s, .pointer none, .pointer none]
def catC (n e d bl br : Nat) : Array Value := #[.int .i64 n, .int .i64 e, .int .i64 d, .string ⟨#[]⟩, .pointer (some ⟨bl, 0, none⟩), .pointer (some ⟨br, 0, none⟩)]
/-- At block b lies this tree. -/
def At (w : World) : Nat → T → Prop
  | b, .leaf s => w.heap[b]? = some (.cells (leafC s) 76 (0, 0))
  | b, .cat l r => ∃ bl br, w.heap[b]? = some (.cells (catC (l.size + r.size) (l.ends + r.ends) (1 + max l.depth r.depth) bl br) 76 (0, 0)) ∧ At w bl l ∧ At w br r
theorem At.lt {w : World} : ∀ {t : T} {b : Nat}, At w b t → b < w.heap.size
  | .leaf _, _, h => (Array.getElem?_eq_some_iff.1 h).1
  | .cat _ _, _, ⟨_, _, h, _⟩ => (Array.getElem?_eq_some_iff.1 h).1
theorem At.below {w w' : World} {n : Nat} (hn : w.heap.size ≤ n) (hb : Below n w w') : ∀ {t : T} {b : Nat}, At w b t → At w' b t
  | .leaf _, b, h => (hb.block b (Nat.lt_of_lt_of_le (Array.getElem?_eq_some_iff.1 h).1 hn)).trans h
  | .cat _ _, b, ⟨bl, br, h, hl, hr⟩ => ⟨bl, br, (hb.block b (Nat.lt_of_lt_of_le (Array.getElem?_eq_some_iff.1 h).1 hn)).trans h, At.below hn hb hl, At.below hn hb hr⟩
/-- A tree, or nil. -/
def AtO (w : World) (v : Value) : Option T → Prop
  | none => v = .pointer none
  | some t => ∃ b, v = .pointer (some ⟨b, 0, none⟩) ∧ At w b t
theorem AtO.below {w w' : World} {n : Nat} (hn : w.heap.size ≤ n) (hb : Below n w w') {v : Value} : ∀ {o : Option T}, AtO w v o → AtO w' v o
  | none, h => h
  | some _, ⟨b, h, ht⟩ => ⟨b, h, ht.below hn hb⟩

theorem cellH {w : World} {b : Nat} {cs : Array Value} {t : TypeId} {fr : Nat × Nat} (h : w.heap[b]? = some (.cells cs t fr)) (o : Nat) : w.cell? ⟨b, o, none⟩ = cs[o]? := cell_of_row w b o cs t fr h
theorem At.cells {w : World} {b : Nat} {t : T} (h : At w b t) : w.cell? ⟨b, 0, none⟩ = some (.int .i64 t.size) ∧ w.cell? ⟨b, 1, none⟩ = some (.int .i64 t.ends) ∧ w.cell? ⟨b, 2, none⟩ = some (.int .i64 t.depth) := by
  cases t with
  | leaf s => exact ⟨by rw [cellH h]; rfl, by rw [cellH h]; rfl, by rw [cellH h]; rfl⟩
  | cat l r =>
    obtain ⟨bl, br, h, _, _⟩ := h
    exact ⟨by rw [cellH h]; rfl, by rw [cellH h]; rfl, by rw [cellH h]; rfl⟩
theorem At.leaf {w : World} {b : Nat} {s : ByteArray} (h : At w b (.leaf s)) : w.cell? ⟨b, 3, none⟩ = some (.string s) ∧ w.cell? ⟨b, 4, none⟩ = some (.pointer none) ∧ w.cell? ⟨b, 5, none⟩ = some (.pointer none) :=
  ⟨by rw [cellH h]; rfl, by rw [cellH h]; rfl, by rw [cellH h]; rfl⟩
theorem At.cat {w : World} {b : Nat} {l r : T} (h : At w b (.cat l r)) : ∃ bl br, w.cell? ⟨b, 3, none⟩ = some (.string ⟨#[]⟩) ∧ w.cell? ⟨b, 4, none⟩ = some (.pointer (some ⟨bl, 0, none⟩)) ∧ w.cell? ⟨b, 5, none⟩ = some (.pointer (some ⟨br, 0, none⟩)) ∧ At w bl l ∧ At w br r := by
  obtain ⟨bl, br, h, hl, hr⟩ := h
  exact ⟨bl, br, by rw [cellH h]; rfl, by rw [cellH h]; rfl, by rw [cellH h]; rfl, hl, hr⟩

theorem isPiece_leaf (w : World) (b : Nat) (s : ByteArray) (h : At w b (.leaf s)) :
    Calls Try.prog 41 #[.pointer (some ⟨b, 0, none⟩)] w fun e w' => e = .returned (.bool true) ∧ w = w' := by
  obtain ⟨c3, c4, c5⟩ := h.leaf
  have H := Lib.hid h
  clear h
  go_enter Try.func41, Try.ntmps41
  go_wp2
  go_ret
  exact ⟨rfl, rfl⟩
theorem isPiece_cat (w : World) (b : Nat) (l r : T) (h : At w b (.cat l r)) :
    Calls Try.prog 41 #[.pointer (some ⟨b, 0, none⟩)] w fun e w' => e = .returned (.bool false) ∧ w = w' := by
  obtain ⟨bl, br, c3, c4, c5, _, _⟩ := h.cat
  have H := Lib.hid h
  clear h
  go_enter Try.func41, Try.ntmps41
  go_wp2
  go_ret
  exact ⟨rfl, rfl⟩
theorem concat_ok (w : World) (bl br : Nat) (l r : T) (hl : At w bl l) (hr : At w br r) (h1 : l.size + r.size ≤ 1000000000) (h2 : l.depth ≤ 1000000000) (h3 : r.depth ≤ 1000000000) :
    Calls Try.prog 40 #[.pointer (some ⟨bl, 0, none⟩), .pointer (some ⟨br, 0, none⟩)] w fun e w' => ∃ b, e = .returned (.pointer (some ⟨b, 0, none⟩)) ∧ At w' b (.cat l r) ∧ Below w.heap.size w w' := by
  obtain ⟨a0, a1, a2⟩ := hl.cells
  obtain ⟨b0, b1, b2⟩ := hr.cells
  have e1 := T.ends_le l
  have e2 := T.ends_le r
  go_enter Try.func40, Try.ntmps40
  generalize Hnl : l.size = nl at *
  generalize Hnr : r.size = nr at *
  generalize Hel : l.ends = el at *
  generalize Her : r.ends = er at *
  generalize Hdl : l.depth = dl at *
  generalize Hdr : r.depth = dr at *
  have Q1 := Lib.hid Hnl
  have Q2 := Lib.hid Hnr
  have Q3 := Lib.hid Hel
  have Q4 := Lib.hid Her
  have Q5 := Lib.hid Hdl
  have Q6 := Lib.hid Hdr
  clear Hnl Hnr Hel Her Hdl Hdr
  have L := Lib.hid hl
  have R := Lib.hid hr
  clear hl hr
  go_wp2
  go_region_held3 (fun u => (u.cell? ⟨bl, 0, none⟩ = some (.int .i64 nl) ∧ u.cell? ⟨bl, 1, none⟩ = some (.int .i64 el) ∧ u.cell? ⟨bl, 2, none⟩ = some (.int .i64 dl)) ∧ u.cell? ⟨br, 0, none⟩ = some (.int .i64 nr) ∧ u.cell? ⟨br, 1, none⟩ = some (.int .i64 er) ∧ u.cell? ⟨br, 2, none⟩ = some (.int .i64 dr)) (first | exact ⟨⟨a0, a1, a2⟩, b0, b1, b2⟩ | go_keep) (first | fail)
  go_wp2
  go_ret
  have hB : Below w.heap.size w (w.alloc (.cells #[.int .i64 (IntKind.i64.wrap ((nl : Int) + nr)), .int .i64 (IntKind.i64.wrap ((el : Int) + er)), .int .i64 (IntKind.i64.wrap (1 + max (dl : Int) dr)), .string ⟨#[]⟩, .pointer (some ⟨bl, 0, none⟩), .pointer (some ⟨br, 0, none⟩)] 76)).drew := ((Below.refl _ _).alloc (Nat.le_refl _) _).drew
  refine ⟨_, rfl, ⟨bl, br, ?_, L.out.below (Nat.le_refl _) hB, R.out.below (Nat.le_refl _) hB⟩, hB⟩
  refine (World.alloc_heap_new w _).trans ?_
  rw [IntWalk.i64_in ((nl : Int) + nr) (by omega), IntWalk.i64_in ((el : Int) + er) (by omega), IntWalk.i64_in (1 + max (dl : Int) dr) (by omega), Q1.out, Q2.out, Q3.out, Q4.out, Q5.out, Q6.out]
  unfold catC
  rw [show (nl : Int) + nr = ((nl + nr : Nat) : Int) by omega, show (el : Int) + er = ((el + er : Nat) : Int) by omega, show 1 + max (dl : Int) dr = ((1 + max dl dr : Nat) : Int) by omega]

theorem clone_any (s : ByteArray) (w : World) (hs : s.size ≤ 1000000000) :
    Calls Try.prog 51 #[.string s] w fun e w' => e = .returned (.string s) ∧ Below w.heap.size w w' := by
  go_enter Try.func51, Try.ntmps51
  go_wp2_with fail
  refine (Try.stringslite_Clone s w (by omega)).mono ?_
  rintro e w' ⟨rfl, hb⟩
  go_wp2
  go_ret
  exact ⟨rfl, hb⟩
theorem piece_ok (s : ByteArray) (w : World) (hs : s.size ≤ 1000000000) :
    Calls Try.prog 39 #[.string s] w fun e w' => ∃ b, e = .returned (.pointer (some ⟨b, 0, none⟩)) ∧ At w' b (.leaf s) ∧ Below w.heap.size w w' := by
  have hc : Calls Try.prog 46 #[.string s, .string ⟨#[10]⟩] w fun e w' => e = .returned (.int .i64 (s.data.toList.count 10 : Nat)) ∧ w = w' := (Try.strings_Count_one s 10 w).mono fun e w' h => ⟨h.1, h.2.symm⟩
  have hk := clone_any s
  generalize hn : s.data.toList.count 10 = n at *
  have HN := Lib.hid hn
  clear hn
  go_enter Try.func39, Try.ntmps39
  go_wp2_with fail
  refine hc.mono ?_
  rintro e w1 ⟨rfl, rfl⟩
  go_wp2_with fail
  refine (hk _ hs).mono ?_
  rintro e w1 ⟨rfl, hb⟩
  go_wp2
  go_ret
  refine ⟨_, rfl, ?_, hb.alloc hb.size _⟩
  refine (World.alloc_heap_new w1 _).trans ?_
  unfold leafC
  rw [HN.out]
end Go.Proofs.Ytbmcgmnmmnileaa
