/-
  LexNames: the facts on its texts.
-/
import Derived.Test.YtaofpefmniadiaaDoorRJ
import Derived.Test.YtaofpefmniadiaaDoorU
namespace Go.Proofs.YtaofpefmniadiaaDoor
open Go.RowKit

def nmTab : List (List UInt8 × List UInt8) := [([49, 46, 101], [102, 110]), ([49, 101, 53], [105, 110]), ([49, 46, 48, 101, 50, 51], [102]), ([49, 46, 48, 101, 50, 52], [33]), ([49, 46, 48, 101, 50, 52, 32], [33, 98]), ([49, 46, 101, 50, 50], [102]), ([49, 46, 48, 101, 45, 50, 49], [102]), ([49, 46, 48, 101, 45, 50, 50], [33]), ([49, 46, 101, 45, 50, 50], [102]), ([48, 46, 48, 48, 48, 48, 48, 48, 48, 48, 48, 48, 48, 48, 48, 48, 48, 48, 48, 48, 48, 48, 48, 48, 49], [33]), ([49, 46, 48, 48, 48, 48, 48, 48, 48, 48, 48, 48, 48, 48, 48, 48], [102]), ([49, 46, 48, 48, 48, 48, 48, 48, 48, 48, 48, 48, 48, 48, 48, 48, 48], [33]), ([40, 42], [33]), ([40, 42, 41], [33]), ([40, 42, 42, 41], [114]), ([40, 42, 32, 40, 42, 32, 42, 41], [33]), ([40, 42, 40, 42, 42, 41, 42, 41, 42, 41], [114, 115, 115]), ([58], [33]), ([39], [33]), ([65], [33]), ([124, 124, 124], [115, 115]), ([95], [115]), ([95, 95], [110]), ([95, 49], [110]), ([108, 101, 116, 115], [110]), ([108, 101, 116], [119]), ([109, 111, 100], [119]), ([116, 114, 117, 101, 102, 97, 108, 115, 101], [110]), ([45, 45, 62], [115, 115]), ([45, 62, 45], [115, 115]), ([45, 46, 49, 46], [115, 102]), ([49, 46, 45, 46, 50, 46], [102, 115, 102]), ([58, 58, 58, 58], [115, 115]), ([58, 58, 58], [115, 33]), ([38, 38, 38], [115, 33]), ([60, 62, 60, 61], [115, 115]), ([97, 195, 169, 98], [110, 33, 110]), ([195, 169, 195, 169], [33, 33]), ([34, 34], [116]), ([34, 92, 34, 34], [116]), ([34, 92, 92, 34], [116]), ([34, 92], [33]), ([34, 97, 92, 10, 34], [33, 98, 33]), ([34, 97, 92, 120, 92, 34, 98, 34], [33, 110, 33]), ([34], [33]), ([49, 46, 53, 101], [102, 110]), ([49, 46, 53, 101, 43], [102, 110, 115]), ([49, 46, 53, 69, 45, 50], [102]), ([49, 46, 57, 57, 57, 57, 57, 57, 57, 57, 57, 57, 57, 57, 57, 57, 57, 57, 57, 57, 57, 57], [33]), ([49, 46, 101, 57, 57, 57, 57, 57, 57, 57, 57, 57, 57, 57, 57, 57, 57, 57, 57, 57, 57, 57, 57], [33]), ([49, 46, 101, 45, 57, 57, 57, 57, 57, 57, 57, 57, 57, 57, 57, 57, 57, 57, 57, 57, 57, 57, 57, 57], [33]), ([], []), ([0], [33]), ([11], [33]), ([32, 9, 13, 10, 32], [98])]
def nmVals (t : List UInt8 × List UInt8) : List Value := [bl t.1, bl t.2]
def nmCells : Array Value := (nmTab.flatMap nmVals).toArray
theorem flat2 : ∀ (l : List (List UInt8 × List UInt8)) (k : Nat) (h : k < l.length), (l.flatMap nmVals)[k * 2]? = some (bl (l[k]'h).1) ∧ (l.flatMap nmVals)[k * 2 + 1]? = some (bl (l[k]'h).2)
  | [], _, h => absurd h (Nat.not_lt_zero _)
  | t :: r, 0, _ => ⟨rfl, rfl⟩
  | t :: r, k + 1, h => by
    have ih := flat2 r k (by simpa using h)
    have e : (t :: r).flatMap nmVals = bl t.1 :: bl t.2 :: r.flatMap nmVals := by simp [nmVals]
    rw [e, show (k + 1) * 2 = k * 2 + 2 by omega]
    simpa using ih
theorem nm_len : nmTab.length = 55 := rfl
set_option maxRecDepth 100000 in
theorem nm_all : nmTab.all (fun t => kindS t.1 == t.2 && decide (t.1.length ≤ 100)) = true := by decide +kernel
theorem nm_own (k : Nat) (h : k < nmTab.length) : kindS (nmTab[k]'h).1 = (nmTab[k]'h).2 ∧ (nmTab[k]'h).1.length ≤ 100 := by
  have := List.all_eq_true.1 nm_all _ (List.getElem_mem h)
  simpa using this
def Nm (N : Nat) (W : World) : Prop := W.heap[N]? = some (.cells nmCells 23 (0, 0))
theorem Nm.at {N : Nat} {W : World} (h : Nm N W) {k : Nat} (hk : k < 55) : ∃ (a b : ByteArray), W.cell? ⟨N, k * 2, none⟩ = some (.string a) ∧ W.cell? ⟨N, k * 2 + 1, none⟩ = some (.string b) ∧ a.size ≤ 100 ∧ kindS a.data.toList = b.data.toList := by
  obtain ⟨h1, h2⟩ := flat2 nmTab k (by rw [nm_len]; exact hk)
  obtain ⟨o, l⟩ := nm_own k (by rw [nm_len]; exact hk)
  have hc : ∀ o : Nat, W.cell? ⟨N, o, none⟩ = (nmTab.flatMap nmVals)[o]? := fun o => by rw [cellH h]; simp [nmCells]
  exact ⟨⟨_⟩, ⟨_⟩, by rw [hc, h1]; rfl, by rw [hc, h2]; rfl, by rw [Lib.size_eq]; exact l, o⟩
theorem kinds_to (a b : ByteArray) (w : World) (hz : a.size ≤ 1000000) (hE : Env w) (h : kindS a.data.toList = b.data.toList) : Calls Tryd.prog 8 #[.string a] w (StrEnd b w) := by
  refine (kinds_any a w hz hE).mono ?_
  rintro e w' ⟨h1, h2⟩
  refine ⟨?_, h2⟩
  rw [h1, h]; unfold bl; rw [← ba_of b rfl]
def OneEnd5 (c : Int) (Q : ByteArray) (k : Int) (w : World) (e : Ending) (w' : World) : Prop := e = .returned (.tuple #[.agg #[.int .u8 c, .string Q], .int .i64 k]) ∧ Below w.heap.size w w'
theorem one_lit (s : ByteArray) (c : Int) (Q : ByteArray) (k : Int) (w : World) (hz : s.size ≤ 1000) (hE : Env w) (h1 : ((oneT s.data.toList).1 : Int) = c) (h2 : (oneT s.data.toList).2 = Q.data.toList) (h3 : oneE s.data.toList = k) : Calls Tryd.prog 11 #[.string s] w (OneEnd5 c Q k w) := by
  subst h1; subst h3
  refine (one_tok_any s w (by omega) hE).mono ?_
  rintro e w' ⟨h4, h5⟩
  refine ⟨?_, h5⟩
  rw [h4]; unfold tokA; rw [h2]; unfold bl; rw [← ba_of Q rfl]
theorem on1 (w : World) (hE : Env w) : Calls Tryd.prog 11 #[.string ⟨#[97, 32, 98]⟩] w (OneEnd5 0 ⟨#[]⟩ 4 w) := one_lit ⟨#[97, 32, 98]⟩ 0 ⟨#[]⟩ 4 w (by decide) hE (by decide +kernel) (by decide +kernel) (by decide +kernel)
theorem on2 (w : World) (hE : Env w) : Calls Tryd.prog 11 #[.string ⟨#[]⟩] w (OneEnd5 0 ⟨#[]⟩ 4 w) := one_lit ⟨#[]⟩ 0 ⟨#[]⟩ 4 w (by decide) hE (by decide +kernel) (by decide +kernel) (by decide +kernel)
theorem on3 (w : World) (hE : Env w) : Calls Tryd.prog 11 #[.string ⟨#[40, 42, 32, 120, 32, 42, 41]⟩] w (OneEnd5 2 ⟨#[40, 42, 32, 120, 32, 42, 41]⟩ 0 w) := one_lit ⟨#[40, 42, 32, 120, 32, 42, 41]⟩ 2 ⟨#[40, 42, 32, 120, 32, 42, 41]⟩ 0 w (by decide) hE (by decide +kernel) (by decide +kernel) (by decide +kernel)
theorem tok_ff (w : World) (hE : Env w) : Calls Tryd.prog 9 #[.string ⟨#[255]⟩] w (TokEnd3 0 4 w) := tokens_n ⟨#[255]⟩ w (by decide) hE (by decide +kernel) (by decide +kernel)
/-- The boxes of the remark, of minus, more, name. -/
def Boxes (a b c d : Nat) (w : World) : Prop := w.heap[a]? = some (.cells #[.int .u8 2, .string ⟨#[40, 42, 32, 120, 32, 42, 41]⟩] 32 (0, 0)) ∧ w.heap[b]? = some (.cells #[.int .u8 8, .string ⟨#[45]⟩] 32 (0, 0)) ∧ w.heap[c]? = some (.cells #[.int .u8 8, .string ⟨#[62]⟩] 32 (0, 0)) ∧ w.heap[d]? = some (.cells #[.int .u8 4, .string ⟨#[97]⟩] 32 (0, 0))
theorem Boxes.below {a b c d : Nat} {w w' : World} (h : Boxes a b c d w) (hb : Below w.heap.size w w') : Boxes a b c d w' := by
  obtain ⟨h1, h2, h3, h4⟩ := h
  exact ⟨(hb.block _ (Array.getElem?_eq_some_iff.1 h1).1).trans h1, (hb.block _ (Array.getElem?_eq_some_iff.1 h2).1).trans h2, (hb.block _ (Array.getElem?_eq_some_iff.1 h3).1).trans h3, (hb.block _ (Array.getElem?_eq_some_iff.1 h4).1).trans h4⟩
theorem boxes_new (v : World) : Boxes v.heap.size (v.heap.size + 1) (v.heap.size + 1 + 1) (v.heap.size + 1 + 1 + 1) ((((v.alloc (.cells #[.int .u8 2, .string ⟨#[40, 42, 32, 120, 32, 42, 41]⟩] 32)).alloc (.cells #[.int .u8 8, .string ⟨#[45]⟩] 32)).alloc (.cells #[.int .u8 8, .string ⟨#[62]⟩] 32)).alloc (.cells #[.int .u8 4, .string ⟨#[97]⟩] 32)) ∧ Below v.heap.size v ((((v.alloc (.cells #[.int .u8 2, .string ⟨#[40, 42, 32, 120, 32, 42, 41]⟩] 32)).alloc (.cells #[.int .u8 8, .string ⟨#[45]⟩] 32)).alloc (.cells #[.int .u8 8, .string ⟨#[62]⟩] 32)).alloc (.cells #[.int .u8 4, .string ⟨#[97]⟩] 32)) := by
  have s1 : (v.alloc (.cells #[.int .u8 2, .string ⟨#[40, 42, 32, 120, 32, 42, 41]⟩] 32)).heap.size = v.heap.size + 1 := by simp
  have h1 := heap_alloc_new v (.cells #[.int .u8 2, .string ⟨#[40, 42, 32, 120, 32, 42, 41]⟩] 32)
  have s2 : ((v.alloc (.cells #[.int .u8 2, .string ⟨#[40, 42, 32, 120, 32, 42, 41]⟩] 32)).alloc (.cells #[.int .u8 8, .string ⟨#[45]⟩] 32)).heap.size = v.heap.size + 1 + 1 := by simp
  have h2 := heap_alloc_new (v.alloc (.cells #[.int .u8 2, .string ⟨#[40, 42, 32, 120, 32, 42, 41]⟩] 32)) (.cells #[.int .u8 8, .string ⟨#[45]⟩] 32)
  rw [s1] at h2
  have s3 : (((v.alloc (.cells #[.int .u8 2, .string ⟨#[40, 42, 32, 120, 32, 42, 41]⟩] 32)).alloc (.cells #[.int .u8 8, .string ⟨#[45]⟩] 32)).alloc (.cells #[.int .u8 8, .string ⟨#[62]⟩] 32)).heap.size = v.heap.size + 1 + 1 + 1 := by simp
  have h3 := heap_alloc_new ((v.alloc (.cells #[.int .u8 2, .string ⟨#[40, 42, 32, 120, 32, 42, 41]⟩] 32)).alloc (.cells #[.int .u8 8, .string ⟨#[45]⟩] 32)) (.cells #[.int .u8 8, .string ⟨#[62]⟩] 32)
  rw [s2] at h3
  have s4 : ((((v.alloc (.cells #[.int .u8 2, .string ⟨#[40, 42, 32, 120, 32, 42, 41]⟩] 32)).alloc (.cells #[.int .u8 8, .string ⟨#[45]⟩] 32)).alloc (.cells #[.int .u8 8, .string ⟨#[62]⟩] 32)).alloc (.cells #[.int .u8 4, .string ⟨#[97]⟩] 32)).heap.size = v.heap.size + 1 + 1 + 1 + 1 := by simp
  have h4 := heap_alloc_new (((v.alloc (.cells #[.int .u8 2, .string ⟨#[40, 42, 32, 120, 32, 42, 41]⟩] 32)).alloc (.cells #[.int .u8 8, .string ⟨#[45]⟩] 32)).alloc (.cells #[.int .u8 8, .string ⟨#[62]⟩] 32)) (.cells #[.int .u8 4, .string ⟨#[97]⟩] 32)
  rw [s3] at h4
  refine ⟨⟨?_, ?_, ?_, h4⟩, galloc2 (galloc2 (galloc2 (galloc2 (Below.refl _ _) (Nat.le_refl _) _) (by omega) _) (by omega) _) (by omega) _⟩
  · exact (Below.heap_alloc _ _ _ (by omega)).trans ((Below.heap_alloc _ _ _ (by omega)).trans ((Below.heap_alloc _ _ _ (by omega)).trans h1))
  · exact (Below.heap_alloc _ _ _ (by omega)).trans ((Below.heap_alloc _ _ _ (by omega)).trans h2)
  · exact (Below.heap_alloc _ _ _ (by omega)).trans h3
theorem Boxes.cells {a b c d : Nat} {w : World} (h : Boxes a b c d w) : (w.cell? ⟨a, 0, none⟩ = some (.int .u8 2) ∧ w.cell? ⟨a, 1, none⟩ = some (.string ⟨#[40, 42, 32, 120, 32, 42, 41]⟩)) ∧ (w.cell? ⟨b, 0, none⟩ = some (.int .u8 8) ∧ w.cell? ⟨b, 1, none⟩ = some (.string ⟨#[45]⟩)) ∧ (w.cell? ⟨c, 0, none⟩ = some (.int .u8 8) ∧ w.cell? ⟨c, 1, none⟩ = some (.string ⟨#[62]⟩)) ∧ (w.cell? ⟨d, 0, none⟩ = some (.int .u8 4) ∧ w.cell? ⟨d, 1, none⟩ = some (.string ⟨#[97]⟩)) := by
  obtain ⟨h1, h2, h3, h4⟩ := h
  refine ⟨⟨?_, ?_⟩, ⟨?_, ?_⟩, ⟨?_, ?_⟩, ?_, ?_⟩
  · rw [cellH h1]; rfl
  · rw [cellH h1]; rfl
  · rw [cellH h2]; rfl
  · rw [cellH h2]; rfl
  · rw [cellH h3]; rfl
  · rw [cellH h3]; rfl
  · rw [cellH h4]; rfl
  · rw [cellH h4]; rfl
end Go.Proofs.YtaofpefmniadiaaDoor

