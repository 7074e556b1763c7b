/-
  A rope in memory: how long it is, its ends, its depth, its spans.
-/
import Derived.Test.YtbmcgmnmmnileaaK
namespace Go.Proofs.Ytbmcgmnmmnileaa
open Go.RowKit Go.Shelf

/-- A rope lies at this block. -/
def RAt (w : World) (b : Nat) (o : Option T) : Prop := ∃ p, w.heap[b]? = some (.cells #[.pointer p] 57 (0, 0)) ∧ AtO w (.pointer p) o ∧ OkO o
theorem RAt.below {w w' : World} {n b : Nat} {o : Option T} (hn : w.heap.size ≤ n) (hb : Below n w w') (h : RAt w b o) : RAt w' b o := by
  obtain ⟨p, h1, h2, h3⟩ := h
  exact ⟨p, (hb.block b (Nat.lt_of_lt_of_le (Array.getElem?_eq_some_iff.1 h1).1 hn)).trans h1, h2.below hn hb, h3⟩
theorem RAt.lt {w : World} {b : Nat} {o : Option T} (h : RAt w b o) : b < w.heap.size := by
  obtain ⟨p, h1, _⟩ := h
  exact (Array.getElem?_eq_some_iff.1 h1).1
theorem RAt.same {w w' : World} (hw : w.heap = w'.heap) {b : Nat} {o : Option T} (h : RAt w b o) : RAt w' b o := by
  have hB : ∀ {t : T} {b : Nat}, At w b t → At w' b t := by
    intro t
    induction t with
    | leaf s => intro b h; show w'.heap[b]? = _; rw [← hw]; exact h
    | cat l r il ir => intro b h; obtain ⟨bl, br, h, hl, hr⟩ := h; exact ⟨bl, br, by rw [← hw]; exact h, il hl, ir hr⟩
  obtain ⟨p, h1, h2, h3⟩ := h
  refine ⟨p, by rw [← hw]; exact h1, ?_, h3⟩
  cases o with
  | none => exact h2
  | some t => obtain ⟨b, e, h⟩ := h2; exact ⟨b, e, hB h⟩

theorem fldD0 (a b c : Int) (w : World) : (Instr.field 66 (.agg #[.int .i64 a, .int .i64 b, .int .i64 c]) 0).run Try.prog w = .ok (.int .i64 a) w := by kernel_rfl
theorem fldD1 (a b c : Int) (w : World) : (Instr.field 66 (.agg #[.int .i64 a, .int .i64 b, .int .i64 c]) 1).run Try.prog w = .ok (.int .i64 b) w := by kernel_rfl
theorem fldD2 (a b c : Int) (w : World) : (Instr.field 66 (.agg #[.int .i64 a, .int .i64 b, .int .i64 c]) 2).run Try.prog w = .ok (.int .i64 c) w := by kernel_rfl

def datas (o : Option T) : Value := .agg #[.int .i64 ((textO o).length : Nat), .int .i64 ((textO o).count 10 : Nat), .int .i64 (depthO o : Nat)]
theorem whole_nil (w : World) : Calls Try.prog 33 #[.pointer none] w fun e w' => e = .returned (.agg #[.int .i64 0, .int .i64 0, .int .i64 0]) ∧ Below w.heap.size w w' := by
  have hB : Below w.heap.size w (w.alloc (.cells #[.int .i64 0, .int .i64 0, .int .i64 0] 66)) := (Below.refl _ _).alloc (Nat.le_refl _) _
  go_enter Try.func33, Try.ntmps33
  go_wp2
  refine bodyPost_ret (v := .agg #[.int .i64 0, .int .i64 0, .int .i64 0]) (by simp [results, Try.f33, go_sem]) rfl ?_
  exact ⟨rfl, hB⟩
theorem whole_empty (w : World) (b : Nat) (h : RAt w b none) : Calls Try.prog 33 #[.pointer (some ⟨b, 0, none⟩)] w fun e w' => e = .returned (.agg #[.int .i64 0, .int .i64 0, .int .i64 0]) ∧ Below w.heap.size w w' := by
  obtain ⟨p, h1, h2, _⟩ := h
  have h2' : Value.pointer p = .pointer none := h2
  injection h2' with h2'
  subst h2'
  have hz := (Array.getElem?_eq_some_iff.1 h1).1
  have c0 : w.cell? ⟨b, 0, none⟩ = some (.pointer none) := by rw [cellH h1]; rfl
  have hB : Below w.heap.size w (w.alloc (.cells #[.int .i64 0, .int .i64 0, .int .i64 0] 66)) := (Below.refl _ _).alloc (Nat.le_refl _) _
  have H1 := Lib.hid h1
  clear h1 h2
  go_enter Try.func33, Try.ntmps33
  go_wp2
  refine bodyPost_ret (v := .agg #[.int .i64 0, .int .i64 0, .int .i64 0]) (by simp [results, Try.f33, go_sem]) rfl ?_
  exact ⟨rfl, hB⟩
theorem whole_some (w : World) (b : Nat) (t : T) (h : RAt w b (some t)) : Calls Try.prog 33 #[.pointer (some ⟨b, 0, none⟩)] w fun e w' => e = .returned (.agg #[.int .i64 t.size, .int .i64 t.ends, .int .i64 t.depth]) ∧ Below w.heap.size w w' := by
  obtain ⟨p, h1, ⟨bt, h2, hA⟩, _⟩ := h
  injection h2 with h2
  subst h2
  have hz := (Array.getElem?_eq_some_iff.1 h1).1
  have hz2 := hA.lt
  have c0 : w.cell? ⟨b, 0, none⟩ = some (.pointer (some ⟨bt, 0, none⟩)) := by rw [cellH h1]; rfl
  obtain ⟨a0, a1, a2⟩ := hA.cells
  have H1 := Lib.hid h1
  clear h1 hA
  generalize t.size = n at *
  generalize t.ends = k at *
  generalize t.depth = d at *
  have hB : Below w.heap.size w (w.alloc (.cells #[.int .i64 n, .int .i64 k, .int .i64 d] 66)) := (Below.refl _ _).alloc (Nat.le_refl _) _
  go_enter Try.func33, Try.ntmps33
  go_wp2
  refine bodyPost_ret (v := .agg #[.int .i64 n, .int .i64 k, .int .i64 d]) (by simp [results, Try.f33, go_sem]) rfl ?_
  exact ⟨rfl, hB⟩
theorem whole_any (w : World) (b : Nat) (o : Option T) (h : RAt w b o) : Calls Try.prog 33 #[.pointer (some ⟨b, 0, none⟩)] w fun e w' => e = .returned (datas o) ∧ Below w.heap.size w w' := by
  cases o with
  | none => exact whole_empty w b h
  | some t =>
    refine (whole_some w b t h).mono ?_
    rintro e w' ⟨rfl, hb⟩
    refine ⟨?_, hb⟩
    show _ = Ending.returned (.agg #[.int .i64 (t.text.length : Nat), .int .i64 (t.text.count 10 : Nat), .int .i64 (t.depth : Nat)])
    rw [T.size_text, T.ends_text]
theorem len_any (w : World) (b : Nat) (o : Option T) (h : RAt w b o) : Calls Try.prog 14 #[.pointer (some ⟨b, 0, none⟩)] w fun e w' => e = .returned (.int .i64 ((textO o).length : Nat)) ∧ Below w.heap.size w w' := by
  have hW := whole_any w b o h
  unfold datas at hW
  have hd := fldD0
  clear h
  generalize (textO o).length = x0 at *
  generalize (textO o).count 10 = x1 at *
  generalize depthO o = x2 at *
  go_enter Try.func14, Try.ntmps14
  go_wp2_with fail
  refine hW.mono ?_
  rintro e w1 ⟨rfl, hb⟩
  go_wp2
  go_ret
  exact ⟨rfl, hb⟩
theorem len_nil (w : World) : Calls Try.prog 14 #[.pointer none] w fun e w' => e = .returned (.int .i64 0) ∧ Below w.heap.size w w' := by
  have hW := whole_nil w
  have hd := fldD0
  go_enter Try.func14, Try.ntmps14
  go_wp2_with fail
  refine hW.mono ?_
  rintro e w1 ⟨rfl, hb⟩
  go_wp2
  go_ret
  exact ⟨rfl, hb⟩
theorem ends_any (w : World) (b : Nat) (o : Option T) (h : RAt w b o) : Calls Try.prog 17 #[.pointer (some ⟨b, 0, none⟩)] w fun e w' => e = .returned (.int .i64 ((textO o).count 10 : Nat)) ∧ Below w.heap.size w w' := by
  have hW := whole_any w b o h
  unfold datas at hW
  have hd := fldD1
  clear h
  generalize (textO o).length = x0 at *
  generalize (textO o).count 10 = x1 at *
  generalize depthO o = x2 at *
  go_enter Try.func17, Try.ntmps17
  go_wp2_with fail
  refine hW.mono ?_
  rintro e w1 ⟨rfl, hb⟩
  go_wp2
  go_ret
  exact ⟨rfl, hb⟩
theorem ends_nil (w : World) : Calls Try.prog 17 #[.pointer none] w fun e w' => e = .returned (.int .i64 0) ∧ Below w.heap.size w w' := by
  have hW := whole_nil w
  have hd := fldD1
  go_enter Try.func17, Try.ntmps17
  go_wp2_with fail
  refine hW.mono ?_
  rintro e w1 ⟨rfl, hb⟩
  go_wp2
  go_ret
  exact ⟨rfl, hb⟩
theorem depth_any (w : World) (b : Nat) (o : Option T) (h : RAt w b o) : Calls Try.prog 15 #[.pointer (some ⟨b, 0, none⟩)] w fun e w' => e = .returned (.int .i64 (depthO o : Nat)) ∧ Below w.heap.size w w' := by
  have hW := whole_any w b o h
  unfold datas at hW
  have hd := fldD2
  clear h
  generalize (textO o).length = x0 at *
  generalize (textO o).count 10 = x1 at *
  generalize depthO o = x2 at *
  go_enter Try.func15, Try.ntmps15
  go_wp2_with fail
  refine hW.mono ?_
  rintro e w1 ⟨rfl, hb⟩
  go_wp2
  go_ret
  exact ⟨rfl, hb⟩
theorem depth_nil (w : World) : Calls Try.prog 15 #[.pointer none] w fun e w' => e = .returned (.int .i64 0) ∧ Below w.heap.size w w' := by
  have hW := whole_nil w
  have hd := fldD2
  go_enter Try.func15, Try.ntmps15
  go_wp2_with fail
  refine hW.mono ?_
  rintro e w1 ⟨rfl, hb⟩
  go_wp2
  go_ret
  exact ⟨rfl, hb⟩

/-- Of, of a text that is not too long. -/
theorem of_any (s : ByteArray) (w : World) (hs : s.size ≤ 65536) : Calls Try.prog 8 #[.string s] w fun e w' => ∃ b o, e = .returned (.tuple #[.pointer (some ⟨b, 0, none⟩), .int .i64 0]) ∧ RAt w' b o ∧ textO o = s.data.toList ∧ Below w.heap.size w w' := by
  have hb := build_any s w (by omega)
  have hs' : (s.size : Int) ≤ 65536 := by omega
  go_enter Try.func8, Try.ntmps8
  go_wp2_with fail
  refine hb.mono ?_
  rintro e w1 ⟨v, o, rfl, h1, h2, h3, h4⟩
  obtain ⟨p, rfl⟩ := h1.ptr
  have H1 := Lib.hid h1
  have H3 := Lib.hid h3
  clear h1 h3 hb
  go_wp2
  refine bodyPost_ret (v := .tuple #[.pointer (some ⟨w1.heap.size, 0, none⟩), .int .i64 0]) (by simp [results, Try.f8, go_sem]) rfl ?_
  have hB : Below w1.heap.size w1 (w1.alloc (.cells #[.pointer p] 57)) := (Below.refl _ _).alloc (Nat.le_refl _) _
  exact ⟨w1.heap.size, o, rfl, ⟨p, World.alloc_heap_new w1 _, H1.out.below (Nat.le_refl _) hB, h2⟩, H3.out, h4.trans (hB.mono h4.size)⟩
theorem of_large (s : ByteArray) (w : World) (hs : 65536 < s.size) : Calls Try.prog 8 #[.string s] w fun e w' => e = .returned (.tuple #[.pointer none, .int .i64 40]) ∧ w = w' := by
  have hs' : (65536 : Int) < (s.size : Int) := by omega
  go_enter Try.func8, Try.ntmps8
  go_wp2
  exact bodyPost_ret (v := .tuple #[.pointer none, .int .i64 40]) (by simp [results, Try.f8, go_sem]) rfl ⟨rfl, rfl⟩

def spanV (a c : Int) : Value := .agg #[.int .i64 a, .int .i64 c]
/-- Is that a span of so many bytes? -/
def isSpan (n : Nat) (a c : Int) : Bool := decide (0 ≤ a) && (decide (a ≤ c) && decide (c ≤ n))
theorem has_neg (w : World) (b : Nat) (o : Option T) (a c : Int) (h : RAt w b o) (ha : a < 0) :
    Calls Try.prog 28 #[.pointer (some ⟨b, 0, none⟩), .agg #[.int .i64 a, .int .i64 c]] w fun e w' => e = .returned (.bool false) ∧ Below w.heap.size w w' := by
  have hB : Below w.heap.size w (w.alloc (.cells #[.int .i64 a, .int .i64 c] 30)) := (Below.refl _ _).alloc (Nat.le_refl _) _
  have hL := fun W (hW : Below w.heap.size w W) => len_any W b o (h.below (Nat.le_refl _) hW)
  have H := Lib.hid h
  clear h
  have hx : ¬ (0 : Int) ≤ a := by omega
  have hy : decide ((0 : Int) ≤ a) = false := decide_eq_false hx
  go_enter Try.func28, Try.ntmps28
  go_wp2
  go_quiet (fail)
  go_wp2
  go_ret
  exact ⟨rfl, below_drewN hB _⟩
theorem has_turned (w : World) (b : Nat) (o : Option T) (a c : Int) (h : RAt w b o) (ha : 0 ≤ a) (hc : c < a) :
    Calls Try.prog 28 #[.pointer (some ⟨b, 0, none⟩), .agg #[.int .i64 a, .int .i64 c]] w fun e w' => e = .returned (.bool false) ∧ Below w.heap.size w w' := by
  have hB : Below w.heap.size w (w.alloc (.cells #[.int .i64 a, .int .i64 c] 30)) := (Below.refl _ _).alloc (Nat.le_refl _) _
  have hL := fun W (hW : Below w.heap.size w W) => len_any W b o (h.below (Nat.le_refl _) hW)
  have H := Lib.hid h
  clear h
  have hx : ¬ a ≤ c := by omega
  have hy : decide (a ≤ c) = false := decide_eq_false hx
  have hz : decide ((0 : Int) ≤ a) = true := decide_eq_true ha
  go_enter Try.func28, Try.ntmps28
  go_wp2
  go_quiet (fail)
  go_wp2
  go_ret
  exact ⟨rfl, below_drewN hB _⟩
theorem has_far (w : World) (b : Nat) (o : Option T) (a c : Int) (h : RAt w b o) (ha : 0 ≤ a) (hc : a ≤ c) (hn : ((textO o).length : Int) < c) :
    Calls Try.prog 28 #[.pointer (some ⟨b, 0, none⟩), .agg #[.int .i64 a, .int .i64 c]] w fun e w' => e = .returned (.bool false) ∧ Below w.heap.size w w' := by
  have hB : Below w.heap.size w (w.alloc (.cells #[.int .i64 a, .int .i64 c] 30)) := (Below.refl _ _).alloc (Nat.le_refl _) _
  have hL := fun W (hW : Below w.heap.size w W) => len_any W b o (h.below (Nat.le_refl _) hW)
  have H := Lib.hid h
  clear h
  generalize (textO o).length = n at *
  have hx : ¬ c ≤ (n : Int) := by omega
  have hy : decide (c ≤ (n : Int)) = false := decide_eq_false hx
  go_enter Try.func28, Try.ntmps28
  go_wp2
  have k0 : (w.alloc (.cells #[.int .i64 a, .int .i64 c] 30)).cell? ⟨w.heap.size, 0, none⟩ = some (.int .i64 a) := by simp
  have k1 : (w.alloc (.cells #[.int .i64 a, .int .i64 c] 30)).cell? ⟨w.heap.size, 1, none⟩ = some (.int .i64 c) := by simp
  have hz : w.heap.size < (w.alloc (.cells #[.int .i64 a, .int .i64 c] 30)).heap.size := by simp
  generalize w.alloc (.cells #[.int .i64 a, .int .i64 c] 30) = W at *
  go_region_held3 (fun u => u.cell? ⟨w.heap.size, 0, none⟩ = some (.int .i64 a) ∧ u.cell? ⟨w.heap.size, 1, none⟩ = some (.int .i64 c)) (first | exact ⟨k0, k1⟩ | exact ⟨p0, p1⟩ | go_keep) (first | (go_at_call 14; (with_reducible refine Calls.mono (hL _ hB.drew) ?_); rintro e w1 ⟨rfl, hb1⟩; have p0 := (hb1.cell (p := ⟨w.heap.size, 0, none⟩) hz).trans k0; have p1 := (hb1.cell (p := ⟨w.heap.size, 1, none⟩) hz).trans k1))
  go_wp2
  go_ret
  exact ⟨rfl, hB.drew.trans (hb1.mono hB.size)⟩
theorem has_yes (w : World) (b : Nat) (o : Option T) (a c : Int) (h : RAt w b o) (ha : 0 ≤ a) (hc : a ≤ c) (hn : c ≤ ((textO o).length : Int)) :
    Calls Try.prog 28 #[.pointer (some ⟨b, 0, none⟩), .agg #[.int .i64 a, .int .i64 c]] w fun e w' => e = .returned (.bool true) ∧ Below w.heap.size w w' := by
  have hB : Below w.heap.size w (w.alloc (.cells #[.int .i64 a, .int .i64 c] 30)) := (Below.refl _ _).alloc (Nat.le_refl _) _
  have hL := fun W (hW : Below w.heap.size w W) => len_any W b o (h.below (Nat.le_refl _) hW)
  have H := Lib.hid h
  clear h
  generalize (textO o).length = n at *
  go_enter Try.func28, Try.ntmps28
  go_wp2
  have k0 : (w.alloc (.cells #[.int .i64 a, .int .i64 c] 30)).cell? ⟨w.heap.size, 0, none⟩ = some (.int .i64 a) := by simp
  have k1 : (w.alloc (.cells #[.int .i64 a, .int .i64 c] 30)).cell? ⟨w.heap.size, 1, none⟩ = some (.int .i64 c) := by simp
  have hz : w.heap.size < (w.alloc (.cells #[.int .i64 a, .int .i64 c] 30)).heap.size := by simp
  generalize w.alloc (.cells #[.int .i64 a, .int .i64 c] 30) = W at *
  go_region_held3 (fun u => u.cell? ⟨w.heap.size, 0, none⟩ = some (.int .i64 a) ∧ u.cell? ⟨w.heap.size, 1, none⟩ = some (.int .i64 c)) (first | exact ⟨k0, k1⟩ | exact ⟨p0, p1⟩ | go_keep) (first | (go_at_call 14; (with_reducible refine Calls.mono (hL _ hB.drew) ?_); rintro e w1 ⟨rfl, hb1⟩; have p0 := (hb1.cell (p := ⟨w.heap.size, 0, none⟩) hz).trans k0; have p1 := (hb1.cell (p := ⟨w.heap.size, 1, none⟩) hz).trans k1))
  go_wp2
  go_ret
  exact ⟨rfl, hB.drew.trans (hb1.mono hB.size)⟩

theorem has_any (w : World) (b : Nat) (o : Option T) (a c : Int) (h : RAt w b o) :
    Calls Try.prog 28 #[.pointer (some ⟨b, 0, none⟩), .agg #[.int .i64 a, .int .i64 c]] w fun e w' => e = .returned (.bool (isSpan (textO o).length a c)) ∧ Below w.heap.size w w' := by
  unfold isSpan
  by_cases h0 : 0 ≤ a
  · by_cases h1 : a ≤ c
    · by_cases h2 : c ≤ ((textO o).length : Int)
      · simp only [h0, h1, h2, decide_true, Bool.and_self]; exact has_yes w b o a c h h0 h1 h2
      · simp only [h0, h1, h2, decide_true, decide_false, Bool.and_false]; exact has_far w b o a c h h0 h1 (by omega)
    · simp only [h1, decide_false, Bool.false_and, Bool.and_false]; exact has_turned w b o a c h h0 (by omega)
  · simp only [h0, decide_false, Bool.false_and]; exact has_neg w b o a c h (by omega)
end Go.Proofs.Ytbmcgmnmmnileaa
