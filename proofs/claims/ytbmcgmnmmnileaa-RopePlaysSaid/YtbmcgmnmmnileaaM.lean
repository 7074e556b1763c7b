/-
  WriteString on a builder that has been used; write, of a span of a tree.
-/
import Derived.Test.YtbmcgmnmmnileaaL
import Derived.Lib.AppendStr
import Derived.Lib.Builder
namespace Go.Proofs.Ytbmcgmnmmnileaa
open Go.RowKit Go.Shelf

set_option maxHeartbeats 1000000 in
set_option maxRecDepth 100000 in
theorem copyCheck_used (b : Nat) (w : World) (h0 : w.cell? ⟨b, 0, none⟩ = some (.pointer (some ⟨b, 0, none⟩))) :
    Calls Try.prog 48 #[.pointer (some ⟨b, 0, none⟩)] w fun e w' => e = .returned (.tuple #[]) ∧ w' = w := by
  obtain ⟨j, hj, _⟩ := Option.map_eq_some_iff.1 Try.Builder_Extra_165.sizeBuilder
  have ht : Try.prog.underlying 68 = some (.pointer 70) := by kernel_rfl
  go_enter Try.func48, Try.ntmps48
  go_wp2
  rw [Lib.run_neq_ptr_same w _ ht hj]
  go_wp2
  go_end0
  exact ⟨rfl, rfl⟩

set_option maxHeartbeats 2000000 in
set_option maxRecDepth 100000 in
theorem writeString_used (B b : Nat) (bs : List Value) (s : ByteArray) (w : World) (h : Lib.BuilderAt 70 5 B b (.pointer (some ⟨b, 0, none⟩)) bs w) (hlen : bs.length + s.size ≤ 140737488355328) (hBw : B ≤ w.heap.size) :
    Calls Try.prog 50 #[.pointer (some ⟨b, 0, none⟩), .string s] w fun e w' => e = .returned (.tuple #[.int .i64 s.size, .nilIface]) ∧ (Lib.BuilderAt 70 5 B b (.pointer (some ⟨b, 0, none⟩)) (bs ++ Lib.strCells s) w' ∧ Below B w w') := by
  obtain ⟨i0, hi, hz0, hz1, hz2⟩ := info_parts Try.Builder_Extra_165.infoByte
  have t37 : Try.prog.underlying 58 = some (.slice 5) := by kernel_rfl
  have t9 : Try.prog.underlying 9 = some .string := by kernel_rfl
  have hc := copyCheck_used b w (Lib.BuilderAt.cell0 h)
  obtain ⟨hB, v, hbk, hown, hne⟩ := h
  go_enter Try.func50, Try.ntmps50
  go_wp2_with fail
  refine hc.mono ?_
  rintro e w1 ⟨rfl, rfl⟩
  have c0 : w1.cell? ⟨b, 0, none⟩ = some (.pointer (some ⟨b, 0, none⟩)) := by rw [Lib.cell_of_heap hbk]; rfl
  have c1 : w1.cell? ⟨b, 1, none⟩ = some v := by rw [Lib.cell_of_heap hbk]; rfl
  go_wp2_with (at_builtin; refine Lib.wpList_append_own_string _ rfl _ _ 58 9 rfl B 5 i0 t37 t9 hi hz0 hz1 hz2 _ _ _ rfl hown s rfl ?c3 ?c4 ?c5 ?_)
  case c3 => unfold maxLen; omega
  case c4 => omega
  case c5 => omega
  intro v' w2 hown' hgrow _
  have hlt : b < w1.heap.size := (Array.getElem?_eq_some_iff.1 hbk).1
  have hb2 : w2.heap[b]? = some (.cells #[.pointer (some ⟨b, 0, none⟩), v] 70 (0, 0)) := by
    rw [hgrow.block b hlt (fun e => hne e.symm)]
    exact hbk
  have d0 : w2.cell? ⟨b, 0, none⟩ = some (.pointer (some ⟨b, 0, none⟩)) := by rw [Lib.cell_of_heap hb2]; rfl
  have d1 : w2.cell? ⟨b, 1, none⟩ = some v := by rw [Lib.cell_of_heap hb2]; rfl
  have f1 : w2.frozen? ⟨b, 1, none⟩ = false := Lib.frozen_of_heap hb2 1
  obtain ⟨ao, n', cap, rfl⟩ : ∃ ao n' cap, v' = .slice ao n' cap := by
    rcases hown'.2 with ⟨hv, _⟩ | ⟨g, cap, cur, hv, _⟩
    · exact ⟨_, _, _, hv⟩
    · exact ⟨_, _, _, hv⟩
  go_wp2
  refine bodyPost_ret (v := .tuple #[.int .i64 s.size, .nilIface]) (by simp [results, Try.f50, go_sem]) rfl ?_
  refine ⟨rfl, ?_, ?_⟩
  · exact Lib.BuilderAt.put (T := 70) (e := 5) hB hb2 (bs' := bs ++ Lib.strCells s) (by simpa [Lib.strCells_length] using hown') (by decide)
  · exact ((Below.refl _ _).grown hgrow (by omega) (fun k hk => (hown.lt k hk).1)).setCell (p := ⟨b, 1, none⟩) hB _

/-- The bytes from f to g. -/
def sub (l : List UInt8) (f g : Int) : List UInt8 := (l.take g.toNat).drop f.toNat
theorem sub_none (l : List UInt8) (f g : Int) (h : g ≤ f) : sub l f g = [] := by
  unfold sub
  rw [List.drop_eq_nil_iff, List.length_take]
  omega
theorem sub_cat (l r : List UInt8) (f g : Int) (h0 : 0 ≤ f) (h : f < g) :
    sub (l ++ r) f g = sub l f (min g l.length) ++ sub r (max f l.length - l.length) (g - l.length) := by
  unfold sub
  rw [List.take_append, List.drop_append, List.length_take]
  congr 1
  · congr 1
    rcases Nat.le_total g.toNat l.length with h1 | h1
    · congr 1; omega
    · rw [List.take_of_length_le h1, List.take_of_length_le (by omega)]
  · by_cases h2 : g.toNat ≤ l.length
    · rw [show (g - (l.length : Int)).toNat = 0 by omega, show g.toNat - l.length = 0 by omega]
      simp
    · congr 1
      · omega
      · congr 1; omega
theorem sub_length (l : List UInt8) (f g : Int) : (sub l f g).length ≤ l.length := by
  unfold sub
  rw [List.length_drop, List.length_take]
  omega

theorem write_none (w : World) (v : Value) (bb : Nat) (f g : Int) (h : g ≤ f) :
    Calls Try.prog 35 #[v, .pointer (some ⟨bb, 0, none⟩), .int .i64 f, .int .i64 g] w fun e w' => e = .returned (.tuple #[]) ∧ w = w' := by
  go_enter Try.func35, Try.ntmps35
  go_wp2
  exact bodyPost_ret (v := .tuple #[]) (by simp [results, Try.f35, go_sem]) rfl ⟨rfl, rfl⟩


/-- What write does. -/
def Wrote (B bb : Nat) (w0 : World) (x y : List UInt8) (e : Ending) (w' : World) : Prop :=
  e = .returned (.tuple #[]) ∧ Lib.BuilderAt 70 5 B bb (.pointer (some ⟨bb, 0, none⟩)) (Lib.byteCells (x ++ y)) w' ∧ Below B w0 w' ∧ w0.heap.size ≤ w'.heap.size

set_option maxRecDepth 100000 in
set_option maxHeartbeats 1000000 in
theorem write_leaf (w0 w : World) (B bb b : Nat) (s : ByteArray) (x : List UInt8) (f g : Nat) (hA : At w0 b (.leaf s)) (h0 : w0.heap.size ≤ B) (hb : Below B w0 w) (hBw : B ≤ w.heap.size)
    (hL : Lib.BuilderAt 70 5 B bb (.pointer (some ⟨bb, 0, none⟩)) (Lib.byteCells x) w) (hf : f < g) (hg : g ≤ s.size) (hs : x.length + s.size ≤ 1000000000) :
    Calls Try.prog 35 #[.pointer (some ⟨b, 0, none⟩), .pointer (some ⟨bb, 0, none⟩), .int .i64 f, .int .i64 g] w (Wrote B bb w x (sub s.data.toList f g)) := by
  have hp := isPiece_leaf w b s (hA.below h0 hb)
  obtain ⟨c3, _, _⟩ := (hA.below h0 hb).leaf
  have hi0 : (0 : Int) ≤ (f : Int) := by omega
  have hi1 : (f : Int) ≤ (g : Int) := by omega
  have hi2 : (g : Int) ≤ (s.size : Int) := by omega
  have hi3 : (f : Int) < (g : Int) := by omega
  have hz : (s.extract f g).size = g - f := ex_size s f g hg
  have he : Hid ((s.extract f g).data.toList = sub s.data.toList f g) := Lib.hid (by
    rw [ex_list]; unfold sub; simp only [Int.toNat_natCast]; rw [List.drop_take])
  have hW := writeString_used B bb (Lib.byteCells x) (s.extract f g) w hL (by rw [show (Lib.byteCells x).length = x.length by simp [Lib.byteCells], hz]; omega) hBw
  have HW : Hid (∀ w' : World, Lib.BuilderAt 70 5 B bb (.pointer (some ⟨bb, 0, none⟩)) (Lib.byteCells x ++ Lib.strCells (s.extract f g)) w' → Lib.BuilderAt 70 5 B bb (.pointer (some ⟨bb, 0, none⟩)) (Lib.byteCells (x ++ sub s.data.toList f g)) w') := Lib.hid fun w' h => by
    have e : Lib.byteCells x ++ Lib.strCells (s.extract f g) = Lib.byteCells (x ++ sub s.data.toList f g) := by
      rw [← he.out]; simp [Lib.byteCells, Lib.strCells]
    rw [← e]; exact h
  clear hA hL
  go_enter Try.func35, Try.ntmps35
  go_wp2_with fail
  refine hp.mono ?_
  rintro e w1 ⟨rfl, rfl⟩
  clear hp
  go_wp2_with fail
  refine hW.mono ?_
  rintro e w1 ⟨rfl, h1, h2⟩
  have H1 := Lib.hid h1
  clear h1 hW
  go_wp2
  go_end0
  exact ⟨rfl, HW.out _ H1.out, h2, h2.size⟩

set_option maxRecDepth 100000 in
set_option maxHeartbeats 1000000 in
theorem write_cat (w0 w : World) (B bb b : Nat) (l r : T) (x : List UInt8) (f g : Int) (hA : At w0 b (.cat l r)) (h0 : w0.heap.size ≤ B) (hb : Below B w0 w) (hBw : B ≤ w.heap.size)
    (hf0 : 0 ≤ f) (hf : f < g) (hg : g ≤ l.size + r.size) (hs : l.size + r.size ≤ 1000000000)
    (c1 : ∀ bl, At w0 bl l → Calls Try.prog 35 #[.pointer (some ⟨bl, 0, none⟩), .pointer (some ⟨bb, 0, none⟩), .int .i64 f, .int .i64 (min g l.size)] w (Wrote B bb w x (sub l.text f (min g l.size))))
    (c2 : ∀ w' br, At w0 br r → Below B w0 w' → B ≤ w'.heap.size → Lib.BuilderAt 70 5 B bb (.pointer (some ⟨bb, 0, none⟩)) (Lib.byteCells (x ++ sub l.text f (min g l.size))) w' → Calls Try.prog 35 #[.pointer (some ⟨br, 0, none⟩), .pointer (some ⟨bb, 0, none⟩), .int .i64 (max f l.size - l.size), .int .i64 (g - l.size)] w' (Wrote B bb w' (x ++ sub l.text f (min g l.size)) (sub r.text (max f l.size - l.size) (g - l.size)))) :
    Calls Try.prog 35 #[.pointer (some ⟨b, 0, none⟩), .pointer (some ⟨bb, 0, none⟩), .int .i64 f, .int .i64 g] w (Wrote B bb w x (sub (l.text ++ r.text) f g)) := by
  have hp := isPiece_cat w b l r (hA.below h0 hb)
  obtain ⟨bl, br, _, a4, a5, hl, hr⟩ := hA.cat
  have hlt : b < B := Nat.lt_of_lt_of_le hA.lt h0
  have hlt2 : bl < B := Nat.lt_of_lt_of_le hl.lt h0
  obtain ⟨m0, _, _⟩ := hl.cells
  have k4 := (hb.cell (p := ⟨b, 4, none⟩) hlt).trans a4
  have k5 := (hb.cell (p := ⟨b, 5, none⟩) hlt).trans a5
  have k0 := (hb.cell (p := ⟨bl, 0, none⟩) hlt2).trans m0
  have c1' := c1 bl hl
  have c2' := fun w' => c2 w' br hr
  have hx : Hid (sub (l.text ++ r.text) f g = sub l.text f (min g l.size) ++ sub r.text (max f l.size - l.size) (g - l.size)) := Lib.hid (by
    have := sub_cat l.text r.text f g hf0 hf
    rw [T.size_text] at this
    exact this)
  clear c1 c2 hA hl hr a4 a5 m0
  generalize sub (l.text ++ r.text) f g = Y at *
  generalize sub l.text f (min g l.size) = Y1 at *
  generalize sub r.text (max f l.size - l.size) (g - l.size) = Y2 at *
  generalize hm : l.size = m at *
  have hw1 : IntKind.i64.wrap (max f (m : Int) - (m : Int)) = max f (m : Int) - (m : Int) := IntWalk.i64_in _ (by omega)
  have hw2 : IntKind.i64.wrap (g - (m : Int)) = g - (m : Int) := IntWalk.i64_in _ (by omega)
  have HH := Lib.hid hb
  clear hm
  go_enter Try.func35, Try.ntmps35
  go_wp2_with fail
  refine hp.mono ?_
  rintro e w1 ⟨rfl, rfl⟩
  clear hp
  go_wp2_with fail
  refine c1'.mono ?_
  rintro e w1 ⟨rfl, h1, h2, h3⟩
  have H1 := Lib.hid h1
  replace k4 := (h2.cell (p := ⟨b, 4, none⟩) hlt).trans k4
  replace k5 := (h2.cell (p := ⟨b, 5, none⟩) hlt).trans k5
  clear h1 k0
  go_wp2_with fail
  refine (c2' w1 (HH.out.trans h2) (Nat.le_trans hBw h3) H1.out).mono ?_
  rintro e w2 ⟨rfl, h4, h5, h6⟩
  have H4 := Lib.hid h4
  clear h4
  go_wp2
  go_end0
  exact ⟨rfl, by rw [hx.out, ← List.append_assoc]; exact H4.out, h2.trans h5, Nat.le_trans h3 h6⟩
/-- write. -/
theorem write_any : ∀ (t : T) (w0 w : World) (B bb b : Nat) (x : List UInt8) (f g : Int), At w0 b t → w0.heap.size ≤ B → Below B w0 w → B ≤ w.heap.size → Lib.BuilderAt 70 5 B bb (.pointer (some ⟨bb, 0, none⟩)) (Lib.byteCells x) w →
    0 ≤ f → g ≤ t.size → x.length + t.size ≤ 1000000000 →
    Calls Try.prog 35 #[.pointer (some ⟨b, 0, none⟩), .pointer (some ⟨bb, 0, none⟩), .int .i64 f, .int .i64 g] w (Wrote B bb w x (sub t.text f g)) := by
  intro t
  induction t with
  | leaf s =>
    intro w0 w B bb b x f g hA h0 hb hBw hL hf hg hs
    by_cases h : g ≤ f
    · refine (write_none w _ bb f g h).mono ?_
      rintro e w' ⟨rfl, rfl⟩
      exact ⟨rfl, by rw [sub_none _ f g h, List.append_nil]; exact hL, Below.refl _ _, Nat.le_refl _⟩
    · obtain ⟨fn, rfl⟩ := Int.eq_ofNat_of_zero_le hf
      obtain ⟨gn, rfl⟩ := Int.eq_ofNat_of_zero_le (show 0 ≤ g by omega)
      exact write_leaf w0 w B bb b s x fn gn hA h0 hb hBw hL (by omega) (by have : (gn : Int) ≤ (s.size : Int) := hg; omega) hs
  | cat l r il ir =>
    intro w0 w B bb b x f g hA h0 hb hBw hL hf hg hs
    by_cases h : g ≤ f
    · refine (write_none w _ bb f g h).mono ?_
      rintro e w' ⟨rfl, rfl⟩
      exact ⟨rfl, by rw [sub_none _ f g h, List.append_nil]; exact hL, Below.refl _ _, Nat.le_refl _⟩
    · have hs' : x.length + (l.size + r.size) ≤ 1000000000 := hs
      have hg' : g ≤ (l.size : Int) + (r.size : Int) := by have : g ≤ ((l.size + r.size : Nat) : Int) := hg; omega
      refine write_cat w0 w B bb b l r x f g hA h0 hb hBw hf (by omega) hg' (by omega) (fun bl hl => il w0 w B bb bl x f _ hl h0 hb hBw hL hf (by omega) (by omega)) ?_
      intro w' br hr hb' hBw' hL'
      have hz := sub_length l.text f (min g l.size)
      rw [T.size_text] at hz
      exact ir w0 w' B bb br _ _ _ hr h0 hb' hBw' hL' (by omega) (by omega) (by rw [List.length_append]; omega)
end Go.Proofs.Ytbmcgmnmmnileaa
