/-
  lines.New.
-/
import Derived.Test.YtfhkahnajjbohaaDoorL
import Derived.Deep.RegionHeld
import Derived.Deep.AppendLies
namespace Go.Proofs.YtfhkahnajjbohaaDoor
open Go.RowKit Go.Shelf
attribute [local go_sem] Oper.semAt_some

theorem clone_any (s : ByteArray) (w : World) (hs : s.size ≤ 1000000000) :
    Calls Tryd.prog 25 #[.string s] w fun e w' => e = .returned (.string s) ∧ Below w.heap.size w w' := by
  go_enter Tryd.func25, Tryd.ntmps25
  go_wp2_with fail
  refine (Tryd.stringslite_Clone s w (by omega)).mono ?_
  rintro e w' ⟨rfl, hb⟩
  go_wp2
  go_ret
  exact ⟨rfl, hb⟩

def flatL (l : List (Nat × Nat)) : List Value := l.flatMap fun x => [.int .i64 x.1, .int .i64 x.2]
theorem flatL_snoc (l : List (Nat × Nat)) (x : Nat × Nat) : flatL (l ++ [x]) = flatL l ++ [.int .i64 x.1, .int .i64 x.2] := by simp [flatL]

/-- Block b is an index: its text and a slice that owns these lines. -/
def IdxAt (W : World) (base b : Nat) (s : ByteArray) (ls : List (Nat × Nat)) : Prop :=
  ∃ v, W.heap[b]? = some (.cells #[.string s, v] 59 (0, 0)) ∧ W.ownsRow base 32 2 v ls.length (flatL ls)

theorem idx_own (base b : Nat) (s : ByteArray) : Own (fun (ls : List (Nat × Nat)) W => IdxAt W base b s ls) := by
  rintro ls X Y row ⟨v, hv, hr⟩ hg hrow
  refine ⟨v, ?_, hr.kept hg ?_⟩
  · rw [hg.block b (Array.getElem?_eq_some_iff.1 hv).1 (fun e' => ?_)]
    · exact hv
    · obtain ⟨o, ho, hc⟩ := hrow b e'.symm
      rw [hv] at ho; cases ho; cases hc
  · rcases hr.2 with ⟨rfl, _⟩ | ⟨g, cap, cur, rfl, _, hgb, _⟩
    · exact .inl rfl
    · refine .inr fun e' => ?_
      obtain ⟨o, ho, hc⟩ := hrow g (by simpa [Value.ownBlock] using e'.symm)
      rw [hgb] at ho; cases ho; cases hc

theorem heap_ne {W : World} {b : Nat} {cs : Array Value} {t e : TypeId} {fr : Nat × Nat} (hb : W.heap[b]? = some (.cells cs t fr)) (hte : t ≠ e) {base size k : Nat} {v : Value} {xs : List Value} (hr : W.ownsRow base e size v k xs) : some b ≠ v.ownBlock := by
  rcases hr.2 with ⟨rfl, _⟩ | ⟨g, cap, cur, rfl, _, hgb, _⟩
  · simp [Value.ownBlock]
  · intro e'
    obtain rfl : b = g := by simpa [Value.ownBlock] using e'
    have := hb.symm.trans hgb
    simp at this
    exact hte this.2.1

theorem linesF_len : ∀ (f : Nat) (s : ByteArray) (k : Nat), k ≤ s.size → (linesF f s k).length ≤ s.size - k + 1
  | 0, _, _, _ => by simp [linesF]
  | f + 1, s, k, hk => by
    have hsz : (tl s k).size = s.size - k := by simp [tl]
    have hbd := ixe_bd (tl s k)
    rw [linesF]
    split
    · simp
    · have he1 := esz_bd (tl s (k + (ixe (tl s k)).toNat))
      have he2 := esz_le (tl s (k + (ixe (tl s k)).toNat)) (by rw [show (tl s (k + (ixe (tl s k)).toNat)).size = s.size - (k + (ixe (tl s k)).toNat) by simp [tl]]; omega)
      have hts : (tl s (k + (ixe (tl s k)).toNat)).size = s.size - (k + (ixe (tl s k)).toNat) := by simp [tl]
      have := linesF_len f s (k + (ixe (tl s k)).toNat + esz (tl s (k + (ixe (tl s k)).toNat))) (by omega)
      simp only [List.length_cons]
      omega
theorem linesB_len (s : ByteArray) : (linesB s).length ≤ s.size + 1 := by
  have := linesF_len (s.size + 1) s 0 (Nat.zero_le _)
  exact this

theorem grown_set (W : World) (b o : Nat) (v : Value) : W.grownBy (W.setCell ⟨b, o, none⟩ v) (some b) :=
  ⟨rfl, rfl, rfl, (KeepsWalks.setCell W _ v).size, fun k _ hk => Below.heap_setCell _ _ _ k (fun e => hk (by rw [e]))⟩
theorem pair_set {W : World} {b : Nat} {t : TypeId} {u v : Value} (v' : Value) (h : W.heap[b]? = some (.cells #[u, v] t (0, 0))) : (W.setCell ⟨b, 1, none⟩ v').heap[b]? = some (.cells #[u, v'] t (0, 0)) := by
  obtain ⟨hlt, hk⟩ := Array.getElem?_eq_some_iff.1 h
  show (W.heap.modify b _)[b]? = _
  rw [Array.getElem?_eq_getElem (by rw [Array.size_modify]; exact hlt), Array.getElem_modify_self, hk]
  rfl
/-- What a round leaves: the line is appended, the index holds the new slice. -/
theorem new_step {w W W1 w3 : World} {p : Nat} {s : ByteArray} {v : Value} {pre : List (Nat × Nat)} {x : Nat × Nat} {g cap : Nat}
    (hp : w.heap.size ≤ p) (hP : W1.heap[p]? = some (.cells #[.string s, v] 59 (0, 0))) (hX : Boxed W1 (p + 1) 23 (.pointer (some ⟨p, 0, none⟩))) (hY : Boxed W1 (p + 1 + 1) 9 (.string s))
    (hrow : W1.ownsRow w.heap.size 32 2 v pre.length (flatL pre)) (hB : Below w.heap.size w W1) (hK : Kp w.heap.size (p + 1 + 1) W W1) (hO : KeepsOthers W W1)
    (hg : W1.grownBy w3 v.ownBlock) (hown : w3.ownsRow w.heap.size 32 2 (.slice (some ⟨g, 0, none⟩) (pre.length + 1) cap) (pre.length + 1) (flatL pre ++ [.int .i64 x.1, .int .i64 x.2])) :
    KeepsOthers W (w3.setCell ⟨p, 1, none⟩ (.slice (some ⟨g, 0, none⟩) (pre.length + 1) cap)) ∧ Kp w.heap.size (p + 1 + 1) W (w3.setCell ⟨p, 1, none⟩ (.slice (some ⟨g, 0, none⟩) (pre.length + 1) cap)) ∧
      (IdxAt (w3.setCell ⟨p, 1, none⟩ (.slice (some ⟨g, 0, none⟩) (pre.length + 1) cap)) w.heap.size p s (pre ++ [x]) ∧ Boxed (w3.setCell ⟨p, 1, none⟩ (.slice (some ⟨g, 0, none⟩) (pre.length + 1) cap)) (p + 1) 23 (.pointer (some ⟨p, 0, none⟩)) ∧ Boxed (w3.setCell ⟨p, 1, none⟩ (.slice (some ⟨g, 0, none⟩) (pre.length + 1) cap)) (p + 1 + 1) 9 (.string s)) ∧
      Below w.heap.size w (w3.setCell ⟨p, 1, none⟩ (.slice (some ⟨g, 0, none⟩) (pre.length + 1) cap)) := by
  have hpl : p < W1.heap.size := (Array.getElem?_eq_some_iff.1 hP).1
  have hP3 : w3.heap[p]? = some (.cells #[.string s, v] 59 (0, 0)) := (hg.block _ hpl (heap_ne hP (by decide) hrow)).trans hP
  have hX3 := hX.kept hg (hX.not_row (by decide) hrow)
  have hY3 := hY.kept hg (hY.not_row (by decide) hrow)
  have hs := grown_set w3 p 1 (.slice (some ⟨g, 0, none⟩) (pre.length + 1) cap)
  have hB3 : ∀ {V : World}, Below w.heap.size V W1 → Below w.heap.size V w3 := fun h => h.grown hg (Nat.le_trans hB.size (Nat.le_refl _)) (fun k e => (hrow.lt k e).1)
  have hX4 := hX3.kept hs (by intro e; cases e)
  have hY4 := hY3.kept hs (by intro e; cases e)
  refine ⟨(hO.trans (KeepsOthers.of_grownBy hg fun j o ej hj => ?_)).trans (KeepsOthers.setCell _ _ _), ⟨(hB3 hK.1).setCell (p := ⟨p, 1, none⟩) hp _, fun u hu => ?_⟩, ⟨⟨_, pair_set _ hP3, ?_⟩, hX4, hY4⟩, (hB3 hB).setCell (p := ⟨p, 1, none⟩) hp _⟩
  · rcases hrow.2 with ⟨rfl, _⟩ | ⟨g, cap, cur, rfl, _, hgb, _⟩
    · simp [Value.ownBlock] at ej
    · obtain rfl : g = j := by simpa [Value.ownBlock] using ej
      rw [hgb] at hj; cases hj; rfl
  · have := hK.2 u hu
    rw [hY.cell] at this
    rw [hY4.cell]; exact this
  · rw [flatL_snoc, List.length_append]
    exact hown.kept hs (.inr (heap_ne hP3 (by decide) hown).symm)

theorem Tryd.info32 : (Tryd.prog.info? 32).map (fun i => (i.zero, i.size, i.bytes)) = some (some (.agg #[.int .i64 0, .int .i64 0]), 2, 16) := by kernel_rfl

set_option maxRecDepth 100000 in
set_option maxHeartbeats 2000000 in
theorem new_ok (s : ByteArray) (w : World) (hs : s.size ≤ 65536) (hv : validS s = true) (hT : Lib.Utf8Tabs 1 2 w) :
    Calls Tryd.prog 10 #[.string s] w fun e W' => ∃ b, e = .returned (.tuple #[.pointer (some ⟨b, 0, none⟩), .int .i64 0]) ∧ IdxAt W' w.heap.size b s (linesB s) ∧ w.heap.size ≤ b ∧ Below w.heap.size w W' := by
  have h2 := tabs_size hT
  have hV := valid_any s w (by omega) hT
  rw [hv] at hV
  refine (callsIn_wide (n := 3)).1 ?_
  refine callsIn_of_wp_marks Tryd.func10 rfl trivial ?_ rfl
  simp only [Tryd.ntmps10, List.size_toArray, List.length_cons, List.length_nil, Nat.reduceAdd, Nat.reduceSub, Array.replicate_succ, Array.replicate_zero, List.push_toArray, List.append_toArray, List.nil_append, List.cons_append]
  gi_wp2_with fail
  refine ⟨trivial, ?_⟩
  refine (callsIn_wide.2 hV).mono ?_
  rintro e w1 ⟨rfl, hb1⟩
  gi_wp2_with fail
  refine ⟨trivial, ?_⟩
  refine (callsIn_wide.2 (clone_any s w1 (by omega))).mono ?_
  rintro e w2 ⟨rfl, hb2⟩
  gi_wp2_with fail
  refine ⟨trivial, ?_⟩
  refine (callsIn_wide.2 (linesOf_any s _)).mono ?_
  rintro e w' ⟨rfl, rfl⟩
  gi_wp2_with fail
  have hb02 : Below w.heap.size w w2 := hb1.trans (hb2.mono hb1.size)
  have hz2 := hb02.size
  generalize hD : decide (65536 < (s.size : Int)) = dd
  obtain ⟨W0, hW0⟩ : ∃ W0, ((w2.alloc (.cells #[.string s, .slice none 0 0] 59)).alloc (.cells #[.pointer (some ⟨w2.heap.size, 0, none⟩)] 23)).alloc (.cells #[.string s] 9) = W0 := ⟨_, rfl⟩
  rw [hW0]
  have hs0 : W0.heap.size = w2.heap.size + 3 := by rw [← hW0]; simp
  have hB0 : Below w.heap.size w W0 := by rw [← hW0]; exact ((hb02.alloc hb02.size _).alloc (by simp; omega) _).alloc (by simp; omega) _
  have hP0 : W0.heap[w2.heap.size]? = some (.cells #[.string s, .slice none 0 0] 59 (0, 0)) := by
    rw [← hW0]; exact (Below.heap_alloc _ _ _ (by simp; omega)).trans ((Below.heap_alloc _ _ _ (by simp)).trans (World.alloc_heap_new w2 _))
  have hX0 : Boxed W0 (w2.heap.size + 1) 23 (.pointer (some ⟨w2.heap.size, 0, none⟩)) := by
    rw [← hW0]
    have := (Boxed.new (w2.alloc (.cells #[.string s, .slice none 0 0] 59)) 23 (.pointer (some ⟨w2.heap.size, 0, none⟩))).alloc (.cells #[.string s] 9)
    rwa [World.size_alloc] at this
  have hY0 : Boxed W0 (w2.heap.size + 1 + 1) 9 (.string s) := by
    rw [← hW0]
    have := (Boxed.new ((w2.alloc (.cells #[.string s, .slice none 0 0] 59)).alloc (.cells #[.pointer (some ⟨w2.heap.size, 0, none⟩)] 23)) 9 (.string s))
    rwa [World.size_alloc, World.size_alloc] at this
  have hc0 := hY0.cell
  clear hW0 hV hT
  refine rangeFunc_boxed rfl (by omega) (gf := 37) (lb := #[.pointer (some ⟨w2.heap.size + 1 + 1, 0, none⟩)]) rfl trivial (enters_of Tryd.func37 (by kernel_rfl) rfl)
    (lines_stops _ (w2.heap.size + 1 + 1) w.heap.size s (by omega) W0 (by omega) hc0) Kp.t (Kp.b (by omega))
    (fun W o hW => ⟨(Below.refl _ W).alloc (by omega) o, fun v hv => World.cell?_alloc_some W _ o (by rw [hv]; rfl) ▸ hv⟩) (Below.refl _ _) (fun _ => rfl)
    (fun pre W => (IdxAt W w.heap.size w2.heap.size s pre ∧ Boxed W (w2.heap.size + 1) 23 (.pointer (some ⟨w2.heap.size, 0, none⟩)) ∧ Boxed W (w2.heap.size + 1 + 1) 9 (.string s)) ∧ Below w.heap.size w W)
    (fun _ _ _ => False)
    (OwnFrom.and (OwnFrom.and (Own.from (idx_own _ _ _) _) (OwnFrom.and (Own.from (boxed_own _ _ _) _) (Own.from (boxed_own _ _ _) _))) (ownFrom_below (Nat.le_refl _) (by omega)))
    (fun c => fun _ _ _ _ h => h.elim)
    ⟨⟨⟨_, hP0, World.ownsRow_nil _ _ _ _⟩, hX0, hY0⟩, hB0⟩
    (fun x => .cells #[.int .i64 x.1, .int .i64 x.2] 32)
    (fun x b => { tmps := #[.string s, undef, .pointer none, .int .i64 0, .pointer (some ⟨w2.heap.size + 1, 0, none⟩), .pointer (some ⟨b, 0, none⟩), .string s, .int .i64 s.size, .bool dd, .string s, .bool true, .bool false, .string s, .string s, .agg #[.string s, .slice none 0 0], .pointer (some ⟨w2.heap.size, 0, none⟩), .pointer (some ⟨w2.heap.size, 0, none⟩), .pointer (some ⟨w2.heap.size, 0, none⟩), .pointer (some ⟨w2.heap.size, 0, none⟩), .string s, .func (.func 37) #[] #[.pointer (some ⟨w2.heap.size + 1 + 1, 0, none⟩)], .agg #[.int .i64 x.1, .int .i64 x.2], undef, undef, undef, undef, undef, undef, undef, undef, undef, undef, undef], defers := [] }) ?assign ?body ?done ?stop
  case assign =>
    intro l x W K hK
    dsimp only [encl]
    gi_wp2
    exact hK
  case body =>
    rintro l pre x W b ⟨⟨hI, hX, hY⟩, hB⟩ hlen hwb hob
    obtain ⟨v, hP, hrow⟩ := hI
    have hlb : pre.length ≤ s.size := by have := linesB_len s; omega
    refine wpIn_block ?_
    dsimp only
    have hXc := hX.cell
    have hbc0 : W.cell? ⟨b, 0, none⟩ = some (.int .i64 x.1) := by rw [cell_of_row W b 0 _ _ _ hob]; rfl
    have hbc1 : W.cell? ⟨b, 1, none⟩ = some (.int .i64 x.2) := by rw [cell_of_row W b 1 _ _ _ hob]; rfl
    have hPc : W.cell? ⟨w2.heap.size, 1, none⟩ = some v := by rw [cell_of_row W _ 1 _ _ _ hP]; rfl
    have hbl : b < W.heap.size := (Array.getElem?_eq_some_iff.1 hob).1
    have hXl := hX.lt
    have hPl : w2.heap.size < W.heap.size := (Array.getElem?_eq_some_iff.1 hP).1
    obtain ⟨W1, hW1⟩ : ∃ W1, (W.alloc (.cells #[.int .i64 x.1, .int .i64 x.2] 32)).drew = W1 := ⟨_, rfl⟩
    have hs1 : W1.heap.size = W.heap.size + 1 := by rw [← hW1]; exact World.size_alloc W _
    have hP1 : W1.heap[w2.heap.size]? = some (.cells #[.string s, v] 59 (0, 0)) := by rw [← hW1]; exact (Below.heap_alloc W _ _ hPl).trans hP
    have hX1 : Boxed W1 (w2.heap.size + 1) 23 (.pointer (some ⟨w2.heap.size, 0, none⟩)) := by rw [← hW1]; exact hX.alloc _
    have hn1 : W1.heap[W.heap.size]? = some (.cells #[.int .i64 x.1, .int .i64 x.2] 32 (0, 0)) := by rw [← hW1]; exact World.alloc_heap_new W _
    have hrow1 : W1.ownsRow w.heap.size 32 2 v pre.length (flatL pre) := by rw [← hW1]; exact hrow.alloc _
    have hB1 : Below w.heap.size w W1 := by rw [← hW1]; exact (hB.alloc hB.size _).drew
    have hK1 : Kp w.heap.size (w2.heap.size + 1 + 1) W W1 := by
      rw [← hW1]
      exact ⟨((Below.refl _ W).alloc (by omega) _).drew, fun v hv => World.cell?_alloc_some W _ (.cells #[.int .i64 x.1, .int .i64 x.2] 32) (by rw [hv]; rfl) ▸ hv⟩
    have hO1 : KeepsOthers W W1 := by rw [← hW1]; exact (KeepsOthers.alloc W _).trans (KeepsOthers.drew _)
    have hPc1 : W1.cell? ⟨w2.heap.size, 1, none⟩ = some v := by rw [cell_of_row W1 _ 1 _ _ _ hP1]; rfl
    obtain ⟨i0, hi, hz0, hz1, hz2'⟩ := info_parts Tryd.info32
    refine regionIn_held (S := fun u => u.cell? ⟨w2.heap.size + 1, 0, none⟩ = some (.pointer (some ⟨w2.heap.size, 0, none⟩))) (by kernel_rfl) (by kernel_rfl) (fun h => by obtain ⟨a, w, h⟩ := h; exact h) 11 #[false, false, false, false, false, false, false, false, false, false, false] rfl rfl ?_
    have hS : W.drew.cell? ⟨w2.heap.size + 1, 0, none⟩ = some (.pointer (some ⟨w2.heap.size, 0, none⟩)) := hXc
    have hlb2 := hz2
    have hY1 : Boxed W1 (w2.heap.size + 1 + 1) 9 (.string s) := by rw [← hW1]; exact hY.alloc _
    have hS1 : W1.cell? ⟨w2.heap.size + 1, 0, none⟩ = some (.pointer (some ⟨w2.heap.size, 0, none⟩)) := hX1.cell
    refine wpAnyH_take (i := 0) (oi := { dst := some 22, op := Op.load 23 (Operand.tmp 4), type := 23, pos := "lines.go:34", after := #[], guard := none }) (v := .pointer (some ⟨w2.heap.size, 0, none⟩)) rfl (by kernel_rfl) (by kernel_rfl) (by kernel_rfl) (fun _ _ _ h => h) (Or.inl ⟨by rfl, ?_⟩) hS ?_
    · rintro u hu0
      go_simp
    simp only [Act.put, List.setIfInBounds_toArray, List.set_cons_zero, List.set_cons_succ]
    refine wpAnyH_take (i := 1) (oi := { dst := some 23, op := Op.load 23 (Operand.tmp 4), type := 23, pos := "lines.go:34", after := #[], guard := none }) (v := .pointer (some ⟨w2.heap.size, 0, none⟩)) rfl (by kernel_rfl) (by kernel_rfl) (by kernel_rfl) (fun _ _ _ h => h) (Or.inl ⟨by rfl, ?_⟩) hS ?_
    · rintro u hu0
      go_simp
    simp only [Act.put, List.setIfInBounds_toArray, List.set_cons_zero, List.set_cons_succ]
    refine wpAnyH_take (i := 2) (oi := { dst := some 24, op := Op.nilCheck (Operand.tmp 23), type := 0, pos := "lines.go:34", after := #[{ on := 1, ground := Ground.data }], guard := none }) (v := .pointer (some ⟨w2.heap.size, 0, none⟩)) rfl (by kernel_rfl) (by kernel_rfl) (by kernel_rfl) (fun _ _ _ h => h) (Or.inl ⟨by rfl, ?_⟩) hS ?_
    · rintro u hu0
      go_simp
    simp only [Act.put, List.setIfInBounds_toArray, List.set_cons_zero, List.set_cons_succ]
    refine wpAnyH_take (i := 3) (oi := { dst := some 25, op := Op.fieldAddr 59 (Operand.tmp 24) 1, type := 0, pos := "lines.go:34", after := #[{ on := 2, ground := Ground.data }], guard := none }) (v := .pointer (some ⟨w2.heap.size, 1, none⟩)) rfl (by kernel_rfl) (by kernel_rfl) (by kernel_rfl) (fun _ _ _ h => h) (Or.inl ⟨by rfl, ?_⟩) hS ?_
    · rintro u hu0
      go_simp
    simp only [Act.put, List.setIfInBounds_toArray, List.set_cons_zero, List.set_cons_succ]
    refine wpAnyH_ready (rs := [4, 5]) (by kernel_rfl) (by simp) ?_
    refine AllReadyH.cons (o := { dst := some 26, op := Op.load 28 (Operand.tmp 25), type := 28, pos := "lines.go:34", after := #[{ on := 3, ground := Ground.data }], guard := none }) rfl (fun K hK => ?_) (AllReadyH.cons (o := { dst := some 27, op := Op.load 32 (Operand.tmp 5), type := 32, pos := "lines.go:34", after := #[], guard := none }) rfl (fun K hK => ?_) AllReadyH.nil)
    rotate_left
    · -- 5 first
      go_simp
      refine hK.out _ _ hS (fun _ => ?_)
      clear hK K
      simp only [List.setIfInBounds_toArray, List.set_cons_zero, List.set_cons_succ]
      refine wpAnyH_ready (rs := [4, 6]) (by kernel_rfl) (by simp) ?_
      refine AllReadyH.cons (o := { dst := some 26, op := Op.load 28 (Operand.tmp 25), type := 28, pos := "lines.go:34", after := #[{ on := 3, ground := Ground.data }], guard := none }) rfl (fun K hK => ?_) (AllReadyH.cons (o := { dst := some 28, op := Op.buildSlice 28 1 #[(0, Operand.tmp 27)], type := 28, pos := "lines.go:34", after := #[{ on := 5, ground := Ground.data }], guard := none }) rfl (fun K hK => ?_) AllReadyH.nil)
      rotate_left
      · -- 5 6 4
        go_simp
        refine hK.out _ _ hS1 (fun _ => ?_)
        clear hK K
        simp only [List.setIfInBounds_toArray, List.set_cons_zero, List.set_cons_succ]
        refine wpAnyH_ready (rs := [4]) (by kernel_rfl) (by simp) ?_
        refine AllReadyH.cons (o := { dst := some 26, op := Op.load 28 (Operand.tmp 25), type := 28, pos := "lines.go:34", after := #[{ on := 3, ground := Ground.data }], guard := none }) rfl (fun K hK => ?_) AllReadyH.nil
        go_simp
        refine hK.out _ _ hS1 (fun _ => ?_)
        clear hK K
        simp only [List.setIfInBounds_toArray, List.set_cons_zero, List.set_cons_succ]
        refine wpAnyH_ready (rs := [7]) (by kernel_rfl) (by simp) ?_
        refine AllReadyH.cons (o := { dst := some 29, op := Op.call { callee := Callee.builtin Builtin.append, args := #[Operand.tmp 26, Operand.tmp 28], argTypes := #[28, 28] }, type := 28, pos := "lines.go:34", after := #[{ on := 4, ground := Ground.data }, { on := 6, ground := Ground.data }], guard := none }) rfl (fun K hK => ?_) AllReadyH.nil
        refine step_append_lies W1 rfl (.tmp 26) (.tmp 28) 28 rfl w.heap.size 32 i0 (.agg #[.int .i64 0, .int .i64 0]) 2 16 Tryd.underlying28 hi hz0 hz1 hz2' rfl (by decide) v pre.length (flatL pre) rfl hrow1 ⟨W.heap.size, 0, none⟩ 1 1 [.int .i64 x.1, .int .i64 x.2] rfl rfl (World.news_of_block hn1) (by simp [Value.oneCell']) (by omega) (by unfold maxLen; omega) (by omega) (by have := hB1.size; omega) (W.heap.size + 1) hs1 ?_
        intro g cap w3 hown3 hg3 hgb hgl
        have hX3 : Boxed w3 (w2.heap.size + 1) 23 (.pointer (some ⟨w2.heap.size, 0, none⟩)) := hX1.kept hg3 (hX1.not_row (by decide) hrow1)
        have hP3 : w3.heap[w2.heap.size]? = some (.cells #[.string s, v] 59 (0, 0)) := (hg3.block _ (by omega) (heap_ne hP1 (by decide) hrow1)).trans hP1
        have hS3 : w3.cell? ⟨w2.heap.size + 1, 0, none⟩ = some (.pointer (some ⟨w2.heap.size, 0, none⟩)) := hX3.cell
        have hPc3 : w3.cell? ⟨w2.heap.size, 1, none⟩ = some v := by rw [cell_of_row w3 _ 1 _ _ _ hP3]; rfl
        have hPf3 : w3.frozen? ⟨w2.heap.size, 1, none⟩ = false := by simp [World.frozen?, hP3]
        refine hK.out _ _ hS3 (fun _ => ?_)
        clear hK K
        simp only [Act.put, List.setIfInBounds_toArray, List.set_cons_zero, List.set_cons_succ]
        refine wpAnyH_take (i := 8) (oi := { dst := some 30, op := Op.nilCheck (Operand.tmp 22), type := 0, pos := "lines.go:34", after := #[{ on := 0, ground := Ground.data }, { on := 0, ground := Ground.phase }, { on := 1, ground := Ground.phase }, { on := 2, ground := Ground.phase }, { on := 3, ground := Ground.phase }, { on := 4, ground := Ground.phase }, { on := 5, ground := Ground.phase }, { on := 6, ground := Ground.phase }, { on := 7, ground := Ground.phase }], guard := none }) (v := .pointer (some ⟨w2.heap.size, 0, none⟩)) rfl (by kernel_rfl) (by kernel_rfl) (by kernel_rfl) (fun _ _ _ h => h) (Or.inl ⟨by rfl, ?_⟩) hS3 ?_
        · rintro u hu0
          go_simp
        simp only [Act.put, List.setIfInBounds_toArray, List.set_cons_zero, List.set_cons_succ]
        refine wpAnyH_take (i := 9) (oi := { dst := some 31, op := Op.fieldAddr 59 (Operand.tmp 30) 1, type := 0, pos := "lines.go:34", after := #[{ on := 8, ground := Ground.data }, { on := 0, ground := Ground.phase }, { on := 1, ground := Ground.phase }, { on := 2, ground := Ground.phase }, { on := 3, ground := Ground.phase }, { on := 4, ground := Ground.phase }, { on := 5, ground := Ground.phase }, { on := 6, ground := Ground.phase }, { on := 7, ground := Ground.phase }], guard := none }) (v := .pointer (some ⟨w2.heap.size, 1, none⟩)) rfl (by kernel_rfl) (by kernel_rfl) (by kernel_rfl) (fun _ _ _ h => h) (Or.inl ⟨by rfl, ?_⟩) hS3 ?_
        · rintro u hu0
          go_simp
        simp only [Act.put, List.setIfInBounds_toArray, List.set_cons_zero, List.set_cons_succ]
        refine wpAnyH_ready (rs := [10]) (by kernel_rfl) (by simp) ?_
        refine AllReadyH.cons (o := { dst := none, op := Op.store 28 (Operand.tmp 31) (Operand.tmp 29), type := 0, pos := "lines.go:34", after := #[{ on := 9, ground := Ground.data }, { on := 7, ground := Ground.data }, { on := 7, ground := Ground.chain }, { on := 0, ground := Ground.phase }, { on := 1, ground := Ground.phase }, { on := 2, ground := Ground.phase }, { on := 3, ground := Ground.phase }, { on := 4, ground := Ground.phase }, { on := 5, ground := Ground.phase }, { on := 6, ground := Ground.phase }, { on := 7, ground := Ground.phase }], guard := none }) rfl (fun K hK => ?_) AllReadyH.nil
        go_simp
        refine hK.out _ _ ((World.cell?_setCell_far w3 ⟨w2.heap.size, 1, none⟩ ⟨w2.heap.size + 1, 0, none⟩ _ (by show w2.heap.size ≠ w2.heap.size + 1; omega)).trans hS3) (fun _ => ?_)
        clear hK K
        simp only [List.setIfInBounds_toArray, List.set_cons_zero, List.set_cons_succ]
        refine wpAnyH_done (by kernel_rfl) ?_ _
        exact new_step hlb2 hP1 hX1 hY1 hrow1 hB1 hK1 hO1 hg3 hown3
      · -- 5 4 6
        go_simp
        refine hK.out _ _ hS (fun _ => ?_)
        clear hK K
        simp only [List.setIfInBounds_toArray, List.set_cons_zero, List.set_cons_succ]
        refine wpAnyH_ready (rs := [6]) (by kernel_rfl) (by simp) ?_
        refine AllReadyH.cons (o := { dst := some 28, op := Op.buildSlice 28 1 #[(0, Operand.tmp 27)], type := 28, pos := "lines.go:34", after := #[{ on := 5, ground := Ground.data }], guard := none }) rfl (fun K hK => ?_) AllReadyH.nil
        go_simp
        refine hK.out _ _ hS1 (fun _ => ?_)
        clear hK K
        simp only [List.setIfInBounds_toArray, List.set_cons_zero, List.set_cons_succ]
        refine wpAnyH_ready (rs := [7]) (by kernel_rfl) (by simp) ?_
        refine AllReadyH.cons (o := { dst := some 29, op := Op.call { callee := Callee.builtin Builtin.append, args := #[Operand.tmp 26, Operand.tmp 28], argTypes := #[28, 28] }, type := 28, pos := "lines.go:34", after := #[{ on := 4, ground := Ground.data }, { on := 6, ground := Ground.data }], guard := none }) rfl (fun K hK => ?_) AllReadyH.nil
        refine step_append_lies W1 rfl (.tmp 26) (.tmp 28) 28 rfl w.heap.size 32 i0 (.agg #[.int .i64 0, .int .i64 0]) 2 16 Tryd.underlying28 hi hz0 hz1 hz2' rfl (by decide) v pre.length (flatL pre) rfl hrow1 ⟨W.heap.size, 0, none⟩ 1 1 [.int .i64 x.1, .int .i64 x.2] rfl rfl (World.news_of_block hn1) (by simp [Value.oneCell']) (by omega) (by unfold maxLen; omega) (by omega) (by have := hB1.size; omega) (W.heap.size + 1) hs1 ?_
        intro g cap w3 hown3 hg3 hgb hgl
        have hX3 : Boxed w3 (w2.heap.size + 1) 23 (.pointer (some ⟨w2.heap.size, 0, none⟩)) := hX1.kept hg3 (hX1.not_row (by decide) hrow1)
        have hP3 : w3.heap[w2.heap.size]? = some (.cells #[.string s, v] 59 (0, 0)) := (hg3.block _ (by omega) (heap_ne hP1 (by decide) hrow1)).trans hP1
        have hS3 : w3.cell? ⟨w2.heap.size + 1, 0, none⟩ = some (.pointer (some ⟨w2.heap.size, 0, none⟩)) := hX3.cell
        have hPc3 : w3.cell? ⟨w2.heap.size, 1, none⟩ = some v := by rw [cell_of_row w3 _ 1 _ _ _ hP3]; rfl
        have hPf3 : w3.frozen? ⟨w2.heap.size, 1, none⟩ = false := by simp [World.frozen?, hP3]
        refine hK.out _ _ hS3 (fun _ => ?_)
        clear hK K
        simp only [Act.put, List.setIfInBounds_toArray, List.set_cons_zero, List.set_cons_succ]
        refine wpAnyH_take (i := 8) (oi := { dst := some 30, op := Op.nilCheck (Operand.tmp 22), type := 0, pos := "lines.go:34", after := #[{ on := 0, ground := Ground.data }, { on := 0, ground := Ground.phase }, { on := 1, ground := Ground.phase }, { on := 2, ground := Ground.phase }, { on := 3, ground := Ground.phase }, { on := 4, ground := Ground.phase }, { on := 5, ground := Ground.phase }, { on := 6, ground := Ground.phase }, { on := 7, ground := Ground.phase }], guard := none }) (v := .pointer (some ⟨w2.heap.size, 0, none⟩)) rfl (by kernel_rfl) (by kernel_rfl) (by kernel_rfl) (fun _ _ _ h => h) (Or.inl ⟨by rfl, ?_⟩) hS3 ?_
        · rintro u hu0
          go_simp
        simp only [Act.put, List.setIfInBounds_toArray, List.set_cons_zero, List.set_cons_succ]
        refine wpAnyH_take (i := 9) (oi := { dst := some 31, op := Op.fieldAddr 59 (Operand.tmp 30) 1, type := 0, pos := "lines.go:34", after := #[{ on := 8, ground := Ground.data }, { on := 0, ground := Ground.phase }, { on := 1, ground := Ground.phase }, { on := 2, ground := Ground.phase }, { on := 3, ground := Ground.phase }, { on := 4, ground := Ground.phase }, { on := 5, ground := Ground.phase }, { on := 6, ground := Ground.phase }, { on := 7, ground := Ground.phase }], guard := none }) (v := .pointer (some ⟨w2.heap.size, 1, none⟩)) rfl (by kernel_rfl) (by kernel_rfl) (by kernel_rfl) (fun _ _ _ h => h) (Or.inl ⟨by rfl, ?_⟩) hS3 ?_
        · rintro u hu0
          go_simp
        simp only [Act.put, List.setIfInBounds_toArray, List.set_cons_zero, List.set_cons_succ]
        refine wpAnyH_ready (rs := [10]) (by kernel_rfl) (by simp) ?_
        refine AllReadyH.cons (o := { dst := none, op := Op.store 28 (Operand.tmp 31) (Operand.tmp 29), type := 0, pos := "lines.go:34", after := #[{ on := 9, ground := Ground.data }, { on := 7, ground := Ground.data }, { on := 7, ground := Ground.chain }, { on := 0, ground := Ground.phase }, { on := 1, ground := Ground.phase }, { on := 2, ground := Ground.phase }, { on := 3, ground := Ground.phase }, { on := 4, ground := Ground.phase }, { on := 5, ground := Ground.phase }, { on := 6, ground := Ground.phase }, { on := 7, ground := Ground.phase }], guard := none }) rfl (fun K hK => ?_) AllReadyH.nil
        go_simp
        refine hK.out _ _ ((World.cell?_setCell_far w3 ⟨w2.heap.size, 1, none⟩ ⟨w2.heap.size + 1, 0, none⟩ _ (by show w2.heap.size ≠ w2.heap.size + 1; omega)).trans hS3) (fun _ => ?_)
        clear hK K
        simp only [List.setIfInBounds_toArray, List.set_cons_zero, List.set_cons_succ]
        refine wpAnyH_done (by kernel_rfl) ?_ _
        exact new_step hlb2 hP1 hX1 hY1 hrow1 hB1 hK1 hO1 hg3 hown3
    · -- 4 5 6
      go_simp
      refine hK.out _ _ hS (fun _ => ?_)
      clear hK K
      simp only [List.setIfInBounds_toArray, List.set_cons_zero, List.set_cons_succ]
      refine wpAnyH_ready (rs := [5]) (by kernel_rfl) (by simp) ?_
      refine AllReadyH.cons (o := { dst := some 27, op := Op.load 32 (Operand.tmp 5), type := 32, pos := "lines.go:34", after := #[], guard := none }) rfl (fun K hK => ?_) AllReadyH.nil
      go_simp
      refine hK.out _ _ hS (fun _ => ?_)
      clear hK K
      simp only [List.setIfInBounds_toArray, List.set_cons_zero, List.set_cons_succ]
      refine wpAnyH_ready (rs := [6]) (by kernel_rfl) (by simp) ?_
      refine AllReadyH.cons (o := { dst := some 28, op := Op.buildSlice 28 1 #[(0, Operand.tmp 27)], type := 28, pos := "lines.go:34", after := #[{ on := 5, ground := Ground.data }], guard := none }) rfl (fun K hK => ?_) AllReadyH.nil
      go_simp
      refine hK.out _ _ hS1 (fun _ => ?_)
      clear hK K
      simp only [List.setIfInBounds_toArray, List.set_cons_zero, List.set_cons_succ]
      refine wpAnyH_ready (rs := [7]) (by kernel_rfl) (by simp) ?_
      refine AllReadyH.cons (o := { dst := some 29, op := Op.call { callee := Callee.builtin Builtin.append, args := #[Operand.tmp 26, Operand.tmp 28], argTypes := #[28, 28] }, type := 28, pos := "lines.go:34", after := #[{ on := 4, ground := Ground.data }, { on := 6, ground := Ground.data }], guard := none }) rfl (fun K hK => ?_) AllReadyH.nil
      refine step_append_lies W1 rfl (.tmp 26) (.tmp 28) 28 rfl w.heap.size 32 i0 (.agg #[.int .i64 0, .int .i64 0]) 2 16 Tryd.underlying28 hi hz0 hz1 hz2' rfl (by decide) v pre.length (flatL pre) rfl hrow1 ⟨W.heap.size, 0, none⟩ 1 1 [.int .i64 x.1, .int .i64 x.2] rfl rfl (World.news_of_block hn1) (by simp [Value.oneCell']) (by omega) (by unfold maxLen; omega) (by omega) (by have := hB1.size; omega) (W.heap.size + 1) hs1 ?_
      intro g cap w3 hown3 hg3 hgb hgl
      have hX3 : Boxed w3 (w2.heap.size + 1) 23 (.pointer (some ⟨w2.heap.size, 0, none⟩)) := hX1.kept hg3 (hX1.not_row (by decide) hrow1)
      have hP3 : w3.heap[w2.heap.size]? = some (.cells #[.string s, v] 59 (0, 0)) := (hg3.block _ (by omega) (heap_ne hP1 (by decide) hrow1)).trans hP1
      have hS3 : w3.cell? ⟨w2.heap.size + 1, 0, none⟩ = some (.pointer (some ⟨w2.heap.size, 0, none⟩)) := hX3.cell
      have hPc3 : w3.cell? ⟨w2.heap.size, 1, none⟩ = some v := by rw [cell_of_row w3 _ 1 _ _ _ hP3]; rfl
      have hPf3 : w3.frozen? ⟨w2.heap.size, 1, none⟩ = false := by simp [World.frozen?, hP3]
      refine hK.out _ _ hS3 (fun _ => ?_)
      clear hK K
      simp only [Act.put, List.setIfInBounds_toArray, List.set_cons_zero, List.set_cons_succ]
      refine wpAnyH_take (i := 8) (oi := { dst := some 30, op := Op.nilCheck (Operand.tmp 22), type := 0, pos := "lines.go:34", after := #[{ on := 0, ground := Ground.data }, { on := 0, ground := Ground.phase }, { on := 1, ground := Ground.phase }, { on := 2, ground := Ground.phase }, { on := 3, ground := Ground.phase }, { on := 4, ground := Ground.phase }, { on := 5, ground := Ground.phase }, { on := 6, ground := Ground.phase }, { on := 7, ground := Ground.phase }], guard := none }) (v := .pointer (some ⟨w2.heap.size, 0, none⟩)) rfl (by kernel_rfl) (by kernel_rfl) (by kernel_rfl) (fun _ _ _ h => h) (Or.inl ⟨by rfl, ?_⟩) hS3 ?_
      · rintro u hu0
        go_simp
      simp only [Act.put, List.setIfInBounds_toArray, List.set_cons_zero, List.set_cons_succ]
      refine wpAnyH_take (i := 9) (oi := { dst := some 31, op := Op.fieldAddr 59 (Operand.tmp 30) 1, type := 0, pos := "lines.go:34", after := #[{ on := 8, ground := Ground.data }, { on := 0, ground := Ground.phase }, { on := 1, ground := Ground.phase }, { on := 2, ground := Ground.phase }, { on := 3, ground := Ground.phase }, { on := 4, ground := Ground.phase }, { on := 5, ground := Ground.phase }, { on := 6, ground := Ground.phase }, { on := 7, ground := Ground.phase }], guard := none }) (v := .pointer (some ⟨w2.heap.size, 1, none⟩)) rfl (by kernel_rfl) (by kernel_rfl) (by kernel_rfl) (fun _ _ _ h => h) (Or.inl ⟨by rfl, ?_⟩) hS3 ?_
      · rintro u hu0
        go_simp
      simp only [Act.put, List.setIfInBounds_toArray, List.set_cons_zero, List.set_cons_succ]
      refine wpAnyH_ready (rs := [10]) (by kernel_rfl) (by simp) ?_
      refine AllReadyH.cons (o := { dst := none, op := Op.store 28 (Operand.tmp 31) (Operand.tmp 29), type := 0, pos := "lines.go:34", after := #[{ on := 9, ground := Ground.data }, { on := 7, ground := Ground.data }, { on := 7, ground := Ground.chain }, { on := 0, ground := Ground.phase }, { on := 1, ground := Ground.phase }, { on := 2, ground := Ground.phase }, { on := 3, ground := Ground.phase }, { on := 4, ground := Ground.phase }, { on := 5, ground := Ground.phase }, { on := 6, ground := Ground.phase }, { on := 7, ground := Ground.phase }], guard := none }) rfl (fun K hK => ?_) AllReadyH.nil
      go_simp
      refine hK.out _ _ ((World.cell?_setCell_far w3 ⟨w2.heap.size, 1, none⟩ ⟨w2.heap.size + 1, 0, none⟩ _ (by show w2.heap.size ≠ w2.heap.size + 1; omega)).trans hS3) (fun _ => ?_)
      clear hK K
      simp only [List.setIfInBounds_toArray, List.set_cons_zero, List.set_cons_succ]
      refine wpAnyH_done (by kernel_rfl) ?_ _
      exact new_step hlb2 hP1 hX1 hY1 hrow1 hB1 hK1 hO1 hg3 hown3
  case done =>
    rintro D ys W hD rfl ⟨⟨hI, hX, hY⟩, hB⟩ hK
    have hXc := hX.cell
    gi_wp2
    refine ⟨by simp, .inl ⟨_, _, rfl, run_takeDeferred hK, ?_⟩⟩
    refine ⟨.tuple #[.pointer (some ⟨w2.heap.size, 0, none⟩), .int .i64 0], ?_, w2.heap.size, rfl, ?_, hz2, hB.trans (belowK_b (w := w) (Nat.le_refl _) W D _ _ (by omega) hK rfl rfl)⟩
    · simp [results, Tryd.f10, go_sem]
    · exact idx_own _ _ _ _ W _ (some D) hI (grownBy_putObj' W D _) (fun r e => by cases e; exact ⟨_, hK, rfl⟩)
  case stop =>
    rintro D c pre W hD hpre h hK
    exact h.elim

theorem new_big (s : ByteArray) (w : World) (hs : 65536 < s.size) (hs2 : s.size ≤ 1000000000) :
    Calls Tryd.prog 10 #[.string s] w fun e W' => e = .returned (.tuple #[.pointer none, .int .i64 40]) ∧ w = W' := by
  go_enter Tryd.func10, Tryd.ntmps10
  go_wp2
  go_ret2
  exact ⟨rfl, rfl⟩

theorem new_bad (s : ByteArray) (w : World) (hs : s.size ≤ 65536) (hv : validS s = false) (hT : Lib.Utf8Tabs 1 2 w) :
    Calls Tryd.prog 10 #[.string s] w fun e W' => e = .returned (.tuple #[.pointer none, .int .i64 4]) ∧ Below w.heap.size w W' := by
  have hV := valid_any s w (by omega) hT
  rw [hv] at hV
  go_enter Tryd.func10, Tryd.ntmps10
  go_wp2_with fail
  refine hV.mono ?_
  rintro e w1 ⟨rfl, hb⟩
  go_wp2
  go_ret2
  exact ⟨rfl, hb⟩
end Go.Proofs.YtfhkahnajjbohaaDoor
