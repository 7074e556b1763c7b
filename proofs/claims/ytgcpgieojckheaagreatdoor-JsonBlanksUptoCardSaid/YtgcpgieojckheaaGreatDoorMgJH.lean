/-
  strings.Builder in this seat: WriteString, whatever was written; what keeps a builder.
  The parser's quoted.
-/
import Derived.Test.YtgcpgieojckheaaGreatDoorMgJU
import Derived.Test.YtgcpgieojckheaaGreatDoorMgJW
import Derived.Lib.AppendStr
import Derived.Lib.Builder
import Derived.Lib.FrozenHead
import Derived.Laws.Externs
namespace Go.Proofs.YtgcpgieojckheaaGreatDoor.Json
open Go.RowKit Go.Shelf

set_option maxHeartbeats 1000000 in
set_option maxRecDepth 100000 in
theorem check_used (b : Nat) (w : World) (h0 : w.cell? ⟨b, 0, none⟩ = some (.pointer (some ⟨b, 0, none⟩))) :
    Calls Tryz.prog 129 #[.pointer (some ⟨b, 0, none⟩)] w fun e w' => e = .returned (.tuple #[]) ∧ w' = w := by
  obtain ⟨j, hj, _⟩ := Option.map_eq_some_iff.1 Tryz.Builder_Extra_165.sizeBuilder
  have ht : Tryz.prog.underlying 92 = some (.pointer 94) := by kernel_rfl
  go_enter Tryz.func129, Tryz.ntmps129
  go_wp2
  rw [Lib.run_neq_ptr_same w _ ht hj]
  go_wp2
  go_end0
  exact ⟨rfl, rfl⟩
set_option maxHeartbeats 1000000 in
set_option maxRecDepth 100000 in
theorem check_fresh (b : Nat) (w : World) (h0 : w.cell? ⟨b, 0, none⟩ = some (.pointer none)) (hsh : w.shape? b = some (94, 2)) (hfz : w.frozen? ⟨b, 0, none⟩ = false) :
    Calls Tryz.prog 129 #[.pointer (some ⟨b, 0, none⟩)] w fun e w' => e = .returned (.tuple #[]) ∧ w' = w.setCell ⟨b, 0, none⟩ (.pointer (some ⟨b, 0, none⟩)) := by
  obtain ⟨j, hj, hjs⟩ := Option.map_eq_some_iff.1 Tryz.Builder_Extra_165.sizeBuilder
  have ht : Tryz.prog.underlying 92 = some (.pointer 94) := by kernel_rfl
  have hu : Tryz.prog.underlying 180 = some .unsafePointer := by kernel_rfl
  go_enter Tryz.func129, Tryz.ntmps129
  go_wp2
  rw [Lib.run_to_unsafe w ⟨b, 0, none⟩ ht hu hj (by rw [hjs]; decide) hsh (Nat.zero_lt_succ 1)]
  simp only [Result.andThen]
  rw [Oper.upon_value]
  go_wp2
  rw [run_callFunc_extern Tryz.func171 (by kernel_rfl) (by kernel_rfl) (by kernel_rfl) (e := Extern.AbiNoEscape.same) (by kernel_rfl)]
  rw [Lib.run_noEscape]
  simp only [Result.andThen]
  rw [Oper.upon_value]
  go_wp2
  rw [Lib.run_from_unsafe w ⟨b, 0, none⟩ hu ht hj hsh Tryz.Builder_Extra_165.liesBuilder]
  simp only [Result.andThen]
  rw [Oper.upon_value]
  go_wp2
  go_end0
  exact ⟨rfl, rfl⟩
set_option maxHeartbeats 2000000 in
set_option maxRecDepth 100000 in
theorem write_any (B b : Nat) (bs : List Value) (s : ByteArray) (w : World) (h : Lib.IsBuilder 94 5 B b bs w) (hlen : bs.length + s.size ≤ 140737488355328) (hBw : B ≤ w.heap.size) :
    Calls Tryz.prog 86 #[.pointer (some ⟨b, 0, none⟩), .string s] w fun e w' => e = .returned (.tuple #[.int .i64 s.size, .nilIface]) ∧ Lib.IsBuilder 94 5 B b (bs ++ Lib.strCells s) w' ∧ Below B w w' := by
  obtain ⟨i0, hi, hz0, hz1, hz2⟩ := info_parts Tryz.Builder_Extra_165.infoByte
  have t37 : Tryz.prog.underlying 37 = some (.slice 5) := by kernel_rfl
  have t9 : Tryz.prog.underlying 9 = some .string := by kernel_rfl
  have hc : Calls Tryz.prog 129 #[.pointer (some ⟨b, 0, none⟩)] w fun e w' => e = .returned (.tuple #[]) ∧ Lib.BuilderAt 94 5 B b (.pointer (some ⟨b, 0, none⟩)) bs w' ∧ Below B w w' := by
    rcases h with h | h
    · refine (check_fresh b w h.cell0 h.shape h.frozen0).mono ?_
      rintro e w' ⟨h1, rfl⟩
      exact ⟨h1, h.used _, (Below.refl B w).setCell (p := ⟨b, 0, none⟩) h.1 _⟩
    · refine (check_used b w h.cell0).mono ?_
      rintro e w' ⟨h1, rfl⟩
      exact ⟨h1, h, Below.refl B _⟩
  clear h
  go_enter Tryz.func86, Tryz.ntmps86
  go_wp2_with fail
  refine hc.mono ?_
  rintro e w1 ⟨rfl, h, hb1⟩
  obtain ⟨hB, v, hbk, hown, hne⟩ := h
  have HB1 := Lib.hid hb1
  have hs1 := hb1.size
  clear hb1 hc
  have c0 : w1.cell? ⟨b, 0, none⟩ = some (.pointer (some ⟨b, 0, none⟩)) := by rw [Lib.cell_of_heap hbk]; rfl
  have c1 : w1.cell? ⟨b, 1, none⟩ = some v := by rw [Lib.cell_of_heap hbk]; rfl
  go_wp2_with (at_builtin; refine Lib.wpList_append_own_string _ rfl _ _ 37 9 rfl B 5 i0 t37 t9 hi hz0 hz1 hz2 _ _ _ rfl hown s rfl ?c3 ?c4 ?c5 ?_)
  case c3 => unfold maxLen; omega
  case c4 => omega
  case c5 => omega
  intro v' w2 hown' hgrow _
  have hlt : b < w1.heap.size := (Array.getElem?_eq_some_iff.1 hbk).1
  have hb2 : w2.heap[b]? = some (.cells #[.pointer (some ⟨b, 0, none⟩), v] 94 (0, 0)) := by
    rw [hgrow.block b hlt (fun e => hne e.symm)]
    exact hbk
  have d0 : w2.cell? ⟨b, 0, none⟩ = some (.pointer (some ⟨b, 0, none⟩)) := by rw [Lib.cell_of_heap hb2]; rfl
  have d1 : w2.cell? ⟨b, 1, none⟩ = some v := by rw [Lib.cell_of_heap hb2]; rfl
  have f1 : w2.frozen? ⟨b, 1, none⟩ = false := Lib.frozen_of_heap hb2 1
  obtain ⟨ao, n', cap, rfl⟩ : ∃ ao n' cap, v' = .slice ao n' cap := by
    rcases hown'.2 with ⟨hv, _⟩ | ⟨g, cap, cur, hv, _⟩
    · exact ⟨_, _, _, hv⟩
    · exact ⟨_, _, _, hv⟩
  go_wp2
  refine bodyPost_ret (v := .tuple #[.int .i64 s.size, .nilIface]) (by simp [results, Tryz.f86, go_sem]) rfl ?_
  refine ⟨rfl, .inr ?_, ?_⟩
  · exact Lib.BuilderAt.put (T := 94) (e := 5) hB hb2 (bs' := bs ++ Lib.strCells s) (by simpa [Lib.strCells_length] using hown') (by decide)
  · exact (HB1.out.grown hgrow (by omega) (fun k hk => (hown.lt k hk).1)).setCell (p := ⟨b, 1, none⟩) hB _
theorem builder_keep {B bb : Nat} {bs : List Value} {w w' : World} (h : Lib.IsBuilder 94 5 B bb bs w) (hk : ∀ k, B ≤ k → k < w.heap.size → w'.heap[k]? = w.heap[k]?) : Lib.IsBuilder 94 5 B bb bs w' := by
  have go : ∀ p, Lib.BuilderAt 94 5 B bb p bs w → Lib.BuilderAt 94 5 B bb p bs w' := fun p h => by
    obtain ⟨hB, v, hbk, hown, hne⟩ := h
    refine ⟨hB, v, (hk bb hB (Array.getElem?_eq_some_iff.1 hbk).1).trans hbk, ⟨hown.1, ?_⟩, hne⟩
    rcases hown.2 with h2 | ⟨g, cap, cur, rfl, h4, h5, h6⟩
    · exact .inl h2
    · exact .inr ⟨g, cap, cur, rfl, h4, (hk g h4 (Array.getElem?_eq_some_iff.1 h5).1).trans h5, h6⟩
  rcases h with h | h
  · exact .inl (go _ h)
  · exact .inr (go _ h)
theorem But.ofB {b B : Nat} {W w w' : World} (h : But b W w) (hb : Below B w w') (hB : W.heap.size ≤ B) : But b W w' :=
  ⟨hb.os.trans h.os, hb.tape.trans h.tape, hb.output.trans h.output, Nat.le_trans h.size hb.size, fun k hk hkb => (hb.block k (by omega)).trans (h.block k hk hkb)⟩
theorem PAt.belowB {W W' : World} {b B : Nat} {s : ByteArray} {x y z : Nat} (h : PAt W b s x y z) (hb : Below B W W') (hB : b < B) : PAt W' b s x y z := (hb.block b hB).trans h
end Go.Proofs.YtgcpgieojckheaaGreatDoor.Json
namespace Go.Proofs.YtgcpgieojckheaaGreatDoor.Json
open Go.RowKit Go.Shelf

theorem putB_le (p : Int) : (Utf.putB p).data.toList.length ≤ 4 := by
  have h := congrArg List.length (Utf.putB_toList p)
  rw [List.length_map] at h
  rw [h]
  unfold Utf.putN
  repeat' split
  all_goals simp
theorem escR_few {l t r : List UInt8} (h : escR l = some (t, r)) : t.length ≤ 4 := by
  unfold escR at h
  split at h
  · cases h
  · rename_i c r1
    cases hm : meant c with
    | some b => rw [hm] at h; simp at h; rw [← h.1]; simp
    | none =>
      rw [hm] at h
      simp only at h
      by_cases hc : c = 117
      · rw [if_pos hc] at h
        unfold units at h
        cases h1 : unit4 r1 with
        | none => rw [h1] at h; cases h
        | some p =>
          obtain ⟨a, r2⟩ := p
          rw [h1] at h
          simp only at h
          by_cases hp : (Utf.putB (a : Int)).size ≠ 0
          · rw [if_pos hp] at h
            injection h with h; injection h with h _
            rw [← h]; exact putB_le _
          · rw [if_neg hp] at h
            by_cases hq : ∃ r3, r2 = 92 :: 117 :: r3
            · obtain ⟨r3, rfl⟩ := hq
              simp only at h
              cases h3 : unit4 r3 with
              | none => rw [h3] at h; cases h
              | some p =>
                obtain ⟨b, r4⟩ := p
                rw [h3] at h
                simp only at h
                by_cases hb : Utf.pairQ a b = true
                · rw [if_pos hb] at h
                  injection h with h; injection h with h _
                  rw [← h]; exact putB_le _
                · rw [if_neg hb] at h; cases h
            · split at h
              · exact absurd ⟨_, rfl⟩ hq
              · cases h
      · rw [if_neg hc] at h; cases h
/-- The byte that comes next; at the end 0. -/
def nextN : List UInt8 → Nat
  | [] => 0
  | c :: _ => c.toNat
theorem next_any (W : World) (b : Nat) (s : ByteArray) (x y z : Nat) (h : PAt W b s x y z) (hx : x ≤ s.size) :
    Calls Tryz.prog 140 #[.pointer (some ⟨b, 0, none⟩)] W fun e w' => e = .returned (.int .u8 (nextN (s.data.toList.drop x))) ∧ Below W.heap.size W w' := by
  cases hd : s.data.toList.drop x with
  | nil =>
    have : x = s.size := by
      have h1 := congrArg List.length hd
      rw [List.length_drop, ← Lib.size_eq] at h1
      simp at h1; omega
    exact next_end W b s x y z h this
  | cons c r => exact next_yes W b s x y z c r h hd
theorem next_quote {l : List UInt8} : ((nextN l : Int) != 34) = true ∨ (((nextN l : Int) != 34) = false ∧ ∃ r, l = 34 :: r) := by
  cases l with
  | nil => exact .inl rfl
  | cons c r =>
    by_cases hc : c = 34
    · exact .inr ⟨by subst hc; rfl, r, by rw [hc]⟩
    · left
      show ((c.toNat : Int) != 34) = true
      unfold bne
      rw [u8_eq (k := 34) (n := 34) rfl, beq_eq_false_iff_ne.2 hc]; rfl
theorem next_not {l : List UInt8} (h : ((nextN l : Int) != 34) = true) : ∀ r, l ≠ 34 :: r := by
  intro r e; subst e; exact absurd h (by show ¬ (((34 : Nat) : Int) != 34) = true; decide)
theorem body_part {l t r2 : List UInt8} (h : escS (l.dropWhile isPlain) = some (t, r2)) : bodyA l = pre2 (l.takeWhile isPlain ++ t) (bodyA r2) ∧ t.length ≤ 4 := by
  rw [bodyA_plain]
  unfold escS at h
  split at h
  · rename_i rr hrr
    rw [hrr, bodyA_esc, h]
    simp only
    rw [pre2_pre]
    exact ⟨rfl, escR_few h⟩
  · cases h
theorem body_bad {l : List UInt8} (h : escS (l.dropWhile isPlain) = none) (hn : ∀ r, l.dropWhile isPlain ≠ 34 :: r) : bodyA l = none := by
  by_cases hq : ∃ rr, l.dropWhile isPlain = 92 :: rr
  · obtain ⟨rr, hrr⟩ := hq
    rw [hrr] at h
    rw [bodyA_plain, hrr, bodyA_esc, show escR rr = none from h]; rfl
  · exact bodyA_else l hn fun r e => hq ⟨r, e⟩
theorem strCells_bytes (s : ByteArray) : Lib.strCells s = Lib.byteCells s.data.toList := rfl
theorem byteCells_app (a b : List UInt8) : Lib.byteCells (a ++ b) = Lib.byteCells a ++ Lib.byteCells b := by unfold Lib.byteCells; rw [List.map_append]
theorem escS_len {l t r : List UInt8} (h : escS l = some (t, r)) : r.length < l.length := by
  unfold escS at h
  split at h
  · rename_i rr
    have := escR_len h
    rw [List.length_cons]; omega
  · cases h
def quotedOf : Option (List UInt8 × List UInt8) → Option (List UInt8 × List UInt8)
  | none => none
  | some (t, r2) => if Utf.validS ⟨t.toArray⟩ then some (t, r2) else none
theorem quoted_of (r : List UInt8) : quoted (34 :: r) = quotedOf (bodyA r) := by
  rw [quoted_at]
  cases bodyA r with
  | none => rfl
  | some p => rfl
theorem builderF_keep {B bb : Nat} {bs : List Value} {w w' : World} (h : Lib.IsBuilderF 94 5 B bb bs w) (hk : ∀ k, B ≤ k → k < w.heap.size → w'.heap[k]? = w.heap[k]?) : Lib.IsBuilderF 94 5 B bb bs w' := by
  have go : ∀ p, Lib.BuilderAtF 94 5 B bb p bs w → Lib.BuilderAtF 94 5 B bb p bs w' := fun p h => by
    obtain ⟨hB, v, hbk, hown, hne⟩ := h
    refine ⟨hB, v, (hk bb hB (Array.getElem?_eq_some_iff.1 hbk).1).trans hbk, ⟨hown.1, ?_⟩, hne⟩
    rcases hown.2 with h2 | ⟨g, cap, cur, fz, rfl, h4, h5, h6⟩
    · exact .inl h2
    · exact .inr ⟨g, cap, cur, fz, rfl, h4, (hk g h4 (Array.getElem?_eq_some_iff.1 h5).1).trans h5, h6⟩
  rcases h with h | h
  · exact .inl (go _ h)
  · exact .inr (go _ h)
theorem but_tabs {b : Nat} {W w : World} (hU : Lib.Utf8Tabs 6 7 W) (h : But b W w) (b8 : 8 ≤ b) (hz : 8 ≤ W.heap.size) : Lib.Utf8Tabs 6 7 w :=
  Utf.tabs_below hU (h.below b8 hz) (Nat.le_refl _)
theorem bodyA_end {l r' : List UInt8} (h : l = 34 :: r') : bodyA l = some ([], r') := by rw [h, bodyA_quote]
/-- The loop's state. -/
def QInv (W : World) (b bb : Nat) (s : ByteArray) (y z k : Nat) (T : List UInt8) (r : List UInt8) (wr : World) : Prop :=
  PAt wr b s k y z ∧ Lib.IsBuilder 94 5 bb bb (Lib.byteCells T) wr ∧ But b W wr ∧ bb ≤ wr.heap.size ∧ bodyA r = pre2 T (bodyA (s.data.toList.drop k)) ∧ T.length ≤ 4 * k
set_option maxRecDepth 100000 in
set_option maxHeartbeats 8000000 in
theorem quoted_any (W : World) (b : Nat) (s : ByteArray) (x y z : Nat) (h : PAt W b s x y z) (hT : Tab0 W) (hU : Lib.Utf8Tabs 6 7 W) (b8 : 8 ≤ b) (hx : x ≤ s.size) (hz : s.size ≤ 1000000) :
    Calls Tryz.prog 142 #[.pointer (some ⟨b, 0, none⟩)] W (StrEnd W b s x y z (quoted (s.data.toList.drop x))) := by
  obtain ⟨V, hV⟩ : ∃ V, quoted (s.data.toList.drop x) = V := ⟨_, rfl⟩
  rw [hV]
  have hblt := h.lt
  obtain ⟨W0, hW0⟩ : ∃ W0, W.alloc (.cells #[.pointer none, .slice none 0 0] 94) = W0 := ⟨_, rfl⟩
  have hb0 : Below W.heap.size W W0 := by rw [← hW0]; exact galloc (Below.refl _ _) _
  have hP0 := h.below hb0
  have hbu : Lib.IsBuilder 94 5 W.heap.size W.heap.size (Lib.byteCells []) W0 := .inl ⟨Nat.le_refl _, .slice none 0 0, by rw [← hW0]; exact World.alloc_heap_new W _, World.ownsRow_nil _ _ _ _, by simp [Value.ownBlock]⟩
  have hs0 : W0.heap.size = W.heap.size + 1 := by rw [← hW0]; simp
  have HT := Lib.hid hT
  have HU := Lib.hid hU
  have HB0 := Lib.hid (But.of (b := b) hb0)
  clear hT hU h
  by_cases hd : ∃ r, s.data.toList.drop x = 34 :: r
  · obtain ⟨r, hr⟩ := hd
    have hq := (drop_cons hr).2.2
    have hq1 : x + 1 ≤ s.size := by have := (drop_cons hr).1; rw [← Lib.size_eq] at this; omega
    have hn1 := need_yes W0 b s x y z 34 r hP0 hz hr
    have HV : Hid (V = quotedOf (bodyA r)) := Lib.hid (by rw [← hV, hr, quoted_of])
    have W8 : 8 ≤ W.heap.size := by omega
    have HQ := Lib.hid hq
    have HBU := Lib.hid hbu
    clear hV hr hq hP0 hbu
    go_enter Tryz.func142, Tryz.ntmps142
    go_wp2_with fail
    refine hn1.mono ?_
    rintro e w1 ⟨rfl, hP1, hb1⟩
    have hs1 := hb1.size
    have HI : Hid (QInv W b W.heap.size s y z (x + 1) [] r w1) := Lib.hid ⟨hP1, builder_keep HBU.out (fun k h1 h2 => hb1.block k h2 (by omega)), HB0.out.trans hb1, by omega, by rw [pre2_nil, ← HQ.out], by simp⟩
    clear hP1 hb1 hn1 hW0 hb0 HBU
    go_wp2_with fail
    go_loopw [] (fun wr => ∃ (k : Nat) (T : List UInt8), x + 1 ≤ k ∧ k ≤ s.size ∧ Hid (QInv W b W.heap.size s y z k T r wr)) (fun wr => s.size - stands b wr)
    case atStart => exact ⟨x + 1, [], Nat.le_refl _, hq1, HI⟩
    case round =>
      obtain ⟨k, T, hxk, hk, HK⟩ := hrel
      have hTl := HK.out.2.2.2.2.2
      have hsk := HK.out.2.2.2.1
      have hnx := next_any wr b s k y z HK.out.1 hk
      rcases next_quote (l := s.data.toList.drop k) with hne | ⟨hne, r', hr'⟩
      · have HNQ := Lib.hid (next_not hne)
        generalize nextN (s.data.toList.drop k) = N at hnx hne
        go_wp2_with fail
        refine hnx.mono ?_
        rintro e w1 ⟨rfl, hb1⟩
        have HP1 := Lib.hid (HK.out.1.below hb1)
        have HB1 := Lib.hid (builder_keep HK.out.2.1 (fun k _ h2 => hb1.block k h2))
        have HU1 := Lib.hid (HK.out.2.2.1.trans (But.of hb1))
        have hs1 := hb1.size
        clear hb1 hnx
        go_wp2_with fail
        refine (while_plain isPlain plain_any w1 b s k y z HP1.out hk hz).mono ?_
        rintro e w2 ⟨k2, hk2, hk2s, rfl, hP2, hb2, ht2, hd2⟩
        have HP2 := Lib.hid hP2
        have HB2 := Lib.hid (builder_keep HB1.out (fun k h1 h2 => hb2.block k h2 (by omega)))
        have HU2 := Lib.hid (HU1.out.trans hb2)
        have hs2 := hb2.size
        have HD2 := Lib.hid hd2
        have HT2 : Hid ((s.data.toList.drop k).takeWhile isPlain = (s.extract k k2).data.toList) := Lib.hid (by rw [ht2, ex_list])
        have hl2 : (s.extract k k2).data.toList.length = k2 - k := by rw [ex_list, List.length_take, List.length_drop, ← Lib.size_eq]; omega
        have hz2 : (s.extract k k2).size = k2 - k := by rw [Lib.size_eq]; exact hl2
        generalize s.extract k k2 = P at HT2 hl2 hz2 ⊢
        clear hP2 hb2 ht2 hd2
        go_wp2_with fail
        refine (write_any W.heap.size W.heap.size (Lib.byteCells T) P w2 HB2.out (by unfold Lib.byteCells; rw [List.length_map]; omega) (by omega)).mono ?_
        rintro e w3 ⟨rfl, hB3, hb3⟩
        rw [strCells_bytes, ← byteCells_app] at hB3
        have HP3 := Lib.hid (HP2.out.belowB hb3 hblt)
        have HB3 := Lib.hid hB3
        have HU3 := Lib.hid (HU2.out.ofB hb3 (Nat.le_refl _))
        have hs3 := hb3.size
        clear hB3 hb3
        have hnx := next_any w3 b s k2 y z HP3.out hk2s
        rcases next_quote (l := s.data.toList.drop k2) with hne2 | ⟨hne2, r', hr'⟩
        · have HNQ2 := Lib.hid (next_not hne2)
          generalize nextN (s.data.toList.drop k2) = N2 at hnx hne2
          go_wp2_with fail
          refine hnx.mono ?_
          rintro e w4 ⟨rfl, hb4⟩
          have HP4 := Lib.hid (HP3.out.below hb4)
          have HB4 := Lib.hid (builder_keep HB3.out (fun k _ h2 => hb4.block k h2))
          have HU4 := Lib.hid (HU3.out.trans (But.of hb4))
          have hs4 := hb4.size
          clear hb4 hnx
          go_wp2_with fail
          refine (escaped_any w4 b s k2 y z HP4.out (HT.out.but HU4.out (by omega)) (by omega) hk2s hz).mono ?_
          intro e w5 h5
          cases hE : escS (s.data.toList.drop k2) with
          | none =>
            rw [hE] at h5
            obtain ⟨rfl, hb5⟩ := h5
            have HV2 : Hid (V = none) := Lib.hid (by
              rw [HV.out, HK.out.2.2.2.2.1, body_bad (by rw [HD2.out]; exact hE) (by rw [HD2.out]; exact HNQ2.out)]; rfl)
            have HU5 := Lib.hid (HU4.out.trans hb5)
            clear hE hb5
            go_wp2_with fail
            rw [HV2.out]
            exact ⟨rfl, rfl, HU5.out⟩
          | some p =>
            obtain ⟨t, r2⟩ := p
            rw [hE] at h5
            obtain ⟨k3, hk3, hk3s, hr2, rfl, hP5, hb5⟩ := h5
            have hbp := body_part (by rw [HD2.out]; exact hE)
            have hlt : k2 < k3 := by
              have h1 : r2.length < (s.data.toList.drop k2).length := escS_len hE
              rw [hr2, List.length_drop, List.length_drop, ← Lib.size_eq] at h1
              omega
            have htl := hbp.2
            have HBD : Hid (bodyA r = pre2 (T ++ P.data.toList ++ t) (bodyA (s.data.toList.drop k3))) := Lib.hid (by
              rw [HK.out.2.2.2.2.1, hbp.1, HT2.out, pre2_pre, hr2, List.append_assoc])
            have HP5 := Lib.hid hP5
            have HB5 := Lib.hid (builder_keep HB4.out (fun k h1 h2 => hb5.block k h2 (by omega)))
            have HU5 := Lib.hid (HU4.out.trans hb5)
            have hs5 := hb5.size
            clear hE hr2 hP5 hb5 hbp
            unfold bl
            have hts : (⟨t.toArray⟩ : ByteArray).size = t.length := by rw [Lib.size_eq]
            have htb : Lib.strCells ⟨t.toArray⟩ = Lib.byteCells t := by rw [strCells_bytes]
            generalize (⟨t.toArray⟩ : ByteArray) = Q at hts htb ⊢
            go_wp2_with fail
            refine (write_any W.heap.size W.heap.size (Lib.byteCells (T ++ P.data.toList)) Q w5 HB5.out (by unfold Lib.byteCells; rw [List.length_map, List.length_append]; omega) (by omega)).mono ?_
            rintro e w6 ⟨rfl, hB6, hb6⟩
            rw [htb, ← byteCells_app] at hB6
            have HP6 := Lib.hid (HP5.out.belowB hb6 hblt)
            have HU6 := Lib.hid (HU5.out.ofB hb6 (Nat.le_refl _))
            have HB6 := Lib.hid hB6
            have hs6 := hb6.size
            clear hB6 hb6
            go_wp2_with fail
            have hq := HP6.out
            exact ⟨⟨k3, T ++ P.data.toList ++ t, by omega, hk3s, Lib.hid ⟨hq, HB6.out, HU6.out, by omega, HBD.out, by rw [List.length_append, List.length_append]; omega⟩⟩, by rw [stands_at HK.out.1, stands_at hq]; omega⟩
        · have HBD : Hid (bodyA r = pre2 (T ++ P.data.toList) (bodyA (s.data.toList.drop k2))) := Lib.hid (by
            rw [HK.out.2.2.2.2.1, bodyA_plain (s.data.toList.drop k), HD2.out, HT2.out, pre2_pre])
          have hlt : k < k2 := by
            rcases Nat.lt_or_ge k k2 with g | g
            · exact g
            · have e : k2 = k := by omega
              subst e
              exact absurd hr' (HNQ.out r')
          clear hr'
          generalize nextN (s.data.toList.drop k2) = N2 at hnx hne2
          go_wp2_with fail
          refine hnx.mono ?_
          rintro e w4 ⟨rfl, hb4⟩
          have HP4 := Lib.hid (HP3.out.below hb4)
          have HB4 := Lib.hid (builder_keep HB3.out (fun k _ h2 => hb4.block k h2))
          have HU4 := Lib.hid (HU3.out.trans (But.of hb4))
          have hs4 := hb4.size
          clear hb4 hnx
          go_wp2_with fail
          have hq := HP4.out
          exact ⟨⟨k2, T ++ P.data.toList, by omega, hk2s, Lib.hid ⟨hq, HB4.out, HU4.out, by omega, HBD.out, by rw [List.length_append]; omega⟩⟩, by rw [stands_at HK.out.1, stands_at hq]; omega⟩
      · have HV2 : Hid (V = if Utf.validS ⟨T.toArray⟩ then some (T, r') else none) := Lib.hid (by
          rw [HV.out, HK.out.2.2.2.2.1, bodyA_end hr']
          show quotedOf (some (T ++ [], r')) = _
          rw [List.append_nil]; rfl)
        have HR := Lib.hid (drop_cons hr').2.2
        have hk1 : k + 1 ≤ s.size := by have := (drop_cons hr').1; rw [← Lib.size_eq] at this; omega
        have hnd := fun w hw => need_yes w b s k y z 34 r' hw hz hr'
        clear hr'
        generalize nextN (s.data.toList.drop k) = N at hnx hne
        go_wp2_with fail
        refine hnx.mono ?_
        rintro e w1 ⟨rfl, hb1⟩
        have HP1 := Lib.hid (HK.out.1.below hb1)
        have HB1 := Lib.hid (builder_keep HK.out.2.1 (fun k _ h2 => hb1.block k h2))
        have HU1 := Lib.hid (HK.out.2.2.1.trans (But.of hb1))
        have hs1 := hb1.size
        clear hb1 hnx
        go_wp2_with fail
        refine (hnd w1 HP1.out).mono ?_
        rintro e w2 ⟨rfl, hP2, hb2⟩
        have HP2 := Lib.hid hP2
        have HB2 := Lib.hid (builder_keep HB1.out (fun k h1 h2 => hb2.block k h2 (by omega)))
        have HU2 := Lib.hid (HU1.out.trans hb2)
        have hs2 := hb2.size
        clear hP2 hb2 hnd
        go_wp2_with fail
        refine (Tryz.Builder_String_any_f W.heap.size W.heap.size T w2 (Lib.IsBuilderF.of HB2.out) (by omega)).mono ?_
        rintro e w3 ⟨rfl, hB3, hb3⟩
        have HP3 := Lib.hid (HP2.out.belowB hb3 hblt)
        have HB3 := Lib.hid hB3
        have HU3 := Lib.hid (HU2.out.ofB hb3 (Nat.le_refl _))
        have hs3 := hb3.size
        clear hB3 hb3
        have hTs : (⟨T.toArray⟩ : ByteArray).size ≤ 1000000000 := by rw [Lib.size_eq]; show T.toArray.toList.length ≤ _; simp; omega
        have hva := Utf.valid_any ⟨T.toArray⟩ w3 hTs (but_tabs HU.out HU3.out b8 W8)
        cases hv : Utf.validS ⟨T.toArray⟩ with
        | false =>
          rw [hv] at hva
          have HV3 : Hid (V = none) := Lib.hid (by rw [HV2.out, hv]; rfl)
          go_wp2_with fail
          refine hva.mono ?_
          rintro e w4 ⟨rfl, hb4⟩
          have HU4 := Lib.hid (HU3.out.trans (But.of hb4))
          clear hb4 hva
          go_wp2_with fail
          rw [HV3.out]
          exact ⟨rfl, rfl, HU4.out⟩
        | true =>
          rw [hv] at hva
          have HV3 : Hid (V = some (T, r')) := Lib.hid (by rw [HV2.out, hv]; rfl)
          go_wp2_with fail
          refine hva.mono ?_
          rintro e w4 ⟨rfl, hb4⟩
          have HP4 := Lib.hid (HP3.out.below hb4)
          have HB4 := Lib.hid (builderF_keep HB3.out (fun k _ h2 => hb4.block k h2))
          have HU4 := Lib.hid (HU3.out.trans (But.of hb4))
          have hs4 := hb4.size
          clear hb4 hva
          go_wp2_with fail
          refine (Tryz.Builder_String_any_f W.heap.size W.heap.size T w4 HB4.out (by omega)).mono ?_
          rintro e w5 ⟨rfl, _, hb5⟩
          have HP5 := Lib.hid (HP4.out.belowB hb5 hblt)
          have HU5 := Lib.hid (HU4.out.ofB hb5 (Nat.le_refl _))
          clear hb5
          go_wp2_with fail
          go_ret
          rw [HV3.out]
          exact ⟨k + 1, by omega, hk1, HR.out, rfl, HP5.out, HU5.out⟩
  · have HV1 : Hid (V = none) := Lib.hid (by rw [← hV]; exact quoted_not _ fun r e => hd ⟨r, e⟩)
    have hn1 := need_no W0 b s x y z 34 hP0 hx (fun r h => hd ⟨r, h⟩)
    clear hV hd hbu
    go_enter Tryz.func142, Tryz.ntmps142
    go_wp2_with fail
    refine hn1.mono ?_
    rintro e w1 ⟨rfl, hb1⟩
    have HB1 := Lib.hid (HB0.out.trans hb1)
    clear hb1 hn1
    go_wp2_with fail
    rw [HV1.out]
    exact ⟨rfl, rfl, HB1.out⟩
end Go.Proofs.YtgcpgieojckheaaGreatDoor.Json
