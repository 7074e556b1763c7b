/-
  The printer: what it holds; put; escape.
  The printer's escape.
  The printer's quoted.
  What is printed of a value, plainly.
-/
import Derived.Test.YtgcpgieojckheaaGreatDoorMgJH
import Derived.Test.YtgcpgieojckheaaGreatDoorMgJM
namespace Go.Proofs.YtgcpgieojckheaaGreatDoor.Json
open Go.RowKit Go.Shelf

/-- All but the printer's block and rows of bytes is kept. -/
def Kp (b : Nat) (w w' : World) : Prop := ∀ k, k < w.heap.size → k ≠ b → (∀ cs fz, w.heap[k]? ≠ some (.cells cs 5 fz)) → w'.heap[k]? = w.heap[k]?
theorem Kp.refl (b : Nat) (w : World) : Kp b w w := fun _ _ _ _ => rfl
theorem Kp.trans {b : Nat} {w w1 w2 : World} (h : Kp b w w1) (h2 : Kp b w1 w2) (hs : w.heap.size ≤ w1.heap.size) : Kp b w w2 := fun k hk hb hn => by
  have e := h k hk hb hn
  exact (h2 k (by omega) hb (fun cs fz => by rw [e]; exact hn cs fz)).trans e
theorem Kp.below {b : Nat} {w w' : World} (h : Below w.heap.size w w') : Kp b w w' := fun k hk _ _ => h.block k hk
theorem Kp.set (b : Nat) (w : World) (o : Nat) (v : Value) : Kp b w (w.setCell ⟨b, o, none⟩ v) := fun k _ hb _ => (Only.set b w o v).block k hb
theorem lies96 : liesAt Tryz.prog Tryz.prog.depth 96 (2 / Tryz.prog.cellsOf 96) 0 94 1 = true := by kernel_rfl
set_option maxHeartbeats 1000000 in
set_option maxRecDepth 100000 in
theorem check_fresh96 (b : Nat) (w : World) (h0 : w.cell? ⟨b, 0, none⟩ = some (.pointer none)) (hsh : w.shape? b = some (96, 2)) (hfz : w.frozen? ⟨b, 0, none⟩ = false) :
    Calls Tryz.prog 129 #[.pointer (some ⟨b, 0, none⟩)] w fun e w' => e = .returned (.tuple #[]) ∧ w' = w.setCell ⟨b, 0, none⟩ (.pointer (some ⟨b, 0, none⟩)) := by
  obtain ⟨j, hj, hjs⟩ := Option.map_eq_some_iff.1 Tryz.Builder_Extra_165.sizeBuilder
  have ht : Tryz.prog.underlying 92 = some (.pointer 94) := by kernel_rfl
  have hu : Tryz.prog.underlying 180 = some .unsafePointer := by kernel_rfl
  go_enter Tryz.func129, Tryz.ntmps129
  go_wp2
  rw [Lib.run_to_unsafe w ⟨b, 0, none⟩ ht hu hj (by rw [hjs]; decide) hsh (Nat.zero_lt_succ 1)]
  simp only [Result.andThen]
  rw [Oper.upon_value]
  go_wp2
  rw [run_callFunc_extern Tryz.func171 (by kernel_rfl) (by kernel_rfl) (by kernel_rfl) (e := Extern.AbiNoEscape.same) (by kernel_rfl)]
  rw [Lib.run_noEscape]
  simp only [Result.andThen]
  rw [Oper.upon_value]
  go_wp2
  rw [Lib.run_from_unsafe w ⟨b, 0, none⟩ hu ht hj hsh lies96]
  simp only [Result.andThen]
  rw [Oper.upon_value]
  go_wp2
  go_end0
  exact ⟨rfl, rfl⟩
set_option maxHeartbeats 2000000 in
set_option maxRecDepth 100000 in
theorem write96 (B b : Nat) (bs : List Value) (s : ByteArray) (w : World) (h : Lib.IsBuilder 96 5 B b bs w) (hlen : bs.length + s.size ≤ 140737488355328) (hBw : B ≤ w.heap.size) :
    Calls Tryz.prog 86 #[.pointer (some ⟨b, 0, none⟩), .string s] w fun e w' => e = .returned (.tuple #[.int .i64 s.size, .nilIface]) ∧ Lib.IsBuilder 96 5 B b (bs ++ Lib.strCells s) w' ∧ Below B w w' ∧ Kp b w w' := by
  obtain ⟨i0, hi, hz0, hz1, hz2⟩ := info_parts Tryz.Builder_Extra_165.infoByte
  have t37 : Tryz.prog.underlying 37 = some (.slice 5) := by kernel_rfl
  have t9 : Tryz.prog.underlying 9 = some .string := by kernel_rfl
  have hc : Calls Tryz.prog 129 #[.pointer (some ⟨b, 0, none⟩)] w fun e w' => e = .returned (.tuple #[]) ∧ Lib.BuilderAt 96 5 B b (.pointer (some ⟨b, 0, none⟩)) bs w' ∧ Below B w w' ∧ Kp b w w' := by
    rcases h with h | h
    · refine (check_fresh96 b w h.cell0 h.shape h.frozen0).mono ?_
      rintro e w' ⟨h1, rfl⟩
      exact ⟨h1, h.used _, (Below.refl B w).setCell (p := ⟨b, 0, none⟩) h.1 _, Kp.set b w 0 _⟩
    · refine (check_used b w h.cell0).mono ?_
      rintro e w' ⟨h1, rfl⟩
      exact ⟨h1, h, Below.refl B _, Kp.refl _ _⟩
  clear h
  go_enter Tryz.func86, Tryz.ntmps86
  go_wp2_with fail
  refine hc.mono ?_
  rintro e w1 ⟨rfl, h, hb1, hk1⟩
  obtain ⟨hB, v, hbk, hown, hne⟩ := h
  have HK1 := Lib.hid hk1
  clear hk1
  have HT5 : Hid (∀ k, v.ownBlock = some k → ∃ cs fz, w1.heap[k]? = some (.cells cs 5 fz)) := Lib.hid (by
    intro k hk
    rcases hown.2 with ⟨hv, _⟩ | ⟨g, cap, cur, hv, _, hg, _⟩
    · rw [hv] at hk; cases hk
    · rw [hv] at hk; injection hk with hk; subst hk; exact ⟨_, _, hg⟩)
  have HB1 := Lib.hid hb1
  have hs1 := hb1.size
  clear hb1 hc
  have c0 : w1.cell? ⟨b, 0, none⟩ = some (.pointer (some ⟨b, 0, none⟩)) := by rw [Lib.cell_of_heap hbk]; rfl
  have c1 : w1.cell? ⟨b, 1, none⟩ = some v := by rw [Lib.cell_of_heap hbk]; rfl
  go_wp2_with (at_builtin; refine Lib.wpList_append_own_string _ rfl _ _ 37 9 rfl B 5 i0 t37 t9 hi hz0 hz1 hz2 _ _ _ rfl hown s rfl ?c3 ?c4 ?c5 ?_)
  case c3 => unfold maxLen; omega
  case c4 => omega
  case c5 => omega
  intro v' w2 hown' hgrow _
  have hlt : b < w1.heap.size := (Array.getElem?_eq_some_iff.1 hbk).1
  have hb2 : w2.heap[b]? = some (.cells #[.pointer (some ⟨b, 0, none⟩), v] 96 (0, 0)) := by
    rw [hgrow.block b hlt (fun e => hne e.symm)]
    exact hbk
  have d0 : w2.cell? ⟨b, 0, none⟩ = some (.pointer (some ⟨b, 0, none⟩)) := by rw [Lib.cell_of_heap hb2]; rfl
  have d1 : w2.cell? ⟨b, 1, none⟩ = some v := by rw [Lib.cell_of_heap hb2]; rfl
  have f1 : w2.frozen? ⟨b, 1, none⟩ = false := Lib.frozen_of_heap hb2 1
  obtain ⟨ao, n', cap, rfl⟩ : ∃ ao n' cap, v' = .slice ao n' cap := by
    rcases hown'.2 with ⟨hv, _⟩ | ⟨g, cap, cur, hv, _⟩
    · exact ⟨_, _, _, hv⟩
    · exact ⟨_, _, _, hv⟩
  go_wp2
  refine bodyPost_ret (v := .tuple #[.int .i64 s.size, .nilIface]) (by simp [results, Tryz.f86, go_sem]) rfl ?_
  refine ⟨rfl, .inr ?_, ?_⟩
  · exact Lib.BuilderAt.put (T := 96) (e := 5) hB hb2 (bs' := bs ++ Lib.strCells s) (by simpa [Lib.strCells_length] using hown') (by decide)
  · refine ⟨(HB1.out.grown hgrow (by omega) (fun k hk => (hown.lt k hk).1)).setCell (p := ⟨b, 1, none⟩) hB _, ?_⟩
    refine (HK1.out.trans (Kp.trans (w1 := w2) ?_ (Kp.set b w2 1 _) hgrow.size) hs1)
    intro k hk _ hn
    refine hgrow.block k hk (fun e => ?_)
    obtain ⟨cs, fz, h5⟩ := HT5.out k e.symm
    exact hn cs fz h5

theorem len_any (B b T : Nat) (bs : List Value) (w : World) (h : Lib.IsBuilder T 5 B b bs w) :
    Calls Tryz.prog 87 #[.pointer (some ⟨b, 0, none⟩)] w fun e w' => e = .returned (.int .i64 bs.length) ∧ w' = w := by
  have hc : ∃ ao cap, w.cell? ⟨b, 1, none⟩ = some (.slice ao bs.length cap) := by
    have go : ∀ p, Lib.BuilderAt T 5 B b p bs w → ∃ ao cap, w.cell? ⟨b, 1, none⟩ = some (.slice ao bs.length cap) := fun p h => by
      obtain ⟨hB, v, hbk, hown, hne⟩ := h
      have c1 : w.cell? ⟨b, 1, none⟩ = some v := by rw [Lib.cell_of_heap hbk]; rfl
      rcases hown.2 with ⟨h2, h3⟩ | ⟨g, cap, cur, rfl, h4, h5, h6⟩
      · refine ⟨none, 0, ?_⟩
        rw [c1, h2]
        have : bs = [] := by first | exact h3 | simpa using h3 | simpa using h3.1
        rw [this]; rfl
      · exact ⟨_, _, c1⟩
    rcases h with h | h
    · exact go _ h
    · exact go _ h
  obtain ⟨ao, cap, c1⟩ := hc
  go_enter Tryz.func87, Tryz.ntmps87
  go_wp2
  go_ret
  exact ⟨rfl, rfl⟩
/-- What the printer's steps keep. -/
def Fr (B b : Nat) (W w : World) : Prop := Below B W w ∧ Kp b W w ∧ W.heap.size ≤ w.heap.size
theorem Fr.trans {B b : Nat} {W w w' : World} (h : Fr B b W w) (h2 : Fr B b w w') : Fr B b W w' := ⟨h.1.trans h2.1, h.2.1.trans h2.2.1 h.2.2, Nat.le_trans h.2.2 h2.2.2⟩
theorem Fr.refl (B b : Nat) (w : World) : Fr B b w w := ⟨Below.refl _ _, Kp.refl _ _, Nat.le_refl _⟩
/-- The printer's block holds a text. -/
def PrAt (B b : Nat) (t : List UInt8) (w : World) : Prop := Lib.IsBuilder 96 5 B b (Lib.byteCells t) w
/-- An error is thrown, what the printer made apart. -/
def BadP (k : Int) (B b : Nat) (w : World) (e : Ending) (w' : World) : Prop := e = .panicked [{ v := .iface 23 (.int .i64 k), recovered := false }] ∧ Fr B b w w'
/-- What the printer's steps end in: the text behind it, or that it is too long. -/
def PutEnd (B b : Nat) (t : List UInt8) (o : List UInt8) (w : World) (e : Ending) (w' : World) : Prop :=
  (t.length + o.length ≤ 262144 ∧ e = .returned (.tuple #[]) ∧ PrAt B b (t ++ o) w' ∧ Below B w w' ∧ Kp b w w') ∨ (262144 < t.length + o.length ∧ BadP 40 B b w e w')
set_option maxHeartbeats 2000000 in
set_option maxRecDepth 100000 in
theorem put_any (B b : Nat) (t : List UInt8) (s : ByteArray) (w : World) (h : PrAt B b t w) (hB : B ≤ w.heap.size) (ht : t.length ≤ 262144) :
    Calls Tryz.prog 96 #[.pointer (some ⟨b, 0, none⟩), .string s] w (PutEnd B b t s.data.toList w) := by
  have hl := len_any B b 96 (Lib.byteCells t) w h
  have hbl : (Lib.byteCells t).length = t.length := by simp [Lib.byteCells]
  rw [hbl] at hl
  have hsz : s.data.toList.length = s.size := (Lib.size_eq s).symm
  have hw : IntKind.i64.wrap ((262144 : Int) - (t.length : Int)) = ((262144 : Int) - (t.length : Int)) := IntWalk.i64_in _ (by omega)
  by_cases hc : t.length + s.size ≤ 262144
  · have hcmp : decide (((262144 : Int) - (t.length : Int)) < (s.size : Int)) = false := by simp; omega
    have hcmp2 : ¬ (((262144 : Int) - (t.length : Int)) < (s.size : Int)) := by omega
    have hwr := write96 B b (Lib.byteCells t) s w h (by rw [hbl]; omega) hB
    go_enter Tryz.func96, Tryz.ntmps96
    go_wp2_with fail
    refine hl.mono ?_
    rintro e w1 ⟨rfl, rfl⟩
    go_wp2_with fail
    refine hwr.mono ?_
    rintro e w2 ⟨rfl, h2, hb2⟩
    go_wp2
    go_end0
    refine .inl ⟨by rw [hsz]; exact hc, rfl, ?_, hb2⟩
    unfold PrAt
    rw [byteCells_app]
    exact h2
  · have hcmp : decide (((262144 : Int) - (t.length : Int)) < (s.size : Int)) = true := by simp; omega
    have hcmp2 : (((262144 : Int) - (t.length : Int)) < (s.size : Int)) := by omega
    go_enter Tryz.func96, Tryz.ntmps96
    go_wp2_with fail
    refine hl.mono ?_
    rintro e w1 ⟨rfl, rfl⟩
    go_wp2
    exact ⟨rfl, Or.inr ⟨by rw [hsz]; omega, rfl, Fr.refl _ _ _⟩⟩
end Go.Proofs.YtgcpgieojckheaaGreatDoor.Json
namespace Go.Proofs.YtgcpgieojckheaaGreatDoor.Json
open Go.RowKit Go.Shelf

theorem idx_meant (c : UInt8) (h : c.toNat < 32 ∨ c = 34 ∨ c = 92) :
    (∃ i : Nat, i < 7 ∧ Lib.indexByte [34, 92, 8, 12, 10, 13, 9] c = (i : Int) ∧ escC c = [92, [34, 92, 98, 102, 110, 114, 116].getD i 0]) ∨
      (Lib.indexByte [34, 92, 8, 12, 10, 13, 9] c = -1 ∧ c.toNat < 32 ∧ escC c = [92, 117, 48, 48, hexd (c.toNat / 16), hexd (c.toNat % 16)]) := by
  by_cases h1 : c = 34
  · subst h1; exact .inl ⟨0, by decide, by decide, by decide⟩
  by_cases h2 : c = 92
  · subst h2; exact .inl ⟨1, by decide, by decide, by decide⟩
  by_cases h3 : c = 8
  · subst h3; exact .inl ⟨2, by decide, by decide, by decide⟩
  by_cases h4 : c = 12
  · subst h4; exact .inl ⟨3, by decide, by decide, by decide⟩
  by_cases h5 : c = 10
  · subst h5; exact .inl ⟨4, by decide, by decide, by decide⟩
  by_cases h6 : c = 13
  · subst h6; exact .inl ⟨5, by decide, by decide, by decide⟩
  by_cases h7 : c = 9
  · subst h7; exact .inl ⟨6, by decide, by decide, by decide⟩
  have hl : c.toNat < 32 := h.elim id fun h => h.elim (fun h => absurd h h1) (fun h => absurd h h2)
  right
  refine ⟨?_, hl, ?_⟩
  · simp [Lib.indexByte, Ne.symm h1, Ne.symm h2, Ne.symm h3, Ne.symm h4, Ne.symm h5, Ne.symm h6, Ne.symm h7]
  · unfold escC
    rw [if_neg h1, if_neg h2, if_neg h3, if_neg h4, if_neg h5, if_neg h6, if_neg h7, if_pos hl]
theorem and15_all : ∀ n : Nat, n < 32 → bits .and .u8 (n : Int) 15 = ((n % 16 : Nat) : Int) := by decide +kernel
theorem hex_all : ∀ n : Nat, n < 16 → (ByteArray.mk #[48, 49, 50, 51, 52, 53, 54, 55, 56, 57, 97, 98, 99, 100, 101, 102]).extract n (n + 1) = ⟨#[hexd n]⟩ := by decide +kernel
theorem escape_low (c : UInt8) (w : World) (h : c.toNat < 32 ∨ c = 34 ∨ c = 92) :
    Calls Tryz.prog 149 #[.int .u8 c.toNat] w fun e w' => e = .returned (.string ⟨(escC c).toArray⟩) ∧ Below w.heap.size w w' := by
  have hi := Tryz.strings_IndexByte ⟨#[34, 92, 8, 12, 10, 13, 9]⟩ c.toNat w
  have hcc : (c.toNat : Int).toNat.toUInt8 = c := by simp
  rw [hcc] at hi
  rcases idx_meant c h with ⟨i, h7, hx, he⟩ | ⟨hx, hl, he⟩
  · rw [show (ByteArray.mk #[34, 92, 8, 12, 10, 13, 9]).data.toList = [34, 92, 8, 12, 10, 13, 9] from rfl, hx] at hi
    rw [he]
    clear he hx
    have this : i = 0 ∨ i = 1 ∨ i = 2 ∨ i = 3 ∨ i = 4 ∨ i = 5 ∨ i = 6 := by omega
    rcases this with rfl | rfl | rfl | rfl | rfl | rfl | rfl <;>
    · go_enter Tryz.func149, Tryz.ntmps149
      go_wp2_with fail
      refine hi.mono ?_
      rintro e w1 ⟨rfl, rfl⟩
      go_wp2
      go_ret
      exact ⟨rfl, Below.refl _ _⟩
  · rw [show (ByteArray.mk #[34, 92, 8, 12, 10, 13, 9]).data.toList = [34, 92, 8, 12, 10, 13, 9] from rfl, hx] at hi
    rw [he]
    have q1 : c.toNat / 16 < 16 := by omega
    have q2 : c.toNat % 16 < 16 := by omega
    have e1 := hex_all _ q1
    have e2 := hex_all _ q2
    have s2 := and15_all _ hl
    generalize hexd (c.toNat / 16) = x1 at *
    generalize hexd (c.toNat % 16) = x2 at *
    go_enter Tryz.func149, Tryz.ntmps149
    go_wp2_with fail
    refine hi.mono ?_
    rintro e w1 ⟨rfl, rfl⟩
    go_wp2
    clear hi
    go_quiet (fail)
    go_wp2
    go_ret
    exact ⟨rfl, drewN_below _ _⟩
end Go.Proofs.YtgcpgieojckheaaGreatDoor.Json
namespace Go.Proofs.YtgcpgieojckheaaGreatDoor.Json
open Go.RowKit Go.Shelf

theorem escs_app (a b : List UInt8) : escs (a ++ b) = escs a ++ escs b := by unfold escs; rw [List.flatMap_append]
theorem escs_take {l : List UInt8} {k : Nat} {c : UInt8} (h : l[k]? = some c) : escs (l.take (k + 1)) = escs (l.take k) ++ escC c := by
  rw [List.take_add_one, h, escs_app]; unfold escs; simp
theorem quoteJ_take (l : List UInt8) (k : Nat) : quoteJ l = 34 :: (escs (l.take k) ++ (escs (l.drop k) ++ [34])) := by
  unfold quoteJ
  rw [← List.append_assoc, ← escs_app, List.take_append_drop]
theorem escC_plain {c : UInt8} (h : (decide (32 ≤ c.toNat) && (c != 34 && c != 92)) = true) : escC c = [c] := by
  have := all_u8 (p := fun c => !(decide (32 ≤ c.toNat) && (c != 34 && c != 92)) || escC c == [c]) (by decide +kernel) c
  simpa [h] using this
/-- The loop's state: the text from f on, up to k, is plain and not yet put. -/
def PQInv (B b : Nat) (t : List UInt8) (l : List UInt8) (w : World) (f k : Nat) (wr : World) : Prop :=
  PrAt B b (t ++ 34 :: escs (l.take f)) wr ∧ (t ++ 34 :: escs (l.take f)).length ≤ 262144 ∧ f ≤ k ∧ escs (l.take k) = escs (l.take f) ++ (l.drop f).take (k - f) ∧ Below B w wr ∧ B ≤ wr.heap.size ∧ Kp b w wr ∧ w.heap.size ≤ wr.heap.size
theorem long_of {t cur p o : List UInt8} {e : List UInt8} (h : 262144 < cur.length + p.length) (ho : t ++ o = cur ++ p ++ e) : 262144 < t.length + o.length := by
  have := congrArg List.length ho
  simp at this
  omega
theorem getD_list {s : ByteArray} {k : Nat} (h : k < s.size) : s.data.toList[k]? = some (s[k]'h) := by
  rw [List.getElem?_eq_getElem (by rw [← Lib.size_eq]; exact h)]; rfl
theorem seg_list {l : List UInt8} {f k : Nat} : (l.drop f).take (k - f) = (l.take k).drop f := by rw [List.drop_take]
theorem PrAt.keep {B b : Nat} {t : List UInt8} {w w' : World} (h : PrAt B b t w) (hk : Below w.heap.size w w') : PrAt B b t w' := by
  have go : ∀ p, Lib.BuilderAt 96 5 B b p (Lib.byteCells t) w → Lib.BuilderAt 96 5 B b p (Lib.byteCells t) w' := fun p h => by
    obtain ⟨hB, v, hbk, hown, hne⟩ := h
    refine ⟨hB, v, (hk.block b (Array.getElem?_eq_some_iff.1 hbk).1).trans hbk, ⟨hown.1, ?_⟩, hne⟩
    rcases hown.2 with h2 | ⟨g, cap, cur, rfl, h4, h5, h6⟩
    · exact .inl h2
    · exact .inr ⟨g, cap, cur, rfl, h4, (hk.block g (Array.getElem?_eq_some_iff.1 h5).1).trans h5, h6⟩
  rcases h with h | h
  · exact .inl (go _ h)
  · exact .inr (go _ h)
theorem PQInv.step {B b : Nat} {t : List UInt8} {s : ByteArray} {w wr : World} {f k : Nat} (h : PQInv B b t s.data.toList w f k wr) :
    (t ++ 34 :: escs (s.data.toList.take f)) ++ (s.extract f k).data.toList = t ++ 34 :: escs (s.data.toList.take k) := by
  rw [ex_list, h.2.2.2.1]; simp
set_option maxHeartbeats 4000000 in
set_option maxRecDepth 100000 in
theorem pquoted_any (B b : Nat) (t : List UInt8) (s : ByteArray) (w : World) (h : PrAt B b t w) (hB : B ≤ w.heap.size) (ht : t.length ≤ 262144) (hs : s.size ≤ 1000000) :
    Calls Tryz.prog 97 #[.pointer (some ⟨b, 0, none⟩), .string s] w (PutEnd B b t (quoteJ s.data.toList) w) := by
  obtain ⟨o, ho⟩ : ∃ o, quoteJ s.data.toList = o := ⟨_, rfl⟩
  rw [ho]
  have HO := Lib.hid ho
  have hp1 := put_any B b t ⟨#[34]⟩ w h hB ht
  have HT := Lib.hid ht
  clear ho h ht
  go_enter Tryz.func97, Tryz.ntmps97
  go_wp2_with fail
  refine hp1.mono ?_
  rintro e w1 (⟨hl1, rfl, h1, hb1, hk1⟩ | ⟨hl1, rfl, hb1⟩)
  · have HI0 : Hid (PQInv B b t s.data.toList w 0 0 w1) := Lib.hid ⟨h1, by simp [escs] at hl1 ⊢; omega, Nat.le_refl _, by simp [escs], hb1, Nat.le_trans hB hb1.size, hk1, hb1.size⟩
    clear hl1 h1 hb1 hp1 hk1
    go_wp2_with fail
    go_loopw [4, 10] (fun fv iv wr => ∃ (f k : Nat), fv = .int .i64 f ∧ iv = .int .i64 k ∧ k ≤ s.size ∧ Hid (PQInv B b t s.data.toList w f k wr)) (fun _ iv _ => s.size - (intOf iv).toNat)
    case atStart => exact ⟨0, 0, rfl, rfl, Nat.zero_le _, HI0⟩
    case round =>
      obtain ⟨f, k, rfl, rfl, hk, HI⟩ := hrel
      have hfk := HI.out.2.2.1
      have hf0 : (0 : Int) ≤ (f : Int) := by omega
      by_cases hlt : k < s.size
      · have hlt' : (k : Int) < (s.size : Int) := by omega
        have hwk : IntKind.i64.wrap ((k : Int) + 1) = ((k + 1 : Nat) : Int) := by rw [IntWalk.i64_in _ (by omega)]; omega
        obtain ⟨c, hc⟩ : ∃ c, s[k]'hlt = c := ⟨_, rfl⟩
        have HC : Hid (s.data.toList[k]? = some c) := Lib.hid (by rw [getD_list hlt, hc])
        have hpl := plain_any c wr
        by_cases hq : (decide (32 ≤ c.toNat) && (c != 34 && c != 92)) = true
        · rw [hq] at hpl
          have HE := Lib.hid (escC_plain hq)
          clear hq
          go_wp2_with fail
          refine hpl.mono ?_
          rintro e w2 ⟨rfl, rfl⟩
          go_wp2
          refine ⟨⟨f, k + 1, rfl, rfl, by omega, Lib.hid ?_⟩, by simp [intOf]; omega⟩
          obtain ⟨i1, i2, i3, i4, i5, i6, i7, i8⟩ := HI.out
          refine ⟨i1, i2, by omega, ?_, i5, i6, i7, i8⟩
          rw [escs_take HC.out, HE.out, i4, seg_list, seg_list, List.take_add_one, HC.out, List.append_assoc, List.drop_append_of_le_length (by rw [List.length_take, ← Lib.size_eq]; omega)]
          rfl
        · rw [show (decide (32 ≤ c.toNat) && (c != 34 && c != 92)) = false by simpa using hq] at hpl
          have hlow : c.toNat < 32 ∨ c = 34 ∨ c = 92 := by
            by_cases g1 : c.toNat < 32
            · exact .inl g1
            by_cases g2 : c = 34
            · exact .inr (.inl g2)
            by_cases g3 : c = 92
            · exact .inr (.inr g3)
            exact absurd (by simp [g2, g3]; omega) hq
          clear hq
          have hfk' : (f : Int) ≤ (k : Int) := by omega
          have hle : (k : Int) ≤ (s.size : Int) := by omega
          have hp2 := put_any B b (t ++ 34 :: escs (s.data.toList.take f)) (s.extract f k) wr HI.out.1 HI.out.2.2.2.2.2.1 HI.out.2.1
          go_wp2_with fail
          refine hpl.mono ?_
          rintro e w2 ⟨rfl, rfl⟩
          clear hpl
          go_wp2_with fail
          refine hp2.mono ?_
          rintro e w3 (⟨hl3, rfl, h3, hb3, hk3⟩ | ⟨hl3, rfl, hb3⟩)
          · have HL3 : Hid ((t ++ 34 :: escs (s.data.toList.take k)).length ≤ 262144) := Lib.hid (by rw [← HI.out.step, List.length_append]; exact hl3)
            have H3 : Hid (PrAt B b (t ++ 34 :: escs (s.data.toList.take k)) w3) := Lib.hid (by rw [← HI.out.step]; exact h3)
            have HB3 := Lib.hid (HI.out.2.2.2.2.1.trans hb3)
            have hs3 := hb3.size
            have HK3 : Hid (Kp b w w3 ∧ w.heap.size ≤ w3.heap.size) := Lib.hid ⟨HI.out.2.2.2.2.2.2.1.trans hk3 HI.out.2.2.2.2.2.2.2, Nat.le_trans HI.out.2.2.2.2.2.2.2 hs3⟩
            have hB3 : B ≤ w3.heap.size := Nat.le_trans HI.out.2.2.2.2.2.1 hs3
            clear hl3 h3 hb3 hp2 hk3
            have he := escape_low c w3 hlow
            have HES : Hid (escs (s.data.toList.take (k + 1)) = escs (s.data.toList.take k) ++ escC c) := Lib.hid (escs_take HC.out)
            have hea : (⟨(escC c).toArray⟩ : ByteArray).data.toList = escC c := by simp
            obtain ⟨X, hX⟩ : ∃ X, (⟨(escC c).toArray⟩ : ByteArray) = X := ⟨_, rfl⟩
            rw [hX] at he hea
            have HEA := Lib.hid hea
            clear hX hea hlow
            go_wp2_with fail
            refine he.mono ?_
            rintro e w4 ⟨rfl, hb4⟩
            have H4 := Lib.hid (H3.out.keep hb4)
            have HB4 := Lib.hid (HB3.out.trans (hb4.mono hB3))
            have hs4 := hb4.size
            have HK4 : Hid (Kp b w w4 ∧ w.heap.size ≤ w4.heap.size) := Lib.hid ⟨HK3.out.1.trans (Kp.below hb4) HK3.out.2, Nat.le_trans HK3.out.2 hs4⟩
            clear hb4 he
            have hp3 := put_any B b _ X w4 H4.out (by omega) HL3.out
            go_wp2_with fail
            refine hp3.mono ?_
            rintro e w5 (⟨hl5, rfl, h5, hb5, hk5⟩ | ⟨hl5, rfl, hb5⟩)
            · have HK : Hid (PQInv B b t s.data.toList w (k + 1) (k + 1) w5) := Lib.hid (by
                have e1 : (t ++ 34 :: escs (s.data.toList.take k)) ++ X.data.toList = t ++ 34 :: escs (s.data.toList.take (k + 1)) := by rw [HEA.out, HES.out]; simp
                rw [e1] at h5
                refine ⟨h5, ?_, Nat.le_refl _, by simp, HB4.out.trans hb5, by have := hb5.size; omega, HK4.out.1.trans hk5 HK4.out.2, Nat.le_trans HK4.out.2 hb5.size⟩
                rw [← e1, List.length_append]; exact hl5)
              clear hl5 h5 hb5 hp3 hk5
              go_wp2
              exact ⟨⟨k + 1, k + 1, rfl, rfl, by omega, HK⟩, by simp [intOf]; omega⟩
            · have HK : Hid (262144 < t.length + o.length) := Lib.hid (long_of (e := escs (s.data.toList.drop (k + 1)) ++ [34]) hl5 (by
                rw [← HO.out, quoteJ_take s.data.toList (k + 1), HES.out, HEA.out]; simp))
              have HB5 := Lib.hid ((show Fr B b w w4 from ⟨HB4.out, HK4.out.1, HK4.out.2⟩).trans hb5)
              clear hl5 hb5 hp3
              go_wp2_with fail
              exact ⟨rfl, Or.inr ⟨HK.out, rfl, HB5.out⟩⟩
          · have HK : Hid (262144 < t.length + o.length) := Lib.hid (long_of (e := escs (s.data.toList.drop k) ++ [34]) hl3 (by
                rw [HI.out.step, ← HO.out, quoteJ_take s.data.toList k]; simp))
            have HB5 := Lib.hid ((show Fr B b w _ from ⟨HI.out.2.2.2.2.1, HI.out.2.2.2.2.2.2.1, HI.out.2.2.2.2.2.2.2⟩).trans hb3)
            clear hl3 hb3 hp2
            go_wp2_with fail
            exact ⟨rfl, Or.inr ⟨HK.out, rfl, HB5.out⟩⟩
      · obtain rfl : k = s.size := by omega
        have hlt' : ¬ (s.size : Int) < (s.size : Int) := by omega
        have hfk' : (f : Int) ≤ (s.size : Int) := by omega
        have hp2 := put_any B b (t ++ 34 :: escs (s.data.toList.take f)) (s.extract f s.size) wr HI.out.1 HI.out.2.2.2.2.2.1 HI.out.2.1
        have htk : s.data.toList.take s.size = s.data.toList := List.take_of_length_le (by rw [← Lib.size_eq]; exact Nat.le_refl _)
        have HST := Lib.hid (HI.out.step)
        rw [htk] at HST
        have HTK := Lib.hid htk
        clear htk
        go_wp2_with fail
        refine hp2.mono ?_
        rintro e w3 (⟨hl3, rfl, h3, hb3, hk3⟩ | ⟨hl3, rfl, hb3⟩)
        · have hl3' : (t ++ 34 :: escs s.data.toList).length ≤ 262144 := by rw [← HST.out, List.length_append]; exact hl3
          have h3' : PrAt B b (t ++ 34 :: escs s.data.toList) w3 := by rw [← HST.out]; exact h3
          have hp3 := put_any B b _ ⟨#[34]⟩ w3 h3' (Nat.le_trans HI.out.2.2.2.2.2.1 hb3.size) hl3'
          have HB3 := Lib.hid (HI.out.2.2.2.2.1.trans hb3)
          have HK3 : Hid (Kp b w w3 ∧ w.heap.size ≤ w3.heap.size) := Lib.hid ⟨HI.out.2.2.2.2.2.2.1.trans hk3 HI.out.2.2.2.2.2.2.2, Nat.le_trans HI.out.2.2.2.2.2.2.2 hb3.size⟩
          have e1 : (t ++ 34 :: escs s.data.toList) ++ (⟨#[34]⟩ : ByteArray).data.toList = t ++ o := by rw [← HO.out]; unfold quoteJ; simp
          have HE1 := Lib.hid e1
          clear hl3 h3 hb3 hp2 hl3' h3' e1 hk3
          go_wp2_with fail
          refine hp3.mono ?_
          rintro e w5 (⟨hl5, rfl, h5, hb5, hk5⟩ | ⟨hl5, rfl, hb5⟩)
          · have HK : Hid (PutEnd B b t o w (.returned (.tuple #[])) w5) := Lib.hid (.inl ⟨by
              have := congrArg List.length HE1.out
              have e2 : (t ++ o).length = t.length + o.length := List.length_append; rw [e2, List.length_append] at this; omega, rfl, by rw [← HE1.out]; exact h5, HB3.out.trans hb5, HK3.out.1.trans hk5 HK3.out.2⟩)
            clear hl5 h5 hb5 hp3 hk5
            go_wp2
            go_end0
            exact HK.out
          · have HK : Hid (262144 < t.length + o.length) := Lib.hid (by
              have := congrArg List.length HE1.out
              have e2 : (t ++ o).length = t.length + o.length := List.length_append; rw [e2, List.length_append] at this; omega)
            have HB5 := Lib.hid ((show Fr B b w w3 from ⟨HB3.out, HK3.out.1, HK3.out.2⟩).trans hb5)
            clear hl5 hb5 hp3
            go_wp2_with fail
            exact ⟨rfl, Or.inr ⟨HK.out, rfl, HB5.out⟩⟩
        · have HK : Hid (262144 < t.length + o.length) := Lib.hid (long_of (e := [34]) hl3 (by
              rw [HST.out, ← HO.out]; unfold quoteJ; simp))
          have HB5 := Lib.hid ((show Fr B b w _ from ⟨HI.out.2.2.2.2.1, HI.out.2.2.2.2.2.2.1, HI.out.2.2.2.2.2.2.2⟩).trans hb3)
          clear hl3 hb3 hp2
          go_wp2_with fail
          exact ⟨rfl, Or.inr ⟨HK.out, rfl, HB5.out⟩⟩
  · clear hp1
    go_wp2_with fail
    refine ⟨rfl, Or.inr ⟨?_, rfl, hb1⟩⟩
    rw [← HO.out]
    unfold quoteJ
    simp at hl1 ⊢
    omega
end Go.Proofs.YtgcpgieojckheaaGreatDoor.Json
namespace Go.Proofs.YtgcpgieojckheaaGreatDoor.Json

/-- Texts with a comma between them, something ahead of each. -/
def outL (f : Nat → List UInt8) : Nat → List (List UInt8) → List UInt8
  | _, [] => []
  | i, x :: r => (if i = 0 then [] else [44]) ++ f i ++ x ++ outL f (i + 1) r
theorem outL_app (f : Nat → List UInt8) : ∀ (xs ys : List (List UInt8)) (i : Nat), outL f i (xs ++ ys) = outL f i xs ++ outL f (i + xs.length) ys
  | [], ys, i => by simp [outL]
  | x :: r, ys, i => by
    have e1 : outL f i (x :: (r ++ ys)) = (if i = 0 then [] else [44]) ++ f i ++ x ++ outL f (i + 1) (r ++ ys) := by rw [outL]
    have e2 : outL f i (x :: r) = (if i = 0 then [] else [44]) ++ f i ++ x ++ outL f (i + 1) r := by rw [outL]
    have e3 : i + (x :: r).length = i + 1 + r.length := by rw [List.length_cons]; omega
    rw [List.cons_append, e1, e2, e3, outL_app f r ys (i + 1), List.append_assoc]
    simp
mutual
def outJ : J → List UInt8
  | .mk k t ns ls => if k = 1 then [110, 117, 108, 108] else if k = 2 then [116, 114, 117, 101] else if k = 3 then [102, 97, 108, 115, 101] else if k = 4 then t else if k = 5 then quoteJ t
      else if k = 6 then 91 :: (outL (fun _ => []) 0 (outsJ ls) ++ [93]) else if k = 7 then 123 :: (outL (fun i => quoteJ (ns.getD i []) ++ [58]) 0 (outsJ ls) ++ [125]) else []
def outsJ : List J → List (List UInt8)
  | [] => []
  | j :: js => outJ j :: outsJ js
end
theorem outsJ_map : ∀ l : List J, outsJ l = l.map outJ
  | [] => by simp [outsJ]
  | j :: js => by unfold outsJ; rw [outsJ_map js]; rfl
theorem outL_take (f : Nat → List UInt8) (xs : List (List UInt8)) (i : Nat) (x : List UInt8) (h : xs[i]? = some x) :
    outL f 0 (xs.take (i + 1)) = outL f 0 (xs.take i) ++ ((if i = 0 then [] else [44]) ++ f i ++ x) := by
  have hl : i < xs.length := (List.getElem?_eq_some_iff.1 h).1
  rw [List.take_add_one, h, outL_app]
  have : (xs.take i).length = i := by rw [List.length_take]; omega
  rw [this]
  simp [outL]
theorem outL_rest (f : Nat → List UInt8) (xs : List (List UInt8)) (i : Nat) : outL f 0 xs = outL f 0 (xs.take i) ++ outL f (0 + (xs.take i).length) (xs.drop i) := by
  rw [← outL_app, List.take_append_drop]
end Go.Proofs.YtgcpgieojckheaaGreatDoor.Json
