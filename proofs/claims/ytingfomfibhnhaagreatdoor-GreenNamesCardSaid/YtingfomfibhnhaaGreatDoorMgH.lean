/-
  words: the map of what is written like a name; nameBut and its closure.
  nameBut, its closure; rows.
  nameBut, rows: the table of readers.
  next: the token at the beginning of a text.
  divide: a text's tokens in memory.
-/
import Derived.Test.YtingfomfibhnhaaGreatDoorMgD
import Derived.Maps.OwnSet
import Derived.StringKeys
import Derived.Laws.EntriesVeiled
import Derived.Laws.AppendOwn
import Derived.Deep.AppendLies
namespace Go.Proofs.YtingfomfibhnhaaGreatDoor
open Go.RowKit Go.Maps Go.WideMaps

theorem und71 : Tryz.prog.underlying 115 = some (.map 9 5) := by kernel_rfl
theorem und9 : Tryz.prog.underlying 9 = some .string := by kernel_rfl
theorem und5 : Tryz.prog.underlying 5 = some (.int .u8) := by kernel_rfl
theorem law9 : Keyed Tryz.prog 9 := string_keyed und9
theorem zero5 (w : World) : (zeroValue 5).run Tryz.prog w = .ok (.int .u8 0) w := by kernel_rfl
theorem wpList_insert_own {H : Type} {P : Program} (w : World) {ops : Array Oper} {rest : List Oper} {o : Oper} {a : Act} {Q : Exit → Act → World → Prop}
    (hg : o.guard = none) (m x v : Operand) (t : TypeId) (hop : o.op = Op.insert t m x v) (k e : TypeId) (K : Keyed P k) (ht : P.underlying t = some (.map k e)) (R : Value → Option (DataW H × List MemPlace)) (b n : Nat) (D : DataW H)
    (hm : a.eval m = .map (some b)) (hown : w.ownsMap P k R b n D) (hn : n < maxLen) (key val : Value) (kl : Lit) (hx : a.eval x = key) (hv : a.eval v = val) (hkey : keyOf P k key = some kl) (d : DataW H) (ps : List MemPlace) (hval : R val = some (d, ps))
    (hK : ∀ w', w'.ownsMap P k R b (n + 1) (D.put kl d) → w.grownBy w' (some b) → wpList P ops Q rest (a.put o.dst undef) w') : wpList P ops Q (o :: rest) a w := by
  obtain ⟨w', hrun, r1, r2⟩ := hown.update K ht hn hkey hval
  refine wpList_plain hg fun K' hK' => ?_
  unfold Oper.wp
  simp [execOp, hop, hm, hx, hv, hrun, Result.andThen]
  exact hK' _ _ (hK w' r1 r2)
def bl (l : List UInt8) : Value := .string ⟨l.toArray⟩
theorem key_bl (l : List UInt8) (h : l.length ≤ 1000000000) : keyOf Tryz.prog 9 (bl l) = some (.string l) := by
  have := keyOf_string_mk (P := Tryz.prog) (k := 9) und9 (s := ⟨l.toArray⟩) (by unfold maxLen; rw [Lib.size_eq]; simp; omega)
  simpa [bl] using this
theorem key_text (t : List UInt8) : WideAt.IsKeyLit (Lit.string t) := by simp [WideAt.IsKeyLit]
def wkL : List (List UInt8) := [95] :: wordsL
def wv (i : Nat) : Int := if i = 0 then 8 else 3
def wd : Nat → DataW Unit
  | 0 => .map []
  | i + 1 => (wd i).put (.string (wkL.getD i [])) (.lit (.int .u8 (wv i)))
theorem wd_map : ∀ i, IsMap (wd i)
  | 0 => isMap_empty
  | i + 1 => (wd_map i).put _ _
theorem wd_miss : ∀ (i : Nat) (t : List UInt8), (∀ j, j < i → wkL.getD j [] ≠ t) → has (wd i) (.string t) = false
  | 0, t, _ => rfl
  | i + 1, t, h => by
    show has ((wd i).put _ _) _ = false
    rw [has_put_other (by intro e; injection e with e; exact h i (by omega) e.symm)]
    exact wd_miss i t (fun j hj => h j (by omega))
theorem wd_hit : ∀ (i k : Nat) (t : List UInt8) (z : DataW Unit), k < i → (∀ j, j < i → k < j → wkL.getD j [] ≠ t) → wkL.getD k [] = t → has (wd i) (.string t) = true ∧ (wd i).atKey (.string t) z = .lit (.int .u8 (wv k))
  | 0, k, t, z, hk, _, _ => by omega
  | i + 1, k, t, z, hk, h, e => by
    by_cases g : i = k
    · subst g
      show has ((wd i).put _ _) _ = true ∧ ((wd i).put _ _).atKey _ z = _
      rw [e, has_put_same (wd_map i) (key_text t), atKey_put_same (wd_map i) (key_text t)]
      exact ⟨rfl, rfl⟩
    · have hne : Lit.string t ≠ Lit.string (wkL.getD i []) := by intro x; injection x with x; exact h i (by omega) (by omega) x.symm
      show has ((wd i).put _ _) _ = true ∧ ((wd i).put _ _).atKey _ z = _
      rw [has_put_other hne, atKey_put_other hne]
      exact wd_hit i k t z (by omega) (fun j hj hkj => h j (by omega) hkj) e
theorem wk_apart0 : ∀ i, i < 13 → ∀ j, j < 13 → wkL.getD i [] = wkL.getD j [] → i = j := by decide +kernel
theorem wk_apart (i j : Nat) (hi : i < 13) (hj : j < 13) (h : wkL.getD i [] = wkL.getD j []) : i = j := wk_apart0 i hi j hj h
/-- What stands in the map for a text. -/
theorem wd_of (t : List UInt8) (z : DataW Unit) : (has (wd 13) (.string t) = true ∧ (wd 13).atKey (.string t) z = .lit (.int .u8 (nameK t))) ∨ (has (wd 13) (.string t) = false ∧ nameK t = 4) := by
  by_cases h : ∃ k, k < 13 ∧ wkL.getD k [] = t
  · obtain ⟨k, hk, e⟩ := h
    have := wd_hit 13 k t z hk (fun j hj hkj e2 => by
      have := wk_apart j k hj hk (e2.trans e.symm); omega) e
    refine .inl ⟨this.1, this.2.trans ?_⟩
    congr 2
    by_cases g : k = 0
    · subst g; rw [← e]; rfl
    · have hne : t ≠ [95] := fun x => g (wk_apart k 0 hk (by omega) (e.trans x))
      have hmem : wordsL.contains t = true := by
        rw [List.contains_iff_mem, ← e]
        have : k = (k - 1) + 1 := by omega
        rw [this]
        show wordsL.getD (k - 1) [] ∈ wordsL
        rw [List.getD_eq_getElem?_getD, List.getElem?_eq_getElem (show k - 1 < wordsL.length by show k - 1 < 12; omega)]
        exact List.getElem_mem _
      unfold nameK wv
      rw [if_neg hne, if_pos hmem, if_neg g]; rfl
  · refine .inr ⟨wd_miss 13 t (fun j hj e => h ⟨j, hj, e⟩), ?_⟩
    unfold nameK
    rw [if_neg (fun e => h ⟨0, by omega, e.symm⟩), if_neg]
    intro hc
    obtain ⟨k, hk, e⟩ := List.getElem_of_mem (List.contains_iff_mem.1 hc)
    refine h ⟨k + 1, by have : k < 12 := hk; omega, ?_⟩
    show wordsL.getD k [] = t
    rw [List.getD_eq_getElem?_getD, List.getElem?_eq_getElem hk]; exact e
def MapOf (M n : Nat) (w : World) : Prop := w.ownsMap Tryz.prog 9 (plainElem (H := Unit) Tryz.prog 5) M n (wd n)
theorem MapOf.below {M n B : Nat} {w w' : World} (h : MapOf M n w) (hb : Below B w w') (hM : M < B) : MapOf M n w' := by
  obtain ⟨es, clock, h1, h2⟩ := h
  exact ⟨es, clock, (hb.block M hM).trans h1, h2⟩
theorem MapOf.lt {M n : Nat} {w : World} (h : MapOf M n w) : M < w.heap.size := by
  obtain ⟨es, clock, h1, h2⟩ := h
  exact (Array.getElem?_eq_some_iff.1 h1).1
theorem map_made (w : World) : MapOf w.heap.size 0 (w.alloc (.map #[] 0)) := World.ownsMap_made _ _ _ _
def WordsEnd (w : World) (e : Ending) (w' : World) : Prop := ∃ M, e = .returned (.map (some M)) ∧ MapOf M 13 w' ∧ Below w.heap.size w w'
theorem below_grown {n M : Nat} {w0 w w' : World} (h : Below n w0 w) (hM : n ≤ M) (hn : n ≤ w.heap.size) (hg : w.grownBy w' (some M)) : Below n w0 w' :=
  h.grown hg hn (fun k hk => by injection hk with hk; omega)
set_option maxRecDepth 100000 in
set_option maxHeartbeats 8000000 in
theorem words_any (w : World) : Calls Tryz.prog 86 #[] w (WordsEnd w) := by
  have hmm := @run_makeMap Tryz.prog
  have h0 := Lib.hid (map_made w)
  have b0 : Below w.heap.size w (w.alloc (.map #[] 0)) := Below.alloc (Below.refl _ _) (Nat.le_refl _) _
  have B0 := Lib.hid b0
  clear b0
  obtain ⟨v0, hv0⟩ : ∃ v0, w.alloc (.map #[] 0) = v0 := ⟨_, rfl⟩
  rw [hv0] at h0 B0
  obtain ⟨M, hM⟩ : ∃ M, w.heap.size = M := ⟨_, rfl⟩
  rw [hM] at h0 B0
  have HM := Lib.hid (Nat.le_of_eq hM)
  go_enter Tryz.func86, Tryz.ntmps86
  go_wp2_with (first
    | (refine wpList_insert_own _ rfl _ _ _ 115 rfl 9 5 law9 und71 (plainElem (H := Unit) Tryz.prog 5) M 0 (wd 0) rfl h0.out (by unfold maxLen; omega) (bl [95]) (.int .u8 8) (.string [95]) rfl rfl (key_bl _ (by decide)) (.lit (.int .u8 8)) [] (plainElem_int und5 (by decide)) ?_; intro v1 k1 g1; have h1 : Hid (MapOf M 1 v1) := Lib.hid k1; have B1 := Lib.hid (below_grown B0.out (Nat.le_refl M) (by have := B0.out.size; have := HM.out; omega) g1); clear k1 g1 h0 B0)
    | (refine wpList_insert_own _ rfl _ _ _ 115 rfl 9 5 law9 und71 (plainElem (H := Unit) Tryz.prog 5) M 1 (wd 1) rfl h1.out (by unfold maxLen; omega) (bl [108, 101, 116]) (.int .u8 3) (.string [108, 101, 116]) rfl rfl (key_bl _ (by decide)) (.lit (.int .u8 3)) [] (plainElem_int und5 (by decide)) ?_; intro v2 k2 g2; have h2 : Hid (MapOf M 2 v2) := Lib.hid k2; have B2 := Lib.hid (below_grown B1.out (Nat.le_refl M) (by have := B1.out.size; have := HM.out; omega) g2); clear k2 g2 h1 B1)
    | (refine wpList_insert_own _ rfl _ _ _ 115 rfl 9 5 law9 und71 (plainElem (H := Unit) Tryz.prog 5) M 2 (wd 2) rfl h2.out (by unfold maxLen; omega) (bl [114, 101, 99]) (.int .u8 3) (.string [114, 101, 99]) rfl rfl (key_bl _ (by decide)) (.lit (.int .u8 3)) [] (plainElem_int und5 (by decide)) ?_; intro v3 k3 g3; have h3 : Hid (MapOf M 3 v3) := Lib.hid k3; have B3 := Lib.hid (below_grown B2.out (Nat.le_refl M) (by have := B2.out.size; have := HM.out; omega) g3); clear k3 g3 h2 B2)
    | (refine wpList_insert_own _ rfl _ _ _ 115 rfl 9 5 law9 und71 (plainElem (H := Unit) Tryz.prog 5) M 3 (wd 3) rfl h3.out (by unfold maxLen; omega) (bl [105, 110]) (.int .u8 3) (.string [105, 110]) rfl rfl (key_bl _ (by decide)) (.lit (.int .u8 3)) [] (plainElem_int und5 (by decide)) ?_; intro v4 k4 g4; have h4 : Hid (MapOf M 4 v4) := Lib.hid k4; have B4 := Lib.hid (below_grown B3.out (Nat.le_refl M) (by have := B3.out.size; have := HM.out; omega) g4); clear k4 g4 h3 B3)
    | (refine wpList_insert_own _ rfl _ _ _ 115 rfl 9 5 law9 und71 (plainElem (H := Unit) Tryz.prog 5) M 4 (wd 4) rfl h4.out (by unfold maxLen; omega) (bl [102, 117, 110]) (.int .u8 3) (.string [102, 117, 110]) rfl rfl (key_bl _ (by decide)) (.lit (.int .u8 3)) [] (plainElem_int und5 (by decide)) ?_; intro v5 k5 g5; have h5 : Hid (MapOf M 5 v5) := Lib.hid k5; have B5 := Lib.hid (below_grown B4.out (Nat.le_refl M) (by have := B4.out.size; have := HM.out; omega) g5); clear k5 g5 h4 B4)
    | (refine wpList_insert_own _ rfl _ _ _ 115 rfl 9 5 law9 und71 (plainElem (H := Unit) Tryz.prog 5) M 5 (wd 5) rfl h5.out (by unfold maxLen; omega) (bl [105, 102]) (.int .u8 3) (.string [105, 102]) rfl rfl (key_bl _ (by decide)) (.lit (.int .u8 3)) [] (plainElem_int und5 (by decide)) ?_; intro v6 k6 g6; have h6 : Hid (MapOf M 6 v6) := Lib.hid k6; have B6 := Lib.hid (below_grown B5.out (Nat.le_refl M) (by have := B5.out.size; have := HM.out; omega) g6); clear k6 g6 h5 B5)
    | (refine wpList_insert_own _ rfl _ _ _ 115 rfl 9 5 law9 und71 (plainElem (H := Unit) Tryz.prog 5) M 6 (wd 6) rfl h6.out (by unfold maxLen; omega) (bl [116, 104, 101, 110]) (.int .u8 3) (.string [116, 104, 101, 110]) rfl rfl (key_bl _ (by decide)) (.lit (.int .u8 3)) [] (plainElem_int und5 (by decide)) ?_; intro v7 k7 g7; have h7 : Hid (MapOf M 7 v7) := Lib.hid k7; have B7 := Lib.hid (below_grown B6.out (Nat.le_refl M) (by have := B6.out.size; have := HM.out; omega) g7); clear k7 g7 h6 B6)
    | (refine wpList_insert_own _ rfl _ _ _ 115 rfl 9 5 law9 und71 (plainElem (H := Unit) Tryz.prog 5) M 7 (wd 7) rfl h7.out (by unfold maxLen; omega) (bl [101, 108, 115, 101]) (.int .u8 3) (.string [101, 108, 115, 101]) rfl rfl (key_bl _ (by decide)) (.lit (.int .u8 3)) [] (plainElem_int und5 (by decide)) ?_; intro v8 k8 g8; have h8 : Hid (MapOf M 8 v8) := Lib.hid k8; have B8 := Lib.hid (below_grown B7.out (Nat.le_refl M) (by have := B7.out.size; have := HM.out; omega) g8); clear k8 g8 h7 B7)
    | (refine wpList_insert_own _ rfl _ _ _ 115 rfl 9 5 law9 und71 (plainElem (H := Unit) Tryz.prog 5) M 8 (wd 8) rfl h8.out (by unfold maxLen; omega) (bl [109, 97, 116, 99, 104]) (.int .u8 3) (.string [109, 97, 116, 99, 104]) rfl rfl (key_bl _ (by decide)) (.lit (.int .u8 3)) [] (plainElem_int und5 (by decide)) ?_; intro v9 k9 g9; have h9 : Hid (MapOf M 9 v9) := Lib.hid k9; have B9 := Lib.hid (below_grown B8.out (Nat.le_refl M) (by have := B8.out.size; have := HM.out; omega) g9); clear k9 g9 h8 B8)
    | (refine wpList_insert_own _ rfl _ _ _ 115 rfl 9 5 law9 und71 (plainElem (H := Unit) Tryz.prog 5) M 9 (wd 9) rfl h9.out (by unfold maxLen; omega) (bl [119, 105, 116, 104]) (.int .u8 3) (.string [119, 105, 116, 104]) rfl rfl (key_bl _ (by decide)) (.lit (.int .u8 3)) [] (plainElem_int und5 (by decide)) ?_; intro v10 k10 g10; have h10 : Hid (MapOf M 10 v10) := Lib.hid k10; have B10 := Lib.hid (below_grown B9.out (Nat.le_refl M) (by have := B9.out.size; have := HM.out; omega) g10); clear k10 g10 h9 B9)
    | (refine wpList_insert_own _ rfl _ _ _ 115 rfl 9 5 law9 und71 (plainElem (H := Unit) Tryz.prog 5) M 10 (wd 10) rfl h10.out (by unfold maxLen; omega) (bl [116, 114, 117, 101]) (.int .u8 3) (.string [116, 114, 117, 101]) rfl rfl (key_bl _ (by decide)) (.lit (.int .u8 3)) [] (plainElem_int und5 (by decide)) ?_; intro v11 k11 g11; have h11 : Hid (MapOf M 11 v11) := Lib.hid k11; have B11 := Lib.hid (below_grown B10.out (Nat.le_refl M) (by have := B10.out.size; have := HM.out; omega) g11); clear k11 g11 h10 B10)
    | (refine wpList_insert_own _ rfl _ _ _ 115 rfl 9 5 law9 und71 (plainElem (H := Unit) Tryz.prog 5) M 11 (wd 11) rfl h11.out (by unfold maxLen; omega) (bl [102, 97, 108, 115, 101]) (.int .u8 3) (.string [102, 97, 108, 115, 101]) rfl rfl (key_bl _ (by decide)) (.lit (.int .u8 3)) [] (plainElem_int und5 (by decide)) ?_; intro v12 k12 g12; have h12 : Hid (MapOf M 12 v12) := Lib.hid k12; have B12 := Lib.hid (below_grown B11.out (Nat.le_refl M) (by have := B11.out.size; have := HM.out; omega) g12); clear k12 g12 h11 B11)
    | (refine wpList_insert_own _ rfl _ _ _ 115 rfl 9 5 law9 und71 (plainElem (H := Unit) Tryz.prog 5) M 12 (wd 12) rfl h12.out (by unfold maxLen; omega) (bl [109, 111, 100]) (.int .u8 3) (.string [109, 111, 100]) rfl rfl (key_bl _ (by decide)) (.lit (.int .u8 3)) [] (plainElem_int und5 (by decide)) ?_; intro v13 k13 g13; have h13 : Hid (MapOf M 13 v13) := Lib.hid k13; have B13 := Lib.hid (below_grown B12.out (Nat.le_refl M) (by have := B12.out.size; have := HM.out; omega) g13); clear k13 g13 h12 B12))
  go_ret
  exact ⟨M, rfl, h13.out, hM ▸ B13.out⟩
end Go.Proofs.YtingfomfibhnhaaGreatDoor
namespace Go.Proofs.YtingfomfibhnhaaGreatDoor
open Go.RowKit Go.Maps Go.WideMaps

/-- The box of the captured map, and the map. -/
def WordsAt (B : Nat) (w : World) : Prop := ∃ M, w.cell? ⟨B, 0, none⟩ = some (.map (some M)) ∧ MapOf M 13 w
theorem lt_of_cell {w : World} {b o : Nat} {v : Value} (h : w.cell? ⟨b, o, none⟩ = some v) : b < w.heap.size := by
  unfold World.cell? at h
  rcases Nat.lt_or_ge b w.heap.size with g | g
  · exact g
  · simp only [Array.getElem?_eq_none g] at h; cases h
theorem WordsAt.below {B : Nat} {w w' : World} (h : WordsAt B w) (hb : Below w.heap.size w w') : WordsAt B w' := by
  obtain ⟨M, h1, h2⟩ := h
  exact ⟨M, (hb.cell (p := ⟨B, 0, none⟩) (lt_of_cell h1)).trans h1, h2.below hb h2.lt⟩
theorem drewN_below (w : World) (n : Nat) : Below w.heap.size w (w.drewN n) := ⟨rfl, rfl, rfl, Nat.le_refl _, fun _ _ => rfl⟩
def nameR (l : List UInt8) : Nat × Nat := if lead lowB l = 0 then (0, 0) else (nameK (l.take (lead inB l)), lead inB l)
theorem lead_sub {p q : UInt8 → Bool} (h : ∀ c, p c = true → q c = true) : ∀ l : List UInt8, lead q l = lead p l + lead q (l.drop (lead p l))
  | [] => rfl
  | c :: r => by
    by_cases g : p c = true
    · rw [lead_cons p, if_pos g, lead_cons q, if_pos (h c g), List.drop_succ_cons, lead_sub h r]; omega
    · rw [lead_cons p, if_neg g, List.drop_zero]; omega
theorem low_in (c : UInt8) (h : lowB c = true) : inB c = true := by unfold inB; rw [h]; rfl
def isWord (t : List UInt8) : Bool := has (wd 13) (.string t)
set_option maxRecDepth 100000 in
theorem look_words {M : Nat} {w : World} {T : ByteArray} (h : MapOf M 13 w) (hT : T.data.toList.length ≤ 1000000000) :
    (Instr.lookup 115 (.map (some M)) (.string T) true).run Tryz.prog w = .ok (.tuple #[.int .u8 (if isWord T.data.toList then nameK T.data.toList else 0), .bool (isWord T.data.toList)]) w := by
  have hTb : Value.string T = bl T.data.toList := rfl
  have hkey := key_bl T.data.toList hT
  rw [← hTb] at hkey
  obtain ⟨v, ps, hlk, hv⟩ := World.ownsMap.look_ok (t := 115) (e := 5) h law9 und71 (zero5 w) (plainElem_int und5 (by decide)) hkey
  obtain ⟨c, rfl, hcc, hwc⟩ := plainElem_int_inv und5 hv
  injection hcc with hcc _
  refine hlk.trans ?_
  unfold isWord
  rcases wd_of T.data.toList (.lit (.int .u8 0)) with ⟨h1, hat⟩ | ⟨h1, hK⟩
  · rw [hat] at hcc; injection hcc with hcc; injection hcc with _ hcc
    rw [h1, ← hcc]; rfl
  · rw [atKey_of_not_has h1] at hcc; injection hcc with hcc; injection hcc with _ hcc
    rw [h1, ← hcc]; rfl
theorem isWord_no {t : List UInt8} (h : isWord t = false) : nameK t = 4 := by
  rcases wd_of t (.lit (.int .u8 0)) with ⟨h1, hat⟩ | ⟨h1, hK⟩
  · unfold isWord at h; rw [h1] at h; cases h
  · exact hK
set_option maxRecDepth 100000 in
set_option maxHeartbeats 4000000 in
theorem name_any (s : ByteArray) (B : Nat) (w : World) (hz : s.size ≤ 1000000000) (hW : WordsAt B w) :
    Calls Tryz.prog 97 #[.string s, .pointer (some ⟨B, 0, none⟩)] w (NumEnd2 (nameR s.data.toList) w) := by
  obtain ⟨M, hc, hM⟩ := hW
  have c1 := fun W => leading61 lowB startsName_any s W hz
  have hsub := lead_sub low_in s.data.toList
  have hle := lead_le inB s.data.toList
  rw [← Lib.size_eq] at hle
  have hR : nameR s.data.toList = if lead lowB s.data.toList = 0 then (0, 0) else (nameK (s.data.toList.take (lead inB s.data.toList)), lead inB s.data.toList) := rfl
  generalize nameR s.data.toList = R at *
  generalize lead lowB s.data.toList = k at *
  by_cases h0 : k = 0
  · have q : ((k : Int) == 0) = true := by rw [h0]; rfl
    have HR : Hid (R = (0, 0)) := Lib.hid (by rw [hR, if_pos h0])
    clear hR h0 hsub
    go_enter Tryz.func97, Tryz.ntmps97
    go_wp2_with (go_at_call 94; ((with_reducible refine (c1 _).mono ?_); rintro e w' ⟨rfl, rfl⟩))
    go_ret2
    exact ⟨by rw [HR.out]; rfl, Below.refl _ _⟩
  · have q : ((k : Int) == 0) = false := beq_eq_false_iff_ne.2 (by omega)
    rw [if_neg h0] at hR
    have hks : k ≤ s.size := by omega
    have hks' : (k : Int) ≤ (s.size : Int) := by omega
    have c2 := fun W => leading62 inB isInName_any (s.extract k s.size) W (by rw [ext_size]; omega)
    rw [ext_list] at c2
    generalize lead inB (s.data.toList.drop k) = m at *
    rw [hsub] at hR hle
    have hm' : ((k + m : Nat) : Int) ≤ (s.size : Int) := by omega
    have w1 : IntKind.i64.wrap ((k : Int) + (m : Int)) = ((k + m : Nat) : Int) := by rw [IntWalk.i64_in _ (by omega)]; omega
    clear h0 hsub
    generalize k + m = N at *
    have h0N : (0 : Int) ≤ (N : Int) := by omega
    have hN2 : N ≤ s.size := by omega
    obtain ⟨T, hT⟩ : ∃ T, s.extract 0 N = T := ⟨_, rfl⟩
    have hTl : T.data.toList = s.data.toList.take N := by rw [← hT, Utf.extract_list, List.drop_zero]
    have hTz : T.data.toList.length ≤ 1000000000 := by rw [hTl, List.length_take, ← Lib.size_eq]; omega
    have hlk : ∀ a, (Instr.lookup 115 (.map (some M)) (.string T) true).run Tryz.prog (w.drewN a) = .ok (.tuple #[.int .u8 (if isWord T.data.toList then nameK T.data.toList else 0), .bool (isWord T.data.toList)]) (w.drewN a) := fun a => look_words (w := w.drewN a) hM hTz
    rw [← hTl] at hR
    cases hi : isWord T.data.toList with
    | true =>
      rw [hi] at hlk
      simp only [if_true] at hlk
      have HR := Lib.hid hR
      have HT := Lib.hid hT
      clear hR hT hM hTl hTz hi
      generalize nameK T.data.toList = K at *
      go_enter Tryz.func97, Tryz.ntmps97
      go_wp2_with (first | (go_at_call 94; ((with_reducible refine (c1 _).mono ?_); rintro e w' ⟨rfl, rfl⟩)) | (go_at_call 94; ((with_reducible refine (c2 _).mono ?_); rintro e w' ⟨rfl, rfl⟩)))
      have hT := HT.out
      go_quiet (fail)
      go_wp2
      go_ret2
      exact ⟨by rw [HR.out]; rfl, drewN_below _ _⟩
    | false =>
      rw [hi] at hlk
      simp only [Bool.false_eq_true, if_false] at hlk
      have HR := Lib.hid hR
      have HT := Lib.hid hT
      have HK := Lib.hid (isWord_no hi)
      clear hR hT hM hTl hTz hi
      go_enter Tryz.func97, Tryz.ntmps97
      go_wp2_with (first | (go_at_call 94; ((with_reducible refine (c1 _).mono ?_); rintro e w' ⟨rfl, rfl⟩)) | (go_at_call 94; ((with_reducible refine (c2 _).mono ?_); rintro e w' ⟨rfl, rfl⟩)))
      have hT := HT.out
      go_quiet (fail)
      go_wp2
      go_ret2
      exact ⟨by rw [HR.out, HK.out]; rfl, drewN_below _ _⟩
end Go.Proofs.YtingfomfibhnhaaGreatDoor
namespace Go.Proofs.YtingfomfibhnhaaGreatDoor
open Go.RowKit Go.Maps Go.WideMaps

theorem cellH {w : World} {b : Nat} {cs : Array Value} {t : TypeId} {fr : Nat × Nat} (h : w.heap[b]? = some (.cells cs t fr)) (o : Nat) : w.cell? ⟨b, o, none⟩ = cs[o]? := cell_of_row w b o cs t fr h
theorem makeFunc_run (fn : Fn) (first cap : Array Value) (w : World) : (Instr.makeFunc fn first cap).run Tryz.prog w = .ok (.func fn first cap) w := rfl
def NameButEnd (w : World) (e : Ending) (w' : World) : Prop := ∃ B, e = .returned (.func (.func 97) #[] #[.pointer (some ⟨B, 0, none⟩)]) ∧ WordsAt B w' ∧ Below w.heap.size w w'
set_option maxRecDepth 100000 in
set_option maxHeartbeats 1000000 in
theorem nameBut_any (M : Nat) (w : World) (hM : MapOf M 13 w) : Calls Tryz.prog 85 #[.map (some M)] w (NameButEnd w) := by
  have hmf := makeFunc_run
  have hb : Below w.heap.size w (w.alloc (.cells #[.map (some M)] 115)) := Below.alloc (Below.refl _ _) (Nat.le_refl _) _
  have hW : WordsAt w.heap.size (w.alloc (.cells #[.map (some M)] 115)) := ⟨M, by rw [cellH (heap_alloc_new w _)]; rfl, hM.below hb hM.lt⟩
  have HW := Lib.hid hW
  have HB := Lib.hid hb
  clear hb hW hM
  go_enter Tryz.func85, Tryz.ntmps85
  go_wp2
  go_ret
  exact ⟨_, rfl, HW.out, HB.out⟩
def fnT (B : Nat) : Array Value := #[.func (.func 83) #[] #[], .func (.func 84) #[] #[], .func (.func 97) #[] #[.pointer (some ⟨B, 0, none⟩)], .func (.func 87) #[] #[], .func (.func 88) #[] #[], .func (.func 89) #[] #[], .func (.func 90) #[] #[]]
/-- The table at T. -/
def TabAt (T : Nat) (w : World) : Prop := ∃ B, w.heap[T]? = some (.cells (fnT B) 113 (0, 0)) ∧ WordsAt B w
theorem TabAt.below {T : Nat} {w w' : World} (h : TabAt T w) (hb : Below w.heap.size w w') : TabAt T w' := by
  obtain ⟨B, h1, h2⟩ := h
  exact ⟨B, (hb.block T (Array.getElem?_eq_some_iff.1 h1).1).trans h1, h2.below hb⟩
def RowsEnd (w : World) (e : Ending) (w' : World) : Prop := ∃ T, e = .returned (.slice (some ⟨T, 0, none⟩) 7 7) ∧ TabAt T w' ∧ w.heap.size ≤ T ∧ Below w.heap.size w w'
set_option maxRecDepth 100000 in
set_option maxHeartbeats 1000000 in
theorem rows_any (w : World) : Calls Tryz.prog 65 #[] w (RowsEnd w) := by
  go_enter Tryz.func65, Tryz.ntmps65
  go_wp2_with fail
  refine (words_any w).mono ?_
  rintro e w1 ⟨M, rfl, hM, hb1⟩
  have HB1 := Lib.hid hb1
  have HM := Lib.hid hM
  clear hb1 hM
  go_wp2_with fail
  refine (nameBut_any M w1 HM.out).mono ?_
  rintro e w2 ⟨B, rfl, hW, hb2⟩
  have HB2 := Lib.hid (HB1.out.trans (hb2.mono HB1.out.size))
  have hA : Below w2.heap.size w2 (w2.alloc (.cells (fnT B) 113)) := Below.alloc (Below.refl _ _) (Nat.le_refl _) _
  have HT : Hid (TabAt w2.heap.size (w2.alloc (.cells (fnT B) 113))) := Lib.hid ⟨B, heap_alloc_new w2 _, hW.below hA⟩
  have HA := Lib.hid hA
  clear hb2 hW hA
  go_wp2_with fail
  go_ret
  exact ⟨_, rfl, HT.out, HB2.out.size, HB2.out.trans (HA.out.mono HB2.out.size)⟩
end Go.Proofs.YtingfomfibhnhaaGreatDoor
namespace Go.Proofs.YtingfomfibhnhaaGreatDoor
open Go.RowKit

def rowR (k : Nat) (l : List UInt8) : Nat × Nat :=
  if k = 0 then (1, lead blankB l) else if k = 1 then remR l else if k = 2 then nameR l else if k = 3 then numR l else if k = 4 then quoR l else if k = 5 then twoR l else (8, oneB onesL l)
theorem row0 (c : UInt8) (r : List UInt8) : (rowR 0 (c :: r)).2 = 0 ↔ blankB c = false := by
  show lead blankB (c :: r) = 0 ↔ _
  rw [lead_cons]; cases blankB c <;> simp
theorem row1 (c : UInt8) (r : List UInt8) : (rowR 1 (c :: r)).2 = 0 ↔ opens (c :: r) = false := by
  show (remR (c :: r)).2 = 0 ↔ _
  unfold remR
  have := rem_pos c r 0 false
  cases h : opens (c :: r)
  · simp
  · rw [if_pos rfl]; simp; omega
theorem row2 (c : UInt8) (r : List UInt8) : (rowR 2 (c :: r)).2 = 0 ↔ lowB c = false := by
  show (nameR (c :: r)).2 = 0 ↔ _
  unfold nameR
  cases h : lowB c
  · rw [lead_zero _ _ _ h, if_pos rfl]; simp
  · have h1 := lead_pos lowB c r h
    have h2 := lead_pos inB c r (low_in c h)
    rw [if_neg (by omega)]; simp; omega
theorem row3 (c : UInt8) (r : List UInt8) : (rowR 3 (c :: r)).2 = 0 ↔ digB c = false := by
  show (numR (c :: r)).2 = 0 ↔ _
  unfold numR
  cases h : digB c
  · rw [lead_zero _ _ _ h, if_pos rfl]; simp
  · have h1 := lead_pos digB c r h
    have h2 := (num_le (c :: r)).2
    rw [if_neg (by omega)]; simp; omega
theorem row4 (c : UInt8) (r : List UInt8) : (rowR 4 (c :: r)).2 = 0 ↔ (c == 34) = false := by
  show (quoR (c :: r)).2 = 0 ↔ _
  unfold quoR
  rw [List.getElem?_cons_zero]
  by_cases h : c = 34
  · rw [h, if_pos rfl]; simp [shN]
  · rw [if_neg (by simp [h])]; simp [h]
theorem row5 (c : UInt8) (r : List UInt8) : (rowR 5 (c :: r)).2 = 0 ↔ twosL.contains ((c :: r).take 2) = false := by
  show (twoR (c :: r)).2 = 0 ↔ _
  unfold twoR
  cases h : twosL.contains ((c :: r).take 2)
  · simp
  · rw [if_pos rfl]; simp
theorem row6 (c : UInt8) (r : List UInt8) : (rowR 6 (c :: r)).2 = 0 ↔ onesL.contains c = false := by
  show oneB onesL (c :: r) = 0 ↔ _
  show (if onesL.contains c then 1 else 0) = 0 ↔ _
  cases onesL.contains c <;> simp
theorem cut_at (c : UInt8) (r : List UInt8) (k : Nat) (hk : k < 7) (h : ∀ j, j < k → (rowR j (c :: r)).2 = 0) (hp : 0 < (rowR k (c :: r)).2) : cut (c :: r) = rowR k (c :: r) := by
  have e : cut (c :: r) = if blankB c then (1, lead blankB (c :: r))
      else if opens (c :: r) then (if (rem 0 false (c :: r)).2 then 2 else 9, (rem 0 false (c :: r)).1)
      else if lowB c then (nameK ((c :: r).take (lead inB (c :: r))), lead inB (c :: r))
      else if digB c then num (c :: r)
      else if c == 34 then addN (quo 0 r)
      else if twosL.contains ((c :: r).take 2) then (8, 2)
      else if onesL.contains c then (8, 1)
      else (9, runeN (c :: r)) := rfl
  have g0 : 0 < k → ¬ blankB c = true := fun x => by rw [(row0 c r).1 (h 0 x)]; simp
  have g1 : 1 < k → ¬ opens (c :: r) = true := fun x => by rw [(row1 c r).1 (h 1 x)]; simp
  have g2 : 2 < k → ¬ lowB c = true := fun x => by rw [(row2 c r).1 (h 2 x)]; simp
  have g3 : 3 < k → ¬ digB c = true := fun x => by rw [(row3 c r).1 (h 3 x)]; simp
  have g4 : 4 < k → ¬ (c == 34) = true := fun x => by rw [(row4 c r).1 (h 4 x)]; simp
  have g5 : 5 < k → ¬ twosL.contains ((c :: r).take 2) = true := fun x => by rw [(row5 c r).1 (h 5 x)]; simp
  rcases (by omega : k = 0 ∨ k = 1 ∨ k = 2 ∨ k = 3 ∨ k = 4 ∨ k = 5 ∨ k = 6) with rfl | rfl | rfl | rfl | rfl | rfl | rfl
  · have p : blankB c = true := by
      apply Classical.byContradiction; intro x; have := (row0 c r).2 (by simpa using x); omega
    rw [e, if_pos p]; rfl
  · have p : opens (c :: r) = true := by
      apply Classical.byContradiction; intro x; have := (row1 c r).2 (by simpa using x); omega
    rw [e, if_neg (g0 (by omega)), if_pos p]
    show _ = remR (c :: r)
    unfold remR; rw [if_pos p]
  · have p : lowB c = true := by
      apply Classical.byContradiction; intro x; have := (row2 c r).2 (by simpa using x); omega
    rw [e, if_neg (g0 (by omega)), if_neg (g1 (by omega)), if_pos p]
    show _ = nameR (c :: r)
    unfold nameR; have h1 := lead_pos lowB c r p; rw [if_neg (by omega)]
  · have p : digB c = true := by
      apply Classical.byContradiction; intro x; have := (row3 c r).2 (by simpa using x); omega
    rw [e, if_neg (g0 (by omega)), if_neg (g1 (by omega)), if_neg (g2 (by omega)), if_pos p]
    show _ = numR (c :: r)
    unfold numR; have h1 := lead_pos digB c r p; rw [if_neg (by omega)]
  · have p : (c == 34) = true := by
      apply Classical.byContradiction; intro x; have := (row4 c r).2 (by simpa using x); omega
    rw [e, if_neg (g0 (by omega)), if_neg (g1 (by omega)), if_neg (g2 (by omega)), if_neg (g3 (by omega)), if_pos p]
    show _ = quoR (c :: r)
    unfold quoR; rw [List.getElem?_cons_zero, if_pos (by rw [beq_iff_eq] at p; rw [p]), addN_sh]; rfl
  · have p : twosL.contains ((c :: r).take 2) = true := by
      apply Classical.byContradiction; intro x; have := (row5 c r).2 (by simpa using x); omega
    rw [e, if_neg (g0 (by omega)), if_neg (g1 (by omega)), if_neg (g2 (by omega)), if_neg (g3 (by omega)), if_neg (g4 (by omega)), if_pos p]
    show _ = twoR (c :: r)
    unfold twoR; rw [if_pos p]
  · have p : onesL.contains c = true := by
      apply Classical.byContradiction; intro x; have := (row6 c r).2 (by simpa using x); omega
    rw [e, if_neg (g0 (by omega)), if_neg (g1 (by omega)), if_neg (g2 (by omega)), if_neg (g3 (by omega)), if_neg (g4 (by omega)), if_neg (g5 (by omega)), if_pos p]
    show _ = (8, if onesL.contains c then 1 else 0)
    rw [if_pos p]
theorem cut_none (c : UInt8) (r : List UInt8) (h : ∀ j, j < 7 → (rowR j (c :: r)).2 = 0) : cut (c :: r) = (9, runeN (c :: r)) := by
  show cutC c r = _
  unfold cutC
  rw [if_neg (by rw [(row0 c r).1 (h 0 (by omega))]; simp), if_neg (by rw [(row1 c r).1 (h 1 (by omega))]; simp), if_neg (by rw [(row2 c r).1 (h 2 (by omega))]; simp), if_neg (by rw [(row3 c r).1 (h 3 (by omega))]; simp), if_neg (by rw [(row4 c r).1 (h 4 (by omega))]; simp), if_neg (by rw [(row5 c r).1 (h 5 (by omega))]; simp), if_neg (by rw [(row6 c r).1 (h 6 (by omega))]; simp)]

/-! ### the readers, alike -/
/-- What lies in the variables. -/
def Env (w : World) : Prop := Lib.Utf8Tabs 1 2 w ∧ TwosAt w ∧ ErrAt w
theorem Env.size {w : World} (h : Env w) : 5 ≤ w.heap.size := by
  obtain ⟨ev, h, _⟩ := h.2.2
  have := lt_of_cell h
  omega
theorem Env.below {n : Nat} {w w' : World} (h : Env w) (hb : Below n w w') (hn : 5 ≤ n) : Env w' :=
  ⟨Utf.tabs_below h.1 hb (by omega), h.2.1.below hb (by omega), h.2.2.below hb hn⟩
theorem row0_any (s : ByteArray) (w : World) (hz : s.size ≤ 1000000000) : Calls Tryz.prog 83 #[.string s] w (NumEnd2 (rowR 0 s.data.toList) w) :=
  (blank_any s w hz).mono fun _ _ h => ⟨h.1, h.2 ▸ Below.refl _ _⟩
theorem row1_any (s : ByteArray) (w : World) (hz : s.size ≤ 1000000000) : Calls Tryz.prog 84 #[.string s] w (NumEnd2 (rowR 1 s.data.toList) w) :=
  (remark_any s w hz).mono fun _ _ h => ⟨h.1, h.2 ▸ Below.refl _ _⟩
theorem row4_any (s : ByteArray) (w : World) (hz : s.size ≤ 1000000000) : Calls Tryz.prog 88 #[.string s] w (NumEnd2 (rowR 4 s.data.toList) w) :=
  (quoted_any s w hz).mono fun _ _ h => ⟨h.1, h.2 ▸ Below.refl _ _⟩
theorem row5_any (s : ByteArray) (w : World) (hT : TwosAt w) : Calls Tryz.prog 89 #[.string s] w (NumEnd2 (rowR 5 s.data.toList) w) :=
  (twoByteSign_any s w hT).mono fun _ _ h => ⟨h.1, h.2 ▸ Below.refl _ _⟩
theorem row6_any (s : ByteArray) (w : World) : Calls Tryz.prog 90 #[.string s] w (NumEnd2 (rowR 6 s.data.toList) w) :=
  (sign_any s w).mono fun _ _ h => ⟨h.1, h.2 ▸ Below.refl _ _⟩
theorem rune_n (s : ByteArray) : Utf.rn s = runeN s.data.toList := rfl
theorem size_cons (s : ByteArray) (h : 0 < s.size) : ∃ c r, s.data.toList = c :: r := by
  cases hl : s.data.toList with
  | nil => rw [Lib.size_eq, hl] at h; simp at h
  | cons c r => exact ⟨c, r, rfl⟩
set_option maxRecDepth 100000 in
set_option maxHeartbeats 16000000 in
theorem next_any (s : ByteArray) (T : Nat) (w : World) (hz : s.size ≤ 1000000000) (h0 : 0 < s.size) (hT : TabAt T w) (hE : Env w) :
    Calls Tryz.prog 66 #[.slice (some ⟨T, 0, none⟩) 7 7, .string s] w (NumEnd2 (cut s.data.toList) w) := by
  have HT := Lib.hid hT
  have HE := Lib.hid hE
  obtain ⟨c, r, hl⟩ := size_cons s h0
  obtain ⟨C, hC⟩ : ∃ C, cut s.data.toList = C := ⟨_, rfl⟩
  rw [hC]
  have HC := Lib.hid hC
  have HL := Lib.hid hl
  clear hT hE hl hC
  go_enter Tryz.func66, Tryz.ntmps66
  go_wp2_with fail
  go_loopw [14] (fun i wr => ∃ k : Nat, i = .int .i64 k ∧ k ≤ 7 ∧ Hid (∀ j, j < k → (rowR j s.data.toList).2 = 0) ∧ Hid (Below w.heap.size w wr)) (fun i _ => 7 - (intOf i).toNat)
  case atStart => exact ⟨0, rfl, by omega, Lib.hid (fun j hj => by omega), Lib.hid (Below.refl _ _)⟩
  case round =>
    obtain ⟨k, rfl, hk, HJ, HB⟩ := hrel
    have HTr := Lib.hid (HT.out.below HB.out)
    have HEr := Lib.hid (HE.out.below HB.out HE.out.size)
    by_cases hlt : k < 7
    · obtain ⟨B, hcs, hWB⟩ := HTr.out
      have HW := Lib.hid hWB
      have hcell := cellH hcs
      clear hcs hWB
      have hfin : 0 < (rowR k s.data.toList).2 → C = rowR k s.data.toList := fun hp => by
        rw [← HC.out, HL.out]; rw [HL.out] at hp
        exact cut_at c r k hlt (fun j hj => by rw [← HL.out]; exact HJ.out j hj) hp
      have HF := Lib.hid hfin
      have hstep : (rowR k s.data.toList).2 = 0 → ∀ j, j < k + 1 → (rowR j s.data.toList).2 = 0 := fun hp j hj => by
        rcases Nat.lt_or_ge j k with g | g
        · exact HJ.out j g
        · obtain rfl : j = k := by omega
          exact hp
      have HS := Lib.hid hstep
      clear hfin hstep
      rcases (by omega : k = 0 ∨ k = 1 ∨ k = 2 ∨ k = 3 ∨ k = 4 ∨ k = 5 ∨ k = 6) with rfl | rfl | rfl | rfl | rfl | rfl | rfl
      · have hc : Calls Tryz.prog 83 #[.string s] wr (NumEnd2 (rowR 0 s.data.toList) wr) := row0_any s wr hz
        have hx : wr.cell? ⟨T, 0, none⟩ = (fnT B)[0]? := hcell 0
        replace hx : wr.cell? ⟨T, 0, none⟩ = some (.func (.func 83) #[] #[]) := hx
        clear hcell
        generalize rowR 0 s.data.toList = R at hc HF HS
        obtain ⟨a, b⟩ := R
        by_cases hp : 0 < b
        · have hp2 : (0 : Int) < (b : Int) := by omega
          have HN : Hid (C = (a, b)) := Lib.hid (HF.out hp)
          go_wp2_with (go_at_call 83; refine hc.mono ?_; rintro e w2 ⟨rfl, hb2⟩)
          go_ret2
          exact ⟨by rw [HN.out]; rfl, HB.out.trans (hb2.mono HB.out.size)⟩
        · obtain rfl : b = 0 := by omega
          have HN := Lib.hid (HS.out rfl)
          clear hp HS HF
          go_wp2_with (go_at_call 83; refine hc.mono ?_; rintro e w2 ⟨rfl, hb2⟩)
          go_roundw
          case rel => exact ⟨1, rfl, by omega, HN, Lib.hid (HB.out.trans (hb2.mono HB.out.size))⟩
          case measure => simp [intOf]
      · have hc : Calls Tryz.prog 84 #[.string s] wr (NumEnd2 (rowR 1 s.data.toList) wr) := row1_any s wr hz
        have hx : wr.cell? ⟨T, 1, none⟩ = (fnT B)[1]? := hcell 1
        replace hx : wr.cell? ⟨T, 1, none⟩ = some (.func (.func 84) #[] #[]) := hx
        clear hcell
        generalize rowR 1 s.data.toList = R at hc HF HS
        obtain ⟨a, b⟩ := R
        by_cases hp : 0 < b
        · have hp2 : (0 : Int) < (b : Int) := by omega
          have HN : Hid (C = (a, b)) := Lib.hid (HF.out hp)
          go_wp2_with (go_at_call 84; refine hc.mono ?_; rintro e w2 ⟨rfl, hb2⟩)
          go_ret2
          exact ⟨by rw [HN.out]; rfl, HB.out.trans (hb2.mono HB.out.size)⟩
        · obtain rfl : b = 0 := by omega
          have HN := Lib.hid (HS.out rfl)
          clear hp HS HF
          go_wp2_with (go_at_call 84; refine hc.mono ?_; rintro e w2 ⟨rfl, hb2⟩)
          go_roundw
          case rel => exact ⟨2, rfl, by omega, HN, Lib.hid (HB.out.trans (hb2.mono HB.out.size))⟩
          case measure => simp [intOf]
      · have hc : Calls Tryz.prog 97 #[.string s, .pointer (some ⟨B, 0, none⟩)] wr (NumEnd2 (rowR 2 s.data.toList) wr) := name_any s B wr hz HW.out
        have hx : wr.cell? ⟨T, 2, none⟩ = (fnT B)[2]? := hcell 2
        replace hx : wr.cell? ⟨T, 2, none⟩ = some (.func (.func 97) #[] #[.pointer (some ⟨B, 0, none⟩)]) := hx
        clear hcell
        generalize rowR 2 s.data.toList = R at hc HF HS
        obtain ⟨a, b⟩ := R
        by_cases hp : 0 < b
        · have hp2 : (0 : Int) < (b : Int) := by omega
          have HN : Hid (C = (a, b)) := Lib.hid (HF.out hp)
          go_wp2_with (go_at_call 97; refine hc.mono ?_; rintro e w2 ⟨rfl, hb2⟩)
          go_ret2
          exact ⟨by rw [HN.out]; rfl, HB.out.trans (hb2.mono HB.out.size)⟩
        · obtain rfl : b = 0 := by omega
          have HN := Lib.hid (HS.out rfl)
          clear hp HS HF
          go_wp2_with (go_at_call 97; refine hc.mono ?_; rintro e w2 ⟨rfl, hb2⟩)
          go_roundw
          case rel => exact ⟨3, rfl, by omega, HN, Lib.hid (HB.out.trans (hb2.mono HB.out.size))⟩
          case measure => simp [intOf]
      · have hc : Calls Tryz.prog 87 #[.string s] wr (NumEnd2 (rowR 3 s.data.toList) wr) := number_any s wr hz HEr.out.2.2
        have hx : wr.cell? ⟨T, 3, none⟩ = (fnT B)[3]? := hcell 3
        replace hx : wr.cell? ⟨T, 3, none⟩ = some (.func (.func 87) #[] #[]) := hx
        clear hcell
        generalize rowR 3 s.data.toList = R at hc HF HS
        obtain ⟨a, b⟩ := R
        by_cases hp : 0 < b
        · have hp2 : (0 : Int) < (b : Int) := by omega
          have HN : Hid (C = (a, b)) := Lib.hid (HF.out hp)
          go_wp2_with (go_at_call 87; refine hc.mono ?_; rintro e w2 ⟨rfl, hb2⟩)
          go_ret2
          exact ⟨by rw [HN.out]; rfl, HB.out.trans (hb2.mono HB.out.size)⟩
        · obtain rfl : b = 0 := by omega
          have HN := Lib.hid (HS.out rfl)
          clear hp HS HF
          go_wp2_with (go_at_call 87; refine hc.mono ?_; rintro e w2 ⟨rfl, hb2⟩)
          go_roundw
          case rel => exact ⟨4, rfl, by omega, HN, Lib.hid (HB.out.trans (hb2.mono HB.out.size))⟩
          case measure => simp [intOf]
      · have hc : Calls Tryz.prog 88 #[.string s] wr (NumEnd2 (rowR 4 s.data.toList) wr) := row4_any s wr hz
        have hx : wr.cell? ⟨T, 4, none⟩ = (fnT B)[4]? := hcell 4
        replace hx : wr.cell? ⟨T, 4, none⟩ = some (.func (.func 88) #[] #[]) := hx
        clear hcell
        generalize rowR 4 s.data.toList = R at hc HF HS
        obtain ⟨a, b⟩ := R
        by_cases hp : 0 < b
        · have hp2 : (0 : Int) < (b : Int) := by omega
          have HN : Hid (C = (a, b)) := Lib.hid (HF.out hp)
          go_wp2_with (go_at_call 88; refine hc.mono ?_; rintro e w2 ⟨rfl, hb2⟩)
          go_ret2
          exact ⟨by rw [HN.out]; rfl, HB.out.trans (hb2.mono HB.out.size)⟩
        · obtain rfl : b = 0 := by omega
          have HN := Lib.hid (HS.out rfl)
          clear hp HS HF
          go_wp2_with (go_at_call 88; refine hc.mono ?_; rintro e w2 ⟨rfl, hb2⟩)
          go_roundw
          case rel => exact ⟨5, rfl, by omega, HN, Lib.hid (HB.out.trans (hb2.mono HB.out.size))⟩
          case measure => simp [intOf]
      · have hc : Calls Tryz.prog 89 #[.string s] wr (NumEnd2 (rowR 5 s.data.toList) wr) := row5_any s wr HEr.out.2.1
        have hx : wr.cell? ⟨T, 5, none⟩ = (fnT B)[5]? := hcell 5
        replace hx : wr.cell? ⟨T, 5, none⟩ = some (.func (.func 89) #[] #[]) := hx
        clear hcell
        generalize rowR 5 s.data.toList = R at hc HF HS
        obtain ⟨a, b⟩ := R
        by_cases hp : 0 < b
        · have hp2 : (0 : Int) < (b : Int) := by omega
          have HN : Hid (C = (a, b)) := Lib.hid (HF.out hp)
          go_wp2_with (go_at_call 89; refine hc.mono ?_; rintro e w2 ⟨rfl, hb2⟩)
          go_ret2
          exact ⟨by rw [HN.out]; rfl, HB.out.trans (hb2.mono HB.out.size)⟩
        · obtain rfl : b = 0 := by omega
          have HN := Lib.hid (HS.out rfl)
          clear hp HS HF
          go_wp2_with (go_at_call 89; refine hc.mono ?_; rintro e w2 ⟨rfl, hb2⟩)
          go_roundw
          case rel => exact ⟨6, rfl, by omega, HN, Lib.hid (HB.out.trans (hb2.mono HB.out.size))⟩
          case measure => simp [intOf]
      · have hc : Calls Tryz.prog 90 #[.string s] wr (NumEnd2 (rowR 6 s.data.toList) wr) := row6_any s wr
        have hx : wr.cell? ⟨T, 6, none⟩ = (fnT B)[6]? := hcell 6
        replace hx : wr.cell? ⟨T, 6, none⟩ = some (.func (.func 90) #[] #[]) := hx
        clear hcell
        generalize rowR 6 s.data.toList = R at hc HF HS
        obtain ⟨a, b⟩ := R
        by_cases hp : 0 < b
        · have hp2 : (0 : Int) < (b : Int) := by omega
          have HN : Hid (C = (a, b)) := Lib.hid (HF.out hp)
          go_wp2_with (go_at_call 90; refine hc.mono ?_; rintro e w2 ⟨rfl, hb2⟩)
          go_ret2
          exact ⟨by rw [HN.out]; rfl, HB.out.trans (hb2.mono HB.out.size)⟩
        · obtain rfl : b = 0 := by omega
          have HN := Lib.hid (HS.out rfl)
          clear hp HS HF
          go_wp2_with (go_at_call 90; refine hc.mono ?_; rintro e w2 ⟨rfl, hb2⟩)
          go_roundw
          case rel => exact ⟨7, rfl, by omega, HN, Lib.hid (HB.out.trans (hb2.mono HB.out.size))⟩
          case measure => simp [intOf]
    · obtain rfl : k = 7 := by omega
      have hn : C = (9, runeN s.data.toList) := by rw [← HC.out, HL.out]; exact cut_none c r (fun j hj => by rw [← HL.out]; exact HJ.out j hj)
      have HN := Lib.hid hn
      have hc := Utf.rune_any s wr HEr.out.1
      rw [rune_n] at hc
      generalize runeN s.data.toList = n at *
      clear hn
      go_wp2_with (go_at_call 82; refine hc.mono ?_; rintro e w2 ⟨rfl, hb2⟩)
      go_ret2
      exact ⟨by rw [HN.out]; rfl, HB.out.trans (hb2.mono HB.out.size)⟩
end Go.Proofs.YtingfomfibhnhaaGreatDoor
namespace Go.Proofs.YtingfomfibhnhaaGreatDoor
open Go.RowKit

def tokC (t : Tok) : List Value := [.int .u8 t.1, bl t.2]
/-- A row of tokens in blocks from B on. -/
def ToksAt (B : Nat) (w : World) (v : Value) (E : List Tok) : Prop := w.ownsRow B 25 2 v E.length (E.flatMap tokC)
theorem und26 : Tryz.prog.underlying 51 = some (.slice 25) := by kernel_rfl
theorem info32 : (Tryz.prog.info? 25).map (fun i => (i.zero, i.size, i.bytes)) = some (some (.agg #[.int .u8 0, .string ⟨#[]⟩]), 2, 24) := by kernel_rfl
theorem galloc2 {w0 w : World} {n : Nat} (h : Below n w0 w) (hn : n ≤ w.heap.size) (o : Obj) : Below n w0 (w.alloc o) := Below.alloc h hn o
theorem owns_below {B e size n : Nat} {v : Value} {xs : List Value} {w w' : World} (h : w.ownsRow B e size v n xs) (hb : Below w.heap.size w w') : w'.ownsRow B e size v n xs := by
  obtain ⟨h1, h2⟩ := h
  refine ⟨h1, ?_⟩
  rcases h2 with h2 | ⟨g, cap, cur, h3, h4, h5, h6, h7, h8, h9⟩
  · exact .inl h2
  · exact .inr ⟨g, cap, cur, h3, h4, (hb.block g (Array.getElem?_eq_some_iff.1 h5).1).trans h5, h6, h7, h8, h9⟩
theorem owns_shape {B e size n : Nat} {v : Value} {xs : List Value} {w : World} (h : w.ownsRow B e size v n xs) : ∃ p cap, v = .slice p n cap := by
  rcases h.2 with ⟨rfl, rfl⟩ | ⟨g, cap, cur, rfl, _⟩
  · exact ⟨_, _, rfl⟩
  · exact ⟨_, _, rfl⟩
theorem owns_base {B B' e size n : Nat} {v : Value} {xs : List Value} {w : World} (h : w.ownsRow B e size v n xs) (hB : B' ≤ B) : w.ownsRow B' e size v n xs := by
  obtain ⟨h1, h2⟩ := h
  refine ⟨h1, ?_⟩
  rcases h2 with h2 | ⟨g, cap, cur, h3, h4, h5, h6, h7, h8, h9⟩
  · exact .inl h2
  · exact .inr ⟨g, cap, cur, h3, Nat.le_trans hB h4, h5, h6, h7, h8, h9⟩
theorem ToksAt.below {B : Nat} {v : Value} {E : List Tok} {w w' : World} (h : ToksAt B w v E) (hb : Below w.heap.size w w') : ToksAt B w' v E := owns_below h hb
theorem toks_snoc {EV : List Tok} {X : List UInt8} {E : List Tok} (h : EV = E ++ toks X) (hX : X ≠ []) : EV = (E ++ [((cut X).1, X.take (cut X).2)]) ++ toks (X.drop (cut X).2) := by
  rw [h, toks_cons X hX, List.append_assoc]; rfl
def strLen : Value → Nat
  | .string t => t.size
  | _ => 0
def DivEnd (E : List Tok) (w : World) (e : Ending) (w' : World) : Prop := ∃ v, e = .returned v ∧ ToksAt w.heap.size w' v E ∧ Below w.heap.size w w'
theorem tok_cell {k : Nat} {X : ByteArray} {n : Nat} : ([.int .u8 k, .string (X.extract 0 n)] : List Value) = tokC (k, X.data.toList.take n) := by
  unfold tokC bl
  rw [ba_of (X.extract 0 n) (l := X.data.toList.take n) (by rw [Utf.extract_list, List.drop_zero])]
set_option maxRecDepth 100000 in
set_option maxHeartbeats 8000000 in
theorem divide_any (s : ByteArray) (w : World) (hz : s.size ≤ 1000000) (hE : Env w) : Calls Tryz.prog 53 #[.string s] w (DivEnd (toks s.data.toList) w) := by
  obtain ⟨i32, hi9, hz0, hz1, hz2⟩ := info_parts info32
  obtain ⟨EV, hEV⟩ : ∃ EV, toks s.data.toList = EV := ⟨_, rfl⟩
  have hfew : EV.length ≤ 1000000 := by rw [← hEV]; have := toks_len s.data.toList; rw [← Lib.size_eq] at this; omega
  have H0 : Hid (EV = [] ++ toks s.data.toList) := Lib.hid hEV.symm
  rw [hEV]
  clear hEV
  have HE := Lib.hid hE
  clear hE
  go_enter Tryz.func53, Tryz.ntmps53
  go_wp2_with fail
  refine (rows_any w).mono ?_
  rintro e w1 ⟨T, rfl, hT, hTl, hb1⟩
  have HT := Lib.hid hT
  have HB1 := Lib.hid hb1
  have HE1 := Lib.hid (HE.out.below hb1 HE.out.size)
  clear hT hTl hb1
  go_wp2_with fail
  go_loopw [0, 3] (fun v ov wr => ∃ (X : ByteArray) (E : List Tok), v = .string X ∧ X.size ≤ s.size ∧ Hid (EV = E ++ toks X.data.toList) ∧ Hid (ToksAt w1.heap.size wr ov E) ∧ Hid (Below w1.heap.size w1 wr)) (fun v _ _ => strLen v)
  case atStart => exact ⟨s, [], rfl, Nat.le_refl _, H0, Lib.hid (World.ownsRow_nil _ _ _ _), Lib.hid (Below.refl _ _)⟩
  case round =>
    obtain ⟨X, E, rfl, hX, HV, HO, HB⟩ := hrel
    obtain ⟨po, co, rfl⟩ := owns_shape HO.out
    by_cases h0 : 0 < X.size
    · have e0 := Utf.isEmpty_no h0
      have hne : X.data.toList ≠ [] := by intro x; rw [Lib.size_eq, x] at h0; simp at h0
      have HN := Lib.hid (toks_snoc HV.out hne)
      have hbd := cut_bd X.data.toList hne
      rw [← Lib.size_eq] at hbd
      have HTr := HT.out.below HB.out
      have HEr := HE1.out.below HB.out HE1.out.size
      have hc := next_any X T wr (by omega) h0 HTr HEr
      have HEl : Hid (E.length + 1 ≤ 1000000) := Lib.hid (by have := congrArg List.length HN.out; rw [List.length_append, List.length_append] at this; simp only [List.length_cons, List.length_nil] at this; omega)
      generalize cut X.data.toList = C at hc HN hbd
      obtain ⟨k, n⟩ := C
      have hn0 : 0 < n := hbd.1
      have hnX : n ≤ X.size := hbd.2
      have hnX' : (n : Int) ≤ (X.size : Int) := by omega
      have hn0' : (0 : Int) ≤ (n : Int) := by omega
      have HZ : Hid ((X.extract n X.size).size < X.size) := Lib.hid (by rw [ext_size]; omega)
      have HN2 : Hid (EV = (E ++ [(k, X.data.toList.take n)]) ++ toks (X.extract n X.size).data.toList) := Lib.hid (by rw [ext_list]; exact HN.out)
      clear hbd HN HTr HEr
      go_wp2_with fail
      refine hc.mono ?_
      rintro e wf ⟨rfl, hbf⟩
      have HOf := Lib.hid (HO.out.below hbf)
      have HBf := Lib.hid (HB.out.trans (hbf.mono HB.out.size))
      clear hbf hc
      obtain ⟨wa, hwa⟩ : ∃ wa, wf.alloc (.cells #[.int .u8 k, .string (X.extract 0 n)] 25) = wa := ⟨_, rfl⟩
      have NW : Hid (∀ (j : Nat) u, ([.int .u8 k, .string (X.extract 0 n)] : List Value)[j]? = some u → wa.cell? ((⟨wf.heap.size, 0, none⟩ : Addr).add j) = some u) := Lib.hid (by rw [← hwa]; exact World.news_of_block (heap_alloc_new wf _))
      have ba : Below wf.heap.size wf wa := by rw [← hwa]; exact galloc2 (Below.refl _ _) (Nat.le_refl _) _
      have OW : Hid (wa.ownsRow w1.heap.size 25 2 _ E.length (E.flatMap tokC)) := Lib.hid (owns_below HOf.out ba)
      have BA : Hid (Below w1.heap.size w1 wa) := Lib.hid (HBf.out.trans (ba.mono HBf.out.size))
      clear ba
      subst hwa
      go_wp2_with (at_builtin; refine wpList_append_own _ rfl _ _ 51 rfl w1.heap.size 25 i32 (.agg #[.int .u8 0, .string ⟨#[]⟩]) 2 24 und26 hi9 hz0 hz1 hz2 rfl (by decide) _ _ _ rfl OW.out ⟨wf.heap.size, 0, none⟩ 1 1 [.int .u8 k, .string (X.extract 0 n)] rfl rfl NW.out (by simp [Value.oneCell']) ?c3 ?c4 ?c5 ?_)
      case c3 => have := HEl.out; unfold maxLen; omega
      case c4 => have := HEl.out; omega
      case c5 => first | exact BA.out.size | (have := BA.out.size; simpa using this)
      intro v' w2 hown hgrow _
      have O1 : Hid (ToksAt w1.heap.size w2 v' (E ++ [(k, X.data.toList.take n)])) := Lib.hid (by
        unfold ToksAt; rw [List.length_append, List.flatMap_append]
        rw [tok_cell] at hown
        exact hown)
      have B1 : Hid (Below w1.heap.size w1 w2) := Lib.hid (BA.out.grown hgrow BA.out.size (fun k h => (OW.out.lt k h).1))
      clear hown hgrow
      go_wp2_with fail
      go_roundw
      case rel => exact ⟨X.extract n X.size, E ++ [(k, X.data.toList.take n)], rfl, by have := HZ.out; omega, HN2, O1, B1⟩
      case measure => exact HZ.out
    · have h0' : X.size = 0 := by omega
      have e0 := Utf.isEmpty_yes h0'
      have hne : X.data.toList = [] := List.length_eq_zero_iff.1 (by rw [← Lib.size_eq]; exact h0')
      have HR : Hid (EV = E) := Lib.hid (by rw [HV.out, hne, toks_nil, List.append_nil])
      clear h0 h0' hne
      go_wp2_with fail
      go_ret
      exact ⟨_, rfl, by rw [HR.out]; exact owns_base HO.out HB1.out.size, HB1.out.trans (HB.out.mono HB1.out.size)⟩
end Go.Proofs.YtingfomfibhnhaaGreatDoor
