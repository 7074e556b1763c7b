/-
  words: the map of what is written like a name; nameBut and its closure.
-/
import Derived.Test.YtfedmhccbfhcbaaGreatDoorG
import Derived.Maps.OwnSet
import Derived.StringKeys
namespace Go.Proofs.YtfedmhccbfhcbaaGreatDoor
open Go.RowKit Go.Maps Go.WideMaps

theorem und71 : Tryz.prog.underlying 97 = some (.map 9 5) := by kernel_rfl
theorem und9 : Tryz.prog.underlying 9 = some .string := by kernel_rfl
theorem und5 : Tryz.prog.underlying 5 = some (.int .u8) := by kernel_rfl
theorem law9 : Keyed Tryz.prog 9 := string_keyed und9
theorem zero5 (w : World) : (zeroValue 5).run Tryz.prog w = .ok (.int .u8 0) w := by kernel_rfl
theorem wpList_insert_own {H : Type} {P : Program} (w : World) {ops : Array Oper} {rest : List Oper} {o : Oper} {a : Act} {Q : Exit → Act → World → Prop}
    (hg : o.guard = none) (m x v : Operand) (t : TypeId) (hop : o.op = Op.insert t m x v) (k e : TypeId) (K : Keyed P k) (ht : P.underlying t = some (.map k e)) (R : Value → Option (DataW H × List MemPlace)) (b n : Nat) (D : DataW H)
    (hm : a.eval m = .map (some b)) (hown : w.ownsMap P k R b n D) (hn : n < maxLen) (key val : Value) (kl : Lit) (hx : a.eval x = key) (hv : a.eval v = val) (hkey : keyOf P k key = some kl) (d : DataW H) (ps : List MemPlace) (hval : R val = some (d, ps))
    (hK : ∀ w', w'.ownsMap P k R b (n + 1) (D.put kl d) → w.grownBy w' (some b) → wpList P ops Q rest (a.put o.dst undef) w') : wpList P ops Q (o :: rest) a w := by
  obtain ⟨w', hrun, r1, r2⟩ := hown.update K ht hn hkey hval
  refine wpList_plain hg fun K' hK' => ?_
  unfold Oper.wp
  simp [execOp, hop, hm, hx, hv, hrun, Result.andThen]
  exact hK' _ _ (hK w' r1 r2)
def bl (l : List UInt8) : Value := .string ⟨l.toArray⟩
theorem key_bl (l : List UInt8) (h : l.length ≤ 1000000000) : keyOf Tryz.prog 9 (bl l) = some (.string l) := by
  have := keyOf_string_mk (P := Tryz.prog) (k := 9) und9 (s := ⟨l.toArray⟩) (by unfold maxLen; rw [Lib.size_eq]; simp; omega)
  simpa [bl] using this
theorem key_text (t : List UInt8) : WideAt.IsKeyLit (Lit.string t) := by simp [WideAt.IsKeyLit]
def wkL : List (List UInt8) := [95] :: wordsL
def wv (i : Nat) : Int := if i = 0 then 8 else 3
def wd : Nat → DataW Unit
  | 0 => .map []
  | i + 1 => (wd i).put (.string (wkL.getD i [])) (.lit (.int .u8 (wv i)))
theorem wd_map : ∀ i, IsMap (wd i)
  | 0 => isMap_empty
  | i + 1 => (wd_map i).put _ _
theorem wd_miss : ∀ (i : Nat) (t : List UInt8), (∀ j, j < i → wkL.getD j [] ≠ t) → has (wd i) (.string t) = false
  | 0, t, _ => rfl
  | i + 1, t, h => by
    show has ((wd i).put _ _) _ = false
    rw [has_put_other (by intro e; injection e with e; exact h i (by omega) e.symm)]
    exact wd_miss i t (fun j hj => h j (by omega))
theorem wd_hit : ∀ (i k : Nat) (t : List UInt8) (z : DataW Unit), k < i → (∀ j, j < i → k < j → wkL.getD j [] ≠ t) → wkL.getD k [] = t → has (wd i) (.string t) = true ∧ (wd i).atKey (.string t) z = .lit (.int .u8 (wv k))
  | 0, k, t, z, hk, _, _ => by omega
  | i + 1, k, t, z, hk, h, e => by
    by_cases g : i = k
    · subst g
      show has ((wd i).put _ _) _ = true ∧ ((wd i).put _ _).atKey _ z = _
      rw [e, has_put_same (wd_map i) (key_text t), atKey_put_same (wd_map i) (key_text t)]
      exact ⟨rfl, rfl⟩
    · have hne : Lit.string t ≠ Lit.string (wkL.getD i []) := by intro x; injection x with x; exact h i (by omega) (by omega) x.symm
      show has ((wd i).put _ _) _ = true ∧ ((wd i).put _ _).atKey _ z = _
      rw [has_put_other hne, atKey_put_other hne]
      exact wd_hit i k t z (by omega) (fun j hj hkj => h j (by omega) hkj) e
theorem wk_apart0 : ∀ i, i < 13 → ∀ j, j < 13 → wkL.getD i [] = wkL.getD j [] → i = j := by decide +kernel
theorem wk_apart (i j : Nat) (hi : i < 13) (hj : j < 13) (h : wkL.getD i [] = wkL.getD j []) : i = j := wk_apart0 i hi j hj h
/-- What stands in the map for a text. -/
theorem wd_of (t : List UInt8) (z : DataW Unit) : (has (wd 13) (.string t) = true ∧ (wd 13).atKey (.string t) z = .lit (.int .u8 (nameK t))) ∨ (has (wd 13) (.string t) = false ∧ nameK t = 4) := by
  by_cases h : ∃ k, k < 13 ∧ wkL.getD k [] = t
  · obtain ⟨k, hk, e⟩ := h
    have := wd_hit 13 k t z hk (fun j hj hkj e2 => by
      have := wk_apart j k hj hk (e2.trans e.symm); omega) e
    refine .inl ⟨this.1, this.2.trans ?_⟩
    congr 2
    by_cases g : k = 0
    · subst g; rw [← e]; rfl
    · have hne : t ≠ [95] := fun x => g (wk_apart k 0 hk (by omega) (e.trans x))
      have hmem : wordsL.contains t = true := by
        rw [List.contains_iff_mem, ← e]
        have : k = (k - 1) + 1 := by omega
        rw [this]
        show wordsL.getD (k - 1) [] ∈ wordsL
        rw [List.getD_eq_getElem?_getD, List.getElem?_eq_getElem (show k - 1 < wordsL.length by show k - 1 < 12; omega)]
        exact List.getElem_mem _
      unfold nameK wv
      rw [if_neg hne, if_pos hmem, if_neg g]; rfl
  · refine .inr ⟨wd_miss 13 t (fun j hj e => h ⟨j, hj, e⟩), ?_⟩
    unfold nameK
    rw [if_neg (fun e => h ⟨0, by omega, e.symm⟩), if_neg]
    intro hc
    obtain ⟨k, hk, e⟩ := List.getElem_of_mem (List.contains_iff_mem.1 hc)
    refine h ⟨k + 1, by have : k < 12 := hk; omega, ?_⟩
    show wordsL.getD k [] = t
    rw [List.getD_eq_getElem?_getD, List.getElem?_eq_getElem hk]; exact e
def MapOf (M n : Nat) (w : World) : Prop := w.ownsMap Tryz.prog 9 (plainElem (H := Unit) Tryz.prog 5) M n (wd n)
theorem MapOf.below {M n B : Nat} {w w' : World} (h : MapOf M n w) (hb : Below B w w') (hM : M < B) : MapOf M n w' := by
  obtain ⟨es, clock, h1, h2⟩ := h
  exact ⟨es, clock, (hb.block M hM).trans h1, h2⟩
theorem MapOf.lt {M n : Nat} {w : World} (h : MapOf M n w) : M < w.heap.size := by
  obtain ⟨es, clock, h1, h2⟩ := h
  exact (Array.getElem?_eq_some_iff.1 h1).1
theorem map_made (w : World) : MapOf w.heap.size 0 (w.alloc (.map #[] 0)) := World.ownsMap_made _ _ _ _
def WordsEnd (w : World) (e : Ending) (w' : World) : Prop := ∃ M, e = .returned (.map (some M)) ∧ MapOf M 13 w' ∧ Below w.heap.size w w'
theorem below_grown {n M : Nat} {w0 w w' : World} (h : Below n w0 w) (hM : n ≤ M) (hn : n ≤ w.heap.size) (hg : w.grownBy w' (some M)) : Below n w0 w' :=
  h.grown hg hn (fun k hk => by injection hk with hk; omega)
set_option maxRecDepth 100000 in
set_option maxHeartbeats 8000000 in
theorem words_any (w : World) : Calls Tryz.prog 56 #[] w (WordsEnd w) := by
  have hmm := @run_makeMap Tryz.prog
  have h0 := Lib.hid (map_made w)
  have b0 : Below w.heap.size w (w.alloc (.map #[] 0)) := Below.alloc (Below.refl _ _) (Nat.le_refl _) _
  have B0 := Lib.hid b0
  clear b0
  obtain ⟨v0, hv0⟩ : ∃ v0, w.alloc (.map #[] 0) = v0 := ⟨_, rfl⟩
  rw [hv0] at h0 B0
  obtain ⟨M, hM⟩ : ∃ M, w.heap.size = M := ⟨_, rfl⟩
  rw [hM] at h0 B0
  have HM := Lib.hid (Nat.le_of_eq hM)
  go_enter Tryz.func56, Tryz.ntmps56
  go_wp2_with (first
    | (refine wpList_insert_own _ rfl _ _ _ 97 rfl 9 5 law9 und71 (plainElem (H := Unit) Tryz.prog 5) M 0 (wd 0) rfl h0.out (by unfold maxLen; omega) (bl [95]) (.int .u8 8) (.string [95]) rfl rfl (key_bl _ (by decide)) (.lit (.int .u8 8)) [] (plainElem_int und5 (by decide)) ?_; intro v1 k1 g1; have h1 : Hid (MapOf M 1 v1) := Lib.hid k1; have B1 := Lib.hid (below_grown B0.out (Nat.le_refl M) (by have := B0.out.size; have := HM.out; omega) g1); clear k1 g1 h0 B0)
    | (refine wpList_insert_own _ rfl _ _ _ 97 rfl 9 5 law9 und71 (plainElem (H := Unit) Tryz.prog 5) M 1 (wd 1) rfl h1.out (by unfold maxLen; omega) (bl [108, 101, 116]) (.int .u8 3) (.string [108, 101, 116]) rfl rfl (key_bl _ (by decide)) (.lit (.int .u8 3)) [] (plainElem_int und5 (by decide)) ?_; intro v2 k2 g2; have h2 : Hid (MapOf M 2 v2) := Lib.hid k2; have B2 := Lib.hid (below_grown B1.out (Nat.le_refl M) (by have := B1.out.size; have := HM.out; omega) g2); clear k2 g2 h1 B1)
    | (refine wpList_insert_own _ rfl _ _ _ 97 rfl 9 5 law9 und71 (plainElem (H := Unit) Tryz.prog 5) M 2 (wd 2) rfl h2.out (by unfold maxLen; omega) (bl [114, 101, 99]) (.int .u8 3) (.string [114, 101, 99]) rfl rfl (key_bl _ (by decide)) (.lit (.int .u8 3)) [] (plainElem_int und5 (by decide)) ?_; intro v3 k3 g3; have h3 : Hid (MapOf M 3 v3) := Lib.hid k3; have B3 := Lib.hid (below_grown B2.out (Nat.le_refl M) (by have := B2.out.size; have := HM.out; omega) g3); clear k3 g3 h2 B2)
    | (refine wpList_insert_own _ rfl _ _ _ 97 rfl 9 5 law9 und71 (plainElem (H := Unit) Tryz.prog 5) M 3 (wd 3) rfl h3.out (by unfold maxLen; omega) (bl [105, 110]) (.int .u8 3) (.string [105, 110]) rfl rfl (key_bl _ (by decide)) (.lit (.int .u8 3)) [] (plainElem_int und5 (by decide)) ?_; intro v4 k4 g4; have h4 : Hid (MapOf M 4 v4) := Lib.hid k4; have B4 := Lib.hid (below_grown B3.out (Nat.le_refl M) (by have := B3.out.size; have := HM.out; omega) g4); clear k4 g4 h3 B3)
    | (refine wpList_insert_own _ rfl _ _ _ 97 rfl 9 5 law9 und71 (plainElem (H := Unit) Tryz.prog 5) M 4 (wd 4) rfl h4.out (by unfold maxLen; omega) (bl [102, 117, 110]) (.int .u8 3) (.string [102, 117, 110]) rfl rfl (key_bl _ (by decide)) (.lit (.int .u8 3)) [] (plainElem_int und5 (by decide)) ?_; intro v5 k5 g5; have h5 : Hid (MapOf M 5 v5) := Lib.hid k5; have B5 := Lib.hid (below_grown B4.out (Nat.le_refl M) (by have := B4.out.size; have := HM.out; omega) g5); clear k5 g5 h4 B4)
    | (refine wpList_insert_own _ rfl _ _ _ 97 rfl 9 5 law9 und71 (plainElem (H := Unit) Tryz.prog 5) M 5 (wd 5) rfl h5.out (by unfold maxLen; omega) (bl [105, 102]) (.int .u8 3) (.string [105, 102]) rfl rfl (key_bl _ (by decide)) (.lit (.int .u8 3)) [] (plainElem_int und5 (by decide)) ?_; intro v6 k6 g6; have h6 : Hid (MapOf M 6 v6) := Lib.hid k6; have B6 := Lib.hid (below_grown B5.out (Nat.le_refl M) (by have := B5.out.size; have := HM.out; omega) g6); clear k6 g6 h5 B5)
    | (refine wpList_insert_own _ rfl _ _ _ 97 rfl 9 5 law9 und71 (plainElem (H := Unit) Tryz.prog 5) M 6 (wd 6) rfl h6.out (by unfold maxLen; omega) (bl [116, 104, 101, 110]) (.int .u8 3) (.string [116, 104, 101, 110]) rfl rfl (key_bl _ (by decide)) (.lit (.int .u8 3)) [] (plainElem_int und5 (by decide)) ?_; intro v7 k7 g7; have h7 : Hid (MapOf M 7 v7) := Lib.hid k7; have B7 := Lib.hid (below_grown B6.out (Nat.le_refl M) (by have := B6.out.size; have := HM.out; omega) g7); clear k7 g7 h6 B6)
    | (refine wpList_insert_own _ rfl _ _ _ 97 rfl 9 5 law9 und71 (plainElem (H := Unit) Tryz.prog 5) M 7 (wd 7) rfl h7.out (by unfold maxLen; omega) (bl [101, 108, 115, 101]) (.int .u8 3) (.string [101, 108, 115, 101]) rfl rfl (key_bl _ (by decide)) (.lit (.int .u8 3)) [] (plainElem_int und5 (by decide)) ?_; intro v8 k8 g8; have h8 : Hid (MapOf M 8 v8) := Lib.hid k8; have B8 := Lib.hid (below_grown B7.out (Nat.le_refl M) (by have := B7.out.size; have := HM.out; omega) g8); clear k8 g8 h7 B7)
    | (refine wpList_insert_own _ rfl _ _ _ 97 rfl 9 5 law9 und71 (plainElem (H := Unit) Tryz.prog 5) M 8 (wd 8) rfl h8.out (by unfold maxLen; omega) (bl [109, 97, 116, 99, 104]) (.int .u8 3) (.string [109, 97, 116, 99, 104]) rfl rfl (key_bl _ (by decide)) (.lit (.int .u8 3)) [] (plainElem_int und5 (by decide)) ?_; intro v9 k9 g9; have h9 : Hid (MapOf M 9 v9) := Lib.hid k9; have B9 := Lib.hid (below_grown B8.out (Nat.le_refl M) (by have := B8.out.size; have := HM.out; omega) g9); clear k9 g9 h8 B8)
    | (refine wpList_insert_own _ rfl _ _ _ 97 rfl 9 5 law9 und71 (plainElem (H := Unit) Tryz.prog 5) M 9 (wd 9) rfl h9.out (by unfold maxLen; omega) (bl [119, 105, 116, 104]) (.int .u8 3) (.string [119, 105, 116, 104]) rfl rfl (key_bl _ (by decide)) (.lit (.int .u8 3)) [] (plainElem_int und5 (by decide)) ?_; intro v10 k10 g10; have h10 : Hid (MapOf M 10 v10) := Lib.hid k10; have B10 := Lib.hid (below_grown B9.out (Nat.le_refl M) (by have := B9.out.size; have := HM.out; omega) g10); clear k10 g10 h9 B9)
    | (refine wpList_insert_own _ rfl _ _ _ 97 rfl 9 5 law9 und71 (plainElem (H := Unit) Tryz.prog 5) M 10 (wd 10) rfl h10.out (by unfold maxLen; omega) (bl [116, 114, 117, 101]) (.int .u8 3) (.string [116, 114, 117, 101]) rfl rfl (key_bl _ (by decide)) (.lit (.int .u8 3)) [] (plainElem_int und5 (by decide)) ?_; intro v11 k11 g11; have h11 : Hid (MapOf M 11 v11) := Lib.hid k11; have B11 := Lib.hid (below_grown B10.out (Nat.le_refl M) (by have := B10.out.size; have := HM.out; omega) g11); clear k11 g11 h10 B10)
    | (refine wpList_insert_own _ rfl _ _ _ 97 rfl 9 5 law9 und71 (plainElem (H := Unit) Tryz.prog 5) M 11 (wd 11) rfl h11.out (by unfold maxLen; omega) (bl [102, 97, 108, 115, 101]) (.int .u8 3) (.string [102, 97, 108, 115, 101]) rfl rfl (key_bl _ (by decide)) (.lit (.int .u8 3)) [] (plainElem_int und5 (by decide)) ?_; intro v12 k12 g12; have h12 : Hid (MapOf M 12 v12) := Lib.hid k12; have B12 := Lib.hid (below_grown B11.out (Nat.le_refl M) (by have := B11.out.size; have := HM.out; omega) g12); clear k12 g12 h11 B11)
    | (refine wpList_insert_own _ rfl _ _ _ 97 rfl 9 5 law9 und71 (plainElem (H := Unit) Tryz.prog 5) M 12 (wd 12) rfl h12.out (by unfold maxLen; omega) (bl [109, 111, 100]) (.int .u8 3) (.string [109, 111, 100]) rfl rfl (key_bl _ (by decide)) (.lit (.int .u8 3)) [] (plainElem_int und5 (by decide)) ?_; intro v13 k13 g13; have h13 : Hid (MapOf M 13 v13) := Lib.hid k13; have B13 := Lib.hid (below_grown B12.out (Nat.le_refl M) (by have := B12.out.size; have := HM.out; omega) g13); clear k13 g13 h12 B12))
  go_ret
  exact ⟨M, rfl, h13.out, hM ▸ B13.out⟩
end Go.Proofs.YtfedmhccbfhcbaaGreatDoor
