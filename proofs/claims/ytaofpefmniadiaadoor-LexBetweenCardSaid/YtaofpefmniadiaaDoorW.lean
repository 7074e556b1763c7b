/-
  LexBetween: the walk of the law.
-/
import Derived.Test.YtaofpefmniadiaaDoorV
import Derived.Test.YtaofpefmniadiaaDoorU
import Derived.Maps.AppendAt
namespace Go.Proofs.YtaofpefmniadiaaDoor
open Go.RowKit

/-- A row of texts. -/
def LStr (w : World) (v : Value) (l : List ByteArray) : Prop :=
  ((∃ p cap, v = .slice p 0 cap) ∧ l = []) ∨ ∃ g o cap, v = .slice (some ⟨g, o, none⟩) l.length cap ∧ ∀ (i : Nat) X, l[i]? = some X → w.cell? ⟨g, o + i, none⟩ = some (.string X)
theorem LStr.below {w w' : World} {v : Value} {l : List ByteArray} (h : LStr w v l) (hb : Below w.heap.size w w') : LStr w' v l := by
  rcases h with h | ⟨g, o, cap, h1, h2⟩
  · exact .inl h
  · exact .inr ⟨g, o, cap, h1, fun i X hX => (hb.cell (p := ⟨g, o + i, none⟩) (lt_of_cell (h2 i X hX))).trans (h2 i X hX)⟩
theorem LStr.shape {w : World} {v : Value} {l : List ByteArray} (h : LStr w v l) : ∃ p cap, v = .slice p l.length cap := by
  rcases h with ⟨⟨p, cap, rfl⟩, rfl⟩ | ⟨g, o, cap, h1, _⟩
  · exact ⟨p, cap, rfl⟩
  · exact ⟨_, cap, h1⟩
theorem LStr.at {w : World} {p : Option Addr} {n cap : Nat} {l : List ByteArray} (h : LStr w (.slice p n cap) l) {i : Nat} {X : ByteArray} (hX : l[i]? = some X) : ∃ g o, p = some ⟨g, o, none⟩ ∧ w.cell? ⟨g, o + i, none⟩ = some (.string X) := by
  rcases h with ⟨_, rfl⟩ | ⟨g, o, c, h1, h2⟩
  · simp at hX
  · injection h1 with h3 _ _
    exact ⟨g, o, h3, h2 i X hX⟩
def OneEnd3 (c : Nat) (Q : ByteArray) (k : Int) (w : World) (e : Ending) (w' : World) : Prop := e = .returned (.tuple #[.agg #[.int .u8 c, .string Q], .int .i64 k]) ∧ Below w.heap.size w w'
theorem one_bad (X : ByteArray) (w : World) (hz : X.size ≤ 1000000) (hE : Env w) (h : oneE X.data.toList ≠ 0) : Calls Tryd.prog 11 #[.string X] w (OneEnd3 0 ⟨#[]⟩ (oneE X.data.toList) w) := by
  refine (one_tok_any X w hz hE).mono ?_
  rintro e w' ⟨h3, h4⟩
  refine ⟨?_, h4⟩
  rw [h3, show oneT X.data.toList = (0, []) by unfold oneT; rw [if_neg h]]; rfl
theorem one_good (X : ByteArray) (w : World) (hz : X.size ≤ 1000000) (hE : Env w) (h : oneE X.data.toList = 0) : Calls Tryd.prog 11 #[.string X] w (OneEnd3 (oneT X.data.toList).1 X 0 w) := by
  refine (one_tok_any X w hz hE).mono ?_
  rintro e w' ⟨h3, h4⟩
  refine ⟨?_, h4⟩
  rw [h3, h]
  unfold tokA bl; rw [(one_of h).1, ← ba_of X rfl]
theorem goods_snoc {TS : List Tok} {t : Tok} (h : ∀ t ∈ TS, GoodT t ∧ t.2.length ≤ 300) (ht : GoodT t ∧ t.2.length ≤ 300) : ∀ u ∈ TS ++ [t], GoodT u ∧ u.2.length ≤ 300 := by
  intro u hu
  rw [List.mem_append, List.mem_singleton] at hu
  rcases hu with hu | rfl
  · exact h u hu
  · exact ht
theorem tok_cell2 {k : Nat} {X : ByteArray} : ([.int .u8 k, .string X] : List Value) = tokC (k, X.data.toList) := by
  unfold tokC bl
  rw [← ba_of X rfl]
theorem toks_put {B : Nat} {w : World} {v : Value} {E : List Tok} {c : Nat} {X : ByteArray} (h : w.ownsRow B 32 2 v (E.length + 1) (E.flatMap tokC ++ [.int .u8 c, .string X])) : ToksAt B w v (E ++ [(c, X.data.toList)]) := by
  unfold ToksAt
  rw [List.length_append, List.flatMap_append]
  have e : [(c, X.data.toList)].flatMap tokC = [.int .u8 c, .string X] := by
    rw [tok_cell2]; simp
  rw [e]; exact h
theorem toks_put0 {B : Nat} {w : World} {v : Value} {TS : List Tok} {c : Nat} {X : ByteArray} (hTS : TS = []) (h : w.ownsRow B 32 2 v ((interT TS).length + 1) ((interT TS).flatMap tokC ++ [.int .u8 c, .string X])) : ToksAt B w v (interT (TS ++ [(c, X.data.toList)])) := by
  subst hTS; exact toks_put (E := []) h
theorem inter_pos {l : List Tok} (h : l ≠ []) : 0 < (interT l).length := by
  match l, h with
  | [a], _ => exact Nat.one_pos
  | a :: b :: r, _ => exact Nat.succ_pos _
set_option maxRecDepth 100000 in
set_option maxHeartbeats 64000000 in
theorem between_walk (v0 : Value) (l : List ByteArray) (w : World) (hE : Env w) (hl : LStr w v0 l) (hz : l.length ≤ 9223372036854775807) : Calls Tryd.prog 6 #[v0] w (WorksEnd w) := by
  obtain ⟨pl, cl, rfl⟩ := hl.shape
  have HE := Lib.hid hE
  have HL := Lib.hid hl
  clear hE hl
  by_cases h6 : 60 < l.length
  · have h6' : (60 : Int) < (l.length : Int) := by omega
    go_enter Tryd.func6, Tryd.ntmps6
    go_wp2_with fail
    refine (works_any w HE.out).mono ?_
    rintro e w1 ⟨rfl, hb1⟩
    have HB1 := Lib.hid hb1
    clear hb1
    go_wp2_with fail
    refine (works_any w1 (HE.out.below HB1.out HE.out.size)).mono ?_
    rintro e w2 ⟨rfl, hb2⟩
    have HB2 := Lib.hid (HB1.out.trans (hb2.mono HB1.out.size))
    clear hb2
    go_wp2_with fail
    go_ret
    exact ⟨rfl, HB2.out⟩
  · have h6' : ¬ (60 : Int) < (l.length : Int) := by omega
    obtain ⟨i32, hi9, hz0, hz1, hz2⟩ := info_parts info32
    go_enter Tryd.func6, Tryd.ntmps6
    go_wp2_with fail
    refine (works_any w HE.out).mono ?_
    rintro e w1 ⟨rfl, hb1⟩
    have HB1 := Lib.hid hb1
    have HL1 := Lib.hid (HL.out.below hb1)
    have HE1 := Lib.hid (HE.out.below hb1 HE.out.size)
    clear hb1
    go_wp2_with fail
    go_loopw [3, 4, 5, 6, 7] (fun v sv i _ _ wr => ∃ (TS : List Tok) (S : ByteArray) (k : Nat), sv = .string S ∧ i = .int .i64 k ∧ k ≤ l.length ∧ TS.length ≤ k ∧ Hid (∀ t ∈ TS, GoodT t ∧ t.2.length ≤ 300) ∧ Hid (S.data.toList = interS TS) ∧ Hid (ToksAt w1.heap.size wr v (interT TS)) ∧ Hid (Below w1.heap.size w1 wr)) (fun _ _ i _ _ _ => l.length - (intOf i).toNat)
    case atStart => exact ⟨[], ⟨#[]⟩, 0, rfl, rfl, Nat.zero_le _, Nat.le_refl _, Lib.hid (by intro t ht; cases ht), Lib.hid rfl, Lib.hid (World.ownsRow_nil _ _ _ _), Lib.hid (Below.refl _ _)⟩
    case round =>
      obtain ⟨TS, S, k, rfl, rfl, hk, hTk, HG, HS, HT, HB⟩ := hrel
      obtain ⟨po, co, rfl⟩ := owns_shape HT.out
      have hTl := inter_len TS (fun t ht => (HG.out t ht).2)
      have hSz : S.size ≤ 20000 := by rw [Lib.size_eq, HS.out]; omega
      have hIz : (interT TS).length ≤ 120 := by omega
      clear hTl
      by_cases hlt : k < l.length
      · have hlt' : (k : Int) < (l.length : Int) := by omega
        have hX := List.getElem?_eq_getElem hlt
        obtain ⟨g, o, rfl, hcell⟩ := (HL1.out.below HB.out).at hX
        generalize l[k] = X at *
        clear hX
        have w2' : IntKind.i64.wrap ((k : Int) + 1) = ((k + 1 : Nat) : Int) := by rw [IntWalk.i64_in _ (by omega)]; omega
        by_cases h3 : 300 < X.size
        · have h3' : (300 : Int) < (X.size : Int) := by omega
          have HBe := Lib.hid (HB1.out.trans (HB.out.mono HB1.out.size))
          go_wp2_with fail
          go_ret
          exact ⟨rfl, HBe.out⟩
        · have h3' : ¬ (300 : Int) < (X.size : Int) := by omega
          have HEr := Lib.hid (HE1.out.below HB.out HE1.out.size)
          by_cases h0 : oneE X.data.toList = 0
          · have hc := one_good X wr (by omega) HEr.out h0
            have hg := good_of h0
            have hk9 := one_kind h0
            have hop := opens_two (x := X.data.toList)
            have hxl : X.data.toList.length = X.size := (Lib.size_eq X).symm
            have hx2 : (X.extract 0 2).data.toList = X.data.toList.take 2 := by rw [Utf.extract_list, List.drop_zero]
            generalize (oneT X.data.toList).1 = c at *
            rw [hxl, ← hx2] at hop
            have HROW : Hid (∀ b, (Value.slice po (interT TS).length co).ownBlock = some b → b < wr.heap.size) := Lib.hid (fun b h => (HT.out.lt b h).2)
            go_wp2_with fail
            refine hc.mono ?_
            rintro e w4 ⟨rfl, hb4⟩
            have hbox := heap_alloc_new w4 (.cells #[.int .u8 c, .string X] 32)
            have hba : Below w4.heap.size w4 (w4.alloc (.cells #[.int .u8 c, .string X] 32)) := galloc2 (Below.refl _ _) (Nat.le_refl _) _
            have HT5 := Lib.hid ((HT.out.below hb4).below hba)
            have HB5 := Lib.hid ((HB.out.trans (hb4.mono HB.out.size)).trans (hba.mono (by have := HB.out.size; have := hb4.size; omega)))
            have h4s := hb4.size
            clear hb4 hba hc
            generalize hv5 : w4.alloc (.cells #[.int .u8 c, .string X] 32) = w5 at *
            have y0 : w5.cell? ⟨w4.heap.size, 0, none⟩ = some (.int .u8 c) := by rw [cellH hbox]; rfl
            have y1 : w5.cell? ⟨w4.heap.size, 1, none⟩ = some (.string X) := by rw [cellH hbox]; rfl
            have HBX := Lib.hid hbox
            clear hbox
            by_cases c1 : c = 1
            · have q1 : ((c : Int) == 1) = true := by rw [c1]; rfl
              clear c1 hg hop hk9
              go_wp2_with fail
              go_roundw
              case rel => exact ⟨TS, S, k + 1, rfl, rfl, by omega, by omega, HG, HS, HT5, HB5⟩
              case measure => simp [intOf]; omega
            · have q1 : ((c : Int) == 1) = false := beq_eq_false_iff_ne.2 (by omega)
              by_cases c9 : c = 9 ∧ opens X.data.toList = true
              · have q9 : ((c : Int) == 9) = true := by rw [c9.1]; rfl
                rw [c9.2] at hop
                have hop' := hop.symm
                rw [Bool.and_eq_true, decide_eq_true_eq, beq_iff_eq] at hop'
                have hs1 : (1 : Int) < (X.size : Int) := by omega
                have hs2 : (2 : Int) ≤ (X.size : Int) := by omega
                have hxx : X.extract 0 2 = ⟨#[40, 42]⟩ := Utf.ba_ext (by rw [hop'.2])
                clear c1 hg hop hk9 c9 hop' hx2
                go_wp2_with fail
                go_roundw
                case rel => exact ⟨TS, S, k + 1, rfl, rfl, by omega, by omega, HG, HS, HT5, HB5⟩
                case measure => simp [intOf]; omega
              · have HGT : Hid (GoodT (c, X.data.toList) ∧ X.data.toList.length ≤ 300) := Lib.hid ⟨hg c1 c9, by rw [hxl]; omega⟩
                clear hg
                have hways : (((c : Int) == 9) = false) ∨ (((c : Int) == 9) = true ∧ ¬ (1 : Int) < (X.size : Int)) ∨ (((c : Int) == 9) = true ∧ (1 : Int) < (X.size : Int) ∧ (2 : Int) ≤ (X.size : Int) ∧ ((X.extract 0 2).toList == [40, 42]) = false) := by
                  by_cases h9 : c = 9
                  · have q9 : ((c : Int) == 9) = true := by rw [h9]; rfl
                    refine .inr ?_
                    by_cases hs : 1 < X.size
                    · refine .inr ⟨q9, by omega, by omega, ?_⟩
                      have hf : opens X.data.toList = false := by
                        apply Classical.byContradiction; intro x; exact c9 ⟨h9, by simpa using x⟩
                      rw [hf, decide_eq_true hs, Bool.true_and] at hop
                      rw [Lib.toList_data]
                      exact hop.symm
                    · exact .inl ⟨q9, by omega⟩
                  · exact .inl (beq_eq_false_iff_ne.2 (by omega))
                clear c1 hop hk9 c9 hx2 hxl
                rcases hways with q9 | ⟨q9, hs1⟩ | ⟨q9, hs1, hs2, hxx⟩
                · by_cases hTS : TS = []
                  · have hl0 : ¬ (0 : Int) < ((interT TS).length : Int) := by rw [hTS]; exact (by decide : ¬ (0 : Int) < ((0 : Nat) : Int))
                    have HTSe := Lib.hid hTS
                    clear hTS
                    have hs1 : ¬ 9223372036854775807 < S.size + X.size := by omega
                    obtain ⟨wb, hwb⟩ : ∃ wb, w5.alloc (.cells #[.int .u8 c, .string X] 32) = wb := ⟨_, rfl⟩
                    have NW2 : Hid (∀ (j : Nat) u, ([.int .u8 c, .string X] : List Value)[j]? = some u → wb.cell? ((⟨w5.heap.size, 0, none⟩ : Addr).add j) = some u) := Lib.hid (by rw [← hwb]; exact World.news_of_block (heap_alloc_new w5 _))
                    have bb : Below w5.heap.size w5 wb := by rw [← hwb]; exact galloc2 (Below.refl _ _) (Nat.le_refl _) _
                    have OW2 : Hid (wb.ownsRow w1.heap.size 32 2 _ (interT TS).length ((interT TS).flatMap tokC)) := Lib.hid (owns_below HT5.out bb)
                    have BA2 : Hid (Below w1.heap.size w1 wb) := Lib.hid (HB5.out.trans (bb.mono HB5.out.size))
                    have BW : Hid (Below wb.heap.size wb wb) := Lib.hid (Below.refl _ _)
                    have z0 : wb.heap[w4.heap.size]? = some (.cells #[.int .u8 c, .string X] 32 (0, 0)) := (bb.block _ (Array.getElem?_eq_some_iff.1 HBX.out).1).trans HBX.out
                    have HZ0 := Lib.hid z0
                    clear bb z0
                    subst hwb
                    go_wp2_with (at_builtin; refine wpList_append_own _ rfl _ _ 26 rfl w1.heap.size 32 i32 (.agg #[.int .u8 0, .string ⟨#[]⟩]) 2 24 und26 hi9 hz0 hz1 hz2 rfl (by decide) _ _ _ rfl OW2.out ⟨w5.heap.size, 0, none⟩ 1 1 [.int .u8 c, .string X] rfl rfl NW2.out (by simp [Value.oneCell']) ?d3 ?d4 ?d5 ?_)
                    case d3 => have := hIz; unfold maxLen; omega
                    case d4 => have := hIz; omega
                    case d5 => first | exact BA2.out.size | (have := BA2.out.size; simpa using this)
                    intro v7 w7 hown2 hgrow2 _
                    have O7 : Hid (ToksAt w1.heap.size w7 v7 (interT (TS ++ [(c, X.data.toList)]))) := Lib.hid (toks_put0 HTSe.out hown2)
                    have B7 : Hid (Below w1.heap.size w1 w7) := Lib.hid (BA2.out.grown hgrow2 BA2.out.size (fun k h => (OW2.out.lt k h).1))
                    have z7 : w7.heap[w4.heap.size]? = some (.cells #[.int .u8 c, .string X] 32 (0, 0)) := (hgrow2.block _ (Array.getElem?_eq_some_iff.1 HZ0.out).1 (fun e => by have := HROW.out _ e.symm; omega)).trans HZ0.out
                    have y1'' : w7.cell? ⟨w4.heap.size, 1, none⟩ = some (.string X) := by rw [cellH z7]; rfl
                    have S7 : Hid ((S ++ X).data.toList = interS (TS ++ [(c, X.data.toList)])) := Lib.hid (by rw [interS_snoc, if_pos HTSe.out, Utf.data_append, HS.out, show interS TS = [] by rw [HTSe.out]; rfl]; rfl)
                    clear hown2 hgrow2 z7 y0 y1
                    go_wp2_with fail
                    go_roundw
                    case rel => exact ⟨TS ++ [(c, X.data.toList)], S ++ X, k + 1, rfl, rfl, by omega, by rw [List.length_append]; simp only [List.length_singleton]; omega, Lib.hid (goods_snoc HG.out HGT.out), S7, O7, B7⟩
                    case measure => simp [intOf]; omega
                  · have hl0 : (0 : Int) < ((interT TS).length : Int) := by
                      have := inter_pos hTS
                      omega
                    have HTSe := Lib.hid hTS
                    clear hTS
                    obtain ⟨wa, hwa⟩ : ∃ wa, w5.alloc (.cells #[.int .u8 1, .string ⟨#[10]⟩] 32) = wa := ⟨_, rfl⟩
                    have NW : Hid (∀ (j : Nat) u, ([.int .u8 1, .string ⟨#[10]⟩] : List Value)[j]? = some u → wa.cell? ((⟨w5.heap.size, 0, none⟩ : Addr).add j) = some u) := Lib.hid (by rw [← hwa]; exact World.news_of_block (heap_alloc_new w5 _))
                    have ba : Below w5.heap.size w5 wa := by rw [← hwa]; exact galloc2 (Below.refl _ _) (Nat.le_refl _) _
                    have OW : Hid (wa.ownsRow w1.heap.size 32 2 _ (interT TS).length ((interT TS).flatMap tokC)) := Lib.hid (owns_below HT5.out ba)
                    have BA : Hid (Below w1.heap.size w1 wa) := Lib.hid (HB5.out.trans (ba.mono HB5.out.size))
                    have HBXa : Hid (wa.heap[w4.heap.size]? = some (.cells #[.int .u8 c, .string X] 32 (0, 0))) := Lib.hid ((ba.block _ (Array.getElem?_eq_some_iff.1 HBX.out).1).trans HBX.out)
                    clear ba
                    subst hwa
                    go_wp2_with (at_builtin; refine wpList_append_own_at _ rfl _ _ 26 rfl w1.heap.size 32 i32 (.agg #[.int .u8 0, .string ⟨#[]⟩]) 2 24 und26 hi9 hz0 hz1 hz2 rfl (by decide) _ _ _ rfl OW.out ⟨w5.heap.size, 0, none⟩ 1 1 [.int .u8 1, .string ⟨#[10]⟩] rfl rfl NW.out (by simp [Value.oneCell']) ?c3 ?c4 ?c5 ?_)
                    case c3 => have := hIz; unfold maxLen; omega
                    case c4 => have := hIz; omega
                    case c5 => first | exact BA.out.size | (have := BA.out.size; simpa using this)
                    intro v' w6 hown hgrow _ hat
                    have h45 : w4.heap.size < w5.heap.size := (Array.getElem?_eq_some_iff.1 HBX.out).1
                    have HR6 : Hid (∀ b, v'.ownBlock = some b → b ≠ w4.heap.size) := Lib.hid (fun b hb => by
                      rcases hat with hat | hat
                      · rw [hat] at hb; have := HROW.out _ hb; omega
                      · rw [hat] at hb; injection hb with hb; rw [← hb]; simp; omega)
                    have O6 : Hid (ToksAt w1.heap.size w6 v' (interT TS ++ [nlT])) := Lib.hid (by unfold ToksAt; rw [List.length_append, List.flatMap_append]; exact hown)
                    have B6 : Hid (Below w1.heap.size w1 w6) := Lib.hid (BA.out.grown hgrow BA.out.size (fun k h => (OW.out.lt k h).1))
                    have hbx6 : w6.heap[w4.heap.size]? = some (.cells #[.int .u8 c, .string X] 32 (0, 0)) := (hgrow.block _ (Array.getElem?_eq_some_iff.1 HBXa.out).1 (fun e => by have := HROW.out _ e.symm; omega)).trans HBXa.out
                    have HBX6 := Lib.hid hbx6
                    have y0' : w6.cell? ⟨w4.heap.size, 0, none⟩ = some (.int .u8 c) := by rw [cellH hbx6]; rfl
                    have y1' : w6.cell? ⟨w4.heap.size, 1, none⟩ = some (.string X) := by rw [cellH hbx6]; rfl
                    clear hown hgrow hbx6 y0 y1
                    have hs1 : ¬ 9223372036854775807 < S.size + (⟨#[10]⟩ : ByteArray).size := by show ¬ 9223372036854775807 < S.size + 1; omega
                    have hs2 : ¬ 9223372036854775807 < (S ++ ⟨#[10]⟩).size + X.size := by rw [Utf.size_append]; show ¬ 9223372036854775807 < S.size + 1 + X.size; omega
                    obtain ⟨E2, hE2⟩ : ∃ E2, interT TS ++ [nlT] = E2 := ⟨_, rfl⟩
                    rw [hE2] at O6
                    have HE2 := Lib.hid hE2
                    have hE2l : E2.length ≤ 121 := by rw [← hE2, List.length_append]; simp only [List.length_singleton]; omega
                    clear hE2 hat
                    obtain ⟨po6, co6, hv6⟩ := owns_shape O6.out
                    subst hv6
                    obtain ⟨wb, hwb⟩ : ∃ wb, w6.alloc (.cells #[.int .u8 c, .string X] 32) = wb := ⟨_, rfl⟩
                    have NW2 : Hid (∀ (j : Nat) u, ([.int .u8 c, .string X] : List Value)[j]? = some u → wb.cell? ((⟨w6.heap.size, 0, none⟩ : Addr).add j) = some u) := Lib.hid (by rw [← hwb]; exact World.news_of_block (heap_alloc_new w6 _))
                    have bb : Below w6.heap.size w6 wb := by rw [← hwb]; exact galloc2 (Below.refl _ _) (Nat.le_refl _) _
                    have OW2 : Hid (wb.ownsRow w1.heap.size 32 2 _ E2.length (E2.flatMap tokC)) := Lib.hid (owns_below O6.out bb)
                    have BA2 : Hid (Below w1.heap.size w1 wb) := Lib.hid (B6.out.trans (bb.mono B6.out.size))
                    have BW : Hid (Below wb.heap.size wb wb) := Lib.hid (Below.refl _ _)
                    have z0 : wb.heap[w4.heap.size]? = some (.cells #[.int .u8 c, .string X] 32 (0, 0)) := (bb.block _ (Array.getElem?_eq_some_iff.1 HBX6.out).1).trans HBX6.out
                    have HZ0 := Lib.hid z0
                    clear bb z0
                    subst hwb
                    go_wp2_with (at_builtin; refine wpList_append_own _ rfl _ _ 26 rfl w1.heap.size 32 i32 (.agg #[.int .u8 0, .string ⟨#[]⟩]) 2 24 und26 hi9 hz0 hz1 hz2 rfl (by decide) _ _ _ rfl OW2.out ⟨w6.heap.size, 0, none⟩ 1 1 [.int .u8 c, .string X] rfl rfl NW2.out (by simp [Value.oneCell']) ?d3 ?d4 ?d5 ?_)
                    case d3 => have := hE2l; unfold maxLen; omega
                    case d4 => have := hE2l; omega
                    case d5 => first | exact BA2.out.size | (have := BA2.out.size; simpa using this)
                    intro v7 w7 hown2 hgrow2 _
                    have O7 : Hid (ToksAt w1.heap.size w7 v7 (interT (TS ++ [(c, X.data.toList)]))) := Lib.hid (by rw [interT_snoc, if_neg HTSe.out, show interT TS ++ [nlT, (c, X.data.toList)] = E2 ++ [(c, X.data.toList)] by rw [← HE2.out]; simp]; exact toks_put hown2)
                    have B7 : Hid (Below w1.heap.size w1 w7) := Lib.hid (BA2.out.grown hgrow2 BA2.out.size (fun k h => (OW2.out.lt k h).1))
                    have z7 : w7.heap[w4.heap.size]? = some (.cells #[.int .u8 c, .string X] 32 (0, 0)) := (hgrow2.block _ (Array.getElem?_eq_some_iff.1 HZ0.out).1 (fun e => HR6.out _ e.symm rfl)).trans HZ0.out
                    have y1'' : w7.cell? ⟨w4.heap.size, 1, none⟩ = some (.string X) := by rw [cellH z7]; rfl
                    have S7 : Hid ((S ++ ⟨#[10]⟩ ++ X).data.toList = interS (TS ++ [(c, X.data.toList)])) := Lib.hid (by rw [interS_snoc, if_neg HTSe.out, Utf.data_append, Utf.data_append, HS.out]; simp)
                    clear hown2 hgrow2 z7 y0' y1'
                    go_wp2_with fail
                    go_roundw
                    case rel => exact ⟨TS ++ [(c, X.data.toList)], S ++ ⟨#[10]⟩ ++ X, k + 1, rfl, rfl, by omega, by rw [List.length_append]; simp only [List.length_singleton]; omega, Lib.hid (goods_snoc HG.out HGT.out), S7, O7, B7⟩
                    case measure => simp [intOf]; omega
                · by_cases hTS : TS = []
                  · have hl0 : ¬ (0 : Int) < ((interT TS).length : Int) := by rw [hTS]; exact (by decide : ¬ (0 : Int) < ((0 : Nat) : Int))
                    have HTSe := Lib.hid hTS
                    clear hTS
                    have hs1 : ¬ 9223372036854775807 < S.size + X.size := by omega
                    obtain ⟨wb, hwb⟩ : ∃ wb, w5.alloc (.cells #[.int .u8 c, .string X] 32) = wb := ⟨_, rfl⟩
                    have NW2 : Hid (∀ (j : Nat) u, ([.int .u8 c, .string X] : List Value)[j]? = some u → wb.cell? ((⟨w5.heap.size, 0, none⟩ : Addr).add j) = some u) := Lib.hid (by rw [← hwb]; exact World.news_of_block (heap_alloc_new w5 _))
                    have bb : Below w5.heap.size w5 wb := by rw [← hwb]; exact galloc2 (Below.refl _ _) (Nat.le_refl _) _
                    have OW2 : Hid (wb.ownsRow w1.heap.size 32 2 _ (interT TS).length ((interT TS).flatMap tokC)) := Lib.hid (owns_below HT5.out bb)
                    have BA2 : Hid (Below w1.heap.size w1 wb) := Lib.hid (HB5.out.trans (bb.mono HB5.out.size))
                    have BW : Hid (Below wb.heap.size wb wb) := Lib.hid (Below.refl _ _)
                    have z0 : wb.heap[w4.heap.size]? = some (.cells #[.int .u8 c, .string X] 32 (0, 0)) := (bb.block _ (Array.getElem?_eq_some_iff.1 HBX.out).1).trans HBX.out
                    have HZ0 := Lib.hid z0
                    clear bb z0
                    subst hwb
                    go_wp2_with (at_builtin; refine wpList_append_own _ rfl _ _ 26 rfl w1.heap.size 32 i32 (.agg #[.int .u8 0, .string ⟨#[]⟩]) 2 24 und26 hi9 hz0 hz1 hz2 rfl (by decide) _ _ _ rfl OW2.out ⟨w5.heap.size, 0, none⟩ 1 1 [.int .u8 c, .string X] rfl rfl NW2.out (by simp [Value.oneCell']) ?d3 ?d4 ?d5 ?_)
                    case d3 => have := hIz; unfold maxLen; omega
                    case d4 => have := hIz; omega
                    case d5 => first | exact BA2.out.size | (have := BA2.out.size; simpa using this)
                    intro v7 w7 hown2 hgrow2 _
                    have O7 : Hid (ToksAt w1.heap.size w7 v7 (interT (TS ++ [(c, X.data.toList)]))) := Lib.hid (toks_put0 HTSe.out hown2)
                    have B7 : Hid (Below w1.heap.size w1 w7) := Lib.hid (BA2.out.grown hgrow2 BA2.out.size (fun k h => (OW2.out.lt k h).1))
                    have z7 : w7.heap[w4.heap.size]? = some (.cells #[.int .u8 c, .string X] 32 (0, 0)) := (hgrow2.block _ (Array.getElem?_eq_some_iff.1 HZ0.out).1 (fun e => by have := HROW.out _ e.symm; omega)).trans HZ0.out
                    have y1'' : w7.cell? ⟨w4.heap.size, 1, none⟩ = some (.string X) := by rw [cellH z7]; rfl
                    have S7 : Hid ((S ++ X).data.toList = interS (TS ++ [(c, X.data.toList)])) := Lib.hid (by rw [interS_snoc, if_pos HTSe.out, Utf.data_append, HS.out, show interS TS = [] by rw [HTSe.out]; rfl]; rfl)
                    clear hown2 hgrow2 z7 y0 y1
                    go_wp2_with fail
                    go_roundw
                    case rel => exact ⟨TS ++ [(c, X.data.toList)], S ++ X, k + 1, rfl, rfl, by omega, by rw [List.length_append]; simp only [List.length_singleton]; omega, Lib.hid (goods_snoc HG.out HGT.out), S7, O7, B7⟩
                    case measure => simp [intOf]; omega
                  · have hl0 : (0 : Int) < ((interT TS).length : Int) := by
                      have := inter_pos hTS
                      omega
                    have HTSe := Lib.hid hTS
                    clear hTS
                    obtain ⟨wa, hwa⟩ : ∃ wa, w5.alloc (.cells #[.int .u8 1, .string ⟨#[10]⟩] 32) = wa := ⟨_, rfl⟩
                    have NW : Hid (∀ (j : Nat) u, ([.int .u8 1, .string ⟨#[10]⟩] : List Value)[j]? = some u → wa.cell? ((⟨w5.heap.size, 0, none⟩ : Addr).add j) = some u) := Lib.hid (by rw [← hwa]; exact World.news_of_block (heap_alloc_new w5 _))
                    have ba : Below w5.heap.size w5 wa := by rw [← hwa]; exact galloc2 (Below.refl _ _) (Nat.le_refl _) _
                    have OW : Hid (wa.ownsRow w1.heap.size 32 2 _ (interT TS).length ((interT TS).flatMap tokC)) := Lib.hid (owns_below HT5.out ba)
                    have BA : Hid (Below w1.heap.size w1 wa) := Lib.hid (HB5.out.trans (ba.mono HB5.out.size))
                    have HBXa : Hid (wa.heap[w4.heap.size]? = some (.cells #[.int .u8 c, .string X] 32 (0, 0))) := Lib.hid ((ba.block _ (Array.getElem?_eq_some_iff.1 HBX.out).1).trans HBX.out)
                    clear ba
                    subst hwa
                    go_wp2_with (at_builtin; refine wpList_append_own_at _ rfl _ _ 26 rfl w1.heap.size 32 i32 (.agg #[.int .u8 0, .string ⟨#[]⟩]) 2 24 und26 hi9 hz0 hz1 hz2 rfl (by decide) _ _ _ rfl OW.out ⟨w5.heap.size, 0, none⟩ 1 1 [.int .u8 1, .string ⟨#[10]⟩] rfl rfl NW.out (by simp [Value.oneCell']) ?c3 ?c4 ?c5 ?_)
                    case c3 => have := hIz; unfold maxLen; omega
                    case c4 => have := hIz; omega
                    case c5 => first | exact BA.out.size | (have := BA.out.size; simpa using this)
                    intro v' w6 hown hgrow _ hat
                    have h45 : w4.heap.size < w5.heap.size := (Array.getElem?_eq_some_iff.1 HBX.out).1
                    have HR6 : Hid (∀ b, v'.ownBlock = some b → b ≠ w4.heap.size) := Lib.hid (fun b hb => by
                      rcases hat with hat | hat
                      · rw [hat] at hb; have := HROW.out _ hb; omega
                      · rw [hat] at hb; injection hb with hb; rw [← hb]; simp; omega)
                    have O6 : Hid (ToksAt w1.heap.size w6 v' (interT TS ++ [nlT])) := Lib.hid (by unfold ToksAt; rw [List.length_append, List.flatMap_append]; exact hown)
                    have B6 : Hid (Below w1.heap.size w1 w6) := Lib.hid (BA.out.grown hgrow BA.out.size (fun k h => (OW.out.lt k h).1))
                    have hbx6 : w6.heap[w4.heap.size]? = some (.cells #[.int .u8 c, .string X] 32 (0, 0)) := (hgrow.block _ (Array.getElem?_eq_some_iff.1 HBXa.out).1 (fun e => by have := HROW.out _ e.symm; omega)).trans HBXa.out
                    have HBX6 := Lib.hid hbx6
                    have y0' : w6.cell? ⟨w4.heap.size, 0, none⟩ = some (.int .u8 c) := by rw [cellH hbx6]; rfl
                    have y1' : w6.cell? ⟨w4.heap.size, 1, none⟩ = some (.string X) := by rw [cellH hbx6]; rfl
                    clear hown hgrow hbx6 y0 y1
                    have hs1 : ¬ 9223372036854775807 < S.size + (⟨#[10]⟩ : ByteArray).size := by show ¬ 9223372036854775807 < S.size + 1; omega
                    have hs2 : ¬ 9223372036854775807 < (S ++ ⟨#[10]⟩).size + X.size := by rw [Utf.size_append]; show ¬ 9223372036854775807 < S.size + 1 + X.size; omega
                    obtain ⟨E2, hE2⟩ : ∃ E2, interT TS ++ [nlT] = E2 := ⟨_, rfl⟩
                    rw [hE2] at O6
                    have HE2 := Lib.hid hE2
                    have hE2l : E2.length ≤ 121 := by rw [← hE2, List.length_append]; simp only [List.length_singleton]; omega
                    clear hE2 hat
                    obtain ⟨po6, co6, hv6⟩ := owns_shape O6.out
                    subst hv6
                    obtain ⟨wb, hwb⟩ : ∃ wb, w6.alloc (.cells #[.int .u8 c, .string X] 32) = wb := ⟨_, rfl⟩
                    have NW2 : Hid (∀ (j : Nat) u, ([.int .u8 c, .string X] : List Value)[j]? = some u → wb.cell? ((⟨w6.heap.size, 0, none⟩ : Addr).add j) = some u) := Lib.hid (by rw [← hwb]; exact World.news_of_block (heap_alloc_new w6 _))
                    have bb : Below w6.heap.size w6 wb := by rw [← hwb]; exact galloc2 (Below.refl _ _) (Nat.le_refl _) _
                    have OW2 : Hid (wb.ownsRow w1.heap.size 32 2 _ E2.length (E2.flatMap tokC)) := Lib.hid (owns_below O6.out bb)
                    have BA2 : Hid (Below w1.heap.size w1 wb) := Lib.hid (B6.out.trans (bb.mono B6.out.size))
                    have BW : Hid (Below wb.heap.size wb wb) := Lib.hid (Below.refl _ _)
                    have z0 : wb.heap[w4.heap.size]? = some (.cells #[.int .u8 c, .string X] 32 (0, 0)) := (bb.block _ (Array.getElem?_eq_some_iff.1 HBX6.out).1).trans HBX6.out
                    have HZ0 := Lib.hid z0
                    clear bb z0
                    subst hwb
                    go_wp2_with (at_builtin; refine wpList_append_own _ rfl _ _ 26 rfl w1.heap.size 32 i32 (.agg #[.int .u8 0, .string ⟨#[]⟩]) 2 24 und26 hi9 hz0 hz1 hz2 rfl (by decide) _ _ _ rfl OW2.out ⟨w6.heap.size, 0, none⟩ 1 1 [.int .u8 c, .string X] rfl rfl NW2.out (by simp [Value.oneCell']) ?d3 ?d4 ?d5 ?_)
                    case d3 => have := hE2l; unfold maxLen; omega
                    case d4 => have := hE2l; omega
                    case d5 => first | exact BA2.out.size | (have := BA2.out.size; simpa using this)
                    intro v7 w7 hown2 hgrow2 _
                    have O7 : Hid (ToksAt w1.heap.size w7 v7 (interT (TS ++ [(c, X.data.toList)]))) := Lib.hid (by rw [interT_snoc, if_neg HTSe.out, show interT TS ++ [nlT, (c, X.data.toList)] = E2 ++ [(c, X.data.toList)] by rw [← HE2.out]; simp]; exact toks_put hown2)
                    have B7 : Hid (Below w1.heap.size w1 w7) := Lib.hid (BA2.out.grown hgrow2 BA2.out.size (fun k h => (OW2.out.lt k h).1))
                    have z7 : w7.heap[w4.heap.size]? = some (.cells #[.int .u8 c, .string X] 32 (0, 0)) := (hgrow2.block _ (Array.getElem?_eq_some_iff.1 HZ0.out).1 (fun e => HR6.out _ e.symm rfl)).trans HZ0.out
                    have y1'' : w7.cell? ⟨w4.heap.size, 1, none⟩ = some (.string X) := by rw [cellH z7]; rfl
                    have S7 : Hid ((S ++ ⟨#[10]⟩ ++ X).data.toList = interS (TS ++ [(c, X.data.toList)])) := Lib.hid (by rw [interS_snoc, if_neg HTSe.out, Utf.data_append, Utf.data_append, HS.out]; simp)
                    clear hown2 hgrow2 z7 y0' y1'
                    go_wp2_with fail
                    go_roundw
                    case rel => exact ⟨TS ++ [(c, X.data.toList)], S ++ ⟨#[10]⟩ ++ X, k + 1, rfl, rfl, by omega, by rw [List.length_append]; simp only [List.length_singleton]; omega, Lib.hid (goods_snoc HG.out HGT.out), S7, O7, B7⟩
                    case measure => simp [intOf]; omega
                · by_cases hTS : TS = []
                  · have hl0 : ¬ (0 : Int) < ((interT TS).length : Int) := by rw [hTS]; exact (by decide : ¬ (0 : Int) < ((0 : Nat) : Int))
                    have HTSe := Lib.hid hTS
                    clear hTS
                    have hs1 : ¬ 9223372036854775807 < S.size + X.size := by omega
                    obtain ⟨wb, hwb⟩ : ∃ wb, w5.alloc (.cells #[.int .u8 c, .string X] 32) = wb := ⟨_, rfl⟩
                    have NW2 : Hid (∀ (j : Nat) u, ([.int .u8 c, .string X] : List Value)[j]? = some u → wb.cell? ((⟨w5.heap.size, 0, none⟩ : Addr).add j) = some u) := Lib.hid (by rw [← hwb]; exact World.news_of_block (heap_alloc_new w5 _))
                    have bb : Below w5.heap.size w5 wb := by rw [← hwb]; exact galloc2 (Below.refl _ _) (Nat.le_refl _) _
                    have OW2 : Hid (wb.ownsRow w1.heap.size 32 2 _ (interT TS).length ((interT TS).flatMap tokC)) := Lib.hid (owns_below HT5.out bb)
                    have BA2 : Hid (Below w1.heap.size w1 wb) := Lib.hid (HB5.out.trans (bb.mono HB5.out.size))
                    have BW : Hid (Below wb.heap.size wb wb) := Lib.hid (Below.refl _ _)
                    have z0 : wb.heap[w4.heap.size]? = some (.cells #[.int .u8 c, .string X] 32 (0, 0)) := (bb.block _ (Array.getElem?_eq_some_iff.1 HBX.out).1).trans HBX.out
                    have HZ0 := Lib.hid z0
                    clear bb z0
                    subst hwb
                    go_wp2_with (at_builtin; refine wpList_append_own _ rfl _ _ 26 rfl w1.heap.size 32 i32 (.agg #[.int .u8 0, .string ⟨#[]⟩]) 2 24 und26 hi9 hz0 hz1 hz2 rfl (by decide) _ _ _ rfl OW2.out ⟨w5.heap.size, 0, none⟩ 1 1 [.int .u8 c, .string X] rfl rfl NW2.out (by simp [Value.oneCell']) ?d3 ?d4 ?d5 ?_)
                    case d3 => have := hIz; unfold maxLen; omega
                    case d4 => have := hIz; omega
                    case d5 => first | exact BA2.out.size | (have := BA2.out.size; simpa using this)
                    intro v7 w7 hown2 hgrow2 _
                    have O7 : Hid (ToksAt w1.heap.size w7 v7 (interT (TS ++ [(c, X.data.toList)]))) := Lib.hid (toks_put0 HTSe.out hown2)
                    have B7 : Hid (Below w1.heap.size w1 w7) := Lib.hid (BA2.out.grown hgrow2 BA2.out.size (fun k h => (OW2.out.lt k h).1))
                    have z7 : w7.heap[w4.heap.size]? = some (.cells #[.int .u8 c, .string X] 32 (0, 0)) := (hgrow2.block _ (Array.getElem?_eq_some_iff.1 HZ0.out).1 (fun e => by have := HROW.out _ e.symm; omega)).trans HZ0.out
                    have y1'' : w7.cell? ⟨w4.heap.size, 1, none⟩ = some (.string X) := by rw [cellH z7]; rfl
                    have S7 : Hid ((S ++ X).data.toList = interS (TS ++ [(c, X.data.toList)])) := Lib.hid (by rw [interS_snoc, if_pos HTSe.out, Utf.data_append, HS.out, show interS TS = [] by rw [HTSe.out]; rfl]; rfl)
                    clear hown2 hgrow2 z7 y0 y1
                    go_wp2_with fail
                    go_roundw
                    case rel => exact ⟨TS ++ [(c, X.data.toList)], S ++ X, k + 1, rfl, rfl, by omega, by rw [List.length_append]; simp only [List.length_singleton]; omega, Lib.hid (goods_snoc HG.out HGT.out), S7, O7, B7⟩
                    case measure => simp [intOf]; omega
                  · have hl0 : (0 : Int) < ((interT TS).length : Int) := by
                      have := inter_pos hTS
                      omega
                    have HTSe := Lib.hid hTS
                    clear hTS
                    obtain ⟨wa, hwa⟩ : ∃ wa, w5.alloc (.cells #[.int .u8 1, .string ⟨#[10]⟩] 32) = wa := ⟨_, rfl⟩
                    have NW : Hid (∀ (j : Nat) u, ([.int .u8 1, .string ⟨#[10]⟩] : List Value)[j]? = some u → wa.cell? ((⟨w5.heap.size, 0, none⟩ : Addr).add j) = some u) := Lib.hid (by rw [← hwa]; exact World.news_of_block (heap_alloc_new w5 _))
                    have ba : Below w5.heap.size w5 wa := by rw [← hwa]; exact galloc2 (Below.refl _ _) (Nat.le_refl _) _
                    have OW : Hid (wa.ownsRow w1.heap.size 32 2 _ (interT TS).length ((interT TS).flatMap tokC)) := Lib.hid (owns_below HT5.out ba)
                    have BA : Hid (Below w1.heap.size w1 wa) := Lib.hid (HB5.out.trans (ba.mono HB5.out.size))
                    have HBXa : Hid (wa.heap[w4.heap.size]? = some (.cells #[.int .u8 c, .string X] 32 (0, 0))) := Lib.hid ((ba.block _ (Array.getElem?_eq_some_iff.1 HBX.out).1).trans HBX.out)
                    clear ba
                    subst hwa
                    go_wp2_with (at_builtin; refine wpList_append_own_at _ rfl _ _ 26 rfl w1.heap.size 32 i32 (.agg #[.int .u8 0, .string ⟨#[]⟩]) 2 24 und26 hi9 hz0 hz1 hz2 rfl (by decide) _ _ _ rfl OW.out ⟨w5.heap.size, 0, none⟩ 1 1 [.int .u8 1, .string ⟨#[10]⟩] rfl rfl NW.out (by simp [Value.oneCell']) ?c3 ?c4 ?c5 ?_)
                    case c3 => have := hIz; unfold maxLen; omega
                    case c4 => have := hIz; omega
                    case c5 => first | exact BA.out.size | (have := BA.out.size; simpa using this)
                    intro v' w6 hown hgrow _ hat
                    have h45 : w4.heap.size < w5.heap.size := (Array.getElem?_eq_some_iff.1 HBX.out).1
                    have HR6 : Hid (∀ b, v'.ownBlock = some b → b ≠ w4.heap.size) := Lib.hid (fun b hb => by
                      rcases hat with hat | hat
                      · rw [hat] at hb; have := HROW.out _ hb; omega
                      · rw [hat] at hb; injection hb with hb; rw [← hb]; simp; omega)
                    have O6 : Hid (ToksAt w1.heap.size w6 v' (interT TS ++ [nlT])) := Lib.hid (by unfold ToksAt; rw [List.length_append, List.flatMap_append]; exact hown)
                    have B6 : Hid (Below w1.heap.size w1 w6) := Lib.hid (BA.out.grown hgrow BA.out.size (fun k h => (OW.out.lt k h).1))
                    have hbx6 : w6.heap[w4.heap.size]? = some (.cells #[.int .u8 c, .string X] 32 (0, 0)) := (hgrow.block _ (Array.getElem?_eq_some_iff.1 HBXa.out).1 (fun e => by have := HROW.out _ e.symm; omega)).trans HBXa.out
                    have HBX6 := Lib.hid hbx6
                    have y0' : w6.cell? ⟨w4.heap.size, 0, none⟩ = some (.int .u8 c) := by rw [cellH hbx6]; rfl
                    have y1' : w6.cell? ⟨w4.heap.size, 1, none⟩ = some (.string X) := by rw [cellH hbx6]; rfl
                    clear hown hgrow hbx6 y0 y1
                    have hs1 : ¬ 9223372036854775807 < S.size + (⟨#[10]⟩ : ByteArray).size := by show ¬ 9223372036854775807 < S.size + 1; omega
                    have hs2 : ¬ 9223372036854775807 < (S ++ ⟨#[10]⟩).size + X.size := by rw [Utf.size_append]; show ¬ 9223372036854775807 < S.size + 1 + X.size; omega
                    obtain ⟨E2, hE2⟩ : ∃ E2, interT TS ++ [nlT] = E2 := ⟨_, rfl⟩
                    rw [hE2] at O6
                    have HE2 := Lib.hid hE2
                    have hE2l : E2.length ≤ 121 := by rw [← hE2, List.length_append]; simp only [List.length_singleton]; omega
                    clear hE2 hat
                    obtain ⟨po6, co6, hv6⟩ := owns_shape O6.out
                    subst hv6
                    obtain ⟨wb, hwb⟩ : ∃ wb, w6.alloc (.cells #[.int .u8 c, .string X] 32) = wb := ⟨_, rfl⟩
                    have NW2 : Hid (∀ (j : Nat) u, ([.int .u8 c, .string X] : List Value)[j]? = some u → wb.cell? ((⟨w6.heap.size, 0, none⟩ : Addr).add j) = some u) := Lib.hid (by rw [← hwb]; exact World.news_of_block (heap_alloc_new w6 _))
                    have bb : Below w6.heap.size w6 wb := by rw [← hwb]; exact galloc2 (Below.refl _ _) (Nat.le_refl _) _
                    have OW2 : Hid (wb.ownsRow w1.heap.size 32 2 _ E2.length (E2.flatMap tokC)) := Lib.hid (owns_below O6.out bb)
                    have BA2 : Hid (Below w1.heap.size w1 wb) := Lib.hid (B6.out.trans (bb.mono B6.out.size))
                    have BW : Hid (Below wb.heap.size wb wb) := Lib.hid (Below.refl _ _)
                    have z0 : wb.heap[w4.heap.size]? = some (.cells #[.int .u8 c, .string X] 32 (0, 0)) := (bb.block _ (Array.getElem?_eq_some_iff.1 HBX6.out).1).trans HBX6.out
                    have HZ0 := Lib.hid z0
                    clear bb z0
                    subst hwb
                    go_wp2_with (at_builtin; refine wpList_append_own _ rfl _ _ 26 rfl w1.heap.size 32 i32 (.agg #[.int .u8 0, .string ⟨#[]⟩]) 2 24 und26 hi9 hz0 hz1 hz2 rfl (by decide) _ _ _ rfl OW2.out ⟨w6.heap.size, 0, none⟩ 1 1 [.int .u8 c, .string X] rfl rfl NW2.out (by simp [Value.oneCell']) ?d3 ?d4 ?d5 ?_)
                    case d3 => have := hE2l; unfold maxLen; omega
                    case d4 => have := hE2l; omega
                    case d5 => first | exact BA2.out.size | (have := BA2.out.size; simpa using this)
                    intro v7 w7 hown2 hgrow2 _
                    have O7 : Hid (ToksAt w1.heap.size w7 v7 (interT (TS ++ [(c, X.data.toList)]))) := Lib.hid (by rw [interT_snoc, if_neg HTSe.out, show interT TS ++ [nlT, (c, X.data.toList)] = E2 ++ [(c, X.data.toList)] by rw [← HE2.out]; simp]; exact toks_put hown2)
                    have B7 : Hid (Below w1.heap.size w1 w7) := Lib.hid (BA2.out.grown hgrow2 BA2.out.size (fun k h => (OW2.out.lt k h).1))
                    have z7 : w7.heap[w4.heap.size]? = some (.cells #[.int .u8 c, .string X] 32 (0, 0)) := (hgrow2.block _ (Array.getElem?_eq_some_iff.1 HZ0.out).1 (fun e => HR6.out _ e.symm rfl)).trans HZ0.out
                    have y1'' : w7.cell? ⟨w4.heap.size, 1, none⟩ = some (.string X) := by rw [cellH z7]; rfl
                    have S7 : Hid ((S ++ ⟨#[10]⟩ ++ X).data.toList = interS (TS ++ [(c, X.data.toList)])) := Lib.hid (by rw [interS_snoc, if_neg HTSe.out, Utf.data_append, Utf.data_append, HS.out]; simp)
                    clear hown2 hgrow2 z7 y0' y1'
                    go_wp2_with fail
                    go_roundw
                    case rel => exact ⟨TS ++ [(c, X.data.toList)], S ++ ⟨#[10]⟩ ++ X, k + 1, rfl, rfl, by omega, by rw [List.length_append]; simp only [List.length_singleton]; omega, Lib.hid (goods_snoc HG.out HGT.out), S7, O7, B7⟩
                    case measure => simp [intOf]; omega
          · have hc := one_bad X wr (by omega) HEr.out h0
            generalize oneE X.data.toList = K at *
            have q : ((K : Int) != 0) = true := by rw [bne_iff_ne]; exact h0
            clear h0
            go_wp2_with fail
            refine hc.mono ?_
            rintro e w4 ⟨rfl, hb4⟩
            have hbox := heap_alloc_new w4 (.cells #[.int .u8 0, .string ⟨#[]⟩] 32)
            have hba : Below w4.heap.size w4 (w4.alloc (.cells #[.int .u8 0, .string ⟨#[]⟩] 32)) := galloc2 (Below.refl _ _) (Nat.le_refl _) _
            have HT5 := Lib.hid ((HT.out.below hb4).below hba)
            have HB5 := Lib.hid ((HB.out.trans (hb4.mono HB.out.size)).trans (hba.mono (by have := HB.out.size; have := hb4.size; omega)))
            clear hb4 hbox hba hc
            go_wp2_with fail
            go_roundw
            case rel => exact ⟨TS, S, k + 1, rfl, rfl, by omega, by omega, HG, HS, HT5, HB5⟩
            case measure => simp [intOf]; omega
      · have hlt' : ¬ (k : Int) < (l.length : Int) := by omega
        have hin := inter_toks TS (fun t ht => (HG.out t ht).1)
        rw [← HS.out] at hin
        have e1 : tokE S.data.toList = 0 := tokE_good (by rw [← Lib.size_eq]; omega) hin.2
        have e2 : tokL S.data.toList = interT TS := by unfold tokL; rw [if_pos e1]; exact hin.1
        have hc := tokens_to S wr (by omega) (HE1.out.below HB.out HE1.out.size) e2 e1
        obtain ⟨EE, hEE⟩ : ∃ EE, interT TS = EE := ⟨_, rfl⟩
        rw [hEE] at hc HT hIz
        clear hin e1 e2
        rw [hEE]
        clear hEE
        obtain ⟨wo, hwo⟩ : ∃ x, x = wr := ⟨_, rfl⟩
        subst hwo
        go_wp2_with fail
        refine hc.mono ?_
        rintro e w2 ⟨p2, k2, rfl, hT2, hb2⟩
        have HT2 := Lib.hid hT2
        have HT3 := Lib.hid (HT.out.below hb2)
        have HB2 := Lib.hid (HB1.out.trans ((HB.out.trans (hb2.mono HB.out.size)).mono HB1.out.size))
        clear hT2 hb2 hc
        go_wp2_with fail
        go_loopw [10] (fun m wi => ∃ j : Nat, m = .int .i64 j ∧ j ≤ EE.length ∧ Hid (Below w2.heap.size w2 wi)) (fun m _ => EE.length - (intOf m).toNat)
        case atStart => exact ⟨0, rfl, Nat.zero_le _, Lib.hid (Below.refl _ _)⟩
        case round =>
          obtain ⟨j, rfl, hj, HBi⟩ := hrel
          by_cases hjl : j < EE.length
          · have hjl' : (j : Int) < (EE.length : Int) := by omega
            have hej := List.getElem?_eq_getElem hjl
            obtain ⟨g2, cap2, he2, r0, r1⟩ := tok_at (HT2.out.below HBi.out) hej
            obtain ⟨g3, cap3, he5, s0, s1⟩ := tok_at (HT3.out.below HBi.out) hej
            injection he2 with he3 _ he4
            subst he3
            subst he4
            injection he5 with he6 _ he7
            subst he6
            subst he7
            generalize EE[j] = t2 at *
            obtain ⟨d2, tt2⟩ := t2
            obtain ⟨Q2, rfl⟩ : ∃ Q2 : ByteArray, tt2 = Q2.data.toList := ⟨⟨tt2.toArray⟩, rfl⟩
            have hQ2 : (⟨Q2.data.toList.toArray⟩ : ByteArray) = Q2 := (ba_of Q2 rfl).symm
            have r0' : wr.cell? ⟨g2, j * 2, none⟩ = some (.int .u8 d2) := r0
            have r1' : wr.cell? ⟨g2, j * 2 + 1, none⟩ = some (.string Q2) := by rw [← hQ2]; exact r1
            have s0' : wr.cell? ⟨g3, j * 2, none⟩ = some (.int .u8 d2) := s0
            have s1' : wr.cell? ⟨g3, j * 2 + 1, none⟩ = some (.string Q2) := by rw [← hQ2]; exact s1
            have hn2 := fun W => neq_tok d2 Q2 W
            have u4' : IntKind.i64.wrap ((j : Int) + 1) = ((j + 1 : Nat) : Int) := by rw [IntWalk.i64_in _ (by omega)]; omega
            clear hej r0 r1 s0 s1 hQ2
            go_wp2_with fail
            go_quiet (fail)
            have HB9 := Lib.hid (HBi.out.trans ((drewN_below wr nq).mono HBi.out.size))
            clear r0' r1' s0' s1' hn2
            generalize wr.drewN nq = w9 at *
            go_wp2_with fail
            go_roundw
            case rel => exact ⟨j + 1, rfl, by omega, HB9⟩
            case measure => simp [intOf]; omega
          · have hjl' : ¬ (j : Int) < (EE.length : Int) := by omega
            have HBe := Lib.hid (HB2.out.trans (HBi.out.mono HB2.out.size))
            go_wp2_with fail
            go_ret
            exact ⟨rfl, HBe.out⟩
end Go.Proofs.YtaofpefmniadiaaDoor
