/-
  The document's Tokens of a tree.
-/
import Derived.Test.YtingfomfibhnhaaGreatDoorMgTA
import Derived.Test.YtingfomfibhnhaaGreatDoorMgHA
import Derived.Test.YtingfomfibhnhaaGreatDoorMgHXA
namespace Go.Proofs.YtingfomfibhnhaaGreatDoor
open Go.RowKit Go.Shelf Go.Maps

theorem tokC_one (E : List Tok) : ∀ u ∈ E.flatMap tokC, u.oneCell' = true := by
  intro u hu
  obtain ⟨t, _, h⟩ := List.mem_flatMap.1 hu
  simp only [tokC, List.mem_cons, List.not_mem_nil, or_false] at h
  rcases h with rfl | rfl <;> rfl
theorem toks_cells (E : List Tok) : (E.flatMap tokC).length = E.length * 2 := by
  induction E with
  | nil => rfl
  | cons t r ih => rw [List.flatMap_cons, List.length_append, ih]; simp [tokC]; omega
/-- A row of tokens appended to a row of the call's own. -/
theorem app_toks {W w : World} {B : Nat} {v u : Value} {E1 E2 : List Tok} {ty : TypeId} (h1 : ToksAt W.heap.size w v E1) (h2 : ToksAt B w u E2) (hb : Below W.heap.size W w) (hl : E1.length + E2.length ≤ 10000000) :
    ∃ v' w', (Builtin.append_ #[51, 51] ty #[v, u]).run Tryz.prog w = .ok v' w' ∧ ToksAt W.heap.size w' v' (E1 ++ E2) ∧ Below W.heap.size W w' := by
  obtain ⟨i, hi, hz0, hz1, hz2⟩ := info_parts info32
  have keep : ∀ {w' : World} {v0 : Value}, v0 = v → w.grownBy w' v0.ownBlock → Below W.heap.size W w' := fun {w' v0} e h3 => by
    subst e
    exact ⟨h3.os.trans hb.os, h3.tape.trans hb.tape, h3.output.trans hb.output, Nat.le_trans hb.size h3.size, fun k hk => (h3.block k (Nat.lt_of_lt_of_le hk hb.size) (fun e => by have := (h1.lt k e.symm).1; omega)).trans (hb.block k hk)⟩
  obtain ⟨p1, c1, rfl⟩ := owns_shape h1
  obtain ⟨p2, c2, rfl⟩ := owns_shape h2
  by_cases h0 : E2 = []
  · subst h0
    have hsrc : Src Tryz.prog i.size 51 (.slice p2 0 c2) 0 [] w := by
      cases p2 with
      | none => exact Src.ofNil w und26 c2
      | some a => exact Src.ofSlice w und26 a 0 c2 [] (by simp) (fun j u h => by simp at h) (fun u h => by simp at h)
    have hle : E1.length ≤ c1 := by
      rcases h1.2 with ⟨h3, h4⟩ | ⟨g, cap, cur, h3, _, _, h4, _⟩
      · injection h3 with _ e2 e3; omega
      · injection h3 with _ _ e3; omega
    refine ⟨_, _, run_append_nothing w 51 51 ty 25 i und26 hi p1 E1.length c1 hle _ hsrc, ?_, hb⟩
    rw [List.append_nil]
    exact h1
  · have hpos : 0 < E2.length := List.length_pos_iff.2 h0
    obtain ⟨g2, cap2, hv2, _, _⟩ := h2.form hpos
    cases hv2
    have hc2 := World.ownsRow.cells (g := g2) h2 rfl
    obtain ⟨v', w', hr, h3, h4, _, _⟩ := run_append_own_at (P := Tryz.prog) w W.heap.size 51 ty 25 i (.agg #[.int .u8 0, .string ⟨#[]⟩]) 2 24 und26 hi hz0 hz1 hz2 rfl (by decide) (.slice p1 E1.length c1) E1.length (E1.flatMap tokC) h1
      ⟨g2, 0, none⟩ E2.length c2 (E2.flatMap tokC) (toks_cells E2) hc2 (tokC_one E2) (by unfold maxLen; omega) (by omega) hb.size
    refine ⟨v', w', hr, ?_, keep rfl h4⟩
    unfold ToksAt
    rw [List.length_append, List.flatMap_append]
    exact h3
theorem app_tok {W w : World} {k : Nat} {v : Value} {E1 : List Tok} {t : Tok} {ty : TypeId} (h1 : ToksAt W.heap.size w v E1) (hk : w.heap[k]? = some (.cells #[.int .u8 t.1, .string ⟨t.2.toArray⟩] 25 (0, 0))) (hb : Below W.heap.size W w) (hl : E1.length ≤ 10000000) :
    ∃ v' w', (Builtin.append_ #[51, 51] ty #[v, .slice (some ⟨k, 0, none⟩) 1 1]).run Tryz.prog w = .ok v' w' ∧ ToksAt W.heap.size w' v' (E1 ++ [t]) ∧ Below W.heap.size W w' := by
  obtain ⟨i, hi, hz0, hz1, hz2⟩ := info_parts info32
  obtain ⟨v', w', hr, h3, h4, _, _⟩ := run_append_own_at (P := Tryz.prog) w W.heap.size 51 ty 25 i (.agg #[.int .u8 0, .string ⟨#[]⟩]) 2 24 und26 hi hz0 hz1 hz2 rfl (by decide) v E1.length (E1.flatMap tokC) h1
      ⟨k, 0, none⟩ 1 1 (tokC t) rfl (World.news_of_block hk) (by intro u hu; simp only [tokC, List.mem_cons, List.not_mem_nil, or_false] at hu; rcases hu with rfl | rfl <;> rfl) (by unfold maxLen; omega) (by omega) hb.size
  refine ⟨v', w', hr, ?_, ⟨h4.os.trans hb.os, h4.tape.trans hb.tape, h4.output.trans hb.output, Nat.le_trans hb.size h4.size, fun j hj => (h4.block j (Nat.lt_of_lt_of_le hj hb.size) (fun e => by have := (h1.lt j e.symm).1; omega)).trans (hb.block j hj)⟩⟩
  unfold ToksAt
  rw [List.length_append, List.flatMap_append]
  simpa using h3
theorem toksLT_take {l : List T} {i : Nat} (hi : i < l.length) : toksLT (l.take (i + 1)) = toksLT (l.take i) ++ toksT (l[i]'hi) := by
  induction l generalizing i with
  | nil => simp at hi
  | cons x r ih =>
    cases i with
    | zero => simp [toksLT]
    | succ i =>
      rw [List.take_succ_cons, List.take_succ_cons]
      unfold toksLT
      rw [ih (by simpa using hi), List.append_assoc]
      rfl
theorem toksLT_le (l : List T) (i : Nat) : (toksLT (l.take i)).length ≤ (toksLT l).length := by
  induction l generalizing i with
  | nil => simp
  | cons x r ih =>
    cases i with
    | zero => simp [toksLT]
    | succ i =>
      rw [List.take_succ_cons]
      unfold toksLT
      rw [List.length_append, List.length_append]
      have := ih i
      omega
set_option maxRecDepth 100000 in
set_option maxHeartbeats 8000000 in
theorem greftk_one (x : T) (W : World) (p : Option Addr) (c : Nat) (hx : NAt AnyB W x (cellsN x p c)) (hc : countT x ≤ 1000000)
    (HREC : Hid (∀ (i : Nat) y, x.kids[i]? = some y → ∀ (w : World) (p : Option Addr) (c : Nat), NAt AnyB w y (cellsN y p c) → Calls Tryz.prog 26 #[aggN y p c] w (ToksEnd (toksT y) w))) :
    Calls Tryz.prog 26 #[aggN x p c] W (ToksEnd (toksT x) W) := by
  obtain ⟨w1, hw1⟩ : ∃ w, W.alloc (.cells #[.int .u8 x.kind, .int .u8 x.tok.1, .string ⟨x.tok.2.toArray⟩, .slice p x.kids.length c] 27) = w := ⟨_, rfl⟩
  have n1 : w1.heap[W.heap.size]? = some (boxN x p c) := by rw [← hw1]; exact World.alloc_heap_new W _
  have b1 : Below W.heap.size W w1 := by rw [← hw1]; exact galloc (Below.refl _ _) _
  have z1 : W.heap.size < w1.heap.size := by rw [← hw1]; simp
  obtain ⟨c0, c1, c2, c3⟩ := box4 n1
  have HB1 := Lib.hid b1
  have HN1 := Lib.hid n1
  have HX := Lib.hid (hx.below b1)
  obtain ⟨R, hR⟩ : ∃ R, toksT x = R := ⟨_, rfl⟩
  have HR := Lib.hid hR
  rw [hR]
  clear n1 b1 hx hR
  by_cases hk2 : x.kind = 2
  · have hk3 : ((x.kind : Int) == 2) = true := by rw [hk2]; rfl
    have hr : R = [] := by
      rw [← HR.out]
      obtain ⟨k, t, ks⟩ := x
      have hk2 : k = 2 := hk2
      subst hk2
      unfold toksT; rw [if_pos rfl]
    subst hr
    clear hk2 HR
    go_enter Tryz.func26, Tryz.ntmps26
    go_wp2_with fail
    go_ret
    exact ⟨.slice none 0 0, rfl, World.ownsRow_nil _ _ _ _, HB1.out⟩
  · have hk3 : ((x.kind : Int) == 2) = false := beq_eq_false_iff_ne.2 (by omega)
    have htx : toksT x = toksLT x.kids ++ (if x.kind = 1 ∧ ¬ emptyT x.tok then [x.tok] else []) := by
      obtain ⟨k, t, ks⟩ := x
      have hk2 : ¬ k = 2 := hk2
      conv => lhs; unfold toksT
      rw [if_neg hk2]
      rfl
    have hkl : x.kids.length ≤ 1000000 ∧ (toksLT x.kids).length ≤ 1000000 := by
      obtain ⟨k, t, ks⟩ := x
      rw [countT_mk] at hc
      have h1 := counts_len ks
      have h2 := toks_counts ks
      exact ⟨by show ks.length ≤ _; omega, by show (toksLT ks).length ≤ _; omega⟩
    have HKL := Lib.hid hkl
    have HTX := Lib.hid htx
    have HI0 : Hid (Below w1.heap.size w1 w1 ∧ ToksAt w1.heap.size w1 (.slice none 0 0) (toksLT (x.kids.take 0))) := Lib.hid ⟨Below.refl _ _, by rw [List.take_zero]; unfold toksLT; exact World.ownsRow_nil _ _ _ _⟩
    clear hk2 htx hkl hc
    go_enter Tryz.func26, Tryz.ntmps26
    go_wp2_with fail
    go_loopw [3, 4] (fun ov iv wr => ∃ (i : Nat), i ≤ x.kids.length ∧ iv = .int .i64 i ∧ (∃ q cq, ov = .slice q (toksLT (x.kids.take i)).length cq) ∧ Hid (Below w1.heap.size w1 wr ∧ ToksAt w1.heap.size wr ov (toksLT (x.kids.take i)))) (fun _ iv _ => x.kids.length - (intOf iv).toNat)
    case atStart => exact ⟨0, by omega, rfl, ⟨none, 0, by rw [List.take_zero]; rfl⟩, HI0⟩
    case round =>
      clear HI0 c0 c1 c2 c3
      obtain ⟨i, hi, rfl, ⟨q, cq, rfl⟩, HI⟩ := hrel
      have hN : wr.heap[W.heap.size]? = some (boxN x p c) := (HI.out.1.block _ z1).trans HN1.out
      obtain ⟨c0, c1, c2, c3⟩ := box4 hN
      rcases Nat.lt_or_ge i x.kids.length with hlt | hge
      · have hlt' : (i : Int) < (x.kids.length : Int) := by omega
        have hwi : IntKind.i64.wrap ((i : Int) + 1) = ((i + 1 : Nat) : Int) := by rw [IntWalk.i64_in _ (by have := HKL.out; omega)]; omega
        obtain ⟨g1, o1, p1, c1', rfl, ⟨k0, k1, k2, k3⟩, hx1⟩ := node_kid (HX.out.below HI.out.1) i hlt
        have ht := toksLT_take hlt
        have hle := toksLT_le x.kids (i + 1)
        rw [ht, List.length_append] at hle
        have hcall := HREC.out i _ (List.getElem?_eq_getElem hlt) wr p1 c1' hx1
        have HTK := Lib.hid ht
        have HLE := Lib.hid (show (toksLT (x.kids.take i)).length + (toksT (x.kids[i]'hlt)).length ≤ 10000000 by have := HKL.out.2; omega)
        clear ht hle hx1 hN
        generalize x.kids[i]'hlt = y at *
        go_wp2_with fail
        refine hcall.mono ?_
        rintro e w5 ⟨v5, rfl, hv5, h5⟩
        obtain ⟨q5, c5, rfl⟩ := owns_shape hv5
        have happ : ∃ v' w', (Builtin.append_ #[51, 51] 51 #[.slice q (toksLT (x.kids.take i)).length cq, .slice q5 (toksT y).length c5]).run Tryz.prog w5 = .ok v' w' ∧ ToksAt w1.heap.size w' v' (toksLT (x.kids.take i) ++ toksT y) ∧ Below w1.heap.size w1 w' := app_toks (owns_below HI.out.2 h5) hv5 (HI.out.1.trans (h5.mono HI.out.1.size)) HLE.out
        clear h5 hcall HI hv5 HREC
        go_wp2_with (at_builtin; refine wpList_run_append rfl _ _ 51 rfl _ _ rfl rfl happ ?_; intro v6 w6 h6; obtain ⟨q6, c6, hq6⟩ := owns_shape h6.1; subst hq6; have HI6 := Lib.hid (And.intro h6.2 h6.1); clear h6)
        refine ⟨⟨i + 1, by omega, rfl, ⟨q6, c6, ?_⟩, ?_⟩, by simp [intOf]; omega⟩
        · rw [HTK.out, List.length_append]
        · rw [HTK.out]
          have h6 := HI6.out.2
          rw [List.length_append] at h6
          exact Lib.hid ⟨HI6.out.1, h6⟩
      · obtain rfl : i = x.kids.length := by omega
        have hlt' : ¬ (x.kids.length : Int) < (x.kids.length : Int) := by omega
        have hI := HI.out
        rw [List.take_length] at hI
        have hl6 := HKL.out.2
        have HE := Lib.hid (HB1.out.trans (hI.1.mono HB1.out.size))
        have HT := Lib.hid hI.2
        by_cases hk1 : x.kind = 1
        · have hk4 : ((x.kind : Int) == 1) = true := by rw [hk1]; rfl
          by_cases he : emptyT x.tok = true
          · have hr : R = toksLT x.kids := by rw [← HR.out, HTX.out, if_neg (by simp [he]), List.append_nil]
            have he2 : x.tok = (0, []) := by unfold emptyT at he; exact beq_iff_eq.1 he
            have e1 : ((x.tok.1 : Int) != 0) = false := by rw [he2]; rfl
            have e2 : (⟨x.tok.2.toArray⟩ : ByteArray) = ⟨#[]⟩ := by rw [he2]
            have e3 : ((⟨#[]⟩ : ByteArray).toList.isEmpty) = true := by rw [Lib.toList_data]; rfl
            rw [e2] at c2
            have HF : Hid (ToksEnd R W (.returned (.slice q (toksLT x.kids).length cq)) wr) := Lib.hid ⟨_, rfl, by rw [hr]; exact owns_base HT.out HB1.out.size, HE.out⟩
            rw [List.take_length]
            clear hr he he2 hk1 HI hI HR HTX HT
            go_wp2
            go_ret
            exact HF.out
          · have hr : R = toksLT x.kids ++ [x.tok] := by rw [← HR.out, HTX.out, if_pos ⟨hk1, he⟩]
            have hblk := World.alloc_heap_new wr (.cells #[.int .u8 x.tok.1, .string ⟨x.tok.2.toArray⟩] 25)
            have hbal : Below wr.heap.size wr (wr.alloc (.cells #[.int .u8 x.tok.1, .string ⟨x.tok.2.toArray⟩] 25)) := galloc (Below.refl _ _) _
            have happ : ∃ v' w', (Builtin.append_ #[51, 51] 51 #[.slice q (toksLT x.kids).length cq, .slice (some ⟨wr.heap.size, 0, none⟩) 1 1]).run Tryz.prog (wr.alloc (.cells #[.int .u8 x.tok.1, .string ⟨x.tok.2.toArray⟩] 25)) = .ok v' w' ∧ ToksAt w1.heap.size w' v' (toksLT x.kids ++ [x.tok]) ∧ Below w1.heap.size w1 w' := app_tok (owns_below HT.out hbal) hblk (hI.1.trans (hbal.mono hI.1.size)) (by omega)
            subst hr
            rw [List.take_length]
            by_cases h0 : x.tok.1 = 0
            · have e1 : ((x.tok.1 : Int) != 0) = false := by rw [h0]; rfl
              have e3 : ((⟨x.tok.2.toArray⟩ : ByteArray).toList.isEmpty) = false := by
                rw [Lib.toList_data]
                cases h2 : x.tok.2 with
                | nil => exact absurd (by unfold emptyT; exact beq_iff_eq.2 (Prod.ext h0 h2)) he
                | cons a b => rfl
              have e4 : x.tok.2 ≠ [] := fun h2 => he (by unfold emptyT; exact beq_iff_eq.2 (Prod.ext h0 h2))
              have e5 : x.tok.2.isEmpty = false := by simpa using e4
              have e6 : (x.tok.2 == []) = false := beq_eq_false_iff_ne.2 e4
              have e7 : ((⟨x.tok.2.toArray⟩ : ByteArray).toList == []) = false := by rw [Lib.toList_data]; exact e6
              have e8 : ((⟨x.tok.2.toArray⟩ : ByteArray).toList != []) = true := by rw [Lib.toList_data]; simpa using e4
              clear h0 he hk1 HI hI HR HTX HT hblk hbal HE hl6
              go_wp2_with (at_builtin; refine wpList_run_append rfl _ _ 51 rfl _ _ rfl rfl happ ?_; intro v6 w6 h6; obtain ⟨q6, c6, hq6⟩ := owns_shape h6.1; subst hq6; have HI6 := Lib.hid (And.intro h6.2 h6.1); clear h6)
              go_ret
              have h7 := HI6.out.2
              rw [List.length_append, List.length_singleton] at h7
              exact ⟨_, rfl, by unfold ToksAt; rw [List.length_append, List.length_singleton]; have h8 := owns_base (show World.ownsRow _ _ _ _ _ _ _ from h7) HB1.out.size; rw [List.length_append, List.length_singleton] at h8; exact h8, HB1.out.trans (HI6.out.1.mono HB1.out.size)⟩
            · have e1 : ((x.tok.1 : Int) != 0) = true := by simpa [bne_iff_ne] using h0
              clear h0 he hk1 HI hI HR HTX HT hblk hbal HE hl6
              go_wp2_with (at_builtin; refine wpList_run_append rfl _ _ 51 rfl _ _ rfl rfl happ ?_; intro v6 w6 h6; obtain ⟨q6, c6, hq6⟩ := owns_shape h6.1; subst hq6; have HI6 := Lib.hid (And.intro h6.2 h6.1); clear h6)
              go_ret
              have h7 := HI6.out.2
              rw [List.length_append, List.length_singleton] at h7
              exact ⟨_, rfl, by unfold ToksAt; rw [List.length_append, List.length_singleton]; have h8 := owns_base (show World.ownsRow _ _ _ _ _ _ _ from h7) HB1.out.size; rw [List.length_append, List.length_singleton] at h8; exact h8, HB1.out.trans (HI6.out.1.mono HB1.out.size)⟩
        · have hk4 : ((x.kind : Int) == 1) = false := beq_eq_false_iff_ne.2 (by omega)
          have hr : R = toksLT x.kids := by rw [← HR.out, HTX.out, if_neg (by simp [hk1]), List.append_nil]
          have HF : Hid (ToksEnd R W (.returned (.slice q (toksLT x.kids).length cq)) wr) := Lib.hid ⟨_, rfl, by rw [hr]; exact owns_base HT.out HB1.out.size, HE.out⟩
          rw [List.take_length]
          clear hr hk1 HI hI HR HTX HT
          go_wp2
          go_ret
          exact HF.out
theorem greftk_deep : ∀ (n : Nat) (x : T), countT x ≤ n → n ≤ 1000000 → ∀ (W : World) (p : Option Addr) (c : Nat), NAt AnyB W x (cellsN x p c) → Calls Tryz.prog 26 #[aggN x p c] W (ToksEnd (toksT x) W)
  | 0, .mk k t ks, hc, _, _, _, _, _ => by rw [countT_mk] at hc; omega
  | n + 1, .mk k t ks, hc, hn, W, p, c, h => by
    refine greftk_one (.mk k t ks) W p c h (by omega) (Lib.hid fun i y hy w p c h1 => greftk_deep n y ?_ (by omega) w p c h1)
    rw [countT_mk] at hc
    have := counts_at ks i y hy
    omega
theorem greftk_any (x : T) (W : World) (p : Option Addr) (c : Nat) (hx : NAt AnyB W x (cellsN x p c)) (hc : countT x ≤ 1000000) : Calls Tryz.prog 26 #[aggN x p c] W (ToksEnd (toksT x) W) :=
  greftk_deep _ x (Nat.le_refl _) hc W p c hx
end Go.Proofs.YtingfomfibhnhaaGreatDoor
