/-
  The worth's own methods: integer, text, sign, top; the tables that are laid.
  text; compareSizes; compare.
  Own, Cmp, Int, Of.
  Int.
  awake; DecBack.
-/
import Derived.Test.YtgcpgieojckheaaGreatDoorMgH
import Derived.Test.YtgcpgieojckheaaGreatDoorShelf2
import Derived.Lib.SmallJoins
import Derived.Lib.AppendIntMem
namespace Go.Proofs.YtgcpgieojckheaaGreatDoor
open Go.RowKit Go.Shelf

/-- What the program's own variables hold: the table of powers, and errors. -/
def Tab (w : World) : Prop := Lib.TabIs Tryz.prog w "internal/strconv.uint64pow10" .u64 Lib.pow10Tab ∧ ∃ ev, w.cell? ⟨1, 0, none⟩ = some ev ∧ (ev = .nilIface ∨ ∃ te pe, ev = .iface te pe)
theorem pow_global : ∃ g, Tryz.prog.globalNamed "internal/strconv.uint64pow10" = some g := Option.isSome_iff_exists.1 (show (Tryz.prog.globalNamed "internal/strconv.uint64pow10").isSome = true by kernel_rfl)
theorem Tab.below {w w' : World} (h : Tab w) (hb : Below w.heap.size w w') : Tab w' := by
  obtain ⟨g, hg⟩ := pow_global
  obtain ⟨h1, ev, h2, h3⟩ := h
  exact ⟨Go.Joins.tab_stays hg h1 hb (Nat.le_refl _), ev, (hb.cell (p := ⟨1, 0, none⟩) (World.block_lt_of_cell? w _ h2)).trans h2, h3⟩
theorem of_list {s : ByteArray} {l : List UInt8} (h : s.data.toList = l) : s = ⟨l.toArray⟩ := by rw [← h]
theorem app_list (a b : ByteArray) : (a ++ b).data.toList = a.data.toList ++ b.data.toList := by rw [ByteArray.data_append, Array.toList_append]
theorem clone_any (s : ByteArray) (w : World) (hs : s.size ≤ 1000000000) :
    Calls Tryz.prog 82 #[.string s] w fun e w' => e = .returned (.string s) ∧ Below w.heap.size w w' := by
  go_enter Tryz.func82, Tryz.ntmps82
  go_wp2_with fail
  refine (Tryz.stringslite_Clone s w (by omega)).mono ?_
  rintro e w' ⟨rfl, hb⟩
  go_wp2
  go_ret
  exact ⟨rfl, hb⟩
def sgn (neg : Bool) : List UInt8 := if neg then [45] else []
theorem integer_any (neg : Bool) (t : ByteArray) (x : Int) (w : World) (hs : t.size ≤ 1000000000) :
    Calls Tryz.prog 49 #[.agg #[.bool neg, .string t, .int .i64 x]] w fun e w' => e = .returned (bl (sgn neg ++ t.data.toList)) ∧ Below w.heap.size w w' := by
  cases neg with
  | true =>
    have HE : Hid (Value.string ((⟨#[45]⟩ : ByteArray) ++ t) = bl (sgn true ++ t.data.toList)) := Lib.hid (by
      unfold bl sgn; rw [of_list (app_list ⟨#[45]⟩ t)]; rfl)
    go_enter Tryz.func49, Tryz.ntmps49
    go_wp2
    go_ret
    exact ⟨by rw [← HE.out]; rfl, galloc (Below.refl _ _) _⟩
  | false =>
    have HE : Hid (Value.string t = bl (sgn false ++ t.data.toList)) := Lib.hid (by unfold bl sgn; rfl)
    have hc := fun W => clone_any t W hs
    go_enter Tryz.func49, Tryz.ntmps49
    go_wp2_with fail
    refine (hc _).mono ?_
    rintro e w1 ⟨rfl, hb⟩
    have HB := Lib.hid hb
    clear hb hc
    go_wp2
    go_ret
    exact ⟨by rw [← HE.out]; rfl, gcall (galloc (Below.refl _ _) _) HB.out⟩
theorem text_digits {n : Num} (hc : Canon n) : textD n = [48] ↔ n.digits = [] := by
  unfold textD
  by_cases h : n.digits = []
  · rw [if_pos h]; simp [h]
  · rw [if_neg h]
    constructor
    · intro e; exact absurd (by rw [e]; rfl) hc.first
    · intro e; exact absurd e h
theorem sign_any (n : Num) (w : World) (hc : Canon n) :
    Calls Tryz.prog 89 #[numV n] w fun e w' => e = .returned (.int .i64 (signN n)) ∧ Below w.heap.size w w' := by
  obtain ⟨T, hT⟩ : ∃ t : ByteArray, (⟨(textD n).toArray⟩ : ByteArray) = t := ⟨_, rfl⟩
  have eT : T.toList = textD n := by rw [Lib.toList_data, ← hT]
  have hV : numV n = .agg #[.bool n.neg, .string T, .int .i64 n.exp] := by unfold numV bl; rw [hT]
  rw [hV]
  have hd := text_digits hc
  clear hV hT hc
  by_cases h0 : n.digits = []
  · have HS : Hid (signN n = 0) := Lib.hid (by unfold signN; rw [if_pos h0])
    have h1 : (T.toList == [48]) = true := by rw [eT, hd.2 h0]; rfl
    clear eT hd h0
    go_enter Tryz.func89, Tryz.ntmps89
    go_wp2
    go_ret
    exact ⟨by rw [HS.out]; rfl, galloc (Below.refl _ _) _⟩
  · have h1 : (T.toList == [48]) = false := by
      rw [eT]
      cases hx : (textD n == [48]) with
      | false => rfl
      | true => exact absurd (hd.1 (by simpa using hx)) h0
    have HS : Hid (signN n = if n.neg then -1 else 1) := Lib.hid (by unfold signN; rw [if_neg h0])
    clear eT hd h0
    cases hn : n.neg with
    | true =>
      rw [hn] at HS
      clear hn
      go_enter Tryz.func89, Tryz.ntmps89
      go_wp2
      go_ret
      exact ⟨by rw [HS.out]; rfl, galloc (Below.refl _ _) _⟩
    | false =>
      rw [hn] at HS
      clear hn
      go_enter Tryz.func89, Tryz.ntmps89
      go_wp2
      go_ret
      exact ⟨by rw [HS.out]; rfl, galloc (Below.refl _ _) _⟩
theorem top_any (neg : Bool) (t : ByteArray) (x : Int) (w : World) (hs : t.size ≤ 1000000000) (h1 : -10000 ≤ x) (h2 : x ≤ 10000) :
    Calls Tryz.prog 136 #[.agg #[.bool neg, .string t, .int .i64 x]] w fun e w' => e = .returned (.int .i64 (x + t.size)) ∧ Below w.heap.size w w' := by
  have hw : IntKind.i64.wrap (x + t.size) = x + t.size := IntWalk.i64_in _ (by omega)
  go_enter Tryz.func136, Tryz.ntmps136
  go_wp2
  go_ret
  exact ⟨rfl, galloc (Below.refl _ _) _⟩
theorem isNaN64 (x : Int) (w : World) : Calls Tryz.prog 178 #[.int .i64 x] w fun e w' => e = .returned (.bool false) ∧ w = w' := by
  have h : (x == x) = true := by simp
  have h' : (x != x) = false := by simp
  go_enter Tryz.func178, Tryz.ntmps178
  go_wp2
  go_ret
  exact ⟨rfl, rfl⟩
theorem compare64 (x y : Int) (w : World) : Calls Tryz.prog 137 #[.int .i64 x, .int .i64 y] w fun e w' => e = .returned (.int .i64 (cmpI x y)) ∧ w = w' := by
  have HC : Hid (cmpI x y = if x < y then -1 else if y < x then 1 else 0) := Lib.hid rfl
  go_enter Tryz.func137, Tryz.ntmps137
  go_wp2_with (go_at_call 178; refine (isNaN64 _ _).mono ?_; rintro e w1 ⟨rfl, rfl⟩)
  all_goals (go_ret; refine ⟨?_, rfl⟩; rw [HC.out]; (repeat' split) <;> first | rfl | (exfalso; omega))
end Go.Proofs.YtgcpgieojckheaaGreatDoor
namespace Go.Proofs.YtgcpgieojckheaaGreatDoor
open Go.RowKit Go.Shelf

theorem formatInt_any (x : Int) (w : World) (ht : Tab w) (h0 : -9223372036854775808 ≤ x) (h1 : x ≤ 9223372036854775807) :
    Calls Tryz.prog 51 #[.int .i64 x, .int .i64 10] w fun e w' => e = .returned (bl (Lib.itoa x)) ∧ Below w.heap.size w w' := by
  refine (Tryz.strconv_FormatInt_10 x h0 h1 w ht.1).mono ?_
  rintro e w' ⟨rfl, k, os, rfl⟩
  exact ⟨rfl, Lib.below_grow _ _ (Nat.le_refl _) k os⟩
theorem decDigits_le (u : Nat) : (Lib.decDigits u).length ≤ u + 1 := by
  induction u using Nat.strongRecOn with
  | _ u ih =>
    rw [Lib.decDigits]
    split
    · simp
    · have := ih (u / 10) (by omega)
      simp; omega
theorem itoa_len (x : Int) : (Lib.itoa x).length ≤ x.natAbs + 2 := by
  unfold Lib.itoa
  split
  · have := decDigits_le x.natAbs
    simp; omega
  · have := decDigits_le x.toNat
    omega
theorem digits_len {n : Num} (hl : tooLarge n = false) : n.digits.length ≤ 200 ∧ -9999 ≤ n.exp ∧ n.exp ≤ 9999 := by
  unfold tooLarge at hl
  simp at hl
  omega
theorem textD_len {n : Num} (hl : tooLarge n = false) : (textD n).length ≤ 200 := by
  have := (digits_len hl).1
  unfold textD; split
  · simp
  · exact this
theorem wholeForm_eq {n : Num} (hc : Canon n) : wholeForm n = sgn n.neg ++ textD n := by
  unfold wholeForm textD sgn
  by_cases h : n.digits = []
  · rw [if_pos h, if_pos h, (hc.zero h).1]; rfl
  · rw [if_neg h, if_neg h]
set_option maxHeartbeats 1000000 in
theorem text_any (n : Num) (w : World) (ht : Tab w) (hc : Canon n) (hl : tooLarge n = false) :
    Calls Tryz.prog 45 #[numV n] w fun e w' => e = .returned (bl (form n)) ∧ Below w.heap.size w w' := by
  obtain ⟨T, hT⟩ : ∃ t : ByteArray, (⟨(textD n).toArray⟩ : ByteArray) = t := ⟨_, rfl⟩
  have eT : T.data.toList = textD n := by rw [← hT]
  have hz : T.size ≤ 1000000000 := by rw [Lib.size_eq, eT]; have := textD_len hl; omega
  have hV : numV n = .agg #[.bool n.neg, .string T, .int .i64 n.exp] := by unfold numV bl; rw [hT]
  rw [hV]
  have hx := digits_len hl
  obtain ⟨s, hs⟩ : ∃ s : ByteArray, (⟨(sgn n.neg ++ T.data.toList).toArray⟩ : ByteArray) = s := ⟨_, rfl⟩
  have hi := fun W => integer_any n.neg T n.exp W hz
  unfold bl at hi
  rw [hs] at hi
  have es : s.data.toList = wholeForm n := by rw [← hs, wholeForm_eq hc, eT]
  by_cases h0 : n.exp = 0
  · have HF : Hid (Value.string s = bl (form n)) := Lib.hid (by
      unfold bl
      rw [of_list es]
      unfold form expForm
      rw [if_pos h0, List.append_nil])
    rw [h0] at hi ⊢
    clear hT eT hV hs es h0 hl hc hx
    go_enter Tryz.func45, Tryz.ntmps45
    go_wp2_with fail
    refine (hi _).mono ?_
    rintro e w1 ⟨rfl, hb⟩
    have HB := Lib.hid hb
    clear hb hi
    go_wp2
    go_ret
    exact ⟨by rw [← HF.out]; rfl, gcall (galloc (Below.refl _ _) _) HB.out⟩
  · obtain ⟨D, hD⟩ : ∃ s : ByteArray, (⟨(Lib.itoa n.exp).toArray⟩ : ByteArray) = s := ⟨_, rfl⟩
    have hf := fun W (hW : Below w.heap.size w W) => formatInt_any n.exp W (ht.below hW) (by omega) (by omega)
    unfold bl at hf
    rw [hD] at hf
    have HF : Hid (Value.string (s ++ (⟨#[101]⟩ : ByteArray) ++ D) = bl (form n)) := Lib.hid (by
      unfold bl
      have e1 : (s ++ (⟨#[101]⟩ : ByteArray) ++ D).data.toList = form n := by
        rw [app_list, app_list, es, ← hD]
        unfold form expForm
        rw [if_neg h0]
        simp
      rw [of_list e1])
    have zs : s.size ≤ 1000000001 := by rw [Lib.size_eq, es]; have := textD_len hl; rw [wholeForm_eq hc]; unfold sgn; split <;> simp <;> omega
    have zD : D.size ≤ 20000 := by rw [Lib.size_eq, ← hD]; have := itoa_len n.exp; simp; omega
    have za1 : ¬ 9223372036854775807 < s.size + 1 := by omega
    have za2 : ¬ 9223372036854775807 < s.size + 1 + D.size := by omega
    have h0' : (n.exp == 0) = false := by simpa using h0
    generalize n.exp = x at *
    generalize n.neg = ng at *
    clear hT eT hV hs es h0 hl hc hD
    go_enter Tryz.func45, Tryz.ntmps45
    go_wp2
    have B0 : Below w.heap.size w (w.alloc (.cells #[.bool ng, .string T, .int .i64 x] 68)) := galloc (Below.refl _ _) _
    have k := World.alloc_heap_new w (.cells #[.bool ng, .string T, .int .i64 x] 68)
    generalize w.alloc (.cells #[.bool ng, .string T, .int .i64 x] 68) = W0 at *
    obtain ⟨k0, k1, k2, _⟩ := cells3 k
    have hlt : w.heap.size < W0.heap.size := World.block_lt_of_cell? W0 _ k0
    have HB0 := Lib.hid B0
    clear B0 k
    go_region_held3 (fun u => u.cell? ⟨w.heap.size, 0, none⟩ = some (.bool ng) ∧ u.cell? ⟨w.heap.size, 1, none⟩ = some (.string T) ∧ u.cell? ⟨w.heap.size, 2, none⟩ = some (.int .i64 x)) (first | exact ⟨k0, k1, k2⟩ | (with_reducible exact ⟨j0, j1, j2⟩) | (with_reducible exact ⟨i0, i1, i2⟩) | go_keep) (first | (go_at_call 49; (with_reducible refine Calls.mono (hi _) ?_); rintro e v1 ⟨rfl, hb1⟩; have gg1 : Below w.heap.size w v1 := gcall HB0.out.drew hb1; have j0 := (hb1.cell (p := ⟨w.heap.size, 0, none⟩) hlt).trans k0; have j1 := (hb1.cell (p := ⟨w.heap.size, 1, none⟩) hlt).trans k1; have j2 := (hb1.cell (p := ⟨w.heap.size, 2, none⟩) hlt).trans k2; have hlt1 : w.heap.size < v1.heap.size := World.block_lt_of_cell? v1 _ j0) | (go_at_call 51; (with_reducible refine Calls.mono (hf _ gg1) ?_); rintro e v2 ⟨rfl, hb2⟩; have gg2 : Below w.heap.size w v2 := gcall gg1 hb2; have i0 := (hb2.cell (p := ⟨w.heap.size, 0, none⟩) hlt1).trans j0; have i1 := (hb2.cell (p := ⟨w.heap.size, 1, none⟩) hlt1).trans j1; have i2 := (hb2.cell (p := ⟨w.heap.size, 2, none⟩) hlt1).trans j2))
    have HG := Lib.hid gg2
    go_wp2
    go_ret
    exact ⟨by rw [← HF.out]; rfl, HG.out⟩

/-- Two worths lie in two boxes. -/
structure Two (N : Nat) (na : Bool) (TA : ByteArray) (ea : Int) (nb : Bool) (TB : ByteArray) (eb : Int) (W : World) : Prop where
  a : W.heap[N]? = some (.cells #[.bool na, .string TA, .int .i64 ea] 68 (0, 0))
  b : W.heap[N + 1]? = some (.cells #[.bool nb, .string TB, .int .i64 eb] 68 (0, 0))
theorem Two.cells {N : Nat} {na nb : Bool} {TA TB : ByteArray} {ea eb : Int} {W : World} (h : Two N na TA ea nb TB eb W) :
    W.cell? ⟨N, 0, none⟩ = some (.bool na) ∧ W.cell? ⟨N, 1, none⟩ = some (.string TA) ∧ W.cell? ⟨N, 2, none⟩ = some (.int .i64 ea) ∧ W.cell? ⟨N + 1, 0, none⟩ = some (.bool nb) ∧ W.cell? ⟨N + 1, 1, none⟩ = some (.string TB) ∧ W.cell? ⟨N + 1, 2, none⟩ = some (.int .i64 eb) := by
  obtain ⟨a, b, c, _⟩ := cells3 h.a
  obtain ⟨d, e, f, _⟩ := cells3 h.b
  exact ⟨a, b, c, d, e, f⟩
theorem Two.lt {N : Nat} {na nb : Bool} {TA TB : ByteArray} {ea eb : Int} {W : World} (h : Two N na TA ea nb TB eb W) : N + 1 < W.heap.size := (Array.getElem?_eq_some_iff.1 h.b).1
theorem Two.below {N : Nat} {na nb : Bool} {TA TB : ByteArray} {ea eb : Int} {W W' : World} (h : Two N na TA ea nb TB eb W) (hb : Below W.heap.size W W') : Two N na TA ea nb TB eb W' := by
  have := h.lt
  exact ⟨(hb.block _ (by omega)).trans h.a, (hb.block _ (by omega)).trans h.b⟩
theorem Two.here (w : World) (na : Bool) (TA : ByteArray) (ea : Int) (nb : Bool) (TB : ByteArray) (eb : Int) :
    Two w.heap.size na TA ea nb TB eb ((w.alloc (.cells #[.bool na, .string TA, .int .i64 ea] 68)).alloc (.cells #[.bool nb, .string TB, .int .i64 eb] 68)) ∧
      Below w.heap.size w ((w.alloc (.cells #[.bool na, .string TA, .int .i64 ea] 68)).alloc (.cells #[.bool nb, .string TB, .int .i64 eb] 68)) := by
  refine ⟨⟨(Below.heap_alloc _ _ _ (by simp)).trans (World.alloc_heap_new w _), ?_⟩, galloc (galloc (Below.refl _ _) _) _⟩
  have := World.alloc_heap_new (w.alloc (.cells #[.bool na, .string TA, .int .i64 ea] 68)) (.cells #[.bool nb, .string TB, .int .i64 eb] 68)
  have hz : (w.alloc (.cells #[.bool na, .string TA, .int .i64 ea] 68)).heap.size = w.heap.size + 1 := by simp
  rw [hz] at this
  exact this
theorem numV_eq (n : Num) : ∃ T : ByteArray, T.data.toList = textD n ∧ numV n = .agg #[.bool n.neg, .string T, .int .i64 n.exp] := ⟨⟨(textD n).toArray⟩, rfl, rfl⟩
def topT (n : Num) : Int := n.exp + ((textD n).length : Int)
def sizesT (a b : Num) : Int := if topT a ≠ topT b then cmpI (topT a) (topT b) else lex (textD a) (textD b)
theorem top_eq {n : Num} {T : ByteArray} (hT : T.data.toList = textD n) : n.exp + (T.size : Int) = topT n := by
  unfold topT; rw [Lib.size_eq, hT]
theorem cmpI_range (a b : Int) : -1 ≤ cmpI a b ∧ cmpI a b ≤ 1 := by
  unfold cmpI; split
  · omega
  · split <;> omega
theorem sizesT_range (a b : Num) : -1 ≤ sizesT a b ∧ sizesT a b ≤ 1 := by
  unfold sizesT
  split
  · exact cmpI_range _ _
  · have := lex_range (textD a) (textD b); omega
theorem sizesT_eq {a b : Num} (h : signN a = signN b) : signN a * sizesT a b = signN a * sizes a b := by
  by_cases ha : a.digits = []
  · have : signN a = 0 := by unfold signN; rw [if_pos ha]
    rw [this]; simp
  · have hb : b.digits ≠ [] := by
      intro hb
      have h1 : signN b = 0 := by unfold signN; rw [if_pos hb]
      rw [h1] at h
      unfold signN at h
      rw [if_neg ha] at h
      split at h <;> omega
    have e1 : textD a = a.digits := by unfold textD; rw [if_neg ha]
    have e2 : textD b = b.digits := by unfold textD; rw [if_neg hb]
    unfold sizesT sizes topT topN
    rw [e1, e2]
set_option maxHeartbeats 2000000 in
theorem sizes_any (a b : Num) (w : World) (la : tooLarge a = false) (lb : tooLarge b = false) :
    Calls Tryz.prog 91 #[numV a, numV b] w fun e w' => e = .returned (.int .i64 (sizesT a b)) ∧ Below w.heap.size w w' := by
  obtain ⟨TA, eA, hA⟩ := numV_eq a
  obtain ⟨TB, eB, hB⟩ := numV_eq b
  rw [hA, hB]
  have xa := digits_len la
  have xb := digits_len lb
  have za : TA.size ≤ 1000000000 := by rw [Lib.size_eq, eA]; have := textD_len la; omega
  have zb : TB.size ≤ 1000000000 := by rw [Lib.size_eq, eB]; have := textD_len lb; omega
  have cA := fun W => top_any a.neg TA a.exp W za (by omega) (by omega)
  have cB := fun W => top_any b.neg TB b.exp W zb (by omega) (by omega)
  rw [top_eq eA] at cA
  rw [top_eq eB] at cB
  have HS : Hid (sizesT a b = if topT a ≠ topT b then cmpI (topT a) (topT b) else lex (textD a) (textD b)) := Lib.hid rfl
  have cS : ∀ W, Calls Tryz.prog 138 #[.string TA, .string TB] W fun e w' => e = .returned (.int .i64 (lex (textD a) (textD b))) ∧ W = w' := fun W => (Tryz.strings_Compare TA TB W).mono (fun _ _ ⟨h1, h2⟩ => ⟨by
    rw [h1, compare_lex, eA, eB], h2.symm⟩)
  generalize lex (textD a) (textD b) = L at *
  generalize topT a = X at *
  generalize topT b = Y at *
  generalize sizesT a b = Z at *
  generalize a.neg = na at *
  generalize b.neg = nb at *
  generalize a.exp = ea at *
  generalize b.exp = eb at *
  clear hA hB eA eB xa xb za zb la lb
  obtain ⟨T0, B0⟩ := Two.here w na TA ea nb TB eb
  by_cases hXY : X = Y
  · subst hXY
    rw [if_neg (by simp)] at HS
    have hq1 : (X == X) = true := by simp
    have hq2 : (X != X) = false := by simp
    go_enter Tryz.func91, Tryz.ntmps91
    go_wp2
    generalize (w.alloc (.cells #[.bool na, .string TA, .int .i64 ea] 68)).alloc (.cells #[.bool nb, .string TB, .int .i64 eb] 68) = W0 at *
    have HB0 := Lib.hid B0
    have HT0 := Lib.hid T0
    have c0 := T0.cells
    clear T0 B0
    go_region_held3 (fun u => u.cell? ⟨w.heap.size, 0, none⟩ = some (.bool na) ∧ u.cell? ⟨w.heap.size, 1, none⟩ = some (.string TA) ∧ u.cell? ⟨w.heap.size, 2, none⟩ = some (.int .i64 ea) ∧ u.cell? ⟨w.heap.size + 1, 0, none⟩ = some (.bool nb) ∧ u.cell? ⟨w.heap.size + 1, 1, none⟩ = some (.string TB) ∧ u.cell? ⟨w.heap.size + 1, 2, none⟩ = some (.int .i64 eb)) (first | exact c0 | (with_reducible exact c1) | (with_reducible exact c2) | go_keep) (first | (go_at_call 136; (with_reducible refine Calls.mono (cA _) ?_); rintro e v1 ⟨rfl, hb1⟩; have gg1 : Below w.heap.size w v1 := gcall HB0.out.drew hb1; have T1 := HT0.out.below ((Below.refl _ _).drew.trans hb1); have c1 := T1.cells) | (go_at_call 136; (with_reducible refine Calls.mono (cB _) ?_); rintro e v2 ⟨rfl, hb2⟩; have gg2 : Below w.heap.size w v2 := gcall gg1 hb2; have T2 := T1.below hb2; have c2 := T2.cells))
    have HG2 := Lib.hid gg2
    obtain ⟨q0, q1, q2, q3, q4, q5⟩ := T2.cells
    clear c0 c1 c2 T1 T2 gg1 gg2 hb1 hb2 HB0 HT0
    go_wp2_with fail
    refine (cS _).mono ?_
    rintro e w1 ⟨rfl, rfl⟩
    go_wp2
    go_ret
    exact ⟨by rw [HS.out]; rfl, HG2.out⟩
  · rw [if_pos hXY] at HS
    have hq1 : (X == Y) = false := by simpa using hXY
    have hq2 : (X != Y) = true := by simpa using hXY
    clear hXY
    go_enter Tryz.func91, Tryz.ntmps91
    go_wp2
    generalize (w.alloc (.cells #[.bool na, .string TA, .int .i64 ea] 68)).alloc (.cells #[.bool nb, .string TB, .int .i64 eb] 68) = W0 at *
    have HB0 := Lib.hid B0
    have HT0 := Lib.hid T0
    have c0 := T0.cells
    clear T0 B0
    go_region_held3 (fun u => u.cell? ⟨w.heap.size, 0, none⟩ = some (.bool na) ∧ u.cell? ⟨w.heap.size, 1, none⟩ = some (.string TA) ∧ u.cell? ⟨w.heap.size, 2, none⟩ = some (.int .i64 ea) ∧ u.cell? ⟨w.heap.size + 1, 0, none⟩ = some (.bool nb) ∧ u.cell? ⟨w.heap.size + 1, 1, none⟩ = some (.string TB) ∧ u.cell? ⟨w.heap.size + 1, 2, none⟩ = some (.int .i64 eb)) (first | exact c0 | (with_reducible exact c1) | (with_reducible exact c2) | go_keep) (first | (go_at_call 136; (with_reducible refine Calls.mono (cA _) ?_); rintro e v1 ⟨rfl, hb1⟩; have gg1 : Below w.heap.size w v1 := gcall HB0.out.drew hb1; have T1 := HT0.out.below ((Below.refl _ _).drew.trans hb1); have c1 := T1.cells) | (go_at_call 136; (with_reducible refine Calls.mono (cB _) ?_); rintro e v2 ⟨rfl, hb2⟩; have gg2 : Below w.heap.size w v2 := gcall gg1 hb2; have T2 := T1.below hb2; have c2 := T2.cells))
    have HG2 := Lib.hid gg2
    have HT2 := Lib.hid T2
    have d0 := T2.cells
    clear c0 c1 c2 T1 T2 gg1 gg2 hb1 hb2 HB0 HT0
    go_wp2
    go_region_held3 (fun u => u.cell? ⟨w.heap.size, 0, none⟩ = some (.bool na) ∧ u.cell? ⟨w.heap.size, 1, none⟩ = some (.string TA) ∧ u.cell? ⟨w.heap.size, 2, none⟩ = some (.int .i64 ea) ∧ u.cell? ⟨w.heap.size + 1, 0, none⟩ = some (.bool nb) ∧ u.cell? ⟨w.heap.size + 1, 1, none⟩ = some (.string TB) ∧ u.cell? ⟨w.heap.size + 1, 2, none⟩ = some (.int .i64 eb)) (first | exact d0 | (with_reducible exact d1) | (with_reducible exact d2) | go_keep) (first | (go_at_call 136; (with_reducible refine Calls.mono (cA _) ?_); rintro e v3 ⟨rfl, hb3⟩; have gg3 : Below w.heap.size w v3 := gcall HG2.out.drew hb3; have T3 := HT2.out.below ((Below.refl _ _).drew.trans hb3); have d1 := T3.cells) | (go_at_call 136; (with_reducible refine Calls.mono (cB _) ?_); rintro e v4 ⟨rfl, hb4⟩; have gg4 : Below w.heap.size w v4 := gcall gg3 hb4; have T4 := T3.below hb4; have d2 := T4.cells) | (go_at_call 137; (with_reducible refine Calls.mono (compare64 _ _ _) ?_); rintro e v5 ⟨rfl, rfl⟩))
    have HG4 := Lib.hid gg4
    clear d0 d1 d2 T3 T4 gg3 gg4 hb3 hb4 HG2 HT2
    go_wp2
    go_ret
    exact ⟨by rw [HS.out]; rfl, HG4.out⟩
theorem compareInt_any (x y : Int) (w : World) : Calls Tryz.prog 90 #[.int .i64 x, .int .i64 y] w fun e w' => e = .returned (.int .i64 (cmpI x y)) ∧ w = w' :=
  (Tryz.cmp_Compare_int x y w).mono fun _ _ ⟨h1, h2⟩ => ⟨h1, h2.symm⟩
theorem mul_range {x y : Int} (h1 : x = -1 ∨ x = 0 ∨ x = 1) (h2 : -1 ≤ y) (h3 : y ≤ 1) : -1 ≤ x * y ∧ x * y ≤ 1 := by
  rcases h1 with rfl | rfl | rfl <;> omega
set_option maxHeartbeats 2000000 in
theorem compare_any (a b : Num) (w : World) (ka : Canon a) (kb : Canon b) (la : tooLarge a = false) (lb : tooLarge b = false) :
    Calls Tryz.prog 53 #[numV a, numV b] w fun e w' => e = .returned (.int .i64 (cmpN a b)) ∧ Below w.heap.size w w' := by
  obtain ⟨TA, eA, hA⟩ := numV_eq a
  obtain ⟨TB, eB, hB⟩ := numV_eq b
  have cA := fun W => sign_any a W ka
  have cB := fun W => sign_any b W kb
  have cS := fun W => sizes_any a b W la lb
  rw [hA, hB] at cS ⊢
  rw [hA] at cA
  rw [hB] at cB
  have HS : Hid (cmpN a b = if signN a ≠ signN b then cmpI (signN a) (signN b) else signN a * sizesT a b) := Lib.hid (by
    unfold cmpN
    by_cases h : signN a = signN b
    · rw [if_neg (by simpa using h), if_neg (by simpa using h), sizesT_eq h]
    · rw [if_pos h, if_pos h])
  have hr := sizesT_range a b
  have hm := mul_range (signN_range a) hr.1 hr.2
  generalize sizesT a b = Z at *
  generalize signN a = X at *
  generalize signN b = Y at *
  generalize cmpN a b = R at *
  generalize a.neg = na at *
  generalize b.neg = nb at *
  generalize a.exp = ea at *
  generalize b.exp = eb at *
  clear hA hB eA eB ka kb la lb hr
  obtain ⟨T0, B0⟩ := Two.here w na TA ea nb TB eb
  by_cases hXY : X = Y
  · subst hXY
    rw [if_neg (by simp)] at HS
    have hq1 : (X == X) = true := by simp
    have hq2 : (X != X) = false := by simp
    have hw : IntKind.i64.wrap (X * Z) = X * Z := IntWalk.i64_in _ (by omega)
    go_enter Tryz.func53, Tryz.ntmps53
    go_wp2
    generalize (w.alloc (.cells #[.bool na, .string TA, .int .i64 ea] 68)).alloc (.cells #[.bool nb, .string TB, .int .i64 eb] 68) = W0 at *
    have HB0 := Lib.hid B0
    have HT0 := Lib.hid T0
    have c0 := T0.cells
    clear T0 B0
    go_region_held3 (fun u => u.cell? ⟨w.heap.size, 0, none⟩ = some (.bool na) ∧ u.cell? ⟨w.heap.size, 1, none⟩ = some (.string TA) ∧ u.cell? ⟨w.heap.size, 2, none⟩ = some (.int .i64 ea) ∧ u.cell? ⟨w.heap.size + 1, 0, none⟩ = some (.bool nb) ∧ u.cell? ⟨w.heap.size + 1, 1, none⟩ = some (.string TB) ∧ u.cell? ⟨w.heap.size + 1, 2, none⟩ = some (.int .i64 eb)) (first | exact c0 | (with_reducible exact cv1) | (with_reducible exact cv2) | go_keep) (first | (go_at_call 89; (with_reducible refine Calls.mono (cA _) ?_); rintro e v1 ⟨rfl, hbv1⟩; have ggv1 : Below w.heap.size w v1 := gcall HB0.out.drew hbv1; have Tv1 := HT0.out.below ((Below.refl _ _).drew.trans hbv1); have cv1 := Tv1.cells) | (go_at_call 89; (with_reducible refine Calls.mono (cB _) ?_); rintro e v2 ⟨rfl, hbv2⟩; have ggv2 : Below w.heap.size w v2 := gcall ggv1 hbv2; have Tv2 := Tv1.below hbv2; have cv2 := Tv2.cells))
    have HG2 := Lib.hid ggv2
    have HT2 := Lib.hid Tv2
    have d0 := Tv2.cells
    clear c0 cv1 cv2 Tv1 Tv2 ggv1 ggv2 hbv1 hbv2 HB0 HT0
    go_wp2
    go_region_held3 (fun u => u.cell? ⟨w.heap.size, 0, none⟩ = some (.bool na) ∧ u.cell? ⟨w.heap.size, 1, none⟩ = some (.string TA) ∧ u.cell? ⟨w.heap.size, 2, none⟩ = some (.int .i64 ea) ∧ u.cell? ⟨w.heap.size + 1, 0, none⟩ = some (.bool nb) ∧ u.cell? ⟨w.heap.size + 1, 1, none⟩ = some (.string TB) ∧ u.cell? ⟨w.heap.size + 1, 2, none⟩ = some (.int .i64 eb)) (first | exact d0 | (with_reducible exact cv3) | (with_reducible exact cv4) | go_keep) (first | (go_at_call 89; (with_reducible refine Calls.mono (cA _) ?_); rintro e v3 ⟨rfl, hbv3⟩; have ggv3 : Below w.heap.size w v3 := gcall HG2.out.drew hbv3; have Tv3 := HT2.out.below ((Below.refl _ _).drew.trans hbv3); have cv3 := Tv3.cells) | (go_at_call 91; (with_reducible refine Calls.mono (cS _) ?_); rintro e v4 ⟨rfl, hbv4⟩; have ggv4 : Below w.heap.size w v4 := gcall ggv3 hbv4; have Tv4 := Tv3.below hbv4; have cv4 := Tv4.cells))
    have HG4 := Lib.hid ggv4
    clear d0 cv3 cv4 Tv3 Tv4 ggv3 ggv4 hbv3 hbv4 HG2 HT2
    go_wp2
    go_ret
    exact ⟨by rw [HS.out]; rfl, HG4.out⟩
  · rw [if_pos hXY] at HS
    have hq1 : (X == Y) = false := by simpa using hXY
    have hq2 : (X != Y) = true := by simpa using hXY
    clear hXY hm
    go_enter Tryz.func53, Tryz.ntmps53
    go_wp2
    generalize (w.alloc (.cells #[.bool na, .string TA, .int .i64 ea] 68)).alloc (.cells #[.bool nb, .string TB, .int .i64 eb] 68) = W0 at *
    have HB0 := Lib.hid B0
    have HT0 := Lib.hid T0
    have c0 := T0.cells
    clear T0 B0
    go_region_held3 (fun u => u.cell? ⟨w.heap.size, 0, none⟩ = some (.bool na) ∧ u.cell? ⟨w.heap.size, 1, none⟩ = some (.string TA) ∧ u.cell? ⟨w.heap.size, 2, none⟩ = some (.int .i64 ea) ∧ u.cell? ⟨w.heap.size + 1, 0, none⟩ = some (.bool nb) ∧ u.cell? ⟨w.heap.size + 1, 1, none⟩ = some (.string TB) ∧ u.cell? ⟨w.heap.size + 1, 2, none⟩ = some (.int .i64 eb)) (first | exact c0 | (with_reducible exact cv1) | (with_reducible exact cv2) | go_keep) (first | (go_at_call 89; (with_reducible refine Calls.mono (cA _) ?_); rintro e v1 ⟨rfl, hbv1⟩; have ggv1 : Below w.heap.size w v1 := gcall HB0.out.drew hbv1; have Tv1 := HT0.out.below ((Below.refl _ _).drew.trans hbv1); have cv1 := Tv1.cells) | (go_at_call 89; (with_reducible refine Calls.mono (cB _) ?_); rintro e v2 ⟨rfl, hbv2⟩; have ggv2 : Below w.heap.size w v2 := gcall ggv1 hbv2; have Tv2 := Tv1.below hbv2; have cv2 := Tv2.cells))
    have HG2 := Lib.hid ggv2
    have HT2 := Lib.hid Tv2
    have d0 := Tv2.cells
    clear c0 cv1 cv2 Tv1 Tv2 ggv1 ggv2 hbv1 hbv2 HB0 HT0
    go_wp2
    go_region_held3 (fun u => u.cell? ⟨w.heap.size, 0, none⟩ = some (.bool na) ∧ u.cell? ⟨w.heap.size, 1, none⟩ = some (.string TA) ∧ u.cell? ⟨w.heap.size, 2, none⟩ = some (.int .i64 ea) ∧ u.cell? ⟨w.heap.size + 1, 0, none⟩ = some (.bool nb) ∧ u.cell? ⟨w.heap.size + 1, 1, none⟩ = some (.string TB) ∧ u.cell? ⟨w.heap.size + 1, 2, none⟩ = some (.int .i64 eb)) (first | exact d0 | (with_reducible exact cv3) | (with_reducible exact cv4) | go_keep) (first | (go_at_call 89; (with_reducible refine Calls.mono (cA _) ?_); rintro e v3 ⟨rfl, hbv3⟩; have ggv3 : Below w.heap.size w v3 := gcall HG2.out.drew hbv3; have Tv3 := HT2.out.below ((Below.refl _ _).drew.trans hbv3); have cv3 := Tv3.cells) | (go_at_call 89; (with_reducible refine Calls.mono (cB _) ?_); rintro e v4 ⟨rfl, hbv4⟩; have ggv4 : Below w.heap.size w v4 := gcall ggv3 hbv4; have Tv4 := Tv3.below hbv4; have cv4 := Tv4.cells) | (go_at_call 90; (with_reducible refine Calls.mono (compareInt_any _ _ _) ?_); rintro e v5 ⟨rfl, rfl⟩))
    have HG4 := Lib.hid ggv4
    clear d0 cv3 cv4 Tv3 Tv4 ggv3 ggv4 hbv3 hbv4 HG2 HT2
    go_wp2
    go_ret
    exact ⟨by rw [HS.out]; rfl, HG4.out⟩
end Go.Proofs.YtgcpgieojckheaaGreatDoor
namespace Go.Proofs.YtgcpgieojckheaaGreatDoor
open Go.RowKit Go.Shelf

theorem read_cases (l : List UInt8) : (readR l).2 = 0 ∨ (readR l).2 = 4 ∨ (readR l).2 = 40 := by
  unfold readR
  split
  · simp
  · split <;> simp
theorem readV_ok {l : List UInt8} (h : (readR l).2 = 0) : readV (readR l) = numV (readR l).1 := by unfold readV; rw [if_pos h]
theorem readV_bad {l : List UInt8} (h : (readR l).2 ≠ 0) : readV (readR l) = .agg #[.bool false, .string ⟨#[]⟩, .int .i64 0] := by unfold readV; rw [if_neg h]
def OwnEnd (l : List UInt8) (w : World) (e : Ending) (w' : World) : Prop := e = .returned (.tuple #[bl (ownR l).1, .int .i64 (ownR l).2]) ∧ Below w.heap.size w w'
set_option maxHeartbeats 1000000 in
theorem own_any (s : ByteArray) (w : World) (ht : Tab w) (hs : s.size ≤ 1000000000) : Calls Tryz.prog 16 #[.string s] w (OwnEnd s.data.toList w) := by
  have hr := read_any s w hs
  generalize s.data.toList = l at *
  by_cases h0 : (readR l).2 = 0
  · have ho : ownR l = (form (readR l).1, 0) := by unfold ownR; rw [if_pos h0]
    obtain ⟨hc, hl⟩ := canon_read l
    unfold ReadEnd at hr
    rw [readV_ok h0, h0] at hr
    generalize (readR l).1 = n at *
    obtain ⟨T, eT, hV⟩ := numV_eq n
    have ct := fun W (hW : Below w.heap.size w W) => text_any n W (ht.below hW) hc hl
    rw [hV] at hr ct
    have HO := Lib.hid ho
    clear hc hl ho h0 eT hV
    go_enter Tryz.func16, Tryz.ntmps16
    go_wp2_with fail
    refine hr.mono ?_
    rintro e w1 ⟨rfl, hb⟩
    have HB := Lib.hid hb
    clear hb hr
    go_wp2_with fail
    refine (ct _ (galloc HB.out _)).mono ?_
    rintro e w2 ⟨rfl, hb2⟩
    have HB2 := Lib.hid (gcall (galloc HB.out _) hb2)
    clear hb2 ct
    go_wp2
    go_ret2
    exact ⟨by rw [HO.out]; rfl, HB2.out⟩
  · have ho : ownR l = ([], (readR l).2) := by unfold ownR; rw [if_neg h0]
    unfold ReadEnd at hr
    rw [readV_bad h0] at hr
    generalize (readR l).2 = E at *
    have h1 : (E == 0) = false := by simpa using h0
    have h2 : (E != 0) = true := by simpa using h0
    have HO := Lib.hid ho
    clear ho h0
    go_enter Tryz.func16, Tryz.ntmps16
    go_wp2_with fail
    refine hr.mono ?_
    rintro e w1 ⟨rfl, hb⟩
    have HB := Lib.hid hb
    clear hb hr
    go_wp2
    go_ret2
    exact ⟨by rw [HO.out]; rfl, galloc HB.out _⟩
def CmpEnd (l m : List UInt8) (w : World) (e : Ending) (w' : World) : Prop := e = .returned (.tuple #[.int .i64 (cmpR l m).1, .int .i64 (cmpR l m).2]) ∧ Below w.heap.size w w'
set_option maxHeartbeats 1000000 in
theorem cmp_any (s t : ByteArray) (w : World) (hs : s.size ≤ 1000000000) (ht : t.size ≤ 1000000000) : Calls Tryz.prog 22 #[.string s, .string t] w (CmpEnd s.data.toList t.data.toList w) := by
  have hr := fun W => read_any s W hs
  have hq := fun W => read_any t W ht
  generalize s.data.toList = l at *
  generalize t.data.toList = m at *
  by_cases h0 : (readR l).2 = 0
  · by_cases k0 : (readR m).2 = 0
    · have ho : cmpR l m = (cmpN (readR l).1 (readR m).1, 0) := by unfold cmpR; rw [if_neg (by simpa using h0), if_neg (by simpa using k0)]
      obtain ⟨hc, hl⟩ := canon_read l
      obtain ⟨kc, kl⟩ := canon_read m
      unfold ReadEnd at hr hq
      rw [readV_ok h0, h0] at hr
      rw [readV_ok k0, k0] at hq
      generalize (readR l).1 = n at *
      generalize (readR m).1 = p at *
      obtain ⟨TA, eA, hA⟩ := numV_eq n
      obtain ⟨TB, eB, hB⟩ := numV_eq p
      have ct := fun W => compare_any n p W hc kc hl kl
      rw [hA] at hr
      rw [hB] at hq
      rw [hA, hB] at ct
      have HO := Lib.hid ho
      clear hc hl kc kl ho h0 k0 eA hA eB hB
      go_enter Tryz.func22, Tryz.ntmps22
      go_wp2_with fail
      refine (hr _).mono ?_
      rintro e w1 ⟨rfl, hb⟩
      have HB := Lib.hid (galloc hb (.cells #[.bool n.neg, .string TA, .int .i64 n.exp] 68))
      have k := World.alloc_heap_new w1 (.cells #[.bool n.neg, .string TA, .int .i64 n.exp] 68)
      have hz : w1.heap.size < (w1.alloc (.cells #[.bool n.neg, .string TA, .int .i64 n.exp] 68)).heap.size := by simp
      clear hb hr
      go_wp2_with fail
      generalize w1.alloc (.cells #[.bool n.neg, .string TA, .int .i64 n.exp] 68) = W1 at *
      obtain ⟨k0, k1, k2, _⟩ := cells3 k
      refine (hq _).mono ?_
      rintro e w2 ⟨rfl, hb2⟩
      have j0 := (hb2.cell (p := ⟨w1.heap.size, 0, none⟩) hz).trans k0
      have j1 := (hb2.cell (p := ⟨w1.heap.size, 1, none⟩) hz).trans k1
      have j2 := (hb2.cell (p := ⟨w1.heap.size, 2, none⟩) hz).trans k2
      have hz2 : w1.heap.size < w2.heap.size := Nat.lt_of_lt_of_le hz hb2.size
      have HB2 := Lib.hid (gcall HB.out hb2)
      clear hb2 hq k k0 k1 k2
      go_wp2_with fail
      refine (ct _).mono ?_
      rintro e w3 ⟨rfl, hb3⟩
      have HB3 := Lib.hid (gcall (galloc HB2.out _) hb3)
      clear hb3 ct
      go_wp2
      go_ret2
      exact ⟨by rw [HO.out]; rfl, HB3.out⟩
    · have ho : cmpR l m = (0, (readR m).2) := by unfold cmpR; rw [if_neg (by simpa using h0), if_pos k0]
      unfold ReadEnd at hr hq
      rw [readV_ok h0, h0] at hr
      rw [readV_bad k0] at hq
      generalize (readR l).1 = n at *
      generalize (readR m).2 = E at *
      obtain ⟨TA, eA, hA⟩ := numV_eq n
      rw [hA] at hr
      have h1 : (E == 0) = false := by simpa using k0
      have h2 : (E != 0) = true := by simpa using k0
      have HO := Lib.hid ho
      clear ho h0 k0 eA hA
      go_enter Tryz.func22, Tryz.ntmps22
      go_wp2_with fail
      refine (hr _).mono ?_
      rintro e w1 ⟨rfl, hb⟩
      have HB := Lib.hid (galloc hb (.cells #[.bool n.neg, .string TA, .int .i64 n.exp] 68))
      clear hb hr
      go_wp2_with fail
      refine (hq _).mono ?_
      rintro e w2 ⟨rfl, hb2⟩
      have HB2 := Lib.hid (gcall HB.out hb2)
      clear hb2 hq
      go_wp2
      go_ret2
      exact ⟨by rw [HO.out]; rfl, galloc HB2.out _⟩
  · have ho : cmpR l m = (0, (readR l).2) := by unfold cmpR; rw [if_pos h0]
    unfold ReadEnd at hr
    rw [readV_bad h0] at hr
    generalize (readR l).2 = E at *
    have h1 : (E == 0) = false := by simpa using h0
    have h2 : (E != 0) = true := by simpa using h0
    have HO := Lib.hid ho
    clear ho h0 hq
    go_enter Tryz.func22, Tryz.ntmps22
    go_wp2_with fail
    refine (hr _).mono ?_
    rintro e w1 ⟨rfl, hb⟩
    have HB := Lib.hid hb
    clear hb hr
    go_wp2
    go_ret2
    exact ⟨by rw [HO.out]; rfl, galloc HB.out _⟩
set_option maxHeartbeats 1000000 in
theorem of_any (n : Int) (w : World) (ht : Tab w) (h0 : -9223372036854775808 ≤ n) (h1 : n ≤ 9223372036854775807) : Calls Tryz.prog 20 #[.int .i64 n] w fun e w' => e = .returned (bl (ofR n)) ∧ Below w.heap.size w w' := by
  have hf := formatInt_any n w ht h0 h1
  obtain ⟨D, hD⟩ : ∃ s : ByteArray, (⟨(Lib.itoa n).toArray⟩ : ByteArray) = s := ⟨_, rfl⟩
  have eD : D.data.toList = Lib.itoa n := by rw [← hD]
  have hz : D.size ≤ 1000000000 := by
    rw [Lib.size_eq, eD]
    have := decDigits_len n.natAbs 19 (by omega) (by omega)
    have := decDigits_len n.toNat 19 (by omega) (by omega)
    unfold Lib.itoa
    split <;> simp <;> omega
  have ho := fun W (hW : Below w.heap.size w W) => own_any D W (ht.below hW) hz
  unfold bl at hf
  rw [hD] at hf
  unfold OwnEnd at ho
  rw [eD] at ho
  have HE : Hid (bl (ownR (Lib.itoa n)).1 = bl (ofR n)) := Lib.hid rfl
  unfold bl at ho
  generalize (ownR (Lib.itoa n)).1 = A at *
  generalize (ownR (Lib.itoa n)).2 = E at *
  clear hD eD h0 h1 hz
  go_enter Tryz.func20, Tryz.ntmps20
  go_wp2_with fail
  refine hf.mono ?_
  rintro e w1 ⟨rfl, hb⟩
  have HB := Lib.hid hb
  clear hb hf
  go_wp2_with fail
  refine (ho _ HB.out).mono ?_
  rintro e w2 ⟨rfl, hb2⟩
  have HB2 := Lib.hid (gcall HB.out hb2)
  clear hb2 ho
  go_wp2
  go_ret
  exact ⟨by rw [← HE.out]; rfl, HB2.out⟩
end Go.Proofs.YtgcpgieojckheaaGreatDoor
namespace Go.Proofs.YtgcpgieojckheaaGreatDoor
open Go.RowKit Go.Shelf

theorem repeat_any (c : Nat) (w : World) (hc : c ≤ 10000) :
    Calls Tryz.prog 50 #[.string ⟨#[48]⟩, .int .i64 c] w fun e w' => e = .returned (bl (List.replicate c 48)) ∧ Below w.heap.size w w' := by
  refine (Tryz.strings_Repeat ⟨#[48]⟩ c w (by omega) (by show 1 * c ≤ _; omega)).mono ?_
  rintro e w' ⟨rfl, hb⟩
  have : Lib.repeatL (⟨#[48]⟩ : ByteArray).data.toList c = List.replicate c 48 := by
    have := Lib.repeatL_replicate 48 1 c
    simpa using this
  rw [this]
  exact ⟨rfl, hb⟩
theorem parse_ok (s : ByteArray) (v : Int) (w : World) (hs : s.size ≤ 1000000) (h : Lib.parseIntB 64 s.data.toList = .ok v) :
    Calls Tryz.prog 48 #[.string s, .int .i64 10, .int .i64 64] w fun e w' => e = .returned (.tuple #[.int .i64 v, .nilIface]) ∧ Below w.heap.size w w' := by
  refine (Tryz.strconv_ParseInt_10_at64_ok s (by omega) v h w).mono ?_
  rintro e w' ⟨rfl, hw⟩
  refine ⟨rfl, ?_⟩
  rcases hw with rfl | ⟨t, rfl⟩
  · exact Below.refl _ _
  · exact Go.Joins.below_bytesWorld _ _ _ _ (Nat.le_refl _)
def RangeEnd (w : World) (e : Ending) (w' : World) : Prop := ∃ N x, e = .returned (.tuple #[.int .i64 x, .iface 143 (.pointer (some ⟨N, 0, none⟩))]) ∧ Below w.heap.size w w'
theorem parse_range (s : ByteArray) (w : World) (ht : Tab w) (hs : s.size ≤ 1000000) (h : Lib.parseIntB 64 s.data.toList = .range) :
    Calls Tryz.prog 48 #[.string s, .int .i64 10, .int .i64 64] w (RangeEnd w) := by
  obtain ⟨_, ev, hv, hev⟩ := ht
  refine (Tryz.strconv_ParseInt_10_at64_range s (by omega) h ev w hv hev).mono ?_
  rintro e w' ⟨N, rfl, _, _, hb⟩
  exact ⟨N, _, rfl, hb⟩
def IntEnd (l : List UInt8) (w : World) (e : Ending) (w' : World) : Prop := e = .returned (.tuple #[.int .i64 (intR l).1, .int .i64 (intR l).2]) ∧ Below w.heap.size w w'
set_option maxHeartbeats 2000000 in
theorem int_any (s : ByteArray) (w : World) (ht : Tab w) (hs : s.size ≤ 1000000000) : Calls Tryz.prog 18 #[.string s] w (IntEnd s.data.toList w) := by
  have hr := read_any s w hs
  generalize s.data.toList = l at *
  by_cases h0 : (readR l).2 = 0
  · obtain ⟨hc, hl⟩ := canon_read l
    have ho : intR l = if (readR l).1.exp < 0 then (0, 1) else if fits64 (worth (readR l).1) then (worth (readR l).1, 0) else (0, 64) := by unfold intR; rw [if_neg (by simpa using h0)]
    unfold ReadEnd at hr
    rw [readV_ok h0, h0] at hr
    generalize (readR l).1 = n at *
    obtain ⟨T, eT, hV⟩ := numV_eq n
    rw [hV] at hr
    by_cases hx : n.exp < 0
    · rw [if_pos hx] at ho
      have HO := Lib.hid ho
      clear hc hl ho h0 eT hV
      go_enter Tryz.func18, Tryz.ntmps18
      go_wp2_with fail
      refine hr.mono ?_
      rintro e w1 ⟨rfl, hb⟩
      have HB := Lib.hid hb
      clear hb hr
      go_wp2
      go_ret2
      exact ⟨by rw [HO.out]; rfl, galloc HB.out _⟩
    · rw [if_neg hx] at ho
      have hxl := digits_len hl
      obtain ⟨c, hcx⟩ : ∃ c : Nat, n.exp = (c : Int) := ⟨n.exp.toNat, by omega⟩
      have hz : T.size ≤ 1000000000 := by rw [Lib.size_eq, eT]; have := textD_len hl; omega
      have hi := fun W => integer_any n.neg T n.exp W hz
      obtain ⟨S, hS⟩ : ∃ s : ByteArray, (⟨(sgn n.neg ++ T.data.toList).toArray⟩ : ByteArray) = s := ⟨_, rfl⟩
      have eS : S.data.toList = wholeForm n := by rw [← hS, wholeForm_eq hc, eT]
      have zS : S.size ≤ 201 := by rw [Lib.size_eq, eS, wholeForm_eq hc]; have := textD_len hl; unfold sgn; split <;> simp <;> omega
      obtain ⟨Z, hZ⟩ : ∃ s : ByteArray, (⟨(List.replicate c 48).toArray⟩ : ByteArray) = s := ⟨_, rfl⟩
      have eZ : Z.data.toList = List.replicate c 48 := by rw [← hZ]
      have zZ : Z.size ≤ 10000 := by rw [Lib.size_eq, eZ, List.length_replicate]; omega
      have hp := fun W => repeat_any c W (by omega)
      unfold bl at hi hp
      rw [hS] at hi
      rw [hZ] at hp
      have eSZ : (S ++ Z).data.toList = wholeForm n ++ List.replicate n.exp.toNat 48 := by rw [app_list, eS, eZ, hcx]; rfl
      have zSZ : (S ++ Z).size ≤ 1000000 := by rw [Lib.size_eq, app_list, List.length_append, ← Lib.size_eq, ← Lib.size_eq]; omega
      have hw := parseInt_worth n hc (by omega)
      rw [← eSZ] at hw
      have za : ¬ 9223372036854775807 < S.size + Z.size := by omega
      rw [hcx] at hi hr
      have hcn : ¬ ((c : Int) < 0) := by omega
      have hcd : decide ((c : Int) < 0) = false := decide_eq_false hcn
      by_cases hf : fits64 (worth n) = true
      · rw [if_pos hf] at ho hw
        have cp := fun W => parse_ok (S ++ Z) (worth n) W zSZ hw
        have HO := Lib.hid ho
        generalize worth n = V at *
        generalize n.neg = ng at *
        clear hc hl ho h0 eT hV hx hxl hS eS hZ eZ eSZ zSZ hw hf hcx hz
        go_enter Tryz.func18, Tryz.ntmps18
        go_wp2_with fail
        refine hr.mono ?_
        rintro e w1 ⟨rfl, hb⟩
        have HB := Lib.hid (galloc hb (.cells #[.bool ng, .string T, .int .i64 c] 68))
        have k := World.alloc_heap_new w1 (.cells #[.bool ng, .string T, .int .i64 c] 68)
        have hzz : w1.heap.size < (w1.alloc (.cells #[.bool ng, .string T, .int .i64 c] 68)).heap.size := by simp
        clear hb hr
        go_wp2
        generalize w1.alloc (.cells #[.bool ng, .string T, .int .i64 c] 68) = W0 at *
        obtain ⟨k0, k1, k2, _⟩ := cells3 k
        clear k
        go_region_held3 (fun u => u.cell? ⟨w1.heap.size, 0, none⟩ = some (.bool ng) ∧ u.cell? ⟨w1.heap.size, 1, none⟩ = some (.string T) ∧ u.cell? ⟨w1.heap.size, 2, none⟩ = some (.int .i64 c)) (first | exact ⟨k0, k1, k2⟩ | (with_reducible exact ⟨j0, j1, j2⟩) | (with_reducible exact ⟨i0, i1, i2⟩) | (with_reducible exact ⟨l0, l1, l2⟩) | go_keep) (first | (go_at_call 49; (with_reducible refine Calls.mono (hi _) ?_); rintro e v1 ⟨rfl, hb1⟩; have gg1 : Below w.heap.size w v1 := gcall HB.out.drew hb1; have j0 := (hb1.cell (p := ⟨w1.heap.size, 0, none⟩) hzz).trans k0; have j1 := (hb1.cell (p := ⟨w1.heap.size, 1, none⟩) hzz).trans k1; have j2 := (hb1.cell (p := ⟨w1.heap.size, 2, none⟩) hzz).trans k2; have hlt1 : w1.heap.size < v1.heap.size := World.block_lt_of_cell? v1 _ j0) | (go_at_call 50; (with_reducible refine Calls.mono (hp _) ?_); rintro e v2 ⟨rfl, hb2⟩; have gg2 : Below w.heap.size w v2 := gcall gg1 hb2; have i0 := (hb2.cell (p := ⟨w1.heap.size, 0, none⟩) hlt1).trans j0; have i1 := (hb2.cell (p := ⟨w1.heap.size, 1, none⟩) hlt1).trans j1; have i2 := (hb2.cell (p := ⟨w1.heap.size, 2, none⟩) hlt1).trans j2; have hlt2 : w1.heap.size < v2.heap.size := World.block_lt_of_cell? v2 _ i0) | (go_at_call 48; (with_reducible refine Calls.mono (cp _) ?_); rintro e v3 ⟨rfl, hb3⟩; have gg3 : Below w.heap.size w v3 := gcall gg2 hb3; have l0 := (hb3.cell (p := ⟨w1.heap.size, 0, none⟩) hlt2).trans i0; have l1 := (hb3.cell (p := ⟨w1.heap.size, 1, none⟩) hlt2).trans i1; have l2 := (hb3.cell (p := ⟨w1.heap.size, 2, none⟩) hlt2).trans i2))
        have HG := Lib.hid gg3
        clear gg1 gg2 gg3 hb1 hb2 hb3 j0 j1 j2 i0 i1 i2 l0 l1 l2 k0 k1 k2 hi hp cp
        go_wp2
        go_ret2
        exact ⟨by rw [HO.out]; rfl, HG.out⟩
      · rw [if_neg hf] at ho hw
        have cp := fun W (hW : Below w.heap.size w W) => parse_range (S ++ Z) W (ht.below hW) zSZ hw
        have HO := Lib.hid ho
        generalize worth n = V at *
        generalize n.neg = ng at *
        clear hc hl ho h0 eT hV hx hxl hS eS hZ eZ eSZ zSZ hw hf hcx hz
        go_enter Tryz.func18, Tryz.ntmps18
        go_wp2_with fail
        refine hr.mono ?_
        rintro e w1 ⟨rfl, hb⟩
        have HB := Lib.hid (galloc hb (.cells #[.bool ng, .string T, .int .i64 c] 68))
        have k := World.alloc_heap_new w1 (.cells #[.bool ng, .string T, .int .i64 c] 68)
        have hzz : w1.heap.size < (w1.alloc (.cells #[.bool ng, .string T, .int .i64 c] 68)).heap.size := by simp
        clear hb hr
        go_wp2
        generalize w1.alloc (.cells #[.bool ng, .string T, .int .i64 c] 68) = W0 at *
        obtain ⟨k0, k1, k2, _⟩ := cells3 k
        clear k
        go_region_held3 (fun u => u.cell? ⟨w1.heap.size, 0, none⟩ = some (.bool ng) ∧ u.cell? ⟨w1.heap.size, 1, none⟩ = some (.string T) ∧ u.cell? ⟨w1.heap.size, 2, none⟩ = some (.int .i64 c)) (first | exact ⟨k0, k1, k2⟩ | (with_reducible exact ⟨j0, j1, j2⟩) | (with_reducible exact ⟨i0, i1, i2⟩) | (with_reducible exact ⟨l0, l1, l2⟩) | go_keep) (first | (go_at_call 49; (with_reducible refine Calls.mono (hi _) ?_); rintro e v1 ⟨rfl, hb1⟩; have gg1 : Below w.heap.size w v1 := gcall HB.out.drew hb1; have j0 := (hb1.cell (p := ⟨w1.heap.size, 0, none⟩) hzz).trans k0; have j1 := (hb1.cell (p := ⟨w1.heap.size, 1, none⟩) hzz).trans k1; have j2 := (hb1.cell (p := ⟨w1.heap.size, 2, none⟩) hzz).trans k2; have hlt1 : w1.heap.size < v1.heap.size := World.block_lt_of_cell? v1 _ j0) | (go_at_call 50; (with_reducible refine Calls.mono (hp _) ?_); rintro e v2 ⟨rfl, hb2⟩; have gg2 : Below w.heap.size w v2 := gcall gg1 hb2; have i0 := (hb2.cell (p := ⟨w1.heap.size, 0, none⟩) hlt1).trans j0; have i1 := (hb2.cell (p := ⟨w1.heap.size, 1, none⟩) hlt1).trans j1; have i2 := (hb2.cell (p := ⟨w1.heap.size, 2, none⟩) hlt1).trans j2; have hlt2 : w1.heap.size < v2.heap.size := World.block_lt_of_cell? v2 _ i0) | (go_at_call 48; (with_reducible refine Calls.mono (cp _ gg2) ?_); rintro e v3 ⟨NN, xx, rfl, hb3⟩; have gg3 : Below w.heap.size w v3 := gcall gg2 hb3; have l0 := (hb3.cell (p := ⟨w1.heap.size, 0, none⟩) hlt2).trans i0; have l1 := (hb3.cell (p := ⟨w1.heap.size, 1, none⟩) hlt2).trans i1; have l2 := (hb3.cell (p := ⟨w1.heap.size, 2, none⟩) hlt2).trans i2))
        have HG := Lib.hid gg3
        clear gg1 gg2 gg3 hb1 hb2 hb3 j0 j1 j2 i0 i1 i2 l0 l1 l2 k0 k1 k2 hi hp cp
        go_wp2
        go_ret2
        exact ⟨by rw [HO.out]; rfl, HG.out⟩
  · have ho : intR l = (0, (readR l).2) := by unfold intR; rw [if_pos h0]
    unfold ReadEnd at hr
    rw [readV_bad h0] at hr
    generalize (readR l).2 = E at *
    have h1 : (E == 0) = false := by simpa using h0
    have h2 : (E != 0) = true := by simpa using h0
    have HO := Lib.hid ho
    clear ho h0
    go_enter Tryz.func18, Tryz.ntmps18
    go_wp2_with fail
    refine hr.mono ?_
    rintro e w1 ⟨rfl, hb⟩
    have HB := Lib.hid hb
    clear hb hr
    go_wp2
    go_ret2
    exact ⟨by rw [HO.out]; rfl, galloc HB.out _⟩
end Go.Proofs.YtgcpgieojckheaaGreatDoor
namespace Go.Proofs.YtgcpgieojckheaaGreatDoor
open Go.RowKit Go.Shelf

theorem ex1 : ownR [45, 49, 50, 48, 46, 53, 48, 101, 49] = ([45, 49, 50, 48, 53], 0) := by decide +kernel
theorem ex2 : cmpR [49, 101, 50] [57, 57, 46, 57] = (1, 0) := by decide +kernel
theorem ex3 : intR [49, 101, 50] = (100, 0) := by decide +kernel
theorem ex4 : ofR 7 = [55] := by decide +kernel
set_option maxHeartbeats 1000000 in
theorem awake_any (w : World) (ht : Tab w) : Calls Tryz.prog 15 #[] w fun e w' => e = .returned (.bool true) ∧ Below w.heap.size w w' := by
  have c1 := own_any ⟨#[45, 49, 50, 48, 46, 53, 48, 101, 49]⟩ w ht (by decide)
  have c2 := fun W => cmp_any ⟨#[49, 101, 50]⟩ ⟨#[57, 57, 46, 57]⟩ W (by decide) (by decide)
  have c3 := fun W (hW : Below w.heap.size w W) => int_any ⟨#[49, 101, 50]⟩ W (ht.below hW) (by decide)
  have c4 := fun W (hW : Below w.heap.size w W) => of_any 7 W (ht.below hW) (by decide) (by decide)
  unfold OwnEnd at c1
  unfold CmpEnd at c2
  unfold IntEnd at c3
  simp only [ex1, ex2, ex3, ex4] at c1 c2 c3 c4
  unfold bl at c1 c4
  go_enter Tryz.func15, Tryz.ntmps15
  go_wp2_with fail
  refine c1.mono ?_
  rintro e w1 ⟨rfl, hb⟩
  have B1 := Lib.hid hb
  clear hb c1
  go_wp2_with fail
  refine (c2 _).mono ?_
  rintro e w2 ⟨rfl, hb⟩
  have B2 := Lib.hid (gcall B1.out hb)
  clear hb c2
  go_wp2_with fail
  refine (c3 _ B2.out).mono ?_
  rintro e w3 ⟨rfl, hb⟩
  have B3 := Lib.hid (gcall B2.out hb)
  clear hb c3
  go_wp2_with fail
  refine (c4 _ B3.out).mono ?_
  rintro e w4 ⟨rfl, hb⟩
  have B4 := Lib.hid (gcall B3.out hb)
  clear hb c4
  go_wp2
  go_ret
  exact ⟨rfl, B4.out⟩
theorem own_code (l : List UInt8) : (ownR l).2 = (readR l).2 := by
  unfold ownR; split
  · rename_i h; exact h.symm
  · rfl
theorem own_bad {l : List UInt8} (h : (ownR l).2 ≠ 0) : (ownR l).1 = [] := by
  rw [own_code] at h
  unfold ownR; rw [if_neg h]
theorem own_len (l : List UInt8) : (ownR l).1.length ≤ 1000000 := by
  unfold ownR
  split
  · obtain ⟨hc, hl⟩ := canon_read l
    have h1 := digits_len hl
    have h2 := textD_len hl
    have h3 := itoa_len (readR l).1.exp
    simp only
    unfold form expForm
    rw [wholeForm_eq hc, List.length_append, List.length_append]
    unfold sgn
    split <;> split <;> simp <;> omega
  · simp
theorem ofR_len (n : Int) : (ofR n).length ≤ 1000000 := own_len _
set_option maxHeartbeats 2000000 in
theorem decBack_walk (n : Int) (s : ByteArray) (w : World) (ht : Tab w) (h0 : -9223372036854775808 ≤ n) (h1 : n ≤ 9223372036854775807) :
    Calls Tryz.prog 6 #[.int .i64 n, .string s] w fun e w' => e = .returned (.bool true) ∧ Below w.heap.size w w' := by
  have hA := fun W (hW : Below w.heap.size w W) => awake_any W (ht.below hW)
  by_cases hbig : (30000 : Int) < (s.size : Int)
  · have hd : decide ((30000 : Int) < (s.size : Int)) = true := decide_eq_true hbig
    go_enter Tryz.func6, Tryz.ntmps6
    go_wp2_with fail
    refine (hA _ (Below.refl _ _)).mono ?_
    rintro e w1 ⟨rfl, hb⟩
    have B1 := Lib.hid hb
    clear hb hA
    go_wp2
    go_ret
    exact ⟨rfl, B1.out⟩
  · have hd : decide ((30000 : Int) < (s.size : Int)) = false := decide_eq_false hbig
    have hs : s.size ≤ 1000000000 := by omega
    have c1 := fun W (hW : Below w.heap.size w W) => of_any n W (ht.below hW) h0 h1
    obtain ⟨F, hF⟩ : ∃ s : ByteArray, (⟨(ofR n).toArray⟩ : ByteArray) = s := ⟨_, rfl⟩
    have eF : F.data.toList = ofR n := by rw [← hF]
    have zF : F.size ≤ 1000000000 := by rw [Lib.size_eq, eF]; have := ofR_len n; omega
    have c2 := fun W (hW : Below w.heap.size w W) => int_any F W (ht.below hW) zF
    have hio := int_of n (by omega) (by omega)
    unfold bl at c1
    rw [hF] at c1
    unfold IntEnd at c2
    simp only [eF, hio] at c2
    have c3 := fun W (hW : Below w.heap.size w W) => own_any s W (ht.below hW) hs
    unfold OwnEnd at c3
    by_cases hE : (ownR s.data.toList).2 = 0
    · have hoo := own_own s.data.toList (by rw [← own_code]; exact hE)
      have hol := own_len s.data.toList
      rw [hE] at c3
      obtain ⟨G, hG⟩ : ∃ x : ByteArray, (⟨(ownR s.data.toList).1.toArray⟩ : ByteArray) = x := ⟨_, rfl⟩
      have eG : G.data.toList = (ownR s.data.toList).1 := by rw [← hG]
      have zG : G.size ≤ 1000000000 := by rw [Lib.size_eq, eG]; omega
      have c4 := fun W (hW : Below w.heap.size w W) => own_any G W (ht.below hW) zG
      unfold OwnEnd at c4
      simp only [eG, hoo] at c4
      unfold bl at c3 c4
      rw [hG] at c3 c4
      clear hE hoo hol hG eG zG hF eF zF hio hs hbig h0 h1
      go_enter Tryz.func6, Tryz.ntmps6
      go_wp2_with fail
      refine (hA _ (Below.refl _ _)).mono ?_
      rintro e w1 ⟨rfl, hb⟩
      have B1 := Lib.hid hb
      clear hb hA
      go_wp2_with fail
      refine (c1 _ B1.out).mono ?_
      rintro e w2 ⟨rfl, hb⟩
      have B2 := Lib.hid (gcall B1.out hb)
      clear hb c1
      go_wp2_with fail
      refine (c2 _ B2.out).mono ?_
      rintro e w3 ⟨rfl, hb⟩
      have B3 := Lib.hid (gcall B2.out hb)
      clear hb c2
      go_wp2_with fail
      refine (c3 _ B3.out).mono ?_
      rintro e w4 ⟨rfl, hb⟩
      have B4 := Lib.hid (gcall B3.out hb)
      clear hb c3
      go_wp2_with fail
      refine (c4 _ B4.out).mono ?_
      rintro e w5 ⟨rfl, hb⟩
      have B5 := Lib.hid (gcall B4.out hb)
      clear hb c4
      go_wp2
      go_ret
      exact ⟨by simp, B5.out⟩
    · have hob := own_bad hE
      rw [hob] at c3
      generalize (ownR s.data.toList).2 = E at *
      have hq1 : (E == 0) = false := by simpa using hE
      have hq2 : (E != 0) = true := by simpa using hE
      unfold bl at c3
      clear hE hob hF eF zF hio hs hbig h0 h1
      go_enter Tryz.func6, Tryz.ntmps6
      go_wp2_with fail
      refine (hA _ (Below.refl _ _)).mono ?_
      rintro e w1 ⟨rfl, hb⟩
      have B1 := Lib.hid hb
      clear hb hA
      go_wp2_with fail
      refine (c1 _ B1.out).mono ?_
      rintro e w2 ⟨rfl, hb⟩
      have B2 := Lib.hid (gcall B1.out hb)
      clear hb c1
      go_wp2_with fail
      refine (c2 _ B2.out).mono ?_
      rintro e w3 ⟨rfl, hb⟩
      have B3 := Lib.hid (gcall B2.out hb)
      clear hb c2
      go_wp2_with fail
      refine (c3 _ B3.out).mono ?_
      rintro e w4 ⟨rfl, hb⟩
      have B4 := Lib.hid (gcall B3.out hb)
      clear hb c3
      go_wp2
      go_ret
      exact ⟨rfl, B4.out⟩
end Go.Proofs.YtgcpgieojckheaaGreatDoor
