/-
  length: a head's length, or the error.
-/
import Derived.Test.YtlafcnmopclgiaaGreatDoorC
import Derived.Lib.SmallJoins
import Derived.Deep.AppendLies
import Derived.Shelf.Strings.SlTrimAscii
namespace Go.Proofs.YtlafcnmopclgiaaGreatDoor
open Go.RowKit Go.Shelf

/-- What the program's own variables hold: the table of powers, an error, a number. -/
def Tab (w : World) : Prop := Lib.TabIs Tryz.prog w "internal/strconv.uint64pow10" .u64 Lib.pow10Tab ∧ (∃ ev, w.cell? ⟨8, 0, none⟩ = some ev ∧ (ev = .nilIface ∨ ∃ te pe, ev = .iface te pe)) ∧ ∃ m, w.cell? ⟨0, 0, none⟩ = some (.int .i64 m)
theorem pow_global : ∃ g, Tryz.prog.globalNamed "internal/strconv.uint64pow10" = some g := Option.isSome_iff_exists.1 (show (Tryz.prog.globalNamed "internal/strconv.uint64pow10").isSome = true by kernel_rfl)
theorem Tab.below {w w' : World} (h : Tab w) (hb : Below w.heap.size w w') : Tab w' := by
  obtain ⟨g, hg⟩ := pow_global
  obtain ⟨h1, ⟨ev, h2, h3⟩, m, h4⟩ := h
  exact ⟨Go.Joins.tab_stays hg h1 hb (Nat.le_refl _), ⟨ev, (hb.cell (p := ⟨8, 0, none⟩) (World.block_lt_of_cell? w _ h2)).trans h2, h3⟩, m, (hb.cell (p := ⟨0, 0, none⟩) (World.block_lt_of_cell? w _ h4)).trans h4⟩
theorem Tab.upto {w w' : World} {B : Nat} (h : Tab w) (hB : w.heap.size ≤ B) (hb : Below B w w') : Tab w' := h.below (hb.mono hB)
theorem scan_app (ys : List (List UInt8)) : ∀ xs : List (List UInt8), scan (xs ++ ys) = match scan xs with | none => none | some a => match scan ys with | none => none | some b => some (a ++ b)
  | [] => by
    rw [List.nil_append]
    simp only [scan]
    cases scan ys <;> rfl
  | x :: xs => by
    rw [List.cons_append, scan, scan, scan_app ys xs]
    by_cases h : ((Lib.cut x [58]).2.2 && isName (Lib.cut x [58]).1) = true
    · rw [if_pos h, if_pos h]
      cases scan xs with
      | none => rfl
      | some a =>
        cases scan ys with
        | none => rfl
        | some b =>
          simp only
          by_cases h2 : Lib.equalFold (Lib.cut x [58]).1 clen = true
          · rw [if_pos h2, if_pos h2]; rfl
          · rw [if_neg h2, if_neg h2]
    · rw [if_neg h, if_neg h]
theorem scan_one (x : List UInt8) : scan [x] = if (Lib.cut x [58]).2.2 && isName (Lib.cut x [58]).1 then some (if Lib.equalFold (Lib.cut x [58]).1 clen then [Lib.trimS (Lib.cut x [58]).2.1 [32, 9]] else []) else none := by
  simp only [scan]
theorem take_snoc {xs : List (List UInt8)} {k : Nat} {x : List UInt8} (h : xs[k]? = some x) : xs.take (k + 1) = xs.take k ++ [x] := by
  rw [List.take_add_one, h]; rfl
theorem scan_next {xs : List (List UInt8)} {k : Nat} {x : List UInt8} {a b : List (List UInt8)} (h : xs[k]? = some x) (ha : scan (xs.take k) = some a) (hb : scan [x] = some b) : scan (xs.take (k + 1)) = some (a ++ b) := by
  rw [take_snoc h, scan_app, ha, hb]
theorem scan_bad {xs : List (List UInt8)} {k : Nat} {x : List UInt8} {a : List (List UInt8)} (h : xs[k]? = some x) (ha : scan (xs.take k) = some a) (hb : scan [x] = none) : scan xs = none := by
  have e : xs = xs.take (k + 1) ++ xs.drop (k + 1) := (List.take_append_drop _ _).symm
  rw [e, scan_app, take_snoc h, scan_app, ha, hb]
theorem name_ascii {l : List UInt8} (h : isName l = true) : ∀ (j : Nat) b, l[j]? = some b → b.toNat < 128 := by
  intro j b hb
  unfold isName at h
  rw [Bool.and_eq_true] at h
  have := List.all_eq_true.1 h.1 b (List.mem_of_getElem? hb)
  unfold nameC isLet isDig at this
  simp only [Bool.or_eq_true, Bool.and_eq_true, decide_eq_true_eq, beq_iff_eq] at this
  rcases this with ((h1 | h1) | h1) | h1
  · omega
  · omega
  · omega
  · subst h1; decide
theorem splitB_size (sep : ByteArray) : ∀ (k : Nat) (s x : ByteArray), x ∈ Lib.splitB sep 0 k s → x.size ≤ s.size
  | 0, s, x, h => by
    rw [Lib.splitB_zero, List.mem_singleton] at h; subst h; exact Nat.le_refl _
  | k + 1, s, x, h => by
    unfold Lib.splitB at h
    split at h
    · rw [List.mem_singleton] at h; subst h; exact Nat.le_refl _
    · rcases List.mem_cons.1 h with rfl | h
      · rw [ByteArray.size_extract]; omega
      · have := splitB_size sep k _ x h
        rw [ByteArray.size_extract] at this; omega
theorem cut_size (l : List UInt8) : (Lib.cut l [58]).1.length ≤ l.length ∧ (Lib.cut l [58]).2.1.length ≤ l.length := by
  unfold Lib.cut
  split
  · simp only [List.length_take, List.length_drop]; omega
  · exact ⟨Nat.le_refl _, Nat.zero_le _⟩
theorem trim_any (s : ByteArray) (w : World) (hs : s.size ≤ 1000000000) :
    Calls Tryz.prog 35 #[.string s, .string ⟨#[32, 9]⟩] w fun e w' => e = .returned (.string ⟨(Lib.trimS s.data.toList [32, 9]).toArray⟩) ∧ Below w.heap.size w w' :=
  Any.strings_Trim_laid Tryz.lays160 (by kernel_rfl) s ⟨#[32, 9]⟩ w (by omega) (by decide) (fun j b hb => by
    rcases j with _ | _ | j
    · simp at hb; subst hb; decide
    · simp at hb; subst hb; decide
    · simp at hb)
def lenV : Except Int Nat → Value
  | .ok n => .tuple #[.int .i64 n, .int .i64 0]
  | .error k => .tuple #[.int .i64 0, .int .i64 k]
theorem info9 : (Tryz.prog.info? 9).map (fun i => (i.zero, i.size, i.bytes)) = some (some (.string ⟨#[]⟩), 1, 16) := by kernel_rfl
theorem gcall {B : Nat} {w X V : World} (h : Below B w X) (hB : B ≤ X.heap.size) (hb : Below X.heap.size X V) : Below B w V := h.trans (hb.mono hB)
theorem belowN {B : Nat} {a w : World} (h : Below B a w) (n : Nat) : Below B a (w.drewN n) := ⟨h.os, h.tape, h.output, h.size, h.block⟩
theorem owns_below {B e size n : Nat} {v : Value} {xs : List Value} {w w' : World} (h : w.ownsRow B e size v n xs) (hb : Below w.heap.size w w') : w'.ownsRow B e size v n xs := by
  obtain ⟨h1, h2⟩ := h
  refine ⟨h1, ?_⟩
  rcases h2 with h2 | ⟨g, cap, cur, h3, h4, h5, h6, h7, h8, h9⟩
  · exact .inl h2
  · exact .inr ⟨g, cap, cur, h3, h4, (hb.block g (Array.getElem?_eq_some_iff.1 h5).1).trans h5, h6, h7, h8, h9⟩
theorem owns_first {B e n : Nat} {v x : Value} {xs : List Value} {w : World} (h : w.ownsRow B e 1 v (n + 1) (x :: xs)) : ∃ g cap, v = .slice (some ⟨g, 0, none⟩) (n + 1) cap ∧ w.cell? ⟨g, 0, none⟩ = some x := by
  have hc := fun g (hg : v.ownBlock = some g) => World.ownsRow.cells h hg
  rcases h.2 with ⟨_, h2⟩ | ⟨g, cap, cur, rfl, _⟩
  · omega
  · exact ⟨g, cap, rfl, by have := hc g rfl 0 x rfl; simpa [Addr.add] using this⟩
theorem owns_shape {B e size n : Nat} {v : Value} {xs : List Value} {w : World} (h : w.ownsRow B e size v n xs) : ∃ p cap, v = .slice p n cap := by
  rcases h.2 with ⟨rfl, rfl⟩ | ⟨g, cap, cur, rfl, _⟩
  · exact ⟨_, _, rfl⟩
  · exact ⟨_, _, rfl⟩
theorem parse_digits : ∀ (l : List UInt8) (acc : Nat), l.all isDig = true → Lib.parseUint10 acc l = .range ∨ ∃ u, Lib.parseUint10 acc l = .ok u
  | [], acc, _ => .inr ⟨acc, by rw [Lib.parseUint10]⟩
  | c :: r, acc, h => by
    simp only [List.all_cons, Bool.and_eq_true] at h
    have hc : 48 ≤ c.toNat ∧ c.toNat ≤ 57 := by have := h.1; unfold isDig at this; simpa using this
    rw [Lib.parseUint10, if_pos hc]
    by_cases h1 : 1844674407370955162 ≤ acc
    · rw [if_pos h1]; exact .inl rfl
    · rw [if_neg h1]
      by_cases h2 : 18446744073709551616 ≤ acc * 10 + (c.toNat - 48)
      · rw [if_pos h2]; exact .inl rfl
      · rw [if_neg h2]; exact parse_digits r _ h.2
theorem numb_atoi {v : List UInt8} (h : isNumb v = true) : Lib.atoiAll v = .range ∨ ∃ u : Nat, Lib.atoiAll v = .ok (u : Int) := by
  unfold isNumb at h
  rw [Bool.and_eq_true] at h
  cases v with
  | nil => simp at h
  | cons c r =>
    have hc : 48 ≤ c.toNat ∧ c.toNat ≤ 57 := by
      have := h.1
      simp only [List.all_cons, Bool.and_eq_true] at this
      have := this.1; unfold isDig at this; simpa using this
    unfold Lib.atoiAll
    simp only
    rw [if_neg (by omega)]
    unfold Lib.parseMag
    rw [if_neg (by simp)]
    have hn : ¬ c.toNat = 45 := by omega
    rcases parse_digits (c :: r) 0 h.1 with h2 | ⟨u, h2⟩
    · rw [h2]; exact .inl rfl
    · rw [h2]
      by_cases hu : 9223372036854775808 ≤ u
      · exact .inl (by simp [hn, hu])
      · exact .inr ⟨u, by simp [hn, hu]⟩
set_option maxRecDepth 100000 in
set_option maxHeartbeats 4000000 in
theorem length_any (s : ByteArray) (w : World) (hT : Tab w) (hz : s.size ≤ 1000000) :
    Calls Tryz.prog 20 #[.string s] w fun e w' => e = .returned (lenV (headLen s.data.toList)) ∧ Below w.heap.size w w' := by
  obtain ⟨i9, hi, hz0, hz1, hz2⟩ := info_parts info9
  have u43 := Tryz.underlying67
  obtain ⟨_, ⟨ev, hev, hev2⟩, m, hm⟩ := hT
  have hsp := Tryz.strings_Split s ⟨#[13, 10]⟩ m w (by omega) hm (by decide)
  have hlenB := Lib.splitB_all ⟨#[13, 10]⟩ (by decide) 0 _ s rfl
  have hmap := Lib.splitB_data ⟨#[13, 10]⟩ 0 (Lib.countB s ⟨#[13, 10]⟩) s
  have hszB := splitB_size ⟨#[13, 10]⟩ (Lib.countB s ⟨#[13, 10]⟩) s
  have hcnt := Lib.countB_le ⟨#[13, 10]⟩ (by decide) s.size s (Nat.le_refl _)
  have hsplit : Lib.splitK (⟨#[13, 10]⟩ : ByteArray).data.toList 0 (Lib.countB s ⟨#[13, 10]⟩) s.data.toList = Lib.split s.data.toList crlf := rfl
  rw [hsplit] at hmap
  clear hsplit
  have HV : Hid (headLen s.data.toList = match scan (Lib.split s.data.toList crlf) with
    | some [v] => if isNumb v then match Lib.atoiAll v with | .ok n => if 262144 < n then .error 40 else .ok n.toNat | _ => .error 40 else .error 72
    | _ => .error 72) := rfl
  generalize headLen s.data.toList = V at *
  generalize Lib.split s.data.toList crlf = LL at *
  generalize Lib.splitB ⟨#[13, 10]⟩ 0 (Lib.countB s ⟨#[13, 10]⟩) s = LB at *
  have hN : Lib.countB s ⟨#[13, 10]⟩ + 1 ≤ 1000001 := by omega
  clear hcnt
  generalize Lib.countB s ⟨#[13, 10]⟩ + 1 = N at *
  have hrow : Hid (∀ (k : Nat) (X : ByteArray), LB[k]? = some X → (w.alloc (.cells (LB.map Value.string).toArray 9)).cell? ⟨w.heap.size, k, none⟩ = some (.string X)) := Lib.hid fun k X hk => by
    rw [cellH (heap_alloc_new w _)]
    simp [hk]
  have hB1 := galloc2 (Below.refl w.heap.size w) (Nat.le_refl _) (.cells (LB.map Value.string).toArray 9)
  have hs1 : (w.alloc (.cells (LB.map Value.string).toArray 9)).heap.size = w.heap.size + 1 := by simp
  have hm1 := (hB1.cell (p := ⟨0, 0, none⟩) (World.block_lt_of_cell? w _ hm)).trans hm
  have hev1 := (hB1.cell (p := ⟨8, 0, none⟩) (World.block_lt_of_cell? w _ hev)).trans hev
  go_enter Tryz.func20, Tryz.ntmps20
  go_wp2_with fail
  refine hsp.mono ?_
  rintro e w1 ⟨rfl, rfl⟩
  clear hsp hm hev
  generalize hg1 : w.alloc (.cells (LB.map Value.string).toArray 9) = w1 at *
  have HB1 := Lib.hid hB1
  have HM1 := Lib.hid hm1
  have HEV := Lib.hid hev1
  clear hg1 hB1 hm1 hev1
  have hWs : w.heap.size < w1.heap.size := by omega
  go_wp2_with fail
  go_loopw [4, 15] (fun v i wr => ∃ (k : Nat) (vs : List (List UInt8)), i = .int .i64 k ∧ k ≤ N ∧ Hid (scan (LL.take k) = some vs) ∧ Hid (wr.ownsRow w1.heap.size 9 1 v vs.length (vs.map bl)) ∧ vs.length ≤ k ∧ Hid (Below w1.heap.size w1 wr) ∧ Hid (∀ x ∈ vs, x.length ≤ s.size)) (fun _ i _ => N - (intOf i).toNat)
  case atStart => exact ⟨0, [], rfl, Nat.zero_le _, Lib.hid rfl, Lib.hid (World.ownsRow_nil _ _ _ _), Nat.le_refl _, Lib.hid (Below.refl _ _), Lib.hid (fun x hx => by cases hx)⟩
  case round =>
    obtain ⟨k, vs, rfl, hk, HS, HO, hvk, HB, HL⟩ := hrel
    by_cases hlt : k < N
    · have hlt' : (k : Int) < (N : Int) := by omega
      obtain ⟨X, hX⟩ : ∃ X, LB[k]? = some X := ⟨_, List.getElem?_eq_getElem (by omega)⟩
      have hx := (HB.out.cell (p := ⟨w.heap.size, k, none⟩) hWs).trans (hrow.out k X hX)
      have hXs : X.size ≤ s.size := hszB X (List.mem_of_getElem? hX)
      have HX : Hid (LL[k]? = some X.data.toList) := Lib.hid (by rw [← hmap, List.getElem?_map, hX]; rfl)
      have hm2 := (HB.out.cell (p := ⟨0, 0, none⟩) (World.block_lt_of_cell? w1 _ HM1.out)).trans HM1.out
      have hcut := Tryz.strings_Cut X ⟨#[58]⟩ m wr (by omega) hm2
      have hone := scan_one X.data.toList
      have hcs := cut_size X.data.toList
      rw [← Lib.size_eq] at hcs
      have hcut' : (⟨#[58]⟩ : ByteArray).data.toList = [58] := rfl
      rw [hcut'] at hcut
      clear hcut' hX
      generalize Lib.cut X.data.toList [58] = C at *
      obtain ⟨A, D, F⟩ := C
      simp only at hcut hone hcs
      have hw : IntKind.i64.wrap ((k : Int) + 1) = ((k + 1 : Nat) : Int) := by rw [IntWalk.i64_in _ (by omega)]; omega
      have hname := fun wx => isName_any ⟨A.toArray⟩ wx (by show A.toArray.size ≤ _; rw [List.size_toArray]; omega)
      have hA : (⟨A.toArray⟩ : ByteArray).data.toList = A := rfl
      rw [hA] at hname
      cases F with
      | false =>
        have HN : Hid (V = .error 72) := Lib.hid (by rw [HV.out, scan_bad HX.out HS.out (by rw [hone]; rfl)])
        go_wp2_with fail
        refine hcut.mono ?_
        rintro e w2 ⟨rfl, q, rfl⟩
        have B2 := Lib.hid (belowN HB.out q)
        go_wp2_with fail
        go_ret2
        exact ⟨by rw [HN.out]; rfl, HB1.out.trans (B2.out.mono (by omega))⟩
      | true =>
        cases hn : isName A with
        | false =>
          rw [hn] at hname hone
          have HN : Hid (V = .error 72) := Lib.hid (by rw [HV.out, scan_bad HX.out HS.out (by rw [hone]; rfl)])
          go_wp2_with fail
          refine hcut.mono ?_
          rintro e w2 ⟨rfl, q, rfl⟩
          have B2 := Lib.hid (belowN HB.out q)
          go_wp2_with fail
          refine (hname _).mono ?_
          rintro e w3 ⟨rfl, hb⟩
          have B3 := Lib.hid (gcall B2.out B2.out.size hb)
          clear hb
          go_wp2_with fail
          go_ret2
          exact ⟨by rw [HN.out]; rfl, HB1.out.trans (B3.out.mono (by omega))⟩
        | true =>
          rw [hn] at hname hone
          have hasc := name_ascii hn
          have hfold := fun wx => Tryz.strings_EqualFold ⟨A.toArray⟩ ⟨#[99, 111, 110, 116, 101, 110, 116, 45, 108, 101, 110, 103, 116, 104]⟩ wx (by show A.toArray.size < _; rw [List.size_toArray]; omega) hasc (name_ascii (l := clen) (by decide +kernel))
          have hfd : Lib.equalFold (⟨A.toArray⟩ : ByteArray).data.toList (⟨#[99, 111, 110, 116, 101, 110, 116, 45, 108, 101, 110, 103, 116, 104]⟩ : ByteArray).data.toList = Lib.equalFold A clen := rfl
          rw [hfd] at hfold
          clear hfd hasc hn
          cases he : Lib.equalFold A clen with
          | false =>
            rw [he] at hone hfold
            have hone2 : scan [X.data.toList] = some [] := by rw [hone]; rfl
            have hs2 := scan_next HX.out HS.out hone2
            rw [List.append_nil] at hs2
            have HS2 := Lib.hid hs2
            clear hone2 hs2
            clear hone he
            go_wp2_with fail
            refine hcut.mono ?_
            rintro e w2 ⟨rfl, q, rfl⟩
            have B2 := Lib.hid (belowN HB.out q)
            have O2 := Lib.hid (owns_below HO.out (belowN (Below.refl wr.heap.size wr) q))
            go_wp2_with fail
            refine (hname _).mono ?_
            rintro e w3 ⟨rfl, hb⟩
            have B3 := Lib.hid (gcall B2.out B2.out.size hb)
            have O3 := Lib.hid (owns_below O2.out hb)
            clear hb
            go_wp2_with fail
            refine (hfold _).mono ?_
            rintro e w4 ⟨rfl, rfl⟩
            go_wp2_with fail
            go_roundw
            case rel => exact ⟨k + 1, vs, by go_num, by omega, HS2, O3, by omega, B3, HL⟩
            case measure => simp [intOf]; omega
          | true =>
            rw [he] at hone hfold
            have hone2 : scan [X.data.toList] = some [Lib.trimS D [32, 9]] := by rw [hone]; rfl
            have HS2 := Lib.hid (scan_next HX.out HS.out hone2)
            clear hone2
            have htrim := fun wx => trim_any ⟨D.toArray⟩ wx (by show D.toArray.size ≤ _; rw [List.size_toArray]; omega)
            have hD : (⟨D.toArray⟩ : ByteArray).data.toList = D := rfl
            rw [hD] at htrim
            have hts : (Lib.trimS D [32, 9]).length ≤ D.length := by
              unfold Lib.trimS Lib.trimLeftS Lib.trimRightS
              refine Nat.le_trans (List.dropWhile_suffix _).length_le ?_
              rw [List.length_reverse]
              refine Nat.le_trans (List.dropWhile_suffix _).length_le ?_
              rw [List.length_reverse]; exact Nat.le_refl _
            have HL2 : Hid (∀ x ∈ vs ++ [Lib.trimS D [32, 9]], x.length ≤ s.size) := Lib.hid fun x hx => by
              rcases List.mem_append.1 hx with hx | hx
              · exact HL.out x hx
              · rw [List.mem_singleton] at hx; subst hx; omega
            clear hone he hts hD
            generalize Lib.trimS D [32, 9] = TT at *
            go_wp2_with fail
            refine hcut.mono ?_
            rintro e w2 ⟨rfl, q, rfl⟩
            have B2 := Lib.hid (belowN HB.out q)
            have O2 := Lib.hid (owns_below HO.out (belowN (Below.refl wr.heap.size wr) q))
            go_wp2_with fail
            refine (hname _).mono ?_
            rintro e w3 ⟨rfl, hb⟩
            have B3 := Lib.hid (gcall B2.out B2.out.size hb)
            have O3 := Lib.hid (owns_below O2.out hb)
            clear hb
            go_wp2_with fail
            refine (hfold _).mono ?_
            rintro e w4 ⟨rfl, rfl⟩
            go_wp2_with fail
            refine (htrim _).mono ?_
            rintro e w4 ⟨rfl, hb⟩
            have B4 := Lib.hid (gcall B3.out B3.out.size hb)
            have O4 := Lib.hid (owns_below O3.out hb)
            clear hb
            go_wp2_with (at_builtin; refine wpList_append_own _ rfl _ _ 67 rfl w1.heap.size 9 i9 (.string ⟨#[]⟩) 1 16 u43 hi hz0 hz1 hz2 rfl (by decide) _ _ _ rfl (O4.out.alloc _) ⟨w4.heap.size, 0, none⟩ 1 1 [bl TT] rfl rfl ?c1 ?c2 ?c3 ?c4 ?c5 ?_)
            case c1 => exact World.news_of_block (w := w4.alloc (.cells #[bl TT] 9)) (heap_alloc_new w4 _)
            case c2 => simp [Value.oneCell', bl]
            case c3 => unfold maxLen; omega
            case c4 => omega
            case c5 => have := B4.out.size; simp; omega
            intro v' w5 hown hgrow _
            have B5 := Lib.hid ((galloc2 B4.out B4.out.size (.cells #[bl TT] 9)).grown hgrow (by have := B4.out.size; simp; omega) (fun b e => (O4.out.lt b e).1))
            have O5 : Hid (w5.ownsRow w1.heap.size 9 1 v' (vs ++ [TT]).length ((vs ++ [TT]).map bl)) := Lib.hid (by rw [List.length_append, List.map_append, hs1]; exact hown)
            clear hown hgrow
            go_wp2_with fail
            go_roundw
            case rel => exact ⟨k + 1, vs ++ [TT], by go_num, by omega, HS2, O5, by simp; omega, B5, HL2⟩
            case measure => simp [intOf]; omega
    · obtain rfl : k = N := by omega
      have hlt' : ¬ (k : Int) < (k : Int) := by omega
      have HSS : Hid (scan LL = some vs) := Lib.hid (by
        have := HS.out
        rw [List.take_of_length_le (by rw [← hmap, List.length_map]; omega)] at this; exact this)
      have HW0 : Hid (Below w.heap.size w wr) := Lib.hid (HB1.out.trans (HB.out.mono (by omega)))
      clear HS hlenB hszB hrow
      cases vs with
      | nil =>
        obtain ⟨p, cap, rfl⟩ := owns_shape HO.out
        have HN : Hid (V = .error 72) := Lib.hid (by rw [HV.out, HSS.out])
        go_wp2_with fail
        go_ret2
        exact ⟨by rw [HN.out]; rfl, HW0.out⟩
      | cons x vs =>
        cases vs with
        | cons y vs =>
          obtain ⟨p, cap, rfl⟩ := owns_shape HO.out
          have HN : Hid (V = .error 72) := Lib.hid (by rw [HV.out, HSS.out])
          have hq : (((x :: y :: vs).length : Int) == 1) = false := by simp; omega
          have hq2 : (((x :: y :: vs).length : Int) != 1) = true := by unfold bne; rw [hq]; rfl
          generalize (x :: y :: vs).length = L at *
          go_wp2_with fail
          go_ret2
          exact ⟨by rw [HN.out]; rfl, HW0.out⟩
        | nil =>
          obtain ⟨g, cap, rfl, hc⟩ := owns_first (n := 0) HO.out
          have hxs := HL.out x (by simp)
          have hnum := fun wx => isNumber_any ⟨x.toArray⟩ wx (by show x.toArray.size ≤ _; rw [List.size_toArray]; omega)
          have hx : (⟨x.toArray⟩ : ByteArray).data.toList = x := rfl
          rw [hx] at hnum
          have hcb : ∀ w', Below wr.heap.size wr w' → w'.cell? ⟨g, 0, none⟩ = some (bl x) := fun w' h => (h.cell (World.block_lt_of_cell? wr _ hc)).trans hc
          unfold bl at hc hcb
          cases hn : isNumb x with
          | false =>
            rw [hn] at hnum
            have HN : Hid (V = .error 72) := Lib.hid (by rw [HV.out, HSS.out]; simp only [hn]; rfl)
            go_wp2_with fail
            refine (hnum _).mono ?_
            rintro e w2 ⟨rfl, hb⟩
            have B2 := Lib.hid (gcall HW0.out HW0.out.size hb)
            clear hb
            go_wp2_with fail
            go_ret2
            exact ⟨by rw [HN.out]; rfl, B2.out⟩
          | true =>
            rw [hn] at hnum
            have HVV : Hid (V = match Lib.atoiAll x with | .ok n => if 262144 < n then .error 40 else .ok n.toNat | _ => .error 40) := Lib.hid (by rw [HV.out, HSS.out]; simp only [hn]; rfl)
            have hev3 : ∀ w', Below wr.heap.size wr w' → w'.cell? ⟨8, 0, none⟩ = some ev := fun w' h =>
              ((h.cell (p := ⟨8, 0, none⟩) (Nat.lt_of_lt_of_le (World.block_lt_of_cell? w1 _ HEV.out) HB.out.size)).trans (HB.out.cell (p := ⟨8, 0, none⟩) (World.block_lt_of_cell? w1 _ HEV.out))).trans HEV.out
            rcases numb_atoi hn with ha | ⟨u, ha⟩
            · have HN : Hid (V = .error 40) := Lib.hid (by rw [HVV.out, ha])
              have hat := fun wx (h : wx.cell? ⟨8, 0, none⟩ = some ev) => Tryz.strconv_Atoi_range ⟨x.toArray⟩ (by show x.toArray.size ≤ _; rw [List.size_toArray]; omega) ha ev wx h hev2
              clear hn ha
              go_wp2_with fail
              refine (hnum _).mono ?_
              rintro e w2 ⟨rfl, hb⟩
              have B2 := Lib.hid (gcall HW0.out HW0.out.size hb)
              have hc2 := hcb _ hb
              have he2 := hev3 _ hb
              clear hb
              go_wp2_with fail
              refine (hat _ he2).mono ?_
              rintro e w3 ⟨NN, rfl, _, _, hb⟩
              have B3 := Lib.hid (gcall B2.out B2.out.size hb)
              clear hb
              go_wp2_with fail
              go_ret2
              exact ⟨by rw [HN.out]; rfl, B3.out⟩
            · have hat := Tryz.strconv_Atoi_ok ⟨x.toArray⟩ (by show x.toArray.size ≤ _; rw [List.size_toArray]; omega) (u : Int) ha
              by_cases hu : 262144 < u
              · have hu' : (262144 : Int) < (u : Int) := by omega
                have HN : Hid (V = .error 40) := Lib.hid (by rw [HVV.out, ha]; simp only; rw [if_pos hu'])
                clear hn ha
                go_wp2_with fail
                refine (hnum _).mono ?_
                rintro e w2 ⟨rfl, hb⟩
                have B2 := Lib.hid (gcall HW0.out HW0.out.size hb)
                have hc2 := hcb _ hb
                clear hb
                go_wp2_with fail
                refine (hat _).mono ?_
                rintro e w3 ⟨rfl, hw3⟩
                have B3 : Hid (Below w.heap.size w w3) := Lib.hid (by
                  rcases hw3 with rfl | ⟨t, rfl⟩
                  · exact B2.out
                  · exact gcall B2.out B2.out.size (bytesWorld_below w2 5 t))
                clear hw3
                go_wp2_with fail
                go_ret2
                exact ⟨by rw [HN.out]; rfl, B3.out⟩
              · have hu' : ¬ (262144 : Int) < (u : Int) := by omega
                have HN : Hid (V = .ok u) := Lib.hid (by rw [HVV.out, ha]; simp only; rw [if_neg hu']; rfl)
                clear hn ha
                go_wp2_with fail
                refine (hnum _).mono ?_
                rintro e w2 ⟨rfl, hb⟩
                have B2 := Lib.hid (gcall HW0.out HW0.out.size hb)
                have hc2 := hcb _ hb
                clear hb
                go_wp2_with fail
                refine (hat _).mono ?_
                rintro e w3 ⟨rfl, hw3⟩
                have B3 : Hid (Below w.heap.size w w3) := Lib.hid (by
                  rcases hw3 with rfl | ⟨t, rfl⟩
                  · exact B2.out
                  · exact gcall B2.out B2.out.size (bytesWorld_below w2 5 t))
                clear hw3
                go_wp2_with fail
                go_ret2
                exact ⟨by rw [HN.out]; rfl, B3.out⟩

end Go.Proofs.YtlafcnmopclgiaaGreatDoor
