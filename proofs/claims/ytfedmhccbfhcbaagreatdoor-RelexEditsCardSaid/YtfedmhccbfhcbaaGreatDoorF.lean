/-
  inReach, number.
-/
import Derived.Test.YtfedmhccbfhcbaaGreatDoorE
import Derived.Lib.AtoiAll
import Derived.Lib.ConvBytes
namespace Go.Proofs.YtfedmhccbfhcbaaGreatDoor
open Go.RowKit

def valF (acc : Nat) (l : List UInt8) : Nat := l.foldl (fun n c => n * 10 + (c.toNat - 48)) acc
theorem valF_ge : ∀ (l : List UInt8) (acc : Nat), acc ≤ valF acc l
  | [], acc => Nat.le_refl _
  | c :: r, acc => by
    have := valF_ge r (acc * 10 + (c.toNat - 48))
    show acc ≤ valF (acc * 10 + (c.toNat - 48)) r
    omega
theorem parse_val : ∀ (l : List UInt8) (acc : Nat), (∀ c ∈ l, digB c = true) → Lib.parseUint10 acc l = .ok (valF acc l) ∨ (Lib.parseUint10 acc l = .range ∧ 18446744073709551616 ≤ valF acc l)
  | [], acc, _ => .inl rfl
  | c :: r, acc, h => by
    have hc := h c (by simp)
    have hc2 : 48 ≤ c.toNat ∧ c.toNat ≤ 57 := by unfold digB at hc; simpa using hc
    have hv : valF acc (c :: r) = valF (acc * 10 + (c.toNat - 48)) r := rfl
    have hg := valF_ge r (acc * 10 + (c.toNat - 48))
    rw [hv]
    unfold Lib.parseUint10
    rw [if_pos hc2]
    by_cases h1 : 1844674407370955162 ≤ acc
    · rw [if_pos h1]; exact .inr ⟨rfl, by omega⟩
    · rw [if_neg h1]
      by_cases h2 : 18446744073709551616 ≤ acc * 10 + (c.toNat - 48)
      · rw [if_pos h2]; exact .inr ⟨rfl, by omega⟩
      · rw [if_neg h2]; exact parse_val r _ (fun d hd => h d (by simp [hd]))
/-- The text of an exponent. -/
def ExpText (l : List UInt8) : Prop := l = [] ∨ ∃ c r, l = c :: r ∧ (∀ d ∈ r.drop (sgn r), digB d = true) ∧ r.drop (sgn r) ≠ []
theorem lead_mem {p : UInt8 → Bool} {l : List UInt8} {n : Nat} (h : n ≤ lead p l) : ∀ d ∈ l.take n, p d = true := by
  intro d hd
  obtain ⟨k, hk, e⟩ := List.getElem_of_mem hd
  rw [List.length_take] at hk
  rw [List.getElem_take] at e
  exact lead_all p l k d (by omega) (by rw [← e]; exact List.getElem?_eq_getElem _)
theorem expT_text (r : List UInt8) : ExpText (expT r) := by
  unfold expT
  generalize r.drop (frac r) = l
  cases l with
  | nil => exact .inl rfl
  | cons c r =>
    rw [expo_cons]
    by_cases h1 : (c == 101 || c == 69) = true
    · rw [if_pos h1]
      by_cases h2 : lead digB (r.drop (sgn r)) = 0
      · rw [if_pos h2]; exact .inl rfl
      · rw [if_neg h2, Nat.add_assoc, Nat.add_comm 1, List.take_succ_cons]
        refine .inr ⟨c, _, rfl, ?_, ?_⟩
        · rw [sgn_take _ _ (by omega), List.drop_take, Nat.add_sub_cancel_left]
          exact lead_mem (Nat.le_refl _)
        · rw [sgn_take _ _ (by omega), List.drop_take, Nat.add_sub_cancel_left]
          intro e
          have := congrArg List.length e
          have hl := lead_le digB (r.drop (sgn r))
          rw [List.length_take, List.length_nil] at this
          omega
    · rw [if_neg h1]; exact .inl rfl
theorem atoi_of {c : UInt8} {r : List UInt8} (hd : ∀ d ∈ r.drop (sgn r), digB d = true) (hn : r.drop (sgn r) ≠ []) :
    Lib.atoiAll r = .ok (power (c :: r)) ∨ (Lib.atoiAll r = .range ∧ (power (c :: r) ≤ -1000000 ∨ 1000000 ≤ power (c :: r))) := by
  cases r with
  | nil => exact absurd rfl hn
  | cons d t =>
    have h43 : (d == 43) = true ↔ d.toNat = 43 := by
      rw [beq_iff_eq]; exact ⟨fun h => by rw [h]; rfl, fun h => UInt8.toNat_inj.1 h⟩
    have h45 : (d == 45) = true ↔ d.toNat = 45 := by
      rw [beq_iff_eq]; exact ⟨fun h => by rw [h]; rfl, fun h => UInt8.toNat_inj.1 h⟩
    have hs : sgn (d :: t) = if (d == 43 || d == 45) = true then 1 else 0 := rfl
    have hm : (if d.toNat = 43 ∨ d.toNat = 45 then t else d :: t) = (d :: t).drop (sgn (d :: t)) := by
      rw [hs]
      by_cases g : (d == 43 || d == 45) = true
      · have g2 : d.toNat = 43 ∨ d.toNat = 45 := by rw [Bool.or_eq_true, h43, h45] at g; exact g
        rw [if_pos g, if_pos g2]; rfl
      · have g2 : ¬ (d.toNat = 43 ∨ d.toNat = 45) := by rw [Bool.or_eq_true, h43, h45] at g; exact g
        rw [if_neg g, if_neg g2]; rfl
    have hp : power (c :: d :: t) = if d.toNat = 45 then -(valD ((d :: t).drop (sgn (d :: t))) : Int) else valD ((d :: t).drop (sgn (d :: t))) := by
      have e : power (c :: d :: t) = if (d :: t).head? = some 45 then -(valD ((d :: t).drop (sgn (d :: t))) : Int) else valD ((d :: t).drop (sgn (d :: t))) := rfl
      rw [e]
      by_cases g : d.toNat = 45
      · have : d = 45 := UInt8.toNat_inj.1 g
        rw [if_pos g, if_pos (by rw [this]; rfl)]
      · rw [if_neg g, if_neg (fun h => g (by rw [Option.some.inj h]; rfl))]
    generalize (d :: t).drop (sgn (d :: t)) = L at *
    rw [hp]
    unfold Lib.atoiAll
    simp only []
    rw [hm]
    unfold Lib.parseMag
    rw [if_neg hn]
    have hvv : valD L = valF 0 L := rfl
    rcases parse_val L 0 hd with h | ⟨h, h2⟩
    · rw [h, hvv]
      simp only []
      by_cases hneg : d.toNat = 45
      · simp only [hneg, not_true_eq_false, false_and, if_false, true_and, if_true]
        by_cases g : 9223372036854775808 < valF 0 L
        · rw [if_pos g]; exact .inr ⟨rfl, .inl (by omega)⟩
        · rw [if_neg g]; exact .inl rfl
      · simp only [hneg, not_false_eq_true, true_and, if_false, false_and]
        by_cases g : 9223372036854775808 ≤ valF 0 L
        · rw [if_pos g]; exact .inr ⟨rfl, .inr (by omega)⟩
        · rw [if_neg g]; exact .inl rfl
    · rw [h, hvv]
      refine .inr ⟨rfl, ?_⟩
      split
      · exact .inl (by omega)
      · exact .inr (by omega)
def reachB (e : List UInt8) (f : Nat) : Bool := decide ((f : Int) - 22 ≤ power e) && decide (power e ≤ (f : Int) + 22)
theorem fits_eq (w f : Nat) (e : List UInt8) : fits w f e = (decide (w + f ≤ 15) && reachB e f) := by unfold fits reachB; rw [Bool.and_assoc]

theorem bytesWorld_below (w : World) (e : TypeId) (s : ByteArray) : Below w.heap.size w (Lib.bytesWorld w e s) :=
  ⟨rfl, rfl, rfl, by rw [Lib.bytesWorld_size]; omega, fun k hk => Lib.bytesWorld_at_old w e s k hk⟩
theorem atoi_ok (s : ByteArray) (hz : s.size ≤ 1000000000) (v : Int) (h : Lib.atoiAll s.data.toList = .ok v) (w : World) :
    Calls Tryz.prog 78 #[.string s] w fun e w' => e = .returned (.tuple #[.int .i64 v, .nilIface]) ∧ Below w.heap.size w w' := by
  refine (Tryz.strconv_Atoi_ok s (by omega) v h w).mono ?_
  rintro e w' ⟨h1, h2⟩
  refine ⟨h1, ?_⟩
  rcases h2 with rfl | ⟨t, rfl⟩
  · exact Below.refl _ _
  · exact bytesWorld_below _ _ _
/-- The error that strconv hands back. -/
def ErrAt (w : World) : Prop := ∃ ev, w.cell? ⟨4, 0, none⟩ = some ev ∧ (ev = .nilIface ∨ ∃ te pe, ev = .iface te pe)
theorem ErrAt.below {n : Nat} {W W' : World} (h : ErrAt W) (hb : Below n W W') (hn : 5 ≤ n) : ErrAt W' := by
  obtain ⟨ev, h, h2⟩ := h
  exact ⟨ev, (hb.cell (p := ⟨4, 0, none⟩) (by show 4 < n; omega)).trans h, h2⟩
theorem ba_of (s : ByteArray) {l : List UInt8} (h : s.data.toList = l) : s = ⟨l.toArray⟩ := Utf.ba_ext (by rw [h])
set_option maxHeartbeats 4000000 in
theorem inReach_any (x : ByteArray) (f : Nat) (w : World) (hf : f ≤ 15) (hz : x.size ≤ 1000000000) (hx : ExpText x.data.toList) (he : ErrAt w) :
    Calls Tryz.prog 72 #[.string x, .int .i64 f] w fun e w' => e = .returned (.bool (reachB x.data.toList f)) ∧ Below w.heap.size w w' := by
  rcases hx with hx | ⟨c, r, hx, hd, hn⟩
  · have h0 : x.size = 0 := by rw [Lib.size_eq, hx]; rfl
    have e1 := Utf.isEmpty_yes h0
    have HV : Hid (reachB x.data.toList f = true) := Lib.hid (by rw [hx]; unfold reachB power; simp; omega)
    clear h0 hx
    have k1 : (f : Int) - 22 ≤ 0 := by omega
    have k2 : (0 : Int) ≤ (f : Int) + 22 := by omega
    go_enter Tryz.func72, Tryz.ntmps72
    go_wp2_with fail
    go_ret
    exact ⟨by rw [HV.out]; rfl, Below.refl _ _⟩
  · have h0 : 0 < x.size := by rw [Lib.size_eq, hx]; simp
    have e1 := Utf.isEmpty_no h0
    have hr : (x.extract 1 x.size).data.toList = r := by rw [ext_list, hx]; rfl
    have hrs : (x.extract 1 x.size).size ≤ 1000000000 := by rw [ext_size]; omega
    have h1 : (1 : Int) ≤ (x.size : Int) := by omega
    obtain ⟨ev, he, he2⟩ := he
    rcases atoi_of (c := c) hd hn with ha | ⟨ha, hp⟩
    · have hat := fun W => atoi_ok (x.extract 1 x.size) hrs (power (c :: r)) (by rw [hr]; exact ha) W
      rw [← hx] at hat
      generalize hP : power x.data.toList = P at *
      have HV : Hid (reachB x.data.toList f = (decide ((f : Int) - 22 ≤ P) && decide (P ≤ (f : Int) + 22))) := Lib.hid (by unfold reachB; rw [hP])
      clear hP h0 hx ha hd hn hr
      by_cases h2 : (f : Int) - 22 ≤ P
      · by_cases h3 : P ≤ (f : Int) + 22
        · have HB : Hid (reachB x.data.toList f = true) := Lib.hid (by rw [HV.out, decide_eq_true h2, decide_eq_true h3]; rfl)
          go_enter Tryz.func72, Tryz.ntmps72
          go_wp2_with (go_at_call 78; refine (hat _).mono ?_; rintro e w' ⟨rfl, hb⟩)
          go_ret
          exact ⟨by rw [HB.out]; rfl, hb⟩
        · have HB : Hid (reachB x.data.toList f = decide (P ≤ (f : Int) + 22)) := Lib.hid (by rw [HV.out, decide_eq_true h2, Bool.true_and])
          go_enter Tryz.func72, Tryz.ntmps72
          go_wp2_with (go_at_call 78; refine (hat _).mono ?_; rintro e w' ⟨rfl, hb⟩)
          go_ret
          exact ⟨by rw [HB.out]; rfl, hb⟩
      · have HB : Hid (reachB x.data.toList f = false) := Lib.hid (by rw [HV.out, decide_eq_false h2, Bool.false_and])
        go_enter Tryz.func72, Tryz.ntmps72
        go_wp2_with (go_at_call 78; refine (hat _).mono ?_; rintro e w' ⟨rfl, hb⟩)
        go_ret
        exact ⟨by rw [HB.out]; rfl, hb⟩
    · have hat := Tryz.strconv_Atoi_range (x.extract 1 x.size) (by omega) (by rw [hr]; exact ha) ev w he he2
      rw [← hx] at hp
      have HV : Hid (reachB x.data.toList f = false) := Lib.hid (by
        unfold reachB
        rcases hp with hp | hp
        · rw [decide_eq_false (by omega)]; rfl
        · rw [decide_eq_false (p := power x.data.toList ≤ (f : Int) + 22) (by omega), Bool.and_false])
      clear h0 hx ha hd hn hr hp he he2
      generalize Lib.atoiSat (x.extract 1 x.size).data.toList = S at *
      go_enter Tryz.func72, Tryz.ntmps72
      go_wp2_with (go_at_call 78; refine hat.mono ?_; rintro e w' ⟨NN, rfl, _, _, hb⟩)
      go_ret
      exact ⟨by rw [HV.out]; rfl, hb⟩
def numR (l : List UInt8) : Nat × Nat := if lead digB l = 0 then (0, 0) else num l
def NumEnd2 (V : Nat × Nat) (w : World) (e : Ending) (w' : World) : Prop := e = .returned (.tuple #[.int .u8 V.1, .int .i64 V.2]) ∧ Below w.heap.size w w'
theorem cut_dot (s : ByteArray) (w : World) : Calls Tryz.prog 70 #[.string s, .string ⟨#[46]⟩] w fun e w' => e = .returned (.tuple #[.string (if s.data.toList[0]? = some 46 then s.extract 1 s.size else s), .bool (decide (s.data.toList[0]? = some 46))]) ∧ w = w' := by
  refine (Tryz.strings_CutPrefix s ⟨#[46]⟩ w).mono ?_
  rintro e w' ⟨h1, h2⟩
  refine ⟨?_, h2.symm⟩
  rw [h1]
  have hp : Lib.hasPrefix s.data.toList (⟨#[46]⟩ : ByteArray).data.toList = decide (s.data.toList[0]? = some 46) := by
    show [46].isPrefixOf s.data.toList = _
    rw [Bool.eq_iff_iff, decide_eq_true_eq]
    cases s.data.toList with
    | nil => simp
    | cons c r => simp [List.isPrefixOf]; exact eq_comm
  have ht : (⟨(Lib.trimPrefix s.data.toList (⟨#[46]⟩ : ByteArray).data.toList).toArray⟩ : ByteArray) = if s.data.toList[0]? = some 46 then s.extract 1 s.size else s := by
    unfold Lib.trimPrefix
    rw [hp]
    by_cases h : s.data.toList[0]? = some 46
    · rw [if_pos h, if_pos (decide_eq_true h)]
      exact Utf.ba_ext (by rw [ext_list]; rfl)
    · rw [if_neg h, if_neg (by rw [decide_eq_true_eq]; exact h)]
  rw [hp, ht]
set_option maxHeartbeats 4000000 in
theorem number_any (s : ByteArray) (w : World) (hz : s.size ≤ 1000000000) (he : ErrAt w) : Calls Tryz.prog 57 #[.string s] w (NumEnd2 (numR s.data.toList) w) := by
  have c1 := fun W => leading63 digB isDigit_any s W hz
  have hl := lead_le digB s.data.toList
  rw [← Lib.size_eq] at hl
  obtain ⟨R, hR⟩ : ∃ R, numR s.data.toList = R := ⟨_, rfl⟩
  rw [hR]
  have hn := num_eq s.data.toList
  unfold numR at hR
  obtain ⟨W, hW⟩ : ∃ W, lead digB s.data.toList = W := ⟨_, rfl⟩
  rw [hW] at c1 hl hn hR
  clear hW
  by_cases h0 : W = 0
  · have q : ((W : Int) == 0) = true := by rw [h0]; rfl
    have HR : Hid (R = (0, 0)) := Lib.hid (by rw [← hR, if_pos h0])
    clear hR h0 hn
    go_enter Tryz.func57, Tryz.ntmps57
    go_wp2_with (go_at_call 63; ((with_reducible refine (c1 _).mono ?_); rintro e w' ⟨rfl, rfl⟩))
    go_ret2
    exact ⟨by rw [HR.out]; rfl, Below.refl _ _⟩
  · have q : ((W : Int) == 0) = false := beq_eq_false_iff_ne.2 (by omega)
    rw [if_neg h0] at hR
    have hWs : (W : Int) ≤ (s.size : Int) := by omega
    have c2 := fun Wd => cut_dot (s.extract W s.size) Wd
    rw [ext_list, List.getElem?_drop, Nat.add_zero] at c2
    by_cases hp : s.data.toList[W]? = some 46
    · rw [if_pos hp] at hn
      rw [if_pos hp, decide_eq_true hp] at c2
      obtain ⟨X, hX⟩ : ∃ X, (s.extract W s.size).extract 1 (s.extract W s.size).size = X := ⟨_, rfl⟩
      have hXl : X.data.toList = s.data.toList.drop (W + 1) := by rw [← hX, ext_list, ext_list, List.drop_drop]
      have hWl : W < s.size := by
        rw [Lib.size_eq]
        exact (List.getElem?_eq_some_iff.1 hp).1
      have hXs : X.size + W + 1 = s.size := by rw [Lib.size_eq, hXl, List.length_drop, Lib.size_eq]; rw [Lib.size_eq] at hWl; omega
      rw [hX] at c2
      clear hX
      rw [← hXl] at hn
      have c3 := fun Wd => leading63 digB isDigit_any X Wd (by omega)
      have hfl := lead_le digB X.data.toList
      rw [← Lib.size_eq] at hfl
      have hF1 : frac X.data.toList = lead digB X.data.toList := rfl
      obtain ⟨F, hF⟩ : ∃ F, lead digB X.data.toList = F := ⟨_, rfl⟩
      rw [hF] at c3 hfl hF1
      have hxp := expT_text X.data.toList
      obtain ⟨Y, hY⟩ : ∃ Y, (X.extract F X.size).extract 0 (expo (X.extract F X.size).data.toList) = Y := ⟨_, rfl⟩
      have hYl : Y.data.toList = expT X.data.toList := by rw [← hY, Utf.extract_list, List.drop_zero, ext_list]; unfold expT; rw [hF1]
      have c4 := fun Wd => exponentOf_any (X.extract F X.size) Wd (by rw [ext_size]; omega)
      rw [hY] at c4
      have hYs : Y.size ≤ X.size - F := by
        rw [Lib.size_eq Y, hYl]
        unfold expT
        rw [List.length_take, List.length_drop, hF1, ← Lib.size_eq]; omega
      clear hY
      rw [hF1, ← hYl] at hn
      rw [← hYl] at hxp
      have hYL : Y.data.toList.length = Y.size := (Lib.size_eq Y).symm
      have HR : Hid (R = (if fits W F Y.data.toList then 6 else 9, W + 1 + F + Y.size)) := Lib.hid (by rw [← hR, hn, hYL])
      have hfe := fits_eq W F Y.data.toList
      clear hF hF1 hXl hYl hn hR hp h0 hYL
      have hFs : (F : Int) ≤ (X.size : Int) := by omega
      have w1 : IntKind.i64.wrap ((W : Int) + 1) = ((W + 1 : Nat) : Int) := by rw [IntWalk.i64_in _ (by omega)]; omega
      have w2 : IntKind.i64.wrap (((W + 1 : Nat) : Int) + (F : Int)) = ((W + 1 + F : Nat) : Int) := by rw [IntWalk.i64_in _ (by omega)]; omega
      have w3 : IntKind.i64.wrap (((W + 1 + F : Nat) : Int) + (Y.size : Int)) = ((W + 1 + F + Y.size : Nat) : Int) := by rw [IntWalk.i64_in _ (by omega)]; omega
      have w4 : IntKind.i64.wrap ((W : Int) + (F : Int)) = ((W + F : Nat) : Int) := by rw [IntWalk.i64_in _ (by omega)]; omega
      by_cases h15 : W + F ≤ 15
      · have g : ¬ (15 : Int) < ((W + F : Nat) : Int) := by omega
        have g2 : decide ((15 : Int) < ((W + F : Nat) : Int)) = false := decide_eq_false g
        have c5 := fun Wd h => inReach_any Y F Wd (by omega) (by omega) hxp h
        rw [decide_eq_true h15, Bool.true_and] at hfe
        rw [hfe] at HR
        cases hb : reachB Y.data.toList F with
        | true =>
          rw [hb] at c5 HR
          clear hb hfe h15 hxp
          go_enter Tryz.func57, Tryz.ntmps57
          go_wp2_with (first | (go_at_call 63; ((with_reducible refine (c1 _).mono ?_); rintro e w' ⟨rfl, rfl⟩)) | (go_at_call 63; ((with_reducible refine (c3 _).mono ?_); rintro e w' ⟨rfl, rfl⟩)) | (go_at_call 70; ((with_reducible refine (c2 _).mono ?_); rintro e w' ⟨rfl, rfl⟩)) | (go_at_call 71; ((with_reducible refine (c4 _).mono ?_); rintro e w' ⟨rfl, rfl⟩)) | (go_at_call 72; ((with_reducible refine (c5 _ he).mono ?_); rintro e w' ⟨rfl, hb⟩)))
          go_ret2
          exact ⟨by rw [HR.out]; rfl, hb⟩
        | false =>
          rw [hb] at c5 HR
          clear hb hfe h15 hxp
          go_enter Tryz.func57, Tryz.ntmps57
          go_wp2_with (first | (go_at_call 63; ((with_reducible refine (c1 _).mono ?_); rintro e w' ⟨rfl, rfl⟩)) | (go_at_call 63; ((with_reducible refine (c3 _).mono ?_); rintro e w' ⟨rfl, rfl⟩)) | (go_at_call 70; ((with_reducible refine (c2 _).mono ?_); rintro e w' ⟨rfl, rfl⟩)) | (go_at_call 71; ((with_reducible refine (c4 _).mono ?_); rintro e w' ⟨rfl, rfl⟩)) | (go_at_call 72; ((with_reducible refine (c5 _ he).mono ?_); rintro e w' ⟨rfl, hb⟩)))
          go_ret2
          exact ⟨by rw [HR.out]; rfl, hb⟩
      · have g : (15 : Int) < ((W + F : Nat) : Int) := by omega
        rw [decide_eq_false h15, Bool.false_and] at hfe
        rw [hfe] at HR
        clear hfe h15 hxp
        go_enter Tryz.func57, Tryz.ntmps57
        go_wp2_with (first | (go_at_call 63; ((with_reducible refine (c1 _).mono ?_); rintro e w' ⟨rfl, rfl⟩)) | (go_at_call 63; ((with_reducible refine (c3 _).mono ?_); rintro e w' ⟨rfl, rfl⟩)) | (go_at_call 70; ((with_reducible refine (c2 _).mono ?_); rintro e w' ⟨rfl, rfl⟩)) | (go_at_call 71; ((with_reducible refine (c4 _).mono ?_); rintro e w' ⟨rfl, rfl⟩)))
        go_ret2
        exact ⟨by rw [HR.out]; rfl, Below.refl _ _⟩
    · rw [if_neg hp] at hn
      rw [if_neg hp, decide_eq_false hp] at c2
      have HR : Hid (R = (5, W)) := Lib.hid (by rw [← hR, hn])
      clear hR h0 hn hp
      go_enter Tryz.func57, Tryz.ntmps57
      go_wp2_with (first | (go_at_call 63; ((with_reducible refine (c1 _).mono ?_); rintro e w' ⟨rfl, rfl⟩)) | (go_at_call 70; ((with_reducible refine (c2 _).mono ?_); rintro e w' ⟨rfl, rfl⟩)))
      go_ret2
      exact ⟨by rw [HR.out]; rfl, Below.refl _ _⟩
end Go.Proofs.YtfedmhccbfhcbaaGreatDoor
