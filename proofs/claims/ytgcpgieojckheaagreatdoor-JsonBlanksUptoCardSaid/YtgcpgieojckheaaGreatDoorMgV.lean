/-
  The reference: parse.
-/
import Derived.Test.YtgcpgieojckheaaGreatDoorMgU
import Derived.Test.YtgcpgieojckheaaGreatDoorMgL
import Derived.Deep.DeepCutAuto
import Derived.StillTailTactics
namespace Go.Proofs.YtgcpgieojckheaaGreatDoor
open Go.RowKit Go.Shelf

/-- What parse has so far: in a block of its own; the block of its result is still empty. -/
structure RS (w : World) (neg : Bool) (D : ByteArray) (X : Int) (W : World) : Prop where
  x : W.heap[w.heap.size + 1]? = some (.cells #[.bool neg, .string D, .int .i64 X] 73 (0, 0))
  r : W.heap[w.heap.size]? = some (.cells #[.bool false, .string ⟨#[]⟩, .int .i64 0] 73 (0, 0))
  b : Below w.heap.size w W
theorem RS.lt {w W : World} {neg : Bool} {D : ByteArray} {X : Int} (h : RS w neg D X W) : w.heap.size + 1 < W.heap.size := (Array.getElem?_eq_some_iff.1 h.x).1
theorem RS.set0 {w W : World} {neg : Bool} {D : ByteArray} {X : Int} (h : RS w neg D X W) (t : Bool) : RS w t D X (W.setCell ⟨w.heap.size + 1, 0, none⟩ (.bool t)) :=
  ⟨heap_setCell_same _ _ _ _ _ _ h.x, (Below.heap_setCell _ _ _ _ (by simp)).trans h.r, h.b.setCell (by simp) _⟩
theorem RS.set1 {w W : World} {neg : Bool} {D : ByteArray} {X : Int} (h : RS w neg D X W) (E : ByteArray) : RS w neg E X (W.setCell ⟨w.heap.size + 1, 1, none⟩ (.string E)) :=
  ⟨heap_setCell_same _ _ _ _ _ _ h.x, (Below.heap_setCell _ _ _ _ (by simp)).trans h.r, h.b.setCell (by simp) _⟩
theorem RS.set2 {w W : World} {neg : Bool} {D : ByteArray} {X : Int} (h : RS w neg D X W) (Y : Int) : RS w neg D Y (W.setCell ⟨w.heap.size + 1, 2, none⟩ (.int .i64 Y)) :=
  ⟨heap_setCell_same _ _ _ _ _ _ h.x, (Below.heap_setCell _ _ _ _ (by simp)).trans h.r, h.b.setCell (by simp) _⟩
theorem RS.drew {w W : World} {neg : Bool} {D : ByteArray} {X : Int} (h : RS w neg D X W) : RS w neg D X W.drew := ⟨h.x, h.r, h.b.drew⟩
theorem RS.start (w : World) : RS w false ⟨#[]⟩ 0 ((w.alloc (.cells #[.bool false, .string ⟨#[]⟩, .int .i64 0] 73)).alloc (.cells #[.bool false, .string ⟨#[]⟩, .int .i64 0] 73)) := by
  refine ⟨?_, (Below.heap_alloc _ _ _ (by simp)).trans (World.alloc_heap_new w _), galloc (galloc (Below.refl _ _) _) _⟩
  have := World.alloc_heap_new (w.alloc (.cells #[.bool false, .string ⟨#[]⟩, .int .i64 0] 73)) (.cells #[.bool false, .string ⟨#[]⟩, .int .i64 0] 73)
  have hz : (w.alloc (.cells #[.bool false, .string ⟨#[]⟩, .int .i64 0] 73)).heap.size = w.heap.size + 1 := by simp
  rw [hz] at this
  exact this
theorem hd_fact {s : ByteArray} {i : Nat} (h : i < s.size) {l : List UInt8} (hl : s.data.toList = l) (c : UInt8) {n : Int} (hn : (c.toNat : Int) = n) {b : Bool} (hb : hd c (l.drop i) = b) : ((((s[i]'h).toNat : Int)) == n) = b := by
  rw [← hn, ← hb, ← hl, hd_at h]
theorem hd_pos {c : UInt8} {l : List UInt8} {i : Nat} (h : hd c (l.drop i) = true) : i < l.length := by
  rcases Nat.lt_or_ge i l.length with g | g
  · exact g
  · rw [List.drop_eq_nil_of_le g] at h; simp [hd] at h
theorem hd_none {s : ByteArray} {i : Nat} (h : ¬ i < s.size) {l : List UInt8} (hl : s.data.toList = l) (c : UInt8) : hd c (l.drop i) = false := by
  rw [← hl]; exact hd_end h c
theorem digs_hd {M : List UInt8} (h : digs M ≠ []) (c : UInt8) : hd c (digs M) = hd c M := by
  unfold digs at *
  cases M with
  | nil => rfl
  | cons a r =>
    rw [List.takeWhile_cons] at h ⊢
    split
    · rfl
    · rename_i g; rw [if_neg g] at h; exact absurd rfl h
theorem whole_one {d : List UInt8} (h : d.length = 1) : wholeOk d = true := by
  cases d with
  | nil => simp at h
  | cons a r => cases r with
    | nil => simp [wholeOk]
    | cons b q => simp at h
theorem whole_two {d : List UInt8} (h : 2 ≤ d.length) : wholeOk d = !hd 48 d := by
  cases d with
  | nil => simp at h
  | cons a r => cases r with
    | nil => simp at h
    | cons b q => simp [wholeOk, hd]
theorem set3c {W : World} {C : Nat} {t : TypeId} {a b c : Value} (x y z : Value) (h : W.heap[C]? = some (.cells #[a, b, c] t (0, 0))) :
    (((W.setCell ⟨C, 0, none⟩ x).setCell ⟨C, 1, none⟩ y).setCell ⟨C, 2, none⟩ z).heap[C]? = some (.cells #[x, y, z] t (0, 0)) :=
  heap_setCell_same _ _ _ _ _ z (heap_setCell_same _ _ _ _ _ y (heap_setCell_same _ _ _ _ _ x h))
theorem trimL_from {l : List UInt8} {k : Nat} (hk : k ≤ l.length) (h1 : ∀ (j : Nat) c, j < k → l[j]? = some c → c = 48) (h2 : ∀ c, l[k]? = some c → c ≠ 48) : trimL l = l.drop k :=
  Lib.trimLeftB_drop l 48 k hk h1 h2
theorem trimR_upto {l : List UInt8} {k t : Nat} (hkt : k ≤ t) (htl : t ≤ l.length) (h1 : l.drop t = List.replicate (l.length - t) 48) (h2 : k < t → ∀ c, l[t - 1]? = some c → c ≠ 48) : trimR (l.drop k) = (l.drop k).take (t - k) := by
  have e : l.drop k = (l.drop k).take (t - k) ++ List.replicate (l.length - t) 48 := by
    conv => lhs; rw [← List.take_append_drop (t - k) (l.drop k)]
    rw [List.drop_drop, show k + (t - k) = t by omega, h1]
  have hl : ((l.drop k).take (t - k)).length = t - k := by rw [List.length_take, List.length_drop]; omega
  have hla : k < t → ((l.drop k).take (t - k)).getLast? = l[t - 1]? := fun g => by
    rw [List.getLast?_eq_getElem?, hl, List.getElem?_take, if_pos (by omega), List.getElem?_drop, show k + (t - k - 1) = t - 1 by omega]
  have e2 := congrArg trimR e
  rw [trimR_app_nought] at e2
  rw [e2]
  rcases Nat.lt_or_ge k t with g | g
  · exact trimR_of (by rw [hla g]; intro h; exact h2 g 48 h rfl)
  · have : (l.drop k).take (t - k) = [] := List.eq_nil_of_length_eq_zero (by rw [hl]; omega)
    rw [this]; rfl
theorem val_trim {p : Pt} {P : Int} {E : ByteArray} {k t : Nat} (hkt : k ≤ t) (htl : t ≤ E.size) (hL : trimL (p.whole ++ p.frac) = E.data.toList.drop k) (hR : trimR (E.data.toList.drop k) = (E.data.toList.drop k).take (t - k)) :
    (k = t → valP p P = Num.zero) ∧ (k < t → valP p P = ⟨p.neg, (E.extract k t).data.toList, P - (p.frac.length : Int) + ((E.size : Int) - (t : Int))⟩) := by
  have hx : (E.extract k t).data.toList = (E.data.toList.drop k).take (t - k) := ex_list E k t
  have hl : ((E.data.toList.drop k).take (t - k)).length = t - k := by rw [List.length_take, List.length_drop, ← Lib.size_eq]; omega
  unfold valP
  simp only [hL, hR]
  constructor
  · intro h
    rw [if_pos (List.eq_nil_of_length_eq_zero (by rw [hl]; omega))]
  · intro h
    rw [if_neg (by intro h0; rw [h0] at hl; simp at hl; omega), hx]
    congr 1
    rw [hl, List.length_drop, ← Lib.size_eq]; omega
def ParseEnd (l : List UInt8) (w : World) (e : Ending) (w' : World) : Prop :=
  ∃ (a : Bool) (b : ByteArray) (c : Int) (ok : Bool), e = .returned (.tuple #[.agg #[.bool a, .string b, .int .i64 c], .bool ok]) ∧ Below w.heap.size w w' ∧ (ok = false → parseR l = none) ∧
    (ok = true → ∃ p P, parseR l = some p ∧ PowOk farR p P ∧ valP p P = ⟨a, b.data.toList, c⟩)
set_option maxRecDepth 100000 in
set_option maxHeartbeats 40000000 in
theorem parse_any (s : ByteArray) (w : World) (hs : s.size ≤ 30000) : Calls Tryz.prog 79 #[.string s] w (ParseEnd s.data.toList w) := by
  obtain ⟨l, hl⟩ : ∃ l, s.data.toList = l := ⟨_, rfl⟩
  have HL := Lib.hid hl
  rw [hl]
  clear hl
  have R0 := Lib.hid (RS.start w)
  go_enter Tryz.func79, Tryz.ntmps79
  go_upto_region 3 with fail
  go_cut [20] (fun s20 wx => s20 = .bool (hd 45 l) ∧ Hid (RS w false ⟨#[]⟩ 0 wx))
  case first => as_aux_lemma =>
    by_cases h0 : 0 < s.size
    · have h0' : (0 : Int) < (s.size : Int) := by omega
      go_wp2_with fail
      go_meet
      exact ⟨by rw [hd_fact h0 HL.out 45 (n := 45) rfl rfl, List.drop_zero], R0⟩
    · have h0' : ¬ (0 : Int) < (s.size : Int) := by omega
      have HB := Lib.hid (hd_none h0 HL.out 45)
      go_wp2_with fail
      go_meet
      exact ⟨by rw [← HB.out, List.drop_zero], R0⟩
  obtain ⟨rfl, hR⟩ := hcut
  have HM := Lib.hid (minus_hd l)
  have HP : Hid (hd 45 l = true → 0 < s.size) := Lib.hid fun h => by
    have := hd_pos (i := 0) (by simpa using h)
    rw [Lib.size_eq, HL.out]; exact this
  generalize hd 45 l = m0 at *
  go_upto_if 20 with fail
  go_cut [5] (fun s5 wx => ∃ i : Nat, s5 = .int .i64 i ∧ i ≤ s.size ∧ Hid (l.drop i = (minusOf l).2) ∧ Hid (RS w (minusOf l).1 ⟨#[]⟩ 0 wx))
  case first => as_aux_lemma =>
    cases m0 with
    | true =>
      obtain ⟨k0, k1, k2, kf⟩ := cells3 hR.out.x
      go_wp2_with fail
      go_meet
      exact ⟨1, rfl, HP.out trivial, Lib.hid (by rw [HM.out]; rfl), Lib.hid (by rw [HM.out]; exact hR.out.set0 true)⟩
    | false =>
      go_wp2_with fail
      go_meet
      exact ⟨0, rfl, Nat.zero_le _, Lib.hid (by rw [HM.out]; rfl), Lib.hid (by rw [HM.out]; exact hR.out)⟩
  obtain ⟨i, rfl, hi, HD, HR⟩ := hcut
  clear R0 hR HM HP
  rename_i wo
  have HPR : Hid (parseR l = if wholeOk (digs (minusOf l).2) then (match fracOf (past (minusOf l).2) with | none => none | some (f, l3) => match expOf l3 with | none => none | some (b, e, l4) => if l4 = [] then some ⟨(minusOf l).1, digs (minusOf l).2, f, b, e⟩ else none) else none) := Lib.hid rfl
  generalize (minusOf l).1 = m at *
  generalize (minusOf l).2 = M at *
  have HDL := Lib.hid (digs_le s i hi)
  have HTK := Lib.hid (take_digs l i)
  have HDR := Lib.hid (drop_digs l i)
  have hrun := rrun_any s i
  rw [HL.out, HD.out] at HDL hrun
  rw [HD.out] at HTK HDR
  obtain ⟨n, hn⟩ : ∃ n, (digs M).length = n := ⟨_, rfl⟩
  rw [hn] at HDL HTK HDR
  simp only [hn] at hrun
  have HN := Lib.hid hn
  clear hn
  have hin := HDL.out
  go_upto_region 7 with (go_at_call 118; refine (hrun _ (by omega) hi).mono ?_; rintro e w1 ⟨rfl, rfl⟩)
  go_cut [38] (fun s38 wx => s38 = .bool (!wholeOk (digs M)) ∧ Hid (RS w m ⟨#[]⟩ 0 wx))
  case first => as_aux_lemma =>
    rcases (by omega : n = 0 ∨ n = 1 ∨ 2 ≤ n) with n0 | n1 | n2
    · subst n0
      have HW : Hid (wholeOk (digs M) = false) := Lib.hid (by rw [List.eq_nil_of_length_eq_zero HN.out]; rfl)
      go_wp2_with fail
      go_meet
      exact ⟨by rw [HW.out]; rfl, HR⟩
    · subst n1
      have HW : Hid (wholeOk (digs M) = true) := Lib.hid (whole_one HN.out)
      go_wp2_with fail
      go_meet
      exact ⟨by rw [HW.out]; rfl, HR⟩
    · have e0 : ((n : Int) == 0) = false := by simp; omega
      have e1 : decide ((1 : Int) < (n : Int)) = true := decide_eq_true (by omega)
      have e2 : (1 : Int) < (n : Int) := by omega
      have hlt : i < s.size := by omega
      have hlt' : (i : Int) < (s.size : Int) := by omega
      have HW : Hid ((((s[i]'hlt).toNat : Int) == 48) = !wholeOk (digs M)) := Lib.hid (by
        rw [whole_two (by rw [HN.out]; exact n2), Bool.not_not, digs_hd (by intro h; have := HN.out; rw [h] at this; simp at this; omega), hd_fact hlt HL.out 48 (n := 48) rfl rfl, HD.out])
      go_wp2_with fail
      go_meet
      exact ⟨by rw [← HW.out], HR⟩
  obtain ⟨rfl, hR⟩ := hcut
  rename_i wo1
  cases hw : wholeOk (digs M) with
  | false =>
    have HF : Hid (parseR l = none) := Lib.hid (by rw [HPR.out, hw]; rfl)
    obtain ⟨k0, k1, k2, kf⟩ := cells3 hR.out.x
    obtain ⟨r0, r1, r2, rf⟩ := cells3 hR.out.r
    obtain ⟨q0, q1, q2, _⟩ := cells3 (set3c (.bool m) (.string ⟨#[]⟩) (.int .i64 0) hR.out.r)
    clear hw HPR
    go_wp2
    exact bodyPost_ret (v := .tuple #[.agg #[.bool m, .string ⟨#[]⟩, .int .i64 0], .bool false]) (by simp [results, Tryz.results79, go_sem, q0, q1, q2]) rfl ⟨m, ⟨#[]⟩, 0, false, rfl, gset (gset (gset hR.out.b (Nat.le_refl _) _ _) (Nat.le_refl _) _ _) (Nat.le_refl _) _ _, fun _ => HF.out, fun h => by cases h⟩
  | true =>
    have HPR2 : Hid (parseR l = match fracOf (past M) with | none => none | some (f, l3) => match expOf l3 with | none => none | some (b, e, l4) => if l4 = [] then some ⟨m, digs M, f, b, e⟩ else none) := Lib.hid (by rw [HPR.out, hw]; rfl)
    have hin2 : IntKind.i64.wrap ((i : Int) + n) = ((i + n : Nat) : Int) := by rw [IntWalk.i64_in _ (by omega)]; omega
    obtain ⟨D, hD⟩ : ∃ D, s.extract i (i + n) = D := ⟨_, rfl⟩
    have HDD : Hid (D.data.toList = digs M) := Lib.hid (by rw [← hD, ex_list, HL.out, HD.out, Nat.add_sub_cancel_left, HTK.out])
    obtain ⟨k0, k1, k2, kf⟩ := cells3 hR.out.x
    obtain ⟨j, hj⟩ : ∃ j, i + n = j := ⟨_, rfl⟩
    have HJ := Lib.hid hj
    have hij : i ≤ j := by omega
    have hij' : (i : Int) ≤ (j : Int) := by omega
    rw [hj] at hin2 hD HDR hin
    clear hw HPR hj
    go_upto_region 11 with fail
    have HS := Lib.hid (hR.out.set1 D)
    clear hij' hij HJ hD k0 k1 k2 kf
    go_cut [59] (fun s59 wx => s59 = .bool (hd 46 (past M)) ∧ Hid (RS w m D 0 wx))
    case first => as_aux_lemma =>
      by_cases h0 : j < s.size
      · have h0' : (j : Int) < (s.size : Int) := by omega
        go_wp2_with fail
        go_meet
        exact ⟨by rw [hd_fact h0 HL.out 46 (n := 46) rfl rfl, HDR.out], HS⟩
      · have h0' : ¬ (j : Int) < (s.size : Int) := by omega
        have HB := Lib.hid (hd_none h0 HL.out 46)
        go_wp2_with fail
        go_meet
        exact ⟨by rw [← HDR.out, HB.out], HS⟩
    obtain ⟨rfl, hR2⟩ := hcut
    rename_i wo2
    clear HS
    have HJL : Hid (hd 46 (past M) = true → j + 1 ≤ s.size) := Lib.hid fun h => by
      rw [← HDR.out] at h
      have := hd_pos h
      rw [Lib.size_eq, HL.out]; omega
    have HFR := Lib.hid (frac_hd (past M))
    have hjs : j ≤ 30000 := by omega
    go_upto_if 59 with fail
    go_cut [5, 6] (fun s5 _ wx => ∃ (q : Nat) (f r : List UInt8) (E : ByteArray), s5 = .int .i64 q ∧ q ≤ s.size ∧ Hid (fracOf (past M) = some (f, r)) ∧ Hid (l.drop q = r) ∧ Hid (E.data.toList = digs M ++ f) ∧ Hid (RS w m E (-(f.length : Int)) wx))
    case first => as_aux_lemma =>
      cases hp : hd 46 (past M) with
      | true =>
        have hj1 := HJL.out hp
        have HFR2 : Hid (fracOf (past M) = if digs ((past M).drop 1) = [] then none else some (digs ((past M).drop 1), past ((past M).drop 1))) := Lib.hid (by rw [HFR.out, hp]; rfl)
        have hdj : l.drop (j + 1) = (past M).drop 1 := by rw [← HDR.out, List.drop_drop]
        have hrun2 := rrun_any s (j + 1)
        have hle2 := digs_le s (j + 1) hj1
        have htk2 := take_digs l (j + 1)
        have hdr2 := drop_digs l (j + 1)
        rw [HL.out, hdj] at hle2
        rw [hdj] at htk2 hdr2
        simp only [HL.out, hdj] at hrun2
        generalize digs ((past M).drop 1) = f at *
        generalize past ((past M).drop 1) = r at *
        obtain ⟨k, hk⟩ : ∃ k, f.length = k := ⟨_, rfl⟩
        rw [hk] at hle2 htk2 hdr2
        simp only [hk] at hrun2
        have hw1 : IntKind.i64.wrap ((j : Int) + 1) = ((j + 1 : Nat) : Int) := by rw [IntWalk.i64_in _ (by omega)]; omega
        have hw2 : IntKind.i64.wrap (((j + 1 : Nat) : Int) + k) = ((j + 1 + k : Nat) : Int) := by rw [IntWalk.i64_in _ (by omega)]; omega
        obtain ⟨a, ha⟩ : ∃ a, j + 1 = a := ⟨_, rfl⟩
        rw [ha] at hw1 hw2 hle2 hdr2 hj1 hdj
        simp only [ha] at hrun2
        obtain ⟨c, hc⟩ : ∃ c, a + k = c := ⟨_, rfl⟩
        rw [hc] at hw2 hle2 hdr2
        have hac : a ≤ c := by omega
        have hac' : (a : Int) ≤ (c : Int) := by omega
        have hcs' : (c : Int) ≤ (s.size : Int) := by omega
        obtain ⟨F, hF⟩ : ∃ F, s.extract a c = F := ⟨_, rfl⟩
        have hFF : F.data.toList = f := by rw [← hF, ex_list, HL.out, hdj, ← hc, Nat.add_sub_cancel_left, htk2]
        have HE : Hid ((D ++ F).data.toList = digs M ++ f) := Lib.hid (by rw [app_list, HDD.out, hFF])
        have HDR2 := Lib.hid hdr2
        have HK := Lib.hid hk
        have hkn : IntKind.i64.wrap (-(k : Int)) = -(k : Int) := IntWalk.i64_in _ (by omega)
        have HRS := Lib.hid ((hR2.out.drew.set1 (D ++ F)).set2 (-(k : Int)))
        have hk3 : k ≤ 30000 := by omega
        have hzD : D.size ≤ 30000 := by
          have e := HDD.out
          have := HDL.out
          rw [Lib.size_eq, e, HN.out]; omega
        have hzF : F.size ≤ 30000 := by rw [Lib.size_eq, hFF, hk]; omega
        have za : ¬ 9223372036854775807 < D.size + F.size := by omega
        obtain ⟨k0, k1, k2, kf⟩ := cells3 hR2.out.x
        clear hp hdj htk2 hdr2 ha hc hFF hk HFR
        by_cases kz : k = 0
        · subst kz
          have HF : Hid (parseR l = none) := Lib.hid (by rw [HPR2.out, HFR2.out, if_pos (List.eq_nil_of_length_eq_zero HK.out)])
          obtain ⟨q0, q1, q2, _⟩ := cells3 (set3c (.bool m) (.string D) (.int .i64 0) hR2.out.r)
          obtain ⟨r0, r1, r2, rf⟩ := cells3 hR2.out.r
          go_wp2_with (go_at_call 118; refine (hrun2 _ (by omega) hj1).mono ?_; rintro e w1 ⟨rfl, rfl⟩)
          exact bodyPost_ret (v := .tuple #[.agg #[.bool m, .string D, .int .i64 0], .bool false]) (by simp [results, Tryz.results79, go_sem, q0, q1, q2]) rfl ⟨m, D, 0, false, rfl, gset (gset (gset hR2.out.b (Nat.le_refl _) _ _) (Nat.le_refl _) _ _) (Nat.le_refl _) _ _, fun _ => HF.out, fun h => by cases h⟩
        · have kz' : ((k : Int) == 0) = false := by simpa using kz
          have HFR3 : Hid (fracOf (past M) = some (f, r)) := Lib.hid (by rw [HFR2.out, if_neg (by intro h; have := HK.out; rw [h] at this; simp at this; omega)])
          go_wp2_with (go_at_call 118; refine (hrun2 _ (by omega) hj1).mono ?_; rintro e w1 ⟨rfl, rfl⟩)
          go_still_tail 12, (by kernel_rfl)
          change wpList _ _ _ _ _ wc.drew
          have kx : wc.drew.heap[w.heap.size + 1]? = some (.cells #[.bool m, .string D, .int .i64 0] 73 (0, 0)) := hR2.out.x
          generalize wc.drew = w2 at *
          obtain ⟨y0, y1, y2, yf⟩ := cells3 kx
          have f1 := World.cell?_setCell_same w2 ⟨w.heap.size + 1, 1, none⟩ (.string (D ++ F)) y1
          clear k0 k1 k2 kf kx
          go_wp2_with fail
          go_meet
          exact ⟨c, f, r, D ++ F, rfl, hle2, HFR3, HDR2, HE, by rw [HK.out]; exact HRS⟩
      | false =>
        have HFR2 : Hid (fracOf (past M) = some ([], past M)) := Lib.hid (by rw [HFR.out, hp]; rfl)
        go_wp2_with fail
        go_meet
        exact ⟨j, [], past M, D, rfl, by omega, HFR2, HDR, Lib.hid (by rw [HDD.out, List.append_nil]), hR2⟩
    obtain ⟨q, f, r, E, rfl, hq, HFR2, HQR, HEE, hR3⟩ := hcut
    have hfl : f.length ≤ 30000 := by
      have := frac_len HFR2.out
      have e := congrArg List.length HDR.out
      rw [List.length_drop, ← HL.out, ← Lib.size_eq] at e
      omega
    have HPR3 : Hid (parseR l = match expOf r with | none => none | some (b, e, l4) => if l4 = [] then some ⟨m, digs M, f, b, e⟩ else none) := Lib.hid (by rw [HPR2.out, HFR2.out])
    clear HPR2 HFR HFR2 HJL hR2 HDR hjs hin hin2 HDD
    have hq3 : q ≤ 30000 := by omega
    go_upto_region 18 with fail
    have HEX := Lib.hid (exp_hd r)
    have HQL : Hid ((hd 101 r || hd 69 r) = true → q + 1 ≤ s.size) := Lib.hid fun h => by
      rw [← HQR.out] at h
      have : q < l.length := by
        rcases Bool.or_eq_true_iff.1 h with g | g
        · exact hd_pos g
        · exact hd_pos g
      rw [Lib.size_eq, HL.out]; omega
    go_cut [101] (fun s101 wx => s101 = .bool (hd 101 r || hd 69 r) ∧ Hid (RS w m E (-(f.length : Int)) wx))
    case first => as_aux_lemma =>
      by_cases h0 : q < s.size
      · have h0' : (q : Int) < (s.size : Int) := by omega
        have hE := hd_fact h0 HL.out 101 (n := 101) rfl rfl
        have hE2 := hd_fact h0 HL.out 69 (n := 69) rfl rfl
        rw [HQR.out] at hE hE2
        cases h101 : hd 101 r with
        | true =>
          rw [h101] at hE
          clear hE2
          have HH := Lib.hid h101
          clear h101
          go_wp2_with fail
          go_meet
          exact ⟨by rw [HH.out]; rfl, hR3⟩
        | false =>
          rw [h101] at hE
          have HH := Lib.hid h101
          have HE2 := Lib.hid hE2
          clear h101 hE2
          go_wp2_with fail
          go_meet
          exact ⟨by rw [HH.out, ← HE2.out]; rfl, hR3⟩
      · have h0' : ¬ (q : Int) < (s.size : Int) := by omega
        have HB := Lib.hid (hd_none h0 HL.out 101)
        have HB2 := Lib.hid (hd_none h0 HL.out 69)
        go_wp2_with fail
        go_meet
        exact ⟨by rw [← HQR.out, HB.out, HB2.out]; rfl, hR3⟩
    obtain ⟨rfl, hR4⟩ := hcut
    clear hR3
    go_upto_if 101 with fail
    go_cut [5, 6, 7] (fun s5 _ _ wx => ∃ (q2 : Nat) (b : Bool) (e r4 : List UInt8) (P : Int), s5 = .int .i64 q2 ∧ q2 ≤ s.size ∧ Hid (expOf r = some (b, e, r4)) ∧ Hid (l.drop q2 = r4) ∧ Hid (PowOk farR ⟨m, digs M, f, b, e⟩ P) ∧ Hid (RS w m E (P - (f.length : Int)) wx))
    case first =>
      cases hx : (hd 101 r || hd 69 r) with
      | true =>
        have hq1 := HQL.out hx
        have HEX2 : Hid (expOf r = if digs (signOf (r.drop 1)).2 = [] then none else some ((signOf (r.drop 1)).1, digs (signOf (r.drop 1)).2, past (signOf (r.drop 1)).2)) := Lib.hid (by rw [HEX.out, hx]; rfl)
        have hd1 : l.drop (q + 1) = r.drop 1 := by rw [← HQR.out, List.drop_drop]
        have hw1 : IntKind.i64.wrap ((q : Int) + 1) = ((q + 1 : Nat) : Int) := by rw [IntWalk.i64_in _ (by omega)]; omega
        clear hx HEX HQL HQR
        generalize r.drop 1 = r1 at *
        obtain ⟨a, ha⟩ : ∃ a, q + 1 = a := ⟨_, rfl⟩
        rw [ha] at hw1 hq1 hd1
        clear ha
        have HA := Lib.hid hd1
        clear hd1
        have ha3 : a ≤ 30000 := by omega
        go_upto_region 21 with fail
        go_cut [119] (fun s119 wx => s119 = .bool (hd 43 r1 || hd 45 r1) ∧ Hid (RS w m E (-(f.length : Int)) wx))
        case first => as_aux_lemma =>
          by_cases h0 : a < s.size
          · have h0' : (a : Int) < (s.size : Int) := by omega
            have hE := hd_fact h0 HL.out 43 (n := 43) rfl rfl
            have hE2 := hd_fact h0 HL.out 45 (n := 45) rfl rfl
            rw [HA.out] at hE hE2
            cases h101 : hd 43 r1 with
            | true =>
              rw [h101] at hE
              clear hE2
              have HH := Lib.hid h101
              clear h101
              go_wp2_with fail
              go_meet
              exact ⟨by rw [HH.out]; rfl, hR4⟩
            | false =>
              rw [h101] at hE
              have HH := Lib.hid h101
              have HE2 := Lib.hid hE2
              clear h101 hE2
              go_wp2_with fail
              go_meet
              exact ⟨by rw [HH.out, ← HE2.out]; rfl, hR4⟩
          · have h0' : ¬ (a : Int) < (s.size : Int) := by omega
            have HB := Lib.hid (hd_none h0 HL.out 43)
            have HB2 := Lib.hid (hd_none h0 HL.out 45)
            go_wp2_with fail
            go_meet
            exact ⟨by rw [← HA.out, HB.out, HB2.out]; rfl, hR4⟩
        obtain ⟨rfl, hR5⟩ := hcut
        clear hR4
        have HSG := Lib.hid (sign_hd r1)
        have HAL : Hid ((hd 43 r1 || hd 45 r1) = true → a + 1 ≤ s.size) := Lib.hid fun h => by
          rw [← HA.out] at h
          have : a < l.length := by
            rcases Bool.or_eq_true_iff.1 h with g | g
            · exact hd_pos g
            · exact hd_pos g
          rw [Lib.size_eq, HL.out]; omega
        go_upto_if 119 with fail
        go_cut [5, 7] (fun s5 s7 wx => ∃ g : Nat, s5 = .int .i64 g ∧ g ≤ s.size ∧ Hid (l.drop g = (signOf r1).2) ∧ s7 = .int .i64 (if (signOf r1).1 then -1 else 1) ∧ Hid (RS w m E (-(f.length : Int)) wx))
        case first => as_aux_lemma =>
          cases hx : (hd 43 r1 || hd 45 r1) with
          | true =>
            have ha1 := HAL.out hx
            have hlt : a < s.size := by omega
            have hlt' : (a : Int) < (s.size : Int) := by omega
            have hw2 : IntKind.i64.wrap ((a : Int) + 1) = ((a + 1 : Nat) : Int) := by rw [IntWalk.i64_in _ (by omega)]; omega
            have HS2 : Hid (signOf r1 = (hd 45 r1, r1.drop 1)) := Lib.hid (by rw [HSG.out, hx]; rfl)
            have hE2 := hd_fact hlt HL.out 45 (n := 45) rfl rfl
            rw [HA.out] at hE2
            have HD1 : Hid (l.drop (a + 1) = r1.drop 1) := Lib.hid (by rw [← HA.out, List.drop_drop])
            clear hx
            cases h45 : hd 45 r1 with
            | true =>
              rw [h45] at hE2
              have HH := Lib.hid h45
              clear h45
              go_wp2_with fail
              go_meet
              exact ⟨a + 1, rfl, ha1, Lib.hid (by rw [HS2.out, HD1.out]), by rw [HS2.out, HH.out]; rfl, hR5⟩
            | false =>
              rw [h45] at hE2
              have HH := Lib.hid h45
              clear h45
              go_wp2_with fail
              go_meet
              exact ⟨a + 1, rfl, ha1, Lib.hid (by rw [HS2.out, HD1.out]), by rw [HS2.out, HH.out]; rfl, hR5⟩
          | false =>
            have HS2 : Hid (signOf r1 = (false, r1)) := Lib.hid (by rw [HSG.out, hx]; rfl)
            clear hx
            go_wp2_with fail
            go_meet
            exact ⟨a, rfl, by omega, Lib.hid (by rw [HS2.out, HA.out]), by rw [HS2.out]; rfl, hR5⟩
        obtain ⟨g, rfl, hg, HG, rfl, hR6⟩ := hcut
        clear hR5 HSG HAL HA hw1 hq1
        have hg3 : g ≤ 30000 := by omega
        have hrun3 := rrun_any s g
        have hle3 := digs_le s g hg
        have htk3 := take_digs l g
        have hdr3 := drop_digs l g
        rw [HL.out, HG.out] at hle3
        rw [HG.out] at htk3 hdr3
        simp only [HL.out, HG.out] at hrun3
        have HDE := Lib.hid (digs_dig (signOf r1).2)
        generalize (signOf r1).1 = sb at *
        generalize digs (signOf r1).2 = e at *
        generalize past (signOf r1).2 = r4 at *
        generalize (signOf r1).2 = r2 at *
        obtain ⟨k, hk⟩ : ∃ k, e.length = k := ⟨_, rfl⟩
        rw [hk] at hle3 htk3 hdr3
        simp only [hk] at hrun3
        have hw3 : IntKind.i64.wrap ((g : Int) + k) = ((g + k : Nat) : Int) := by rw [IntWalk.i64_in _ (by omega)]; omega
        obtain ⟨c, hc⟩ : ∃ c, g + k = c := ⟨_, rfl⟩
        rw [hc] at hw3 hle3 hdr3
        have hgc : g ≤ c := by omega
        have hgc' : (g : Int) ≤ (c : Int) := by omega
        have hcs' : (c : Int) ≤ (s.size : Int) := by omega
        obtain ⟨F, hF⟩ : ∃ F, s.extract g c = F := ⟨_, rfl⟩
        have hFF : F.data.toList = e := by rw [← hF, ex_list, HL.out, HG.out, ← hc, Nat.add_sub_cancel_left, htk3]
        have HDR3 := Lib.hid hdr3
        have HK := Lib.hid hk
        have cP := fun W => rpower_any F W (by rw [hFF]; exact HDE.out) (by rw [Lib.size_eq, hFF, hk]; omega)
        rw [hFF] at cP
        obtain ⟨k0, k1, k2, kf⟩ := cells3 hR6.out.x
        clear htk3 hdr3 hc hFF hk HG
        have hd : ∃ d : Int, (if sb = true then (-1 : Int) else 1) = d ∧ (d = -1 ∨ d = 1) := ⟨_, rfl, by cases sb <;> simp⟩
        obtain ⟨d, hd1, hd2⟩ := hd
        rw [hd1]
        have HD := Lib.hid hd1
        clear hd1
        by_cases kz : k = 0
        · as_aux_lemma =>
          subst kz
          have HF : Hid (parseR l = none) := Lib.hid (by rw [HPR3.out, HEX2.out, if_pos (List.eq_nil_of_length_eq_zero HK.out)])
          obtain ⟨q0, q1, q2, _⟩ := cells3 (set3c (.bool m) (.string E) (.int .i64 (-(f.length : Int))) hR6.out.r)
          obtain ⟨r0, r1, r2, rf⟩ := cells3 hR6.out.r
          go_wp2_with (go_at_call 118; refine (hrun3 _ (by omega) hg).mono ?_; rintro e w1 ⟨rfl, rfl⟩)
          exact bodyPost_ret (v := .tuple #[.agg #[.bool m, .string E, .int .i64 (-(f.length : Int))], .bool false]) (by simp [results, Tryz.results79, go_sem, q0, q1, q2]) rfl ⟨m, E, _, false, rfl, gset (gset (gset hR6.out.b (Nat.le_refl _) _ _) (Nat.le_refl _) _ _) (Nat.le_refl _) _ _, fun _ => HF.out, fun h => by cases h⟩
        · have kz' : ((k : Int) == 0) = false := by simpa using kz
          have HEX3 : Hid (expOf r = some (sb, e, r4)) := Lib.hid (by rw [HEX2.out, if_neg (by intro h; have := HK.out; rw [h] at this; simp at this; omega)])
          have HR7 := hR6
          obtain ⟨fl, hfl2⟩ : ∃ fl, f.length = fl := ⟨_, rfl⟩
          have HFL := Lib.hid hfl2
          rw [hfl2] at hfl k2 HR7
          clear hfl2
          have HPW : ∀ pn : Nat, PowN farR e pn → Hid (PowOk farR ⟨m, digs M, f, sb, e⟩ (d * (pn : Int))) := fun pn hp => Lib.hid (by
            have h := HD.out
            cases sb with
            | true =>
              have h2 : d = -1 := h.symm
              rw [h2, Int.neg_one_mul]; exact pow_below rfl pn hp.1 hp.2
            | false =>
              have h2 : d = 1 := h.symm
              rw [h2, Int.one_mul]; exact pow_above rfl pn hp.1 hp.2)
          have HCP := Lib.hid HPW
          clear HPW
          have cP2 : ∀ W, Calls Tryz.prog 119 #[.string F] W fun en w' => ∃ (pn : Nat) (Z : Int), en = .returned (.int .i64 pn) ∧ W = w' ∧ -1000000009 ≤ Z ∧ Z ≤ 1000000009 ∧ IntKind.i64.wrap (d * (pn : Int)) = Z ∧ Hid (PowOk farR ⟨m, digs M, f, sb, e⟩ Z) := fun W => (cP W).mono fun en w' ⟨pn, hpn, h1, h2⟩ => by
            have hpl : pn ≤ 1000000009 := by have := hpn.2; rw [farR_eq] at this; omega
            refine ⟨pn, d * pn, h1, h2, ?_, ?_, ?_, HCP.out pn hpn⟩
            · rcases hd2 with rfl | rfl <;> omega
            · rcases hd2 with rfl | rfl <;> omega
            · exact IntWalk.i64_in _ (by rcases hd2 with rfl | rfl <;> omega)
          clear cP hd2
          go_wp2_with (go_at_call 118; refine (hrun3 _ (by omega) hg).mono ?_; rintro e w1 ⟨rfl, rfl⟩)
          go_region_with ((go_at_call 119; refine (cP2 _).mono ?_; rintro en w3 ⟨pn, Z, rfl, rfl, hz1, hz2, hwa, HPZ⟩; have hwc : IntKind.i64.wrap (-(fl : Int) + Z) = Z - fl := (by rw [IntWalk.i64_in _ (by omega)]; omega)))
          all_goals as_aux_lemma =>
            have HRS := Lib.hid (HR7.out.drew.set2 (Z - fl))
            go_wp2_with fail
            go_meet
            exact ⟨c, sb, e, r4, Z, rfl, hle3, HEX3, HDR3, HPZ, by rw [HFL.out]; exact HRS⟩
      | false => as_aux_lemma =>
        have HEX2 : Hid (expOf r = some (false, [], r)) := Lib.hid (by rw [HEX.out, hx]; rfl)
        go_wp2_with fail
        go_meet
        exact ⟨q, false, [], r, 0, rfl, hq, HEX2, HQR, Lib.hid (.inl ⟨by simp [num, farR], rfl⟩), by rw [Int.zero_sub]; exact hR4⟩
    obtain ⟨q2, b, e, r4, P, rfl, hq2, HE2, HD2, HPO, hR8⟩ := hcut
    have hrg := HPO.out.range
    rw [farR_eq] at hrg
    have HR4 : Hid (r4.length = s.size - q2) := Lib.hid (by rw [← HD2.out, List.length_drop, ← HL.out, ← Lib.size_eq])
    clear hR4 HEX HQL HQR
    obtain ⟨k0, k1, k2, kf⟩ := cells3 hR8.out.x
    have hq3 : q2 ≤ 30000 := by omega
    obtain ⟨X, hX⟩ : ∃ X, P - (f.length : Int) = X := ⟨_, rfl⟩
    have HX := Lib.hid hX
    have hXr : -1000050000 ≤ X ∧ X ≤ 1000050000 := by omega
    rw [hX] at k2
    have HR8 : Hid (RS w m E X wc) := by rw [← hX]; exact hR8
    clear hX hrg hR8
    by_cases hend : q2 = s.size
    · subst hend
      have HPP : Hid (parseR l = some ⟨m, digs M, f, b, e⟩) := Lib.hid (by
        have h0 : r4 = [] := List.eq_nil_of_length_eq_zero (by rw [HR4.out]; omega)
        rw [HPR3.out, HE2.out, h0]; rfl)
      have hzE : E.size ≤ 60000 := by
        rw [Lib.size_eq, HEE.out, List.length_append]
        have := HDL.out
        rw [HN.out]; omega
      clear HPR3 HE2 HR4 HD2 hq2
      have HVT := fun k t a c h1 h2 => val_trim (p := ⟨m, digs M, f, b, e⟩) (P := P) (E := E) (k := k) (t := t) a c h1 h2
      have HVTH := Lib.hid HVT
      have HEL : Hid (trimL (digs M ++ f) = trimL E.data.toList) := Lib.hid (by rw [HEE.out])
      clear HVT
      go_wp2
      go_loop [8] (fun i => ∃ k : Nat, i = .int .i64 k ∧ k ≤ E.size ∧ Hid (∀ (j : Nat) c, j < k → E.data.toList[j]? = some c → c = 48)) (fun i => E.size - (intOf i).toNat)
      case atStart => exact ⟨0, rfl, Nat.zero_le _, Lib.hid (fun j c hj => absurd hj (Nat.not_lt_zero _))⟩
      case round =>
        obtain ⟨k, rfl, hk, HK⟩ := hrel
        by_cases hlt : k < E.size
        · have hlt' : (k : Int) < (E.size : Int) := by omega
          have hat : Hid (E.data.toList[k]? = some (E[k]'hlt)) := Lib.hid (get_list hlt)
          by_cases h48 : E[k]'hlt = 48
          · have hq48 : (((E[k]'hlt).toNat : Int) == 48) = true := by rw [h48]; rfl
            have H48 := Lib.hid h48
            clear h48
            go_wp2
            go_round
            case rel =>
              refine ⟨k + 1, by go_num, by omega, Lib.hid fun j c hj hc => ?_⟩
              rcases Nat.lt_succ_iff_lt_or_eq.1 hj with g | g
              · exact HK.out j c g hc
              · subst g
                rw [hat.out] at hc
                rw [← Option.some.inj hc]; exact H48.out
            case measure => simp [intOf]; omega
          · have hq48 : (((E[k]'hlt).toNat : Int) == 48) = false := by
              have : (E[k]'hlt).toNat ≠ 48 := fun e => h48 (UInt8.toNat_inj.1 e)
              simp; omega
            have HTL : Hid (trimL (digs M ++ f) = E.data.toList.drop k) := Lib.hid (by
              rw [HEL.out]
              exact trimL_from (by rw [← Lib.size_eq]; exact hk) HK.out (fun c hc => by rw [hat.out] at hc; rw [← Option.some.inj hc]; exact h48))
            clear h48 hat
            go_wp2
            go_loopw [9] (fun tv wr => ∃ tt : Nat, tv = .int .i64 tt ∧ k ≤ tt ∧ tt ≤ E.size ∧ Hid (E.data.toList.drop tt = List.replicate (E.data.toList.length - tt) 48) ∧ Hid (RS w m E (X + ((E.size : Int) - tt)) wr)) (fun tv _ => (intOf tv).toNat)
            case atStart => exact ⟨E.size, rfl, hk, Nat.le_refl _, Lib.hid (by rw [List.drop_eq_nil_of_le (by rw [← Lib.size_eq]; exact Nat.le_refl _), ← Lib.size_eq, Nat.sub_self]; rfl), by rw [Int.sub_self, Int.add_zero]; exact HR8⟩
            case round =>
              obtain ⟨tt, rfl, hkt, htE, HDT, HRt⟩ := hrel
              obtain ⟨x0, x1, x2, xf⟩ := cells3 HRt.out.x
              by_cases hkl : k < tt
              · have hkl' : (k : Int) < (tt : Int) := by omega
                obtain ⟨u, rfl⟩ : ∃ u, tt = u + 1 := ⟨tt - 1, by omega⟩
                have hu : u < E.size := by omega
                have hwu : IntKind.i64.wrap (((u + 1 : Nat) : Int) - 1) = (u : Int) := by rw [IntWalk.i64_in _ (by omega)]; omega
                have hu' : (u : Int) < (E.size : Int) := by omega
                have hatu : Hid (E.data.toList[u]? = some (E[u]'hu)) := Lib.hid (get_list hu)
                by_cases h48 : E[u]'hu = 48
                · have hq48 : (((E[u]'hu).toNat : Int) == 48) = true := by rw [h48]; rfl
                  have HDT2 : Hid (E.data.toList.drop u = List.replicate (E.data.toList.length - u) 48) := Lib.hid (by
                    have hul : u < E.data.toList.length := by rw [← Lib.size_eq]; exact hu
                    rw [List.drop_eq_getElem_cons hul, HDT.out, show E.data.toList.length - u = (E.data.toList.length - (u + 1)) + 1 by omega, List.replicate_succ]
                    have := hatu.out
                    rw [List.getElem?_eq_getElem hul, h48] at this
                    rw [Option.some.inj this])
                  obtain ⟨Y, hY⟩ : ∃ Y, X + ((E.size : Int) - ((u + 1 : Nat) : Int)) = Y := ⟨_, rfl⟩
                  have hwy : IntKind.i64.wrap (Y + 1) = Y + 1 := IntWalk.i64_in _ (by omega)
                  have HRS := HRt.out.set2 (Y + 1)
                  rw [hY] at x2
                  have HRS2 : Hid (RS w m E (X + ((E.size : Int) - (u : Int))) (wr.setCell ⟨w.heap.size + 1, 2, none⟩ (.int .i64 (Y + 1)))) := Lib.hid (by rw [show X + ((E.size : Int) - (u : Int)) = Y + 1 by omega]; exact HRS)
                  clear h48 hatu hY HRS
                  go_wp2
                  go_roundw
                  case rel => exact ⟨u, by go_num, by omega, by omega, HDT2, HRS2⟩
                  case measure => simp [intOf]
                · have hq48 : (((E[u]'hu).toNat : Int) == 48) = false := by
                    have : (E[u]'hu).toNat ≠ 48 := fun e => h48 (UInt8.toNat_inj.1 e)
                    simp; omega
                  have HV : Hid (valP ⟨m, digs M, f, b, e⟩ P = ⟨m, (E.extract k (u + 1)).data.toList, X + ((E.size : Int) - ((u + 1 : Nat) : Int))⟩) := Lib.hid (by
                    have := (HVTH.out k (u + 1) hkt htE HTL.out (trimR_upto hkt (by rw [← Lib.size_eq]; exact htE) HDT.out (fun _ c hc => by
                      rw [show u + 1 - 1 = u by omega, hatu.out] at hc; rw [← Option.some.inj hc]; exact h48))).2 hkl
                    rw [this, HX.out])
                  obtain ⟨Y, hY⟩ : ∃ Y, X + ((E.size : Int) - ((u + 1 : Nat) : Int)) = Y := ⟨_, rfl⟩
                  rw [hY] at x2 HV HRt
                  obtain ⟨D2, hD2⟩ : ∃ D2, E.extract k (u + 1) = D2 := ⟨_, rfl⟩
                  have hD2z : D2.size = u + 1 - k := by rw [← hD2, ByteArray.size_extract]; omega
                  obtain ⟨c2, l2, hcl⟩ : ∃ c2 l2, D2.data.toList = c2 :: l2 := by
                    cases hx : D2.data.toList with
                    | nil => rw [Lib.size_eq, hx] at hD2z; simp at hD2z; omega
                    | cons c2 l2 => exact ⟨c2, l2, rfl⟩
                  have hne : D2.toList.isEmpty = false := mk_empty_no hcl
                  rw [hD2] at HV
                  have hsz1 : (k : Int) ≤ ((u + 1 : Nat) : Int) := by omega
                  have hsz2 : ((u + 1 : Nat) : Int) ≤ (E.size : Int) := by omega
                  have HRS := Lib.hid (HRt.out.set1 D2)
                  have f1 := World.cell?_setCell_same wr ⟨w.heap.size + 1, 1, none⟩ (.string D2) x1
                  obtain ⟨z0, z1, z2, _⟩ := cells3 (set3c (.bool m) (.string D2) (.int .i64 Y) HRS.out.r)
                  obtain ⟨y0, y1, y2, yf⟩ := cells3 HRS.out.x
                  obtain ⟨r0, r1, r2, rf⟩ := cells3 HRS.out.r
                  clear h48 hatu hY hD2z hcl
                  go_wp2
                  exact bodyPost_ret (v := .tuple #[.agg #[.bool m, .string D2, .int .i64 Y], .bool true]) (by simp [results, Tryz.results79, go_sem, z0, z1, z2]) rfl ⟨m, D2, Y, true, rfl, gset (gset (gset HRS.out.b (Nat.le_refl _) _ _) (Nat.le_refl _) _ _) (Nat.le_refl _) _ _, (fun h => by cases h), fun _ => ⟨_, P, HPP.out, HPO.out, HV.out⟩⟩
              · have hkl' : ¬ (k : Int) < (tt : Int) := by omega
                obtain rfl : k = tt := by omega
                have HV : Hid (valP ⟨m, digs M, f, b, e⟩ P = Num.zero) := Lib.hid ((HVTH.out k k hkt htE HTL.out (trimR_upto hkt (by rw [← Lib.size_eq]; exact htE) HDT.out (fun h => absurd h (Nat.lt_irrefl _)))).1 rfl)
                obtain ⟨Y, hY⟩ : ∃ Y, X + ((E.size : Int) - (k : Int)) = Y := ⟨_, rfl⟩
                rw [hY] at x2 HRt
                have hD2z : (ByteArray.empty).data.toList = [] := rfl
                have hne : (ByteArray.empty).toList.isEmpty = true := mk_empty_yes hD2z
                have hsz2 : (k : Int) ≤ (E.size : Int) := by omega
                have HRS := Lib.hid (HRt.out.set1 ByteArray.empty)
                have f1 := World.cell?_setCell_same wr ⟨w.heap.size + 1, 1, none⟩ (.string ByteArray.empty) x1
                obtain ⟨z0, z1, z2, _⟩ := cells3 (set3c (.bool false) (.string ⟨#[]⟩) (.int .i64 0) HRS.out.r)
                obtain ⟨y0, y1, y2, yf⟩ := cells3 HRS.out.x
                obtain ⟨r0, r1, r2, rf⟩ := cells3 HRS.out.r
                clear hY hD2z
                go_wp2
                exact bodyPost_ret (v := .tuple #[.agg #[.bool false, .string ⟨#[]⟩, .int .i64 0], .bool true]) (by simp [results, Tryz.results79, go_sem, z0, z1, z2]) rfl ⟨false, ⟨#[]⟩, 0, true, rfl, gset (gset (gset HRS.out.b (Nat.le_refl _) _ _) (Nat.le_refl _) _ _) (Nat.le_refl _) _ _, (fun h => by cases h), fun _ => ⟨_, P, HPP.out, HPO.out, HV.out⟩⟩
        · have hlt' : ¬ (k : Int) < (E.size : Int) := by omega
          have HTL : Hid (trimL (digs M ++ f) = E.data.toList.drop k) := Lib.hid (by
            rw [HEL.out]
            exact trimL_from (by rw [← Lib.size_eq]; exact hk) HK.out (fun c hc => by rw [List.getElem?_eq_none (by rw [← Lib.size_eq]; omega)] at hc; cases hc))
          go_wp2
          go_loopw [9] (fun tv wr => ∃ tt : Nat, tv = .int .i64 tt ∧ k ≤ tt ∧ tt ≤ E.size ∧ Hid (E.data.toList.drop tt = List.replicate (E.data.toList.length - tt) 48) ∧ Hid (RS w m E (X + ((E.size : Int) - tt)) wr)) (fun tv _ => (intOf tv).toNat)
          case atStart => exact ⟨E.size, rfl, hk, Nat.le_refl _, Lib.hid (by rw [List.drop_eq_nil_of_le (by rw [← Lib.size_eq]; exact Nat.le_refl _), ← Lib.size_eq, Nat.sub_self]; rfl), by rw [Int.sub_self, Int.add_zero]; exact HR8⟩
          case round =>
            obtain ⟨tt, rfl, hkt, htE, HDT, HRt⟩ := hrel
            obtain ⟨x0, x1, x2, xf⟩ := cells3 HRt.out.x
            by_cases hkl : k < tt
            · exfalso; omega
            · have hkl' : ¬ (k : Int) < (tt : Int) := by omega
              obtain rfl : k = tt := by omega
              have HV : Hid (valP ⟨m, digs M, f, b, e⟩ P = Num.zero) := Lib.hid ((HVTH.out k k hkt htE HTL.out (trimR_upto hkt (by rw [← Lib.size_eq]; exact htE) HDT.out (fun h => absurd h (Nat.lt_irrefl _)))).1 rfl)
              obtain ⟨Y, hY⟩ : ∃ Y, X + ((E.size : Int) - (k : Int)) = Y := ⟨_, rfl⟩
              rw [hY] at x2 HRt
              have hD2z : (ByteArray.empty).data.toList = [] := rfl
              have hne : (ByteArray.empty).toList.isEmpty = true := mk_empty_yes hD2z
              have hsz2 : (k : Int) ≤ (E.size : Int) := by omega
              have HRS := Lib.hid (HRt.out.set1 ByteArray.empty)
              have f1 := World.cell?_setCell_same wr ⟨w.heap.size + 1, 1, none⟩ (.string ByteArray.empty) x1
              obtain ⟨z0, z1, z2, _⟩ := cells3 (set3c (.bool false) (.string ⟨#[]⟩) (.int .i64 0) HRS.out.r)
              obtain ⟨y0, y1, y2, yf⟩ := cells3 HRS.out.x
              obtain ⟨r0, r1, r2, rf⟩ := cells3 HRS.out.r
              clear hY hD2z
              go_wp2
              exact bodyPost_ret (v := .tuple #[.agg #[.bool false, .string ⟨#[]⟩, .int .i64 0], .bool true]) (by simp [results, Tryz.results79, go_sem, z0, z1, z2]) rfl ⟨false, ⟨#[]⟩, 0, true, rfl, gset (gset (gset HRS.out.b (Nat.le_refl _) _ _) (Nat.le_refl _) _ _) (Nat.le_refl _) _ _, (fun h => by cases h), fun _ => ⟨_, P, HPP.out, HPO.out, HV.out⟩⟩
    · have hne1 : ((q2 : Int) == (s.size : Int)) = false := by simp; omega
      have hne2 : ((q2 : Int) != (s.size : Int)) = true := by simp; omega
      have HF : Hid (parseR l = none) := Lib.hid (by
        rw [HPR3.out, HE2.out]
        have h0 : r4 ≠ [] := by intro h; have := HR4.out; rw [h] at this; simp at this; omega
        simp [h0])
      obtain ⟨z0, z1, z2, _⟩ := cells3 (set3c (.bool m) (.string E) (.int .i64 X) HR8.out.r)
      obtain ⟨r0, r1, r2, rf⟩ := cells3 HR8.out.r
      clear HPR3 HE2
      go_wp2
      exact bodyPost_ret (v := .tuple #[.agg #[.bool m, .string E, .int .i64 X], .bool false]) (by simp [results, Tryz.results79, go_sem, z0, z1, z2]) rfl ⟨m, E, _, false, rfl, gset (gset (gset HR8.out.b (Nat.le_refl _) _ _) (Nat.le_refl _) _ _) (Nat.le_refl _) _ _, fun _ => HF.out, fun h => by cases h⟩
end Go.Proofs.YtgcpgieojckheaaGreatDoor
