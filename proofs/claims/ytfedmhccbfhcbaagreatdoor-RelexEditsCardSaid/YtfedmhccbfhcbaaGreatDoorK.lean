/-
  next: the token at the beginning of a text.
-/
import Derived.Test.YtfedmhccbfhcbaaGreatDoorJ
namespace Go.Proofs.YtfedmhccbfhcbaaGreatDoor
open Go.RowKit

def rowR (k : Nat) (l : List UInt8) : Nat × Nat :=
  if k = 0 then (1, lead blankB l) else if k = 1 then remR l else if k = 2 then nameR l else if k = 3 then numR l else if k = 4 then quoR l else if k = 5 then twoR l else (8, oneB onesL l)
theorem row0 (c : UInt8) (r : List UInt8) : (rowR 0 (c :: r)).2 = 0 ↔ blankB c = false := by
  show lead blankB (c :: r) = 0 ↔ _
  rw [lead_cons]; cases blankB c <;> simp
theorem row1 (c : UInt8) (r : List UInt8) : (rowR 1 (c :: r)).2 = 0 ↔ opens (c :: r) = false := by
  show (remR (c :: r)).2 = 0 ↔ _
  unfold remR
  have := rem_pos c r 0 false
  cases h : opens (c :: r)
  · simp
  · rw [if_pos rfl]; simp; omega
theorem row2 (c : UInt8) (r : List UInt8) : (rowR 2 (c :: r)).2 = 0 ↔ lowB c = false := by
  show (nameR (c :: r)).2 = 0 ↔ _
  unfold nameR
  cases h : lowB c
  · rw [lead_zero _ _ _ h, if_pos rfl]; simp
  · have h1 := lead_pos lowB c r h
    have h2 := lead_pos inB c r (low_in c h)
    rw [if_neg (by omega)]; simp; omega
theorem row3 (c : UInt8) (r : List UInt8) : (rowR 3 (c :: r)).2 = 0 ↔ digB c = false := by
  show (numR (c :: r)).2 = 0 ↔ _
  unfold numR
  cases h : digB c
  · rw [lead_zero _ _ _ h, if_pos rfl]; simp
  · have h1 := lead_pos digB c r h
    have h2 := (num_le (c :: r)).2
    rw [if_neg (by omega)]; simp; omega
theorem row4 (c : UInt8) (r : List UInt8) : (rowR 4 (c :: r)).2 = 0 ↔ (c == 34) = false := by
  show (quoR (c :: r)).2 = 0 ↔ _
  unfold quoR
  rw [List.getElem?_cons_zero]
  by_cases h : c = 34
  · rw [h, if_pos rfl]; simp [shN]
  · rw [if_neg (by simp [h])]; simp [h]
theorem row5 (c : UInt8) (r : List UInt8) : (rowR 5 (c :: r)).2 = 0 ↔ twosL.contains ((c :: r).take 2) = false := by
  show (twoR (c :: r)).2 = 0 ↔ _
  unfold twoR
  cases h : twosL.contains ((c :: r).take 2)
  · simp
  · rw [if_pos rfl]; simp
theorem row6 (c : UInt8) (r : List UInt8) : (rowR 6 (c :: r)).2 = 0 ↔ onesL.contains c = false := by
  show oneB onesL (c :: r) = 0 ↔ _
  show (if onesL.contains c then 1 else 0) = 0 ↔ _
  cases onesL.contains c <;> simp
theorem cut_at (c : UInt8) (r : List UInt8) (k : Nat) (hk : k < 7) (h : ∀ j, j < k → (rowR j (c :: r)).2 = 0) (hp : 0 < (rowR k (c :: r)).2) : cut (c :: r) = rowR k (c :: r) := by
  have e : cut (c :: r) = if blankB c then (1, lead blankB (c :: r))
      else if opens (c :: r) then (if (rem 0 false (c :: r)).2 then 2 else 9, (rem 0 false (c :: r)).1)
      else if lowB c then (nameK ((c :: r).take (lead inB (c :: r))), lead inB (c :: r))
      else if digB c then num (c :: r)
      else if c == 34 then addN (quo 0 r)
      else if twosL.contains ((c :: r).take 2) then (8, 2)
      else if onesL.contains c then (8, 1)
      else (9, runeN (c :: r)) := rfl
  have g0 : 0 < k → ¬ blankB c = true := fun x => by rw [(row0 c r).1 (h 0 x)]; simp
  have g1 : 1 < k → ¬ opens (c :: r) = true := fun x => by rw [(row1 c r).1 (h 1 x)]; simp
  have g2 : 2 < k → ¬ lowB c = true := fun x => by rw [(row2 c r).1 (h 2 x)]; simp
  have g3 : 3 < k → ¬ digB c = true := fun x => by rw [(row3 c r).1 (h 3 x)]; simp
  have g4 : 4 < k → ¬ (c == 34) = true := fun x => by rw [(row4 c r).1 (h 4 x)]; simp
  have g5 : 5 < k → ¬ twosL.contains ((c :: r).take 2) = true := fun x => by rw [(row5 c r).1 (h 5 x)]; simp
  rcases (by omega : k = 0 ∨ k = 1 ∨ k = 2 ∨ k = 3 ∨ k = 4 ∨ k = 5 ∨ k = 6) with rfl | rfl | rfl | rfl | rfl | rfl | rfl
  · have p : blankB c = true := by
      apply Classical.byContradiction; intro x; have := (row0 c r).2 (by simpa using x); omega
    rw [e, if_pos p]; rfl
  · have p : opens (c :: r) = true := by
      apply Classical.byContradiction; intro x; have := (row1 c r).2 (by simpa using x); omega
    rw [e, if_neg (g0 (by omega)), if_pos p]
    show _ = remR (c :: r)
    unfold remR; rw [if_pos p]
  · have p : lowB c = true := by
      apply Classical.byContradiction; intro x; have := (row2 c r).2 (by simpa using x); omega
    rw [e, if_neg (g0 (by omega)), if_neg (g1 (by omega)), if_pos p]
    show _ = nameR (c :: r)
    unfold nameR; have h1 := lead_pos lowB c r p; rw [if_neg (by omega)]
  · have p : digB c = true := by
      apply Classical.byContradiction; intro x; have := (row3 c r).2 (by simpa using x); omega
    rw [e, if_neg (g0 (by omega)), if_neg (g1 (by omega)), if_neg (g2 (by omega)), if_pos p]
    show _ = numR (c :: r)
    unfold numR; have h1 := lead_pos digB c r p; rw [if_neg (by omega)]
  · have p : (c == 34) = true := by
      apply Classical.byContradiction; intro x; have := (row4 c r).2 (by simpa using x); omega
    rw [e, if_neg (g0 (by omega)), if_neg (g1 (by omega)), if_neg (g2 (by omega)), if_neg (g3 (by omega)), if_pos p]
    show _ = quoR (c :: r)
    unfold quoR; rw [List.getElem?_cons_zero, if_pos (by rw [beq_iff_eq] at p; rw [p]), addN_sh]; rfl
  · have p : twosL.contains ((c :: r).take 2) = true := by
      apply Classical.byContradiction; intro x; have := (row5 c r).2 (by simpa using x); omega
    rw [e, if_neg (g0 (by omega)), if_neg (g1 (by omega)), if_neg (g2 (by omega)), if_neg (g3 (by omega)), if_neg (g4 (by omega)), if_pos p]
    show _ = twoR (c :: r)
    unfold twoR; rw [if_pos p]
  · have p : onesL.contains c = true := by
      apply Classical.byContradiction; intro x; have := (row6 c r).2 (by simpa using x); omega
    rw [e, if_neg (g0 (by omega)), if_neg (g1 (by omega)), if_neg (g2 (by omega)), if_neg (g3 (by omega)), if_neg (g4 (by omega)), if_neg (g5 (by omega)), if_pos p]
    show _ = (8, if onesL.contains c then 1 else 0)
    rw [if_pos p]
theorem cut_none (c : UInt8) (r : List UInt8) (h : ∀ j, j < 7 → (rowR j (c :: r)).2 = 0) : cut (c :: r) = (9, runeN (c :: r)) := by
  show cutC c r = _
  unfold cutC
  rw [if_neg (by rw [(row0 c r).1 (h 0 (by omega))]; simp), if_neg (by rw [(row1 c r).1 (h 1 (by omega))]; simp), if_neg (by rw [(row2 c r).1 (h 2 (by omega))]; simp), if_neg (by rw [(row3 c r).1 (h 3 (by omega))]; simp), if_neg (by rw [(row4 c r).1 (h 4 (by omega))]; simp), if_neg (by rw [(row5 c r).1 (h 5 (by omega))]; simp), if_neg (by rw [(row6 c r).1 (h 6 (by omega))]; simp)]

/-! ### the readers, alike -/
/-- What lies in the variables. -/
def Env (w : World) : Prop := Lib.Utf8Tabs 1 2 w ∧ TwosAt w ∧ ErrAt w
theorem Env.size {w : World} (h : Env w) : 5 ≤ w.heap.size := by
  obtain ⟨ev, h, _⟩ := h.2.2
  have := lt_of_cell h
  omega
theorem Env.below {n : Nat} {w w' : World} (h : Env w) (hb : Below n w w') (hn : 5 ≤ n) : Env w' :=
  ⟨Utf.tabs_below h.1 hb (by omega), h.2.1.below hb (by omega), h.2.2.below hb hn⟩
theorem row0_any (s : ByteArray) (w : World) (hz : s.size ≤ 1000000000) : Calls Tryz.prog 53 #[.string s] w (NumEnd2 (rowR 0 s.data.toList) w) :=
  (blank_any s w hz).mono fun _ _ h => ⟨h.1, h.2 ▸ Below.refl _ _⟩
theorem row1_any (s : ByteArray) (w : World) (hz : s.size ≤ 1000000000) : Calls Tryz.prog 54 #[.string s] w (NumEnd2 (rowR 1 s.data.toList) w) :=
  (remark_any s w hz).mono fun _ _ h => ⟨h.1, h.2 ▸ Below.refl _ _⟩
theorem row4_any (s : ByteArray) (w : World) (hz : s.size ≤ 1000000000) : Calls Tryz.prog 58 #[.string s] w (NumEnd2 (rowR 4 s.data.toList) w) :=
  (quoted_any s w hz).mono fun _ _ h => ⟨h.1, h.2 ▸ Below.refl _ _⟩
theorem row5_any (s : ByteArray) (w : World) (hT : TwosAt w) : Calls Tryz.prog 59 #[.string s] w (NumEnd2 (rowR 5 s.data.toList) w) :=
  (twoByteSign_any s w hT).mono fun _ _ h => ⟨h.1, h.2 ▸ Below.refl _ _⟩
theorem row6_any (s : ByteArray) (w : World) : Calls Tryz.prog 60 #[.string s] w (NumEnd2 (rowR 6 s.data.toList) w) :=
  (sign_any s w).mono fun _ _ h => ⟨h.1, h.2 ▸ Below.refl _ _⟩
theorem rune_n (s : ByteArray) : Utf.rn s = runeN s.data.toList := rfl
theorem size_cons (s : ByteArray) (h : 0 < s.size) : ∃ c r, s.data.toList = c :: r := by
  cases hl : s.data.toList with
  | nil => rw [Lib.size_eq, hl] at h; simp at h
  | cons c r => exact ⟨c, r, rfl⟩
set_option maxRecDepth 100000 in
set_option maxHeartbeats 16000000 in
theorem next_any (s : ByteArray) (T : Nat) (w : World) (hz : s.size ≤ 1000000000) (h0 : 0 < s.size) (hT : TabAt T w) (hE : Env w) :
    Calls Tryz.prog 48 #[.slice (some ⟨T, 0, none⟩) 7 7, .string s] w (NumEnd2 (cut s.data.toList) w) := by
  have HT := Lib.hid hT
  have HE := Lib.hid hE
  obtain ⟨c, r, hl⟩ := size_cons s h0
  obtain ⟨C, hC⟩ : ∃ C, cut s.data.toList = C := ⟨_, rfl⟩
  rw [hC]
  have HC := Lib.hid hC
  have HL := Lib.hid hl
  clear hT hE hl hC
  go_enter Tryz.func48, Tryz.ntmps48
  go_wp2_with fail
  go_loopw [14] (fun i wr => ∃ k : Nat, i = .int .i64 k ∧ k ≤ 7 ∧ Hid (∀ j, j < k → (rowR j s.data.toList).2 = 0) ∧ Hid (Below w.heap.size w wr)) (fun i _ => 7 - (intOf i).toNat)
  case atStart => exact ⟨0, rfl, by omega, Lib.hid (fun j hj => by omega), Lib.hid (Below.refl _ _)⟩
  case round =>
    obtain ⟨k, rfl, hk, HJ, HB⟩ := hrel
    have HTr := Lib.hid (HT.out.below HB.out)
    have HEr := Lib.hid (HE.out.below HB.out HE.out.size)
    by_cases hlt : k < 7
    · obtain ⟨B, hcs, hWB⟩ := HTr.out
      have HW := Lib.hid hWB
      have hcell := cellH hcs
      clear hcs hWB
      have hfin : 0 < (rowR k s.data.toList).2 → C = rowR k s.data.toList := fun hp => by
        rw [← HC.out, HL.out]; rw [HL.out] at hp
        exact cut_at c r k hlt (fun j hj => by rw [← HL.out]; exact HJ.out j hj) hp
      have HF := Lib.hid hfin
      have hstep : (rowR k s.data.toList).2 = 0 → ∀ j, j < k + 1 → (rowR j s.data.toList).2 = 0 := fun hp j hj => by
        rcases Nat.lt_or_ge j k with g | g
        · exact HJ.out j g
        · obtain rfl : j = k := by omega
          exact hp
      have HS := Lib.hid hstep
      clear hfin hstep
      rcases (by omega : k = 0 ∨ k = 1 ∨ k = 2 ∨ k = 3 ∨ k = 4 ∨ k = 5 ∨ k = 6) with rfl | rfl | rfl | rfl | rfl | rfl | rfl
      · have hc : Calls Tryz.prog 53 #[.string s] wr (NumEnd2 (rowR 0 s.data.toList) wr) := row0_any s wr hz
        have hx : wr.cell? ⟨T, 0, none⟩ = (fnT B)[0]? := hcell 0
        replace hx : wr.cell? ⟨T, 0, none⟩ = some (.func (.func 53) #[] #[]) := hx
        clear hcell
        generalize rowR 0 s.data.toList = R at hc HF HS
        obtain ⟨a, b⟩ := R
        by_cases hp : 0 < b
        · have hp2 : (0 : Int) < (b : Int) := by omega
          have HN : Hid (C = (a, b)) := Lib.hid (HF.out hp)
          go_wp2_with (go_at_call 53; refine hc.mono ?_; rintro e w2 ⟨rfl, hb2⟩)
          go_ret2
          exact ⟨by rw [HN.out]; rfl, HB.out.trans (hb2.mono HB.out.size)⟩
        · obtain rfl : b = 0 := by omega
          have HN := Lib.hid (HS.out rfl)
          clear hp HS HF
          go_wp2_with (go_at_call 53; refine hc.mono ?_; rintro e w2 ⟨rfl, hb2⟩)
          go_roundw
          case rel => exact ⟨1, rfl, by omega, HN, Lib.hid (HB.out.trans (hb2.mono HB.out.size))⟩
          case measure => simp [intOf]
      · have hc : Calls Tryz.prog 54 #[.string s] wr (NumEnd2 (rowR 1 s.data.toList) wr) := row1_any s wr hz
        have hx : wr.cell? ⟨T, 1, none⟩ = (fnT B)[1]? := hcell 1
        replace hx : wr.cell? ⟨T, 1, none⟩ = some (.func (.func 54) #[] #[]) := hx
        clear hcell
        generalize rowR 1 s.data.toList = R at hc HF HS
        obtain ⟨a, b⟩ := R
        by_cases hp : 0 < b
        · have hp2 : (0 : Int) < (b : Int) := by omega
          have HN : Hid (C = (a, b)) := Lib.hid (HF.out hp)
          go_wp2_with (go_at_call 54; refine hc.mono ?_; rintro e w2 ⟨rfl, hb2⟩)
          go_ret2
          exact ⟨by rw [HN.out]; rfl, HB.out.trans (hb2.mono HB.out.size)⟩
        · obtain rfl : b = 0 := by omega
          have HN := Lib.hid (HS.out rfl)
          clear hp HS HF
          go_wp2_with (go_at_call 54; refine hc.mono ?_; rintro e w2 ⟨rfl, hb2⟩)
          go_roundw
          case rel => exact ⟨2, rfl, by omega, HN, Lib.hid (HB.out.trans (hb2.mono HB.out.size))⟩
          case measure => simp [intOf]
      · have hc : Calls Tryz.prog 66 #[.string s, .pointer (some ⟨B, 0, none⟩)] wr (NumEnd2 (rowR 2 s.data.toList) wr) := name_any s B wr hz HW.out
        have hx : wr.cell? ⟨T, 2, none⟩ = (fnT B)[2]? := hcell 2
        replace hx : wr.cell? ⟨T, 2, none⟩ = some (.func (.func 66) #[] #[.pointer (some ⟨B, 0, none⟩)]) := hx
        clear hcell
        generalize rowR 2 s.data.toList = R at hc HF HS
        obtain ⟨a, b⟩ := R
        by_cases hp : 0 < b
        · have hp2 : (0 : Int) < (b : Int) := by omega
          have HN : Hid (C = (a, b)) := Lib.hid (HF.out hp)
          go_wp2_with (go_at_call 66; refine hc.mono ?_; rintro e w2 ⟨rfl, hb2⟩)
          go_ret2
          exact ⟨by rw [HN.out]; rfl, HB.out.trans (hb2.mono HB.out.size)⟩
        · obtain rfl : b = 0 := by omega
          have HN := Lib.hid (HS.out rfl)
          clear hp HS HF
          go_wp2_with (go_at_call 66; refine hc.mono ?_; rintro e w2 ⟨rfl, hb2⟩)
          go_roundw
          case rel => exact ⟨3, rfl, by omega, HN, Lib.hid (HB.out.trans (hb2.mono HB.out.size))⟩
          case measure => simp [intOf]
      · have hc : Calls Tryz.prog 57 #[.string s] wr (NumEnd2 (rowR 3 s.data.toList) wr) := number_any s wr hz HEr.out.2.2
        have hx : wr.cell? ⟨T, 3, none⟩ = (fnT B)[3]? := hcell 3
        replace hx : wr.cell? ⟨T, 3, none⟩ = some (.func (.func 57) #[] #[]) := hx
        clear hcell
        generalize rowR 3 s.data.toList = R at hc HF HS
        obtain ⟨a, b⟩ := R
        by_cases hp : 0 < b
        · have hp2 : (0 : Int) < (b : Int) := by omega
          have HN : Hid (C = (a, b)) := Lib.hid (HF.out hp)
          go_wp2_with (go_at_call 57; refine hc.mono ?_; rintro e w2 ⟨rfl, hb2⟩)
          go_ret2
          exact ⟨by rw [HN.out]; rfl, HB.out.trans (hb2.mono HB.out.size)⟩
        · obtain rfl : b = 0 := by omega
          have HN := Lib.hid (HS.out rfl)
          clear hp HS HF
          go_wp2_with (go_at_call 57; refine hc.mono ?_; rintro e w2 ⟨rfl, hb2⟩)
          go_roundw
          case rel => exact ⟨4, rfl, by omega, HN, Lib.hid (HB.out.trans (hb2.mono HB.out.size))⟩
          case measure => simp [intOf]
      · have hc : Calls Tryz.prog 58 #[.string s] wr (NumEnd2 (rowR 4 s.data.toList) wr) := row4_any s wr hz
        have hx : wr.cell? ⟨T, 4, none⟩ = (fnT B)[4]? := hcell 4
        replace hx : wr.cell? ⟨T, 4, none⟩ = some (.func (.func 58) #[] #[]) := hx
        clear hcell
        generalize rowR 4 s.data.toList = R at hc HF HS
        obtain ⟨a, b⟩ := R
        by_cases hp : 0 < b
        · have hp2 : (0 : Int) < (b : Int) := by omega
          have HN : Hid (C = (a, b)) := Lib.hid (HF.out hp)
          go_wp2_with (go_at_call 58; refine hc.mono ?_; rintro e w2 ⟨rfl, hb2⟩)
          go_ret2
          exact ⟨by rw [HN.out]; rfl, HB.out.trans (hb2.mono HB.out.size)⟩
        · obtain rfl : b = 0 := by omega
          have HN := Lib.hid (HS.out rfl)
          clear hp HS HF
          go_wp2_with (go_at_call 58; refine hc.mono ?_; rintro e w2 ⟨rfl, hb2⟩)
          go_roundw
          case rel => exact ⟨5, rfl, by omega, HN, Lib.hid (HB.out.trans (hb2.mono HB.out.size))⟩
          case measure => simp [intOf]
      · have hc : Calls Tryz.prog 59 #[.string s] wr (NumEnd2 (rowR 5 s.data.toList) wr) := row5_any s wr HEr.out.2.1
        have hx : wr.cell? ⟨T, 5, none⟩ = (fnT B)[5]? := hcell 5
        replace hx : wr.cell? ⟨T, 5, none⟩ = some (.func (.func 59) #[] #[]) := hx
        clear hcell
        generalize rowR 5 s.data.toList = R at hc HF HS
        obtain ⟨a, b⟩ := R
        by_cases hp : 0 < b
        · have hp2 : (0 : Int) < (b : Int) := by omega
          have HN : Hid (C = (a, b)) := Lib.hid (HF.out hp)
          go_wp2_with (go_at_call 59; refine hc.mono ?_; rintro e w2 ⟨rfl, hb2⟩)
          go_ret2
          exact ⟨by rw [HN.out]; rfl, HB.out.trans (hb2.mono HB.out.size)⟩
        · obtain rfl : b = 0 := by omega
          have HN := Lib.hid (HS.out rfl)
          clear hp HS HF
          go_wp2_with (go_at_call 59; refine hc.mono ?_; rintro e w2 ⟨rfl, hb2⟩)
          go_roundw
          case rel => exact ⟨6, rfl, by omega, HN, Lib.hid (HB.out.trans (hb2.mono HB.out.size))⟩
          case measure => simp [intOf]
      · have hc : Calls Tryz.prog 60 #[.string s] wr (NumEnd2 (rowR 6 s.data.toList) wr) := row6_any s wr
        have hx : wr.cell? ⟨T, 6, none⟩ = (fnT B)[6]? := hcell 6
        replace hx : wr.cell? ⟨T, 6, none⟩ = some (.func (.func 60) #[] #[]) := hx
        clear hcell
        generalize rowR 6 s.data.toList = R at hc HF HS
        obtain ⟨a, b⟩ := R
        by_cases hp : 0 < b
        · have hp2 : (0 : Int) < (b : Int) := by omega
          have HN : Hid (C = (a, b)) := Lib.hid (HF.out hp)
          go_wp2_with (go_at_call 60; refine hc.mono ?_; rintro e w2 ⟨rfl, hb2⟩)
          go_ret2
          exact ⟨by rw [HN.out]; rfl, HB.out.trans (hb2.mono HB.out.size)⟩
        · obtain rfl : b = 0 := by omega
          have HN := Lib.hid (HS.out rfl)
          clear hp HS HF
          go_wp2_with (go_at_call 60; refine hc.mono ?_; rintro e w2 ⟨rfl, hb2⟩)
          go_roundw
          case rel => exact ⟨7, rfl, by omega, HN, Lib.hid (HB.out.trans (hb2.mono HB.out.size))⟩
          case measure => simp [intOf]
    · obtain rfl : k = 7 := by omega
      have hn : C = (9, runeN s.data.toList) := by rw [← HC.out, HL.out]; exact cut_none c r (fun j hj => by rw [← HL.out]; exact HJ.out j hj)
      have HN := Lib.hid hn
      have hc := Utf.rune_any s wr HEr.out.1
      rw [rune_n] at hc
      generalize runeN s.data.toList = n at *
      clear hn
      go_wp2_with (go_at_call 52; refine hc.mono ?_; rintro e w2 ⟨rfl, hb2⟩)
      go_ret2
      exact ⟨by rw [HN.out]; rfl, HB.out.trans (hb2.mono HB.out.size)⟩
end Go.Proofs.YtfedmhccbfhcbaaGreatDoor
