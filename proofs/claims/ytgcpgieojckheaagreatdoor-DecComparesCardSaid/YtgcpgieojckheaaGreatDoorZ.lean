/-
  The reference: above, Cmp.
-/
import Derived.Test.YtgcpgieojckheaaGreatDoorX
namespace Go.Proofs.YtgcpgieojckheaaGreatDoor
open Go.RowKit Go.Shelf

/-- Digits held against digits, noughts behind the shorter ones. -/
def pad : List UInt8 → List UInt8 → Int
  | [], [] => 0
  | a :: xs, [] => if a.toNat < 48 then -1 else if 48 < a.toNat then 1 else pad xs []
  | [], b :: bs => if 48 < b.toNat then -1 else if b.toNat < 48 then 1 else pad [] bs
  | a :: xs, b :: bs => if a.toNat < b.toNat then -1 else if b.toNat < a.toNat then 1 else pad xs bs
theorem pad_left : ∀ (a : List UInt8), (∀ c ∈ a, isDig c = true) → a.getLast? ≠ some 48 → a ≠ [] → pad a [] = 1
  | [], _, _, h => absurd rfl h
  | x :: xs, hd, hl, _ => by
    have h1 := isDig_iff.1 (hd x (by simp))
    simp only [pad]
    rw [if_neg (by omega)]
    by_cases hx : 48 < x.toNat
    · rw [if_pos hx]
    · rw [if_neg hx]
      have e : x = 48 := UInt8.toNat_inj.1 (by show x.toNat = 48; omega)
      cases xs with
      | nil => rw [e] at hl; simp at hl
      | cons y r => exact pad_left (y :: r) (fun c hc => hd c (by simp at hc ⊢; right; exact hc)) (by rw [List.getLast?_cons_cons] at hl; exact hl) (by simp)
theorem pad_right : ∀ (a : List UInt8), (∀ c ∈ a, isDig c = true) → a.getLast? ≠ some 48 → a ≠ [] → pad [] a = -1
  | [], _, _, h => absurd rfl h
  | x :: xs, hd, hl, _ => by
    have h1 := isDig_iff.1 (hd x (by simp))
    simp only [pad]
    by_cases hx : 48 < x.toNat
    · rw [if_pos hx]
    · rw [if_neg hx, if_neg (by omega)]
      have e : x = 48 := UInt8.toNat_inj.1 (by show x.toNat = 48; omega)
      cases xs with
      | nil => rw [e] at hl; simp at hl
      | cons y r => exact pad_right (y :: r) (fun c hc => hd c (by simp at hc ⊢; right; exact hc)) (by rw [List.getLast?_cons_cons] at hl; exact hl) (by simp)
theorem last_tail {x : UInt8} {xs : List UInt8} (h : (x :: xs).getLast? ≠ some 48) : xs.getLast? ≠ some 48 := by
  cases xs with
  | nil => simp
  | cons y r => rw [List.getLast?_cons_cons] at h; exact h
theorem pad_lex : ∀ (a b : List UInt8), (∀ c ∈ a, isDig c = true) → (∀ c ∈ b, isDig c = true) → a.getLast? ≠ some 48 → b.getLast? ≠ some 48 → pad a b = lex a b
  | [], [], _, _, _, _ => by simp [pad, lex]
  | x :: xs, [], ha, _, la, _ => by rw [pad_left _ ha la (by simp)]; rfl
  | [], y :: bs, _, hb, _, lb => by rw [pad_right _ hb lb (by simp)]; rfl
  | x :: xs, y :: bs, ha, hb, la, lb => by
    simp only [pad, lex]
    rw [pad_lex xs bs (fun c hc => ha c (by simp [hc])) (fun c hc => hb c (by simp [hc])) (last_tail la) (last_tail lb)]
theorem pad_range : ∀ a b : List UInt8, -1 ≤ pad a b ∧ pad a b ≤ 1
  | [], [] => by simp [pad]
  | x :: xs, [] => by
    have := pad_range xs []
    simp only [pad]; split
    · omega
    · split <;> omega
  | [], y :: bs => by
    have := pad_range [] bs
    simp only [pad]; split
    · omega
    · split <;> omega
  | x :: xs, y :: bs => by
    have := pad_range xs bs
    simp only [pad]; split
    · omega
    · split <;> omega
def aboveR (a b : Num) : Int := if topN a ≠ topN b then cmpI (topN a) (topN b) else pad a.digits b.digits
theorem aboveR_eq {a b : Num} (ha : Canon a) (hb : Canon b) : aboveR a b = sizes a b := by
  unfold aboveR sizes
  rw [pad_lex _ _ ha.dig hb.dig ha.last hb.last]
theorem aboveR_range (a b : Num) : -1 ≤ aboveR a b ∧ aboveR a b ≤ 1 := by
  unfold aboveR
  split
  · exact cmpI_range _ _
  · exact pad_range _ _
theorem drop_cons {s : ByteArray} {i : Nat} (h : i < s.size) : s.data.toList.drop i = (s[i]'h) :: s.data.toList.drop (i + 1) := by
  have hl : i < s.data.toList.length := by rw [← Lib.size_eq]; exact h
  rw [List.drop_eq_getElem_cons hl]; rfl
theorem drop_none {s : ByteArray} {i : Nat} (h : ¬ i < s.size) : s.data.toList.drop i = [] := List.drop_eq_nil_of_le (by rw [← Lib.size_eq]; omega)
theorem belowN {B : Nat} {a w : World} (h : Below B a w) (n : Nat) : Below B a (w.drewN n) := ⟨h.os, h.tape, h.output, h.size, h.block⟩
structure TwoR (N : Nat) (na : Bool) (TA : ByteArray) (ea : Int) (nb : Bool) (TB : ByteArray) (eb : Int) (W : World) : Prop where
  a : W.heap[N]? = some (.cells #[.bool na, .string TA, .int .i64 ea] 73 (0, 0))
  b : W.heap[N + 1]? = some (.cells #[.bool nb, .string TB, .int .i64 eb] 73 (0, 0))
theorem TwoR.cells {N : Nat} {na nb : Bool} {TA TB : ByteArray} {ea eb : Int} {W : World} (h : TwoR N na TA ea nb TB eb W) :
    W.cell? ⟨N, 0, none⟩ = some (.bool na) ∧ W.cell? ⟨N, 1, none⟩ = some (.string TA) ∧ W.cell? ⟨N, 2, none⟩ = some (.int .i64 ea) ∧ W.cell? ⟨N + 1, 0, none⟩ = some (.bool nb) ∧ W.cell? ⟨N + 1, 1, none⟩ = some (.string TB) ∧ W.cell? ⟨N + 1, 2, none⟩ = some (.int .i64 eb) := by
  obtain ⟨a, b, c, _⟩ := cells3 h.a
  obtain ⟨d, e, f, _⟩ := cells3 h.b
  exact ⟨a, b, c, d, e, f⟩
theorem TwoR.here (w : World) (na : Bool) (TA : ByteArray) (ea : Int) (nb : Bool) (TB : ByteArray) (eb : Int) :
    TwoR w.heap.size na TA ea nb TB eb ((w.alloc (.cells #[.bool na, .string TA, .int .i64 ea] 73)).alloc (.cells #[.bool nb, .string TB, .int .i64 eb] 73)) ∧
      Below w.heap.size w ((w.alloc (.cells #[.bool na, .string TA, .int .i64 ea] 73)).alloc (.cells #[.bool nb, .string TB, .int .i64 eb] 73)) := by
  refine ⟨⟨(Below.heap_alloc _ _ _ (by simp)).trans (World.alloc_heap_new w _), ?_⟩, galloc (galloc (Below.refl _ _) _) _⟩
  have := World.alloc_heap_new (w.alloc (.cells #[.bool na, .string TA, .int .i64 ea] 73)) (.cells #[.bool nb, .string TB, .int .i64 eb] 73)
  have hz : (w.alloc (.cells #[.bool na, .string TA, .int .i64 ea] 73)).heap.size = w.heap.size + 1 := by simp
  rw [hz] at this
  exact this
set_option maxRecDepth 100000 in
set_option maxHeartbeats 4000000 in
theorem rabove_any (a b : Num) (w : World) (la : tooLarge a = false) (lb : tooLarge b = false) :
    Calls Tryz.prog 55 #[refV a, refV b] w fun e w' => e = .returned (.int .i64 (aboveR a b)) ∧ Below w.heap.size w w' := by
  obtain ⟨TA, eA, hA⟩ := refV_eq a
  obtain ⟨TB, eB, hB⟩ := refV_eq b
  rw [hA, hB]
  have xa := digits_len la
  have xb := digits_len lb
  have za : TA.size ≤ 200 := by rw [Lib.size_eq, eA]; omega
  have zb : TB.size ≤ 200 := by rw [Lib.size_eq, eB]; omega
  have tA : (TA.size : Int) + a.exp = topN a := by unfold topN; rw [Lib.size_eq, eA]; omega
  have tB : (TB.size : Int) + b.exp = topN b := by unfold topN; rw [Lib.size_eq, eB]; omega
  have hwA : IntKind.i64.wrap ((TA.size : Int) + a.exp) = topN a := by rw [IntWalk.i64_in _ (by omega)]; exact tA
  have hwB : IntKind.i64.wrap ((TB.size : Int) + b.exp) = topN b := by rw [IntWalk.i64_in _ (by omega)]; exact tB
  have HS : Hid (aboveR a b = if topN a ≠ topN b then cmpI (topN a) (topN b) else pad TA.data.toList TB.data.toList) := Lib.hid (by rw [eA, eB]; rfl)
  have HTA := Lib.hid tA
  have HTB := Lib.hid tB
  obtain ⟨T0, B0⟩ := TwoR.here w a.neg TA a.exp b.neg TB b.exp
  generalize aboveR a b = Z at *
  generalize a.neg = na at *
  generalize b.neg = nb at *
  have hea : -9999 ≤ a.exp ∧ a.exp ≤ 9999 := ⟨xa.2.1, xa.2.2⟩
  have heb : -9999 ≤ b.exp ∧ b.exp ≤ 9999 := ⟨xb.2.1, xb.2.2⟩
  generalize a.exp = ea at *
  generalize b.exp = eb at *
  generalize topN a = X at *
  generalize topN b = Y at *
  clear hA hB eA eB xa xb la lb tA tB
  obtain ⟨k0, k1, k2, k3, k4, k5⟩ := T0.cells
  have HB0 := Lib.hid B0
  clear T0 B0
  by_cases hXY : X = Y
  · subst hXY
    rw [if_neg (by simp)] at HS
    have hq1 : (X == X) = true := by simp
    have hq2 : (X != X) = false := by simp
    go_enter Tryz.func55, Tryz.ntmps55
    go_wp2
    generalize (w.alloc (.cells #[.bool na, .string TA, .int .i64 ea] 73)).alloc (.cells #[.bool nb, .string TB, .int .i64 eb] 73) = W0 at *
    go_quiet (fail)
    go_wp2
    go_loop [7] (fun i => ∃ k : Nat, i = .int .i64 k ∧ k ≤ 200 ∧ Hid (Z = pad (TA.data.toList.drop k) (TB.data.toList.drop k))) (fun i => 200 - (intOf i).toNat)
    case atStart => exact ⟨0, rfl, by omega, HS⟩
    case round =>
      obtain ⟨k, rfl, hk, HZ⟩ := hrel
      by_cases hA : k < TA.size
      · have hA' : (k : Int) < (TA.size : Int) := by omega
        have hdA := drop_cons hA
        by_cases hB : k < TB.size
        · have hB' : (k : Int) < (TB.size : Int) := by omega
          have hdB := drop_cons hB
          have hP : Hid (Z = if (TA[k]'hA).toNat < (TB[k]'hB).toNat then -1 else if (TB[k]'hB).toNat < (TA[k]'hA).toNat then 1 else pad (TA.data.toList.drop (k + 1)) (TB.data.toList.drop (k + 1))) := Lib.hid (by rw [HZ.out, hdA, hdB]; simp only [pad])
          clear hdA hdB HZ
          by_cases h1 : (TA[k]'hA).toNat < (TB[k]'hB).toNat
          · have h1' : ((TA[k]'hA).toNat : Int) < ((TB[k]'hB).toNat : Int) := by omega
            have HF : Hid (Z = -1) := Lib.hid (by rw [hP.out, if_pos h1])
            clear hP
            go_wp2
            go_ret
            exact ⟨by rw [HF.out]; rfl, belowN HB0.out _⟩
          · have h1' : ¬ ((TA[k]'hA).toNat : Int) < ((TB[k]'hB).toNat : Int) := by omega
            by_cases h2 : (TB[k]'hB).toNat < (TA[k]'hA).toNat
            · have h2' : ((TB[k]'hB).toNat : Int) < ((TA[k]'hA).toNat : Int) := by omega
              have HF : Hid (Z = 1) := Lib.hid (by rw [hP.out, if_neg h1, if_pos h2])
              clear hP
              go_wp2
              go_ret
              exact ⟨by rw [HF.out]; rfl, belowN HB0.out _⟩
            · have h2' : ¬ ((TB[k]'hB).toNat : Int) < ((TA[k]'hA).toNat : Int) := by omega
              have HF : Hid (Z = pad (TA.data.toList.drop (k + 1)) (TB.data.toList.drop (k + 1))) := Lib.hid (by rw [hP.out, if_neg h1, if_neg h2])
              clear hP
              go_wp2
              go_round
              case rel => exact ⟨k + 1, by go_num, by omega, HF⟩
              case measure => simp [intOf]; omega
        · have hB' : ¬ (k : Int) < (TB.size : Int) := by omega
          have hdB := drop_none hB
          have hdB1 : TB.data.toList.drop (k + 1) = [] := drop_none (by omega)
          have hP : Hid (Z = if (TA[k]'hA).toNat < 48 then -1 else if 48 < (TA[k]'hA).toNat then 1 else pad (TA.data.toList.drop (k + 1)) (TB.data.toList.drop (k + 1))) := Lib.hid (by rw [HZ.out, hdA, hdB, hdB1]; simp only [pad])
          clear hdA hdB hdB1 HZ
          by_cases h1 : (TA[k]'hA).toNat < 48
          · have h1' : ((TA[k]'hA).toNat : Int) < (48 : Int) := by omega
            have HF : Hid (Z = -1) := Lib.hid (by rw [hP.out, if_pos h1])
            clear hP
            go_wp2
            go_ret
            exact ⟨by rw [HF.out]; rfl, belowN HB0.out _⟩
          · have h1' : ¬ ((TA[k]'hA).toNat : Int) < (48 : Int) := by omega
            by_cases h2 : 48 < (TA[k]'hA).toNat
            · have h2' : (48 : Int) < ((TA[k]'hA).toNat : Int) := by omega
              have HF : Hid (Z = 1) := Lib.hid (by rw [hP.out, if_neg h1, if_pos h2])
              clear hP
              go_wp2
              go_ret
              exact ⟨by rw [HF.out]; rfl, belowN HB0.out _⟩
            · have h2' : ¬ (48 : Int) < ((TA[k]'hA).toNat : Int) := by omega
              have HF : Hid (Z = pad (TA.data.toList.drop (k + 1)) (TB.data.toList.drop (k + 1))) := Lib.hid (by rw [hP.out, if_neg h1, if_neg h2])
              clear hP
              go_wp2
              go_round
              case rel => exact ⟨k + 1, by go_num, by omega, HF⟩
              case measure => simp [intOf]; omega
      · have hA' : ¬ (k : Int) < (TA.size : Int) := by omega
        have hdA := drop_none hA
        by_cases hB : k < TB.size
        · have hB' : (k : Int) < (TB.size : Int) := by omega
          have hdB := drop_cons hB
          have hdA1 : TA.data.toList.drop (k + 1) = [] := drop_none (by omega)
          have hP : Hid (Z = if 48 < (TB[k]'hB).toNat then -1 else if (TB[k]'hB).toNat < 48 then 1 else pad (TA.data.toList.drop (k + 1)) (TB.data.toList.drop (k + 1))) := Lib.hid (by rw [HZ.out, hdA, hdB, hdA1]; simp only [pad])
          clear hdA hdB hdA1 HZ
          by_cases h1 : 48 < (TB[k]'hB).toNat
          · have h1' : (48 : Int) < ((TB[k]'hB).toNat : Int) := by omega
            have HF : Hid (Z = -1) := Lib.hid (by rw [hP.out, if_pos h1])
            clear hP
            go_wp2
            go_ret
            exact ⟨by rw [HF.out]; rfl, belowN HB0.out _⟩
          · have h1' : ¬ (48 : Int) < ((TB[k]'hB).toNat : Int) := by omega
            by_cases h2 : (TB[k]'hB).toNat < 48
            · have h2' : ((TB[k]'hB).toNat : Int) < (48 : Int) := by omega
              have HF : Hid (Z = 1) := Lib.hid (by rw [hP.out, if_neg h1, if_pos h2])
              clear hP
              go_wp2
              go_ret
              exact ⟨by rw [HF.out]; rfl, belowN HB0.out _⟩
            · have h2' : ¬ ((TB[k]'hB).toNat : Int) < (48 : Int) := by omega
              have HF : Hid (Z = pad (TA.data.toList.drop (k + 1)) (TB.data.toList.drop (k + 1))) := Lib.hid (by rw [hP.out, if_neg h1, if_neg h2])
              clear hP
              go_wp2
              go_round
              case rel => exact ⟨k + 1, by go_num, by omega, HF⟩
              case measure => simp [intOf]; omega
        · have hB' : ¬ (k : Int) < (TB.size : Int) := by omega
          have HF : Hid (Z = 0) := Lib.hid (by rw [HZ.out, hdA, drop_none hB]; simp [pad])
          clear hdA HZ
          go_wp2
          go_ret
          exact ⟨by rw [HF.out]; rfl, belowN HB0.out _⟩
  · rw [if_pos hXY] at HS
    have hq1 : (X == Y) = false := by simpa using hXY
    have hq2 : (X != Y) = true := by simpa using hXY
    by_cases hlt : X < Y
    · have HF : Hid (Z = -1) := Lib.hid (by rw [HS.out]; unfold cmpI; rw [if_pos hlt])
      go_enter Tryz.func55, Tryz.ntmps55
      go_wp2
      generalize (w.alloc (.cells #[.bool na, .string TA, .int .i64 ea] 73)).alloc (.cells #[.bool nb, .string TB, .int .i64 eb] 73) = W0 at *
      go_quiet (fail)
      go_wp2
      go_ret
      exact ⟨by rw [HF.out]; rfl, belowN HB0.out _⟩
    · have HF : Hid (Z = 1) := Lib.hid (by rw [HS.out]; unfold cmpI; rw [if_neg hlt, if_pos (by omega)])
      go_enter Tryz.func55, Tryz.ntmps55
      go_wp2
      generalize (w.alloc (.cells #[.bool na, .string TA, .int .i64 ea] 73)).alloc (.cells #[.bool nb, .string TB, .int .i64 eb] 73) = W0 at *
      go_quiet (fail)
      go_wp2
      go_ret
      exact ⟨by rw [HF.out]; rfl, belowN HB0.out _⟩
end Go.Proofs.YtgcpgieojckheaaGreatDoor
