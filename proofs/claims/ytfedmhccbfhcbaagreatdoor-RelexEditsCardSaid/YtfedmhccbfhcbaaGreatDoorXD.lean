/-
  before.
-/
import Derived.Test.YtfedmhccbfhcbaaGreatDoorXC
namespace Go.Proofs.YtfedmhccbfhcbaaGreatDoor
open Go.RowKit Go.Shelf

theorem keepN_step : ∀ (E : List Tok) (f k : Nat) (t : Tok), k ≤ keepN f E → E[k]? = some t → (flatN (E.take k) + t.2.length + 3 ≤ f ↔ k + 1 ≤ keepN f E)
  | [], f, k, t, _, h => by simp at h
  | t0 :: E, f, 0, t, _, h => by
    simp at h; subst h
    rw [keepN_cons, show flatN ((t0 :: E).take 0) = 0 from rfl]
    split <;> omega
  | t0 :: E, f, k + 1, t, h1, h => by
    rw [keepN_cons] at h1 ⊢
    rw [List.take_succ_cons, flatN_cons]
    split at h1
    · rename_i hc
      rw [if_pos hc]
      have := keepN_step E (f - t0.2.length) k t (by omega) (by simpa using h)
      omega
    · omega
theorem flatN_take_succ {E : List Tok} {k : Nat} {t : Tok} (h : E[k]? = some t) : flatN (E.take (k + 1)) = flatN (E.take k) + t.2.length := by
  have hi : k < E.length := (List.getElem?_eq_some_iff.1 h).1
  unfold flatN
  rw [List.take_succ_eq_append_getElem hi, List.flatMap_append, (List.getElem?_eq_some_iff.1 h).2]
  simp
theorem flatN_take_le : ∀ (E : List Tok) (k : Nat), flatN (E.take k) ≤ flatN E
  | [], k => by simp
  | t :: E, 0 => Nat.zero_le _
  | t :: E, k + 1 => by
    rw [List.take_succ_cons, flatN_cons, flatN_cons]
    have := flatN_take_le E k; omega
def lxV (s : ByteArray) (v : Value) : Value := .agg #[.string s, v]
def BefEnd (v : Value) (E : List Tok) (f : Nat) (w : World) (e : Ending) (w' : World) : Prop := ∃ p c, v = .slice p E.length c ∧ e = .returned (.tuple #[.slice p (keepN f E) (keepN f E), .int .i64 (flatN (E.take (keepN f E)))]) ∧ Below w.heap.size w w'
set_option maxRecDepth 100000 in
set_option maxHeartbeats 8000000 in
theorem before_any (s : ByteArray) (v : Value) (E : List Tok) (f : Nat) (w : World) (hr : TokRow w v E) (hl : E.length ≤ 10000000) (hf : flatN E ≤ 10000000) (hff : f ≤ 1000000000) : Calls Tryz.prog 25 #[lxV s v, .int .i64 f] w (BefEnd v E f w) := by
  have hcap : ∃ p c, v = .slice p E.length c ∧ E.length ≤ c := by obtain ⟨p, c, h1, h2, _⟩ := hr; exact ⟨p, c, h1, h2⟩
  obtain ⟨p, c, rfl, hcc⟩ := hcap
  have HC := Lib.hid hcc
  clear hcc
  unfold lxV
  have HR := Lib.hid hr
  have HF := Lib.hid (flatN_take_le E)
  have HK := Lib.hid (keepN_le E f)
  obtain ⟨KN, hKN⟩ : ∃ KN, keepN f E = KN := ⟨_, rfl⟩
  have HS := Lib.hid (keepN_step E f)
  have hEnd : ∀ e w', (e = .returned (.tuple #[.slice p KN KN, .int .i64 (flatN (E.take KN))]) ∧ Below w.heap.size w w') → BefEnd (.slice p E.length c) E f w e w' := by
    rintro e w' ⟨rfl, hb⟩
    exact ⟨p, c, rfl, by rw [hKN], hb⟩
  rw [hKN] at HS HK
  refine Calls.mono ?_ hEnd
  have hb0 : Below w.heap.size w (w.alloc (.cells #[.string s, .slice p E.length c] 46)) := galloc2 (Below.refl _ _) (Nat.le_refl _) _
  have hN0 := heap_alloc_new w (.cells #[.string s, .slice p E.length c] 46)
  have HB0 := Lib.hid hb0
  have HN0 := Lib.hid hN0
  have hz0 : (w.alloc (.cells #[.string s, .slice p E.length c] 46)).heap.size = w.heap.size + 1 := by simp
  have HZ0 := Lib.hid hz0
  clear hr hKN hEnd hb0 hN0 hz0
  generalize hv : w.alloc (.cells #[.string s, .slice p E.length c] 46) = v0 at *
  have z1 : v0.cell? ⟨w.heap.size, 1, none⟩ = some (.slice p E.length c) := by rw [cellH HN0.out]; rfl
  have u3 : IntKind.i64.wrap ((f : Int) - 3) = (f : Int) - 3 := IntWalk.i64_in _ (by omega)
  go_enter Tryz.func25, Tryz.ntmps25
  go_wp2_with fail
  go_loopw [6, 7, 13] (fun n e i wr => ∃ k : Nat, n = .int .i64 k ∧ e = .int .i64 (flatN (E.take k)) ∧ i = .int .i64 k ∧ k ≤ KN ∧ Hid (Below v0.heap.size v0 wr)) (fun _ _ i _ => E.length - (intOf i).toNat)
  case atStart => exact ⟨0, rfl, rfl, rfl, Nat.zero_le _, Lib.hid (Below.refl _ _)⟩
  case round =>
    obtain ⟨k, rfl, rfl, rfl, hk, HB⟩ := hrel
    have HBw := Lib.hid (HB0.out.trans (HB.out.mono HB0.out.size))
    have z1r : wr.cell? ⟨w.heap.size, 1, none⟩ = some (.slice p E.length c) := by
      rw [cellH ((HB.out.block w.heap.size (by have := HZ0.out; omega)).trans HN0.out)]; rfl
    by_cases hlt : k < E.length
    · have hlt' : (k : Int) < (E.length : Int) := by omega
      have hx := List.getElem?_eq_getElem hlt
      generalize E[k] = t at hx
      have hiff := HS.out k t hk hx
      have hsum := flatN_take_succ hx
      have hle := HF.out (k + 1)
      rw [hsum] at hle
      obtain ⟨g, o, c', he, hc', r0, r1⟩ := (HR.out.below HBw.out).at hx
      cases he
      obtain ⟨kx, tx⟩ := t
      change wr.cell? ⟨g, o + k * 2, none⟩ = some (.int .u8 kx) at r0
      change wr.cell? ⟨g, o + k * 2 + 1, none⟩ = some (bl tx) at r1
      change flatN (E.take k) + tx.length ≤ flatN E at hle
      change (flatN (E.take k) + tx.length + 3 ≤ f ↔ k + 1 ≤ KN) at hiff
      change flatN (E.take (k + 1)) = flatN (E.take k) + tx.length at hsum
      unfold bl at r1
      have hq : (⟨tx.toArray⟩ : ByteArray).size = tx.length := ba_size tx
      have HSU := Lib.hid hsum
      obtain ⟨fk, hfk⟩ : ∃ fk, flatN (E.take k) = fk := ⟨_, rfl⟩
      rw [hfk] at hle hiff HSU
      generalize (⟨tx.toArray⟩ : ByteArray) = Q at *
      obtain ⟨tl, htl⟩ : ∃ tl, tx.length = tl := ⟨_, rfl⟩
      rw [htl] at hle hiff HSU hq
      have HBa := Lib.hid (HB.out.trans (galloc2 (w0 := wr) (Below.refl wr.heap.size wr) (Nat.le_refl _) (.cells #[.int .u8 kx, .string Q] 39) |>.mono HB.out.size))
      have hn := heap_alloc_new wr (.cells #[.int .u8 kx, .string Q] 39)
      have y1 : (wr.alloc (.cells #[.int .u8 kx, .string Q] 39)).cell? ⟨wr.heap.size, 1, none⟩ = some (.string Q) := by rw [cellH hn]; rfl
      obtain ⟨s1, hs1⟩ : ∃ s1, fk + tl = s1 := ⟨_, rfl⟩
      rw [hs1] at HSU hiff hle
      have u1 : IntKind.i64.wrap ((fk : Int) + (Q.size : Int)) = (s1 : Int) := by rw [hq, IntWalk.i64_in _ (by omega)]; omega
      have u2 : IntKind.i64.wrap ((k : Int) + 1) = ((k + 1 : Nat) : Int) := by rw [IntWalk.i64_in _ (by omega)]; omega
      have z1a : (wr.alloc (.cells #[.int .u8 kx, .string Q] 39)).cell? ⟨w.heap.size, 1, none⟩ = some (.slice (some ⟨g, o, none⟩) E.length c) := by
        have hbk := (galloc2 (w0 := wr) (Below.refl wr.heap.size wr) (Nat.le_refl _) (.cells #[.int .u8 kx, .string Q] 39))
        exact cell_below hbk z1r
      have HFK := Lib.hid hfk
      clear hx hsum hc' hn hs1 hq hfk htl
      rw [HFK.out]
      by_cases hgo : s1 + 3 ≤ f
      · have hng : ¬ ((f : Int) - 3 < (s1 : Int)) := by omega
        have hk1 := hiff.1 hgo
        clear hiff
        go_wp2_with fail
        go_quiet (fail)
        have HB9 := Lib.hid (HBa.out.trans ((drewN_below (wr.alloc (.cells #[.int .u8 kx, .string Q] 39)) nq).mono HBa.out.size))
        clear y1 u1 z1a z1r
        generalize (wr.alloc (.cells #[.int .u8 kx, .string Q] 39)).drewN nq = w9 at *
        go_wp2_with fail
        go_roundw
        case rel => exact ⟨k + 1, rfl, by rw [HSU.out], rfl, hk1, HB9⟩
        case measure => simp [intOf]; omega
      · have hng : ((f : Int) - 3 < (s1 : Int)) := by omega
        have HKK : Hid (k = KN) := Lib.hid (by have := mt hiff.2 hgo; omega)
        have h01 : (0 : Int) ≤ (k : Int) := by omega
        have h02 : (k : Int) ≤ (c : Int) := by have := HC.out; have := HK.out; omega
        clear hiff
        go_wp2_with fail
        go_ret2
        exact ⟨by rw [← HKK.out, HFK.out]; rfl, HB0.out.trans (HBa.out.mono HB0.out.size)⟩
    · have hlt' : ¬ (k : Int) < (E.length : Int) := by omega
      have HKK : Hid (k = KN) := Lib.hid (by have := HK.out; omega)
      have h01 : (0 : Int) ≤ (k : Int) := by omega
      have h02 : (k : Int) ≤ (c : Int) := by have := HC.out; have := HK.out; omega
      obtain ⟨fk, hfk⟩ : ∃ fk, flatN (E.take k) = fk := ⟨_, rfl⟩
      have HFK := Lib.hid hfk
      rw [hfk]
      clear hfk
      go_wp2_with fail
      go_ret2
      exact ⟨by rw [← HKK.out, HFK.out]; rfl, HBw.out⟩
end Go.Proofs.YtfedmhccbfhcbaaGreatDoor
