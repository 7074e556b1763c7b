/-
  power; value.
-/
import Derived.Test.YtgcpgieojckheaaGreatDoorH
namespace Go.Proofs.YtgcpgieojckheaaGreatDoor
open Go.RowKit Go.Shelf

theorem parse_exp_dig {l : List UInt8} {p : Pt} (h : parseR l = some p) : ∀ c ∈ p.exp, isDig c = true := by
  unfold parseR at h
  simp only at h
  split at h
  · split at h
    · cases h
    · rename_i f l3 hf
      split at h
      · cases h
      · rename_i b e l4 he
        split at h
        · simp only [Option.some.injEq] at h
          subst h
          simp only
          unfold expOf at he
          split at he
          · split at he
            · split at he
              · cases he
              · simp only [Option.some.injEq, Prod.mk.injEq] at he
                rw [← he.2.1]; exact digs_dig _
            · simp only [Option.some.injEq, Prod.mk.injEq] at he
              rw [← he.2.1]; simp
          · simp only [Option.some.injEq, Prod.mk.injEq] at he
            rw [← he.2.1]; simp
        · cases h
  · cases h
/-- The bound up to which a power is read. -/
def far : Nat := 1099511627776
theorem far_eq : far = 1099511627776 := rfl
def PowEnd (B : Nat) (p : Pt) (w : World) (e : Ending) (w' : World) : Prop := ∃ P, PowOk B p P ∧ e = .returned (.int .i64 P) ∧ w = w'
theorem pow_below {B : Nat} {p : Pt} (hb : p.below = true) (n : Nat) (h : (n = num p.exp) ∨ (B ≤ n ∧ n ≤ num p.exp)) (hn : n ≤ 10 * B + 9) : PowOk B p (-(n : Int)) := by
  by_cases hx : num p.exp < B
  · left
    refine ⟨hx, ?_⟩
    have : n = num p.exp := by omega
    rw [this]; unfold powerR; rw [if_pos hb]
  · right
    exact ⟨by omega, fun _ => by omega, fun h => by rw [hb] at h; cases h⟩
theorem pow_above {B : Nat} {p : Pt} (hb : p.below = false) (n : Nat) (h : (n = num p.exp) ∨ (B ≤ n ∧ n ≤ num p.exp)) (hn : n ≤ 10 * B + 9) : PowOk B p (n : Int) := by
  by_cases hx : num p.exp < B
  · left
    refine ⟨hx, ?_⟩
    have : n = num p.exp := by omega
    rw [this]; unfold powerR; rw [hb]; rfl
  · right
    exact ⟨by omega, (fun h => by rw [hb] at h; cases h), fun _ => by omega⟩
theorem dig_sub {c : UInt8} (h : isDig c = true) : IntKind.u8.wrap ((c.toNat : Int) - 48) = ((c.toNat - 48 : Nat) : Int) := by
  have := isDig_iff.1 h
  rw [IntKind.wrap_u8]; omega
set_option maxHeartbeats 1000000 in
theorem power_any (w : World) (b : Nat) (p : PS) (h : PAt w b p) (hd : ∀ c ∈ p.exp, isDig c = true) (hl : p.exp.length ≤ 1000000000) :
    Calls Tryz.prog 117 #[.pointer (some ⟨b, 0, none⟩)] w (PowEnd far (ptOf p) w) := by
  obtain ⟨_, _, _, _, x4, x5, _⟩ := h.cells
  obtain ⟨s, hs⟩ : ∃ s : ByteArray, (⟨p.exp.toArray⟩ : ByteArray) = s := ⟨_, rfl⟩
  have hsl : s.data.toList = p.exp := by rw [← hs]
  have hsz : s.size = p.exp.length := by rw [Lib.size_eq, hsl]
  unfold bl at x5
  rw [hs] at x5
  have hs1 : s.size ≤ 1000000000 := by omega
  have HE : Hid (∀ n : Nat, (n = num s.data.toList ∨ (far ≤ n ∧ n ≤ num s.data.toList)) → n ≤ 10 * far + 9 → (p.below = true → PowOk far (ptOf p) (-(n : Int))) ∧ (p.below = false → PowOk far (ptOf p) (n : Int))) := Lib.hid fun n h1 h2 =>
    ⟨fun hb => pow_below (p := ptOf p) hb n (by rw [hsl] at h1; exact h1) h2, fun hb => pow_above (p := ptOf p) hb n (by rw [hsl] at h1; exact h1) h2⟩
  have HD : Hid (∀ (k : Nat) (hk : k < s.size), isDig (s[k]'hk) = true ∧ num (s.data.toList.take (k + 1)) = num (s.data.toList.take k) * 10 + ((s[k]'hk).toNat - 48)) := Lib.hid fun k hk => by
    have hk' : k < s.data.toList.length := by rw [← Lib.size_eq]; exact hk
    have e : s.data.toList[k] = s[k]'hk := rfl
    refine ⟨?_, ?_⟩
    · rw [← e]; exact hd _ (by rw [← hsl]; exact List.getElem_mem _)
    · rw [num_take _ k hk', e]
  have HN : Hid (∀ k, num (s.data.toList.take k) ≤ num s.data.toList) := Lib.hid fun k => num_take_le _ k
  have HT : Hid (num (s.data.toList.take s.size) = num s.data.toList) := Lib.hid (by rw [List.take_of_length_le (by rw [← Lib.size_eq]; exact Nat.le_refl _)])
  have hfar : far = 1099511627776 := far_eq
  have HF := Lib.hid hfar
  clear h hd hl hs hsl hsz hfar
  generalize ptOf p = pt at *
  generalize p.below = bw at *
  go_enter Tryz.func117, Tryz.ntmps117
  go_wp2
  go_loop [3, 4] (fun n i => ∃ k : Nat, i = .int .i64 k ∧ k ≤ s.size ∧ n = .int .i64 (num (s.data.toList.take k) : Nat) ∧ num (s.data.toList.take k) ≤ 10995116277769) (fun _ i => s.size - (intOf i).toNat)
  case atStart => exact ⟨0, rfl, Nat.zero_le _, rfl, by simp [num]⟩
  case round =>
    obtain ⟨k, rfl, hk, rfl, hn⟩ := hrel
    have hle := HN.out k
    by_cases hlt : k < s.size
    · have hlt' : (k : Int) < (s.size : Int) := by omega
      obtain ⟨hdg, hstep⟩ := HD.out k hlt
      have hsub := dig_sub hdg
      have hd9 := (isDig_iff.1 hdg).2
      have HS := Lib.hid hstep
      clear hdg hstep
      generalize num (s.data.toList.take k) = m at *
      by_cases hm : m < 1099511627776
      · have hm' : (m : Int) < 1099511627776 := by omega
        have hw1 : IntKind.i64.wrap ((m : Int) * 10) = (m : Int) * 10 := IntWalk.i64_in _ (by omega)
        have hw2 : IntKind.i64.wrap ((((s[k]'hlt).toNat - 48 : Nat) : Int)) = (((s[k]'hlt).toNat - 48 : Nat) : Int) := IntWalk.i64_in _ (by omega)
        have hw3 : IntKind.i64.wrap ((m : Int) * 10 + (((s[k]'hlt).toNat - 48 : Nat) : Int)) = (m : Int) * 10 + (((s[k]'hlt).toNat - 48 : Nat) : Int) := IntWalk.i64_in _ (by omega)
        go_wp2
        go_round
        case rel => exact ⟨k + 1, by go_num, by omega, by rw [HS.out]; simp, by rw [HS.out]; omega⟩
        case measure => simp [intOf]; omega
      · have hm' : ¬ (m : Int) < 1099511627776 := by omega
        have HM : Hid (m = num s.data.toList ∨ far ≤ m ∧ m ≤ num s.data.toList) := Lib.hid (.inr ⟨by rw [HF.out]; omega, hle⟩)
        have HM2 : Hid (m ≤ 10 * far + 9) := Lib.hid (by rw [HF.out]; omega)
        have hw1 : IntKind.i64.wrap (-(m : Int)) = -(m : Int) := IntWalk.i64_in _ (by omega)
        have hdm : decide ((m : Int) < 1099511627776) = false := decide_eq_false hm'
        cases bw with
        | true =>
          go_wp2
          go_ret
          exact ⟨_, (HE.out m HM.out HM2.out).1 (by simp), rfl, rfl⟩
        | false =>
          go_wp2
          go_ret
          exact ⟨_, (HE.out m HM.out HM2.out).2 (by simp), rfl, rfl⟩
    · obtain rfl : k = s.size := by omega
      have HM : Hid (num (s.data.toList.take s.size) = num s.data.toList ∨ far ≤ num (s.data.toList.take s.size) ∧ num (s.data.toList.take s.size) ≤ num s.data.toList) := Lib.hid (.inl HT.out)
      have HM2 : Hid (num (s.data.toList.take s.size) ≤ 10 * far + 9) := Lib.hid (by rw [HF.out]; omega)
      generalize num (s.data.toList.take s.size) = m at *
      have hw1 : IntKind.i64.wrap (-(m : Int)) = -(m : Int) := IntWalk.i64_in _ (by omega)
      clear HT
      cases bw with
      | true =>
        go_wp2
        go_ret
        exact ⟨_, (HE.out m HM.out HM2.out).1 (by simp), rfl, rfl⟩
      | false =>
        go_wp2
        go_ret
        exact ⟨_, (HE.out m HM.out HM2.out).2 (by simp), rfl, rfl⟩

/-- A worth as the program holds it. -/
def textD (n : Num) : List UInt8 := if n.digits = [] then [48] else n.digits
def numV (n : Num) : Value := .agg #[.bool n.neg, bl (textD n), .int .i64 n.exp]
def ValEnd (p : Pt) (w : World) (e : Ending) (w' : World) : Prop := ∃ P, PowOk far p P ∧ e = .returned (numV (valP p P)) ∧ Below w.heap.size w w'
end Go.Proofs.YtgcpgieojckheaaGreatDoor
