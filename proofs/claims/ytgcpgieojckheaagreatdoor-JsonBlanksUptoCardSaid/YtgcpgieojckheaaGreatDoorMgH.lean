/-
  readWhole; run; power.
  power; value.
  value; read.
  read.
-/
import Derived.Test.YtgcpgieojckheaaGreatDoorMgE
import Derived.Test.YtgcpgieojckheaaGreatDoorMgG
namespace Go.Proofs.YtgcpgieojckheaaGreatDoor
open Go.RowKit Go.Shelf

theorem read_whole (w : World) (b : Nat) (p : PS) (h : PAt w b p) (hz : p.rest.length ≤ 1000000000) : Calls Tryz.prog 158 #[.pointer (some ⟨b, 0, none⟩)] w (Stg b 1 p w) := by
  have ht := takeDigits_any w b p h hz
  have hmf := mf
  have hlen := past_len p.rest
  cases hd : digs p.rest with
  | nil =>
    rw [hd] at ht
    have HF : Hid (fin 8 { p with rest := past p.rest, whole := [] } = fin 1 p) := Lib.hid (by simp [fin, finWhole, hd, wholeOk])
    generalize past p.rest = r at *
    clear h hd hz
    go_enter Tryz.func158, Tryz.ntmps158
    go_wp2_with fail
    refine ht.mono ?_
    rintro e w1 ⟨rfl, h1, o1⟩
    obtain ⟨_, _, x, _⟩ := h1.cells
    have z := h1.live 2
    have f := fun v => World.cell?_setCell_same w1 ⟨b, 2, none⟩ v x
    have HQ : Hid (PAt (w1.setCell ⟨b, 2, none⟩ (bl [])) b { p with rest := r, whole := [] }) := Lib.hid (h1.set 2 _ rfl)
    have HO := Lib.hid (o1.trans (Only.set b w1 2 (bl [])))
    clear h1 o1 ht
    unfold bl at *
    go_wp2
    go_ret
    exact ⟨8, { p with rest := r, whole := [] }, by omega, by omega, rfl, HF.out, hlen, HQ.out, HO.out⟩
  | cons a l =>
    rw [hd] at ht
    have he : (⟨(a :: l).toArray⟩ : ByteArray).toList.isEmpty = false := mk_empty_no (a := a) (r := l) (by simp)
    obtain ⟨s, hs⟩ : ∃ s : ByteArray, (⟨(a :: l).toArray⟩ : ByteArray) = s := ⟨_, rfl⟩
    have hsl : s.data.toList = a :: l := by rw [← hs]
    obtain ⟨h0, ha, hsz⟩ := mk_first hsl
    rw [hs] at he
    by_cases h48 : a = 48
    · have hc : (((s[0]'h0).toNat : Int) == 48) = true := by rw [ha, h48]; rfl
      by_cases hl : l = []
      · have HF : Hid (fin 2 { p with rest := past p.rest, whole := a :: l } = fin 1 p) := Lib.hid (by simp [fin, finWhole, hd, wholeOk, hl])
        have hsz' : decide ((1 : Int) < (s.size : Int)) = false := by rw [hsz, hl]; rfl
        generalize past p.rest = r at *
        clear h hd hz hsl ha hsz h48 hl
        go_enter Tryz.func158, Tryz.ntmps158
        go_wp2_with fail
        refine ht.mono ?_
        rintro e w1 ⟨rfl, h1, o1⟩
        obtain ⟨_, _, x, _⟩ := h1.cells
        have z := h1.live 2
        have HQ : Hid (PAt (w1.setCell ⟨b, 2, none⟩ (bl (a :: l))) b { p with rest := r, whole := a :: l }) := Lib.hid (h1.set 2 _ rfl)
        have HO := Lib.hid (o1.trans (Only.set b w1 2 (bl (a :: l))))
        clear h1 o1 ht
        unfold bl at *
        rw [hs] at HQ HO ⊢
        clear hs
        have f := World.cell?_setCell_same w1 ⟨b, 2, none⟩ (.string s) x
        go_wp2
        go_ret
        exact ⟨2, { p with rest := r, whole := a :: l }, by omega, by omega, rfl, HF.out, hlen, HQ.out, HO.out⟩
      · have HF : Hid (fin 8 { p with rest := past p.rest, whole := a :: l } = fin 1 p) := Lib.hid (by simp [fin, finWhole, hd, wholeOk, hl, h48])
        have hsz' : decide ((1 : Int) < (s.size : Int)) = true := by
          cases l with
          | nil => exact absurd rfl hl
          | cons d r => rw [hsz]; simp; omega
        generalize past p.rest = r at *
        clear h hd hz hsl ha hsz h48 hl
        go_enter Tryz.func158, Tryz.ntmps158
        go_wp2_with fail
        refine ht.mono ?_
        rintro e w1 ⟨rfl, h1, o1⟩
        obtain ⟨_, _, x, _⟩ := h1.cells
        have z := h1.live 2
        have HQ : Hid (PAt (w1.setCell ⟨b, 2, none⟩ (bl (a :: l))) b { p with rest := r, whole := a :: l }) := Lib.hid (h1.set 2 _ rfl)
        have HO := Lib.hid (o1.trans (Only.set b w1 2 (bl (a :: l))))
        clear h1 o1 ht
        unfold bl at *
        rw [hs] at HQ HO ⊢
        clear hs
        have f := World.cell?_setCell_same w1 ⟨b, 2, none⟩ (.string s) x
        go_wp2
        go_ret
        exact ⟨8, { p with rest := r, whole := a :: l }, by omega, by omega, rfl, HF.out, hlen, HQ.out, HO.out⟩
    · have HF : Hid (fin 2 { p with rest := past p.rest, whole := a :: l } = fin 1 p) := Lib.hid (by simp [fin, finWhole, hd, wholeOk, h48])
      have hc : (((s[0]'h0).toNat : Int) == 48) = false := by
        rw [ha]
        have : a.toNat ≠ 48 := fun e => h48 (UInt8.toNat_inj.1 e)
        simp; omega
      generalize past p.rest = r at *
      clear h hd hz hsl ha hsz h48
      go_enter Tryz.func158, Tryz.ntmps158
      go_wp2_with fail
      refine ht.mono ?_
      rintro e w1 ⟨rfl, h1, o1⟩
      obtain ⟨_, _, x, _⟩ := h1.cells
      have z := h1.live 2
      have HQ : Hid (PAt (w1.setCell ⟨b, 2, none⟩ (bl (a :: l))) b { p with rest := r, whole := a :: l }) := Lib.hid (h1.set 2 _ rfl)
      have HO := Lib.hid (o1.trans (Only.set b w1 2 (bl (a :: l))))
      clear h1 o1 ht
      unfold bl at *
      rw [hs] at HQ HO ⊢
      clear hs
      have f := World.cell?_setCell_same w1 ⟨b, 2, none⟩ (.string s) x
      go_wp2
      go_ret
      exact ⟨2, { p with rest := r, whole := a :: l }, by omega, by omega, rfl, HF.out, hlen, HQ.out, HO.out⟩

theorem run_neq_func (fn : Fn) (a b : Array Value) (w : World) : (binOp .neq 135 (.func fn a b) .nilFunc).run Tryz.prog w = .ok (.bool true) w := by kernel_rfl
theorem run_neq_nil (w : World) : (binOp .neq 135 .nilFunc .nilFunc).run Tryz.prog w = .ok (.bool false) w := by kernel_rfl
/-- A state's number. -/
def stN : Value → Nat
  | .func (.func 114) _ _ => 0
  | .func (.func 158) _ _ => 1
  | .func (.func 196) _ _ => 2
  | .func (.func 211) _ _ => 3
  | .func (.func 212) _ _ => 4
  | .func (.func 220) _ _ => 5
  | .func (.func 227) _ _ => 6
  | .func (.func 221) _ _ => 7
  | _ => 8
theorem stN_stV (b j : Nat) (hj : j ≤ 8) : stN (stV b j) = j := by
  match j, hj with
  | 0, _ => rfl
  | 1, _ => rfl
  | 2, _ => rfl
  | 3, _ => rfl
  | 4, _ => rfl
  | 5, _ => rfl
  | 6, _ => rfl
  | 7, _ => rfl
  | 8, _ => rfl
def RunRel (b : Nat) (p : PS) (R : PS) (w : World) (v : Value) (wr : World) : Prop :=
  ∃ j q, j ≤ 8 ∧ v = stV b j ∧ fin j q = R ∧ q.rest.length ≤ p.rest.length ∧ PAt wr b q ∧ Only b w wr
theorem run_rel {b k : Nat} {p q R : PS} {w wr w1 : World} {e : Ending} (hf : fin k q = R) (hl : q.rest.length ≤ p.rest.length) (ho : Only b w wr) (hk : k ≤ 8) (h : Stg b k q wr e w1) :
    ∃ v, e = .returned v ∧ RunRel b p R w v w1 ∧ 8 - stN v < 8 - k := by
  obtain ⟨j2, q2, hlt2, hj2, rfl, hf2, hl2, hq2, ho2⟩ := h
  exact ⟨_, rfl, ⟨j2, q2, hj2, rfl, by rw [hf2, hf], Nat.le_trans hl2 hl, hq2, ho.trans ho2⟩, by rw [stN_stV b j2 hj2]; omega⟩
set_option maxHeartbeats 2000000 in
theorem run_any (w : World) (b : Nat) (p : PS) (h : PAt w b p) (hz : p.rest.length ≤ 1000000000) :
    Calls Tryz.prog 77 #[.pointer (some ⟨b, 0, none⟩)] w fun e w' => e = .returned (.bool (fin 0 p).done) ∧ PAt w' b (fin 0 p) ∧ Only b w w' := by
  have hmf := mf
  have hn1 := run_neq_func
  have hn0 := run_neq_nil
  have HS : Hid (RunRel b p (fin 0 p) w (stV b 0) w) := Lib.hid ⟨0, p, by omega, rfl, rfl, Nat.le_refl _, h, Only.refl _ _⟩
  have HZ := Lib.hid hz
  clear h hz
  generalize fin 0 p = R at *
  go_enter Tryz.func77, Tryz.ntmps77
  go_wp2
  go_loopw [3] (fun v wr => RunRel b p R w v wr) (fun v _ => 8 - stN v)
  case atStart => exact HS.out
  case round =>
    obtain ⟨j, q, hj, rfl, hf, hl, hq, ho⟩ := hrel
    have HO := Lib.hid ho
    have HFF := Lib.hid hf
    clear ho hf
    by_cases j0 : j = 0
    · subst j0
      have hc := read_sign wr b q hq
      clear hq hj
      unfold stV
      go_wp2_with fail
      refine hc.mono ?_
      intro e w1 hs
      obtain ⟨v2, rfl, hr, hm⟩ := run_rel HFF.out hl HO.out (by omega) hs
      have HR := Lib.hid hr
      have HM := Lib.hid hm
      clear hc hs hr hm
      go_wp2
      go_roundw
      case rel => exact HR.out
      case measure => exact HM.out
    by_cases j1 : j = 1
    · subst j1
      have hc := read_whole wr b q hq (Nat.le_trans hl HZ.out)
      clear hq hj
      unfold stV
      go_wp2_with fail
      refine hc.mono ?_
      intro e w1 hs
      obtain ⟨v2, rfl, hr, hm⟩ := run_rel HFF.out hl HO.out (by omega) hs
      have HR := Lib.hid hr
      have HM := Lib.hid hm
      clear hc hs hr hm
      go_wp2
      go_roundw
      case rel => exact HR.out
      case measure => exact HM.out
    by_cases j2 : j = 2
    · subst j2
      have hc := read_point wr b q hq
      clear hq hj
      unfold stV
      go_wp2_with fail
      refine hc.mono ?_
      intro e w1 hs
      obtain ⟨v2, rfl, hr, hm⟩ := run_rel HFF.out hl HO.out (by omega) hs
      have HR := Lib.hid hr
      have HM := Lib.hid hm
      clear hc hs hr hm
      go_wp2
      go_roundw
      case rel => exact HR.out
      case measure => exact HM.out
    by_cases j3 : j = 3
    · subst j3
      have hc := read_fraction wr b q hq (Nat.le_trans hl HZ.out)
      clear hq hj
      unfold stV
      go_wp2_with fail
      refine hc.mono ?_
      intro e w1 hs
      obtain ⟨v2, rfl, hr, hm⟩ := run_rel HFF.out hl HO.out (by omega) hs
      have HR := Lib.hid hr
      have HM := Lib.hid hm
      clear hc hs hr hm
      go_wp2
      go_roundw
      case rel => exact HR.out
      case measure => exact HM.out
    by_cases j4 : j = 4
    · subst j4
      have hc := read_mark wr b q hq
      clear hq hj
      unfold stV
      go_wp2_with fail
      refine hc.mono ?_
      intro e w1 hs
      obtain ⟨v2, rfl, hr, hm⟩ := run_rel HFF.out hl HO.out (by omega) hs
      have HR := Lib.hid hr
      have HM := Lib.hid hm
      clear hc hs hr hm
      go_wp2
      go_roundw
      case rel => exact HR.out
      case measure => exact HM.out
    by_cases j5 : j = 5
    · subst j5
      have hc := read_exponentSign wr b q hq
      clear hq hj
      unfold stV
      go_wp2_with fail
      refine hc.mono ?_
      intro e w1 hs
      obtain ⟨v2, rfl, hr, hm⟩ := run_rel HFF.out hl HO.out (by omega) hs
      have HR := Lib.hid hr
      have HM := Lib.hid hm
      clear hc hs hr hm
      go_wp2
      go_roundw
      case rel => exact HR.out
      case measure => exact HM.out
    by_cases j6 : j = 6
    · subst j6
      have hc := read_exponent wr b q hq (Nat.le_trans hl HZ.out)
      clear hq hj
      unfold stV
      go_wp2_with fail
      refine hc.mono ?_
      intro e w1 hs
      obtain ⟨v2, rfl, hr, hm⟩ := run_rel HFF.out hl HO.out (by omega) hs
      have HR := Lib.hid hr
      have HM := Lib.hid hm
      clear hc hs hr hm
      go_wp2
      go_roundw
      case rel => exact HR.out
      case measure => exact HM.out
    by_cases j7 : j = 7
    · subst j7
      have hc := read_end wr b q hq
      clear hq hj
      unfold stV
      go_wp2_with fail
      refine hc.mono ?_
      intro e w1 hs
      obtain ⟨v2, rfl, hr, hm⟩ := run_rel HFF.out hl HO.out (by omega) hs
      have HR := Lib.hid hr
      have HM := Lib.hid hm
      clear hc hs hr hm
      go_wp2
      go_roundw
      case rel => exact HR.out
      case measure => exact HM.out
    obtain rfl : j = 8 := by omega
    have HQ : Hid (PAt wr b R) := Lib.hid (by rw [← HFF.out]; exact hq)
    obtain ⟨_, _, _, _, _, _, x6⟩ := HQ.out.cells
    unfold stV
    clear hq j0 j1 j2 j3 j4 j5 j6 j7
    go_wp2
    go_ret
    exact ⟨rfl, HQ.out, HO.out⟩
end Go.Proofs.YtgcpgieojckheaaGreatDoor
namespace Go.Proofs.YtgcpgieojckheaaGreatDoor
open Go.RowKit Go.Shelf

theorem parse_exp_dig {l : List UInt8} {p : Pt} (h : parseR l = some p) : ∀ c ∈ p.exp, isDig c = true := by
  unfold parseR at h
  simp only at h
  split at h
  · split at h
    · cases h
    · rename_i f l3 hf
      split at h
      · cases h
      · rename_i b e l4 he
        split at h
        · simp only [Option.some.injEq] at h
          subst h
          simp only
          unfold expOf at he
          split at he
          · split at he
            · split at he
              · cases he
              · simp only [Option.some.injEq, Prod.mk.injEq] at he
                rw [← he.2.1]; exact digs_dig _
            · simp only [Option.some.injEq, Prod.mk.injEq] at he
              rw [← he.2.1]; simp
          · simp only [Option.some.injEq, Prod.mk.injEq] at he
            rw [← he.2.1]; simp
        · cases h
  · cases h
/-- The bound up to which a power is read. -/
def far : Nat := 1099511627776
theorem far_eq : far = 1099511627776 := rfl
def PowEnd (B : Nat) (p : Pt) (w : World) (e : Ending) (w' : World) : Prop := ∃ P, PowOk B p P ∧ e = .returned (.int .i64 P) ∧ w = w'
theorem pow_below {B : Nat} {p : Pt} (hb : p.below = true) (n : Nat) (h : (n = num p.exp) ∨ (B ≤ n ∧ n ≤ num p.exp)) (hn : n ≤ 10 * B + 9) : PowOk B p (-(n : Int)) := by
  by_cases hx : num p.exp < B
  · left
    refine ⟨hx, ?_⟩
    have : n = num p.exp := by omega
    rw [this]; unfold powerR; rw [if_pos hb]
  · right
    exact ⟨by omega, fun _ => by omega, fun h => by rw [hb] at h; cases h⟩
theorem pow_above {B : Nat} {p : Pt} (hb : p.below = false) (n : Nat) (h : (n = num p.exp) ∨ (B ≤ n ∧ n ≤ num p.exp)) (hn : n ≤ 10 * B + 9) : PowOk B p (n : Int) := by
  by_cases hx : num p.exp < B
  · left
    refine ⟨hx, ?_⟩
    have : n = num p.exp := by omega
    rw [this]; unfold powerR; rw [hb]; rfl
  · right
    exact ⟨by omega, (fun h => by rw [hb] at h; cases h), fun _ => by omega⟩
theorem dig_sub {c : UInt8} (h : isDig c = true) : IntKind.u8.wrap ((c.toNat : Int) - 48) = ((c.toNat - 48 : Nat) : Int) := by
  have := isDig_iff.1 h
  rw [IntKind.wrap_u8]; omega
set_option maxHeartbeats 1000000 in
theorem power_any (w : World) (b : Nat) (p : PS) (h : PAt w b p) (hd : ∀ c ∈ p.exp, isDig c = true) (hl : p.exp.length ≤ 1000000000) :
    Calls Tryz.prog 117 #[.pointer (some ⟨b, 0, none⟩)] w (PowEnd far (ptOf p) w) := by
  obtain ⟨_, _, _, _, x4, x5, _⟩ := h.cells
  obtain ⟨s, hs⟩ : ∃ s : ByteArray, (⟨p.exp.toArray⟩ : ByteArray) = s := ⟨_, rfl⟩
  have hsl : s.data.toList = p.exp := by rw [← hs]
  have hsz : s.size = p.exp.length := by rw [Lib.size_eq, hsl]
  unfold bl at x5
  rw [hs] at x5
  have hs1 : s.size ≤ 1000000000 := by omega
  have HE : Hid (∀ n : Nat, (n = num s.data.toList ∨ (far ≤ n ∧ n ≤ num s.data.toList)) → n ≤ 10 * far + 9 → (p.below = true → PowOk far (ptOf p) (-(n : Int))) ∧ (p.below = false → PowOk far (ptOf p) (n : Int))) := Lib.hid fun n h1 h2 =>
    ⟨fun hb => pow_below (p := ptOf p) hb n (by rw [hsl] at h1; exact h1) h2, fun hb => pow_above (p := ptOf p) hb n (by rw [hsl] at h1; exact h1) h2⟩
  have HD : Hid (∀ (k : Nat) (hk : k < s.size), isDig (s[k]'hk) = true ∧ num (s.data.toList.take (k + 1)) = num (s.data.toList.take k) * 10 + ((s[k]'hk).toNat - 48)) := Lib.hid fun k hk => by
    have hk' : k < s.data.toList.length := by rw [← Lib.size_eq]; exact hk
    have e : s.data.toList[k] = s[k]'hk := rfl
    refine ⟨?_, ?_⟩
    · rw [← e]; exact hd _ (by rw [← hsl]; exact List.getElem_mem _)
    · rw [num_take _ k hk', e]
  have HN : Hid (∀ k, num (s.data.toList.take k) ≤ num s.data.toList) := Lib.hid fun k => num_take_le _ k
  have HT : Hid (num (s.data.toList.take s.size) = num s.data.toList) := Lib.hid (by rw [List.take_of_length_le (by rw [← Lib.size_eq]; exact Nat.le_refl _)])
  have hfar : far = 1099511627776 := far_eq
  have HF := Lib.hid hfar
  clear h hd hl hs hsl hsz hfar
  generalize ptOf p = pt at *
  generalize p.below = bw at *
  go_enter Tryz.func117, Tryz.ntmps117
  go_wp2
  go_loop [3, 4] (fun n i => ∃ k : Nat, i = .int .i64 k ∧ k ≤ s.size ∧ n = .int .i64 (num (s.data.toList.take k) : Nat) ∧ num (s.data.toList.take k) ≤ 10995116277769) (fun _ i => s.size - (intOf i).toNat)
  case atStart => exact ⟨0, rfl, Nat.zero_le _, rfl, by simp [num]⟩
  case round =>
    obtain ⟨k, rfl, hk, rfl, hn⟩ := hrel
    have hle := HN.out k
    by_cases hlt : k < s.size
    · have hlt' : (k : Int) < (s.size : Int) := by omega
      obtain ⟨hdg, hstep⟩ := HD.out k hlt
      have hsub := dig_sub hdg
      have hd9 := (isDig_iff.1 hdg).2
      have HS := Lib.hid hstep
      clear hdg hstep
      generalize num (s.data.toList.take k) = m at *
      by_cases hm : m < 1099511627776
      · have hm' : (m : Int) < 1099511627776 := by omega
        have hw1 : IntKind.i64.wrap ((m : Int) * 10) = (m : Int) * 10 := IntWalk.i64_in _ (by omega)
        have hw2 : IntKind.i64.wrap ((((s[k]'hlt).toNat - 48 : Nat) : Int)) = (((s[k]'hlt).toNat - 48 : Nat) : Int) := IntWalk.i64_in _ (by omega)
        have hw3 : IntKind.i64.wrap ((m : Int) * 10 + (((s[k]'hlt).toNat - 48 : Nat) : Int)) = (m : Int) * 10 + (((s[k]'hlt).toNat - 48 : Nat) : Int) := IntWalk.i64_in _ (by omega)
        go_wp2
        go_round
        case rel => exact ⟨k + 1, by go_num, by omega, by rw [HS.out]; simp, by rw [HS.out]; omega⟩
        case measure => simp [intOf]; omega
      · have hm' : ¬ (m : Int) < 1099511627776 := by omega
        have HM : Hid (m = num s.data.toList ∨ far ≤ m ∧ m ≤ num s.data.toList) := Lib.hid (.inr ⟨by rw [HF.out]; omega, hle⟩)
        have HM2 : Hid (m ≤ 10 * far + 9) := Lib.hid (by rw [HF.out]; omega)
        have hw1 : IntKind.i64.wrap (-(m : Int)) = -(m : Int) := IntWalk.i64_in _ (by omega)
        have hdm : decide ((m : Int) < 1099511627776) = false := decide_eq_false hm'
        cases bw with
        | true =>
          go_wp2
          go_ret
          exact ⟨_, (HE.out m HM.out HM2.out).1 (by simp), rfl, rfl⟩
        | false =>
          go_wp2
          go_ret
          exact ⟨_, (HE.out m HM.out HM2.out).2 (by simp), rfl, rfl⟩
    · obtain rfl : k = s.size := by omega
      have HM : Hid (num (s.data.toList.take s.size) = num s.data.toList ∨ far ≤ num (s.data.toList.take s.size) ∧ num (s.data.toList.take s.size) ≤ num s.data.toList) := Lib.hid (.inl HT.out)
      have HM2 : Hid (num (s.data.toList.take s.size) ≤ 10 * far + 9) := Lib.hid (by rw [HF.out]; omega)
      generalize num (s.data.toList.take s.size) = m at *
      have hw1 : IntKind.i64.wrap (-(m : Int)) = -(m : Int) := IntWalk.i64_in _ (by omega)
      clear HT
      cases bw with
      | true =>
        go_wp2
        go_ret
        exact ⟨_, (HE.out m HM.out HM2.out).1 (by simp), rfl, rfl⟩
      | false =>
        go_wp2
        go_ret
        exact ⟨_, (HE.out m HM.out HM2.out).2 (by simp), rfl, rfl⟩

/-- A worth as the program holds it. -/
def textD (n : Num) : List UInt8 := if n.digits = [] then [48] else n.digits
def numV (n : Num) : Value := .agg #[.bool n.neg, bl (textD n), .int .i64 n.exp]
def ValEnd (p : Pt) (w : World) (e : Ending) (w' : World) : Prop := ∃ P, PowOk far p P ∧ e = .returned (numV (valP p P)) ∧ Below w.heap.size w w'
end Go.Proofs.YtgcpgieojckheaaGreatDoor
namespace Go.Proofs.YtgcpgieojckheaaGreatDoor
open Go.RowKit Go.Shelf

theorem gcall {w X V : World} (h : Below w.heap.size w X) (hb : Below X.heap.size X V) : Below w.heap.size w V := h.trans (hb.mono h.size)
theorem galloc {w W : World} (h : Below w.heap.size w W) (o : Obj) : Below w.heap.size w (W.alloc o) := h.alloc h.size o
theorem gset {w W : World} (h : Below w.heap.size w W) {C : Nat} (hC : w.heap.size ≤ C) (o : Nat) (v : Value) : Below w.heap.size w (W.setCell ⟨C, o, none⟩ v) := h.setCell (p := ⟨C, o, none⟩) hC _
theorem gdraw {w W : World} (h : Below w.heap.size w W) (n : Nat) : Below w.heap.size w (W.drewN n) := ⟨h.os, h.tape, h.output, h.size, h.block⟩
theorem far3 {W : World} {b C o : Nat} {v x y z : Value} (hn : b ≠ C) (h : W.cell? ⟨b, o, none⟩ = some v) : (((W.setCell ⟨C, 0, none⟩ x).setCell ⟨C, 1, none⟩ y).setCell ⟨C, 2, none⟩ z).drew.cell? ⟨b, o, none⟩ = some v := by
  have k : ∀ (V : World) (i : Nat) (u : Value), (V.setCell ⟨C, i, none⟩ u).cell? ⟨b, o, none⟩ = V.cell? ⟨b, o, none⟩ := fun V i u => World.cell?_setCell_other _ _ _ _ (by intro e; injection e with e1 _ _; exact hn e1.symm)
  show (((W.setCell ⟨C, 0, none⟩ x).setCell ⟨C, 1, none⟩ y).setCell ⟨C, 2, none⟩ z).cell? ⟨b, o, none⟩ = some v
  rw [k, k, k]; exact h
theorem set3 {W : World} {C : Nat} {t : TypeId} {a b c x y z : Value} (h : W.heap[C]? = some (.cells #[a, b, c] t (0, 0))) : (((W.setCell ⟨C, 0, none⟩ x).setCell ⟨C, 1, none⟩ y).setCell ⟨C, 2, none⟩ z).drew.heap[C]? = some (.cells #[x, y, z] t (0, 0)) :=
  heap_setCell_same _ _ _ _ _ z (heap_setCell_same _ _ _ _ _ y (heap_setCell_same _ _ _ _ _ x h))
theorem pow_ex (B : Nat) (p : Pt) : ∃ P, PowOk B p P := by
  cases hb : p.below with
  | true => exact ⟨_, pow_below hb (if num p.exp < B then num p.exp else B) (by split <;> omega) (by split <;> omega)⟩
  | false => exact ⟨_, pow_above hb (if num p.exp < B then num p.exp else B) (by split <;> omega) (by split <;> omega)⟩
theorem cells3 {w : World} {b : Nat} {x y z : Value} {t : TypeId} (h : w.heap[b]? = some (.cells #[x, y, z] t (0, 0))) :
    w.cell? ⟨b, 0, none⟩ = some x ∧ w.cell? ⟨b, 1, none⟩ = some y ∧ w.cell? ⟨b, 2, none⟩ = some z ∧ ∀ o, w.frozen? ⟨b, o, none⟩ = false :=
  ⟨by rw [cellH h]; rfl, by rw [cellH h]; rfl, by rw [cellH h]; rfl, fun o => Lib.frozen_of_heap h o⟩
theorem bcell {W w1 : World} (hb : Below W.heap.size W w1) : (∀ b o, b < W.heap.size → w1.cell? ⟨b, o, none⟩ = W.cell? ⟨b, o, none⟩) ∧ (∀ b o, b < W.heap.size → w1.frozen? ⟨b, o, none⟩ = W.frozen? ⟨b, o, none⟩) :=
  ⟨fun b o h => hb.cell (p := ⟨b, o, none⟩) h, fun b o h => hb.frozen (p := ⟨b, o, none⟩) h⟩
theorem PAt.below {w w' : World} {n b : Nat} {p : PS} (h : PAt w b p) (hb : Below n w w') (hn : b < n) : PAt w' b p := (hb.block b hn).trans h
set_option maxHeartbeats 1000000 in
theorem value_any (w : World) (b : Nat) (p : PS) (h : PAt w b p) (hd : ∀ c ∈ p.exp, isDig c = true) (hl : p.exp.length ≤ 1000000000) (hl1 : p.whole.length ≤ 1000000000) (hl2 : p.frac.length ≤ 1000000000) :
    Calls Tryz.prog 78 #[.pointer (some ⟨b, 0, none⟩)] w (ValEnd (ptOf p) w) := by
  obtain ⟨_, x1, x2, x3, _⟩ := h.cells
  obtain ⟨s1, hs1⟩ : ∃ s : ByteArray, (⟨p.whole.toArray⟩ : ByteArray) = s := ⟨_, rfl⟩
  obtain ⟨s2, hs2⟩ : ∃ s : ByteArray, (⟨p.frac.toArray⟩ : ByteArray) = s := ⟨_, rfl⟩
  have e1 : s1.data.toList = p.whole := by rw [← hs1]
  have e2 : s2.data.toList = p.frac := by rw [← hs2]
  have z1 : s1.size ≤ 1000000000 := by rw [Lib.size_eq, e1]; exact hl1
  have z2 : s2.size ≤ 1000000000 := by rw [Lib.size_eq, e2]; exact hl2
  unfold bl at x2 x3
  rw [hs1] at x2
  rw [hs2] at x3
  have e12 : (s1 ++ s2).data.toList = p.whole ++ p.frac := by rw [ByteArray.data_append, Array.toList_append, e1, e2]
  have HP : Hid (PAt w b p) := Lib.hid h
  have hbw := h.lt
  have HC := Lib.hid (fun (W : World) (hb : Below w.heap.size w W) => power_any W b p (h.below hb hbw) hd hl)
  have hL := fun W => Tryz.strings_TrimLeft_one (s1 ++ s2) 48 (by decide) W
  rw [e12, trimL_lib] at hL
  obtain ⟨A, hA⟩ : ∃ s : ByteArray, (⟨(trimL (p.whole ++ p.frac)).toArray⟩ : ByteArray) = s := ⟨_, rfl⟩
  have eA : A.data.toList = trimL (p.whole ++ p.frac) := by rw [← hA]
  have zA : A.size ≤ 2000000000 := by
    rw [Lib.size_eq, eA]
    have := trimL_len (p.whole ++ p.frac)
    rw [List.length_append] at this; omega
  rw [hA] at hL
  have hR := fun W => Tryz.strings_TrimRight_one A 48 (by decide) W (by omega)
  rw [trimR_lib, eA] at hR
  obtain ⟨D, hD⟩ : ∃ s : ByteArray, (⟨(trimR (trimL (p.whole ++ p.frac))).toArray⟩ : ByteArray) = s := ⟨_, rfl⟩
  have eD : D.data.toList = trimR (trimL (p.whole ++ p.frac)) := by rw [← hD]
  have zD : D.size ≤ A.size := by
    rw [Lib.size_eq, eD, Lib.size_eq, eA]
    exact trimR_len _
  rw [hD] at hR
  have hemp := D.data.toList
  by_cases h0 : trimR (trimL (p.whole ++ p.frac)) = []
  · have hz : D.toList.isEmpty = true := mk_empty_yes (by rw [eD, h0])
    have HV : Hid (∀ P, numV (valP (ptOf p) P) = .agg #[.bool false, .string ⟨#[48]⟩, .int .i64 0]) := Lib.hid fun P => by
      have : valP (ptOf p) P = Num.zero := by unfold valP ptOf; simp only; rw [if_pos h0]
      rw [this]; rfl
    clear h hd hl hl1 hl2 hs1 hs2 e1 e2 e12 hA eA hD eD h0
    obtain ⟨P, hP⟩ := pow_ex far (ptOf p)
    have HPP := Lib.hid hP
    clear hP hemp
    go_enter Tryz.func78, Tryz.ntmps78
    go_wp2
    go_quiet ((go_at_call 115; exact Calls.quiet_of_same (hL _)))
    go_wp2_with fail
    refine (hR _).mono ?_
    rintro e w1 ⟨rfl, rfl⟩
    go_wp2
    exact bodyPost_ret (v := .agg #[.bool false, .string ⟨#[48]⟩, .int .i64 0]) (by simp [results, Tryz.results78, go_sem]) rfl ⟨P, HPP.out, by rw [HV.out P], gset (gset (gset (gdraw (galloc (Below.refl _ _) _) _) (Nat.le_refl _) _ _) (Nat.le_refl _) _ _) (Nat.le_refl _) _ _⟩
  · have hne : D.data.toList ≠ [] := by rw [eD]; exact h0
    obtain ⟨c, r, hcr⟩ : ∃ c r, D.data.toList = c :: r := by
      cases hx : D.data.toList with
      | nil => exact absurd hx hne
      | cons c r => exact ⟨c, r, rfl⟩
    have hz : D.toList.isEmpty = false := mk_empty_no hcr
    have HV : Hid (∀ P, numV (valP (ptOf p) P) = .agg #[.bool p.neg, .string D, .int .i64 (P - (s2.size : Int) + ((A.size : Int) - (D.size : Int)))]) := Lib.hid fun P => by
      have l1 := trimR_len (trimL (p.whole ++ p.frac))
      have : valP (ptOf p) P = ⟨p.neg, trimR (trimL (p.whole ++ p.frac)), P - (p.frac.length : Int) + (((trimL (p.whole ++ p.frac)).length - (trimR (trimL (p.whole ++ p.frac))).length : Nat) : Int)⟩ := by
        unfold valP ptOf; simp only; rw [if_neg h0]
      rw [this]
      unfold numV textD
      simp only [if_neg h0]
      unfold bl
      rw [hD, Lib.size_eq, Lib.size_eq, Lib.size_eq, e2, eA, eD]
      rw [Int.ofNat_sub l1]
    clear h hd hl hl1 hl2 hs1 hs2 e1 e2 e12 hA eA hD eD h0 hne hcr hemp
    go_enter Tryz.func78, Tryz.ntmps78
    go_wp2
    go_quiet ((go_at_call 115; exact Calls.quiet_of_same (hL _)))
    have B1 : Below w.heap.size w ((w.alloc (.cells #[.bool false, .string ⟨#[]⟩, .int .i64 0] 68)).drewN nq) := gdraw (galloc (Below.refl _ _) _) _
    have kR : ((w.alloc (.cells #[.bool false, .string ⟨#[]⟩, .int .i64 0] 68)).drewN nq).heap[w.heap.size]? = some (.cells #[.bool false, .string ⟨#[]⟩, .int .i64 0] 68 (0, 0)) := World.alloc_heap_new w _
    generalize (w.alloc (.cells #[.bool false, .string ⟨#[]⟩, .int .i64 0] 68)).drewN nq = W1 at *
    obtain ⟨k0, k1, k2, kf⟩ := cells3 kR
    have KR := Lib.hid kR
    have y1 := (B1.cell (p := ⟨b, 1, none⟩) hbw).trans x1
    have y3 := (B1.cell (p := ⟨b, 3, none⟩) hbw).trans x3
    have HB1 := Lib.hid B1
    have hzW := B1.size
    have hne2 : b ≠ w.heap.size := by omega
    clear B1 kR x1 x2 x3
    go_wp2_with fail
    refine (hR _).mono ?_
    rintro e w1 ⟨rfl, rfl⟩
    go_wp2
    go_region_held3 (fun u => u.cell? ⟨b, 1, none⟩ = some (.bool p.neg) ∧ u.cell? ⟨b, 3, none⟩ = some (.string s2)) (first | exact ⟨y1, y3⟩ | exact ⟨far3 hne2 y1, far3 hne2 y3⟩ | go_keep) (first | (go_at_call 117; (with_reducible refine Calls.mono (HC.out _ HB1.out.drew) ?_); rintro e v1 ⟨P, hP, rfl, rfl⟩; have hr := hP.range; rw [far_eq] at hr; have hw1 : IntKind.i64.wrap (P - ↑s2.size) = P - ↑s2.size := IntWalk.i64_in _ (by omega); have hw2 : IntKind.i64.wrap (P - ↑s2.size + (↑A.size - ↑D.size)) = P - ↑s2.size + (↑A.size - ↑D.size) := IntWalk.i64_in _ (by omega)))
    have hF := set3 (x := .bool p.neg) (y := .string D) (z := .int .i64 (P - ↑s2.size + (↑A.size - ↑D.size))) KR.out
    have hB2 := (gset (gset (gset HB1.out (Nat.le_refl _) 0 (.bool p.neg)) (Nat.le_refl _) 1 (.string D)) (Nat.le_refl _) 2 (.int .i64 (P - ↑s2.size + (↑A.size - ↑D.size)))).drew
    have HP2 := Lib.hid hP
    clear k0 k1 k2 kf y1 y3 hP
    obtain ⟨W2, hW2⟩ : ∃ W, (((w1.setCell ⟨w.heap.size, 0, none⟩ (.bool p.neg)).setCell ⟨w.heap.size, 1, none⟩ (.string D)).setCell ⟨w.heap.size, 2, none⟩ (.int .i64 (P - ↑s2.size + (↑A.size - ↑D.size)))).drew = W := ⟨_, rfl⟩
    rw [hW2] at hF hB2 ⊢
    clear hW2
    obtain ⟨k0, k1, k2, kf⟩ := cells3 hF
    have HB2 := Lib.hid hB2
    clear hF hB2
    go_wp2
    exact bodyPost_ret (v := .agg #[.bool p.neg, .string D, .int .i64 (P - ↑s2.size + (↑A.size - ↑D.size))]) (by simp [results, Tryz.results78, go_sem, k0, k1, k2]) rfl ⟨P, HP2.out, by rw [HV.out P], HB2.out⟩
end Go.Proofs.YtgcpgieojckheaaGreatDoor
namespace Go.Proofs.YtgcpgieojckheaaGreatDoor
open Go.RowKit Go.Shelf

theorem digs_len (l : List UInt8) : (digs l).length + (past l).length = l.length := by
  have := congrArg List.length (digs_past l)
  rwa [List.length_append] at this
theorem minus_len (l : List UInt8) : (minusOf l).2.length ≤ l.length := by
  unfold minusOf; split <;> simp
theorem sign_len (l : List UInt8) : (signOf l).2.length ≤ l.length := by
  unfold signOf; split <;> simp
theorem frac_len {l f r : List UInt8} (h : fracOf l = some (f, r)) : f.length + r.length ≤ l.length := by
  unfold fracOf at h
  split at h
  · rename_i q
    split at h
    · cases h
    · simp only [Option.some.injEq, Prod.mk.injEq] at h
      rw [← h.1, ← h.2]
      have := digs_len q
      simp; omega
  · simp only [Option.some.injEq, Prod.mk.injEq] at h
    rw [← h.1, ← h.2]; simp
theorem exp_len {l e r : List UInt8} {b : Bool} (h : expOf l = some (b, e, r)) : e.length ≤ l.length := by
  unfold expOf at h
  split at h
  · rename_i c q
    split at h
    · split at h
      · cases h
      · simp only [Option.some.injEq, Prod.mk.injEq] at h
        rw [← h.2.1]
        have h1 := digs_len (signOf q).2
        have h2 := sign_len q
        simp; omega
    · simp only [Option.some.injEq, Prod.mk.injEq] at h
      rw [← h.2.1]; simp
  · simp only [Option.some.injEq, Prod.mk.injEq] at h
    rw [← h.2.1]; simp
theorem parse_len {l : List UInt8} {p : Pt} (h : parseR l = some p) : p.whole.length ≤ l.length ∧ p.frac.length ≤ l.length ∧ p.exp.length ≤ l.length := by
  unfold parseR at h
  simp only at h
  split at h
  · split at h
    · cases h
    · rename_i f l3 hf
      split at h
      · cases h
      · rename_i b e l4 he
        split at h
        · simp only [Option.some.injEq] at h
          subst h
          have h1 := minus_len l
          have h2 := digs_len (minusOf l).2
          have h3 := frac_len hf
          have h4 := exp_len he
          exact ⟨by simp only; omega, by simp only; omega, by simp only; omega⟩
        · cases h
  · cases h
/-- What is read, as the program holds it. -/
def readV (r : Num × Int) : Value := if r.2 = 0 then numV r.1 else .agg #[.bool false, .string ⟨#[]⟩, .int .i64 0]
def ReadEnd (l : List UInt8) (w : World) (e : Ending) (w' : World) : Prop := e = .returned (.tuple #[readV (readR l), .int .i64 (readR l).2]) ∧ Below w.heap.size w w'
theorem set3a {W : World} {C : Nat} {t : TypeId} {a b c x y z : Value} (h : W.heap[C]? = some (.cells #[a, b, c] t (0, 0))) (o : Obj) : ((((W.setCell ⟨C, 0, none⟩ x).setCell ⟨C, 1, none⟩ y).setCell ⟨C, 2, none⟩ z).alloc o).heap[C]? = some (.cells #[x, y, z] t (0, 0)) := by
  have h1 : (((W.setCell ⟨C, 0, none⟩ x).setCell ⟨C, 1, none⟩ y).setCell ⟨C, 2, none⟩ z).heap[C]? = some (.cells #[x, y, z] t (0, 0)) := heap_setCell_same _ _ _ _ _ z (heap_setCell_same _ _ _ _ _ y (heap_setCell_same _ _ _ _ _ x h))
  exact (Below.heap_alloc _ _ _ (Array.getElem?_eq_some_iff.1 h1).1).trans h1
theorem readR_none {l : List UInt8} (h : parseR l = none) : readR l = (Num.zero, 4) := by unfold readR; rw [h]
theorem read_fin (l : List UInt8) : Ends (fin 0 { rest := l }) (parseR l) := ends_all l
theorem text_len (n : Num) : (200 < (textD n).length) ↔ 200 < n.digits.length := by
  unfold textD
  by_cases h : n.digits = []
  · rw [if_pos h, h]; simp
  · rw [if_neg h]
/-- The last part of read: the worth is told, if it is not too large. -/
def LargeIs (n : Num) (t : ByteArray) (b : Bool) : Prop := (decide ((200 : Int) < (t.size : Int)) || (decide (n.exp < -9999) || decide (9999 < n.exp))) = b
theorem large_is (n : Num) (t : ByteArray) (h : t.data.toList = textD n) : LargeIs n t (tooLarge n) := by
  unfold LargeIs tooLarge
  have e : (200 < t.size) ↔ 200 < n.digits.length := by rw [Lib.size_eq, h]; exact text_len n
  have e2 : decide ((200 : Int) < (t.size : Int)) = decide (200 < n.digits.length) := by
    rw [decide_eq_decide, ← e]; omega
  rw [e2]
set_option maxHeartbeats 2000000 in
theorem read_any (s : ByteArray) (w : World) (hs : s.size ≤ 1000000000) : Calls Tryz.prog 44 #[.string s] w (ReadEnd s.data.toList w) := by
  have hl : s.data.toList.length ≤ 1000000000 := by rw [← Lib.size_eq]; exact hs
  obtain ⟨l, hsl⟩ : ∃ l, s.data.toList = l := ⟨_, rfl⟩
  have hss : (⟨l.toArray⟩ : ByteArray) = s := by rw [← hsl]
  have hE := Lib.hid (read_fin l)
  have hrun := fun (W : World) (b : Nat) (h : PAt W b { rest := l }) => run_any W b { rest := l } h (by rw [hsl] at hl; exact hl)
  rw [hsl] at hl ⊢
  have HL := Lib.hid hl
  have HSS := Lib.hid hss
  clear hss hsl hl hs
  generalize fin 0 { rest := l } = R at *
  go_enter Tryz.func44, Tryz.ntmps44
  go_wp2_with fail
  have B1 : Below w.heap.size w ((w.alloc (.cells #[.bool false, .string ⟨#[]⟩, .int .i64 0] 68)).alloc (.cells #[.string s, .bool false, .string ⟨#[]⟩, .string ⟨#[]⟩, .bool false, .string ⟨#[]⟩, .bool false] 107)) := galloc (galloc (Below.refl _ _) _) _
  have kR : ((w.alloc (.cells #[.bool false, .string ⟨#[]⟩, .int .i64 0] 68)).alloc (.cells #[.string s, .bool false, .string ⟨#[]⟩, .string ⟨#[]⟩, .bool false, .string ⟨#[]⟩, .bool false] 107)).heap[w.heap.size]? = some (.cells #[.bool false, .string ⟨#[]⟩, .int .i64 0] 68 (0, 0)) :=
    (Below.heap_alloc _ _ _ (by simp)).trans (World.alloc_heap_new w _)
  have kP : PAt ((w.alloc (.cells #[.bool false, .string ⟨#[]⟩, .int .i64 0] 68)).alloc (.cells #[.string s, .bool false, .string ⟨#[]⟩, .string ⟨#[]⟩, .bool false, .string ⟨#[]⟩, .bool false] 107)) (w.heap.size + 1) { rest := l } := by
    have := World.alloc_heap_new (w.alloc (.cells #[.bool false, .string ⟨#[]⟩, .int .i64 0] 68)) (.cells #[.string s, .bool false, .string ⟨#[]⟩, .string ⟨#[]⟩, .bool false, .string ⟨#[]⟩, .bool false] 107)
    have hz : (w.alloc (.cells #[.bool false, .string ⟨#[]⟩, .int .i64 0] 68)).heap.size = w.heap.size + 1 := by simp
    rw [hz] at this
    unfold PAt cellsP bl
    rw [HSS.out]
    exact this
  generalize (w.alloc (.cells #[.bool false, .string ⟨#[]⟩, .int .i64 0] 68)).alloc (.cells #[.string s, .bool false, .string ⟨#[]⟩, .string ⟨#[]⟩, .bool false, .string ⟨#[]⟩, .bool false] 107) = W1 at *
  refine (hrun W1 _ kP).mono ?_
  rintro e w2 ⟨rfl, hP2, ho2⟩
  have kR2 := (ho2.block w.heap.size (by omega)).trans kR
  have B2 := B1.trans (ho2.below (Nat.le_succ w.heap.size))
  have hz2 := hP2.lt
  clear B1 kR kP ho2 hrun
  cases hdn : R.done with
  | false =>
    have hr := readR_none (hE.out.2 hdn)
    obtain ⟨k0, k1, k2, kf⟩ := cells3 kR2
    have KR := Lib.hid kR2
    have HB := Lib.hid B2
    have HR : Hid (readR l = (Num.zero, 4)) := Lib.hid hr
    clear kR2 B2 hP2 hE hr hdn
    go_wp2
    exact bodyPost_ret (v := .tuple #[.agg #[.bool false, .string ⟨#[]⟩, .int .i64 0], .int .i64 4]) (by simp [results, Tryz.results44, go_sem, k0, k1, k2]) rfl ⟨by rw [HR.out]; rfl, gset (gset (gset HB.out (Nat.le_refl _) _ _) (Nat.le_refl _) _ _) (Nat.le_refl _) _ _⟩
  | true =>
    have hp := hE.out.1 hdn
    obtain ⟨l1, l2, l3⟩ := parse_len hp
    have hd := parse_exp_dig hp
    have hlo := HL.out
    have hval := value_any w2 (w.heap.size + 1) R hP2 hd (Nat.le_trans l3 hlo) (Nat.le_trans l1 hlo) (Nat.le_trans l2 hlo)
    have HRV : Hid (∀ P, PowOk far (ptOf R) P → readR l = if tooLarge (valP (ptOf R) P) then (Num.zero, 40) else (valP (ptOf R) P, 0)) := Lib.hid fun P hP => read_valP hp hP (by rw [far_eq]; omega)
    have KR := Lib.hid kR2
    have HB := Lib.hid B2
    clear kR2 B2 hP2 hE hdn hp l1 l2 l3 hd hlo
    go_wp2_with fail
    refine hval.mono ?_
    rintro e w3 ⟨P, hP, rfl, hb3⟩
    have hrd := HRV.out P hP
    generalize valP (ptOf R) P = n at *
    have kR3 := (hb3.block w.heap.size (by omega)).trans KR.out
    have B3 := gcall HB.out hb3
    have hz3 : w.heap.size + 1 < w3.heap.size := Nat.lt_of_lt_of_le hz2 hb3.size
    have hz4 : w.heap.size < w3.heap.size := by omega
    have hz5 : w3.heap.size ≠ w.heap.size := by omega
    have hz6 : w.heap.size ≠ w3.heap.size := by omega
    obtain ⟨T, hT⟩ : ∃ t : ByteArray, (⟨(textD n).toArray⟩ : ByteArray) = t := ⟨_, rfl⟩
    have hLa := large_is n T (by rw [← hT])
    have HV : Hid (numV n = .agg #[.bool n.neg, .string T, .int .i64 n.exp]) := Lib.hid (by unfold numV bl; rw [hT])
    rw [HV.out]
    obtain ⟨k0, k1, k2, kf⟩ := cells3 kR3
    have HB3 := Lib.hid B3
    have KR3 := Lib.hid kR3
    have HRD := Lib.hid hrd
    clear hval hP hb3 kR3 B3 hT hrd HRV
    unfold LargeIs at hLa
    by_cases c1 : (200 : Int) < (T.size : Int)
    · have hr : readR l = (Num.zero, 40) := by rw [HRD.out, ← hLa, decide_eq_true c1]; rfl
      have HR := Lib.hid hr
      clear hr hLa
      go_wp2
      obtain ⟨q0, q1, q2, _⟩ := cells3 (set3a (x := .bool false) (y := .string ⟨#[]⟩) (z := .int .i64 0) KR3.out (.cells #[.bool n.neg, .string T, .int .i64 n.exp] 68))
      exact bodyPost_ret (v := .tuple #[.agg #[.bool false, .string ⟨#[]⟩, .int .i64 0], .int .i64 40]) (by simp [results, Tryz.results44, go_sem, q0, q1, q2]) rfl ⟨by rw [HR.out]; rfl, galloc (gset (gset (gset HB3.out (Nat.le_refl _) _ _) (Nat.le_refl _) _ _) (Nat.le_refl _) _ _) _⟩
    · have d1 : decide ((200 : Int) < (T.size : Int)) = false := decide_eq_false c1
      by_cases c2 : n.exp < -9999
      · have hr : readR l = (Num.zero, 40) := by rw [HRD.out, ← hLa, d1, decide_eq_true c2]; rfl
        have HR := Lib.hid hr
        clear hr hLa
        go_wp2
        obtain ⟨q0, q1, q2, _⟩ := cells3 (set3a (x := .bool false) (y := .string ⟨#[]⟩) (z := .int .i64 0) KR3.out (.cells #[.bool n.neg, .string T, .int .i64 n.exp] 68))
        exact bodyPost_ret (v := .tuple #[.agg #[.bool false, .string ⟨#[]⟩, .int .i64 0], .int .i64 40]) (by simp [results, Tryz.results44, go_sem, q0, q1, q2]) rfl ⟨by rw [HR.out]; rfl, galloc (gset (gset (gset HB3.out (Nat.le_refl _) _ _) (Nat.le_refl _) _ _) (Nat.le_refl _) _ _) _⟩
      · have d2 : decide (n.exp < -9999) = false := decide_eq_false c2
        by_cases c3 : 9999 < n.exp
        · have hr : readR l = (Num.zero, 40) := by rw [HRD.out, ← hLa, d1, d2, decide_eq_true c3]; rfl
          have HR := Lib.hid hr
          clear hr hLa
          go_wp2
          obtain ⟨q0, q1, q2, _⟩ := cells3 (set3a (x := .bool false) (y := .string ⟨#[]⟩) (z := .int .i64 0) KR3.out (.cells #[.bool n.neg, .string T, .int .i64 n.exp] 68))
          exact bodyPost_ret (v := .tuple #[.agg #[.bool false, .string ⟨#[]⟩, .int .i64 0], .int .i64 40]) (by simp [results, Tryz.results44, go_sem, q0, q1, q2]) rfl ⟨by rw [HR.out]; rfl, galloc (gset (gset (gset HB3.out (Nat.le_refl _) _ _) (Nat.le_refl _) _ _) (Nat.le_refl _) _ _) _⟩
        · have d3 : decide (9999 < n.exp) = false := decide_eq_false c3
          have hr : readR l = (n, 0) := by rw [HRD.out, ← hLa, d1, d2, d3]; rfl
          have HR := Lib.hid hr
          clear hr hLa
          go_wp2
          obtain ⟨q0, q1, q2, _⟩ := cells3 (set3a (x := .bool n.neg) (y := .string T) (z := .int .i64 n.exp) KR3.out (.cells #[.bool n.neg, .string T, .int .i64 n.exp] 68))
          exact bodyPost_ret (v := .tuple #[.agg #[.bool n.neg, .string T, .int .i64 n.exp], .int .i64 0]) (by simp [results, Tryz.results44, go_sem, q0, q1, q2]) rfl ⟨by rw [HR.out, ← HV.out]; rfl, galloc (gset (gset (gset HB3.out (Nat.le_refl _) _ _) (Nat.le_refl _) _ _) (Nat.le_refl _) _ _) _⟩
end Go.Proofs.YtgcpgieojckheaaGreatDoor
