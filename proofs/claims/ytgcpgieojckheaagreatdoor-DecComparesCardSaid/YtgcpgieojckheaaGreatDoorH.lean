/-
  readWhole; run; power.
-/
import Derived.Test.YtgcpgieojckheaaGreatDoorF
import Derived.Test.YtgcpgieojckheaaGreatDoorG
namespace Go.Proofs.YtgcpgieojckheaaGreatDoor
open Go.RowKit Go.Shelf

theorem read_whole (w : World) (b : Nat) (p : PS) (h : PAt w b p) (hz : p.rest.length ≤ 1000000000) : Calls Tryz.prog 158 #[.pointer (some ⟨b, 0, none⟩)] w (Stg b 1 p w) := by
  have ht := takeDigits_any w b p h hz
  have hmf := mf
  have hlen := past_len p.rest
  cases hd : digs p.rest with
  | nil =>
    rw [hd] at ht
    have HF : Hid (fin 8 { p with rest := past p.rest, whole := [] } = fin 1 p) := Lib.hid (by simp [fin, finWhole, hd, wholeOk])
    generalize past p.rest = r at *
    clear h hd hz
    go_enter Tryz.func158, Tryz.ntmps158
    go_wp2_with fail
    refine ht.mono ?_
    rintro e w1 ⟨rfl, h1, o1⟩
    obtain ⟨_, _, x, _⟩ := h1.cells
    have z := h1.live 2
    have f := fun v => World.cell?_setCell_same w1 ⟨b, 2, none⟩ v x
    have HQ : Hid (PAt (w1.setCell ⟨b, 2, none⟩ (bl [])) b { p with rest := r, whole := [] }) := Lib.hid (h1.set 2 _ rfl)
    have HO := Lib.hid (o1.trans (Only.set b w1 2 (bl [])))
    clear h1 o1 ht
    unfold bl at *
    go_wp2
    go_ret
    exact ⟨8, { p with rest := r, whole := [] }, by omega, by omega, rfl, HF.out, hlen, HQ.out, HO.out⟩
  | cons a l =>
    rw [hd] at ht
    have he : (⟨(a :: l).toArray⟩ : ByteArray).toList.isEmpty = false := mk_empty_no (a := a) (r := l) (by simp)
    obtain ⟨s, hs⟩ : ∃ s : ByteArray, (⟨(a :: l).toArray⟩ : ByteArray) = s := ⟨_, rfl⟩
    have hsl : s.data.toList = a :: l := by rw [← hs]
    obtain ⟨h0, ha, hsz⟩ := mk_first hsl
    rw [hs] at he
    by_cases h48 : a = 48
    · have hc : (((s[0]'h0).toNat : Int) == 48) = true := by rw [ha, h48]; rfl
      by_cases hl : l = []
      · have HF : Hid (fin 2 { p with rest := past p.rest, whole := a :: l } = fin 1 p) := Lib.hid (by simp [fin, finWhole, hd, wholeOk, hl])
        have hsz' : decide ((1 : Int) < (s.size : Int)) = false := by rw [hsz, hl]; rfl
        generalize past p.rest = r at *
        clear h hd hz hsl ha hsz h48 hl
        go_enter Tryz.func158, Tryz.ntmps158
        go_wp2_with fail
        refine ht.mono ?_
        rintro e w1 ⟨rfl, h1, o1⟩
        obtain ⟨_, _, x, _⟩ := h1.cells
        have z := h1.live 2
        have HQ : Hid (PAt (w1.setCell ⟨b, 2, none⟩ (bl (a :: l))) b { p with rest := r, whole := a :: l }) := Lib.hid (h1.set 2 _ rfl)
        have HO := Lib.hid (o1.trans (Only.set b w1 2 (bl (a :: l))))
        clear h1 o1 ht
        unfold bl at *
        rw [hs] at HQ HO ⊢
        clear hs
        have f := World.cell?_setCell_same w1 ⟨b, 2, none⟩ (.string s) x
        go_wp2
        go_ret
        exact ⟨2, { p with rest := r, whole := a :: l }, by omega, by omega, rfl, HF.out, hlen, HQ.out, HO.out⟩
      · have HF : Hid (fin 8 { p with rest := past p.rest, whole := a :: l } = fin 1 p) := Lib.hid (by simp [fin, finWhole, hd, wholeOk, hl, h48])
        have hsz' : decide ((1 : Int) < (s.size : Int)) = true := by
          cases l with
          | nil => exact absurd rfl hl
          | cons d r => rw [hsz]; simp; omega
        generalize past p.rest = r at *
        clear h hd hz hsl ha hsz h48 hl
        go_enter Tryz.func158, Tryz.ntmps158
        go_wp2_with fail
        refine ht.mono ?_
        rintro e w1 ⟨rfl, h1, o1⟩
        obtain ⟨_, _, x, _⟩ := h1.cells
        have z := h1.live 2
        have HQ : Hid (PAt (w1.setCell ⟨b, 2, none⟩ (bl (a :: l))) b { p with rest := r, whole := a :: l }) := Lib.hid (h1.set 2 _ rfl)
        have HO := Lib.hid (o1.trans (Only.set b w1 2 (bl (a :: l))))
        clear h1 o1 ht
        unfold bl at *
        rw [hs] at HQ HO ⊢
        clear hs
        have f := World.cell?_setCell_same w1 ⟨b, 2, none⟩ (.string s) x
        go_wp2
        go_ret
        exact ⟨8, { p with rest := r, whole := a :: l }, by omega, by omega, rfl, HF.out, hlen, HQ.out, HO.out⟩
    · have HF : Hid (fin 2 { p with rest := past p.rest, whole := a :: l } = fin 1 p) := Lib.hid (by simp [fin, finWhole, hd, wholeOk, h48])
      have hc : (((s[0]'h0).toNat : Int) == 48) = false := by
        rw [ha]
        have : a.toNat ≠ 48 := fun e => h48 (UInt8.toNat_inj.1 e)
        simp; omega
      generalize past p.rest = r at *
      clear h hd hz hsl ha hsz h48
      go_enter Tryz.func158, Tryz.ntmps158
      go_wp2_with fail
      refine ht.mono ?_
      rintro e w1 ⟨rfl, h1, o1⟩
      obtain ⟨_, _, x, _⟩ := h1.cells
      have z := h1.live 2
      have HQ : Hid (PAt (w1.setCell ⟨b, 2, none⟩ (bl (a :: l))) b { p with rest := r, whole := a :: l }) := Lib.hid (h1.set 2 _ rfl)
      have HO := Lib.hid (o1.trans (Only.set b w1 2 (bl (a :: l))))
      clear h1 o1 ht
      unfold bl at *
      rw [hs] at HQ HO ⊢
      clear hs
      have f := World.cell?_setCell_same w1 ⟨b, 2, none⟩ (.string s) x
      go_wp2
      go_ret
      exact ⟨2, { p with rest := r, whole := a :: l }, by omega, by omega, rfl, HF.out, hlen, HQ.out, HO.out⟩

theorem run_neq_func (fn : Fn) (a b : Array Value) (w : World) : (binOp .neq 135 (.func fn a b) .nilFunc).run Tryz.prog w = .ok (.bool true) w := by kernel_rfl
theorem run_neq_nil (w : World) : (binOp .neq 135 .nilFunc .nilFunc).run Tryz.prog w = .ok (.bool false) w := by kernel_rfl
/-- A state's number. -/
def stN : Value → Nat
  | .func (.func 114) _ _ => 0
  | .func (.func 158) _ _ => 1
  | .func (.func 196) _ _ => 2
  | .func (.func 211) _ _ => 3
  | .func (.func 212) _ _ => 4
  | .func (.func 220) _ _ => 5
  | .func (.func 227) _ _ => 6
  | .func (.func 221) _ _ => 7
  | _ => 8
theorem stN_stV (b j : Nat) (hj : j ≤ 8) : stN (stV b j) = j := by
  match j, hj with
  | 0, _ => rfl
  | 1, _ => rfl
  | 2, _ => rfl
  | 3, _ => rfl
  | 4, _ => rfl
  | 5, _ => rfl
  | 6, _ => rfl
  | 7, _ => rfl
  | 8, _ => rfl
def RunRel (b : Nat) (p : PS) (R : PS) (w : World) (v : Value) (wr : World) : Prop :=
  ∃ j q, j ≤ 8 ∧ v = stV b j ∧ fin j q = R ∧ q.rest.length ≤ p.rest.length ∧ PAt wr b q ∧ Only b w wr
theorem run_rel {b k : Nat} {p q R : PS} {w wr w1 : World} {e : Ending} (hf : fin k q = R) (hl : q.rest.length ≤ p.rest.length) (ho : Only b w wr) (hk : k ≤ 8) (h : Stg b k q wr e w1) :
    ∃ v, e = .returned v ∧ RunRel b p R w v w1 ∧ 8 - stN v < 8 - k := by
  obtain ⟨j2, q2, hlt2, hj2, rfl, hf2, hl2, hq2, ho2⟩ := h
  exact ⟨_, rfl, ⟨j2, q2, hj2, rfl, by rw [hf2, hf], Nat.le_trans hl2 hl, hq2, ho.trans ho2⟩, by rw [stN_stV b j2 hj2]; omega⟩
set_option maxHeartbeats 2000000 in
theorem run_any (w : World) (b : Nat) (p : PS) (h : PAt w b p) (hz : p.rest.length ≤ 1000000000) :
    Calls Tryz.prog 77 #[.pointer (some ⟨b, 0, none⟩)] w fun e w' => e = .returned (.bool (fin 0 p).done) ∧ PAt w' b (fin 0 p) ∧ Only b w w' := by
  have hmf := mf
  have hn1 := run_neq_func
  have hn0 := run_neq_nil
  have HS : Hid (RunRel b p (fin 0 p) w (stV b 0) w) := Lib.hid ⟨0, p, by omega, rfl, rfl, Nat.le_refl _, h, Only.refl _ _⟩
  have HZ := Lib.hid hz
  clear h hz
  generalize fin 0 p = R at *
  go_enter Tryz.func77, Tryz.ntmps77
  go_wp2
  go_loopw [3] (fun v wr => RunRel b p R w v wr) (fun v _ => 8 - stN v)
  case atStart => exact HS.out
  case round =>
    obtain ⟨j, q, hj, rfl, hf, hl, hq, ho⟩ := hrel
    have HO := Lib.hid ho
    have HFF := Lib.hid hf
    clear ho hf
    by_cases j0 : j = 0
    · subst j0
      have hc := read_sign wr b q hq
      clear hq hj
      unfold stV
      go_wp2_with fail
      refine hc.mono ?_
      intro e w1 hs
      obtain ⟨v2, rfl, hr, hm⟩ := run_rel HFF.out hl HO.out (by omega) hs
      have HR := Lib.hid hr
      have HM := Lib.hid hm
      clear hc hs hr hm
      go_wp2
      go_roundw
      case rel => exact HR.out
      case measure => exact HM.out
    by_cases j1 : j = 1
    · subst j1
      have hc := read_whole wr b q hq (Nat.le_trans hl HZ.out)
      clear hq hj
      unfold stV
      go_wp2_with fail
      refine hc.mono ?_
      intro e w1 hs
      obtain ⟨v2, rfl, hr, hm⟩ := run_rel HFF.out hl HO.out (by omega) hs
      have HR := Lib.hid hr
      have HM := Lib.hid hm
      clear hc hs hr hm
      go_wp2
      go_roundw
      case rel => exact HR.out
      case measure => exact HM.out
    by_cases j2 : j = 2
    · subst j2
      have hc := read_point wr b q hq
      clear hq hj
      unfold stV
      go_wp2_with fail
      refine hc.mono ?_
      intro e w1 hs
      obtain ⟨v2, rfl, hr, hm⟩ := run_rel HFF.out hl HO.out (by omega) hs
      have HR := Lib.hid hr
      have HM := Lib.hid hm
      clear hc hs hr hm
      go_wp2
      go_roundw
      case rel => exact HR.out
      case measure => exact HM.out
    by_cases j3 : j = 3
    · subst j3
      have hc := read_fraction wr b q hq (Nat.le_trans hl HZ.out)
      clear hq hj
      unfold stV
      go_wp2_with fail
      refine hc.mono ?_
      intro e w1 hs
      obtain ⟨v2, rfl, hr, hm⟩ := run_rel HFF.out hl HO.out (by omega) hs
      have HR := Lib.hid hr
      have HM := Lib.hid hm
      clear hc hs hr hm
      go_wp2
      go_roundw
      case rel => exact HR.out
      case measure => exact HM.out
    by_cases j4 : j = 4
    · subst j4
      have hc := read_mark wr b q hq
      clear hq hj
      unfold stV
      go_wp2_with fail
      refine hc.mono ?_
      intro e w1 hs
      obtain ⟨v2, rfl, hr, hm⟩ := run_rel HFF.out hl HO.out (by omega) hs
      have HR := Lib.hid hr
      have HM := Lib.hid hm
      clear hc hs hr hm
      go_wp2
      go_roundw
      case rel => exact HR.out
      case measure => exact HM.out
    by_cases j5 : j = 5
    · subst j5
      have hc := read_exponentSign wr b q hq
      clear hq hj
      unfold stV
      go_wp2_with fail
      refine hc.mono ?_
      intro e w1 hs
      obtain ⟨v2, rfl, hr, hm⟩ := run_rel HFF.out hl HO.out (by omega) hs
      have HR := Lib.hid hr
      have HM := Lib.hid hm
      clear hc hs hr hm
      go_wp2
      go_roundw
      case rel => exact HR.out
      case measure => exact HM.out
    by_cases j6 : j = 6
    · subst j6
      have hc := read_exponent wr b q hq (Nat.le_trans hl HZ.out)
      clear hq hj
      unfold stV
      go_wp2_with fail
      refine hc.mono ?_
      intro e w1 hs
      obtain ⟨v2, rfl, hr, hm⟩ := run_rel HFF.out hl HO.out (by omega) hs
      have HR := Lib.hid hr
      have HM := Lib.hid hm
      clear hc hs hr hm
      go_wp2
      go_roundw
      case rel => exact HR.out
      case measure => exact HM.out
    by_cases j7 : j = 7
    · subst j7
      have hc := read_end wr b q hq
      clear hq hj
      unfold stV
      go_wp2_with fail
      refine hc.mono ?_
      intro e w1 hs
      obtain ⟨v2, rfl, hr, hm⟩ := run_rel HFF.out hl HO.out (by omega) hs
      have HR := Lib.hid hr
      have HM := Lib.hid hm
      clear hc hs hr hm
      go_wp2
      go_roundw
      case rel => exact HR.out
      case measure => exact HM.out
    obtain rfl : j = 8 := by omega
    have HQ : Hid (PAt wr b R) := Lib.hid (by rw [← HFF.out]; exact hq)
    obtain ⟨_, _, _, _, _, _, x6⟩ := HQ.out.cells
    unfold stV
    clear hq j0 j1 j2 j3 j4 j5 j6 j7
    go_wp2
    go_ret
    exact ⟨rfl, HQ.out, HO.out⟩
end Go.Proofs.YtgcpgieojckheaaGreatDoor
