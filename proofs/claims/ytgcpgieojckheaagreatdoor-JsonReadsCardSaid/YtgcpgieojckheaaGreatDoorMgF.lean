/-
  The parser's states, walked; run.
-/
import Derived.Test.YtgcpgieojckheaaGreatDoorMgE
namespace Go.Proofs.YtgcpgieojckheaaGreatDoor
open Go.RowKit Go.Shelf

/-- A state as a value. -/
def stV (b : Nat) : Nat → Value
  | 0 => .func (.func 114) #[.pointer (some ⟨b, 0, none⟩)] #[]
  | 1 => .func (.func 158) #[.pointer (some ⟨b, 0, none⟩)] #[]
  | 2 => .func (.func 196) #[.pointer (some ⟨b, 0, none⟩)] #[]
  | 3 => .func (.func 211) #[.pointer (some ⟨b, 0, none⟩)] #[]
  | 4 => .func (.func 212) #[.pointer (some ⟨b, 0, none⟩)] #[]
  | 5 => .func (.func 220) #[.pointer (some ⟨b, 0, none⟩)] #[]
  | 6 => .func (.func 227) #[.pointer (some ⟨b, 0, none⟩)] #[]
  | 7 => .func (.func 221) #[.pointer (some ⟨b, 0, none⟩)] #[]
  | _ => .nilFunc
/-- What a state does: it answers a later one, from which the same comes in the end; what is left is no longer. -/
def Stg (b k : Nat) (p : PS) (w : World) (e : Ending) (w' : World) : Prop :=
  ∃ j q, k < j ∧ j ≤ 8 ∧ e = .returned (stV b j) ∧ fin j q = fin k p ∧ q.rest.length ≤ p.rest.length ∧ PAt w' b q ∧ Only b w w'
theorem mf (fn : Fn) (first cap : Array Value) (w : World) : (Instr.makeFunc fn first cap).run Tryz.prog w = .ok (.func fn first cap) w := rfl
theorem cutC_len (c : UInt8) (l : List UInt8) : (cutC c l).2.length ≤ l.length := by
  unfold cutC; split
  · simp
  · split <;> simp
theorem past_len (l : List UInt8) : (past l).length ≤ l.length := by
  unfold past; exact (List.dropWhile_suffix _).length_le
theorem mk_empty_no {s : ByteArray} {a : UInt8} {r : List UInt8} (h : s.data.toList = a :: r) : s.toList.isEmpty = false := by
  cases e : s.toList.isEmpty
  · rfl
  · rw [List.isEmpty_iff, Lib.toList_data, h] at e
    cases e
theorem mk_empty_yes {s : ByteArray} (h : s.data.toList = []) : s.toList.isEmpty = true := by
  rw [List.isEmpty_iff, Lib.toList_data]; exact h
theorem mk_first {s : ByteArray} {a : UInt8} {r : List UInt8} (h : s.data.toList = a :: r) : ∃ hz : 0 < s.size, s[0]'hz = a ∧ s.size = r.length + 1 := by
  have hz : s.size = r.length + 1 := by rw [Lib.size_eq, h]; rfl
  refine ⟨by omega, ?_, hz⟩
  have e : s.data.toList[0]? = some (s[0]'(by omega)) := by rw [Array.getElem?_toList, Array.getElem?_eq_getElem (by show 0 < s.size; omega)]; rfl
  rw [h] at e
  exact (Option.some.inj e).symm
theorem read_end (w : World) (b : Nat) (p : PS) (h : PAt w b p) : Calls Tryz.prog 221 #[.pointer (some ⟨b, 0, none⟩)] w (Stg b 7 p w) := by
  obtain ⟨x0, _, _, _, _, _, x6⟩ := h.cells
  have z6 := h.live 6
  have HQ : Hid (PAt (w.setCell ⟨b, 6, none⟩ (.bool p.rest.isEmpty)) b { p with done := p.rest.isEmpty }) := Lib.hid (h.set 6 _ rfl)
  have HO := Lib.hid (Only.set b w 6 (.bool p.rest.isEmpty))
  have hmf := mf
  unfold bl at x0
  cases hl : p.rest with
  | nil =>
    rw [hl] at x0 HQ HO
    go_enter Tryz.func221, Tryz.ntmps221
    go_wp2
    go_ret
    exact ⟨8, { p with rest := [], done := true }, by omega, by omega, rfl, by simp [fin, finEnd, hl], by simp, HQ.out, HO.out⟩
  | cons a r =>
    rw [hl] at x0 HQ HO
    have e : (⟨(a :: r).toArray⟩ : ByteArray).toList.isEmpty = false := mk_empty_no (a := a) (r := r) (by simp)
    go_enter Tryz.func221, Tryz.ntmps221
    go_wp2
    go_ret
    exact ⟨8, { p with rest := a :: r, done := false }, by omega, by omega, rfl, by simp [fin, finEnd, hl], by simp [hl], HQ.out, HO.out⟩
theorem read_sign (w : World) (b : Nat) (p : PS) (h : PAt w b p) : Calls Tryz.prog 114 #[.pointer (some ⟨b, 0, none⟩)] w (Stg b 0 p w) := by
  have ht := take_any w b p 45 h
  have hmf := mf
  have hlen := cutC_len 45 p.rest
  have HF : Hid (fin 1 { p with rest := (cutC 45 p.rest).2, neg := (cutC 45 p.rest).1 } = fin 0 p) := Lib.hid rfl
  generalize (cutC 45 p.rest).1 = f at *
  generalize (cutC 45 p.rest).2 = r at *
  clear h
  go_enter Tryz.func114, Tryz.ntmps114
  go_wp2_with fail
  refine ht.mono ?_
  rintro e w1 ⟨rfl, h1, o1⟩
  obtain ⟨_, x1, _⟩ := h1.cells
  have z1 := h1.live 1
  have HQ : Hid (PAt (w1.setCell ⟨b, 1, none⟩ (.bool f)) b { p with rest := r, neg := f }) := Lib.hid (h1.set 1 _ rfl)
  have HO := Lib.hid (o1.trans (Only.set b w1 1 (.bool f)))
  clear h1 o1 ht
  go_wp2
  go_ret
  exact ⟨1, { p with rest := r, neg := f }, by omega, by omega, rfl, HF.out, hlen, HQ.out, HO.out⟩
theorem read_point (w : World) (b : Nat) (p : PS) (h : PAt w b p) : Calls Tryz.prog 196 #[.pointer (some ⟨b, 0, none⟩)] w (Stg b 2 p w) := by
  have ht := take_any w b p 46 h
  have hmf := mf
  have hlen := cutC_len 46 p.rest
  cases hf : (cutC 46 p.rest).1 with
  | true =>
    rw [hf] at ht
    have HF : Hid (fin 3 { p with rest := (cutC 46 p.rest).2 } = fin 2 p) := Lib.hid (by simp [fin, finPoint, hf])
    generalize (cutC 46 p.rest).2 = r at *
    clear h hf
    go_enter Tryz.func196, Tryz.ntmps196
    go_wp2_with fail
    refine ht.mono ?_
    rintro e w1 ⟨rfl, h1, o1⟩
    have HQ := Lib.hid h1
    have HO := Lib.hid o1
    clear h1 o1 ht
    go_wp2
    go_ret
    exact ⟨3, { p with rest := r }, by omega, by omega, rfl, HF.out, hlen, HQ.out, HO.out⟩
  | false =>
    have hr := cutC_no hf
    rw [hf, hr] at ht
    have HF : Hid (fin 4 p = fin 2 p) := Lib.hid (by simp [fin, finPoint, hf])
    clear h hf hr hlen
    go_enter Tryz.func196, Tryz.ntmps196
    go_wp2_with fail
    refine ht.mono ?_
    rintro e w1 ⟨rfl, h1, o1⟩
    have HQ := Lib.hid h1
    have HO := Lib.hid o1
    clear h1 o1 ht
    go_wp2
    go_ret
    exact ⟨4, p, by omega, by omega, rfl, HF.out, Nat.le_refl _, HQ.out, HO.out⟩
theorem read_mark (w : World) (b : Nat) (p : PS) (h : PAt w b p) : Calls Tryz.prog 212 #[.pointer (some ⟨b, 0, none⟩)] w (Stg b 4 p w) := by
  have ht := take_any w b p 101 h
  have hmf := mf
  have hlen := cutC_len 101 p.rest
  cases hf : (cutC 101 p.rest).1 with
  | true =>
    rw [hf] at ht
    have HF : Hid (fin 5 { p with rest := (cutC 101 p.rest).2 } = fin 4 p) := Lib.hid (by simp [fin, finMark, hf])
    generalize (cutC 101 p.rest).2 = r at *
    clear h hf
    go_enter Tryz.func212, Tryz.ntmps212
    go_wp2_with fail
    refine ht.mono ?_
    rintro e w1 ⟨rfl, h1, o1⟩
    have HQ := Lib.hid h1
    have HO := Lib.hid o1
    clear h1 o1 ht
    go_wp2
    go_ret
    exact ⟨5, { p with rest := r }, by omega, by omega, rfl, HF.out, hlen, HQ.out, HO.out⟩
  | false =>
    have hr := cutC_no hf
    rw [hf, hr] at ht
    have ht2 := fun w1 (h1 : PAt w1 b p) => take_any w1 b p 69 h1
    have hlen2 := cutC_len 69 p.rest
    cases hg : (cutC 69 p.rest).1 with
    | true =>
      rw [hg] at ht2
      have HF : Hid (fin 5 { p with rest := (cutC 69 p.rest).2 } = fin 4 p) := Lib.hid (by simp [fin, finMark, hf, hg])
      generalize (cutC 69 p.rest).2 = r at *
      clear h hf hr hlen hg
      go_enter Tryz.func212, Tryz.ntmps212
      go_wp2_with fail
      refine ht.mono ?_
      rintro e w1 ⟨rfl, h1, o1⟩
      have hc := ht2 w1 h1
      have HO := Lib.hid o1
      clear h1 o1 ht ht2
      go_wp2_with fail
      refine hc.mono ?_
      rintro e w2 ⟨rfl, h1, o1⟩
      have HQ := Lib.hid h1
      have HO2 := Lib.hid (HO.out.trans o1)
      clear h1 o1 hc
      go_wp2
      go_ret
      exact ⟨5, { p with rest := r }, by omega, by omega, rfl, HF.out, hlen2, HQ.out, HO2.out⟩
    | false =>
      have hr2 := cutC_no hg
      rw [hg, hr2] at ht2
      have HF : Hid (fin 7 p = fin 4 p) := Lib.hid (by simp [fin, finMark, hf, hg])
      clear h hf hr hlen hg hr2 hlen2
      go_enter Tryz.func212, Tryz.ntmps212
      go_wp2_with fail
      refine ht.mono ?_
      rintro e w1 ⟨rfl, h1, o1⟩
      have hc := ht2 w1 h1
      have HO := Lib.hid o1
      clear h1 o1 ht ht2
      go_wp2_with fail
      refine hc.mono ?_
      rintro e w2 ⟨rfl, h1, o1⟩
      have HQ := Lib.hid h1
      have HO2 := Lib.hid (HO.out.trans o1)
      clear h1 o1 hc
      go_wp2
      go_ret
      exact ⟨7, p, by omega, by omega, rfl, HF.out, Nat.le_refl _, HQ.out, HO2.out⟩
theorem read_exponentSign (w : World) (b : Nat) (p : PS) (h : PAt w b p) : Calls Tryz.prog 220 #[.pointer (some ⟨b, 0, none⟩)] w (Stg b 5 p w) := by
  have ht := take_any w b p 45 h
  have hmf := mf
  have hlen := cutC_len 45 p.rest
  cases hf : (cutC 45 p.rest).1 with
  | true =>
    rw [hf] at ht
    have HF : Hid (fin 6 { p with rest := (cutC 45 p.rest).2, below := true } = fin 5 p) := Lib.hid (by simp [fin, finExpSign, hf])
    generalize (cutC 45 p.rest).2 = r at *
    clear h hf
    go_enter Tryz.func220, Tryz.ntmps220
    go_wp2_with fail
    refine ht.mono ?_
    rintro e w1 ⟨rfl, h1, o1⟩
    obtain ⟨_, _, _, _, x4, _⟩ := h1.cells
    have z4 := h1.live 4
    have f4 : (w1.setCell ⟨b, 4, none⟩ (.bool true)).cell? ⟨b, 4, none⟩ = some (.bool true) := World.cell?_setCell_same _ _ _ x4
    have HQ : Hid (PAt (w1.setCell ⟨b, 4, none⟩ (.bool true)) b { p with rest := r, below := true }) := Lib.hid (h1.set 4 _ rfl)
    have HO := Lib.hid (o1.trans (Only.set b w1 4 (.bool true)))
    clear h1 o1 ht
    go_wp2
    go_ret
    exact ⟨6, { p with rest := r, below := true }, by omega, by omega, rfl, HF.out, hlen, HQ.out, HO.out⟩
  | false =>
    have hr := cutC_no hf
    rw [hf, hr] at ht
    have ht2 := fun w1 (h1 : PAt w1 b { p with below := false }) => take_any w1 b _ 43 h1
    have hlen2 := cutC_len 43 p.rest
    have HF : Hid (fin 6 { p with rest := (cutC 43 p.rest).2, below := false } = fin 5 p) := Lib.hid (by simp [fin, finExpSign, hf])
    simp only at ht2
    generalize (cutC 43 p.rest).2 = r at *
    generalize (cutC 43 p.rest).1 = f43 at *
    clear h hf hr hlen
    go_enter Tryz.func220, Tryz.ntmps220
    go_wp2_with fail
    refine ht.mono ?_
    rintro e w1 ⟨rfl, h1, o1⟩
    obtain ⟨_, _, _, _, x4, _⟩ := h1.cells
    have z4 := h1.live 4
    have f4 : (w1.setCell ⟨b, 4, none⟩ (.bool false)).cell? ⟨b, 4, none⟩ = some (.bool false) := World.cell?_setCell_same _ _ _ x4
    have hc := ht2 (w1.setCell ⟨b, 4, none⟩ (.bool false)) (h1.set 4 _ rfl)
    have HO := Lib.hid (o1.trans (Only.set b w1 4 (.bool false)))
    clear h1 o1 ht ht2
    go_wp2_with fail
    refine hc.mono ?_
    rintro e w2 ⟨rfl, h1, o1⟩
    have HQ := Lib.hid h1
    have HO2 := Lib.hid (HO.out.trans o1)
    clear h1 o1 hc
    go_wp2
    go_ret
    exact ⟨6, { p with rest := r, below := false }, by omega, by omega, rfl, HF.out, hlen2, HQ.out, HO2.out⟩
theorem read_fraction (w : World) (b : Nat) (p : PS) (h : PAt w b p) (hz : p.rest.length ≤ 1000000000) : Calls Tryz.prog 211 #[.pointer (some ⟨b, 0, none⟩)] w (Stg b 3 p w) := by
  have ht := takeDigits_any w b p h hz
  have hmf := mf
  have hlen := past_len p.rest
  cases hd : digs p.rest with
  | nil =>
    rw [hd] at ht
    have HF : Hid (fin 8 { p with rest := past p.rest, frac := [] } = fin 3 p) := Lib.hid (by simp [fin, finFrac, hd])
    generalize past p.rest = r at *
    clear h hd hz
    go_enter Tryz.func211, Tryz.ntmps211
    go_wp2_with fail
    refine ht.mono ?_
    rintro e w1 ⟨rfl, h1, o1⟩
    obtain ⟨_, _, _, x, _⟩ := h1.cells
    have z := h1.live 3
    have f := fun v => World.cell?_setCell_same w1 ⟨b, 3, none⟩ v x
    have HQ : Hid (PAt (w1.setCell ⟨b, 3, none⟩ (bl [])) b { p with rest := r, frac := [] }) := Lib.hid (h1.set 3 _ rfl)
    have HO := Lib.hid (o1.trans (Only.set b w1 3 (bl [])))
    clear h1 o1 ht
    unfold bl at *
    go_wp2
    go_ret
    exact ⟨8, { p with rest := r, frac := [] }, by omega, by omega, rfl, HF.out, hlen, HQ.out, HO.out⟩
  | cons a l =>
    rw [hd] at ht
    have HF : Hid (fin 4 { p with rest := past p.rest, frac := a :: l } = fin 3 p) := Lib.hid (by simp [fin, finFrac, hd])
    have he : (⟨(a :: l).toArray⟩ : ByteArray).toList.isEmpty = false := mk_empty_no (a := a) (r := l) (by simp)
    generalize past p.rest = r at *
    clear h hd hz
    go_enter Tryz.func211, Tryz.ntmps211
    go_wp2_with fail
    refine ht.mono ?_
    rintro e w1 ⟨rfl, h1, o1⟩
    obtain ⟨_, _, _, x, _⟩ := h1.cells
    have z := h1.live 3
    have HQ : Hid (PAt (w1.setCell ⟨b, 3, none⟩ (bl (a :: l))) b { p with rest := r, frac := a :: l }) := Lib.hid (h1.set 3 _ rfl)
    have HO := Lib.hid (o1.trans (Only.set b w1 3 (bl (a :: l))))
    clear h1 o1 ht
    unfold bl at *
    obtain ⟨s, hs⟩ : ∃ s : ByteArray, (⟨(a :: l).toArray⟩ : ByteArray) = s := ⟨_, rfl⟩
    rw [hs] at he HQ HO ⊢
    clear hs
    have f := World.cell?_setCell_same w1 ⟨b, 3, none⟩ (.string s) x
    go_wp2
    go_ret
    exact ⟨4, { p with rest := r, frac := a :: l }, by omega, by omega, rfl, HF.out, hlen, HQ.out, HO.out⟩
theorem read_exponent (w : World) (b : Nat) (p : PS) (h : PAt w b p) (hz : p.rest.length ≤ 1000000000) : Calls Tryz.prog 227 #[.pointer (some ⟨b, 0, none⟩)] w (Stg b 6 p w) := by
  have ht := takeDigits_any w b p h hz
  have hmf := mf
  have hlen := past_len p.rest
  cases hd : digs p.rest with
  | nil =>
    rw [hd] at ht
    have HF : Hid (fin 8 { p with rest := past p.rest, exp := [] } = fin 6 p) := Lib.hid (by simp [fin, finExp, hd])
    generalize past p.rest = r at *
    clear h hd hz
    go_enter Tryz.func227, Tryz.ntmps227
    go_wp2_with fail
    refine ht.mono ?_
    rintro e w1 ⟨rfl, h1, o1⟩
    obtain ⟨_, _, _, _, _, x, _⟩ := h1.cells
    have z := h1.live 5
    have f := fun v => World.cell?_setCell_same w1 ⟨b, 5, none⟩ v x
    have HQ : Hid (PAt (w1.setCell ⟨b, 5, none⟩ (bl [])) b { p with rest := r, exp := [] }) := Lib.hid (h1.set 5 _ rfl)
    have HO := Lib.hid (o1.trans (Only.set b w1 5 (bl [])))
    clear h1 o1 ht
    unfold bl at *
    go_wp2
    go_ret
    exact ⟨8, { p with rest := r, exp := [] }, by omega, by omega, rfl, HF.out, hlen, HQ.out, HO.out⟩
  | cons a l =>
    rw [hd] at ht
    have HF : Hid (fin 7 { p with rest := past p.rest, exp := a :: l } = fin 6 p) := Lib.hid (by simp [fin, finExp, hd])
    have he : (⟨(a :: l).toArray⟩ : ByteArray).toList.isEmpty = false := mk_empty_no (a := a) (r := l) (by simp)
    generalize past p.rest = r at *
    clear h hd hz
    go_enter Tryz.func227, Tryz.ntmps227
    go_wp2_with fail
    refine ht.mono ?_
    rintro e w1 ⟨rfl, h1, o1⟩
    obtain ⟨_, _, _, _, _, x, _⟩ := h1.cells
    have z := h1.live 5
    have HQ : Hid (PAt (w1.setCell ⟨b, 5, none⟩ (bl (a :: l))) b { p with rest := r, exp := a :: l }) := Lib.hid (h1.set 5 _ rfl)
    have HO := Lib.hid (o1.trans (Only.set b w1 5 (bl (a :: l))))
    clear h1 o1 ht
    unfold bl at *
    obtain ⟨s, hs⟩ : ∃ s : ByteArray, (⟨(a :: l).toArray⟩ : ByteArray) = s := ⟨_, rfl⟩
    rw [hs] at he HQ HO ⊢
    clear hs
    have f := World.cell?_setCell_same w1 ⟨b, 5, none⟩ (.string s) x
    go_wp2
    go_ret
    exact ⟨7, { p with rest := r, exp := a :: l }, by omega, by omega, rfl, HF.out, hlen, HQ.out, HO.out⟩
end Go.Proofs.YtgcpgieojckheaaGreatDoor
