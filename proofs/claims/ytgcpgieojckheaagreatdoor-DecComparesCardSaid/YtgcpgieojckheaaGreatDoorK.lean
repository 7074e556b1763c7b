/-
  read.
-/
import Derived.Test.YtgcpgieojckheaaGreatDoorJ
namespace Go.Proofs.YtgcpgieojckheaaGreatDoor
open Go.RowKit Go.Shelf

theorem digs_len (l : List UInt8) : (digs l).length + (past l).length = l.length := by
  have := congrArg List.length (digs_past l)
  rwa [List.length_append] at this
theorem minus_len (l : List UInt8) : (minusOf l).2.length ≤ l.length := by
  unfold minusOf; split <;> simp
theorem sign_len (l : List UInt8) : (signOf l).2.length ≤ l.length := by
  unfold signOf; split <;> simp
theorem frac_len {l f r : List UInt8} (h : fracOf l = some (f, r)) : f.length + r.length ≤ l.length := by
  unfold fracOf at h
  split at h
  · rename_i q
    split at h
    · cases h
    · simp only [Option.some.injEq, Prod.mk.injEq] at h
      rw [← h.1, ← h.2]
      have := digs_len q
      simp; omega
  · simp only [Option.some.injEq, Prod.mk.injEq] at h
    rw [← h.1, ← h.2]; simp
theorem exp_len {l e r : List UInt8} {b : Bool} (h : expOf l = some (b, e, r)) : e.length ≤ l.length := by
  unfold expOf at h
  split at h
  · rename_i c q
    split at h
    · split at h
      · cases h
      · simp only [Option.some.injEq, Prod.mk.injEq] at h
        rw [← h.2.1]
        have h1 := digs_len (signOf q).2
        have h2 := sign_len q
        simp; omega
    · simp only [Option.some.injEq, Prod.mk.injEq] at h
      rw [← h.2.1]; simp
  · simp only [Option.some.injEq, Prod.mk.injEq] at h
    rw [← h.2.1]; simp
theorem parse_len {l : List UInt8} {p : Pt} (h : parseR l = some p) : p.whole.length ≤ l.length ∧ p.frac.length ≤ l.length ∧ p.exp.length ≤ l.length := by
  unfold parseR at h
  simp only at h
  split at h
  · split at h
    · cases h
    · rename_i f l3 hf
      split at h
      · cases h
      · rename_i b e l4 he
        split at h
        · simp only [Option.some.injEq] at h
          subst h
          have h1 := minus_len l
          have h2 := digs_len (minusOf l).2
          have h3 := frac_len hf
          have h4 := exp_len he
          exact ⟨by simp only; omega, by simp only; omega, by simp only; omega⟩
        · cases h
  · cases h
/-- What is read, as the program holds it. -/
def readV (r : Num × Int) : Value := if r.2 = 0 then numV r.1 else .agg #[.bool false, .string ⟨#[]⟩, .int .i64 0]
def ReadEnd (l : List UInt8) (w : World) (e : Ending) (w' : World) : Prop := e = .returned (.tuple #[readV (readR l), .int .i64 (readR l).2]) ∧ Below w.heap.size w w'
theorem set3a {W : World} {C : Nat} {t : TypeId} {a b c x y z : Value} (h : W.heap[C]? = some (.cells #[a, b, c] t (0, 0))) (o : Obj) : ((((W.setCell ⟨C, 0, none⟩ x).setCell ⟨C, 1, none⟩ y).setCell ⟨C, 2, none⟩ z).alloc o).heap[C]? = some (.cells #[x, y, z] t (0, 0)) := by
  have h1 : (((W.setCell ⟨C, 0, none⟩ x).setCell ⟨C, 1, none⟩ y).setCell ⟨C, 2, none⟩ z).heap[C]? = some (.cells #[x, y, z] t (0, 0)) := heap_setCell_same _ _ _ _ _ z (heap_setCell_same _ _ _ _ _ y (heap_setCell_same _ _ _ _ _ x h))
  exact (Below.heap_alloc _ _ _ (Array.getElem?_eq_some_iff.1 h1).1).trans h1
theorem readR_none {l : List UInt8} (h : parseR l = none) : readR l = (Num.zero, 4) := by unfold readR; rw [h]
theorem read_fin (l : List UInt8) : Ends (fin 0 { rest := l }) (parseR l) := ends_all l
theorem text_len (n : Num) : (200 < (textD n).length) ↔ 200 < n.digits.length := by
  unfold textD
  by_cases h : n.digits = []
  · rw [if_pos h, h]; simp
  · rw [if_neg h]
/-- The last part of read: the worth is told, if it is not too large. -/
def LargeIs (n : Num) (t : ByteArray) (b : Bool) : Prop := (decide ((200 : Int) < (t.size : Int)) || (decide (n.exp < -9999) || decide (9999 < n.exp))) = b
theorem large_is (n : Num) (t : ByteArray) (h : t.data.toList = textD n) : LargeIs n t (tooLarge n) := by
  unfold LargeIs tooLarge
  have e : (200 < t.size) ↔ 200 < n.digits.length := by rw [Lib.size_eq, h]; exact text_len n
  have e2 : decide ((200 : Int) < (t.size : Int)) = decide (200 < n.digits.length) := by
    rw [decide_eq_decide, ← e]; omega
  rw [e2]
set_option maxHeartbeats 2000000 in
theorem read_any (s : ByteArray) (w : World) (hs : s.size ≤ 1000000000) : Calls Tryz.prog 44 #[.string s] w (ReadEnd s.data.toList w) := by
  have hl : s.data.toList.length ≤ 1000000000 := by rw [← Lib.size_eq]; exact hs
  obtain ⟨l, hsl⟩ : ∃ l, s.data.toList = l := ⟨_, rfl⟩
  have hss : (⟨l.toArray⟩ : ByteArray) = s := by rw [← hsl]
  have hE := Lib.hid (read_fin l)
  have hrun := fun (W : World) (b : Nat) (h : PAt W b { rest := l }) => run_any W b { rest := l } h (by rw [hsl] at hl; exact hl)
  rw [hsl] at hl ⊢
  have HL := Lib.hid hl
  have HSS := Lib.hid hss
  clear hss hsl hl hs
  generalize fin 0 { rest := l } = R at *
  go_enter Tryz.func44, Tryz.ntmps44
  go_wp2_with fail
  have B1 : Below w.heap.size w ((w.alloc (.cells #[.bool false, .string ⟨#[]⟩, .int .i64 0] 68)).alloc (.cells #[.string s, .bool false, .string ⟨#[]⟩, .string ⟨#[]⟩, .bool false, .string ⟨#[]⟩, .bool false] 107)) := galloc (galloc (Below.refl _ _) _) _
  have kR : ((w.alloc (.cells #[.bool false, .string ⟨#[]⟩, .int .i64 0] 68)).alloc (.cells #[.string s, .bool false, .string ⟨#[]⟩, .string ⟨#[]⟩, .bool false, .string ⟨#[]⟩, .bool false] 107)).heap[w.heap.size]? = some (.cells #[.bool false, .string ⟨#[]⟩, .int .i64 0] 68 (0, 0)) :=
    (Below.heap_alloc _ _ _ (by simp)).trans (World.alloc_heap_new w _)
  have kP : PAt ((w.alloc (.cells #[.bool false, .string ⟨#[]⟩, .int .i64 0] 68)).alloc (.cells #[.string s, .bool false, .string ⟨#[]⟩, .string ⟨#[]⟩, .bool false, .string ⟨#[]⟩, .bool false] 107)) (w.heap.size + 1) { rest := l } := by
    have := World.alloc_heap_new (w.alloc (.cells #[.bool false, .string ⟨#[]⟩, .int .i64 0] 68)) (.cells #[.string s, .bool false, .string ⟨#[]⟩, .string ⟨#[]⟩, .bool false, .string ⟨#[]⟩, .bool false] 107)
    have hz : (w.alloc (.cells #[.bool false, .string ⟨#[]⟩, .int .i64 0] 68)).heap.size = w.heap.size + 1 := by simp
    rw [hz] at this
    unfold PAt cellsP bl
    rw [HSS.out]
    exact this
  generalize (w.alloc (.cells #[.bool false, .string ⟨#[]⟩, .int .i64 0] 68)).alloc (.cells #[.string s, .bool false, .string ⟨#[]⟩, .string ⟨#[]⟩, .bool false, .string ⟨#[]⟩, .bool false] 107) = W1 at *
  refine (hrun W1 _ kP).mono ?_
  rintro e w2 ⟨rfl, hP2, ho2⟩
  have kR2 := (ho2.block w.heap.size (by omega)).trans kR
  have B2 := B1.trans (ho2.below (Nat.le_succ w.heap.size))
  have hz2 := hP2.lt
  clear B1 kR kP ho2 hrun
  cases hdn : R.done with
  | false =>
    have hr := readR_none (hE.out.2 hdn)
    obtain ⟨k0, k1, k2, kf⟩ := cells3 kR2
    have KR := Lib.hid kR2
    have HB := Lib.hid B2
    have HR : Hid (readR l = (Num.zero, 4)) := Lib.hid hr
    clear kR2 B2 hP2 hE hr hdn
    go_wp2
    exact bodyPost_ret (v := .tuple #[.agg #[.bool false, .string ⟨#[]⟩, .int .i64 0], .int .i64 4]) (by simp [results, Tryz.results44, go_sem, k0, k1, k2]) rfl ⟨by rw [HR.out]; rfl, gset (gset (gset HB.out (Nat.le_refl _) _ _) (Nat.le_refl _) _ _) (Nat.le_refl _) _ _⟩
  | true =>
    have hp := hE.out.1 hdn
    obtain ⟨l1, l2, l3⟩ := parse_len hp
    have hd := parse_exp_dig hp
    have hlo := HL.out
    have hval := value_any w2 (w.heap.size + 1) R hP2 hd (Nat.le_trans l3 hlo) (Nat.le_trans l1 hlo) (Nat.le_trans l2 hlo)
    have HRV : Hid (∀ P, PowOk far (ptOf R) P → readR l = if tooLarge (valP (ptOf R) P) then (Num.zero, 40) else (valP (ptOf R) P, 0)) := Lib.hid fun P hP => read_valP hp hP (by rw [far_eq]; omega)
    have KR := Lib.hid kR2
    have HB := Lib.hid B2
    clear kR2 B2 hP2 hE hdn hp l1 l2 l3 hd hlo
    go_wp2_with fail
    refine hval.mono ?_
    rintro e w3 ⟨P, hP, rfl, hb3⟩
    have hrd := HRV.out P hP
    generalize valP (ptOf R) P = n at *
    have kR3 := (hb3.block w.heap.size (by omega)).trans KR.out
    have B3 := gcall HB.out hb3
    have hz3 : w.heap.size + 1 < w3.heap.size := Nat.lt_of_lt_of_le hz2 hb3.size
    have hz4 : w.heap.size < w3.heap.size := by omega
    have hz5 : w3.heap.size ≠ w.heap.size := by omega
    have hz6 : w.heap.size ≠ w3.heap.size := by omega
    obtain ⟨T, hT⟩ : ∃ t : ByteArray, (⟨(textD n).toArray⟩ : ByteArray) = t := ⟨_, rfl⟩
    have hLa := large_is n T (by rw [← hT])
    have HV : Hid (numV n = .agg #[.bool n.neg, .string T, .int .i64 n.exp]) := Lib.hid (by unfold numV bl; rw [hT])
    rw [HV.out]
    obtain ⟨k0, k1, k2, kf⟩ := cells3 kR3
    have HB3 := Lib.hid B3
    have KR3 := Lib.hid kR3
    have HRD := Lib.hid hrd
    clear hval hP hb3 kR3 B3 hT hrd HRV
    unfold LargeIs at hLa
    by_cases c1 : (200 : Int) < (T.size : Int)
    · have hr : readR l = (Num.zero, 40) := by rw [HRD.out, ← hLa, decide_eq_true c1]; rfl
      have HR := Lib.hid hr
      clear hr hLa
      go_wp2
      obtain ⟨q0, q1, q2, _⟩ := cells3 (set3a (x := .bool false) (y := .string ⟨#[]⟩) (z := .int .i64 0) KR3.out (.cells #[.bool n.neg, .string T, .int .i64 n.exp] 68))
      exact bodyPost_ret (v := .tuple #[.agg #[.bool false, .string ⟨#[]⟩, .int .i64 0], .int .i64 40]) (by simp [results, Tryz.results44, go_sem, q0, q1, q2]) rfl ⟨by rw [HR.out]; rfl, galloc (gset (gset (gset HB3.out (Nat.le_refl _) _ _) (Nat.le_refl _) _ _) (Nat.le_refl _) _ _) _⟩
    · have d1 : decide ((200 : Int) < (T.size : Int)) = false := decide_eq_false c1
      by_cases c2 : n.exp < -9999
      · have hr : readR l = (Num.zero, 40) := by rw [HRD.out, ← hLa, d1, decide_eq_true c2]; rfl
        have HR := Lib.hid hr
        clear hr hLa
        go_wp2
        obtain ⟨q0, q1, q2, _⟩ := cells3 (set3a (x := .bool false) (y := .string ⟨#[]⟩) (z := .int .i64 0) KR3.out (.cells #[.bool n.neg, .string T, .int .i64 n.exp] 68))
        exact bodyPost_ret (v := .tuple #[.agg #[.bool false, .string ⟨#[]⟩, .int .i64 0], .int .i64 40]) (by simp [results, Tryz.results44, go_sem, q0, q1, q2]) rfl ⟨by rw [HR.out]; rfl, galloc (gset (gset (gset HB3.out (Nat.le_refl _) _ _) (Nat.le_refl _) _ _) (Nat.le_refl _) _ _) _⟩
      · have d2 : decide (n.exp < -9999) = false := decide_eq_false c2
        by_cases c3 : 9999 < n.exp
        · have hr : readR l = (Num.zero, 40) := by rw [HRD.out, ← hLa, d1, d2, decide_eq_true c3]; rfl
          have HR := Lib.hid hr
          clear hr hLa
          go_wp2
          obtain ⟨q0, q1, q2, _⟩ := cells3 (set3a (x := .bool false) (y := .string ⟨#[]⟩) (z := .int .i64 0) KR3.out (.cells #[.bool n.neg, .string T, .int .i64 n.exp] 68))
          exact bodyPost_ret (v := .tuple #[.agg #[.bool false, .string ⟨#[]⟩, .int .i64 0], .int .i64 40]) (by simp [results, Tryz.results44, go_sem, q0, q1, q2]) rfl ⟨by rw [HR.out]; rfl, galloc (gset (gset (gset HB3.out (Nat.le_refl _) _ _) (Nat.le_refl _) _ _) (Nat.le_refl _) _ _) _⟩
        · have d3 : decide (9999 < n.exp) = false := decide_eq_false c3
          have hr : readR l = (n, 0) := by rw [HRD.out, ← hLa, d1, d2, d3]; rfl
          have HR := Lib.hid hr
          clear hr hLa
          go_wp2
          obtain ⟨q0, q1, q2, _⟩ := cells3 (set3a (x := .bool n.neg) (y := .string T) (z := .int .i64 n.exp) KR3.out (.cells #[.bool n.neg, .string T, .int .i64 n.exp] 68))
          exact bodyPost_ret (v := .tuple #[.agg #[.bool n.neg, .string T, .int .i64 n.exp], .int .i64 0]) (by simp [results, Tryz.results44, go_sem, q0, q1, q2]) rfl ⟨by rw [HR.out, ← HV.out]; rfl, galloc (gset (gset (gset HB3.out (Nat.le_refl _) _ _) (Nat.le_refl _) _ _) (Nat.le_refl _) _ _) _⟩
end Go.Proofs.YtgcpgieojckheaaGreatDoor
