/-
  The example that each law asks first.
-/
import Derived.Test.YtbmcgmnmmnileaaS
namespace Go.Proofs.Ytbmcgmnmmnileaa
open Go.RowKit Go.Shelf

theorem sp_any (a c : Int) (w : World) : Calls Try.prog 11 #[.int .i64 a, .int .i64 c] w fun e w' => e = .returned (.agg #[.int .i64 a, .int .i64 c]) ∧ Below w.heap.size w w' := by
  have hB : Below w.heap.size w (w.alloc (.cells #[.int .i64 a, .int .i64 c] 30)) := (Below.refl _ _).alloc (Nat.le_refl _) _
  go_enter Try.func11, Try.ntmps11
  go_wp2
  refine bodyPost_ret (v := .agg #[.int .i64 a, .int .i64 c]) (by simp [results, Try.f11, go_sem]) rfl ?_
  exact ⟨rfl, hB⟩

def ex1 : List UInt8 := [111, 110, 101, 10, 116, 119, 111, 10]
def ex2 : List UInt8 := [111, 110, 101, 45, 45, 116, 119, 111, 10]
/-- A rope of this text lies here. -/
def Rp (w : World) (b : Nat) (l : List UInt8) : Prop := ∃ o, RAt w b o ∧ textO o = l
theorem Rp.below {w w' : World} {n b : Nat} {l : List UInt8} (hn : w.heap.size ≤ n) (hb : Below n w w') (h : Rp w b l) : Rp w' b l := by
  obtain ⟨o, h1, h2⟩ := h
  exact ⟨o, h1.below hn hb, h2⟩
section
variable (w : World) (b : Nat) (l : List UInt8) (h : Rp w b l) (hs : l.length ≤ 65536)
include h
theorem rp_len : Calls Try.prog 14 #[.pointer (some ⟨b, 0, none⟩)] w fun e w' => e = .returned (.int .i64 (l.length : Nat)) ∧ Below w.heap.size w w' := by
  obtain ⟨o, h1, rfl⟩ := h; exact len_any w b o h1
theorem rp_ends : Calls Try.prog 17 #[.pointer (some ⟨b, 0, none⟩)] w fun e w' => e = .returned (.int .i64 (l.count 10 : Nat)) ∧ Below w.heap.size w w' := by
  obtain ⟨o, h1, rfl⟩ := h; exact ends_any w b o h1
include hs
theorem rp_line (n : Int) : Calls Try.prog 13 #[.pointer (some ⟨b, 0, none⟩), .int .i64 n] w fun e w' => e = .returned (.tuple #[.int .i64 (lineR l n).1, .int .i64 (lineR l n).2]) ∧ Below w.heap.size w w' := by
  obtain ⟨o, h1, rfl⟩ := h; exact line_any w b o n h1 (by omega)
theorem rp_ahead (n : Int) : Calls Try.prog 12 #[.pointer (some ⟨b, 0, none⟩), .int .i64 n] w fun e w' => e = .returned (.tuple #[.int .i64 (aheadR l n).1, .int .i64 (aheadR l n).2]) ∧ Below w.heap.size w w' := by
  obtain ⟨o, h1, rfl⟩ := h; exact ahead_any w b o n h1 (by omega)
theorem rp_slice (a c : Int) : Calls Try.prog 16 #[.pointer (some ⟨b, 0, none⟩), .agg #[.int .i64 a, .int .i64 c]] w fun e w' => e = .returned (.tuple #[.string (sliceR l a c).1, .int .i64 (sliceR l a c).2]) ∧ Below w.heap.size w w' := by
  obtain ⟨o, h1, rfl⟩ := h; exact slice_any w b o a c h1 (by omega)
theorem rp_string : Calls Try.prog 18 #[.pointer (some ⟨b, 0, none⟩)] w fun e w' => e = .returned (.string ⟨l.toArray⟩) ∧ Below w.heap.size w w' := by
  obtain ⟨o, h1, rfl⟩ := h; exact string_any w b o h1 (by omega)
theorem rp_replace (ka kc : Nat) (s : ByteArray) (h1 : ka ≤ kc) (h2 : kc ≤ l.length) (h3 : l.length - (kc - ka) + s.size ≤ 65536) :
    Calls Try.prog 10 #[.pointer (some ⟨b, 0, none⟩), .agg #[.int .i64 ka, .int .i64 kc], .string s] w fun e w' => ∃ b2, e = .returned (.tuple #[.pointer (some ⟨b2, 0, none⟩), .int .i64 0]) ∧ Rp w' b2 (l.take ka ++ (s.data.toList ++ l.drop kc)) ∧ Below w.heap.size w w' := by
  obtain ⟨o, hR, rfl⟩ := h
  refine (replace_ok w b o ka kc s hR (by simp [isSpan]; omega) hs h3).mono ?_
  rintro e w' ⟨b2, o2, rfl, k1, k2, k3⟩
  exact ⟨b2, rfl, ⟨o2, k1, k2⟩, k3⟩
end
theorem rp_of (s : ByteArray) (w : World) (hs : s.size ≤ 65536) : Calls Try.prog 8 #[.string s] w fun e w' => ∃ b, e = .returned (.tuple #[.pointer (some ⟨b, 0, none⟩), .int .i64 0]) ∧ Rp w' b s.data.toList ∧ Below w.heap.size w w' := by
  refine (of_any s w hs).mono ?_
  rintro e w' ⟨b, o, rfl, k1, k2, k3⟩
  exact ⟨b, rfl, ⟨o, k1, k2⟩, k3⟩

set_option maxRecDepth 100000 in
set_option maxHeartbeats 4000000 in
theorem works_true (w : World) : Calls Try.prog 7 #[] w fun e w' => e = .returned (.bool true) ∧ Below w.heap.size w w' := by
  have h8 := rp_of ⟨#[111, 110, 101, 10, 116, 119, 111, 10]⟩ w (by decide)
  have e1 : lineR ex1 1 = (4, 0) := by decide
  have e2 : lineR ex1 2 = (8, 0) := by decide
  have e3 : lineR ex1 3 = (0, 1) := by decide
  have e4 : aheadR ex1 4 = (1, 0) := by decide
  have e5 : aheadR ex1 3 = (0, 0) := by decide
  have e6 : sliceR ex1 5 3 = (⟨#[]⟩, 1) := by decide
  have e7 : ex1.take 3 ++ ((⟨#[45, 45]⟩ : ByteArray).data.toList ++ ex1.drop 4) = ex2 := by decide
  have cl1 := fun w b (h : Rp w b ex1) => rp_line w b ex1 h (by decide) 1
  have cl2 := fun w b (h : Rp w b ex1) => rp_line w b ex1 h (by decide) 2
  have cl3 := fun w b (h : Rp w b ex1) => rp_line w b ex1 h (by decide) 3
  have ca4 := fun w b (h : Rp w b ex1) => rp_ahead w b ex1 h (by decide) 4
  have ca3 := fun w b (h : Rp w b ex1) => rp_ahead w b ex1 h (by decide) 3
  have cs := fun w b (h : Rp w b ex1) => rp_slice w b ex1 h (by decide) 5 3
  have cr := fun w b (h : Rp w b ex1) => rp_replace w b ex1 h (by decide) 3 4 ⟨#[45, 45]⟩ (by decide) (by decide) (by decide)
  have cn := fun w b (h : Rp w b ex1) => rp_len w b ex1 h
  have ce := fun w b (h : Rp w b ex1) => rp_ends w b ex1 h
  have ct := fun w b (h : Rp w b ex1) => rp_string w b ex1 h (by decide)
  have ct2 := fun w b (h : Rp w b ex2) => rp_string w b ex2 h (by decide)
  rw [e1] at cl1
  rw [e2] at cl2
  rw [e3] at cl3
  rw [e4] at ca4
  rw [e5] at ca3
  rw [e6] at cs
  rw [e7] at cr
  rw [show ex1.length = 8 by decide] at cn
  rw [show ex1.count 10 = 2 by decide] at ce
  change ∀ (w : World) (b : Nat), Rp w b ex1 → Calls Try.prog 18 #[.pointer (some ⟨b, 0, none⟩)] w fun e w' => e = .returned (.string ⟨#[111, 110, 101, 10, 116, 119, 111, 10]⟩) ∧ Below w.heap.size w w' at ct
  change ∀ (w : World) (b : Nat), Rp w b ex2 → Calls Try.prog 18 #[.pointer (some ⟨b, 0, none⟩)] w fun e w' => e = .returned (.string ⟨#[111, 110, 101, 45, 45, 116, 119, 111, 10]⟩) ∧ Below w.heap.size w w' at ct2
  clear e1 e2 e3 e4 e5 e6 e7
  go_enter Try.func7, Try.ntmps7
  go_wp2_with fail
  refine h8.mono ?_
  rintro e w1 ⟨b, rfl, k1, hb1⟩
  replace k1 : Rp w1 b ex1 := k1
  have K1 := Lib.hid k1
  have B1 := Lib.hid hb1
  clear k1 hb1 h8
  go_wp2_with fail
  refine (cl1 _ b K1.out).mono ?_
  rintro e w2 ⟨rfl, hb⟩
  have K2 := Lib.hid (K1.out.below (Nat.le_refl _) hb)
  have B2 := Lib.hid (B1.out.trans (hb.mono B1.out.size))
  clear hb
  go_wp2_with fail
  refine (cl2 _ b K2.out).mono ?_
  rintro e w3 ⟨rfl, hb⟩
  have K3 := Lib.hid (K2.out.below (Nat.le_refl _) hb)
  have B3 := Lib.hid (B2.out.trans (hb.mono B2.out.size))
  clear hb
  go_wp2_with fail
  refine (cl3 _ b K3.out).mono ?_
  rintro e w4 ⟨rfl, hb⟩
  have K4 := Lib.hid (K3.out.below (Nat.le_refl _) hb)
  have B4 := Lib.hid (B3.out.trans (hb.mono B3.out.size))
  clear hb
  go_wp2_with fail
  refine (ca4 _ b K4.out).mono ?_
  rintro e w5 ⟨rfl, hb⟩
  have K5 := Lib.hid (K4.out.below (Nat.le_refl _) hb)
  have B5 := Lib.hid (B4.out.trans (hb.mono B4.out.size))
  clear hb
  go_wp2_with fail
  refine (ca3 _ b K5.out).mono ?_
  rintro e w6 ⟨rfl, hb⟩
  have K6 := Lib.hid (K5.out.below (Nat.le_refl _) hb)
  have B6 := Lib.hid (B5.out.trans (hb.mono B5.out.size))
  clear hb
  go_wp2_with fail
  refine (sp_any 3 4 _).mono ?_
  rintro e w7 ⟨rfl, hb⟩
  have K7 := Lib.hid (K6.out.below (Nat.le_refl _) hb)
  have B7 := Lib.hid (B6.out.trans (hb.mono B6.out.size))
  clear hb
  go_wp2_with fail
  refine (cr _ b K7.out).mono ?_
  rintro e w8 ⟨b2, rfl, kx, hb⟩
  have K8 := Lib.hid (K7.out.below (Nat.le_refl _) hb)
  have X8 := Lib.hid kx
  have B8 := Lib.hid (B7.out.trans (hb.mono B7.out.size))
  clear hb kx
  go_wp2_with fail
  refine (sp_any 5 3 _).mono ?_
  rintro e w9 ⟨rfl, hb⟩
  have K9 := Lib.hid (K8.out.below (Nat.le_refl _) hb)
  have X9 := Lib.hid (X8.out.below (Nat.le_refl _) hb)
  have B9 := Lib.hid (B8.out.trans (hb.mono B8.out.size))
  clear hb
  go_wp2_with fail
  refine (cs _ b K9.out).mono ?_
  rintro e w10 ⟨rfl, hb⟩
  have K10 := Lib.hid (K9.out.below (Nat.le_refl _) hb)
  have X10 := Lib.hid (X9.out.below (Nat.le_refl _) hb)
  have B10 := Lib.hid (B9.out.trans (hb.mono B9.out.size))
  clear hb
  go_wp2_with fail
  refine (cn _ b K10.out).mono ?_
  rintro e w11 ⟨rfl, hb⟩
  have K11 := Lib.hid (K10.out.below (Nat.le_refl _) hb)
  have X11 := Lib.hid (X10.out.below (Nat.le_refl _) hb)
  have B11 := Lib.hid (B10.out.trans (hb.mono B10.out.size))
  clear hb
  go_wp2_with fail
  refine (ce _ b K11.out).mono ?_
  rintro e w12 ⟨rfl, hb⟩
  have K12 := Lib.hid (K11.out.below (Nat.le_refl _) hb)
  have X12 := Lib.hid (X11.out.below (Nat.le_refl _) hb)
  have B12 := Lib.hid (B11.out.trans (hb.mono B11.out.size))
  clear hb
  go_wp2_with fail
  refine (ct2 _ b2 X12.out).mono ?_
  rintro e w13 ⟨rfl, hb⟩
  have K13 := Lib.hid (K12.out.below (Nat.le_refl _) hb)
  have B13 := Lib.hid (B12.out.trans (hb.mono B12.out.size))
  clear hb
  go_wp2_with fail
  refine (ct _ b K13.out).mono ?_
  rintro e w14 ⟨rfl, hb⟩
  have B14 := Lib.hid (B13.out.trans (hb.mono B13.out.size))
  clear hb
  go_wp2
  go_ret
  exact ⟨rfl, B14.out⟩
end Go.Proofs.Ytbmcgmnmmnileaa
