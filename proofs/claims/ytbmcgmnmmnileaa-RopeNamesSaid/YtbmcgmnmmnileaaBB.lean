/-
  RopeNames: the law's walk.
-/
import Derived.Test.YtbmcgmnmmnileaaAA
namespace Go.Proofs.Ytbmcgmnmmnileaa
open Go.RowKit Go.Shelf

theorem many_ex (n : Nat) (m : Int) (hm : m = (n : Int)) (c : UInt8) (h0 : 0 < n) (hn : n ≤ 100000) : ∃ S : ByteArray, S.size = n ∧ ∀ w, Calls Try.prog 9 #[.int .i64 m, .string ⟨#[c]⟩] w fun e w' => e = .returned (.string S) ∧ Below w.heap.size w w' :=
  ⟨rep n c, rep_size n c, fun w => by rw [hm]; exact many_any n c w h0 hn⟩
/-- Replace, its numbers as the machine has them. -/
theorem rp_replace_i (w : World) (b : Nat) (l : List UInt8) (h : Rp w b l) (hs : l.length ≤ 65536) (ka kc : Nat) (ia ic : Int) (ea : ia = (ka : Int)) (ec : ic = (kc : Int)) (s : ByteArray) (h1 : ka ≤ kc) (h2 : kc ≤ l.length) (h3 : l.length - (kc - ka) + s.size ≤ 65536) :
    Calls Try.prog 10 #[.pointer (some ⟨b, 0, none⟩), .agg #[.int .i64 ia, .int .i64 ic], .string s] w fun e w' => ∃ b2, e = .returned (.tuple #[.pointer (some ⟨b2, 0, none⟩), .int .i64 0]) ∧ Rp w' b2 (put l ka kc s.data.toList) ∧ Below w.heap.size w w' := by
  subst ea ec
  exact rp_replace w b l h hs ka kc s h1 h2 h3
theorem put_none (l : List UInt8) : put l 0 l.length [] = [] := by unfold put; simp
/-- The text of the longer parts, so many times. -/
def zs (l : List UInt8) : Nat → List UInt8
  | 0 => []
  | n + 1 => zs l n ++ l
theorem zs_len (l : List UInt8) (h : l.length = 120) : ∀ n, (zs l n).length = 120 * n
  | 0 => rfl
  | n + 1 => by rw [zs, List.length_append, zs_len l h n, h]; omega

set_option maxRecDepth 100000 in
set_option maxHeartbeats 16000000 in
theorem ropeNames_walk (w : World) : Calls Try.prog 3 #[] w fun e w' => e = .returned (.bool true) ∧ Below w.heap.size w w' := by
  obtain ⟨S1, zS1, m1⟩ := many_ex 65536 65536 (by omega) 120 (by omega) (by omega)
  obtain ⟨S2, zS2, m2⟩ := many_ex 65537 65537 (by omega) 120 (by omega) (by omega)
  obtain ⟨S3, zS3, m3⟩ := many_ex 65537 65537 (by omega) 121 (by omega) (by omega)
  obtain ⟨S4, zS4, m4⟩ := many_ex 119 119 (by omega) 112 (by omega) (by omega)
  have zL1 : S1.data.toList.length = 65536 := by rw [← Lib.size_eq]; exact zS1
  obtain ⟨S5, hS5⟩ : ∃ x, S4 ++ (⟨#[10]⟩ : ByteArray) = x := ⟨_, rfl⟩
  have zS5 : S5.size = 120 := by rw [← hS5, ByteArray.size_append, zS4]; rfl
  have zL5 : S5.data.toList.length = 120 := by rw [← Lib.size_eq]; exact zS5
  have o1 := fun w => rp_of S1 w (by omega)
  have o2 := fun w => of_large S2 w (by omega)
  generalize S1.data.toList = L1 at *
  have cC : ∀ w b, Rp w b L1 → Calls Try.prog 10 #[.pointer (some ⟨b, 0, none⟩), .agg #[.int .i64 0, .int .i64 0], .string ⟨#[121]⟩] w fun e w' => e = .returned (.tuple #[.pointer none, .int .i64 40]) ∧ Below w.heap.size w w' := fun w b h => rp_replace_large w b L1 0 0 ⟨#[121]⟩ h (by simp [isSpan]) (by omega) (by show 1 ≤ 1000000000; omega) (by rw [zL1]; show (65536 : Int) < (65536 : Nat) - (0 - 0) + (1 : Nat); omega)
  have cF : ∀ w b, Rp w b L1 → Calls Try.prog 10 #[.pointer (some ⟨b, 0, none⟩), .agg #[.int .i64 1, .int .i64 2], .string S3] w fun e w' => e = .returned (.tuple #[.pointer none, .int .i64 40]) ∧ Below w.heap.size w w' := fun w b h => rp_replace_large w b L1 1 2 S3 h (by simp [isSpan]; omega) (by omega) (by omega) (by rw [zL1, zS3]; omega)
  obtain ⟨D1, hD1⟩ : ∃ D1, put L1 0 1 [121] = D1 := ⟨_, rfl⟩
  have zD1 : D1.length = 65536 := by rw [← hD1, put_len _ _ _ _ (by omega) (by omega), zL1]; show 65536 - (1 - 0) + 1 = 65536; omega
  have cD : ∀ w b, Rp w b L1 → Calls Try.prog 10 #[.pointer (some ⟨b, 0, none⟩), .agg #[.int .i64 0, .int .i64 1], .string ⟨#[121]⟩] w fun e w' => ∃ b2, e = .returned (.tuple #[.pointer (some ⟨b2, 0, none⟩), .int .i64 0]) ∧ Rp w' b2 D1 ∧ Below w.heap.size w w' := fun w b h => by
    rw [← hD1]; exact rp_replace_i w b L1 h (by omega) 0 1 0 1 rfl rfl ⟨#[121]⟩ (by omega) (by omega) (by rw [zL1]; show 65536 - (1 - 0) + 1 ≤ 65536; omega)
  have cG : ∀ w b, Rp w b L1 → Calls Try.prog 10 #[.pointer (some ⟨b, 0, none⟩), .agg #[.int .i64 0, .int .i64 65536], .string ⟨#[]⟩] w fun e w' => ∃ b2, e = .returned (.tuple #[.pointer (some ⟨b2, 0, none⟩), .int .i64 0]) ∧ Rp w' b2 [] ∧ Below w.heap.size w w' := fun w b h => by
    refine (rp_replace_i w b L1 h (by omega) 0 65536 0 65536 rfl (by omega) ⟨#[]⟩ (by omega) (by omega) (by rw [zL1]; show 65536 - (65536 - 0) + 0 ≤ 65536; omega)).mono ?_
    rintro e w' ⟨b2, he, k, hb⟩
    have k' : Rp w' b2 (put L1 0 65536 []) := k
    have e : put L1 0 65536 [] = [] := by
      have e := put_none L1
      rw [zL1] at e
      exact e
    rw [e] at k'
    exact ⟨b2, he, k', hb⟩
  have cI : ∀ w b, Rp w b L1 → Calls Try.prog 10 #[.pointer (some ⟨b, 0, none⟩), .agg #[.int .i64 0, .int .i64 65537], .string ⟨#[]⟩] w fun e w' => e = .returned (.tuple #[.pointer none, .int .i64 1]) ∧ Below w.heap.size w w' := fun w b h => rp_replace_bad w b L1 0 65537 ⟨#[]⟩ h (by simp [isSpan]; omega)
  have cJ : ∀ w b, Rp w b L1 → Calls Try.prog 10 #[.pointer (some ⟨b, 0, none⟩), .agg #[.int .i64 (-1), .int .i64 0], .string ⟨#[]⟩] w fun e w' => e = .returned (.tuple #[.pointer none, .int .i64 1]) ∧ Below w.heap.size w w' := fun w b h => rp_replace_bad w b L1 (-1) 0 ⟨#[]⟩ h (by simp [isSpan])
  have e1 : aheadR [] (-1) = (0, 1) := by decide
  have e2 : aheadR [] 0 = (0, 0) := by decide
  have e3 : lineR [] 0 = (0, 0) := by decide
  have e4 : lineR [] (-1) = (0, 1) := by decide
  have cK := fun w b (h : Rp w b []) => rp_ahead w b [] h (by decide) (-1)
  have cL := fun w b (h : Rp w b []) => rp_ahead w b [] h (by decide) 0
  have cN := fun w b (h : Rp w b []) => rp_line w b [] h (by decide) 0
  have cP := fun w b (h : Rp w b []) => rp_line w b [] h (by decide) (-1)
  rw [e1] at cK
  rw [e2] at cL
  rw [e3] at cN
  rw [e4] at cP
  have nD : ∀ w b, Rp w b D1 → Calls Try.prog 14 #[.pointer (some ⟨b, 0, none⟩)] w fun e w' => e = .returned (.int .i64 65536) ∧ Below w.heap.size w w' := fun w b h => by
    have c := rp_len w b D1 h
    rw [zD1] at c
    exact c
  have nG : ∀ w b, Rp w b [] → Calls Try.prog 14 #[.pointer (some ⟨b, 0, none⟩)] w fun e w' => e = .returned (.int .i64 0) ∧ Below w.heap.size w w' := fun w b h => rp_len w b [] h
  have dG : ∀ w b, Rp w b [] → Calls Try.prog 15 #[.pointer (some ⟨b, 0, none⟩)] w fun e w' => e = .returned (.int .i64 0) ∧ Below w.heap.size w w' := fun w b h => by
    refine (rp_depth w b [] h).mono ?_
    rintro e w' ⟨d, rfl, hd, hb⟩
    rw [hd.1 rfl]
    exact ⟨rfl, hb⟩
  have dF : ∀ w b, Rp w b L1 → Calls Try.prog 15 #[.pointer (some ⟨b, 0, none⟩)] w fun e w' => ∃ d : Nat, (e = .returned (.int .i64 d) ∧ (d : Int) ≤ 36) ∧ Below w.heap.size w w' := fun w b h => by
    refine (rp_depth w b L1 h).mono ?_
    rintro e w' ⟨d, rfl, hd, hb⟩
    have := hd.2 17 (by rw [zL1]; show 65536 < 131072; omega)
    exact ⟨d, ⟨rfl, by omega⟩, hb⟩
  have BB := Lib.hid (Below.refl w.heap.size w)
  have HL1 := Lib.hid zL1
  have HD1 := Lib.hid zD1
  have HL5 := Lib.hid zL5
  have cut := 0
  clear cut
  clear zS1 zL1 zS2 zS3 zD1 hD1 e1 e2 e3 e4 zL5
  go_enter Try.func3, Try.ntmps3
  go_wp2_with fail
  refine (works_true _).mono ?_
  rintro e w1 ⟨rfl, hb⟩
  replace BB := Lib.hid (BB.out.trans (hb.mono BB.out.size))
  clear hb
  go_wp2_with fail
  refine (m1 _).mono ?_
  rintro e w2 ⟨rfl, hb⟩
  replace BB := Lib.hid (BB.out.trans (hb.mono BB.out.size))
  clear hb
  go_wp2_with fail
  refine (o1 _).mono ?_
  rintro e w3 ⟨b1, rfl, kk, hb⟩
  have F := Lib.hid kk
  clear kk
  replace BB := Lib.hid (BB.out.trans (hb.mono BB.out.size))
  clear hb
  go_wp2_with fail
  refine (m2 _).mono ?_
  rintro e w4 ⟨rfl, hb⟩
  replace F := Lib.hid (F.out.below (Nat.le_refl _) hb)
  replace BB := Lib.hid (BB.out.trans (hb.mono BB.out.size))
  clear hb
  go_wp2_with fail
  refine (o2 _).mono ?_
  rintro e w5 ⟨rfl, rfl⟩
  go_wp2_with fail
  refine (sp_any _ _ _).mono ?_
  rintro e w6 ⟨rfl, hb⟩
  replace F := Lib.hid (F.out.below (Nat.le_refl _) hb)
  replace BB := Lib.hid (BB.out.trans (hb.mono BB.out.size))
  clear hb
  go_wp2_with fail
  refine (cC _ b1 F.out).mono ?_
  rintro e w7 ⟨rfl, hb⟩
  replace F := Lib.hid (F.out.below (Nat.le_refl _) hb)
  replace BB := Lib.hid (BB.out.trans (hb.mono BB.out.size))
  clear hb
  go_wp2_with fail
  refine (sp_any _ _ _).mono ?_
  rintro e w8 ⟨rfl, hb⟩
  replace F := Lib.hid (F.out.below (Nat.le_refl _) hb)
  replace BB := Lib.hid (BB.out.trans (hb.mono BB.out.size))
  clear hb
  go_wp2_with fail
  refine (cD _ b1 F.out).mono ?_
  rintro e w9 ⟨bd, rfl, kk, hb⟩
  have D := Lib.hid kk
  clear kk
  replace F := Lib.hid (F.out.below (Nat.le_refl _) hb)
  replace BB := Lib.hid (BB.out.trans (hb.mono BB.out.size))
  clear hb
  go_wp2_with fail
  refine (sp_any _ _ _).mono ?_
  rintro e w10 ⟨rfl, hb⟩
  replace F := Lib.hid (F.out.below (Nat.le_refl _) hb)
  replace D := Lib.hid (D.out.below (Nat.le_refl _) hb)
  replace BB := Lib.hid (BB.out.trans (hb.mono BB.out.size))
  clear hb
  go_wp2_with fail
  refine (m3 _).mono ?_
  rintro e w11 ⟨rfl, hb⟩
  replace F := Lib.hid (F.out.below (Nat.le_refl _) hb)
  replace D := Lib.hid (D.out.below (Nat.le_refl _) hb)
  replace BB := Lib.hid (BB.out.trans (hb.mono BB.out.size))
  clear hb
  go_wp2_with fail
  refine (cF _ b1 F.out).mono ?_
  rintro e w12 ⟨rfl, hb⟩
  replace F := Lib.hid (F.out.below (Nat.le_refl _) hb)
  replace D := Lib.hid (D.out.below (Nat.le_refl _) hb)
  replace BB := Lib.hid (BB.out.trans (hb.mono BB.out.size))
  clear hb
  go_wp2_with fail
  refine (sp_any _ _ _).mono ?_
  rintro e w13 ⟨rfl, hb⟩
  replace F := Lib.hid (F.out.below (Nat.le_refl _) hb)
  replace D := Lib.hid (D.out.below (Nat.le_refl _) hb)
  replace BB := Lib.hid (BB.out.trans (hb.mono BB.out.size))
  clear hb
  go_wp2_with fail
  refine (cG _ b1 F.out).mono ?_
  rintro e w14 ⟨bg, rfl, kk, hb⟩
  have G := Lib.hid kk
  clear kk
  replace F := Lib.hid (F.out.below (Nat.le_refl _) hb)
  replace D := Lib.hid (D.out.below (Nat.le_refl _) hb)
  replace BB := Lib.hid (BB.out.trans (hb.mono BB.out.size))
  clear hb
  go_wp2_with fail
  refine (sp_any _ _ _).mono ?_
  rintro e w15 ⟨rfl, hb⟩
  replace F := Lib.hid (F.out.below (Nat.le_refl _) hb)
  replace D := Lib.hid (D.out.below (Nat.le_refl _) hb)
  replace G := Lib.hid (G.out.below (Nat.le_refl _) hb)
  replace BB := Lib.hid (BB.out.trans (hb.mono BB.out.size))
  clear hb
  go_wp2_with fail
  refine (cI _ b1 F.out).mono ?_
  rintro e w16 ⟨rfl, hb⟩
  replace F := Lib.hid (F.out.below (Nat.le_refl _) hb)
  replace D := Lib.hid (D.out.below (Nat.le_refl _) hb)
  replace G := Lib.hid (G.out.below (Nat.le_refl _) hb)
  replace BB := Lib.hid (BB.out.trans (hb.mono BB.out.size))
  clear hb
  go_wp2_with fail
  refine (sp_any _ _ _).mono ?_
  rintro e w17 ⟨rfl, hb⟩
  replace F := Lib.hid (F.out.below (Nat.le_refl _) hb)
  replace D := Lib.hid (D.out.below (Nat.le_refl _) hb)
  replace G := Lib.hid (G.out.below (Nat.le_refl _) hb)
  replace BB := Lib.hid (BB.out.trans (hb.mono BB.out.size))
  clear hb
  go_wp2_with fail
  refine (cJ _ b1 F.out).mono ?_
  rintro e w18 ⟨rfl, hb⟩
  replace F := Lib.hid (F.out.below (Nat.le_refl _) hb)
  replace D := Lib.hid (D.out.below (Nat.le_refl _) hb)
  replace G := Lib.hid (G.out.below (Nat.le_refl _) hb)
  replace BB := Lib.hid (BB.out.trans (hb.mono BB.out.size))
  clear hb
  go_wp2_with fail
  refine (cK _ bg G.out).mono ?_
  rintro e w19 ⟨rfl, hb⟩
  replace F := Lib.hid (F.out.below (Nat.le_refl _) hb)
  replace D := Lib.hid (D.out.below (Nat.le_refl _) hb)
  replace G := Lib.hid (G.out.below (Nat.le_refl _) hb)
  replace BB := Lib.hid (BB.out.trans (hb.mono BB.out.size))
  clear hb
  go_wp2_with fail
  refine (cL _ bg G.out).mono ?_
  rintro e w20 ⟨rfl, hb⟩
  replace F := Lib.hid (F.out.below (Nat.le_refl _) hb)
  replace D := Lib.hid (D.out.below (Nat.le_refl _) hb)
  replace G := Lib.hid (G.out.below (Nat.le_refl _) hb)
  replace BB := Lib.hid (BB.out.trans (hb.mono BB.out.size))
  clear hb
  go_wp2_with fail
  refine (cN _ bg G.out).mono ?_
  rintro e w21 ⟨rfl, hb⟩
  replace F := Lib.hid (F.out.below (Nat.le_refl _) hb)
  replace D := Lib.hid (D.out.below (Nat.le_refl _) hb)
  replace G := Lib.hid (G.out.below (Nat.le_refl _) hb)
  replace BB := Lib.hid (BB.out.trans (hb.mono BB.out.size))
  clear hb
  go_wp2_with fail
  refine (cP _ bg G.out).mono ?_
  rintro e w22 ⟨rfl, hb⟩
  replace F := Lib.hid (F.out.below (Nat.le_refl _) hb)
  replace D := Lib.hid (D.out.below (Nat.le_refl _) hb)
  replace G := Lib.hid (G.out.below (Nat.le_refl _) hb)
  replace BB := Lib.hid (BB.out.trans (hb.mono BB.out.size))
  clear hb
  go_wp2_with fail
  refine (nD _ bd D.out).mono ?_
  rintro e w23 ⟨rfl, hb⟩
  replace F := Lib.hid (F.out.below (Nat.le_refl _) hb)
  replace D := Lib.hid (D.out.below (Nat.le_refl _) hb)
  replace G := Lib.hid (G.out.below (Nat.le_refl _) hb)
  replace BB := Lib.hid (BB.out.trans (hb.mono BB.out.size))
  clear hb
  go_wp2_with fail
  refine (nG _ bg G.out).mono ?_
  rintro e w24 ⟨rfl, hb⟩
  replace F := Lib.hid (F.out.below (Nat.le_refl _) hb)
  replace D := Lib.hid (D.out.below (Nat.le_refl _) hb)
  replace G := Lib.hid (G.out.below (Nat.le_refl _) hb)
  replace BB := Lib.hid (BB.out.trans (hb.mono BB.out.size))
  clear hb
  go_wp2_with fail
  refine (dG _ bg G.out).mono ?_
  rintro e w25 ⟨rfl, hb⟩
  replace F := Lib.hid (F.out.below (Nat.le_refl _) hb)
  replace D := Lib.hid (D.out.below (Nat.le_refl _) hb)
  replace G := Lib.hid (G.out.below (Nat.le_refl _) hb)
  replace BB := Lib.hid (BB.out.trans (hb.mono BB.out.size))
  clear hb
  go_wp2_with fail
  refine (dF _ b1 F.out).mono ?_
  rintro e w26 ⟨d0, ⟨rfl, hd0⟩, hb⟩
  replace F := Lib.hid (F.out.below (Nat.le_refl _) hb)
  replace D := Lib.hid (D.out.below (Nat.le_refl _) hb)
  replace G := Lib.hid (G.out.below (Nat.le_refl _) hb)
  replace BB := Lib.hid (BB.out.trans (hb.mono BB.out.size))
  clear hb
  clear F D HD1 HL1 cC cD cF cG cI cJ cK cL cN cP nD nG dG dF m1 m2 m3 o1 o2
  go_wp2
  have cLx : ∀ w b, Rp w b (xs 1500) → Calls Try.prog 13 #[.pointer (some ⟨b, 0, none⟩), .int .i64 700] w fun e w' => e = .returned (.tuple #[.int .i64 1400, .int .i64 0]) ∧ Below w.heap.size w w' := fun w b h => by
    have c := rp_line w b _ h (by rw [xs_len]; omega) 700
    have e := lineR_in (xs 1500) 700 (by rw [xs_count]; omega)
    rw [xs_nth 1500 700 (by omega)] at e
    have e' : lineR (xs 1500) 700 = (1400, 0) := e
    rw [e'] at c
    exact c
  have cEx : ∀ w b, Rp w b (xs 1500) → Calls Try.prog 17 #[.pointer (some ⟨b, 0, none⟩)] w fun e w' => e = .returned (.int .i64 750) ∧ Below w.heap.size w w' := fun w b h => by
    have c := rp_ends w b _ h
    rw [xs_count] at c
    exact c
  have dZ : ∀ k, k < 500 → ∀ w b, Rp w b (zs S5.data.toList (k + 1)) → Calls Try.prog 15 #[.pointer (some ⟨b, 0, none⟩)] w fun e w' => ∃ d : Nat, (e = .returned (.int .i64 d) ∧ (d : Int) ≤ 34) ∧ Below w.heap.size w w' := fun k hk w b h => by
    refine (rp_depth w b _ h).mono ?_
    rintro e w' ⟨d, rfl, hd, hb⟩
    have := hd.2 16 (by rw [zs_len _ HL5.out]; show 120 * (k + 1) < 65536; omega)
    exact ⟨d, ⟨rfl, by omega⟩, hb⟩
  have cZ : ∀ k, k < 500 → ∀ w b, Rp w b (zs S5.data.toList k) → Calls Try.prog 10 #[.pointer (some ⟨b, 0, none⟩), .agg #[.int .i64 (120 * (k : Int)), .int .i64 (120 * (k : Int))], .string S5] w fun e w' => ∃ b2, e = .returned (.tuple #[.pointer (some ⟨b2, 0, none⟩), .int .i64 0]) ∧ Rp w' b2 (zs S5.data.toList (k + 1)) ∧ Below w.heap.size w w' := fun k hk w b h => by
    have e := put_end (zs S5.data.toList k) S5.data.toList
    have z := zs_len S5.data.toList HL5.out k
    rw [z] at e
    rw [show zs S5.data.toList (k + 1) = zs S5.data.toList k ++ S5.data.toList from rfl, ← e]
    exact rp_replace_i w b _ h (by omega) (120 * k) (120 * k) (120 * (k : Int)) (120 * (k : Int)) (by omega) (by omega) S5 (by omega) (by omega) (by omega)
  have HdZ := Lib.hid dZ
  have HcZ := Lib.hid cZ
  have HLx := Lib.hid cLx
  have HEx := Lib.hid cEx
  clear dZ cZ cLx cEx
  go_loopw [25, 26, 27] (fun x y i wr => ∃ (k bx by_ : Nat), x = .pointer (some ⟨bx, 0, none⟩) ∧ y = .pointer (some ⟨by_, 0, none⟩) ∧ i = .int .i64 k ∧ k ≤ 1500 ∧ Hid (Rp wr bx (xs k)) ∧ Hid (Rp wr by_ (List.replicate k 98)) ∧ Hid (Rp wr bg []) ∧ Hid (Below w.heap.size w wr)) (fun _ _ i _ => 1500 - (intOf i).toNat)
  case atStart => exact ⟨0, bg, bg, rfl, rfl, rfl, by omega, Lib.hid G.out, Lib.hid G.out, G, BB⟩
  case round =>
    clear BB G
    obtain ⟨k, bx, by_, rfl, rfl, rfl, hk, hX, hY, hG, hB⟩ := hrel
    by_cases hlt : k < 1500
    · have hlt' : (k : Int) < 1500 := by omega
      have cY : ∀ w', Rp w' by_ (List.replicate k 98) → Calls Try.prog 10 #[.pointer (some ⟨by_, 0, none⟩), .agg #[.int .i64 0, .int .i64 0], .string ⟨#[98]⟩] w' fun e w1 => ∃ b2, e = .returned (.tuple #[.pointer (some ⟨b2, 0, none⟩), .int .i64 0]) ∧ Rp w1 b2 (List.replicate (k + 1) 98) ∧ Below w'.heap.size w' w1 := fun w' h => by
        have e : List.replicate (k + 1) (98 : UInt8) = put (List.replicate k 98) 0 0 [98] := by rw [put_begin]; rfl
        rw [e]
        exact rp_replace_i w' by_ _ h (by rw [List.length_replicate]; omega) 0 0 0 0 rfl rfl ⟨#[98]⟩ (by omega) (by omega) (by rw [List.length_replicate]; show k - (0 - 0) + 1 ≤ 65536; omega)
      have dX : ∀ w b, Rp w b (xs (k + 1)) → Calls Try.prog 15 #[.pointer (some ⟨b, 0, none⟩)] w fun e w' => ∃ d : Nat, (e = .returned (.int .i64 d) ∧ (d : Int) ≤ 24) ∧ Below w.heap.size w w' := fun w b h => by
        refine (rp_depth w b _ h).mono ?_
        rintro e w' ⟨d, rfl, hd, hb⟩
        have := hd.2 11 (by rw [xs_len]; show k + 1 < 2048; omega)
        exact ⟨d, ⟨rfl, by omega⟩, hb⟩
      have dY : ∀ w b, Rp w b (List.replicate (k + 1) 98) → Calls Try.prog 15 #[.pointer (some ⟨b, 0, none⟩)] w fun e w' => ∃ d : Nat, (e = .returned (.int .i64 d) ∧ (d : Int) ≤ 24) ∧ Below w.heap.size w w' := fun w b h => by
        refine (rp_depth w b _ h).mono ?_
        rintro e w' ⟨d, rfl, hd, hb⟩
        have := hd.2 11 (by rw [List.length_replicate]; show k + 1 < 2048; omega)
        exact ⟨d, ⟨rfl, by omega⟩, hb⟩
      rcases Nat.mod_two_eq_zero_or_one k with hpar | hpar
      · have hp1 : (k : Int) % 2 = 0 := by omega
        have hp2 : Int.tmod (k : Int) 2 = 0 := by rw [Int.tmod_eq_emod_of_nonneg (by omega)]; exact hp1
        have hx : (⟨#[97, 10]⟩ : ByteArray).extract 0 1 = ⟨#[97]⟩ := by decide
        have ex : xs (k + 1) = put (xs k) k k [97] := by
          have e := put_end (xs k) [97]
          rw [xs_len] at e
          rw [e, xs, if_pos (by omega)]
        have cX : ∀ w', Rp w' bx (xs k) → Calls Try.prog 10 #[.pointer (some ⟨bx, 0, none⟩), .agg #[.int .i64 k, .int .i64 k], .string ⟨#[97]⟩] w' fun e w1 => ∃ b2, e = .returned (.tuple #[.pointer (some ⟨b2, 0, none⟩), .int .i64 0]) ∧ Rp w1 b2 (xs (k + 1)) ∧ Below w'.heap.size w' w1 := fun w' h => by
          rw [ex]
          exact rp_replace_i w' bx _ h (by rw [xs_len]; omega) k k k k rfl rfl ⟨#[97]⟩ (by omega) (by rw [xs_len]; omega) (by rw [xs_len]; show k - (k - k) + 1 ≤ 65536; omega)
        clear ex
        have hwq : IntKind.i64.wrap 1 = 1 := by decide
        have hwr : IntKind.i64.wrap 2 = 2 := by decide
        have hws : IntKind.i64.wrap (0 + 1) = 1 := by decide
        have hwt : IntKind.i64.wrap (1 + 1) = 2 := by decide
        go_wp2
        go_region_held3 (fun _ => True) (first | exact trivial) (first | (go_at_call 11; (with_reducible refine Calls.mono (sp_any _ _ _) ?_); rintro e v1 ⟨rfl, hb1⟩) | (go_at_call 10; (with_reducible refine Calls.mono (cX v1 (hX.out.below (Nat.le_refl _) ((Below.refl _ _).drew.trans hb1))) ?_); rintro e v2 ⟨b2, rfl, kx, hb2⟩))
        have gg := gcall ((Below.refl wr.heap.size wr).drew.trans hb1) hb2
        have X2 := Lib.hid kx
        have Y2 := Lib.hid (hY.out.below (Nat.le_refl _) gg)
        have G2 := Lib.hid (hG.out.below (Nat.le_refl _) gg)
        have B2 := Lib.hid (hB.out.trans (gg.mono hB.out.size))
        clear gg kx hb1 hb2 cX
        go_wp2_with fail
        refine (sp_any _ _ _).mono ?_
        rintro e u1_ ⟨rfl, hb⟩
        replace X2 := Lib.hid (X2.out.below (Nat.le_refl _) hb)
        replace Y2 := Lib.hid (Y2.out.below (Nat.le_refl _) hb)
        replace G2 := Lib.hid (G2.out.below (Nat.le_refl _) hb)
        replace B2 := Lib.hid (B2.out.trans (hb.mono B2.out.size))
        clear hb
        go_wp2_with fail
        refine (cY _ Y2.out).mono ?_
        rintro e u2_ ⟨b3, rfl, kk, hb⟩
        have Y3 := Lib.hid kk
        clear kk
        replace X2 := Lib.hid (X2.out.below (Nat.le_refl _) hb)
        replace G2 := Lib.hid (G2.out.below (Nat.le_refl _) hb)
        replace B2 := Lib.hid (B2.out.trans (hb.mono B2.out.size))
        clear hb
        go_wp2_with fail
        refine (dX _ b2 X2.out).mono ?_
        rintro e u3_ ⟨d1, ⟨rfl, hd1⟩, hb⟩
        replace X2 := Lib.hid (X2.out.below (Nat.le_refl _) hb)
        replace Y3 := Lib.hid (Y3.out.below (Nat.le_refl _) hb)
        replace G2 := Lib.hid (G2.out.below (Nat.le_refl _) hb)
        replace B2 := Lib.hid (B2.out.trans (hb.mono B2.out.size))
        clear hb
        go_wp2_with fail
        refine (dY _ b3 Y3.out).mono ?_
        rintro e u4_ ⟨d2, ⟨rfl, hd2⟩, hb⟩
        replace X2 := Lib.hid (X2.out.below (Nat.le_refl _) hb)
        replace Y3 := Lib.hid (Y3.out.below (Nat.le_refl _) hb)
        replace G2 := Lib.hid (G2.out.below (Nat.le_refl _) hb)
        replace B2 := Lib.hid (B2.out.trans (hb.mono B2.out.size))
        clear hb
        go_wp2
        go_roundw
        case rel => exact ⟨k + 1, b2, b3, rfl, rfl, by simp, by omega, X2, Y3, G2, B2⟩
        case measure => simp [intOf]; omega
      · have hp1 : (k : Int) % 2 = 1 := by omega
        have hp2 : Int.tmod (k : Int) 2 = 1 := by rw [Int.tmod_eq_emod_of_nonneg (by omega)]; exact hp1
        have hx : (⟨#[97, 10]⟩ : ByteArray).extract 1 2 = ⟨#[10]⟩ := by decide
        have ex : xs (k + 1) = put (xs k) k k [10] := by
          have e := put_end (xs k) [10]
          rw [xs_len] at e
          rw [e, xs, if_neg (by omega)]
        have cX : ∀ w', Rp w' bx (xs k) → Calls Try.prog 10 #[.pointer (some ⟨bx, 0, none⟩), .agg #[.int .i64 k, .int .i64 k], .string ⟨#[10]⟩] w' fun e w1 => ∃ b2, e = .returned (.tuple #[.pointer (some ⟨b2, 0, none⟩), .int .i64 0]) ∧ Rp w1 b2 (xs (k + 1)) ∧ Below w'.heap.size w' w1 := fun w' h => by
          rw [ex]
          exact rp_replace_i w' bx _ h (by rw [xs_len]; omega) k k k k rfl rfl ⟨#[10]⟩ (by omega) (by rw [xs_len]; omega) (by rw [xs_len]; show k - (k - k) + 1 ≤ 65536; omega)
        clear ex
        have hwq : IntKind.i64.wrap 1 = 1 := by decide
        have hwr : IntKind.i64.wrap 2 = 2 := by decide
        have hws : IntKind.i64.wrap (0 + 1) = 1 := by decide
        have hwt : IntKind.i64.wrap (1 + 1) = 2 := by decide
        go_wp2
        go_region_held3 (fun _ => True) (first | exact trivial) (first | (go_at_call 11; (with_reducible refine Calls.mono (sp_any _ _ _) ?_); rintro e v1 ⟨rfl, hb1⟩) | (go_at_call 10; (with_reducible refine Calls.mono (cX v1 (hX.out.below (Nat.le_refl _) ((Below.refl _ _).drew.trans hb1))) ?_); rintro e v2 ⟨b2, rfl, kx, hb2⟩))
        have gg := gcall ((Below.refl wr.heap.size wr).drew.trans hb1) hb2
        have X2 := Lib.hid kx
        have Y2 := Lib.hid (hY.out.below (Nat.le_refl _) gg)
        have G2 := Lib.hid (hG.out.below (Nat.le_refl _) gg)
        have B2 := Lib.hid (hB.out.trans (gg.mono hB.out.size))
        clear gg kx hb1 hb2 cX
        go_wp2_with fail
        refine (sp_any _ _ _).mono ?_
        rintro e u1_ ⟨rfl, hb⟩
        replace X2 := Lib.hid (X2.out.below (Nat.le_refl _) hb)
        replace Y2 := Lib.hid (Y2.out.below (Nat.le_refl _) hb)
        replace G2 := Lib.hid (G2.out.below (Nat.le_refl _) hb)
        replace B2 := Lib.hid (B2.out.trans (hb.mono B2.out.size))
        clear hb
        go_wp2_with fail
        refine (cY _ Y2.out).mono ?_
        rintro e u2_ ⟨b3, rfl, kk, hb⟩
        have Y3 := Lib.hid kk
        clear kk
        replace X2 := Lib.hid (X2.out.below (Nat.le_refl _) hb)
        replace G2 := Lib.hid (G2.out.below (Nat.le_refl _) hb)
        replace B2 := Lib.hid (B2.out.trans (hb.mono B2.out.size))
        clear hb
        go_wp2_with fail
        refine (dX _ b2 X2.out).mono ?_
        rintro e u3_ ⟨d1, ⟨rfl, hd1⟩, hb⟩
        replace X2 := Lib.hid (X2.out.below (Nat.le_refl _) hb)
        replace Y3 := Lib.hid (Y3.out.below (Nat.le_refl _) hb)
        replace G2 := Lib.hid (G2.out.below (Nat.le_refl _) hb)
        replace B2 := Lib.hid (B2.out.trans (hb.mono B2.out.size))
        clear hb
        go_wp2_with fail
        refine (dY _ b3 Y3.out).mono ?_
        rintro e u4_ ⟨d2, ⟨rfl, hd2⟩, hb⟩
        replace X2 := Lib.hid (X2.out.below (Nat.le_refl _) hb)
        replace Y3 := Lib.hid (Y3.out.below (Nat.le_refl _) hb)
        replace G2 := Lib.hid (G2.out.below (Nat.le_refl _) hb)
        replace B2 := Lib.hid (B2.out.trans (hb.mono B2.out.size))
        clear hb
        go_wp2
        go_roundw
        case rel => exact ⟨k + 1, b2, b3, rfl, rfl, by simp, by omega, X2, Y3, G2, B2⟩
        case measure => simp [intOf]; omega
    · have hk2 : k = 1500 := by omega
      subst hk2
      clear hlt hk
      have hlt' : ¬ ((1500 : Nat) : Int) < 1500 := by omega
      go_wp2_with fail
      refine (m4 _).mono ?_
      rintro e q1 ⟨rfl, hb⟩
      have X1 := Lib.hid (hX.out.below (Nat.le_refl _) hb)
      have G1 := Lib.hid (hG.out.below (Nat.le_refl _) hb)
      have B1 := Lib.hid (hB.out.trans (hb.mono hB.out.size))
      clear hb hX hY hG hB m4
      go_wp2
      go_loopw [30, 32] (fun z i wr => ∃ (k bz : Nat), z = .pointer (some ⟨bz, 0, none⟩) ∧ i = .int .i64 k ∧ k ≤ 500 ∧ Hid (Rp wr bz (zs S5.data.toList k)) ∧ Hid (Rp wr bx (xs 1500)) ∧ Hid (Below w.heap.size w wr)) (fun _ i _ => 500 - (intOf i).toNat)
      case atStart => exact ⟨0, bg, rfl, rfl, by omega, Lib.hid G1.out, X1, B1⟩
      case round =>
        clear X1 G1 B1
        obtain ⟨k, bz, rfl, rfl, hk, hZ, hX, hB⟩ := hrel
        by_cases hlt2 : k < 500
        · have hlt2' : (k : Int) < 500 := by omega
          have c1 := HcZ.out k hlt2
          have c2 := HdZ.out k hlt2
          have hw1 : IntKind.i64.wrap (120 * (k : Int)) = 120 * (k : Int) := IntWalk.i64_in _ (by omega)
          go_wp2_with fail
          refine (sp_any _ _ _).mono ?_
          rintro e q2 ⟨rfl, hb⟩
          have Z2 := Lib.hid (hZ.out.below (Nat.le_refl _) hb)
          have X2 := Lib.hid (hX.out.below (Nat.le_refl _) hb)
          have B2 := Lib.hid (hB.out.trans (hb.mono hB.out.size))
          clear hb
          go_wp2_with fail
          refine (c1 _ bz Z2.out).mono ?_
          rintro e q3 ⟨b2, rfl, kk, hb⟩
          have Z3 := Lib.hid kk
          have X3 := Lib.hid (X2.out.below (Nat.le_refl _) hb)
          have B3 := Lib.hid (B2.out.trans (hb.mono B2.out.size))
          clear hb kk
          go_wp2_with fail
          refine (c2 _ b2 Z3.out).mono ?_
          rintro e q4 ⟨d1, ⟨rfl, hd1⟩, hb⟩
          have Z4 := Lib.hid (Z3.out.below (Nat.le_refl _) hb)
          have X4 := Lib.hid (X3.out.below (Nat.le_refl _) hb)
          have B4 := Lib.hid (B3.out.trans (hb.mono B3.out.size))
          clear hb
          go_wp2
          go_roundw
          case rel => exact ⟨k + 1, b2, rfl, by simp, by omega, Z4, X4, B4⟩
          case measure => simp [intOf]; omega
        · have hlt2' : ¬ (k : Int) < 500 := by omega
          have X := hX
          have BB := hB
          go_wp2_with fail
          refine (HLx.out _ bx X.out).mono ?_
          rintro e w27 ⟨rfl, hb⟩
          replace X := Lib.hid (X.out.below (Nat.le_refl _) hb)
          replace BB := Lib.hid (BB.out.trans (hb.mono BB.out.size))
          clear hb
          go_wp2_with fail
          refine (sp_any _ _ _).mono ?_
          rintro e w28 ⟨rfl, hb⟩
          replace X := Lib.hid (X.out.below (Nat.le_refl _) hb)
          replace BB := Lib.hid (BB.out.trans (hb.mono BB.out.size))
          clear hb
          go_wp2_with fail
          refine (slice_nil _ _ _).mono ?_
          rintro e w29 ⟨rfl, hb⟩
          replace X := Lib.hid (X.out.below (Nat.le_refl _) hb)
          replace BB := Lib.hid (BB.out.trans (hb.mono BB.out.size))
          clear hb
          go_wp2_with fail
          refine (sp_any _ _ _).mono ?_
          rintro e w30 ⟨rfl, hb⟩
          replace X := Lib.hid (X.out.below (Nat.le_refl _) hb)
          replace BB := Lib.hid (BB.out.trans (hb.mono BB.out.size))
          clear hb
          go_wp2_with fail
          refine (replace_nil _ _ _ _).mono ?_
          rintro e w31 ⟨rfl, hb⟩
          replace X := Lib.hid (X.out.below (Nat.le_refl _) hb)
          replace BB := Lib.hid (BB.out.trans (hb.mono BB.out.size))
          clear hb
          go_wp2_with fail
          refine (line_nil _ _).mono ?_
          rintro e w32 ⟨rfl, rfl⟩
          go_wp2_with fail
          refine (ahead_nil _ _).mono ?_
          rintro e w33 ⟨rfl, rfl⟩
          go_wp2_with fail
          refine (HEx.out _ bx X.out).mono ?_
          rintro e w34 ⟨rfl, hb⟩
          replace X := Lib.hid (X.out.below (Nat.le_refl _) hb)
          replace BB := Lib.hid (BB.out.trans (hb.mono BB.out.size))
          clear hb
          go_wp2_with fail
          refine (len_nil _).mono ?_
          rintro e w35 ⟨rfl, hb⟩
          replace X := Lib.hid (X.out.below (Nat.le_refl _) hb)
          replace BB := Lib.hid (BB.out.trans (hb.mono BB.out.size))
          clear hb
          go_wp2_with fail
          refine (ends_nil _).mono ?_
          rintro e w36 ⟨rfl, hb⟩
          replace X := Lib.hid (X.out.below (Nat.le_refl _) hb)
          replace BB := Lib.hid (BB.out.trans (hb.mono BB.out.size))
          clear hb
          go_wp2_with fail
          refine (depth_nil _).mono ?_
          rintro e w37 ⟨rfl, hb⟩
          replace X := Lib.hid (X.out.below (Nat.le_refl _) hb)
          replace BB := Lib.hid (BB.out.trans (hb.mono BB.out.size))
          clear hb
          go_wp2_with fail
          refine (string_nil _).mono ?_
          rintro e w38 ⟨rfl, hb⟩
          replace X := Lib.hid (X.out.below (Nat.le_refl _) hb)
          replace BB := Lib.hid (BB.out.trans (hb.mono BB.out.size))
          clear hb
          go_wp2
          go_ret
          exact ⟨rfl, BB.out⟩
end Go.Proofs.Ytbmcgmnmmnileaa
