/-
  Plain facts on code points and their bytes (no program): what decodeN answers; which bytes putB makes.
-/
import Derived.Test.YtfedmhccbfhcbaaGreatDoorPB
namespace Go.Proofs.YtfedmhccbfhcbaaGreatDoor.Utf

/-- The bytes of a code point, as numbers. -/
def putN (p : Int) : List Nat :=
  if p < 0 ∨ 1114111 < p ∨ (55296 ≤ p ∧ p ≤ 57343) then []
  else if p < 128 then [p.toNat]
  else if p < 2048 then [192 + p.toNat / 64, 128 + p.toNat % 64]
  else if p < 65536 then [224 + p.toNat / 4096, 128 + p.toNat / 64 % 64, 128 + p.toNat % 64]
  else [240 + p.toNat / 262144, 128 + p.toNat / 4096 % 64, 128 + p.toNat / 64 % 64, 128 + p.toNat % 64]
theorem toNat_ofNat8 (n : Nat) (h : n < 256) : (UInt8.ofNat n).toNat = n := by
  simp [UInt8.toNat_ofNat']; omega
theorem putB_toList (p : Int) : (putB p).data.toList.map (·.toNat) = putN p := by
  rcases (by omega : (p < 0 ∨ 1114111 < p ∨ (55296 ≤ p ∧ p ≤ 57343)) ∨ (0 ≤ p ∧ p < 128) ∨ (128 ≤ p ∧ p < 2048) ∨ (2048 ≤ p ∧ p < 65536 ∧ (p < 55296 ∨ 57343 < p)) ∨ (65536 ≤ p ∧ p ≤ 1114111)) with h | ⟨h, h2⟩ | ⟨h, h2⟩ | ⟨h, h2, h3⟩ | ⟨h, h2⟩
  · rw [show putB p = ⟨#[]⟩ by simp [putB, isPt_no (n := p) (by omega)], putN, if_pos h]; rfl
  · rw [put_eq1 p h h2, putN, if_neg (by omega), if_pos h2]
    simp only [strOfNums, List.map_cons, List.map_nil]
    rw [toNat_ofNat8 _ (by omega)]
  · rw [put_eq2 p h h2, putN, if_neg (by omega), if_neg (by omega), if_pos h2]
    simp only [strOfNums, List.map_cons, List.map_nil]
    rw [toNat_ofNat8 _ (by omega), toNat_ofNat8 _ (by omega), show (192 + p / 64).toNat = 192 + p.toNat / 64 by omega, show (128 + p % 64).toNat = 128 + p.toNat % 64 by omega]
  · rw [put_eq3 p h h2 h3, putN, if_neg (by omega), if_neg (by omega), if_neg (by omega), if_pos h2]
    simp only [strOfNums, List.map_cons, List.map_nil]
    rw [toNat_ofNat8 _ (by omega), toNat_ofNat8 _ (by omega), toNat_ofNat8 _ (by omega), show (224 + p / 4096).toNat = 224 + p.toNat / 4096 by omega, show (128 + p / 64 % 64).toNat = 128 + p.toNat / 64 % 64 by omega, show (128 + p % 64).toNat = 128 + p.toNat % 64 by omega]
  · rw [put_eq4 p h h2, putN, if_neg (by omega), if_neg (by omega), if_neg (by omega), if_neg (by omega)]
    simp only [strOfNums, List.map_cons, List.map_nil]
    rw [toNat_ofNat8 _ (by omega), toNat_ofNat8 _ (by omega), toNat_ofNat8 _ (by omega), toNat_ofNat8 _ (by omega), show (240 + p / 262144).toNat = 240 + p.toNat / 262144 by omega, show (128 + p / 4096 % 64).toNat = 128 + p.toNat / 4096 % 64 by omega, show (128 + p / 64 % 64).toNat = 128 + p.toNat / 64 % 64 by omega, show (128 + p % 64).toNat = 128 + p.toNat % 64 by omega]

/-- The four kinds of bytes that are a code point's. -/
def K2 (n a b : Nat) : Prop := 2 ≤ n ∧ 194 ≤ a ∧ a < 224 ∧ 128 ≤ b ∧ b < 192
def K3 (n a b c : Nat) : Prop := 3 ≤ n ∧ 224 ≤ a ∧ a < 240 ∧ 128 ≤ b ∧ b < 192 ∧ 128 ≤ c ∧ c < 192 ∧ 2048 ≤ (a - 224) * 4096 + (b - 128) * 64 + (c - 128) ∧ ((a - 224) * 4096 + (b - 128) * 64 + (c - 128) < 55296 ∨ 57344 ≤ (a - 224) * 4096 + (b - 128) * 64 + (c - 128))
def K4 (n a b c d : Nat) : Prop := 4 ≤ n ∧ 240 ≤ a ∧ a < 248 ∧ 128 ≤ b ∧ b < 192 ∧ 128 ≤ c ∧ c < 192 ∧ 128 ≤ d ∧ d < 192 ∧ 65536 ≤ (a - 240) * 262144 + (b - 128) * 4096 + (c - 128) * 64 + (d - 128) ∧ (a - 240) * 262144 + (b - 128) * 4096 + (c - 128) * 64 + (d - 128) ≤ 1114111

theorem decodeN_kinds (n a b c d : Nat) (ha : a < 256) (hb : b < 256) (hc : c < 256) (hd : d < 256) :
    (a < 128 ∧ Lib.decodeN n a b c d = (a, 1)) ∨
    (128 ≤ a ∧ K2 n a b ∧ Lib.decodeN n a b c d = ((a - 192) * 64 + (b - 128), 2)) ∨
    (128 ≤ a ∧ ¬ K2 n a b ∧ K3 n a b c ∧ Lib.decodeN n a b c d = ((a - 224) * 4096 + (b - 128) * 64 + (c - 128), 3)) ∨
    (128 ≤ a ∧ ¬ K2 n a b ∧ ¬ K3 n a b c ∧ K4 n a b c d ∧ Lib.decodeN n a b c d = ((a - 240) * 262144 + (b - 128) * 4096 + (c - 128) * 64 + (d - 128), 4)) ∨
    (128 ≤ a ∧ ¬ K2 n a b ∧ ¬ K3 n a b c ∧ ¬ K4 n a b c d ∧ Lib.decodeN n a b c d = (65533, 1)) := by
  by_cases h1 : a < 128
  · exact .inl ⟨h1, by simp [Lib.decodeN, h1]⟩
  · refine .inr ?_
    by_cases h2 : K2 n a b
    · refine .inl ⟨by omega, h2, ?_⟩
      unfold K2 at h2
      unfold Lib.decodeN
      rw [if_neg h1, if_pos (by omega), if_pos (by omega)]
      simp only [Prod.mk.injEq, and_true]
      omega
    · refine .inr ?_
      by_cases h3 : K3 n a b c
      · refine .inl ⟨by omega, h2, h3, ?_⟩
        unfold K3 at h3
        unfold Lib.decodeN
        rw [if_neg h1, if_neg (by omega), if_pos (by omega), if_pos (by omega)]
        simp only [Prod.mk.injEq, and_true]
        omega
      · refine .inr ?_
        by_cases h4 : K4 n a b c d
        · refine .inl ⟨by omega, h2, h3, h4, ?_⟩
          unfold K4 at h4
          unfold Lib.decodeN
          rw [if_neg h1, if_neg (by omega), if_neg (by omega), if_pos (by omega), if_pos (by omega)]
          simp only [Prod.mk.injEq, and_true]
          omega
        · refine .inr ⟨by omega, h2, h3, h4, ?_⟩
          unfold K2 at h2; unfold K3 at h3; unfold K4 at h4
          unfold Lib.decodeN
          rw [if_neg h1]
          split
          · rw [if_neg (by omega)]
          · split
            · rw [if_neg (by omega)]
            · split
              · rw [if_neg (by omega)]
              · rfl
end Go.Proofs.YtfedmhccbfhcbaaGreatDoor.Utf
