/-
  Plain facts on the decoder (no program): what decodeN answers, by the kinds of bytes; which bytes a character has.
-/
import Derived.Test.YtfhkahnajjbohaaDoorB
namespace Go.Proofs.YtfhkahnajjbohaaDoor

/-- The four kinds of bytes that are a code point's. -/
def K2 (n a b : Nat) : Prop := 2 ≤ n ∧ 194 ≤ a ∧ a < 224 ∧ 128 ≤ b ∧ b < 192
def K3 (n a b c : Nat) : Prop := 3 ≤ n ∧ 224 ≤ a ∧ a < 240 ∧ 128 ≤ b ∧ b < 192 ∧ 128 ≤ c ∧ c < 192 ∧ 2048 ≤ (a - 224) * 4096 + (b - 128) * 64 + (c - 128) ∧ ((a - 224) * 4096 + (b - 128) * 64 + (c - 128) < 55296 ∨ 57344 ≤ (a - 224) * 4096 + (b - 128) * 64 + (c - 128))
def K4 (n a b c d : Nat) : Prop := 4 ≤ n ∧ 240 ≤ a ∧ a < 248 ∧ 128 ≤ b ∧ b < 192 ∧ 128 ≤ c ∧ c < 192 ∧ 128 ≤ d ∧ d < 192 ∧ 65536 ≤ (a - 240) * 262144 + (b - 128) * 4096 + (c - 128) * 64 + (d - 128) ∧ (a - 240) * 262144 + (b - 128) * 4096 + (c - 128) * 64 + (d - 128) ≤ 1114111

theorem decodeN_kinds (n a b c d : Nat) (ha : a < 256) (hb : b < 256) (hc : c < 256) (hd : d < 256) :
    (a < 128 ∧ Lib.decodeN n a b c d = (a, 1)) ∨
    (128 ≤ a ∧ K2 n a b ∧ Lib.decodeN n a b c d = ((a - 192) * 64 + (b - 128), 2)) ∨
    (128 ≤ a ∧ ¬ K2 n a b ∧ K3 n a b c ∧ Lib.decodeN n a b c d = ((a - 224) * 4096 + (b - 128) * 64 + (c - 128), 3)) ∨
    (128 ≤ a ∧ ¬ K2 n a b ∧ ¬ K3 n a b c ∧ K4 n a b c d ∧ Lib.decodeN n a b c d = ((a - 240) * 262144 + (b - 128) * 4096 + (c - 128) * 64 + (d - 128), 4)) ∨
    (128 ≤ a ∧ ¬ K2 n a b ∧ ¬ K3 n a b c ∧ ¬ K4 n a b c d ∧ Lib.decodeN n a b c d = (65533, 1)) := by
  by_cases h1 : a < 128
  · exact .inl ⟨h1, by simp [Lib.decodeN, h1]⟩
  · refine .inr ?_
    by_cases h2 : K2 n a b
    · refine .inl ⟨by omega, h2, ?_⟩
      unfold K2 at h2
      unfold Lib.decodeN
      rw [if_neg h1, if_pos (by omega), if_pos (by omega)]
      simp only [Prod.mk.injEq, and_true]
      omega
    · refine .inr ?_
      by_cases h3 : K3 n a b c
      · refine .inl ⟨by omega, h2, h3, ?_⟩
        unfold K3 at h3
        unfold Lib.decodeN
        rw [if_neg h1, if_neg (by omega), if_pos (by omega), if_pos (by omega)]
        simp only [Prod.mk.injEq, and_true]
        omega
      · refine .inr ?_
        by_cases h4 : K4 n a b c d
        · refine .inl ⟨by omega, h2, h3, h4, ?_⟩
          unfold K4 at h4
          unfold Lib.decodeN
          rw [if_neg h1, if_neg (by omega), if_neg (by omega), if_pos (by omega), if_pos (by omega)]
          simp only [Prod.mk.injEq, and_true]
          omega
        · refine .inr ⟨by omega, h2, h3, h4, ?_⟩
          unfold K2 at h2; unfold K3 at h3; unfold K4 at h4
          unfold Lib.decodeN
          rw [if_neg h1]
          split
          · rw [if_neg (by omega)]
          · split
            · rw [if_neg (by omega)]
            · split
              · rw [if_neg (by omega)]
              · rfl

theorem get!_lt256 (s : ByteArray) (k : Nat) : (s.get! k).toNat < 256 := (s.get! k).toNat_lt
/-- Where a character of one unit below 128 stands, it is that byte; else all its bytes are 128 or above. -/
theorem decode_bytes (s : ByteArray) (p : Nat) :
    ((Utf8.decode s p).1 < 128 ∧ (Utf8.decode s p).2 = 1 ∧ (Utf8.decode s p).1 = (s.get! p).toNat) ∨
    (128 ≤ (Utf8.decode s p).1 ∧ ∀ j, j < (Utf8.decode s p).2 → 128 ≤ (s.get! (p + j)).toNat) := by
  rw [Lib.decode_at]
  have ha := get!_lt256 s p
  have hb := get!_lt256 s (p + 1)
  have hc := get!_lt256 s (p + 2)
  have hd := get!_lt256 s (p + 3)
  rcases decodeN_kinds (s.size - p) (s.get! p).toNat (s.get! (p + 1)).toNat (s.get! (p + 2)).toNat (s.get! (p + 3)).toNat ha hb hc hd with ⟨h, e⟩ | ⟨h, k, e⟩ | ⟨h, _, k, e⟩ | ⟨h, _, _, k, e⟩ | ⟨h, _, _, _, e⟩ <;> rw [e]
  · exact .inl ⟨h, rfl, rfl⟩
  · obtain ⟨_, k1, k2, k3, k4⟩ := k
    refine .inr ⟨by simp only; omega, fun j hj => ?_⟩
    simp only at hj
    rcases (by omega : j = 0 ∨ j = 1) with rfl | rfl
    · exact h
    · exact k3
  · unfold K3 at k
    refine .inr ⟨by simp only; omega, fun j hj => ?_⟩
    simp only at hj
    rcases (by omega : j = 0 ∨ j = 1 ∨ j = 2) with rfl | rfl | rfl
    · exact h
    · omega
    · omega
  · unfold K4 at k
    refine .inr ⟨by simp only; omega, fun j hj => ?_⟩
    simp only at hj
    rcases (by omega : j = 0 ∨ j = 1 ∨ j = 2 ∨ j = 3) with rfl | rfl | rfl | rfl
    · exact h
    all_goals omega
  · refine .inr ⟨by simp only; omega, fun j hj => ?_⟩
    simp only at hj
    obtain rfl : j = 0 := by omega
    exact h
end Go.Proofs.YtfhkahnajjbohaaDoor
