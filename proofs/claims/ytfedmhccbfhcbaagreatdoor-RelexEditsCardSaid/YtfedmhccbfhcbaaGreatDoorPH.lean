/-
  The reference's first character is what the decoder answers.
-/
import Derived.Test.YtfedmhccbfhcbaaGreatDoorPF
import Derived.Test.YtfedmhccbfhcbaaGreatDoorPG
namespace Go.Proofs.YtfedmhccbfhcbaaGreatDoor.Utf

theorem get!_list (s : ByteArray) (i : Nat) (h : i < s.size) : s.data.toList[i]? = some (s.get! i) := by
  rw [get!_lt s i h]
  have : i < s.data.toList.length := by rw [← Lib.size_eq]; exact h
  rw [List.getElem?_eq_getElem this]
  rfl
theorem extract_list (s : ByteArray) (i j : Nat) : (s.extract i j).data.toList = (s.data.toList.take j).drop i := by
  rw [Lib.extract_eq, List.drop_take]
theorem get!_extract (s : ByteArray) (k i : Nat) (h : k ≤ s.size) (hi : i < k) : (s.extract 0 k).get! i = s.get! i := by
  have hz : (s.extract 0 k).size = k := by simp; omega
  have h1 := get!_list (s.extract 0 k) i (by omega)
  rw [extract_list, List.drop_zero, List.getElem?_take_of_lt hi, get!_list s i (by omega)] at h1
  exact (Option.some.inj h1).symm
theorem take_nums (s : ByteArray) (k : Nat) (h : k ≤ s.size) : (s.extract 0 k).data.toList.map (·.toNat) = (List.range k).map fun i => (s.get! i).toNat := by
  apply List.ext_getElem?
  intro i
  rw [extract_list, List.drop_zero]
  by_cases hi : i < k
  · rw [List.getElem?_map, List.getElem?_take_of_lt hi, get!_list s i (by omega)]
    simp [hi]
  · rw [List.getElem?_eq_none (by simp; omega), List.getElem?_eq_none (by simp; omega)]
theorem map_toNat_inj {l m : List UInt8} (h : l.map (·.toNat) = m.map (·.toNat)) : l = m := by
  exact List.map_inj_right (fun x y hxy => UInt8.toNat_inj.1 hxy) |>.1 h
theorem cand_iff (s : ByteArray) (k : Nat) (h : k ≤ s.size) : cand s k = true ↔ (0 ≤ bitsB (s.extract 0 k) ∧ putN (bitsB (s.extract 0 k)) = (List.range k).map fun i => (s.get! i).toNat) := by
  unfold cand
  rw [Bool.and_eq_true, decide_eq_true_eq, beq_iff_eq, ← take_nums s k h, ← putB_toList, Lib.toList_data, Lib.toList_data]
  constructor
  · rintro ⟨h1, h2⟩; exact ⟨h1, by rw [h2]⟩
  · rintro ⟨h1, h2⟩; exact ⟨h1, map_toNat_inj h2⟩

theorem bits1 (s : ByteArray) (h : 1 ≤ s.size) : bitsB (s.extract 0 1) = ((s.get! 0).toNat : Int) := by
  have hz : (s.extract 0 1).size = 1 := by simp; omega
  rw [bitsB, if_pos hz, get!_extract s 1 0 h (by omega)]
theorem bits2 (s : ByteArray) (h : 2 ≤ s.size) : bitsB (s.extract 0 2) = (((s.get! 0).toNat : Int) - 192) * 64 + (s.get! 1).toNat - 128 := by
  have hz : (s.extract 0 2).size = 2 := by simp; omega
  rw [bitsB, if_neg (by omega), if_pos hz]
  show (((s.extract 0 2).get! 0).toNat - 192 : Int) * 64 + ((s.extract 0 2).get! 1).toNat - 128 = _
  rw [get!_extract s 2 0 h (by omega), get!_extract s 2 1 h (by omega)]
theorem bits3 (s : ByteArray) (h : 3 ≤ s.size) : bitsB (s.extract 0 3) = ((((s.get! 0).toNat : Int) - 224) * 64 + (s.get! 1).toNat - 128) * 64 + (s.get! 2).toNat - 128 := by
  have hz : (s.extract 0 3).size = 3 := by simp; omega
  rw [bitsB, if_neg (by omega), if_neg (by omega), if_pos hz]
  show ((((s.extract 0 3).get! 0).toNat - 224 : Int) * 64 + ((s.extract 0 3).get! 1).toNat - 128) * 64 + ((s.extract 0 3).get! 2).toNat - 128 = _
  rw [get!_extract s 3 0 h (by omega), get!_extract s 3 1 h (by omega), get!_extract s 3 2 h (by omega)]
theorem bits4 (s : ByteArray) (h : 4 ≤ s.size) : bitsB (s.extract 0 4) = (((((s.get! 0).toNat : Int) - 240) * 64 + (s.get! 1).toNat - 128) * 64 + (s.get! 2).toNat - 128) * 64 + (s.get! 3).toNat - 128 := by
  have hz : (s.extract 0 4).size = 4 := by simp; omega
  rw [bitsB, if_neg (by omega), if_neg (by omega), if_neg (by omega)]
  show (((((s.extract 0 4).get! 0).toNat - 240 : Int) * 64 + ((s.extract 0 4).get! 1).toNat - 128) * 64 + ((s.extract 0 4).get! 2).toNat - 128) * 64 + ((s.extract 0 4).get! 3).toNat - 128 = _
  rw [get!_extract s 4 0 h (by omega), get!_extract s 4 1 h (by omega), get!_extract s 4 2 h (by omega), get!_extract s 4 3 h (by omega)]

theorem put1 (a : Nat) (ha : a < 256) : (0 ≤ (a : Int) ∧ putN a = [a]) ↔ a < 128 := by
  unfold putN
  rw [if_neg (by omega)]
  by_cases h : a < 128
  · rw [if_pos (by omega)]; simp [h]
  · rw [if_neg (by omega), if_pos (by omega)]
    simp; omega
theorem put2 (n a b : Nat) (hn : 2 ≤ n) (ha : a < 256) (hb : b < 256) : (0 ≤ ((a : Int) - 192) * 64 + b - 128 ∧ putN (((a : Int) - 192) * 64 + b - 128) = [a, b]) ↔ K2 n a b := by
  generalize hp : ((a : Int) - 192) * 64 + b - 128 = p
  unfold putN K2
  split
  · simp; omega
  · split
    · simp; omega
    · split
      · simp only [List.cons.injEq, and_true]; omega
      · split
        · simp; omega
        · simp; omega
theorem put3 (n a b c : Nat) (hn : 3 ≤ n) (ha : a < 256) (hb : b < 256) (hc : c < 256) : (0 ≤ (((a : Int) - 224) * 64 + b - 128) * 64 + c - 128 ∧ putN ((((a : Int) - 224) * 64 + b - 128) * 64 + c - 128) = [a, b, c]) ↔ K3 n a b c := by
  generalize hp : (((a : Int) - 224) * 64 + b - 128) * 64 + c - 128 = p
  unfold putN K3
  split
  · simp; omega
  · split
    · simp; omega
    · split
      · simp; omega
      · split
        · simp only [List.cons.injEq, and_true]; omega
        · simp; omega
theorem put4 (n a b c d : Nat) (hn : 4 ≤ n) (ha : a < 256) (hb : b < 256) (hc : c < 256) (hd : d < 256) : (0 ≤ ((((a : Int) - 240) * 64 + b - 128) * 64 + c - 128) * 64 + d - 128 ∧ putN (((((a : Int) - 240) * 64 + b - 128) * 64 + c - 128) * 64 + d - 128) = [a, b, c, d]) ↔ K4 n a b c d := by
  generalize hp : ((((a : Int) - 240) * 64 + b - 128) * 64 + c - 128) * 64 + d - 128 = p
  unfold putN K4
  split
  · simp; omega
  · split
    · simp; omega
    · split
      · simp; omega
      · split
        · simp; omega
        · simp only [List.cons.injEq, and_true]; omega

theorem cand1 (s : ByteArray) (h : 1 ≤ s.size) : cand s 1 = true ↔ (s.get! 0).toNat < 128 := by
  rw [cand_iff s 1 h, bits1 s h]; exact put1 _ (s.get! 0).toNat_lt
theorem cand2 (s : ByteArray) (h : 2 ≤ s.size) : cand s 2 = true ↔ K2 s.size (s.get! 0).toNat (s.get! 1).toNat := by
  rw [cand_iff s 2 h, bits2 s h]; exact put2 _ _ _ h (s.get! 0).toNat_lt (s.get! 1).toNat_lt
theorem cand3 (s : ByteArray) (h : 3 ≤ s.size) : cand s 3 = true ↔ K3 s.size (s.get! 0).toNat (s.get! 1).toNat (s.get! 2).toNat := by
  rw [cand_iff s 3 h, bits3 s h]; exact put3 _ _ _ _ h (s.get! 0).toNat_lt (s.get! 1).toNat_lt (s.get! 2).toNat_lt
theorem cand4 (s : ByteArray) (h : 4 ≤ s.size) : cand s 4 = true ↔ K4 s.size (s.get! 0).toNat (s.get! 1).toNat (s.get! 2).toNat (s.get! 3).toNat := by
  rw [cand_iff s 4 h, bits4 s h]; exact put4 _ _ _ _ _ h (s.get! 0).toNat_lt (s.get! 1).toNat_lt (s.get! 2).toNat_lt (s.get! 3).toNat_lt

theorem decodeGo_N (s : ByteArray) (h : 0 < s.size) : Lib.decodeGo s = Lib.decodeN s.size (s.get! 0).toNat (s.get! 1).toNat (s.get! 2).toNat (s.get! 3).toNat := by
  rw [Lib.decodeGo, if_neg (by omega), Lib.decode_at]; simp

/-- What the first character's code point and number of bytes are, by kinds. -/
theorem rune_kinds (s : ByteArray) (h : 0 < s.size) :
    ((s.get! 0).toNat < 128 ∧ rp s = (s.get! 0).toNat ∧ rn s = 1) ∨
    (128 ≤ (s.get! 0).toNat ∧ K2 s.size (s.get! 0).toNat (s.get! 1).toNat ∧ rp s = (((s.get! 0).toNat - 192) * 64 + ((s.get! 1).toNat - 128) : Nat) ∧ rn s = 2) ∨
    (128 ≤ (s.get! 0).toNat ∧ ¬ K2 s.size (s.get! 0).toNat (s.get! 1).toNat ∧ K3 s.size (s.get! 0).toNat (s.get! 1).toNat (s.get! 2).toNat ∧ rp s = (((s.get! 0).toNat - 224) * 4096 + ((s.get! 1).toNat - 128) * 64 + ((s.get! 2).toNat - 128) : Nat) ∧ rn s = 3) ∨
    (128 ≤ (s.get! 0).toNat ∧ ¬ K2 s.size (s.get! 0).toNat (s.get! 1).toNat ∧ ¬ K3 s.size (s.get! 0).toNat (s.get! 1).toNat (s.get! 2).toNat ∧ K4 s.size (s.get! 0).toNat (s.get! 1).toNat (s.get! 2).toNat (s.get! 3).toNat ∧ rp s = (((s.get! 0).toNat - 240) * 262144 + ((s.get! 1).toNat - 128) * 4096 + ((s.get! 2).toNat - 128) * 64 + ((s.get! 3).toNat - 128) : Nat) ∧ rn s = 4) ∨
    (128 ≤ (s.get! 0).toNat ∧ ¬ K2 s.size (s.get! 0).toNat (s.get! 1).toNat ∧ ¬ K3 s.size (s.get! 0).toNat (s.get! 1).toNat (s.get! 2).toNat ∧ ¬ K4 s.size (s.get! 0).toNat (s.get! 1).toNat (s.get! 2).toNat (s.get! 3).toNat ∧ rp s = -1 ∧ rn s = 1) := by
  have l0 := (s.get! 0).toNat_lt
  rcases decodeN_kinds s.size _ _ _ _ l0 (s.get! 1).toNat_lt (s.get! 2).toNat_lt (s.get! 3).toNat_lt with ⟨h1, h2⟩ | ⟨h1, h2, h3⟩ | ⟨h1, h2, h3, h4⟩ | ⟨h1, h2, h3, h4, h5⟩ | ⟨h1, h2, h3, h4, h5⟩
  · refine .inl ⟨h1, ?_, ?_⟩
    · rw [rp, decodeGo_N s h, h2]; exact if_neg (by omega)
    · rw [rn, decodeGo_N s h, h2]
  · refine .inr (.inl ⟨h1, h2, ?_, ?_⟩)
    · rw [rp, decodeGo_N s h, h3]; exact if_neg (by omega)
    · rw [rn, decodeGo_N s h, h3]
  · refine .inr (.inr (.inl ⟨h1, h2, h3, ?_, ?_⟩))
    · rw [rp, decodeGo_N s h, h4]; exact if_neg (by omega)
    · rw [rn, decodeGo_N s h, h4]
  · refine .inr (.inr (.inr (.inl ⟨h1, h2, h3, h4, ?_, ?_⟩)))
    · rw [rp, decodeGo_N s h, h5]; exact if_neg (by omega)
    · rw [rn, decodeGo_N s h, h5]
  · refine .inr (.inr (.inr (.inr ⟨h1, h2, h3, h4, ?_, ?_⟩)))
    · rw [rp, decodeGo_N s h, h5]; rfl
    · rw [rn, decodeGo_N s h, h5]

theorem rf_succ (s : ByteArray) (f k : Nat) : rf s (f + 1) k = if k ≤ s.size then (if cand s k then (bitsB (s.extract 0 k), k) else rf s f (k + 1)) else (-1, 1) := rfl
theorem rf_yes (s : ByteArray) (f k : Nat) (h : k ≤ s.size) (hc : cand s k = true) : rf s (f + 1) k = (bitsB (s.extract 0 k), k) := by rw [rf_succ, if_pos h, if_pos hc]
theorem rf_no (s : ByteArray) (f k : Nat) (h : k ≤ s.size → ¬ cand s k = true) (he : s.size < k → rf s f (k + 1) = (-1, 1)) : rf s (f + 1) k = rf s f (k + 1) := by
  rw [rf_succ]
  by_cases hk : k ≤ s.size
  · rw [if_pos hk, if_neg (h hk)]
  · rw [if_neg hk, he (by omega)]
theorem rf_past (s : ByteArray) : ∀ (f k : Nat), s.size < k → rf s f k = (-1, 1)
  | 0, _, _ => rfl
  | f + 1, k, h => by rw [rf_succ, if_neg (by omega)]

theorem rf_eq (s : ByteArray) : rfAll s = (rp s, rn s) := by
  by_cases h : s.size = 0
  · rw [rfAll, if_pos h, rp, rn, Lib.decodeGo, if_pos h]; rfl
  · rw [rfAll, if_neg h]
    have n1 : 128 ≤ (s.get! 0).toNat → rf s 4 1 = rf s 3 2 := fun hh => rf_no s 3 1 (fun hk hc => by have := (cand1 s hk).1 hc; omega) (fun hk => rf_past s _ _ (by omega))
    have n2 : ¬ K2 s.size (s.get! 0).toNat (s.get! 1).toNat → rf s 3 2 = rf s 2 3 := fun hh => rf_no s 2 2 (fun hk hc => hh ((cand2 s hk).1 hc)) (fun hk => rf_past s _ _ (by omega))
    have n3 : ¬ K3 s.size (s.get! 0).toNat (s.get! 1).toNat (s.get! 2).toNat → rf s 2 3 = rf s 1 4 := fun hh => rf_no s 1 3 (fun hk hc => hh ((cand3 s hk).1 hc)) (fun hk => rf_past s _ _ (by omega))
    have n4 : ¬ K4 s.size (s.get! 0).toNat (s.get! 1).toNat (s.get! 2).toNat (s.get! 3).toNat → rf s 1 4 = rf s 0 5 := fun hh => rf_no s 0 4 (fun hk hc => hh ((cand4 s hk).1 hc)) (fun hk => rf_past s _ _ (by omega))
    rcases rune_kinds s (by omega) with ⟨h1, h2, h3⟩ | ⟨h1, h2, h3, h4⟩ | ⟨h1, h2, h3, h4, h5⟩ | ⟨h1, h2, h3, h4, h5, h6⟩ | ⟨h1, h2, h3, h4, h5, h6⟩
    · rw [rf_yes s 3 1 (by omega) ((cand1 s (by omega)).2 h1), bits1 s (by omega), h2, h3]
    · have hz := h2.1
      rw [n1 h1, rf_yes s 2 2 hz ((cand2 s hz).2 h2), bits2 s hz, h3, h4]
      unfold K2 at h2
      simp only [Prod.mk.injEq, and_true]; omega
    · have hz := h3.1
      rw [n1 h1, n2 h2, rf_yes s 1 3 hz ((cand3 s hz).2 h3), bits3 s hz, h4, h5]
      unfold K3 at h3
      simp only [Prod.mk.injEq, and_true]; omega
    · have hz := h4.1
      rw [n1 h1, n2 h2, n3 h3, rf_yes s 0 4 hz ((cand4 s hz).2 h4), bits4 s hz, h5, h6]
      unfold K4 at h4
      simp only [Prod.mk.injEq, and_true]; omega
    · rw [n1 h1, n2 h2, n3 h3, n4 h4, h5, h6]; rfl

theorem rrune_any (s : ByteArray) (w : World) :
    Calls Tryz.prog 27 #[.string s] w fun e w' => e = .returned (.tuple #[.int .i64 (rp s), .int .i64 (rn s)]) ∧ RowKit.Below w.heap.size w w' := by
  have := rrune_rf s w
  rw [rf_eq] at this
  exact this
end Go.Proofs.YtfedmhccbfhcbaaGreatDoor.Utf
