/-
  Plain facts: the characters of a text, by bytes; ways from character to character.
-/
import Derived.Test.YtfhkahnajjbohaaDoorR
namespace Go.Proofs.YtfhkahnajjbohaaDoor
open Go.RowKit Go.Shelf

def bt (s : ByteArray) (i : Nat) : Nat := (s.get! i).toNat
theorem bt_lt (s : ByteArray) (i : Nat) : bt s i < 256 := get!_lt256 s i
theorem bt_past (s : ByteArray) (i : Nat) (h : s.size ≤ i) : bt s i = 0 := by
  unfold bt
  cases s with
  | mk d => rw [show (ByteArray.mk d).get! i = d[i]! from rfl, getElem!_neg d i (by have h' : d.size ≤ i := h; omega)]; rfl

/-- At byte i stands a character of n bytes and v units. -/
def Ch (s : ByteArray) (i n v : Nat) : Prop :=
  (n = 1 ∧ v = 1 ∧ i < s.size ∧ bt s i < 128) ∨ (n = 2 ∧ v = 1 ∧ K2 (s.size - i) (bt s i) (bt s (i + 1))) ∨
  (n = 3 ∧ v = 1 ∧ K3 (s.size - i) (bt s i) (bt s (i + 1)) (bt s (i + 2))) ∨ (n = 4 ∧ v = 2 ∧ K4 (s.size - i) (bt s i) (bt s (i + 1)) (bt s (i + 2)) (bt s (i + 3)))

theorem Ch.fits {s : ByteArray} {i n v : Nat} (h : Ch s i n v) : 1 ≤ n ∧ n ≤ 4 ∧ i + n ≤ s.size ∧ 1 ≤ v ∧ v ≤ 2 := by
  rcases h with h | h | h | h <;> (try unfold K2 at h) <;> (try unfold K3 at h) <;> (try unfold K4 at h) <;> omega
theorem Ch.first {s : ByteArray} {i n v : Nat} (h : Ch s i n v) : bt s i < 128 ∨ 192 ≤ bt s i := by
  rcases h with h | h | h | h <;> (try unfold K2 at h) <;> (try unfold K3 at h) <;> (try unfold K4 at h) <;> omega
theorem Ch.later {s : ByteArray} {i n v : Nat} (h : Ch s i n v) (j : Nat) (h1 : i < j) (h2 : j < i + n) : 128 ≤ bt s j ∧ bt s j < 192 := by
  rcases h with h | h | h | h
  · omega
  · unfold K2 at h
    obtain rfl : j = i + 1 := by omega
    omega
  · unfold K3 at h
    rcases (by omega : j = i + 1 ∨ j = i + 2) with rfl | rfl <;> omega
  · unfold K4 at h
    rcases (by omega : j = i + 1 ∨ j = i + 2 ∨ j = i + 3) with rfl | rfl | rfl <;> omega
theorem Ch.ascii {s : ByteArray} {i n v : Nat} (h : Ch s i n v) (ha : bt s i < 128) : n = 1 ∧ v = 1 := by
  rcases h with h | h | h | h <;> (try unfold K2 at h) <;> (try unfold K3 at h) <;> (try unfold K4 at h) <;> omega
theorem Ch.one {s : ByteArray} {i n v m u : Nat} (h : Ch s i n v) (k : Ch s i m u) : n = m ∧ v = u := by
  rcases h with h | h | h | h <;> rcases k with k | k | k | k <;> (try unfold K2 at h) <;> (try unfold K3 at h) <;> (try unfold K4 at h) <;> (try unfold K2 at k) <;> (try unfold K3 at k) <;> (try unfold K4 at k) <;> omega
/-- A character is its bytes. -/
theorem Ch.move {s t : ByteArray} {i i' n v : Nat} (h : Ch s i n v) (hb : ∀ j, j < n → bt t (i' + j) = bt s (i + j)) (ht : i' + n ≤ t.size) : Ch t i' n v := by
  rcases h with h | h | h | h
  · have b0 := hb 0 (by omega)
    simp only [Nat.add_zero] at b0
    exact .inl ⟨h.1, h.2.1, by omega, by omega⟩
  · have b0 := hb 0 (by omega)
    have b1 := hb 1 (by omega)
    simp only [Nat.add_zero] at b0
    refine .inr (.inl ⟨h.1, h.2.1, ?_⟩)
    rw [b0, b1]; unfold K2 at *; omega
  · have b0 := hb 0 (by omega)
    have b1 := hb 1 (by omega)
    have b2 := hb 2 (by omega)
    simp only [Nat.add_zero] at b0
    refine .inr (.inr (.inl ⟨h.1, h.2.1, ?_⟩))
    rw [b0, b1, b2]; unfold K3 at *; omega
  · have b0 := hb 0 (by omega)
    have b1 := hb 1 (by omega)
    have b2 := hb 2 (by omega)
    have b3 := hb 3 (by omega)
    simp only [Nat.add_zero] at b0
    refine .inr (.inr (.inr ⟨h.1, h.2.1, ?_⟩))
    rw [b0, b1, b2, b3]; unfold K4 at *; omega

theorem decode_bt (s : ByteArray) (i : Nat) : Utf8.decode s i = Lib.decodeN (s.size - i) (bt s i) (bt s (i + 1)) (bt s (i + 2)) (bt s (i + 3)) := Lib.decode_at s i
/-- What the decoder tells of a character; and of what is none. -/
theorem decode_ch (s : ByteArray) (i : Nat) (hi : i < s.size) :
    (∃ n v r, Ch s i n v ∧ Utf8.decode s i = (r, n) ∧ wd r = v) ∨ ((∀ n v, ¬ Ch s i n v) ∧ Utf8.decode s i = (65533, 1) ∧ 128 ≤ bt s i) := by
  rw [decode_bt]
  rcases decodeN_kinds (s.size - i) (bt s i) (bt s (i + 1)) (bt s (i + 2)) (bt s (i + 3)) (bt_lt _ _) (bt_lt _ _) (bt_lt _ _) (bt_lt _ _) with ⟨h, e⟩ | ⟨h, k, e⟩ | ⟨h, _, k, e⟩ | ⟨h, _, _, k, e⟩ | ⟨h, k2, k3, k4, e⟩
  · exact .inl ⟨1, 1, _, .inl ⟨rfl, rfl, hi, h⟩, e, by unfold wd; rw [if_neg (by omega)]⟩
  · exact .inl ⟨2, 1, _, .inr (.inl ⟨rfl, rfl, k⟩), e, by unfold wd; unfold K2 at k; rw [if_neg (by omega)]⟩
  · exact .inl ⟨3, 1, _, .inr (.inr (.inl ⟨rfl, rfl, k⟩)), e, by unfold wd; unfold K3 at k; rw [if_neg (by omega)]⟩
  · exact .inl ⟨4, 2, _, .inr (.inr (.inr ⟨rfl, rfl, k⟩)), e, by unfold wd; unfold K4 at k; rw [if_pos (by omega)]⟩
  · refine .inr ⟨fun n v hc => ?_, e, h⟩
    rcases hc with hc | hc | hc | hc
    · omega
    · exact k2 hc.2.2
    · exact k3 hc.2.2
    · exact k4 hc.2.2
end Go.Proofs.YtfhkahnajjbohaaDoor
