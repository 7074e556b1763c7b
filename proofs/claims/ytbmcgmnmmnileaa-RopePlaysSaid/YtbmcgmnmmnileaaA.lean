/-
  Plain: trees of pieces of text.
-/
import Derived.Lib.Strings
import Derived.Lib.IndexBytes
namespace Go.Proofs.Ytbmcgmnmmnileaa

inductive T where
  | leaf (s : ByteArray)
  | cat (l r : T)
namespace T
def size : T → Nat
  | leaf s => s.size
  | cat l r => l.size + r.size
def text : T → List UInt8
  | leaf s => s.data.toList
  | cat l r => l.text ++ r.text
def ends : T → Nat
  | leaf s => s.data.toList.count 10
  | cat l r => l.ends + r.ends
def depth : T → Nat
  | leaf _ => 1
  | cat l r => 1 + max l.depth r.depth
/-- Each piece has a byte; the depths of two sides differ by one at most. -/
def Ok : T → Prop
  | leaf s => 0 < s.size
  | cat l r => l.Ok ∧ r.Ok ∧ l.depth ≤ r.depth + 1 ∧ r.depth ≤ l.depth + 1
theorem size_text : ∀ t : T, t.text.length = t.size
  | leaf s => by simp only [text, size]; rw [Lib.size_eq]
  | cat l r => by simp only [text, size, List.length_append, size_text l, size_text r]
theorem ends_text : ∀ t : T, t.ends = t.text.count 10
  | leaf s => rfl
  | cat l r => by simp only [text, ends, List.count_append, ends_text l, ends_text r]
theorem depth_pos : ∀ t : T, 1 ≤ t.depth
  | leaf s => Nat.le_refl _
  | cat l r => by simp only [depth]; omega
theorem ends_le (t : T) : t.ends ≤ t.size := by rw [ends_text, ← size_text]; exact List.count_le_length
theorem Ok.pos : ∀ {t : T}, t.Ok → 1 ≤ t.size
  | leaf s, h => h
  | cat l r, h => by have := Ok.pos h.1; simp only [size]; omega
theorem Ok.deep : ∀ {t : T}, t.Ok → 2 ^ ((t.depth - 1) / 2) ≤ t.size
  | leaf s, h => by
    have h' : 0 < s.size := h
    simp [depth, size]
    omega
  | cat l r, h => by
    obtain ⟨h1, h2, h3, h4⟩ := h
    have i1 := Ok.deep h1
    have i2 := Ok.deep h2
    have p1 := depth_pos l
    have p2 := depth_pos r
    have q1 := Ok.pos h1
    have q2 := Ok.pos h2
    simp only [depth, size]
    generalize l.depth = a at *
    generalize r.depth = b at *
    by_cases hm : max a b = 1
    · rw [show (1 + max a b - 1) / 2 = 0 by omega]; omega
    · have e : (1 + max a b - 1) / 2 = (max a b - 2) / 2 + 1 := by omega
      have j1 : 2 ^ ((max a b - 2) / 2) ≤ 2 ^ ((a - 1) / 2) := Nat.pow_le_pow_right (by omega) (by omega)
      have j2 : 2 ^ ((max a b - 2) / 2) ≤ 2 ^ ((b - 1) / 2) := Nat.pow_le_pow_right (by omega) (by omega)
      rw [e, Nat.pow_succ]
      omega
theorem depth_le : ∀ t : T, t.Ok → t.depth ≤ t.size
  | leaf s, h => h
  | cat l r, h => by
    have := depth_le l h.1
    have := depth_le r h.2.1
    have := Ok.pos h.1
    have := Ok.pos h.2.1
    simp only [depth, size]; omega
/-- How deep a tree of so many bytes may be. -/
theorem Ok.lt {t : T} (h : t.Ok) {k : Nat} (hk : t.size < 2 ^ k) : t.depth ≤ 2 * k := by
  have := Ok.deep h
  have : (t.depth - 1) / 2 < k := by
    rcases Nat.lt_or_ge ((t.depth - 1) / 2) k with g | g
    · exact g
    · have := Nat.pow_le_pow_right (n := 2) (by omega) g
      omega
  omega
end T
def textO : Option T → List UInt8
  | none => []
  | some t => t.text
def depthO : Option T → Nat
  | none => 0
  | some t => t.depth
def OkO : Option T → Prop
  | none => True
  | some t => t.Ok
end Go.Proofs.Ytbmcgmnmmnileaa
