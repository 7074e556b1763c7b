/-
  strings.IndexAny at the two bytes of line endings, for any text.
-/
import Derived.Test.YtfhkahnajjbohaaDoorD
import Derived.Test.YtfhkahnajjbohaaDoorG
namespace Go.Proofs.YtfhkahnajjbohaaDoor
open Go.RowKit

/-- The first 0D or 0A. -/
def ixe (s : ByteArray) : Int := Lib.indexAny s.data.toList [13, 10]

theorem get!_data (s : ByteArray) (k : Nat) (h : k < s.size) : s.data.toList[k]? = some (s.get! k) := by
  rw [get!_lt s k h]; exact Lib.data_getElem? s k h
theorem noAny_more {s : ByteArray} {i n : Nat} (h : Lib.NoAny s.data.toList [13, 10] i) (hb : ∀ j, j < n → 128 ≤ (s.get! (i + j)).toNat) : Lib.NoAny s.data.toList [13, 10] (i + n) := by
  intro j b hj hs
  by_cases h1 : j < i
  · exact h j b h1 hs
  · have hlt : j < s.size := by
      have := (List.getElem?_eq_some_iff.1 hs).1
      rw [Lib.size_eq]; exact this
    have := hb (j - i) (by omega)
    rw [show i + (j - i) = j by omega] at this
    rw [get!_data s j hlt] at hs
    cases hs
    generalize s.get! j = x at *
    have h1 : x ≠ 13 := by rintro rfl; simp at this
    have h2 : x ≠ 10 := by rintro rfl; simp at this
    simp [h1, h2]

theorem decode_bd (s : ByteArray) (p : Nat) (h : p < s.size) : 1 ≤ (Utf8.decode s p).2 ∧ p + (Utf8.decode s p).2 ≤ s.size ∧ (Utf8.decode s p).1 ≤ 1114111 := by
  rw [Lib.decode_at]
  have := decodeN_bd (s.size - p) (s.get! p).toNat (s.get! (p + 1)).toNat (s.get! (p + 2)).toNat (s.get! (p + 3)).toNat
  omega
theorem iterAt_below {B : Nat} {a w : World} (h : Below B a w) (k : Nat) (hk : B ≤ k) (s : ByteArray) (p : Nat) : Below B a (w.iterAt k s p) := by
  refine h.trans ⟨rfl, rfl, rfl, by simp [World.iterAt], fun j hj => ?_⟩
  simp only [World.iterAt]
  rw [Array.getElem?_setIfInBounds_ne (by omega)]

set_option maxRecDepth 100000 in
set_option maxHeartbeats 1000000 in
theorem ixe_short (s : ByteArray) (w : World) (h8 : s.size ≤ 8) :
    Calls Tryd.prog 38 #[.string s, .string ⟨#[13, 10]⟩] w fun e w' => e = .returned (.int .i64 (ixe s)) ∧ Below w.heap.size w w' := by
  have h8z : decide ((8 : Int) < (s.size : Int)) = false := decide_eq_false (by omega)
  go_enter Tryd.func38, Tryd.ntmps38
  go_wp2_with (go_at_call 47; refine (Tryd.strings_shouldUseASCIISet _ _).mono ?_; rintro e w' ⟨rfl, hw⟩; rw [hw, h8z])
  go_loopg [9, 10] s.size (fun g _ _ wx => ∃ i : Nat, i ≤ s.size ∧ s.size ≤ i + g ∧ wx.heap[w.heap.size]? = some (.stringIter s i) ∧ Below w.heap.size w wx ∧ Lib.NoAny s.data.toList [13, 10] i)
  case atStart => exact ⟨0, by omega, by omega, World.iter_heap _ _ _, below_iter (Below.refl _ _) (Nat.le_refl _) _ _, Lib.NoAny.zero _ _⟩
  case round =>
    obtain ⟨i, his, hig, hit, hB, hno⟩ := hrel
    have HN := Lib.hid hno
    clear hno
    by_cases hi : i < s.size
    · have hnx := fun ty => Lib.run_next_any_at (P := Tryd.prog) wr w.heap.size s i ty hit hi
      have hdb := decode_bytes s i
      obtain ⟨hn1, hn2, hr⟩ := decode_bd s i hi
      have hih := fun p => Lib.iterAt_heap wr w.heap.size s i p hit
      generalize Utf8.decode s i = d at *
      obtain ⟨r, n⟩ := d
      simp only at hdb hn1 hn2 hr hnx
      have hBi := iterAt_below hB w.heap.size (Nat.le_refl _) s (i + n)
      have hhi := hih (i + n)
      clear hih
      generalize wr.iterAt w.heap.size s (i + n) = w2 at *
      have hz2 : w.heap.size < w2.heap.size := (Array.getElem?_eq_some_iff.1 hhi).1
      have HH := Lib.hid hhi
      rcases hdb with ⟨hr1, rfl, hr2⟩ | ⟨hr1, hb⟩
      · have Hx := Lib.hid (get!_data s i hi)
        generalize s.get! i = x at *
        subst hr2
        have hcon := Lib.contains_iff_indexByte [13, 10] x
        have hback : ((x.toNat : Int)).toNat.toUInt8 = x := by simp
        have hir := Tryd.strings_IndexRune_ascii ⟨#[13, 10]⟩ (x.toNat : Int) w2 (by omega) (by omega)
        rw [hback, show (⟨#[13, 10]⟩ : ByteArray).data.toList = [13, 10] from rfl] at hir
        clear hback hhi hit
        cases hin : ([13, 10] : List UInt8).contains x
        · rw [hin] at hcon
          have hlt : ¬ ((0 : Int) ≤ Lib.indexByte [13, 10] x) := of_decide_eq_false hcon.symm
          clear hcon
          generalize Lib.indexByte [13, 10] x = m at *
          have HI := Lib.hid hin
          clear hin
          go_wp2_with (go_at_call 46; refine hir.mono ?_; rintro e w' ⟨rfl, hw⟩; rw [hw])
          clear hir
          cases gk with
          | zero => omega
          | succ g =>
          go_roundg g
          case measure => omega
          case rel => exact ⟨i + 1, by omega, by omega, HH.out, hBi, HN.out.succ Hx.out HI.out⟩
        · rw [hin] at hcon
          have hlt : (0 : Int) ≤ Lib.indexByte [13, 10] x := of_decide_eq_true hcon.symm
          clear hcon
          generalize Lib.indexByte [13, 10] x = m at *
          have HI := Lib.hid hin
          clear hin
          go_wp2_with (go_at_call 46; refine hir.mono ?_; rintro e w' ⟨rfl, hw⟩; rw [hw])
          go_ret
          exact ⟨by rw [ixe, Lib.indexAny_hit HN.out Hx.out HI.out]; rfl, hBi⟩
      · have hir := rune_hi (r : Int) w2 (by omega)
        clear hhi hit
        have HB := Lib.hid hb
        clear hb
        go_wp2_with (go_at_call 46; refine hir.mono ?_; rintro e w' ⟨rfl, hw⟩)
        clear hir
        cases gk with
        | zero => omega
        | succ g =>
        go_roundg g
        case measure => omega
        case rel => exact ⟨i + n, by omega, by omega, (hw.block _ hz2).trans HH.out, hBi.trans (hw.mono (by omega)), noAny_more HN.out HB.out⟩
    · have hnx := fun ty => Lib.run_next_end_at (P := Tryd.prog) wr w.heap.size s i ty hit hi
      go_wp2
      go_ret
      exact ⟨by rw [ixe, Lib.indexAny_none (by rw [← Lib.size_eq, show s.size = i by omega]; exact HN.out)]; rfl, hB⟩

theorem zero83 : ∀ w, (zeroValue 83).run Tryd.prog w = .ok (.agg (Array.replicate 256 (.bool false))) w :=
  (zero_of_info (show (Tryd.prog.info? 83).map (fun i => (i.zero, i.size)) = some (some (.agg (Array.replicate 256 (.bool false))), 256) by kernel_rfl)).1
theorem ixe_any (s : ByteArray) (w : World) (hs : s.size ≤ 1000000000) :
    Calls Tryd.prog 38 #[.string s, .string ⟨#[13, 10]⟩] w fun e w' => e = .returned (.int .i64 (ixe s)) ∧ Below w.heap.size w w' := by
  by_cases h8 : s.size ≤ 8
  · exact ixe_short s w h8
  · refine (Tryd.strings_IndexAny_long zero83 s ⟨#[13, 10]⟩ w (by decide) (by omega) (by omega) (by decide) ?_).mono fun e w' ⟨h1, h2⟩ => ⟨h1, ?_⟩
    · intro j b hj
      match j, hj with
      | 0, hj => simp at hj; subst hj; decide
      | 1, hj => simp at hj; subst hj; decide
      | j + 2, hj => simp at hj
    · rw [h2]
      exact ((Below.refl _ _).alloc (Nat.le_refl _) _).alloc (by simp) _
theorem ixe_bd (s : ByteArray) : -1 ≤ ixe s ∧ ixe s < s.size := by
  refine ⟨Lib.indexAny_ge _ _, ?_⟩
  rw [ixe, Lib.size_eq]
  generalize s.data.toList = l
  induction l with
  | nil => decide
  | cons b l ih =>
    unfold Lib.indexAny
    simp only [List.length_cons]
    split
    · omega
    · split <;> omega
end Go.Proofs.YtfhkahnajjbohaaDoor
