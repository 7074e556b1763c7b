/-
  Offset and Pos, at a text that is valid: what they answer.
-/
import Derived.Test.YtfhkahnajjbohaaDoorV
namespace Go.Proofs.YtfhkahnajjbohaaDoor
open Go.RowKit Go.Shelf

/-- The position (l, c) is at byte k. -/
def OffAt (s : ByteArray) (l c : Int) (k : Nat) : Prop := ∃ (n : Nat) (x : Nat × Nat) (d : Nat), l = n ∧ (linesB s)[n]? = some x ∧ Wy s x.1 k d ∧ k ≤ x.2 ∧ c = d

theorem Wy.count {s : ByteArray} {i k c d : Nat} (h : Wy s i k c) (g : Wy s i k d) : c = d := by
  have h1 := h.mono g
  have h2 := g.mono h
  omega
theorem off_order {s : ByteArray} {l c m d : Int} {k j : Nat} (h : OffAt s l c k) (g : OffAt s m d j) : ((l < m ∨ (l = m ∧ c < d)) ↔ k < j) ∧ ((l = m ∧ c = d) ↔ k = j) := by
  obtain ⟨n, x, u, rfl, hx, hw, hk, rfl⟩ := h
  obtain ⟨m, y, v, rfl, hy, gw, hj, rfl⟩ := g
  have h0 := hw.le
  have g0 := gw.le
  rcases Nat.lt_trichotomy n m with h1 | rfl | h1
  · obtain ⟨e, rfl⟩ : ∃ e, m = n + e + 1 := ⟨m - n - 1, by omega⟩
    have := (linesB_ls s).lt e n x y hx hy
    omega
  · obtain rfl : x = y := Option.some.inj (hx.symm.trans hy)
    have a1 := hw.mono gw
    have a2 := gw.mono hw
    have a3 : u = v → k = j := fun e => by subst e; exact hw.same gw
    have a4 : k = j → u = v := fun e => by subst e; exact hw.count gw
    omega
  · obtain ⟨e, rfl⟩ : ∃ e, n = m + e + 1 := ⟨n - m - 1, by omega⟩
    have := (linesB_ls s).lt e m y x hy hx
    omega
theorem OffAt.one {s : ByteArray} {l c : Int} {k j : Nat} (h : OffAt s l c k) (g : OffAt s l c j) : k = j := (off_order h g).2.1 ⟨rfl, rfl⟩

/-- What behindUnits tells of a line of a valid text. -/
theorem line_bu {s : ByteArray} (hv : validS s = true) {n : Nat} {x : Nat × Nat} (hx : (linesB s)[n]? = some x) (c : Int) :
    ((bu (s.extract x.1 x.2) c).2 = true → OffAt s n c (x.1 + (bu (s.extract x.1 x.2) c).1)) ∧ (∀ k, OffAt s n c k → bu (s.extract x.1 x.2) c = (k - x.1, true)) := by
  obtain ⟨_, h1, h2, _⟩ := (linesB_ls s).get n x hx
  obtain ⟨_, _, ⟨e, he⟩, _⟩ := line_ways hv hx
  have hi := way_in h2 (Nat.le_refl _) he
  have hi' : Wy (s.extract x.1 x.2) 0 (s.extract x.1 x.2).size e := by rw [size_ex s _ _ h2]; exact hi
  obtain ⟨b1, b2⟩ := bu_wy hi' c
  refine ⟨fun ht => ?_, fun k ⟨m, y, d, hm, hy, hw, hk, hc⟩ => ?_⟩
  · obtain ⟨d, hd, hc⟩ := b1 ht
    have := hd.le_size (Nat.zero_le _)
    rw [size_ex s _ _ h2] at this
    exact ⟨n, x, d, rfl, hx, way_out h1 h2 hd, by omega, hc.symm⟩
  · obtain rfl : n = m := by omega
    obtain rfl : x = y := Option.some.inj (hx.symm.trans hy)
    exact b2 (k - x.1) d (way_in h2 hk hw) hc.symm

theorem off_good (b : Nat) (s : ByteArray) (w : World) (h : Ix w b s (linesB s)) (hv : validS s = true) (hs : s.size ≤ 65536) (l c : Int) (k : Nat) (hk : OffAt s l c k) :
    Calls Tryd.prog 15 #[.pointer (some ⟨b, 0, none⟩), .agg #[.int .i64 l, .int .i64 c]] w fun e w' => e = .returned (.tuple #[.int .i64 k, .int .i64 0]) ∧ Below w.heap.size w w' := by
  have hk0 := hk
  obtain ⟨n, x, d, rfl, hx, hw, hk2, rfl⟩ := hk
  obtain ⟨_, h1, h2, _⟩ := (linesB_ls s).get n x hx
  have := offset_ok b s _ w h n d x hx hs h1 h2
  rw [(line_bu hv hx d).2 k hk0] at this
  have hle := hw.le
  simp only [if_true] at this
  rw [show (x.1 : Int) + ((k - x.1 : Nat) : Int) = k by omega] at this
  exact this
theorem off_bad (b : Nat) (s : ByteArray) (w : World) (h : Ix w b s (linesB s)) (hv : validS s = true) (hs : s.size ≤ 65536) (l c : Int) (hk : ∀ k, ¬ OffAt s l c k) :
    Calls Tryd.prog 15 #[.pointer (some ⟨b, 0, none⟩), .agg #[.int .i64 l, .int .i64 c]] w fun e w' => e = .returned (.tuple #[.int .i64 0, .int .i64 60]) ∧ Below w.heap.size w w' := by
  by_cases hn : l < 0 ∨ ((linesB s).length : Int) ≤ l
  · exact offset_no b s _ w h l c hn
  · obtain ⟨n, rfl⟩ : ∃ n : Nat, l = n := ⟨l.toNat, by omega⟩
    have hx : (linesB s)[n]? = some (linesB s)[n] := List.getElem?_eq_getElem (by omega)
    generalize (linesB s)[n] = x at hx
    obtain ⟨_, h1, h2, _⟩ := (linesB_ls s).get n x hx
    have := offset_ok b s _ w h n c x hx hs h1 h2
    have hf : (bu (s.extract x.1 x.2) c).2 = false := by
      rw [Bool.eq_false_iff]
      exact fun ht => hk _ ((line_bu hv hx c).1 ht)
    simp only [hf, Bool.false_eq_true, if_false] at this
    exact this

/-- The byte k has the position (i, u). -/
def PosAt (s : ByteArray) (k i u : Nat) : Prop := k ≤ s.size ∧ inB s k = false ∧ ∃ x : Nat × Nat, (linesB s)[i]? = some x ∧ x.1 ≤ k ∧ (∀ y : Nat × Nat, (linesB s)[i + 1]? = some y → k < y.1) ∧ Wy s x.1 (min k x.2) u
/-- The byte has none. -/
def PosBad (s : ByteArray) (k : Int) : Prop := k < 0 ∨ (s.size : Int) < k ∨ ∃ j : Nat, k = j ∧ j ≤ s.size ∧ inB s j = true

theorem pos_cases {s : ByteArray} (hv : validS s = true) (k : Int) : PosBad s k ∨ ∃ j i u : Nat, k = j ∧ PosAt s j i u := by
  by_cases h1 : k < 0
  · exact .inl (.inl h1)
  by_cases h2 : (s.size : Int) < k
  · exact .inl (.inr (.inl h2))
  obtain ⟨j, rfl⟩ : ∃ j : Nat, k = j := ⟨k.toNat, by omega⟩
  cases hin : inB s j
  · obtain ⟨i, x, _, hx, hle, hnx⟩ := (linesB_ls s).cut j (by omega)
    obtain ⟨_, h3, h4, _⟩ := (linesB_ls s).get i x hx
    obtain ⟨⟨a, ha⟩, _, ⟨b, hb⟩, _⟩ := line_ways hv hx
    obtain ⟨c, hc⟩ := (valid_wy s).1 hv
    have hu : ∃ u, Wy s x.1 (min j x.2) u := by
      by_cases hjx : j ≤ x.2
      · obtain ⟨d, hd⟩ := hc.to rfl j (Nat.zero_le _) (by omega) hin
        obtain ⟨e, he, _⟩ := ha.part hd (by omega)
        rw [Nat.min_eq_left hjx]
        exact ⟨e, he⟩
      · rw [Nat.min_eq_right (by omega)]
        exact ⟨b, hb⟩
    obtain ⟨u, hu⟩ := hu
    exact .inr ⟨j, i, u, rfl, by omega, hin, x, hx, by omega, fun y hy => by have := hnx y hy; omega, hu⟩
  · exact .inl (.inr (.inr ⟨j, rfl, by omega, hin⟩))
theorem PosAt.cut {s : ByteArray} {k i : Nat} {x : Nat × Nat} (hx : (linesB s)[i]? = some x) (h1 : x.1 ≤ k) (h2 : ∀ y : Nat × Nat, (linesB s)[i + 1]? = some y → k < y.1) : CutAt (linesB s) k (i + 1) := by
  refine ⟨(List.getElem?_eq_some_iff.1 hx).1, fun j y hy => ⟨fun hj => ?_, fun hle => ?_⟩⟩
  · have := (linesB_ls s).rising j i y x (by omega) hy hx
    omega
  · by_cases hj : j < i + 1
    · exact hj
    · have hlt := (List.getElem?_eq_some_iff.1 hy).1
      have hz : (linesB s)[i + 1]? = some (linesB s)[i + 1] := List.getElem?_eq_getElem (by omega)
      have h3 := h2 _ hz
      have := (linesB_ls s).rising (i + 1) j _ y (by omega) hz hy
      omega

theorem pos_good (b : Nat) (s : ByteArray) (w : World) (h : Ix w b s (linesB s)) (hs : s.size ≤ 65536) (k i u : Nat) (hp : PosAt s k i u) :
    Calls Tryd.prog 17 #[.pointer (some ⟨b, 0, none⟩), .int .i64 k] w fun e w' => e = .returned (.tuple #[.agg #[.int .i64 i, .int .i64 u], .int .i64 0]) ∧ Below w.heap.size w w' := by
  obtain ⟨h1, hin, x, hx, hle, hnx, hw⟩ := hp
  obtain ⟨_, h3, h4, _⟩ := (linesB_ls s).get i x hx
  have hlen := linesB_len s
  have := pos_ok b s _ w h (by omega) (linesB_ls s).rising k h1 hs hin i (PosAt.cut hx hle hnx) x hx hle h3 h4
  have hm : min k x.2 ≤ s.size := by omega
  have hw' := way_in hm (Nat.le_refl _) hw
  rw [un_wy (by rw [size_ex s _ _ hm]; exact hw')] at this
  exact this
theorem pos_none (b : Nat) (s : ByteArray) (w : World) (h : Ix w b s (linesB s)) (k : Int) (hp : PosBad s k) :
    Calls Tryd.prog 17 #[.pointer (some ⟨b, 0, none⟩), .int .i64 k] w fun e w' => e = .returned (.tuple #[.agg #[.int .i64 0, .int .i64 0], .int .i64 1]) ∧ Below w.heap.size w w' := by
  rcases hp with hp | hp | ⟨j, rfl, hj, hin⟩
  · exact pos_out b s _ w h k (.inl hp)
  · exact pos_out b s _ w h k (.inr hp)
  · exact pos_in b s _ w h j hj hin

/-- P2.3, the first half: the position of a position's byte is it. -/
theorem off_pos {s : ByteArray} (hv : validS s = true) {l c : Int} {k : Nat} (h : OffAt s l c k) : ∃ i u : Nat, l = i ∧ c = u ∧ PosAt s k i u := by
  obtain ⟨n, x, d, rfl, hx, hw, hk, rfl⟩ := h
  obtain ⟨_, h3, h4, _⟩ := (linesB_ls s).get n x hx
  obtain ⟨⟨a, ha⟩, ⟨e, he⟩, _, _⟩ := line_ways hv hx
  obtain ⟨f, hf, _⟩ := hw.part he (by omega)
  exact ⟨n, d, rfl, rfl, by omega, hf.begins, x, hx, hw.le, fun y hy => by have := (linesB_ls s).lt 0 n x y hx hy; omega, by rw [Nat.min_eq_left hk]; exact hw⟩
/-- Is the byte the 0A of 0D 0A? -/
def midB (s : ByteArray) (k : Nat) : Prop := 0 < k ∧ k < s.size ∧ s.get! (k - 1) = 13 ∧ s.get! k = 10
/-- P2.3, the second half. -/
theorem pos_off {s : ByteArray} {k i u : Nat} (h : PosAt s k i u) : (¬ midB s k → OffAt s i u k) ∧ (midB s k → OffAt s i u (k - 1)) := by
  obtain ⟨h1, hin, x, hx, hle, hnx, hw⟩ := h
  obtain ⟨_, h3, h4, hno⟩ := (linesB_ls s).get i x hx
  have hmin : k ≤ x.2 ∨ x.2 < k := by omega
  rcases hmin with hk | hk
  · rw [Nat.min_eq_left hk] at hw
    refine ⟨fun _ => ⟨i, x, u, rfl, hx, hw, hk, rfl⟩, fun ⟨m0, m1, m2, m3⟩ => ?_⟩
    by_cases hlt : x.1 < k
    · exact absurd (.inl m2) (hno (k - 1) (by omega) (by omega))
    · obtain rfl : k = x.1 := by omega
      rcases Nat.eq_zero_or_pos i with rfl | hi
      · obtain ⟨z, hz, hz0⟩ := (linesB_ls s).first
        obtain rfl : z = x := Option.some.inj (hz.symm.trans hx)
        omega
      · obtain ⟨j, rfl⟩ : ∃ j, i = j + 1 := ⟨i - 1, by omega⟩
        obtain ⟨z, hz⟩ : ∃ z, (linesB s)[j]? = some z := ⟨_, List.getElem?_eq_getElem (by have := (List.getElem?_eq_some_iff.1 hx).1; omega)⟩
        obtain ⟨n1, n2, n3⟩ := (linesB_ls s).next j z x hz hx
        have hb := ez_bd s z.2 n1
        have h2 := ez_two s z.2 n1
        rcases (by omega : ez s z.2 = 1 ∨ ez s z.2 = 2) with h | h
        · have : ez s z.2 = 2 := h2.2 ⟨by omega, by rw [show z.2 = x.1 - 1 by omega]; exact m2, by rw [show z.2 + 1 = x.1 by omega]; exact m3⟩
          omega
        · have := (h2.1 h).2.2
          rw [show z.2 + 1 = x.1 - 1 by omega, m2] at this
          exact absurd this (by decide)
  · rw [Nat.min_eq_right (by omega)] at hw
    have hmid : midB s k ∧ x.2 = k - 1 := by
      cases hy : (linesB s)[i + 1]? with
      | none => have := (linesB_ls s).end i x hx hy; omega
      | some y =>
        have h5 := hnx y hy
        obtain ⟨n1, n2, n3⟩ := (linesB_ls s).next i x y hx hy
        have hb := ez_bd s x.2 n1
        have h2 := (ez_two s x.2 n1).1 (by omega)
        obtain rfl : k = x.2 + 1 := by omega
        exact ⟨⟨by omega, h2.1, by rw [Nat.add_sub_cancel]; exact h2.2.1, h2.2.2⟩, by omega⟩
    refine ⟨fun hm => absurd hmid.1 hm, fun _ => ?_⟩
    rw [← hmid.2]
    exact ⟨i, x, u, rfl, hx, hw, Nat.le_refl _, rfl⟩
end Go.Proofs.YtfhkahnajjbohaaDoor
