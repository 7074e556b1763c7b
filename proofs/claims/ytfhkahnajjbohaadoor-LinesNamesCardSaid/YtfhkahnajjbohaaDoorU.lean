/-
  Plain facts: ways from character to character; valid texts; units and places.
-/
import Derived.Test.YtfhkahnajjbohaaDoorT
namespace Go.Proofs.YtfhkahnajjbohaaDoor
open Go.RowKit Go.Shelf

/-- From byte i the characters lead to byte j; they have c units. -/
inductive Wy (s : ByteArray) : Nat → Nat → Nat → Prop
  | stay (i : Nat) : Wy s i i 0
  | go (i n v j c : Nat) (h : Ch s i n v) (hw : Wy s (i + n) j c) : Wy s i j (v + c)

theorem Wy.le {s : ByteArray} {i j c : Nat} (h : Wy s i j c) : i ≤ j := by
  induction h with
  | stay => exact Nat.le_refl _
  | go i n v j c hc _ ih => omega
theorem Wy.le_size {s : ByteArray} {i j c : Nat} (h : Wy s i j c) (hi : i ≤ s.size) : j ≤ s.size := by
  induction h with
  | stay => exact hi
  | go i n v j c hc _ ih => exact ih hc.fits.2.2.1
theorem Wy.units {s : ByteArray} {i j c : Nat} (h : Wy s i j c) : (i < j → 0 < c) ∧ (i = j → c = 0) := by
  cases h with
  | stay => exact ⟨fun h => by omega, fun _ => rfl⟩
  | go _ n v _ c hc hw => have := hc.fits; have := hw.le; exact ⟨fun _ => by omega, fun _ => by omega⟩
theorem Wy.trans {s : ByteArray} {i j k c d : Nat} (h : Wy s i j c) (g : Wy s j k d) : Wy s i k (c + d) := by
  induction h with
  | stay => rw [Nat.zero_add]; exact g
  | go i n v j c hc _ ih => rw [Nat.add_assoc]; exact .go i n v k _ hc (ih g)
/-- Of two ways from one byte the shorter one is a part of the other. -/
theorem Wy.part {s : ByteArray} {i j c : Nat} (h : Wy s i j c) : ∀ {k d : Nat}, Wy s i k d → j ≤ k → ∃ e, Wy s j k e ∧ d = c + e := by
  induction h with
  | stay => intro k d g _; exact ⟨d, g, by omega⟩
  | go i n v j c hc hw ih =>
    intro k d g hjk
    cases g with
    | stay => have := hw.le; have := hc.fits; omega
    | go _ m u _ d' hm hw' =>
      obtain ⟨rfl, rfl⟩ := hc.one hm
      obtain ⟨e, he, hd⟩ := ih hw' hjk
      exact ⟨e, he, by omega⟩
/-- Of one way's units there is one end. -/
theorem Wy.same {s : ByteArray} {i j k c : Nat} (h : Wy s i j c) (g : Wy s i k c) : j = k := by
  rcases Nat.le_total j k with hle | hle
  · obtain ⟨e, he, hc⟩ := h.part g hle
    have := he.units
    rcases Nat.lt_or_ge j k with hlt | hge
    · have := this.1 hlt; omega
    · omega
  · obtain ⟨e, he, hc⟩ := g.part h hle
    have := he.units
    rcases Nat.lt_or_ge k j with hlt | hge
    · have := this.1 hlt; omega
    · omega
theorem Wy.mono {s : ByteArray} {i j k c d : Nat} (h : Wy s i j c) (g : Wy s i k d) : c < d ↔ j < k := by
  rcases Nat.lt_trichotomy j k with hlt | rfl | hlt
  · obtain ⟨e, he, hc⟩ := h.part g (Nat.le_of_lt hlt)
    have := he.units.1 hlt
    omega
  · obtain ⟨e, he, hc⟩ := h.part g (Nat.le_refl _)
    have := he.units.2 rfl
    omega
  · obtain ⟨e, he, hc⟩ := g.part h (Nat.le_of_lt hlt)
    have := he.units.1 hlt
    omega

/-- A way in another text that has the same bytes there. -/
theorem Wy.move {s t : ByteArray} {i j c : Nat} (h : Wy s i j c) : ∀ (i' j' : Nat), i' + j = i + j' → j' ≤ t.size → (∀ m, i + m < j → bt t (i' + m) = bt s (i + m)) → Wy t i' j' c := by
  induction h with
  | stay i => intro i' j' he _ _; obtain rfl : i' = j' := (by omega); exact .stay _
  | go i n v j c hc hw ih =>
    intro i' j' he hj hb
    have hf := hc.fits
    have hl := hw.le
    refine .go i' n v j' c (hc.move (fun m hm => hb m (by omega)) (by omega)) (ih (i' + n) j' (by omega) hj fun m hm => ?_)
    have := hb (n + m) (by omega)
    rwa [← Nat.add_assoc, ← Nat.add_assoc] at this

/-! ### valid texts -/
theorem bt_tl (s : ByteArray) (k j : Nat) : bt (tl s k) j = bt s (k + j) := by
  by_cases h : k + j < s.size
  · unfold bt; rw [tl_get s k j h]
  · rw [bt_past _ _ (by rw [tl_size]; omega), bt_past _ _ (by omega)]
theorem decodeGo_tl (s : ByteArray) (k : Nat) (h : k < s.size) : Lib.decodeGo (tl s k) = Utf8.decode s k := by
  rw [Lib.decodeGo, if_neg (by rw [tl_size]; omega), decode_bt, decode_bt, tl_size]
  simp only [bt_tl, Nat.sub_zero, Nat.zero_add, Nat.add_zero]
theorem bt_ex (s : ByteArray) (i j m : Nat) (hj : j ≤ s.size) (hm : i + m < j) : bt (s.extract i j) m = bt s (i + m) := by
  have h1 := get!_data (s.extract i j) m (by rw [size_ex s i j hj]; omega)
  have h2 := get!_data s (i + m) (by omega)
  rw [show (s.extract i j).data.toList = (s.data.toList.drop i).take (j - i) by simp only [ByteArray.data_extract, Array.toList_extract, List.extract_eq_take_drop], List.getElem?_take_of_lt (by omega), List.getElem?_drop, h2] at h1
  unfold bt
  rw [Option.some.inj h1]
theorem stray_ch (s : ByteArray) (k : Nat) (h : k < s.size) : strayB (s.extract k (k + rn (tl s k))) = true ↔ ∀ n v, ¬ Ch s k n v := by
  unfold strayB rn
  rw [decodeGo_tl s k h]
  rcases decode_ch s k h with ⟨n, v, r, hc, e, _⟩ | ⟨hc, e, hb⟩
  · have hf := hc.fits
    rw [e]
    have hg := bt_ex s k (k + n) 0 hf.2.2.1 (by omega)
    unfold bt at hg
    simp only [size_ex s k (k + n) hf.2.2.1, Bool.and_eq_true, beq_iff_eq, decide_eq_true_eq, Nat.add_zero] at hg ⊢
    constructor
    · rintro ⟨h1, h2⟩
      have := hc.first
      obtain rfl : n = 1 := by omega
      rw [hg] at h2
      rcases hc with hc | hc | hc | hc
      · unfold bt at hc; omega
      all_goals omega
    · intro hn; exact absurd hc (hn n v)
  · rw [e]
    have hg := bt_ex s k (k + 1) 0 (by omega) (by omega)
    unfold bt at hg hb
    simp only [size_ex s k (k + 1) (by omega), Bool.and_eq_true, beq_iff_eq, decide_eq_true_eq, Nat.add_zero] at hg ⊢
    refine ⟨fun _ => hc, fun _ => ⟨by omega, by omega⟩⟩

theorem okF_wy : ∀ (f : Nat) (s : ByteArray) (k : Nat), k ≤ s.size → s.size ≤ k + f → (okAll (seqF f s k) = true ↔ ∃ c, Wy s k s.size c)
  | 0, s, k, h1, h2 => by
    obtain rfl : k = s.size := by omega
    exact ⟨fun _ => ⟨0, .stay _⟩, fun _ => rfl⟩
  | f + 1, s, k, h1, h2 => by
    by_cases h : k < s.size
    · have hst := stray_ch s k h
      rw [seqF, if_pos h]
      change ((!strayB (s.extract k (k + rn (tl s k)))) && okAll (seqF f s (k + rn (tl s k)))) = true ↔ _
      rcases decode_ch s k h with ⟨n, v, r, hc, e, _⟩ | ⟨hc, e, hb⟩
      · have hf := hc.fits
        have hrn : rn (tl s k) = n := by rw [rn, decodeGo_tl s k h, e]
        have hno : strayB (s.extract k (k + rn (tl s k))) = false := by
          rw [Bool.eq_false_iff]; intro ht; exact hst.1 ht n v hc
        rw [hno, hrn, Bool.not_false, Bool.true_and, okF_wy f s (k + n) hf.2.2.1 (by omega)]
        constructor
        · rintro ⟨c, hw⟩; exact ⟨v + c, .go k n v _ c hc hw⟩
        · rintro ⟨c, hw⟩
          cases hw with
          | stay => omega
          | go _ m u _ c hm hw => obtain ⟨rfl, rfl⟩ := hc.one hm; exact ⟨c, hw⟩
      · rw [hst.2 hc, Bool.not_true, Bool.false_and]
        refine ⟨fun h => (by cases h), ?_⟩
        rintro ⟨c, hw⟩
        cases hw with
        | stay => omega
        | go _ m u _ c hm hw => exact absurd hm (hc m u)
    · obtain rfl : k = s.size := by omega
      rw [seqF_end _ _ _ h]
      exact ⟨fun _ => ⟨0, .stay _⟩, fun _ => rfl⟩
theorem valid_wy (s : ByteArray) : validS s = true ↔ ∃ c, Wy s 0 s.size c := okF_wy s.size s 0 (Nat.zero_le _) (by omega)

theorem cont_bt (s : ByteArray) (k : Nat) : contB (s.get! k) = true ↔ (128 ≤ bt s k ∧ bt s k < 192) := by
  unfold contB Lib.runeStart bt
  simp only [Bool.not_eq_true', bne_eq_false_iff_eq]
  omega
/-- A byte that begins a character, or is the end, is reached. -/
theorem Wy.to {s : ByteArray} {i e c : Nat} (h : Wy s i e c) (he : e = s.size) : ∀ k, i ≤ k → k ≤ s.size → inB s k = false → ∃ d, Wy s i k d := by
  induction h with
  | stay i => intro k h1 h2 _; obtain rfl : i = k := (by omega); exact ⟨0, .stay _⟩
  | go i n v j c hc hw ih =>
    intro k h1 h2 hk
    rcases Nat.lt_or_ge i k with hlt | hge
    · rcases Nat.lt_or_ge k (i + n) with h3 | h3
      · have := hc.later k hlt h3
        have hlt' : k < s.size := by have := hc.fits; omega
        rw [inB, decide_eq_true hlt', Bool.true_and] at hk
        rw [(cont_bt s k).2 this] at hk
        cases hk
      · obtain ⟨d, hd⟩ := ih he k h3 h2 hk
        exact ⟨v + d, .go i n v k d hc hd⟩
    · obtain rfl : i = k := by omega
      exact ⟨0, .stay _⟩
/-- What is reached on the way to the end begins a character, or is the end. -/
theorem Wy.begins {s : ByteArray} {k c : Nat} (h : Wy s k s.size c) : inB s k = false := by
  rw [inB]
  by_cases hk : k < s.size
  · rw [decide_eq_true hk, Bool.true_and, Bool.eq_false_iff]
    intro ht
    have hb := (cont_bt s k).1 ht
    cases h with
    | stay => omega
    | go _ n v _ c hc hw => have := hc.first; omega
  · rw [decide_eq_false hk]; rfl

/-! ### units and places -/
theorem unF_wy : ∀ (f : Nat) (t : ByteArray) (i c : Nat), Wy t i t.size c → t.size ≤ i + f → unF f t i = c
  | 0, t, i, c, h, hf => by have := h.le; exact ((h.units.2 (by omega)).symm)
  | f + 1, t, i, c, h, hf => by
    rw [unF]
    cases h with
    | stay => rw [if_neg (by omega)]
    | go _ n v _ c hc hw =>
      have hfit := hc.fits
      rw [if_pos (by omega)]
      rcases decode_ch t i (by omega) with ⟨m, u, r, hm, e, hr⟩ | ⟨hno, _⟩
      · obtain ⟨rfl, rfl⟩ := hc.one hm
        rw [e, hr, unF_wy f t _ c hw (by omega)]
      · exact absurd hc (hno n v)
theorem un_wy {t : ByteArray} {c : Nat} (h : Wy t 0 t.size c) : un t = c := unF_wy _ _ _ _ h (by omega)

/-- behindUnits on a way to the end: it is at a byte just if that many units lead there. -/
theorem buF_wy : ∀ (f : Nat) (t : ByteArray) (i c e : Nat) (k : Int), Wy t i t.size e → t.size ≤ i + f →
    ((buF f t i c k).2 = true → ∃ d, Wy t i (buF f t i c k).1 d ∧ (c : Int) + d = k) ∧ (∀ a d, Wy t i a d → (c : Int) + d = k → buF f t i c k = (a, true))
  | 0, t, i, c, e, k, h, hf => by
    have hle := h.le
    obtain rfl : i = t.size := by omega
    refine ⟨fun ht => ⟨0, .stay _, ?_⟩, fun a d hw hk => ?_⟩
    · simp only [buF, beq_iff_eq] at ht; omega
    · have h1 := hw.le
      have h2 := hw.le_size (Nat.le_refl _)
      obtain rfl : a = t.size := by omega
      have := hw.units.2 rfl
      simp only [buF, Prod.mk.injEq, true_and, beq_iff_eq]; omega
  | f + 1, t, i, c, e, k, h, hf => by
    cases h with
    | stay =>
      rw [buF_end _ _ _ _ _ (by omega)]
      refine ⟨fun ht => ⟨0, .stay _, ?_⟩, fun a d hw hk => ?_⟩
      · simp only [beq_iff_eq] at ht; omega
      · have h1 := hw.le
        have h2 := hw.le_size (Nat.le_refl _)
        obtain rfl : a = t.size := by omega
        have := hw.units.2 rfl
        simp only [Prod.mk.injEq, true_and, beq_iff_eq]; omega
    | go _ n v _ e hc hw =>
      have hfit := hc.fits
      rw [buF, if_pos (by omega)]
      by_cases hk : k ≤ c
      · rw [if_pos hk]
        refine ⟨fun ht => ⟨0, .stay _, ?_⟩, fun a d hw' hk' => ?_⟩
        · simp only [beq_iff_eq] at ht; omega
        · have := hw'.units
          have hle := hw'.le
          obtain rfl : a = i := by
            rcases Nat.lt_or_ge i a with hlt | hge
            · have := this.1 hlt; omega
            · omega
          simp only [Prod.mk.injEq, true_and, beq_iff_eq]; omega
      · rw [if_neg hk]
        rcases decode_ch t i (by omega) with ⟨m, u, r, hm, e', hr⟩ | ⟨hno, _⟩
        · obtain ⟨rfl, rfl⟩ := hc.one hm
          rw [e', hr]
          obtain ⟨ih1, ih2⟩ := buF_wy f t (i + n) (c + v) e k hw (by omega)
          refine ⟨fun ht => ?_, fun a d hw' hk' => ?_⟩
          · obtain ⟨d, hd, hd2⟩ := ih1 ht
            exact ⟨v + d, .go i n v _ d hc hd, by omega⟩
          · cases hw' with
            | stay => omega
            | go _ m u _ d hm' hw' =>
              obtain ⟨rfl, rfl⟩ := hc.one hm'
              exact ih2 a d hw' (by omega)
        · exact absurd hc (hno n v)
theorem bu_wy {t : ByteArray} {e : Nat} (h : Wy t 0 t.size e) (k : Int) :
    ((bu t k).2 = true → ∃ d : Nat, Wy t 0 (bu t k).1 d ∧ (d : Int) = k) ∧ (∀ a d, Wy t 0 a d → (d : Int) = k → bu t k = (a, true)) := by
  obtain ⟨h1, h2⟩ := buF_wy t.size t 0 0 e k h (by omega)
  exact ⟨fun ht => by obtain ⟨d, hd, he⟩ := h1 ht; exact ⟨d, hd, by omega⟩, fun a d hw he => h2 a d hw (by omega)⟩

/-! ### lines of a valid text -/
theorem eol_bt {s : ByteArray} {p : Nat} (h : eol (s.get! p)) : bt s p < 128 := by
  unfold bt; rcases h with h | h <;> rw [h] <;> decide
theorem in_ascii {s : ByteArray} {p : Nat} (h : bt s p < 128) : inB s p = false := by
  rw [inB, Bool.and_eq_false_iff]
  refine .inr (Bool.eq_false_iff.2 fun ht => ?_)
  have := (cont_bt s p).1 ht
  omega
theorem in_end (s : ByteArray) : inB s s.size = false := by rw [inB, decide_eq_false (by omega)]; rfl
theorem Wy.next {s : ByteArray} {i e c : Nat} (h : Wy s i e c) (hlt : i < e) (ha : bt s i < 128) : ∃ c', Wy s (i + 1) e c' := by
  cases h with
  | stay => omega
  | go _ n v _ c hc hw =>
    obtain ⟨rfl, rfl⟩ := hc.ascii ha
    exact ⟨c, hw⟩
/-- Where the text is valid, a line begins and ends at characters. -/
theorem Ls.ways {s : ByteArray} {k : Nat} {l : List (Nat × Nat)} (hl : Ls s k l) : ∀ {c e : Nat}, Wy s 0 k c → Wy s k s.size e → ∀ (i : Nat) (x : Nat × Nat), l[i]? = some x → (∃ d, Wy s 0 x.1 d) ∧ (∃ d, Wy s x.1 s.size d) ∧ (∃ d, Wy s x.1 x.2 d) ∧ ∃ d, Wy s x.2 s.size d := by
  induction hl with
  | last k hk hn =>
    intro c e h0 he i x hx
    cases i with
    | zero => simp at hx; subst hx; exact ⟨⟨c, h0⟩, ⟨e, he⟩, ⟨e, he⟩, ⟨0, .stay _⟩⟩
    | succ i => simp at hx
  | more k p l hk hp hn heol hl ih =>
    intro c e h0 he i x hx
    obtain ⟨d, hd⟩ := he.to rfl p hk (Nat.le_of_lt hp) (in_ascii (eol_bt heol))
    obtain ⟨d', hd', _⟩ := hd.part he (Nat.le_of_lt hp)
    cases i with
    | zero => simp at hx; subst hx; exact ⟨⟨c, h0⟩, ⟨e, he⟩, ⟨d, hd⟩, ⟨d', hd'⟩⟩
    | succ i =>
      have hz := ez_bd s p hp
      have hnext : inB s (p + ez s p) = false := by
        obtain ⟨_, hw⟩ := hd'.next hp (eol_bt heol)
        rcases (by omega : ez s p = 1 ∨ ez s p = 2) with h1 | h2
        · rw [h1]; exact hw.begins
        · obtain ⟨a1, a2, a3⟩ := (ez_two s p hp).1 h2
          rw [h2]
          obtain ⟨_, hw⟩ := hw.next a1 (eol_bt (.inr a3))
          exact hw.begins
      obtain ⟨f, hf⟩ := hd'.to rfl (p + ez s p) (by omega) hz.2.2 hnext
      obtain ⟨g, hg, _⟩ := hf.part hd' hz.2.2
      exact ih ((h0.trans hd).trans hf) hg i x (by simpa using hx)
theorem line_ways {s : ByteArray} (hv : validS s = true) {i : Nat} {x : Nat × Nat} (hx : (linesB s)[i]? = some x) : (∃ d, Wy s 0 x.1 d) ∧ (∃ d, Wy s x.1 s.size d) ∧ (∃ d, Wy s x.1 x.2 d) ∧ ∃ d, Wy s x.2 s.size d := by
  obtain ⟨c, hc⟩ := (valid_wy s).1 hv
  exact (linesB_ls s).ways (.stay 0) hc i x hx
/-- A way within a piece is one in the text, and back. -/
theorem way_in {s : ByteArray} {a b j c : Nat} (hb : b ≤ s.size) (hj : j ≤ b) (h : Wy s a j c) : Wy (s.extract a b) 0 (j - a) c := by
  have := h.le
  exact h.move 0 (j - a) (by omega) (by rw [size_ex s a b hb]; omega) fun m hm => by rw [Nat.zero_add, bt_ex s a b m hb (by omega)]
theorem way_out {s : ByteArray} {a b j c : Nat} (hab : a ≤ b) (hb : b ≤ s.size) (h : Wy (s.extract a b) 0 j c) : Wy s a (a + j) c := by
  have hj := h.le_size (Nat.zero_le _)
  rw [size_ex s a b hb] at hj
  exact h.move a (a + j) (by omega) (by omega) fun m hm => by rw [Nat.zero_add, bt_ex s a b m hb (by omega)]
end Go.Proofs.YtfhkahnajjbohaaDoor
