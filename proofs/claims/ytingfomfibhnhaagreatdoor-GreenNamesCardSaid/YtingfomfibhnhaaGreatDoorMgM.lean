/-
  Tokens, One.
  A valid text's tokens are valid texts (plainly); each by itself is that token.
  kinds, works.
  strings.Builder in this seat; Join.
  Join.
  LexBack: the walk of the law.
-/
import Derived.Test.YtingfomfibhnhaaGreatDoorMgH
import Derived.Test.YtingfomfibhnhaaGreatDoorMgPF
import Derived.Lib.AppendStr
import Derived.Lib.Builder
import Derived.Lib.FrozenHead
import Derived.Lib.AppendIntMem
import Derived.Laws.Externs
namespace Go.Proofs.YtingfomfibhnhaaGreatDoor
open Go.RowKit

def valB (l : List UInt8) : Bool := Utf.validS ⟨l.toArray⟩
theorem val_eq (s : ByteArray) : Utf.validS s = valB s.data.toList := congrArg Utf.validS (ba_of s rfl)
def tokE (l : List UInt8) : Int := if 65536 < l.length then 40 else if valB l then 0 else 4
def tokL (l : List UInt8) : List Tok := if tokE l = 0 then toks l else []
def TokEnd (E : List Tok) (k : Int) (w : World) (e : Ending) (w' : World) : Prop := ∃ v, e = .returned (.tuple #[v, .int .i64 k]) ∧ ToksAt w.heap.size w' v E ∧ Below w.heap.size w w'
theorem clone_any (s : ByteArray) (w : World) (hz : s.size ≤ 1000000000) : Calls Tryz.prog 54 #[.string s] w fun e w' => e = .returned (.string s) ∧ Below w.heap.size w w' := by
  have hc := Tryz.stringslite_Clone s w (by omega)
  go_enter Tryz.func54, Tryz.ntmps54
  go_wp2_with (go_at_call 67; refine hc.mono ?_; rintro e w' ⟨rfl, hb⟩)
  go_ret
  exact ⟨rfl, hb⟩
set_option maxRecDepth 100000 in
set_option maxHeartbeats 4000000 in
theorem tokens_any (s : ByteArray) (w : World) (hz : s.size ≤ 1000000) (hE : Env w) : Calls Tryz.prog 31 #[.string s] w (TokEnd (tokL s.data.toList) (tokE s.data.toList) w) := by
  have hls : s.data.toList.length = s.size := (Lib.size_eq s).symm
  have hL : tokL s.data.toList = if tokE s.data.toList = 0 then toks s.data.toList else [] := rfl
  have hK : tokE s.data.toList = if 65536 < s.size then 40 else if valB s.data.toList then 0 else 4 := by rw [← hls]; rfl
  generalize tokE s.data.toList = K at *
  generalize tokL s.data.toList = E at *
  by_cases h1 : 65536 < s.size
  · have h1' : (65536 : Int) < (s.size : Int) := by omega
    have HK : Hid (K = 40) := Lib.hid (by rw [hK, if_pos h1])
    have HL : Hid (E = []) := Lib.hid (by rw [hL, HK.out]; rfl)
    clear hL hK hls hE
    go_enter Tryz.func31, Tryz.ntmps31
    go_wp2_with fail
    go_ret2
    exact ⟨.slice none 0 0, by rw [HK.out]; rfl, by rw [HL.out]; exact World.ownsRow_nil _ _ _ _, Below.refl _ _⟩
  · have h1' : ¬ (65536 : Int) < (s.size : Int) := by omega
    rw [if_neg h1] at hK
    have hv := Utf.valid_any s w (by omega) hE.1
    rw [val_eq] at hv
    cases hV : valB s.data.toList with
    | false =>
      have HK : Hid (K = 4) := Lib.hid (by rw [hK, hV]; rfl)
      have HL : Hid (E = []) := Lib.hid (by rw [hL, HK.out]; rfl)
      rw [hV] at hv
      clear hL hK hls hE hV
      go_enter Tryz.func31, Tryz.ntmps31
      go_wp2_with (go_at_call 52; refine hv.mono ?_; rintro e w1 ⟨rfl, hb⟩)
      go_ret2
      exact ⟨.slice none 0 0, by rw [HK.out]; rfl, by rw [HL.out]; exact World.ownsRow_nil _ _ _ _, hb⟩
    | true =>
      have HK : Hid (K = 0) := Lib.hid (by rw [hK, hV]; rfl)
      have HL : Hid (E = toks s.data.toList) := Lib.hid (by rw [hL, HK.out]; rfl)
      rw [hV] at hv
      have HE := Lib.hid hE
      clear hL hK hls hE hV
      go_enter Tryz.func31, Tryz.ntmps31
      go_wp2_with fail
      refine hv.mono ?_
      rintro e w1 ⟨rfl, hb1⟩
      have HB1 := Lib.hid hb1
      clear hb1 hv
      go_wp2_with fail
      refine (clone_any s w1 (by omega)).mono ?_
      rintro e w2 ⟨rfl, hb2⟩
      have HB2 := Lib.hid (HB1.out.trans (hb2.mono HB1.out.size))
      clear hb2
      go_wp2_with fail
      refine (divide_any s w2 hz (HE.out.below HB2.out HE.out.size)).mono ?_
      rintro e w3 ⟨v, rfl, hT, hb3⟩
      have HT : Hid (ToksAt w.heap.size w3 v (toks s.data.toList)) := Lib.hid (owns_base hT HB2.out.size)
      have HB3 := Lib.hid (HB2.out.trans (hb3.mono HB2.out.size))
      clear hb3 hT
      go_wp2_with fail
      go_ret2
      exact ⟨v, by rw [HK.out]; rfl, by rw [HL.out]; exact HT.out, HB3.out⟩
def tokA (t : Tok) : Value := .agg #[.int .u8 t.1, bl t.2]
def oneE (l : List UInt8) : Int := if tokE l = 0 then (if (toks l).length = 1 then 0 else 4) else tokE l
def oneT (l : List UInt8) : Tok := if oneE l = 0 then (toks l).headD (0, []) else (0, [])
def OneEnd (t : Tok) (k : Int) (w : World) (e : Ending) (w' : World) : Prop := e = .returned (.tuple #[tokA t, .int .i64 k]) ∧ Below w.heap.size w w'
theorem flat_at : ∀ (E : List Tok) (i : Nat) (t : Tok), E[i]? = some t → (E.flatMap tokC)[i * 2]? = some (.int .u8 t.1) ∧ (E.flatMap tokC)[i * 2 + 1]? = some (bl t.2)
  | [], i, t, h => by simp at h
  | x :: E, 0, t, h => by
    simp at h; subst h; exact ⟨rfl, rfl⟩
  | x :: E, i + 1, t, h => by
    have ih := flat_at E i t (by simpa using h)
    rw [List.flatMap_cons, show (i + 1) * 2 = 2 + i * 2 by omega, show 2 + i * 2 + 1 = 2 + (i * 2 + 1) by omega]
    rw [List.getElem?_append_right (by show 2 ≤ _; omega), List.getElem?_append_right (by show 2 ≤ _; omega)]
    show (E.flatMap tokC)[2 + i * 2 - 2]? = _ ∧ (E.flatMap tokC)[2 + (i * 2 + 1) - 2]? = _
    rw [Nat.add_sub_cancel_left, Nat.add_sub_cancel_left]
    exact ih
theorem tok_at {B : Nat} {w : World} {v : Value} {E : List Tok} (h : ToksAt B w v E) {i : Nat} {t : Tok} (hi : E[i]? = some t) : ∃ g cap, v = .slice (some ⟨g, 0, none⟩) E.length cap ∧ w.cell? ⟨g, i * 2, none⟩ = some (.int .u8 t.1) ∧ w.cell? ⟨g, i * 2 + 1, none⟩ = some (bl t.2) := by
  have hlt : i < E.length := (List.getElem?_eq_some_iff.1 hi).1
  obtain ⟨f1, f2⟩ := flat_at E i t hi
  obtain ⟨h1, h2⟩ := h
  rcases h2 with ⟨_, h2⟩ | ⟨g, cap, cur, h3, h4, h5, h6, h7, h8, h9⟩
  · omega
  · refine ⟨g, cap, h3, ?_, ?_⟩
    · rw [cellH h5, ← f1, ← h9, List.getElem?_take_of_lt (by omega)]; simp
    · rw [cellH h5, ← f2, ← h9, List.getElem?_take_of_lt (by omega)]; simp
end Go.Proofs.YtingfomfibhnhaaGreatDoor
namespace Go.Proofs.YtingfomfibhnhaaGreatDoor
open Go.RowKit

theorem ba_app (a b : List UInt8) : (⟨(a ++ b).toArray⟩ : ByteArray) = ⟨a.toArray⟩ ++ ⟨b.toArray⟩ := Utf.ba_ext (by rw [Utf.data_append])
theorem valB_app {a b : List UInt8} (h : valB a = true) : valB (a ++ b) = valB b := by
  unfold valB at *; rw [ba_app]; exact Utf.valid_two _ _ h
theorem valB_nil : valB [] = true := rfl
theorem ba_size (l : List UInt8) : (⟨l.toArray⟩ : ByteArray).size = l.length := by rw [Lib.size_eq]
theorem ba_all (s : ByteArray) : s.extract 0 s.size = s := Utf.ba_ext (by rw [ext_list, List.drop_zero])
theorem valid_first {s : ByteArray} (h : 0 < s.size) (hv : Utf.validS s = true) : 0 ≤ Utf.rp s := by
  unfold Utf.validS Utf.seqB at hv
  rw [Utf.seqF_step s.size s 0 h (by omega)] at hv
  unfold Utf.okAll at hv
  rw [List.all_cons, Bool.and_eq_true] at hv
  have := Utf.stray_neg s 0 h (by have h1 := hv.1; simp at h1; simpa using h1)
  rw [ba_all] at this
  exact this
theorem rune_take {s : ByteArray} (h : 0 < s.size) (hp : 0 ≤ Utf.rp s) : 0 ≤ Utf.rp (s.extract 0 (Utf.rn s)) ∧ Utf.rn (s.extract 0 (Utf.rn s)) = Utf.rn s ∧ (2 ≤ Utf.rn s → ∀ i, i < Utf.rn s → 128 ≤ (s.get! i).toNat) := by
  have hn := Utf.rn_pos s h
  have hl := Utf.rn_le s
  have hz : (s.extract 0 (Utf.rn s)).size = Utf.rn s := by rw [Utf.size_extract _ _ _ hl]; omega
  have hs : s = s.extract 0 (Utf.rn s) ++ s.extract (Utf.rn s) s.size := Utf.ba_ext (by rw [Utf.data_append, Utf.extract_list, ext_list, List.drop_zero, List.take_append_drop])
  have k := Utf.rune_kinds s h
  have k2 := Utf.rune_kinds (s.extract 0 (Utf.rn s)) (by omega)
  have key : 0 ≤ Utf.rp (s.extract 0 (Utf.rn s)) := by
    rcases k with ⟨h1, h2, h3⟩ | ⟨h1, h2, h3, h4⟩ | ⟨h1, h2, h3, h4, h5⟩ | ⟨h1, h2, h3, h4, h5, h6⟩ | ⟨h1, h2, h3, h4, h5, h6⟩
    · rw [h3] at k2 hz hl ⊢
      rw [hz, Utf.get!_extract s 1 0 hl (by omega)] at k2
      rcases k2 with ⟨i1, i2, i3⟩ | ⟨i1, _⟩ | ⟨i1, _⟩ | ⟨i1, _⟩ | ⟨i1, _⟩ <;> omega
    · rw [h4] at k2 hz hl ⊢
      rw [hz, Utf.get!_extract s 2 0 hl (by omega), Utf.get!_extract s 2 1 hl (by omega)] at k2
      have hk : Utf.K2 2 (s.get! 0).toNat (s.get! 1).toNat := by unfold Utf.K2 at *; omega
      rcases k2 with ⟨i1, _⟩ | ⟨i1, i2, i3, i4⟩ | ⟨i1, i2, _⟩ | ⟨i1, i2, _⟩ | ⟨i1, i2, _⟩
      · omega
      · omega
      all_goals exact absurd hk i2
    · rw [h5] at k2 hz hl ⊢
      rw [hz, Utf.get!_extract s 3 0 hl (by omega), Utf.get!_extract s 3 1 hl (by omega), Utf.get!_extract s 3 2 hl (by omega)] at k2
      have hk : Utf.K3 3 (s.get! 0).toNat (s.get! 1).toNat (s.get! 2).toNat := by unfold Utf.K3 at *; omega
      rcases k2 with ⟨i1, _⟩ | ⟨i1, i2, _⟩ | ⟨i1, i2, i3, i4, i5⟩ | ⟨i1, i2, i3, _⟩ | ⟨i1, i2, i3, _⟩
      · omega
      · unfold Utf.K2 at i2; unfold Utf.K3 at hk; omega
      · omega
      all_goals exact absurd hk i3
    · rw [h6] at k2 hz hl ⊢
      rw [hz, Utf.get!_extract s 4 0 hl (by omega), Utf.get!_extract s 4 1 hl (by omega), Utf.get!_extract s 4 2 hl (by omega), Utf.get!_extract s 4 3 hl (by omega)] at k2
      have hk : Utf.K4 4 (s.get! 0).toNat (s.get! 1).toNat (s.get! 2).toNat (s.get! 3).toNat := by unfold Utf.K4 at *; omega
      rcases k2 with ⟨i1, _⟩ | ⟨i1, i2, _⟩ | ⟨i1, i2, i3, _⟩ | ⟨i1, i2, i3, i4, i5, i6⟩ | ⟨i1, i2, i3, i4, _⟩
      · omega
      · unfold Utf.K2 at i2; unfold Utf.K4 at hk; omega
      · unfold Utf.K3 at i3; unfold Utf.K4 at hk; omega
      · omega
      · exact absurd hk i4
    · omega
  refine ⟨key, ?_, ?_⟩
  · have := (Utf.rune_append (s.extract 0 (Utf.rn s)) (s.extract (Utf.rn s) s.size) (by omega) key).2
    rw [← hs] at this; exact this.symm
  · intro h2 i hi
    rcases k with ⟨h1, _, h3⟩ | ⟨h1, h2', h3, h4⟩ | ⟨h1, h2', h3, h4, h5⟩ | ⟨h1, h2', h3, h4, h5, h6⟩ | ⟨h1, h2', h3, h4, h5, h6⟩
    · omega
    · unfold Utf.K2 at h2'
      rcases (by omega : i = 0 ∨ i = 1) with rfl | rfl <;> omega
    · unfold Utf.K3 at h3
      rcases (by omega : i = 0 ∨ i = 1 ∨ i = 2) with rfl | rfl | rfl <;> omega
    · unfold Utf.K4 at h4
      rcases (by omega : i = 0 ∨ i = 1 ∨ i = 2 ∨ i = 3) with rfl | rfl | rfl | rfl <;> omega
    · omega
theorem char_valid {c : ByteArray} (h : 0 < c.size) (hp : 0 ≤ Utf.rp c) (hn : Utf.rn c = c.size) : Utf.validS c = true := by
  have hf := Utf.char_facts c 0 h
  unfold Utf.validS Utf.seqB
  rw [Utf.seqF_step c.size c 0 h (by omega), ba_all, hn, Nat.zero_add, Utf.seqF_end _ _ _ (by omega)]
  unfold Utf.okAll
  rw [ba_all, hn, Nat.zero_add, ba_all] at hf
  simp [hf.2.2.2.2.2]; omega
theorem valB_head {l : List UInt8} (hl : l ≠ []) (hv : valB l = true) : valB (l.take (runeN l)) = true ∧ valB (l.drop (runeN l)) = true ∧ OneRune l ∧ (2 ≤ runeN l → ∀ i c, i < runeN l → l[i]? = some c → 128 ≤ c.toNat) := by
  have hz := ba_size l
  have h0 : 0 < (⟨l.toArray⟩ : ByteArray).size := by rw [hz]; exact List.length_pos_iff.2 hl
  have hp := valid_first h0 hv
  obtain ⟨t1, t2, t3⟩ := rune_take h0 hp
  have hn : Utf.rn ⟨l.toArray⟩ = runeN l := rfl
  have hx : (⟨l.toArray⟩ : ByteArray).extract 0 (runeN l) = ⟨(l.take (runeN l)).toArray⟩ := Utf.ba_ext (by rw [Utf.extract_list, List.drop_zero])
  have hb := rune_bd l hl
  rw [hn, hx] at t1 t2
  rw [hn] at t3
  have hsz := ba_size (l.take (runeN l))
  rw [List.length_take, Nat.min_eq_left hb.2.1] at hsz
  have hv1 : valB (l.take (runeN l)) = true := char_valid (by rw [hsz]; exact hb.1) t1 (by rw [t2, hsz])
  refine ⟨hv1, ?_, t2, ?_⟩
  · have := valB_app (b := l.drop (runeN l)) hv1
    rw [List.take_append_drop] at this
    rw [← this]; exact hv
  · intro h2 i c hi hc
    have h := t3 h2 i hi
    have hg := Utf.get!_list ⟨l.toArray⟩ i (by rw [hz]; omega)
    have e : l[i]? = some ((⟨l.toArray⟩ : ByteArray).get! i) := hg
    rw [hc] at e
    rw [Option.some.inj e]; exact h
/-- A place behind or ahead of a byte below 128, or at the end, parts no character. -/
theorem val_cut : ∀ (m : Nat) (l : List UInt8) (n : Nat), l.length ≤ m → valB l = true → n ≤ l.length → (n = l.length ∨ (∃ c, l[n]? = some c ∧ c.toNat < 128) ∨ (∃ c, 0 < n ∧ l[n - 1]? = some c ∧ c.toNat < 128)) → valB (l.take n) = true
  | 0, l, n, hm, _, hn, _ => by
    have : n = 0 := by omega
    subst this; rfl
  | m + 1, l, n, hm, hv, hn, hc => by
    by_cases h0 : n = 0
    · subst h0; rfl
    have hl : l ≠ [] := by intro e; rw [e] at hn; simp at hn; omega
    have hb := rune_bd l hl
    obtain ⟨v1, v2, _, v4⟩ := valB_head hl hv
    generalize runeN l = r at *
    by_cases hr : n < r
    · exfalso
      rcases hc with h | ⟨c, h1, h2⟩ | ⟨c, h1, h2, h3⟩
      · omega
      · have := v4 (by omega) n c hr h1; omega
      · have := v4 (by omega) (n - 1) c (by omega) h2; omega
    · have hsp : l.take n = l.take r ++ (l.drop r).take (n - r) := by
        rw [show n = r + (n - r) by omega, List.take_add, Nat.add_sub_cancel_left]
      rw [hsp, valB_app v1]
      by_cases hnr : n = r
      · rw [hnr, Nat.sub_self]; rfl
      · refine val_cut m (l.drop r) (n - r) (by rw [List.length_drop]; omega) v2 (by rw [List.length_drop]; omega) ?_
        rcases hc with h | ⟨c, h1, h2⟩ | ⟨c, h1, h2, h3⟩
        · exact .inl (by rw [List.length_drop]; omega)
        · refine .inr (.inl ⟨c, ?_, h2⟩)
          rw [List.getElem?_drop, show r + (n - r) = n by omega]; exact h1
        · refine .inr (.inr ⟨c, by omega, ?_, h3⟩)
          rw [List.getElem?_drop, show r + (n - r - 1) = n - 1 by omega]; exact h2
theorem val_ascii {l : List UInt8} {n : Nat} (hv : valB l = true) (hn : n ≤ l.length) (h0 : 0 < n) (h : ∀ c ∈ l.take n, c.toNat < 128) : valB (l.take n) = true := by
  refine val_cut l.length l n (Nat.le_refl _) hv hn (.inr (.inr ⟨l[n - 1], h0, List.getElem?_eq_getElem (by omega), h _ ?_⟩))
  have hm : (l.take n)[n - 1]'(by rw [List.length_take]; omega) = l[n - 1] := List.getElem_take
  rw [← hm]; exact List.getElem_mem _
theorem rem_last : ∀ (l : List UInt8) (o : Nat) (p : Bool), (p = true → o = 0 → l.head? = some 41) → (rem o p l).2 = true → l[(rem o p l).1 - 1]? = some 41
  | [], o, p, _, h => by rw [rem_nil] at h; cases h
  | c :: r, o, true, hh, h => by
    rw [rem_true] at h ⊢
    by_cases ho : o = 0
    · rw [if_pos ho]; exact hh rfl ho
    · rw [if_neg ho] at h; rw [if_neg ho]
      have ih := rem_last r o false (fun x => by cases x) h
      have hp : 0 < (rem o false r).1 := by
        cases r with
        | nil => rw [rem_nil] at h; cases h
        | cons d r => exact rem_pos _ _ _ _
      show (c :: r)[(rem o false r).1 + 1 - 1]? = _
      rw [Nat.add_sub_cancel, show (rem o false r).1 = ((rem o false r).1 - 1) + 1 by omega, List.getElem?_cons_succ]; exact ih
  | c :: r, o, false, _, h => by
    rw [rem_false] at h ⊢
    have st : ∀ (o : Nat) (p : Bool), (rem o p r).2 = true → r[(rem o p r).1 - 1]? = some 41 → (c :: r)[(add1 (rem o p r)).1 - 1]? = some 41 := fun o p h2 ih => by
      have hp : 0 < (rem o p r).1 := by
        cases r with
        | nil => rw [rem_nil] at h2; cases h2
        | cons d r => exact rem_pos _ _ _ _
      show (c :: r)[(rem o p r).1 + 1 - 1]? = _
      rw [Nat.add_sub_cancel, show (rem o p r).1 = ((rem o p r).1 - 1) + 1 by omega, List.getElem?_cons_succ]; exact ih
    by_cases h1 : opens (c :: r) = true
    · rw [if_pos h1] at h; rw [if_pos h1]
      exact st _ _ h (rem_last r (o + 1) true (fun _ x => by omega) h)
    rw [if_neg h1] at h; rw [if_neg h1]
    by_cases h2 : closes (c :: r) = true
    · rw [if_pos h2] at h; rw [if_pos h2]
      refine st _ _ h (rem_last r (o - 1) true (fun _ _ => ?_) h)
      unfold closes at h2
      cases r with
      | nil => simp [List.isPrefixOf] at h2
      | cons d r => simp [List.isPrefixOf] at h2; simp [h2.2]
    · rw [if_neg h2] at h; rw [if_neg h2]
      exact st _ _ h (rem_last r o false (fun x => by cases x) h)
theorem quo_stop : ∀ (l : List UInt8) (st : Nat), (quo st l).2 = l.length ∨ l[(quo st l).2]? = some 10 ∨ (0 < (quo st l).2 ∧ l[(quo st l).2 - 1]? = some 34)
  | [], st => by rw [quo_nil]; exact .inl rfl
  | c :: r, st => by
    have sh : ∀ st, (addN (quo st r)).2 = (c :: r).length ∨ (c :: r)[(addN (quo st r)).2]? = some 10 ∨ (0 < (addN (quo st r)).2 ∧ (c :: r)[(addN (quo st r)).2 - 1]? = some 34) := fun st => by
      show (quo st r).2 + 1 = r.length + 1 ∨ (c :: r)[(quo st r).2 + 1]? = some 10 ∨ (0 < (quo st r).2 + 1 ∧ (c :: r)[(quo st r).2 + 1 - 1]? = some 34)
      rw [List.getElem?_cons_succ, Nat.add_sub_cancel]
      rcases quo_stop r st with h | h | ⟨h1, h2⟩
      · exact .inl (by rw [h])
      · exact .inr (.inl h)
      · refine .inr (.inr ⟨Nat.succ_pos _, ?_⟩)
        rw [show (quo st r).2 = ((quo st r).2 - 1) + 1 by omega, List.getElem?_cons_succ]; exact h2
    have h10 : (c == 10) = true → (c :: r)[0]? = some 10 := fun h => by rw [beq_iff_eq] at h; rw [h]; rfl
    have h34 : (c == 34) = true → (c :: r)[1 - 1]? = some 34 := fun h => by rw [beq_iff_eq] at h; rw [h]; rfl
    match st with
    | 0 =>
      rw [quo_zero]
      by_cases a : (c == 34) = true
      · rw [if_pos a]; exact .inr (.inr ⟨Nat.one_pos, h34 a⟩)
      rw [if_neg a]
      by_cases b : (c == 10) = true
      · rw [if_pos b]; exact .inr (.inl (h10 b))
      rw [if_neg b]
      split
      · exact sh 1
      · exact sh 0
    | 1 =>
      rw [quo_one]
      by_cases a : escB c = true
      · rw [if_pos a]; exact sh 0
      rw [if_neg a]
      by_cases b : (c == 10) = true
      · rw [if_pos b]; exact .inr (.inl (h10 b))
      rw [if_neg b]; exact sh 2
    | st + 2 =>
      have e : quo (st + 2) (c :: r) = if c == 34 then (9, 1) else if c == 10 then (9, 0) else addN (quo 2 r) := rfl
      rw [e]
      by_cases a : (c == 34) = true
      · rw [if_pos a]; exact .inr (.inr ⟨Nat.one_pos, h34 a⟩)
      rw [if_neg a]
      by_cases b : (c == 10) = true
      · rw [if_pos b]; exact .inr (.inl (h10 b))
      rw [if_neg b]; exact sh 2
theorem dig_low {c : UInt8} (h : digB c = true) : c.toNat < 128 := by unfold digB at h; simp at h; omega
theorem in_low {c : UInt8} (h : inB c = true) : c.toNat < 128 := by
  have h39 : ∀ k : UInt8, (c == k) = true → c.toNat = k.toNat := fun k x => by rw [beq_iff_eq] at x; rw [x]
  unfold inB lowB upB digB at h
  simp only [Bool.or_eq_true, Bool.and_eq_true, decide_eq_true_eq] at h
  rcases h with ((((h | h) | h) | h) | h)
  · omega
  · have := h39 _ h; rw [this]; decide
  · omega
  · omega
  · have := h39 _ h; rw [this]; decide
theorem blank_low {c : UInt8} (h : blankB c = true) : c.toNat < 128 := by
  unfold blankB at h
  simp only [Bool.or_eq_true, beq_iff_eq] at h
  rcases h with ((rfl | rfl) | rfl) | rfl <;> decide
theorem expo_low (l : List UInt8) : ∀ c ∈ l.take (expo l), c.toNat < 128 := by
  cases l with
  | nil => intro c h; simp at h
  | cons d r =>
    rw [expo_cons]
    by_cases h1 : (d == 101 || d == 69) = true
    · rw [if_pos h1]
      by_cases h2 : lead digB (r.drop (sgn r)) = 0
      · rw [if_pos h2]; intro c h; simp at h
      · rw [if_neg h2, Nat.add_assoc, Nat.add_comm 1, List.take_succ_cons, List.take_add]
        intro c hc
        rw [List.mem_cons, List.mem_append] at hc
        rcases hc with rfl | hc | hc
        · simp only [Bool.or_eq_true, beq_iff_eq] at h1
          rcases h1 with rfl | rfl <;> decide
        · cases r with
          | nil => simp at hc
          | cons g r =>
            have hs : sgn (g :: r) = if (g == 43 || g == 45) = true then 1 else 0 := rfl
            rw [hs] at hc
            by_cases h3 : (g == 43 || g == 45) = true
            · rw [if_pos h3] at hc
              simp at hc; subst hc
              simp only [Bool.or_eq_true, beq_iff_eq] at h3
              rcases h3 with rfl | rfl <;> decide
            · rw [if_neg h3] at hc; simp at hc
        · exact dig_low (lead_mem (Nat.le_refl _) c hc)
    · rw [if_neg h1]; intro c h; simp at h
theorem num_low (l : List UInt8) : ∀ c ∈ l.take (num l).2, c.toNat < 128 := by
  have hn := num_eq l
  by_cases h : l[lead digB l]? = some 46
  · rw [if_pos h] at hn
    rw [hn]
    show ∀ c ∈ l.take (lead digB l + 1 + _ + _), _
    intro c hc
    rw [List.take_add, List.take_add, List.mem_append, List.mem_append] at hc
    rcases hc with (hc | hc) | hc
    · rw [List.take_add, List.mem_append] at hc
      rcases hc with hc | hc
      · exact dig_low (lead_mem (Nat.le_refl _) c hc)
      · rw [drop_at h] at hc
        simp at hc; subst hc; decide
    · exact dig_low (lead_mem (Nat.le_refl _) c hc)
    · rw [expT_len] at hc
      generalize lead digB l + 1 = a at hc
      generalize hF : frac (l.drop a) = F at hc
      have hd : l.drop (a + F) = (l.drop a).drop F := List.drop_drop.symm
      rw [hd] at hc
      exact expo_low _ c hc
  · rw [if_neg h] at hn
    rw [hn]
    exact fun c hc => dig_low (lead_mem (Nat.le_refl _) c hc)
theorem val_tok (l : List UInt8) (hl : l ≠ []) (hv : valB l = true) : valB (l.take (cut l).2) = true := by
  have hbd := cut_bd l hl
  cases l with
  | nil => exact absurd rfl hl
  | cons c r =>
    have U : cut (c :: r) = if blankB c then (1, lead blankB (c :: r))
      else if opens (c :: r) then (if (rem 0 false (c :: r)).2 then 2 else 9, (rem 0 false (c :: r)).1)
      else if lowB c then (nameK ((c :: r).take (lead inB (c :: r))), lead inB (c :: r))
      else if digB c then num (c :: r)
      else if c == 34 then addN (quo 0 r)
      else if twosL.contains ((c :: r).take 2) then (8, 2)
      else if onesL.contains c then (8, 1)
      else (9, runeN (c :: r)) := rfl
    rw [U] at hbd ⊢
    by_cases h1 : blankB c = true
    · rw [if_pos h1] at hbd ⊢
      exact val_ascii hv hbd.2 hbd.1 (fun d hd => blank_low (lead_mem (Nat.le_refl _) d hd))
    rw [if_neg h1] at hbd ⊢
    by_cases h2 : opens (c :: r) = true
    · rw [if_pos h2] at hbd ⊢
      by_cases h3 : (rem 0 false (c :: r)).2 = true
      · exact val_cut _ _ _ (Nat.le_refl _) hv hbd.2 (.inr (.inr ⟨41, hbd.1, rem_last _ 0 false (fun x => by cases x) h3, by decide⟩))
      · exact val_cut _ _ _ (Nat.le_refl _) hv hbd.2 (.inl (rem_open _ _ _ (by simpa using h3)))
    rw [if_neg h2] at hbd ⊢
    by_cases h3 : lowB c = true
    · rw [if_pos h3] at hbd ⊢
      exact val_ascii hv hbd.2 hbd.1 (fun d hd => in_low (lead_mem (Nat.le_refl _) d hd))
    rw [if_neg h3] at hbd ⊢
    by_cases h4 : digB c = true
    · rw [if_pos h4] at hbd ⊢
      exact val_ascii hv hbd.2 hbd.1 (num_low _)
    rw [if_neg h4] at hbd ⊢
    by_cases h5 : (c == 34) = true
    · rw [if_pos h5] at hbd ⊢
      have h34 : c = 34 := by rw [beq_iff_eq] at h5; exact h5
      refine val_cut _ _ _ (Nat.le_refl _) hv hbd.2 ?_
      show (quo 0 r).2 + 1 = r.length + 1 ∨ (∃ d, (c :: r)[(quo 0 r).2 + 1]? = some d ∧ _) ∨ (∃ d, 0 < (quo 0 r).2 + 1 ∧ (c :: r)[(quo 0 r).2 + 1 - 1]? = some d ∧ _)
      rw [List.getElem?_cons_succ, Nat.add_sub_cancel]
      rcases quo_stop r 0 with h | h | ⟨h6, h7⟩
      · exact .inl (by rw [h])
      · exact .inr (.inl ⟨10, h, by decide⟩)
      · refine .inr (.inr ⟨34, Nat.succ_pos _, ?_, by decide⟩)
        rw [show (quo 0 r).2 = ((quo 0 r).2 - 1) + 1 by omega, List.getElem?_cons_succ]; exact h7
    rw [if_neg h5] at hbd ⊢
    by_cases h6 : twosL.contains ((c :: r).take 2) = true
    · rw [if_pos h6] at hbd ⊢
      have hall : ∀ x ∈ twosL, ∀ d ∈ x, d.toNat < 128 := by decide
      exact val_ascii hv hbd.2 hbd.1 (hall _ (List.contains_iff_mem.1 h6))
    rw [if_neg h6] at hbd ⊢
    by_cases h7 : onesL.contains c = true
    · rw [if_pos h7] at hbd ⊢
      have hall : ∀ d ∈ onesL, d.toNat < 128 := by decide
      exact val_ascii hv hbd.2 hbd.1 (fun d hd => by simp at hd; rw [hd]; exact hall _ (List.contains_iff_mem.1 h7))
    rw [if_neg h7]
    exact (valB_head (by simp) hv).1
/-- What LexBack says of a text, of its token number i. -/
theorem toks_valid (l : List UInt8) (hv : valB l = true) : ∀ (i : Nat) (t : Tok), (toks l)[i]? = some t → t.2 ≠ [] ∧ valB t.2 = true ∧ toks t.2 = [t] ∧ valB (l.drop (((toks l).take (i + 1)).flatMap (·.2)).length) = true := by
  induction l using toks_ind with
  | h0 => intro i t h; simp [toks_nil] at h
  | h1 l hl ih =>
    have hb := cut_bd l hl
    have v1 := val_tok l hl hv
    have v2 : valB (l.drop (cut l).2) = true := by
      have := valB_app (b := l.drop (cut l).2) v1
      rw [List.take_append_drop, hv] at this; exact this.symm
    intro i t h
    rw [toks_cons l hl] at h
    rw [toks_cons l hl]
    cases i with
    | zero =>
      simp at h; subst h
      have hne : l.take (cut l).2 ≠ [] := by
        intro e; have := congrArg List.length e; rw [List.length_take, List.length_nil] at this; omega
      have hc := cut_take l (valB_head hl hv).2.2.1
      refine ⟨hne, v1, ?_, ?_⟩
      · rw [toks_cons _ hne, hc, List.take_take, Nat.min_self, List.drop_eq_nil_of_le (by rw [List.length_take]; omega), toks_nil]
      · simp only [Nat.zero_add, List.take_succ_cons, List.take_zero, List.flatMap_cons, List.flatMap_nil, List.append_nil, List.length_take]
        rw [Nat.min_eq_left hb.2]; exact v2
    | succ i =>
      have h' := ih v2 i t (by simpa using h)
      refine ⟨h'.1, h'.2.1, h'.2.2.1, ?_⟩
      rw [List.take_succ_cons, List.flatMap_cons, List.length_append, List.length_take, Nat.min_eq_left hb.2, ← List.drop_drop]
      exact h'.2.2.2
end Go.Proofs.YtingfomfibhnhaaGreatDoor
namespace Go.Proofs.YtingfomfibhnhaaGreatDoor
open Go.RowKit

def letters : List UInt8 := [63, 98, 114, 119, 110, 105, 102, 116, 115, 33]
def kindL (E : List Tok) : List UInt8 := E.map fun t => letters.getD t.1 0
def kindS (l : List UInt8) : List UInt8 := if tokE l = 0 then kindL (toks l) else [63]
theorem nameK_le (l : List UInt8) : nameK l ≤ 9 := by unfold nameK; split; omega; split <;> omega
theorem quo_kind : ∀ (l : List UInt8) (st : Nat), (quo st l).1 ≤ 9
  | [], st => by rw [quo_nil]; exact Nat.le_refl _
  | c :: r, st => by
    have sh : ∀ st, (addN (quo st r)).1 ≤ 9 := fun st => quo_kind r st
    match st with
    | 0 => rw [quo_zero]; repeat' split
           all_goals first | exact sh _ | decide
    | 1 => rw [quo_one]; repeat' split
           all_goals first | exact sh _ | decide
    | st + 2 =>
      have e : quo (st + 2) (c :: r) = if c == 34 then (9, 1) else if c == 10 then (9, 0) else addN (quo 2 r) := rfl
      rw [e]; repeat' split
      all_goals first | exact sh _ | decide
theorem num_kind (l : List UInt8) : (num l).1 ≤ 9 := by
  rw [num_eq]; split
  · show (if _ then 6 else 9) ≤ 9; split <;> decide
  · exact (by decide : 5 ≤ 9)
theorem cut_kind (l : List UInt8) : (cut l).1 ≤ 9 := by
  cases l with
  | nil => exact Nat.zero_le _
  | cons c r =>
    show (cutC c r).1 ≤ 9
    unfold cutC
    split
    · exact (by decide : 1 ≤ 9)
    split
    · show (if _ then 2 else 9) ≤ 9; split <;> decide
    split
    · exact nameK_le _
    split
    · exact num_kind _
    split
    · exact quo_kind _ _
    split
    · exact (by decide : 8 ≤ 9)
    split
    · exact (by decide : 8 ≤ 9)
    · exact (by decide : 9 ≤ 9)
theorem toks_kind (l : List UInt8) : ∀ t ∈ toks l, t.1 ≤ 9 := by
  induction l using toks_ind with
  | h0 => intro t h; simp [toks_nil] at h
  | h1 l hl ih =>
    intro t h
    rw [toks_cons l hl, List.mem_cons] at h
    rcases h with rfl | h
    · exact cut_kind l
    · exact ih t h
theorem kind_step {E : List Tok} {i : Nat} {t : Tok} (h : E[i]? = some t) : kindL (E.take (i + 1)) = kindL (E.take i) ++ [letters.getD t.1 0] := by
  have hi : i < E.length := (List.getElem?_eq_some_iff.1 h).1
  unfold kindL
  rw [List.take_succ_eq_append_getElem hi, List.map_append, (List.getElem?_eq_some_iff.1 h).2]; rfl
def lettersB : ByteArray := ⟨#[63, 98, 114, 119, 110, 105, 102, 116, 115, 33]⟩
theorem letter_at (k : Nat) (h : k ≤ 9) : (lettersB.extract k (k + 1)).data.toList = [letters.getD k 0] := by
  rcases (by omega : k = 0 ∨ k = 1 ∨ k = 2 ∨ k = 3 ∨ k = 4 ∨ k = 5 ∨ k = 6 ∨ k = 7 ∨ k = 8 ∨ k = 9) with rfl | rfl | rfl | rfl | rfl | rfl | rfl | rfl | rfl | rfl <;> rfl
def KindEnd (l : List UInt8) (w : World) (e : Ending) (w' : World) : Prop := e = .returned (bl l) ∧ Below w.heap.size w w'
def wx1 : List UInt8 := [108, 101, 116, 32, 120, 39, 32, 61, 32, 49, 46, 53, 101, 51, 32, 43, 46, 32, 95, 121, 32, 40, 42, 32, 97, 32, 40, 42, 32, 98, 32, 42, 41, 32, 42, 41]
theorem wk1 : kindS wx1 = [119, 98, 110, 98, 115, 98, 102, 98, 115, 98, 110, 98, 114] := by decide +kernel
theorem wk2 : kindS [34, 97, 92, 110, 34, 32] = [116, 98] := by decide +kernel
theorem wk3 : kindS [34, 97, 92, 113, 34, 32, 98, 34] = [33, 98, 110, 33] := by decide +kernel
theorem wk4 : kindS [34, 97, 10] = [33, 98] := by decide +kernel
def StrEnd (x : ByteArray) (w : World) (e : Ending) (w' : World) : Prop := e = .returned (.string x) ∧ Below w.heap.size w w'
def WorksEnd (w : World) (e : Ending) (w' : World) : Prop := e = .returned (.bool true) ∧ Below w.heap.size w w'
end Go.Proofs.YtingfomfibhnhaaGreatDoor
namespace Go.Proofs.YtingfomfibhnhaaGreatDoor
open Go.RowKit Go.Shelf

set_option maxHeartbeats 1000000 in
set_option maxRecDepth 100000 in
theorem check_used (b : Nat) (w : World) (h0 : w.cell? ⟨b, 0, none⟩ = some (.pointer (some ⟨b, 0, none⟩))) :
    Calls Tryz.prog 57 #[.pointer (some ⟨b, 0, none⟩)] w fun e w' => e = .returned (.tuple #[]) ∧ w' = w := by
  obtain ⟨j, hj, _⟩ := Option.map_eq_some_iff.1 Tryz.Builder_Extra_169.sizeBuilder
  have ht : Tryz.prog.underlying 70 = some (.pointer 73) := by kernel_rfl
  go_enter Tryz.func57, Tryz.ntmps57
  go_wp2
  rw [Lib.run_neq_ptr_same w _ ht hj]
  go_wp2
  go_end0
  exact ⟨rfl, rfl⟩
set_option maxHeartbeats 1000000 in
set_option maxRecDepth 100000 in
theorem check_fresh (b : Nat) (w : World) (h0 : w.cell? ⟨b, 0, none⟩ = some (.pointer none)) (hsh : w.shape? b = some (73, 2)) (hfz : w.frozen? ⟨b, 0, none⟩ = false) :
    Calls Tryz.prog 57 #[.pointer (some ⟨b, 0, none⟩)] w fun e w' => e = .returned (.tuple #[]) ∧ w' = w.setCell ⟨b, 0, none⟩ (.pointer (some ⟨b, 0, none⟩)) := by
  obtain ⟨j, hj, hjs⟩ := Option.map_eq_some_iff.1 Tryz.Builder_Extra_169.sizeBuilder
  have ht : Tryz.prog.underlying 70 = some (.pointer 73) := by kernel_rfl
  have hu : Tryz.prog.underlying 100 = some .unsafePointer := by kernel_rfl
  go_enter Tryz.func57, Tryz.ntmps57
  go_wp2
  rw [Lib.run_to_unsafe w ⟨b, 0, none⟩ ht hu hj (by rw [hjs]; decide) hsh (Nat.zero_lt_succ 1)]
  simp only [Result.andThen]
  rw [Oper.upon_value]
  go_wp2
  rw [run_callFunc_extern Tryz.func68 (by kernel_rfl) (by kernel_rfl) (by kernel_rfl) (e := Extern.AbiNoEscape.same) (by kernel_rfl)]
  rw [Lib.run_noEscape]
  simp only [Result.andThen]
  rw [Oper.upon_value]
  go_wp2
  rw [Lib.run_from_unsafe w ⟨b, 0, none⟩ hu ht hj hsh Tryz.Builder_Extra_169.liesBuilder]
  simp only [Result.andThen]
  rw [Oper.upon_value]
  go_wp2
  go_end0
  exact ⟨rfl, rfl⟩
set_option maxHeartbeats 2000000 in
set_option maxRecDepth 100000 in
theorem write_any (B b : Nat) (bs : List Value) (s : ByteArray) (w : World) (h : Lib.IsBuilder 73 5 B b bs w) (hlen : bs.length + s.size ≤ 140737488355328) (hBw : B ≤ w.heap.size) :
    Calls Tryz.prog 41 #[.pointer (some ⟨b, 0, none⟩), .string s] w fun e w' => e = .returned (.tuple #[.int .i64 s.size, .nilIface]) ∧ Lib.IsBuilder 73 5 B b (bs ++ Lib.strCells s) w' ∧ Below B w w' := by
  obtain ⟨i0, hi, hz0, hz1, hz2⟩ := info_parts Tryz.Builder_Extra_169.infoByte
  have t37 : Tryz.prog.underlying 71 = some (.slice 5) := by kernel_rfl
  have t9 : Tryz.prog.underlying 9 = some .string := by kernel_rfl
  have hc : Calls Tryz.prog 57 #[.pointer (some ⟨b, 0, none⟩)] w fun e w' => e = .returned (.tuple #[]) ∧ Lib.BuilderAt 73 5 B b (.pointer (some ⟨b, 0, none⟩)) bs w' ∧ Below B w w' := by
    rcases h with h | h
    · refine (check_fresh b w h.cell0 h.shape h.frozen0).mono ?_
      rintro e w' ⟨h1, rfl⟩
      exact ⟨h1, h.used _, (Below.refl B w).setCell (p := ⟨b, 0, none⟩) h.1 _⟩
    · refine (check_used b w h.cell0).mono ?_
      rintro e w' ⟨h1, rfl⟩
      exact ⟨h1, h, Below.refl B _⟩
  clear h
  go_enter Tryz.func41, Tryz.ntmps41
  go_wp2_with fail
  refine hc.mono ?_
  rintro e w1 ⟨rfl, h, hb1⟩
  obtain ⟨hB, v, hbk, hown, hne⟩ := h
  have HB1 := Lib.hid hb1
  have hs1 := hb1.size
  clear hb1 hc
  have c0 : w1.cell? ⟨b, 0, none⟩ = some (.pointer (some ⟨b, 0, none⟩)) := by rw [Lib.cell_of_heap hbk]; rfl
  have c1 : w1.cell? ⟨b, 1, none⟩ = some v := by rw [Lib.cell_of_heap hbk]; rfl
  go_wp2_with (at_builtin; refine Lib.wpList_append_own_string _ rfl _ _ 71 9 rfl B 5 i0 t37 t9 hi hz0 hz1 hz2 _ _ _ rfl hown s rfl ?c3 ?c4 ?c5 ?_)
  case c3 => unfold maxLen; omega
  case c4 => omega
  case c5 => omega
  intro v' w2 hown' hgrow _
  have hlt : b < w1.heap.size := (Array.getElem?_eq_some_iff.1 hbk).1
  have hb2 : w2.heap[b]? = some (.cells #[.pointer (some ⟨b, 0, none⟩), v] 73 (0, 0)) := by
    rw [hgrow.block b hlt (fun e => hne e.symm)]
    exact hbk
  have d0 : w2.cell? ⟨b, 0, none⟩ = some (.pointer (some ⟨b, 0, none⟩)) := by rw [Lib.cell_of_heap hb2]; rfl
  have d1 : w2.cell? ⟨b, 1, none⟩ = some v := by rw [Lib.cell_of_heap hb2]; rfl
  have f1 : w2.frozen? ⟨b, 1, none⟩ = false := Lib.frozen_of_heap hb2 1
  obtain ⟨ao, n', cap, rfl⟩ : ∃ ao n' cap, v' = .slice ao n' cap := by
    rcases hown'.2 with ⟨hv, _⟩ | ⟨g, cap, cur, hv, _⟩
    · exact ⟨_, _, _, hv⟩
    · exact ⟨_, _, _, hv⟩
  go_wp2
  refine bodyPost_ret (v := .tuple #[.int .i64 s.size, .nilIface]) (by simp [results, Tryz.f41, go_sem]) rfl ?_
  refine ⟨rfl, .inr ?_, ?_⟩
  · exact Lib.BuilderAt.put (T := 73) (e := 5) hB hb2 (bs' := bs ++ Lib.strCells s) (by simpa [Lib.strCells_length] using hown') (by decide)
  · exact (HB1.out.grown hgrow (by omega) (fun k hk => (hown.lt k hk).1)).setCell (p := ⟨b, 1, none⟩) hB _
theorem builder_keep {B bb : Nat} {bs : List Value} {w w' : World} (h : Lib.IsBuilder 73 5 B bb bs w) (hk : ∀ k, B ≤ k → k < w.heap.size → w'.heap[k]? = w.heap[k]?) : Lib.IsBuilder 73 5 B bb bs w' := by
  have go : ∀ p, Lib.BuilderAt 73 5 B bb p bs w → Lib.BuilderAt 73 5 B bb p bs w' := fun p h => by
    obtain ⟨hB, v, hbk, hown, hne⟩ := h
    refine ⟨hB, v, (hk bb hB (Array.getElem?_eq_some_iff.1 hbk).1).trans hbk, ⟨hown.1, ?_⟩, hne⟩
    rcases hown.2 with h2 | ⟨g, cap, cur, rfl, h4, h5, h6⟩
    · exact .inl h2
    · exact .inr ⟨g, cap, cur, rfl, h4, (hk g h4 (Array.getElem?_eq_some_iff.1 h5).1).trans h5, h6⟩
  rcases h with h | h
  · exact .inl (go _ h)
  · exact .inr (go _ h)
end Go.Proofs.YtingfomfibhnhaaGreatDoor
namespace Go.Proofs.YtingfomfibhnhaaGreatDoor
open Go.RowKit Go.Shelf

def joinL (E : List Tok) : List UInt8 := E.flatMap (·.2)
theorem join_step {E : List Tok} {i : Nat} {t : Tok} (h : E[i]? = some t) : joinL (E.take (i + 1)) = joinL (E.take i) ++ t.2 := by
  have hi : i < E.length := (List.getElem?_eq_some_iff.1 h).1
  unfold joinL
  rw [List.take_succ_eq_append_getElem hi, List.flatMap_append, (List.getElem?_eq_some_iff.1 h).2]
  simp
theorem join_le (E : List Tok) (i : Nat) : (joinL (E.take i)).length ≤ (joinL E).length := by
  have h : E = E.take i ++ E.drop i := (List.take_append_drop i E).symm
  have : joinL E = joinL (E.take i) ++ joinL (E.drop i) := by
    unfold joinL; rw [← List.flatMap_append, ← h]
  rw [this, List.length_append]; omega
theorem builder_alloc {B b : Nat} {bs : List Value} {w : World} (h : Lib.IsBuilder 73 5 B b bs w) (o : Obj) : Lib.IsBuilder 73 5 B b bs (w.alloc o) :=
  builder_keep h (fun k _ h2 => (galloc2 (Below.refl w.heap.size w) (Nat.le_refl _) o).block k h2)
theorem builder_new (w : World) : Lib.IsBuilder 73 5 w.heap.size w.heap.size [] (w.alloc (.cells #[.pointer none, .slice none 0 0] 73)) :=
  .inl ⟨Nat.le_refl _, .slice none 0 0, heap_alloc_new w _, World.ownsRow_nil _ _ _ _, by intro h; cases h⟩
theorem builder_size {B b : Nat} {bs : List Value} {w : World} (h : Lib.IsBuilder 73 5 B b bs w) : b < w.heap.size := by
  rcases h with ⟨_, v, hb, _⟩ | ⟨_, v, hb, _⟩ <;> exact (Array.getElem?_eq_some_iff.1 hb).1
def JoinEnd (l : List UInt8) (w : World) (e : Ending) (w' : World) : Prop := e = .returned (bl l) ∧ Below w.heap.size w w'
end Go.Proofs.YtingfomfibhnhaaGreatDoor
namespace Go.Proofs.YtingfomfibhnhaaGreatDoor
open Go.RowKit

theorem tokE_zero {l : List UInt8} (h : tokE l = 0) : l.length ≤ 65536 ∧ valB l = true := by
  unfold tokE at h
  split at h
  · cases h
  · split at h
    · exact ⟨by omega, by assumption⟩
    · cases h
theorem tokE_good {l : List UInt8} (h1 : l.length ≤ 65536) (h2 : valB l = true) : tokE l = 0 := by
  unfold tokE; rw [if_neg (by omega), if_pos h2]
/-- What LexBack asks of a text's tokens. -/
theorem back_tok {l : List UInt8} (hE : tokE l = 0) {i : Nat} {t : Tok} (h : (toks l)[i]? = some t) :
    t.2 ≠ [] ∧ oneE t.2 = 0 ∧ oneT t.2 = t ∧ tokE (l.drop (joinL ((toks l).take (i + 1))).length) = 0 ∧ tokL (l.drop (joinL ((toks l).take (i + 1))).length) = (toks l).drop (i + 1) ∧ (joinL ((toks l).take (i + 1))).length ≤ l.length := by
  obtain ⟨hl, hv⟩ := tokE_zero hE
  obtain ⟨h1, h2, h3, h4⟩ := toks_valid l hv i t h
  have hj := toks_join l
  have hle := join_le (toks l) (i + 1)
  have hj2 : joinL (toks l) = l := hj
  rw [hj2] at hle
  have hle2 : t.2.length ≤ 65536 := by
    have hs := join_step h
    have := congrArg List.length hs
    rw [List.length_append] at this
    omega
  have e1 : tokE t.2 = 0 := tokE_good hle2 h2
  have e2 : tokE (l.drop (joinL ((toks l).take (i + 1))).length) = 0 := tokE_good (by rw [List.length_drop]; omega) h4
  refine ⟨h1, ?_, ?_, e2, ?_, hle⟩
  · unfold oneE; rw [if_pos e1, h3]; rfl
  · unfold oneT oneE; rw [if_pos e1, h3]; rfl
  · unfold tokL; rw [if_pos e2]; exact toks_drop (i + 1) l
set_option maxRecDepth 100000 in
theorem neq_tok (k : Int) (T : ByteArray) (W : World) : (binOp .neq 25 (.agg #[.int .u8 k, .string T]) (.agg #[.int .u8 k, .string T])).run Tryz.prog W = .ok (.bool false) W := by
  simp [go_sem]
end Go.Proofs.YtingfomfibhnhaaGreatDoor
