/-
  What is put is read as it was; the walk of the law UtfBack.
-/
import Derived.Test.YtffldjlgmbiplaaDoorQ
namespace Go.Proofs.YtffldjlgmbiplaaDoor
open Go.RowKit

theorem nums_get {t : ByteArray} {l : List Nat} (h : t.data.toList.map (·.toNat) = l) : t.size = l.length ∧ ∀ i, i < t.size → l[i]? = some (t.get! i).toNat := by
  subst h
  refine ⟨by rw [List.length_map, ← Lib.size_eq], fun i hi => ?_⟩
  rw [List.getElem?_map, get!_list t i hi]; rfl
/-- What is put is one character: itself. -/
theorem put_rune (p : Int) (h : isPt p = true) : rp (putB p) = p ∧ rn (putB p) = (putB p).size ∧ 1 ≤ (putB p).size ∧ (putB p).size ≤ 4 ∧ ((putB p).size = 4 ↔ 65536 ≤ p) := by
  have hp := of_decide_eq_true h
  obtain ⟨hz, hg⟩ := nums_get (putB_toList p)
  generalize putB p = t at *
  unfold putN at hz hg
  rw [if_neg (by omega)] at hz hg
  by_cases h1 : p < 128
  · simp only [if_pos h1, List.length_cons, List.length_nil] at hz hg
    have g0 := hg 0 (by omega)
    simp only [List.getElem?_cons_zero, Option.some.injEq] at g0
    rcases rune_kinds t (by omega) with ⟨i1, i2, i3⟩ | ⟨i1, _⟩ | ⟨i1, _⟩ | ⟨i1, _⟩ | ⟨i1, _⟩ <;> omega
  · by_cases h2 : p < 2048
    · simp only [if_neg h1, if_pos h2, List.length_cons, List.length_nil] at hz hg
      have g0 := hg 0 (by omega)
      have g1 := hg 1 (by omega)
      simp only [List.getElem?_cons_zero, List.getElem?_cons_succ, Option.some.injEq] at g0 g1
      have hk : K2 t.size (t.get! 0).toNat (t.get! 1).toNat := by unfold K2; omega
      rcases rune_kinds t (by omega) with ⟨i1, _⟩ | ⟨i1, i2, i3, i4⟩ | ⟨i1, i2, _⟩ | ⟨i1, i2, _⟩ | ⟨i1, i2, _⟩
      · omega
      · omega
      all_goals exact absurd hk i2
    · by_cases h3 : p < 65536
      · simp only [if_neg h1, if_neg h2, if_pos h3, List.length_cons, List.length_nil] at hz hg
        have g0 := hg 0 (by omega)
        have g1 := hg 1 (by omega)
        have g2 := hg 2 (by omega)
        simp only [List.getElem?_cons_zero, List.getElem?_cons_succ, Option.some.injEq] at g0 g1 g2
        have hk : K3 t.size (t.get! 0).toNat (t.get! 1).toNat (t.get! 2).toNat := by unfold K3; omega
        rcases rune_kinds t (by omega) with ⟨i1, _⟩ | ⟨i1, i2, _⟩ | ⟨i1, i2, i3, i4, i5⟩ | ⟨i1, i2, i3, _⟩ | ⟨i1, i2, i3, _⟩
        · omega
        · unfold K2 at i2; omega
        · omega
        all_goals exact absurd hk i3
      · simp only [if_neg h1, if_neg h2, if_neg h3, List.length_cons, List.length_nil] at hz hg
        have g0 := hg 0 (by omega)
        have g1 := hg 1 (by omega)
        have g2 := hg 2 (by omega)
        have g3 := hg 3 (by omega)
        simp only [List.getElem?_cons_zero, List.getElem?_cons_succ, Option.some.injEq] at g0 g1 g2 g3
        have hk : K4 t.size (t.get! 0).toNat (t.get! 1).toNat (t.get! 2).toNat (t.get! 3).toNat := by unfold K4; omega
        rcases rune_kinds t (by omega) with ⟨i1, _⟩ | ⟨i1, i2, _⟩ | ⟨i1, i2, i3, _⟩ | ⟨i1, i2, i3, i4, i5, i6⟩ | ⟨i1, i2, i3, i4, _⟩
        · omega
        · unfold K2 at i2; omega
        · unfold K3 at i3; omega
        · omega
        · exact absurd hk i4
theorem put_seq (p : Int) (h : isPt p = true) : seqB (putB p) = [(0, putB p)] := by
  obtain ⟨h1, h2, h3, h4, _⟩ := put_rune p h
  have he : (putB p).extract 0 (putB p).size = putB p := by
    apply ba_ext; rw [extract_list, List.drop_zero, List.take_of_length_le (by rw [← Lib.size_eq]; exact Nat.le_refl _)]
  unfold seqB
  rw [seqF_step _ _ 0 (by omega) (by omega), he, h2, Nat.zero_add, he, seqF_end _ _ _ (by omega)]
theorem put_valid (p : Int) (h : isPt p = true) : validS (putB p) = true := by
  obtain ⟨h1, h2, h3, h4, _⟩ := put_rune p h
  have hp := of_decide_eq_true h
  have he : (putB p).extract 0 (putB p).size = putB p := by
    apply ba_ext; rw [extract_list, List.drop_zero, List.take_of_length_le (by rw [← Lib.size_eq]; exact Nat.le_refl _)]
  have hs := (char_facts (putB p) 0 (by omega)).2.2.2.2.2
  rw [he, h2, Nat.zero_add, he, h1, decide_eq_false (by omega)] at hs
  rw [validS, put_seq p h]
  simp [okAll, hs]
theorem put_units (p : Int) (h : isPt p = true) : uN (seqB (putB p)) = if 65536 ≤ p then 2 else 1 := by
  obtain ⟨h1, h2, h3, h4, h5⟩ := put_rune p h
  rw [put_seq p h, uN_cons, uN_nil]
  simp only
  unfold widB
  by_cases h6 : 65536 ≤ p
  · rw [if_pos (h5.2 h6), if_pos h6]; rfl
  · rw [if_neg (fun h7 => h6 (h5.1 h7)), if_neg h6]; rfl
theorem put_pair (p : Int) (h : isPt p = true) : pairQ (halfH p) (halfL p) = decide (65536 ≤ p) ∧ (65536 ≤ p → pairP (halfH p) (halfL p) = p) := by
  have hp := of_decide_eq_true h
  by_cases h6 : 65536 ≤ p
  · have hh := (half_yes ⟨h6, by omega⟩ : halfH p = _ ∧ halfL p = _)
    rw [hh.1, hh.2]
    have hy := pair_yes (a := 55296 + (p - 65536) / 1024) (b := 56320 + (p - 65536) % 1024) (by omega)
    rw [hy.1, hy.2, decide_eq_true h6]
    exact ⟨rfl, fun _ => by omega⟩
  · have hh := (half_no (n := p) (by omega))
    rw [hh.1, hh.2, decide_eq_false h6]
    exact ⟨rfl, fun h => absurd h h6⟩

set_option maxRecDepth 100000 in
set_option maxHeartbeats 1600000 in
theorem back_long (s : ByteArray) (n p : Int) (w : World) (hT : Lib.Utf8Tabs 0 1 w) (h : 3000 < s.size) :
    Calls Tryd.prog 6 #[.string s, .int .i64 n, .int .i64 p] w fun e w' => e = .returned (.bool true) ∧ Below w.heap.size w w' := by
  have h2 := tabs_size hT
  have cw := works_any
  have h3 : (3000 : Int) < s.size := by omega
  go_enter Tryd.func6, Tryd.ntmps6
  go_wp2_with fail
  refine (cw _ hT).mono ?_
  rintro e w1 ⟨rfl, hb1⟩
  go_wp2_with fail
  refine (cw _ (tabs_below hT hb1 h2)).mono ?_
  rintro e w2 ⟨rfl, hb2'⟩
  have hb2 := hb1.trans (hb2'.mono hb1.size)
  go_wp2
  go_ret
  exact ⟨rfl, hb2⟩
end Go.Proofs.YtffldjlgmbiplaaDoor
