/-
  build: a tree of a text.
-/
import Derived.Test.YtbmcgmnmmnileaaB
namespace Go.Proofs.Ytbmcgmnmmnileaa
open Go.RowKit Go.Shelf

def lg (n : Nat) : Nat := if h : 2 ≤ n then lg (n / 2) + 1 else 0
termination_by n
decreasing_by omega
/-- How deep build makes so many pieces. -/
def dep (k : Nat) : Nat := 1 + lg (2 * k - 1)
theorem log2_half (n : Nat) (h : 2 ≤ n) : lg n = lg (n / 2) + 1 := by
  rw [lg, dif_pos h]
theorem log2_mono : ∀ (a b : Nat), a ≤ b → lg a ≤ lg b := by
  intro a
  induction a using Nat.strongRecOn with
  | _ a ih =>
    intro b hab
    by_cases h : 2 ≤ a
    · rw [log2_half a h, log2_half b (by omega)]
      have := ih (a / 2) (by omega) (b / 2) (by omega)
      omega
    · rw [lg, dif_neg h]; omega
theorem dep_one : dep 1 = 1 := by unfold dep; rw [lg, dif_neg (by omega)]
theorem dep_two (k : Nat) (h : 2 ≤ k) : dep k = 1 + max (dep (k / 2)) (dep (k - k / 2)) ∧ dep (k / 2) ≤ dep (k - k / 2) + 1 ∧ dep (k - k / 2) ≤ dep (k / 2) + 1 := by
  unfold dep
  have m1 := log2_mono (2 * (k / 2) - 1) (2 * (k - k / 2) - 1) (by omega)
  have e1 : lg (2 * k - 1) = lg (k - 1) + 1 := by rw [log2_half _ (by omega), show (2 * k - 1) / 2 = k - 1 by omega]
  have e2 : lg (2 * (k - k / 2) - 1) = lg (k - 1) := by
    obtain ⟨c, hc⟩ : ∃ c, k = 2 * c ∨ k = 2 * c + 1 := ⟨k / 2, by omega⟩
    rcases hc with rfl | rfl
    · rw [show 2 * (2 * c - 2 * c / 2) - 1 = 2 * c - 1 by omega]
    · rw [show 2 * (2 * c + 1 - (2 * c + 1) / 2) - 1 = 2 * c + 1 by omega, show 2 * c + 1 - 1 = 2 * c by omega]
      rw [log2_half (2 * c + 1) (by omega), log2_half (2 * c) (by omega), show (2 * c + 1) / 2 = 2 * c / 2 by omega]
  have m2 : lg (2 * (k - k / 2) - 1) ≤ lg (2 * (k / 2) - 1) + 1 := by
    have h3 := log2_mono (2 * (k - k / 2) - 1) (4 * (k / 2) - 1) (by omega)
    have h4 : lg (4 * (k / 2) - 1) = lg (2 * (k / 2) - 1) + 1 := by rw [log2_half _ (by omega), show (4 * (k / 2) - 1) / 2 = 2 * (k / 2) - 1 by omega]
    omega
  omega

theorem ex_size (s : ByteArray) (i j : Nat) (h : j ≤ s.size) : (s.extract i j).size = j - i := by simp; omega
theorem ex_list (s : ByteArray) (i j : Nat) : (s.extract i j).data.toList = (s.data.toList.drop i).take (j - i) := by
  simp only [ByteArray.data_extract, Array.toList_extract, List.extract_eq_take_drop]
theorem ex_two (s : ByteArray) (m : Nat) : (s.extract 0 m).data.toList ++ (s.extract m s.size).data.toList = s.data.toList := by
  rw [ex_list, ex_list, List.drop_zero, Nat.sub_zero, List.take_of_length_le (l := s.data.toList.drop m) (by rw [List.length_drop, ← Lib.size_eq]; exact Nat.le_refl _), List.take_append_drop]

/-- What build makes of a text that has a byte. -/
def Built (s : ByteArray) (w : World) (e : Ending) (w' : World) : Prop :=
  ∃ b t, e = .returned (.pointer (some ⟨b, 0, none⟩)) ∧ At w' b t ∧ t.Ok ∧ t.text = s.data.toList ∧ t.depth = dep ((s.size + 255) / 256) ∧ Below w.heap.size w w'
theorem isEmpty_no {s : ByteArray} (hs : 0 < s.size) : s.toList.isEmpty = false := by
  cases h : s.toList.isEmpty
  · rfl
  · rw [List.isEmpty_iff, Lib.toList_data] at h
    rw [Lib.size_eq, h] at hs
    exact absurd hs (by decide)
theorem isEmpty_yes {s : ByteArray} (hs : s.size = 0) : s.toList.isEmpty = true := by
  rw [List.isEmpty_iff, Lib.toList_data]
  exact List.eq_nil_of_length_eq_zero (by rw [← Lib.size_eq]; exact hs)

set_option maxRecDepth 100000 in
set_option maxHeartbeats 2000000 in
theorem build_some (n : Nat) : ∀ (s : ByteArray) (w : World), s.size ≤ n → 0 < s.size → s.size ≤ 1000000 → Calls Try.prog 27 #[.string s] w (Built s w) := by
  induction n with
  | zero => intro s w h1 h2 _; omega
  | succ n ih =>
    intro s w h1 h2 h3
    have he := isEmpty_no h2
    by_cases hk : s.size ≤ 256
    · have hp := fun w => piece_ok s w (by omega)
      have hq : (s.size : Int) + 256 - 1 < 512 := by omega
      have hd : ((s.size : Int) + 256 - 1) / 256 = 1 := by omega
      go_enter Try.func27, Try.ntmps27
      go_wp2_with fail
      refine Calls.mono (hp _) ?_
      rintro e w1 ⟨b, rfl, hA, hB⟩
      go_wp2
      go_ret
      exact ⟨b, _, rfl, hA, h2, rfl, by rw [show (s.size + 255) / 256 = 1 by omega, dep_one]; rfl, hB⟩
    · obtain ⟨k, hk2⟩ : ∃ k, (s.size + 255) / 256 = k := ⟨_, rfl⟩
      have hk3 : 2 ≤ k := by omega
      obtain ⟨m, hm⟩ : ∃ m, k / 2 * 256 = m := ⟨_, rfl⟩
      have hm1 : 0 < m := by omega
      have hm2 : m < s.size := by omega
      have hd : ((s.size : Int) + 256 - 1) / 256 = k := by omega
      have hd2 : ((k : Int) == 1) = false := by rw [beq_eq_false_iff_ne]; omega
      have hd3 : (k : Int) / 2 * 256 = m := by omega
      have hs1 := ex_size s 0 m (by omega)
      have hs2 := ex_size s m s.size (Nat.le_refl _)
      have cA := fun w => ih (s.extract 0 m) w (by omega) (by omega) (by omega)
      have cB := fun w => ih (s.extract m s.size) w (by omega) (by omega) (by omega)
      have hex := ex_two s m
      obtain ⟨sa, hsa⟩ : ∃ x, s.extract 0 m = x := ⟨_, rfl⟩
      obtain ⟨sb, hsb⟩ : ∃ x, s.extract m s.size = x := ⟨_, rfl⟩
      rw [hsa] at cA hs1 hex
      rw [hsb] at cB hs2 hex
      have HEX := Lib.hid hex
      have HS1 := Lib.hid hs1
      have HS2 := Lib.hid hs2
      clear hex hs1 hs2
      have hk6 : k ≤ 4000 := by omega
      have hi0 : (0 : Int) ≤ (m : Int) := by omega
      have hi1 : (m : Int) ≤ (s.size : Int) := by omega
      have H2 := Lib.hid hk2
      have HM := Lib.hid hm
      clear hk2 hm ih
      go_enter Try.func27, Try.ntmps27
      go_wp2
      have hz1 : ∀ t : T, t.text = sa.data.toList → t.Ok → t.size = m ∧ t.depth ≤ m := fun t ht ho => by
        have a := T.size_text t
        have b := T.depth_le t ho
        rw [ht, ← Lib.size_eq, HS1.out] at a
        omega
      have hz2 : ∀ t : T, t.text = sb.data.toList → t.Ok → t.size = s.size - m ∧ t.depth ≤ s.size - m := fun t ht ho => by
        have a := T.size_text t
        have b := T.depth_le t ho
        rw [ht, ← Lib.size_eq, HS2.out] at a
        omega
      have Z1 := Lib.hid hz1
      have Z2 := Lib.hid hz2
      clear hz1 hz2 he
      go_region_held3 (fun _ => True) (first | exact trivial) (first | (go_at_call 27; (with_reducible refine Calls.mono (cA _) ?_); rintro e w1 ⟨b1, t1, rfl, h1, o1, x1, d1, hb1⟩) | (go_at_call 27; (with_reducible refine Calls.mono (cB _) ?_); rintro e w2 ⟨b2, t2, rfl, h2', o2, x2, d2, hb2⟩) | (go_at_call 40; refine Calls.mono (concat_ok _ b1 b2 t1 t2 (h1.below (Nat.le_refl _) hb2) h2' (by have := (Z1.out t1 x1 o1).1; have := (Z2.out t2 x2 o2).1; omega) (by have := (Z1.out t1 x1 o1).2; omega) (by have := (Z2.out t2 x2 o2).2; omega)) ?_; rintro e w3 ⟨b3, rfl, h3', hb3⟩))
      have hm := HM.out
      have hkk := H2.out
      have q1 := HS1.out
      have q2 := HS2.out
      have hdd := dep_two k hk3
      rw [show (sa.size + 255) / 256 = k / 2 by omega] at d1
      rw [show (sb.size + 255) / 256 = k - k / 2 by omega] at d2
      have hB : Below w.heap.size w w3 := (Below.refl w.heap.size w).drew.trans (hb1.trans ((hb2.mono hb1.size).trans (hb3.mono (Nat.le_trans hb1.size hb2.size))))
      have hD : (T.cat t1 t2).depth = dep ((s.size + 255) / 256) := by
        show 1 + max t1.depth t2.depth = _
        rw [d1, d2, hkk]
        exact hdd.1.symm
      have hO : (T.cat t1 t2).Ok := ⟨o1, o2, by rw [d1, d2]; exact hdd.2.1, by rw [d1, d2]; exact hdd.2.2⟩
      have hX : (T.cat t1 t2).text = s.data.toList := by
        show t1.text ++ t2.text = _
        rw [x1, x2, HEX.out]
      have HR := Lib.hid (And.intro hD (And.intro hO (And.intro hX hB)))
      clear hm hkk q1 q2 hdd d1 d2 hB hD hO hX x1 x2
      go_wp2
      go_ret
      exact ⟨b3, _, rfl, h3', HR.out.2.1, HR.out.2.2.1, HR.out.1, HR.out.2.2.2⟩
theorem build_none (s : ByteArray) (w : World) (h : s.size = 0) : Calls Try.prog 27 #[.string s] w fun e w' => e = .returned (.pointer none) ∧ w = w' := by
  have he := isEmpty_yes h
  have H := Lib.hid h
  clear h
  go_enter Try.func27, Try.ntmps27
  go_wp2
  go_ret
  exact ⟨rfl, rfl⟩
/-- build, at any text. -/
theorem build_any (s : ByteArray) (w : World) (h : s.size ≤ 1000000) :
    Calls Try.prog 27 #[.string s] w fun e w' => ∃ v o, e = .returned v ∧ AtO w' v o ∧ OkO o ∧ textO o = s.data.toList ∧ Below w.heap.size w w' := by
  by_cases hz : s.size = 0
  · refine (build_none s w hz).mono ?_
    rintro e w' ⟨rfl, rfl⟩
    exact ⟨_, none, rfl, rfl, trivial, (List.eq_nil_of_length_eq_zero (by rw [← Lib.size_eq]; exact hz)).symm, Below.refl _ _⟩
  · refine Calls.mono (build_some s.size s w (Nat.le_refl _) (by omega) h) ?_
    rintro e w' ⟨b, t, rfl, hA, hO, hX, _, hB⟩
    exact ⟨_, some t, rfl, ⟨b, rfl, hA⟩, hO, hX, hB⟩
end Go.Proofs.Ytbmcgmnmmnileaa
