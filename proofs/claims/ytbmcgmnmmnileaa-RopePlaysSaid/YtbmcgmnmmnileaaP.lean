/-
  Line and Ahead.
-/
import Derived.Test.YtbmcgmnmmnileaaO
namespace Go.Proofs.Ytbmcgmnmmnileaa
open Go.RowKit Go.Shelf

def lineR (l : List UInt8) (n : Int) : Int × Int := if n < 0 ∨ (l.count 10 : Int) < n then (0, 1) else ((nth l n.toNat : Nat), 0)
def aheadR (l : List UInt8) (n : Int) : Int × Int := if n < 0 ∨ (l.length : Int) < n then (0, 1) else (((l.take n.toNat).count 10 : Nat), 0)

theorem line_nil (w : World) (n : Int) : Calls Try.prog 13 #[.pointer none, .int .i64 n] w fun e w' => e = .returned (.tuple #[.int .i64 0, .int .i64 2]) ∧ w = w' := by
  go_enter Try.func13, Try.ntmps13
  go_wp2
  exact bodyPost_ret (v := .tuple #[.int .i64 0, .int .i64 2]) (by simp [results, Try.f13, go_sem]) rfl ⟨rfl, rfl⟩
theorem ahead_nil (w : World) (n : Int) : Calls Try.prog 12 #[.pointer none, .int .i64 n] w fun e w' => e = .returned (.tuple #[.int .i64 0, .int .i64 2]) ∧ w = w' := by
  go_enter Try.func12, Try.ntmps12
  go_wp2
  exact bodyPost_ret (v := .tuple #[.int .i64 0, .int .i64 2]) (by simp [results, Try.f12, go_sem]) rfl ⟨rfl, rfl⟩
theorem line_neg (w : World) (b : Nat) (n : Int) (h : n < 0) :
    Calls Try.prog 13 #[.pointer (some ⟨b, 0, none⟩), .int .i64 n] w fun e w' => e = .returned (.tuple #[.int .i64 0, .int .i64 1]) ∧ w = w' := by
  go_enter Try.func13, Try.ntmps13
  go_wp2
  exact bodyPost_ret (v := .tuple #[.int .i64 0, .int .i64 1]) (by simp [results, Try.f13, go_sem]) rfl ⟨rfl, rfl⟩
theorem line_far (w : World) (b : Nat) (o : Option T) (n : Int) (hR : RAt w b o) (h0 : 0 ≤ n) (h : (((textO o).count 10 : Nat) : Int) < n) :
    Calls Try.prog 13 #[.pointer (some ⟨b, 0, none⟩), .int .i64 n] w fun e w' => e = .returned (.tuple #[.int .i64 0, .int .i64 1]) ∧ Below w.heap.size w w' := by
  have hc := ends_any w b o hR
  have hn : ¬ n < 0 := by omega
  have hd : decide (n < 0) = false := decide_eq_false hn
  generalize (textO o).count 10 = q at *
  clear hR
  go_enter Try.func13, Try.ntmps13
  go_wp2_with fail
  refine hc.mono ?_
  rintro e w1 ⟨rfl, hb⟩
  go_wp2
  exact bodyPost_ret (v := .tuple #[.int .i64 0, .int .i64 1]) (by simp [results, Try.f13, go_sem]) rfl ⟨rfl, hb⟩
theorem line_zero (w : World) (b : Nat) (o : Option T) (hR : RAt w b o) :
    Calls Try.prog 13 #[.pointer (some ⟨b, 0, none⟩), .int .i64 0] w fun e w' => e = .returned (.tuple #[.int .i64 0, .int .i64 0]) ∧ Below w.heap.size w w' := by
  have hc := ends_any w b o hR
  have hq : ¬ (((textO o).count 10 : Nat) : Int) < 0 := by omega
  generalize (textO o).count 10 = q at *
  clear hR
  go_enter Try.func13, Try.ntmps13
  go_wp2_with fail
  refine hc.mono ?_
  rintro e w1 ⟨rfl, hb⟩
  go_wp2
  exact bodyPost_ret (v := .tuple #[.int .i64 0, .int .i64 0]) (by simp [results, Try.f13, go_sem]) rfl ⟨rfl, hb⟩
theorem line_in (w : World) (b : Nat) (t : T) (k : Nat) (hR : RAt w b (some t)) (h0 : 0 < k) (h : k ≤ t.ends) (hs : t.size ≤ 1000000) :
    Calls Try.prog 13 #[.pointer (some ⟨b, 0, none⟩), .int .i64 k] w fun e w' => e = .returned (.tuple #[.int .i64 (nth t.text k : Nat), .int .i64 0]) ∧ Below w.heap.size w w' := by
  have hc := ends_any w b (some t) hR
  obtain ⟨p, h1, ⟨bt, h2, hA⟩, _⟩ := hR
  injection h2 with h2
  subst h2
  have c0 : w.cell? ⟨b, 0, none⟩ = some (.pointer (some ⟨bt, 0, none⟩)) := by rw [cellH h1]; rfl
  have hx := fun w' (hB : Below w.heap.size w w') => behind_some t w' bt k (hA.below (Nat.le_refl _) hB) h hs
  have hq : ¬ ((((textO (some t)).count 10) : Nat) : Int) < (k : Int) := by
    have e : (textO (some t)).count 10 = t.ends := (T.ends_text t).symm
    rw [e]; omega
  have hne : ((k : Int) == 0) = false := by rw [beq_eq_false_iff_ne]; omega
  have hn : ¬ (k : Int) < 0 := by omega
  have hd : decide ((k : Int) < 0) = false := decide_eq_false hn
  generalize (textO (some t)).count 10 = q at *
  generalize nth t.text k = r at *
  clear h1 hA
  go_enter Try.func13, Try.ntmps13
  go_wp2_with fail
  refine hc.mono ?_
  rintro e w1 ⟨rfl, hb⟩
  replace c0 := keepB hb c0
  go_wp2_with fail
  refine (hx w1 hb).mono ?_
  rintro e w2 ⟨rfl, rfl⟩
  go_wp2
  exact bodyPost_ret (v := .tuple #[.int .i64 r, .int .i64 0]) (by simp [results, Try.f13, go_sem]) rfl ⟨rfl, hb⟩
theorem line_any (w : World) (b : Nat) (o : Option T) (n : Int) (hR : RAt w b o) (hs : (textO o).length ≤ 1000000) :
    Calls Try.prog 13 #[.pointer (some ⟨b, 0, none⟩), .int .i64 n] w fun e w' => e = .returned (.tuple #[.int .i64 (lineR (textO o) n).1, .int .i64 (lineR (textO o) n).2]) ∧ Below w.heap.size w w' := by
  unfold lineR
  by_cases h0 : n < 0
  · rw [if_pos (.inl h0)]
    refine (line_neg w b n h0).mono ?_
    rintro e w' ⟨rfl, rfl⟩
    exact ⟨rfl, Below.refl _ _⟩
  · by_cases h1 : (((textO o).count 10 : Nat) : Int) < n
    · rw [if_pos (.inr h1)]
      exact line_far w b o n hR (by omega) h1
    · rw [if_neg (by omega)]
      by_cases h2 : n = 0
      · subst h2
        refine (line_zero w b o hR).mono ?_
        rintro e w' ⟨rfl, hb⟩
        exact ⟨by simp [nth_zero], hb⟩
      · obtain ⟨k, rfl⟩ := Int.eq_ofNat_of_zero_le (show 0 ≤ n by omega)
        cases o with
        | none => exact absurd (show (((textO none).count 10 : Nat) : Int) = 0 from rfl) (by have h3 : ¬ (((textO none).count 10 : Nat) : Int) < (k : Int) := h1; omega)
        | some t =>
          have e : (textO (some t)).count 10 = t.ends := (T.ends_text t).symm
          rw [e] at h1
          have hz : (textO (some t)).length = t.size := T.size_text t
          exact line_in w b t k hR (by omega) (by omega) (by omega)
theorem ahead_neg (w : World) (b : Nat) (n : Int) (h : n < 0) :
    Calls Try.prog 12 #[.pointer (some ⟨b, 0, none⟩), .int .i64 n] w fun e w' => e = .returned (.tuple #[.int .i64 0, .int .i64 1]) ∧ w = w' := by
  go_enter Try.func12, Try.ntmps12
  go_wp2
  exact bodyPost_ret (v := .tuple #[.int .i64 0, .int .i64 1]) (by simp [results, Try.f12, go_sem]) rfl ⟨rfl, rfl⟩
theorem ahead_far (w : World) (b : Nat) (o : Option T) (n : Int) (hR : RAt w b o) (h0 : 0 ≤ n) (h : (((textO o).length : Nat) : Int) < n) :
    Calls Try.prog 12 #[.pointer (some ⟨b, 0, none⟩), .int .i64 n] w fun e w' => e = .returned (.tuple #[.int .i64 0, .int .i64 1]) ∧ Below w.heap.size w w' := by
  have hc := len_any w b o hR
  have hn : ¬ n < 0 := by omega
  have hd : decide (n < 0) = false := decide_eq_false hn
  generalize (textO o).length = q at *
  clear hR
  go_enter Try.func12, Try.ntmps12
  go_wp2_with fail
  refine hc.mono ?_
  rintro e w1 ⟨rfl, hb⟩
  go_wp2
  exact bodyPost_ret (v := .tuple #[.int .i64 0, .int .i64 1]) (by simp [results, Try.f12, go_sem]) rfl ⟨rfl, hb⟩
theorem ahead_zero (w : World) (b : Nat) (o : Option T) (hR : RAt w b o) :
    Calls Try.prog 12 #[.pointer (some ⟨b, 0, none⟩), .int .i64 0] w fun e w' => e = .returned (.tuple #[.int .i64 0, .int .i64 0]) ∧ Below w.heap.size w w' := by
  have hc := len_any w b o hR
  have hq : ¬ (((textO o).length : Nat) : Int) < 0 := by omega
  generalize (textO o).length = q at *
  clear hR
  go_enter Try.func12, Try.ntmps12
  go_wp2_with fail
  refine hc.mono ?_
  rintro e w1 ⟨rfl, hb⟩
  go_wp2
  exact bodyPost_ret (v := .tuple #[.int .i64 0, .int .i64 0]) (by simp [results, Try.f12, go_sem]) rfl ⟨rfl, hb⟩
theorem ahead_in (w : World) (b : Nat) (t : T) (k : Nat) (hR : RAt w b (some t)) (h0 : 0 < k) (h : k ≤ t.size) (hs : t.size ≤ 1000000) :
    Calls Try.prog 12 #[.pointer (some ⟨b, 0, none⟩), .int .i64 k] w fun e w' => e = .returned (.tuple #[.int .i64 ((t.text.take k).count 10 : Nat), .int .i64 0]) ∧ Below w.heap.size w w' := by
  have hc := len_any w b (some t) hR
  obtain ⟨p, h1, ⟨bt, h2, hA⟩, _⟩ := hR
  injection h2 with h2
  subst h2
  have c0 : w.cell? ⟨b, 0, none⟩ = some (.pointer (some ⟨bt, 0, none⟩)) := by rw [cellH h1]; rfl
  have hx := fun w' (hB : Below w.heap.size w w') => ahead_some t w' bt k (hA.below (Nat.le_refl _) hB) h hs
  have hq : ¬ ((((textO (some t)).length) : Nat) : Int) < (k : Int) := by
    have e : (textO (some t)).length = t.size := T.size_text t
    rw [e]; omega
  have hne : ((k : Int) == 0) = false := by rw [beq_eq_false_iff_ne]; omega
  have hn : ¬ (k : Int) < 0 := by omega
  have hd : decide ((k : Int) < 0) = false := decide_eq_false hn
  generalize (textO (some t)).length = q at *
  generalize (t.text.take k).count 10 = r at *
  clear h1 hA
  go_enter Try.func12, Try.ntmps12
  go_wp2_with fail
  refine hc.mono ?_
  rintro e w1 ⟨rfl, hb⟩
  replace c0 := keepB hb c0
  go_wp2_with fail
  refine (hx w1 hb).mono ?_
  rintro e w2 ⟨rfl, rfl⟩
  go_wp2
  exact bodyPost_ret (v := .tuple #[.int .i64 r, .int .i64 0]) (by simp [results, Try.f12, go_sem]) rfl ⟨rfl, hb⟩
theorem ahead_any (w : World) (b : Nat) (o : Option T) (n : Int) (hR : RAt w b o) (hs : (textO o).length ≤ 1000000) :
    Calls Try.prog 12 #[.pointer (some ⟨b, 0, none⟩), .int .i64 n] w fun e w' => e = .returned (.tuple #[.int .i64 (aheadR (textO o) n).1, .int .i64 (aheadR (textO o) n).2]) ∧ Below w.heap.size w w' := by
  unfold aheadR
  by_cases h0 : n < 0
  · rw [if_pos (.inl h0)]
    refine (ahead_neg w b n h0).mono ?_
    rintro e w' ⟨rfl, rfl⟩
    exact ⟨rfl, Below.refl _ _⟩
  · by_cases h1 : (((textO o).length : Nat) : Int) < n
    · rw [if_pos (.inr h1)]
      exact ahead_far w b o n hR (by omega) h1
    · rw [if_neg (by omega)]
      by_cases h2 : n = 0
      · subst h2
        refine (ahead_zero w b o hR).mono ?_
        rintro e w' ⟨rfl, hb⟩
        exact ⟨by simp [List.take_zero], hb⟩
      · obtain ⟨k, rfl⟩ := Int.eq_ofNat_of_zero_le (show 0 ≤ n by omega)
        cases o with
        | none => exact absurd (show (((textO none).length : Nat) : Int) = 0 from rfl) (by have h3 : ¬ (((textO none).length : Nat) : Int) < (k : Int) := h1; omega)
        | some t =>
          have e : (textO (some t)).length = t.size := T.size_text t
          rw [e] at h1
          have hz : (textO (some t)).length = t.size := T.size_text t
          exact ahead_in w b t k hR (by omega) (by omega) (by omega)
end Go.Proofs.Ytbmcgmnmmnileaa
