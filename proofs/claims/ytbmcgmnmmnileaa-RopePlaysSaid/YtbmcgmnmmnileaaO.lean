/-
  ahead and behind, of a tree.
-/
import Derived.Test.YtbmcgmnmmnileaaM
import Derived.Test.YtbmcgmnmmnileaaN
namespace Go.Proofs.Ytbmcgmnmmnileaa
open Go.RowKit Go.Shelf

set_option maxRecDepth 100000 in
set_option maxHeartbeats 1000000 in
theorem ahead_some (t : T) (w : World) (b k : Nat) (hA : At w b t) (hk : k ≤ t.size) (hs : t.size ≤ 1000000) :
    Calls Try.prog 31 #[.pointer (some ⟨b, 0, none⟩), .int .i64 k] w fun e w' => e = .returned (.int .i64 ((t.text.take k).count 10 : Nat)) ∧ w = w' := by
  have H : Hid (At w b t) := Lib.hid hA
  have hRz : (t.text.take k).count 10 ≤ 1000000 := by
    have h1 : (t.text.take k).count 10 ≤ (t.text.take k).length := List.count_le_length
    have h2 : (t.text.take k).length ≤ t.text.length := by rw [List.length_take]; omega
    rw [T.size_text] at h2
    omega
  obtain ⟨R, hR⟩ : ∃ R, (t.text.take k).count 10 = R := ⟨_, rfl⟩
  rw [hR] at hRz ⊢
  have HR := Lib.hid hR
  clear hA hR
  go_enter Try.func31, Try.ntmps31
  go_wp2
  go_loop [0, 1, 5] (fun v i c => ∃ (u : T) (d m n : Nat), v = .pointer (some ⟨d, 0, none⟩) ∧ i = .int .i64 m ∧ c = .int .i64 n ∧ Hid (At w d u) ∧ m ≤ u.size ∧ u.size ≤ 1000000 ∧ Hid (n + (u.text.take m).count 10 = R)) (fun v _ _ => deepAt w v)
  case atStart => exact ⟨t, b, k, 0, rfl, rfl, rfl, H, hk, hs, Lib.hid (by rw [HR.out]; omega)⟩
  case round =>
    obtain ⟨u, d, m, n, rfl, rfl, rfl, hu, hm, hz, hr⟩ := hrel
    cases u with
    | leaf s =>
      have hp := isPiece_leaf w d s hu.out
      obtain ⟨c3, c4, c5⟩ := hu.out.leaf
      have hm' : m ≤ s.size := hm
      have hi0 : (0 : Int) ≤ (m : Int) := by omega
      have hi1 : (m : Int) ≤ (s.size : Int) := by omega
      have hc := Try.strings_Count_one (s.extract 0 m) 10 w
      have he : Hid (n + Lib.countByte (s.extract 0 m).data.toList 10 = R) := Lib.hid (by
        rw [ex_list, List.drop_zero, Nat.sub_zero]; exact hr.out)
      generalize Lib.countByte (s.extract 0 m).data.toList 10 = q at *
      have hnq : n + q ≤ 1000000 := by rw [he.out]; exact hRz
      go_wp2_with fail
      refine hp.mono ?_
      rintro e w1 ⟨rfl, rfl⟩
      clear hp
      go_wp2_with fail
      refine hc.mono ?_
      rintro e w1 ⟨rfl, rfl⟩
      go_wp2
      go_ret
      exact ⟨by rw [← he.out]; simp, rfl⟩
    | cat l r =>
      have hp := isPiece_cat w d l r hu.out
      obtain ⟨bl, br, c3, c4, c5, hl, hrr⟩ := hu.out.cat
      obtain ⟨l0, l1, _⟩ := hl.cells
      have hm1 := deepAt_eq hu.out
      have hm2 := deepAt_eq hl
      have hm3 := deepAt_eq hrr
      have HL := Lib.hid hl
      have HRR := Lib.hid hrr
      have hsz : l.size + r.size ≤ 1000000 := hz
      have hm' : m ≤ l.size + r.size := hm
      have HT := Lib.hid (T.size_text l)
      have HE := Lib.hid (T.ends_text l)
      have hle := T.ends_le l
      have hn : n ≤ 1000000 := by have := hr.out; omega
      clear hl hrr
      generalize hll : l.size = ls at *
      generalize hel : l.ends = le at *
      by_cases hcs : m ≤ ls
      · have hcs' : (m : Int) ≤ (ls : Int) := by omega
        go_wp2_with fail
        refine hp.mono ?_
        rintro e w1 ⟨rfl, rfl⟩
        clear hp
        go_wp2
        refine ⟨⟨l, bl, m, n, rfl, rfl, rfl, HL, by omega, by omega, Lib.hid ?_⟩, by rw [hm1, hm2]; simp only [T.depth]; omega⟩
        have e := hr.out
        simp only [T.text] at e
        rw [List.take_append_of_le_length (by rw [HT.out]; exact hcs)] at e
        exact e
      · have hcs' : ¬ (m : Int) ≤ (ls : Int) := by omega
        have e : n + le + (r.text.take (m - ls)).count 10 = R := by
          have e := hr.out
          simp only [T.text] at e
          rw [List.take_append, List.count_append, List.take_of_length_le (by rw [HT.out]; omega), HT.out, ← HE.out] at e
          omega
        have HEE := Lib.hid e
        have hnle : n + le ≤ 1000000 := by omega
        clear e
        go_wp2_with fail
        refine hp.mono ?_
        rintro e w1 ⟨rfl, rfl⟩
        clear hp
        go_wp2
        refine ⟨⟨r, br, m - ls, n + le, rfl, by rw [show ((m - ls : Nat) : Int) = (m : Int) - ls by omega], by rw [show ((n + le : Nat) : Int) = (n : Int) + le by omega], HRR, by omega, by omega, HEE⟩, by rw [hm1, hm3]; simp only [T.depth]; omega⟩

theorem ex_tail (s : ByteArray) (p : Nat) : (s.extract p s.size).data.toList = s.data.toList.drop p := by
  rw [ex_list, List.take_of_length_le]
  rw [List.length_drop, ← Lib.size_eq]
  exact Nat.le_refl _

set_option maxRecDepth 100000 in
set_option maxHeartbeats 2000000 in
theorem behind_some (t : T) (w : World) (b k : Nat) (hA : At w b t) (hk : k ≤ t.ends) (hs : t.size ≤ 1000000) :
    Calls Try.prog 32 #[.pointer (some ⟨b, 0, none⟩), .int .i64 k] w fun e w' => e = .returned (.int .i64 (nth t.text k : Nat)) ∧ w = w' := by
  have H : Hid (At w b t) := Lib.hid hA
  have hRz : nth t.text k ≤ 1000000 := by
    have h1 := nth_le t.text k
    rw [T.size_text] at h1
    omega
  obtain ⟨R, hR⟩ : ∃ R, nth t.text k = R := ⟨_, rfl⟩
  rw [hR] at hRz ⊢
  have HR := Lib.hid hR
  clear hA hR
  go_enter Try.func32, Try.ntmps32
  go_wp2
  go_loop [0, 1, 5] (fun v i c => ∃ (u : T) (d m n : Nat), v = .pointer (some ⟨d, 0, none⟩) ∧ i = .int .i64 m ∧ c = .int .i64 n ∧ Hid (At w d u) ∧ m ≤ u.ends ∧ u.size ≤ 1000000 ∧ n ≤ 1000000 ∧ Hid (n + nth u.text m = R)) (fun v _ _ => deepAt w v)
  case atStart => exact ⟨t, b, k, 0, rfl, rfl, rfl, H, hk, hs, by omega, Lib.hid (by rw [HR.out]; omega)⟩
  case round =>
    obtain ⟨u, d, m, n, rfl, rfl, rfl, hu, hm, hz, hn, hr⟩ := hrel
    cases u with
    | leaf s =>
      have hp := isPiece_leaf w d s hu.out
      obtain ⟨c3, c4, c5⟩ := hu.out.leaf
      have hm' : m ≤ s.data.toList.count 10 := hm
      have hsz : s.size ≤ 1000000 := hz
      have hsl : s.data.toList.length = s.size := (Lib.size_eq s).symm
      have hmb : m ≤ 1000000 := by have : s.data.toList.count 10 ≤ s.data.toList.length := List.count_le_length; omega
      go_wp2_with fail
      refine hp.mono ?_
      rintro e w1 ⟨rfl, rfl⟩
      clear hp
      go_wp2
      go_loop [6, 49] (fun p i => ∃ j : Nat, j ≤ m ∧ p = .int .i64 (nth s.data.toList j : Nat) ∧ i = .int .i64 j) (fun _ i => m - (intOf i).toNat)
      case atStart => exact ⟨0, Nat.zero_le _, by rw [nth_zero]; rfl, rfl⟩
      case round =>
        obtain ⟨j, hj, rfl, rfl⟩ := hrel
        by_cases hlt : j < m
        · have hlt' : (j : Int) < (m : Int) := by omega
          have hn1 := nth_le s.data.toList j
          have hn2 := nth_le s.data.toList (j + 1)
          have hi0 : (0 : Int) ≤ (nth s.data.toList j : Int) := by omega
          have hi1 : (nth s.data.toList j : Int) ≤ (s.size : Int) := by omega
          have hI := Try.strings_Index_one (s.extract (nth s.data.toList j) s.size) 10 w
          rw [ex_tail, show Lib.indexByte (s.data.toList.drop (nth s.data.toList j)) 10 = (nth s.data.toList (j + 1) : Int) - (nth s.data.toList j : Int) - 1 by have := nth_step s.data.toList j (by omega); omega] at hI
          have HJ : ∀ x : Int, x = (nth s.data.toList (j + 1) : Int) → Value.int .i64 x = .int .i64 (nth s.data.toList (j + 1) : Nat) := fun x h => by rw [h]
          generalize hq : nth s.data.toList (j + 1) = q at *
          generalize hpp : nth s.data.toList j = p at *
          have HQ := Lib.hid hq
          clear hq hpp
          go_wp2_with fail
          refine hI.mono ?_
          rintro e w1 ⟨rfl, rfl⟩
          go_wp2
          refine ⟨⟨j + 1, by omega, ?_, rfl⟩, ?_⟩
          · rw [HQ.out]; exact HJ _ (by omega)
          · simp [intOf]; omega
        · have hlt' : ¬ (j : Int) < (m : Int) := by omega
          have : j = m := by omega
          subst this
          have hn1 := nth_le s.data.toList j
          have hr' : n + nth s.data.toList j = R := hr.out
          have HR2 := Lib.hid hr'
          generalize nth s.data.toList j = p at *
          clear hr'
          go_wp2
          go_ret
          exact ⟨by rw [← HR2.out]; simp, rfl⟩
    | cat l r =>
      have hp := isPiece_cat w d l r hu.out
      obtain ⟨bl, br, c3, c4, c5, hl, hrr⟩ := hu.out.cat
      obtain ⟨l0, l1, _⟩ := hl.cells
      have hm1 := deepAt_eq hu.out
      have hm2 := deepAt_eq hl
      have hm3 := deepAt_eq hrr
      have HL := Lib.hid hl
      have HRR := Lib.hid hrr
      have hsz : l.size + r.size ≤ 1000000 := hz
      have hm' : m ≤ l.ends + r.ends := hm
      have HT := Lib.hid (T.size_text l)
      have HE := Lib.hid (T.ends_text l)
      have hle := T.ends_le l
      have hre := T.ends_le r
      clear hl hrr
      generalize hll : l.size = ls at *
      generalize hel : l.ends = le at *
      by_cases hcs : m ≤ le
      · have hcs' : (m : Int) ≤ (le : Int) := by omega
        go_wp2_with fail
        refine hp.mono ?_
        rintro e w1 ⟨rfl, rfl⟩
        clear hp
        go_wp2
        refine ⟨⟨l, bl, m, n, rfl, rfl, rfl, HL, by omega, by omega, hn, Lib.hid ?_⟩, by rw [hm1, hm2]; simp only [T.depth]; omega⟩
        have e := hr.out
        simp only [T.text] at e
        rw [nth_cat_left _ _ _ (by rw [← HE.out]; exact hcs)] at e
        exact e
      · have hcs' : ¬ (m : Int) ≤ (le : Int) := by omega
        have e : n + ls + nth r.text (m - le) = R := by
          have e := hr.out
          simp only [T.text] at e
          rw [nth_cat_right _ _ _ (by rw [← HE.out]; omega), HT.out, ← HE.out] at e
          omega
        have HEE := Lib.hid e
        have hnle : n + ls ≤ 1000000 := by omega
        clear e
        go_wp2_with fail
        refine hp.mono ?_
        rintro e w1 ⟨rfl, rfl⟩
        clear hp
        go_wp2
        refine ⟨⟨r, br, m - le, n + ls, rfl, by rw [show ((m - le : Nat) : Int) = (m : Int) - le by omega], by rw [show ((n + ls : Nat) : Int) = (n : Int) + ls by omega], HRR, by omega, by omega, hnle, HEE⟩, by rw [hm1, hm3]; simp only [T.depth]; omega⟩
end Go.Proofs.Ytbmcgmnmmnileaa
