/-
  The reference: Lines.
-/
import Derived.Test.YtfhkahnajjbohaaDoorX
import Derived.Deep.AppendLies
namespace Go.Proofs.YtfhkahnajjbohaaDoor
open Go.RowKit Go.Shelf

/-- These lines, and then those from byte k on, are the text's. -/
def Pref (s : ByteArray) (pre : List (Nat × Nat)) (k : Nat) : Prop := ∀ l, Ls s k l → Ls s 0 (pre ++ l)
def Clear (s : ByteArray) (k i : Nat) : Prop := ∀ j, k ≤ j → j < i → ¬ eol (s.get! j)
theorem Clear.next {s : ByteArray} {k i : Nat} (h : Clear s k i) (hn : ¬ eol (s.get! i)) : Clear s k (i + 1) := fun j a b => by
  rcases (by omega : j < i ∨ j = i) with hj | rfl
  · exact h j a hj
  · exact hn
theorem Clear.self (s : ByteArray) (k : Nat) : Clear s k k := fun j a b => by omega
theorem Pref.more {s : ByteArray} {pre : List (Nat × Nat)} {k i : Nat} (h : Pref s pre k) (hk : k ≤ i) (hi : i < s.size) (hc : Clear s k i) (he : eol (s.get! i)) : Pref s (pre ++ [(k, i)]) (i + ez s i) := fun l hl => by
  rw [List.append_assoc]
  exact h _ (.more k i l hk hi hc he hl)
theorem Pref.last {s : ByteArray} {pre : List (Nat × Nat)} {k : Nat} (h : Pref s pre k) (hk : k ≤ s.size) (hc : Clear s k s.size) : linesB s = pre ++ [(k, s.size)] :=
  (linesB_ls s).one (h _ (.last k hk hc))
theorem Pref.len {s : ByteArray} {pre : List (Nat × Nat)} {k : Nat} (h : Pref s pre k) (hk : k ≤ s.size) : pre.length ≤ s.size := by
  have h1 := linesF_ls (s.size + 1) s k hk (by omega)
  have h2 := (linesB_ls s).one (h _ h1)
  have h3 := linesB_len s
  have h4 : 0 < (linesF (s.size + 1) s k).length := by rw [linesF]; split <;> simp
  rw [h2, List.length_append] at h3
  omega

set_option maxRecDepth 100000 in
set_option maxHeartbeats 2000000 in
theorem rlines_any (s : ByteArray) (w : World) (hs : s.size ≤ 65536) :
    Calls Tryd.prog 12 #[.string s] w fun e w' => ∃ v, e = .returned v ∧ w'.ownsRow w.heap.size 32 2 v (linesB s).length (flatL (linesB s)) ∧ Below w.heap.size w w' := by
  obtain ⟨i0, hi0, hz0, hz1, hz2⟩ := info_parts Tryd.info32
  go_enter Tryd.func12, Tryd.ntmps12
  go_wp2
  go_loopw [3, 4, 5] (fun v f i wr => ∃ (k j : Nat) (pre : List (Nat × Nat)), f = .int .i64 k ∧ i = .int .i64 j ∧ k ≤ j ∧ j ≤ s.size ∧ Hid (Clear s k j) ∧ Hid (Pref s pre k) ∧ wr.ownsRow w.heap.size 32 2 v pre.length (flatL pre) ∧ Below w.heap.size w wr) (fun _ _ i _ => s.size - (intOf i).toNat)
  case atStart => exact ⟨0, 0, [], rfl, rfl, Nat.le_refl _, Nat.zero_le _, Lib.hid (Clear.self s 0), Lib.hid (fun l hl => hl), ⟨rfl, .inl ⟨rfl, rfl⟩⟩, Below.refl _ _⟩
  case round =>
    obtain ⟨k, j, pre, rfl, rfl, hkj, hjs, HC, HP, hown, hB⟩ := hrel
    by_cases hj : j < s.size
    · have hsj : s[j]'hj = s.get! j := (get!_lt s j hj).symm
      by_cases he : eol (s.get! j)
      · have hpl := HP.out.len (by omega)
        have HN : Hid (Pref s (pre ++ [(k, j)]) (j + ez s j)) := Lib.hid (HP.out.more hkj hj HC.out he)
        have hez := ez_bd s j hj
        have hez2 := ez_two s j hj
        rcases (show s.get! j = 10 ∨ s.get! j = 13 from he.symm) with h10 | h13
        · have he1 : ez s j = 1 := by
            rcases (by omega : ez s j = 1 ∨ ez s j = 2) with h | h
            · exact h
            · have := (hez2.1 h).2.1; rw [h10] at this; exact absurd this (by decide)
          rw [he1] at HN
          rw [h10] at hsj
          have e10 : (((s[j]'hj).toNat : Int) == 10) = true := by rw [hsj]; rfl
          have f10 : (((s[j]'hj).toNat : Int) != 10) = false := by rw [hsj]; rfl
          have e13 : (((s[j]'hj).toNat : Int) == 13) = false := by rw [hsj]; rfl
          clear he HC HP he1 hez hez2 hsj h10
          go_wp2_with (at_builtin; refine wpList_append_own _ rfl _ _ 28 rfl w.heap.size 32 i0 (.agg #[.int .i64 0, .int .i64 0]) 2 16 Tryd.underlying28 hi0 hz0 hz1 hz2 rfl (by decide) _ _ _ rfl (hown.alloc _) ⟨wr.heap.size, 0, none⟩ 1 1 [.int .i64 k, .int .i64 j] rfl rfl ?c1 ?c2 ?c3 ?c4 ?c5 ?_)
          case c1 => exact World.news_of_block (w := wr.alloc (.cells #[.int .i64 k, .int .i64 j] 32)) (World.alloc_heap_new wr _)
          case c2 => simp [Value.oneCell']
          case c3 => unfold maxLen; omega
          case c4 => omega
          case c5 => have := hB.size; simp; omega
          intro v' w1 hown1 hgrow _
          have hB1 : Below w.heap.size w w1 := (hB.alloc hB.size _).grown hgrow (Nat.le_trans hB.size (by simp)) (fun b e => (hown.lt b e).1)
          have HO : Hid (w1.ownsRow w.heap.size 32 2 v' (pre ++ [(k, j)]).length (flatL (pre ++ [(k, j)]))) := Lib.hid (by rw [flatL_snoc, List.length_append]; exact hown1)
          have HBB := Lib.hid hB1
          clear hown1 hgrow hB1 hown hB
          go_wp2
          go_roundw
          case rel => exact ⟨j + 1, j + 1, pre ++ [(k, j)], by go_num, by go_num, Nat.le_refl _, by omega, Lib.hid (Clear.self _ _), HN, HO.out, HBB.out⟩
          case measure => simp [intOf]; omega
        · rw [h13] at hsj
          have e10 : (((s[j]'hj).toNat : Int) == 10) = false := by rw [hsj]; rfl
          have f10 : (((s[j]'hj).toNat : Int) != 10) = true := by rw [hsj]; rfl
          have e13 : (((s[j]'hj).toNat : Int) == 13) = true := by rw [hsj]; rfl
          have f13 : (((s[j]'hj).toNat : Int) != 13) = false := by rw [hsj]; rfl
          by_cases hz : j + 1 < s.size
          · have hs1 : s[j + 1]'hz = s.get! (j + 1) := (get!_lt s (j + 1) hz).symm
            by_cases hn : s.get! (j + 1) = 10
            · have he2 : ez s j = 2 := hez2.2 ⟨hz, h13, hn⟩
              rw [he2] at HN
              rw [hn] at hs1
              have g10 : (((s[j + 1]'hz).toNat : Int) == 10) = true := by rw [hs1]; rfl
              clear he HC HP he2 hez hez2 hsj h13 hs1 hn
              go_wp2_with (at_builtin; refine wpList_append_own _ rfl _ _ 28 rfl w.heap.size 32 i0 (.agg #[.int .i64 0, .int .i64 0]) 2 16 Tryd.underlying28 hi0 hz0 hz1 hz2 rfl (by decide) _ _ _ rfl (hown.alloc _) ⟨wr.heap.size, 0, none⟩ 1 1 [.int .i64 k, .int .i64 j] rfl rfl ?c1 ?c2 ?c3 ?c4 ?c5 ?_)
              case c1 => exact World.news_of_block (w := wr.alloc (.cells #[.int .i64 k, .int .i64 j] 32)) (World.alloc_heap_new wr _)
              case c2 => simp [Value.oneCell']
              case c3 => unfold maxLen; omega
              case c4 => omega
              case c5 => have := hB.size; simp; omega
              intro v' w1 hown1 hgrow _
              have hB1 : Below w.heap.size w w1 := (hB.alloc hB.size _).grown hgrow (Nat.le_trans hB.size (by simp)) (fun b e => (hown.lt b e).1)
              have HO : Hid (w1.ownsRow w.heap.size 32 2 v' (pre ++ [(k, j)]).length (flatL (pre ++ [(k, j)]))) := Lib.hid (by rw [flatL_snoc, List.length_append]; exact hown1)
              have HBB := Lib.hid hB1
              clear hown1 hgrow hB1 hown hB
              go_wp2
              go_roundw
              case rel => exact ⟨j + 2, j + 2, pre ++ [(k, j)], by go_num, by go_num, Nat.le_refl _, by omega, Lib.hid (Clear.self _ _), HN, HO.out, HBB.out⟩
              case measure => simp [intOf]; omega
            · have he1 : ez s j = 1 := by
                rcases (by omega : ez s j = 1 ∨ ez s j = 2) with h | h
                · exact h
                · exact absurd (hez2.1 h).2.2 hn
              rw [he1] at HN
              have g10 : (((s[j + 1]'hz).toNat : Int) == 10) = false := by
                rw [hs1, beq_eq_false_iff_ne]
                exact fun h => hn (UInt8.toNat.inj (by show _ = 10; omega))
              clear he HC HP he1 hez hez2 hsj h13 hs1 hn
              go_wp2_with (at_builtin; refine wpList_append_own _ rfl _ _ 28 rfl w.heap.size 32 i0 (.agg #[.int .i64 0, .int .i64 0]) 2 16 Tryd.underlying28 hi0 hz0 hz1 hz2 rfl (by decide) _ _ _ rfl (hown.alloc _) ⟨wr.heap.size, 0, none⟩ 1 1 [.int .i64 k, .int .i64 j] rfl rfl ?c1 ?c2 ?c3 ?c4 ?c5 ?_)
              case c1 => exact World.news_of_block (w := wr.alloc (.cells #[.int .i64 k, .int .i64 j] 32)) (World.alloc_heap_new wr _)
              case c2 => simp [Value.oneCell']
              case c3 => unfold maxLen; omega
              case c4 => omega
              case c5 => have := hB.size; simp; omega
              intro v' w1 hown1 hgrow _
              have hB1 : Below w.heap.size w w1 := (hB.alloc hB.size _).grown hgrow (Nat.le_trans hB.size (by simp)) (fun b e => (hown.lt b e).1)
              have HO : Hid (w1.ownsRow w.heap.size 32 2 v' (pre ++ [(k, j)]).length (flatL (pre ++ [(k, j)]))) := Lib.hid (by rw [flatL_snoc, List.length_append]; exact hown1)
              have HBB := Lib.hid hB1
              clear hown1 hgrow hB1 hown hB
              go_wp2
              go_roundw
              case rel => exact ⟨j + 1, j + 1, pre ++ [(k, j)], by go_num, by go_num, Nat.le_refl _, by omega, Lib.hid (Clear.self _ _), HN, HO.out, HBB.out⟩
              case measure => simp [intOf]; omega
          · have he1 : ez s j = 1 := by
              rcases (by omega : ez s j = 1 ∨ ez s j = 2) with h | h
              · exact h
              · exact absurd (hez2.1 h).1 hz
            rw [he1] at HN
            clear he HC HP he1 hez hez2 hsj h13
            go_wp2_with (at_builtin; refine wpList_append_own _ rfl _ _ 28 rfl w.heap.size 32 i0 (.agg #[.int .i64 0, .int .i64 0]) 2 16 Tryd.underlying28 hi0 hz0 hz1 hz2 rfl (by decide) _ _ _ rfl (hown.alloc _) ⟨wr.heap.size, 0, none⟩ 1 1 [.int .i64 k, .int .i64 j] rfl rfl ?c1 ?c2 ?c3 ?c4 ?c5 ?_)
            case c1 => exact World.news_of_block (w := wr.alloc (.cells #[.int .i64 k, .int .i64 j] 32)) (World.alloc_heap_new wr _)
            case c2 => simp [Value.oneCell']
            case c3 => unfold maxLen; omega
            case c4 => omega
            case c5 => have := hB.size; simp; omega
            intro v' w1 hown1 hgrow _
            have hB1 : Below w.heap.size w w1 := (hB.alloc hB.size _).grown hgrow (Nat.le_trans hB.size (by simp)) (fun b e => (hown.lt b e).1)
            have HO : Hid (w1.ownsRow w.heap.size 32 2 v' (pre ++ [(k, j)]).length (flatL (pre ++ [(k, j)]))) := Lib.hid (by rw [flatL_snoc, List.length_append]; exact hown1)
            have HBB := Lib.hid hB1
            clear hown1 hgrow hB1 hown hB
            go_wp2
            go_roundw
            case rel => exact ⟨j + 1, j + 1, pre ++ [(k, j)], by go_num, by go_num, Nat.le_refl _, by omega, Lib.hid (Clear.self _ _), HN, HO.out, HBB.out⟩
            case measure => simp [intOf]; omega
      · have n10 : ((s.get! j).toNat : Int) ≠ 10 := fun h => he (.inr (UInt8.toNat.inj (by show _ = 10; omega)))
        have n13 : ((s.get! j).toNat : Int) ≠ 13 := fun h => he (.inl (UInt8.toNat.inj (by show _ = 13; omega)))
        have HE := Lib.hid (HC.out.next he)
        clear he HC
        generalize s.get! j = x at *
        have e10 : ((x.toNat : Int) == 10) = false := beq_eq_false_iff_ne.2 n10
        have e13 : ((x.toNat : Int) == 13) = false := beq_eq_false_iff_ne.2 n13
        have f10 : ((x.toNat : Int) != 10) = true := bne_iff_ne.2 n10
        have f13 : ((x.toNat : Int) != 13) = true := bne_iff_ne.2 n13
        clear n10 n13
        go_wp2
        go_roundw
        case rel => exact ⟨k, j + 1, pre, rfl, by go_num, by omega, by omega, HE, HP, hown, hB⟩
        case measure => simp [intOf]; omega
    · obtain rfl : j = s.size := by omega
      have HL := Lib.hid (HP.out.last hkj HC.out)
      have hpl := HP.out.len hkj
      clear HC HP
      go_wp2_with (at_builtin; refine wpList_append_own _ rfl _ _ 28 rfl w.heap.size 32 i0 (.agg #[.int .i64 0, .int .i64 0]) 2 16 Tryd.underlying28 hi0 hz0 hz1 hz2 rfl (by decide) _ _ _ rfl (hown.alloc _) ⟨wr.heap.size, 0, none⟩ 1 1 [.int .i64 k, .int .i64 s.size] rfl rfl ?c1 ?c2 ?c3 ?c4 ?c5 ?_)
      case c1 => exact World.news_of_block (w := wr.alloc (.cells #[.int .i64 k, .int .i64 s.size] 32)) (World.alloc_heap_new wr _)
      case c2 => simp [Value.oneCell']
      case c3 => unfold maxLen; omega
      case c4 => omega
      case c5 => have := hB.size; simp; omega
      intro v' w1 hown1 hgrow _
      have hB1 : Below w.heap.size w w1 := (hB.alloc hB.size _).grown hgrow (Nat.le_trans hB.size (by simp)) (fun b e => (hown.lt b e).1)
      have HO : Hid (w1.ownsRow w.heap.size 32 2 v' (linesB s).length (flatL (linesB s))) := Lib.hid (by rw [HL.out, flatL_snoc, List.length_append]; exact hown1)
      have HBB := Lib.hid hB1
      clear hown1 hgrow hB1 hown hB
      go_wp2
      go_ret
      exact ⟨_, rfl, HO.out, HBB.out⟩
end Go.Proofs.YtfhkahnajjbohaaDoor
