/-
  back: events as the document's.
-/
import Derived.Test.YtlafcnmopclgiaaGreatDoorP
import Derived.Deep.AppendLies
import Derived.Deep.RegionHeld3
namespace Go.Proofs.YtlafcnmopclgiaaGreatDoor
open Go.RowKit Go.Shelf Go.RowKit

/-- A row of the document's events. -/
def RefAt (B : Nat) (w : World) (v : Value) (l : List Ev) : Prop := w.ownsRow B 53 2 v l.length (l.flatMap evC)
theorem u34 : Tryz.prog.underlying 35 = some (.slice 53) := by kernel_rfl
theorem info33 : (Tryz.prog.info? 53).map (fun i => (i.zero, i.size, i.bytes)) = some (some (.agg #[.string ⟨#[]⟩, .int .i64 0]), 2, 24) := by kernel_rfl
set_option maxRecDepth 100000 in
set_option maxHeartbeats 2000000 in
theorem back_any (B : Nat) (w : World) (v : Value) (l : List Ev) (h : EvsAt B w v l) (hz : l.length ≤ 3000000) :
    Calls Tryz.prog 11 #[v] w fun e w' => ∃ v', e = .returned v' ∧ RefAt w.heap.size w' v' l ∧ Below w.heap.size w w' := by
  obtain ⟨i33, hi, hz0, hz1, hz2⟩ := info_parts info33
  obtain ⟨p, cap, rfl⟩ := evs_shape h
  have HE := Lib.hid h
  clear h
  go_enter Tryz.func11, Tryz.ntmps11
  go_wp2_with fail
  go_loopw [3, 4] (fun o i wr => ∃ k : Nat, i = .int .i64 k ∧ k ≤ l.length ∧ Hid (RefAt w.heap.size wr o (l.take k)) ∧ Hid (Below w.heap.size w wr)) (fun _ i _ => l.length - (intOf i).toNat)
  case atStart => exact ⟨0, rfl, Nat.zero_le _, Lib.hid (World.ownsRow_nil _ _ _ _), Lib.hid (Below.refl _ _)⟩
  case round =>
    obtain ⟨k, rfl, hk, HO, HB⟩ := hrel
    obtain ⟨po, co, rfl⟩ := owns_shape HO.out
    by_cases hlt : k < l.length
    · have hlt' : (k : Int) < (l.length : Int) := by omega
      obtain ⟨⟨b, x⟩, hE⟩ : ∃ E, l[k]? = some E := ⟨_, List.getElem?_eq_getElem hlt⟩
      have htk : (l.take k).length = k := by rw [List.length_take]; omega
      have ht1 : l.take (k + 1) = l.take k ++ [(b, x)] := by rw [List.take_add_one, hE]; rfl
      have HT1 := Lib.hid ht1
      clear ht1
      rcases evs_block HE.out with ⟨cap2, e1, e2⟩ | ⟨g, cap2, e1⟩
      · subst e2; exact absurd hlt (Nat.not_lt_zero _)
      · cases e1
        obtain ⟨c0, c1⟩ := evs_at HE.out rfl hE
        have hgw : g < w.heap.size := World.block_lt_of_cell? w _ c0
        replace c0 := (HB.out.cell (World.block_lt_of_cell? w _ c0)).trans c0
        replace c1 := (HB.out.cell (World.block_lt_of_cell? w _ c1)).trans c1
        have hbx : bl b = .string ⟨b.toArray⟩ := rfl
        simp only [hbx] at c0
        simp only at c1
        clear hE
        rw [htk] at HO ⊢
        generalize hX : (⟨b.toArray⟩ : ByteArray) = X at *
        go_wp2_with fail
        have HO' : Hid (wr.ownsRow w.heap.size 53 2 (.slice po k co) k ((l.take k).flatMap evC)) := Lib.hid (by have := HO.out; unfold RefAt at this; rw [htk] at this; exact this)
        have hne : some g ≠ (Value.slice po k co).ownBlock := fun e => by have := (HO'.out.lt g e.symm).1; omega
        have hgr : g < wr.heap.size := Nat.lt_of_lt_of_le hgw HB.out.size
        have own1 := owns_below HO'.out (((Below.refl wr.heap.size wr).alloc (Nat.le_refl _) (.cells #[.string X, .int .i64 x] 53)).drew)
        have news1 := World.news_of_block (w := (wr.alloc (.cells #[.string X, .int .i64 x] 53)).drew) (heap_alloc_new wr _)
        have hm1 : k + 1 ≤ maxLen := by unfold maxLen; omega
        have hm2 : (k + 1) * 24 ≤ 140737488355328 := by omega
        have hm3 : w.heap.size ≤ (wr.alloc (.cells #[.string X, .int .i64 x] 53)).drew.heap.size := by have := HB.out.size; simp; omega
        have OW := Lib.hid own1
        have NW := Lib.hid news1
        have HBA : Hid (Below w.heap.size w (wr.alloc (.cells #[.string X, .int .i64 x] 53)).drew) := Lib.hid (HB.out.trans ((((Below.refl wr.heap.size wr).alloc (Nat.le_refl _) (.cells #[.string X, .int .i64 x] 53)).drew).mono HB.out.size))
        clear own1 news1
        go_region_held3 (fun u => u.cell? ⟨g, k * 2, none⟩ = some (.string X) ∧ u.cell? ⟨g, k * 2 + 1, none⟩ = some (.int .i64 x)) (first | exact ⟨c0, c1⟩ | exact ⟨(hgrow.cell_far _ (by simp; omega) hne).trans (keepD (keepA _ c0)), (hgrow.cell_far _ (by simp; omega) hne).trans (keepD (keepA _ c1))⟩ | ((with_reducible (refine ⟨?_, ?_⟩ <;> (repeat' (first | assumption | refine keepD ?_ | refine keepA _ ?_)))); done) | go_keep) ((refine step_append_lies _ (by rfl) _ _ _ (by rfl) w.heap.size 53 i33 (.agg #[.string ⟨#[]⟩, .int .i64 0]) 2 24 u34 hi hz0 hz1 hz2 rfl (by decide) (.slice po k co) k _ (by rfl) OW.out ⟨wr.heap.size, 0, none⟩ 1 1 [.string X, .int .i64 x] (by rfl) rfl NW.out (by simp [Value.oneCell']) (by decide) hm1 hm2 hm3 (wr.heap.size + 1) (by simp) ?_; intro g1 cap1 w1 hown1 hgrow hat hlt1))
        go_wp2_with fail
        go_roundw
        case rel => exact ⟨k + 1, by go_num, by omega, Lib.hid (by unfold RefAt; rw [HT1.out, List.length_append, htk, List.flatMap_append]; subst hX; exact hown1), Lib.hid (HBA.out.grown hgrow hm3 (fun b e => (HO'.out.lt b e).1))⟩
        case measure => simp [intOf]; omega
    · obtain rfl : k = l.length := by omega
      have hlt' : ¬ (l.length : Int) < (l.length : Int) := by omega
      rw [List.take_length] at HO ⊢
      go_wp2_with fail
      go_ret
      exact ⟨_, rfl, HO.out, HB.out⟩
end Go.Proofs.YtlafcnmopclgiaaGreatDoor
