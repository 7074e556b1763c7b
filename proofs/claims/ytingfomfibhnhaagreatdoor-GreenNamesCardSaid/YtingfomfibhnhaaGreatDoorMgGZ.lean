/-
  isEmpty, Ahead, copiedToken; Tokens.
-/
import Derived.Test.YtingfomfibhnhaaGreatDoorMgGY
import Derived.Test.YtingfomfibhnhaaGreatDoorMgRH
import Derived.Test.YtingfomfibhnhaaGreatDoorMgRD
namespace Go.Proofs.YtingfomfibhnhaaGreatDoor
open Go.RowKit Go.Shelf
attribute [local go_sem] Oper.semAt_some

theorem eql_ne (k1 k2 : Int) (T1 T2 : ByteArray) (W : World) (h : ¬ (k1 = k2 ∧ T1 = T2)) : (binOp .eql 25 (.agg #[.int .u8 k1, .string T1]) (.agg #[.int .u8 k2, .string T2])).run Tryz.prog W = .ok (.bool false) W := by
  by_cases hk : k1 = k2
  · have h3 : ¬ T1.toList = T2.toList := fun h3 => h ⟨hk, Utf.ba_ext (by rw [Lib.toList_data, Lib.toList_data] at h3; exact h3)⟩
    simp [go_sem, hk, h3]
  · simp [go_sem, hk]
set_option maxRecDepth 100000 in
theorem isEmpty_any (t : Tok) (w : World) : Calls Tryz.prog 43 #[.agg #[.int .u8 t.1, .string ⟨t.2.toArray⟩]] w (BoolEnd (emptyT t) w) := by
  have hb : Below w.heap.size w (w.alloc (.cells #[.int .u8 t.1, .string ⟨t.2.toArray⟩] 25)) := galloc (Below.refl _ _) _
  have hn := heap_alloc_new w (.cells #[.int .u8 t.1, .string ⟨t.2.toArray⟩] 25)
  by_cases h : t = (0, [])
  · have he : emptyT t = true := by unfold emptyT; rw [h]; rfl
    rw [he]
    subst h
    have heq := eql_tok 0 ⟨#[]⟩
    generalize hw : w.alloc (.cells #[.int .u8 (0 : Nat), .string ⟨([] : List UInt8).toArray⟩] 25) = w1 at *
    have c0 : w1.cell? ⟨w.heap.size, 0, none⟩ = some (.int .u8 0) := by rw [cellH hn]; rfl
    have c1 : w1.cell? ⟨w.heap.size, 1, none⟩ = some (.string ⟨#[]⟩) := by rw [cellH hn]; rfl
    clear hn
    go_enter Tryz.func43, Tryz.ntmps43
    go_wp2
    go_ret
    exact ⟨rfl, by rw [← hw] at hb; exact hb⟩
  · have he : emptyT t = false := by unfold emptyT; rw [beq_eq_false_iff_ne]; exact h
    rw [he]
    have hne := fun W => eql_ne (t.1 : Int) 0 ⟨t.2.toArray⟩ ⟨#[]⟩ W (fun ⟨h1, h2⟩ => h (by
      obtain ⟨k, l⟩ := t
      have h1' : k = 0 := by simpa using h1
      have h2' : l = [] := by
        have := congrArg (fun b : ByteArray => b.data.toList) h2
        simpa using this
      rw [h1', h2']))
    generalize (t.1 : Int) = tk at *
    generalize (⟨t.2.toArray⟩ : ByteArray) = tx at *
    generalize hw : w.alloc (.cells #[.int .u8 tk, .string tx] 25) = w1 at *
    have c0 : w1.cell? ⟨w.heap.size, 0, none⟩ = some (.int .u8 tk) := by rw [cellH hn]; rfl
    have c1 : w1.cell? ⟨w.heap.size, 1, none⟩ = some (.string tx) := by rw [cellH hn]; rfl
    clear hn
    go_enter Tryz.func43, Tryz.ntmps43
    go_wp2
    go_ret
    exact ⟨rfl, hb⟩
set_option maxRecDepth 100000 in
theorem ahead_any (t : Tok) (w : World) : Calls Tryz.prog 48 #[.agg #[.int .u8 t.1, .string ⟨t.2.toArray⟩]] w (BoolEnd (aheadK t) w) := by
  have hb : Below w.heap.size w (w.alloc (.cells #[.int .u8 t.1, .string ⟨t.2.toArray⟩] 25)) := galloc (Below.refl _ _) _
  have hn := heap_alloc_new w (.cells #[.int .u8 t.1, .string ⟨t.2.toArray⟩] 25)
  have hA : aheadK t = ((t.1 : Int) == 1 || (t.1 : Int) == 2) := by
    unfold aheadK
    obtain ⟨k, l⟩ := t
    rw [Bool.eq_iff_iff]; simp; omega
  rw [hA]
  generalize (t.1 : Int) = tk at *
  generalize (⟨t.2.toArray⟩ : ByteArray) = tx at *
  generalize hw : w.alloc (.cells #[.int .u8 tk, .string tx] 25) = w1 at *
  have c0 : w1.cell? ⟨w.heap.size, 0, none⟩ = some (.int .u8 tk) := by rw [cellH hn]; rfl
  have c1 : w1.cell? ⟨w.heap.size, 1, none⟩ = some (.string tx) := by rw [cellH hn]; rfl
  clear hn hA
  cases h1 : (tk == 1) with
  | true =>
    go_enter Tryz.func48, Tryz.ntmps48
    go_wp2
    go_ret
    exact ⟨rfl, hb⟩
  | false =>
    cases h2 : (tk == 2) with
    | true =>
      go_enter Tryz.func48, Tryz.ntmps48
      go_wp2
      go_ret
      exact ⟨rfl, hb⟩
    | false =>
      go_enter Tryz.func48, Tryz.ntmps48
      go_wp2
      go_ret
      exact ⟨rfl, hb⟩
def TokE (t : Tok) (w : World) (e : Ending) (w' : World) : Prop := e = .returned (.agg #[.int .u8 t.1, .string ⟨t.2.toArray⟩]) ∧ Below w.heap.size w w'
set_option maxRecDepth 100000 in
set_option maxHeartbeats 2000000 in
theorem copiedToken_any (t : Tok) (w : World) (hz : t.2.length ≤ 1000000000) : Calls Tryz.prog 44 #[.agg #[.int .u8 t.1, .string ⟨t.2.toArray⟩]] w (TokE t w) := by
  have hsz : (⟨t.2.toArray⟩ : ByteArray).size ≤ 1000000000 := by rw [Lib.size_eq]; exact hz
  unfold TokE
  generalize (t.1 : Int) = tk at *
  generalize (⟨t.2.toArray⟩ : ByteArray) = tx at *
  obtain ⟨w1, hw1⟩ : ∃ w1, w.alloc (.cells #[.int .u8 tk, .string tx] 25) = w1 := ⟨_, rfl⟩
  obtain ⟨w2, hw2⟩ : ∃ w2, w1.alloc (.cells #[.int .u8 0, .string ⟨#[]⟩] 25) = w2 := ⟨_, rfl⟩
  have hn1 : w1.heap[w.heap.size]? = some (.cells #[.int .u8 tk, .string tx] 25 (0, 0)) := by rw [← hw1]; exact World.alloc_heap_new w _
  have hz1 : w1.heap.size = w.heap.size + 1 := by rw [← hw1]; simp
  have hb1 : Below w.heap.size w w1 := by rw [← hw1]; exact galloc (Below.refl _ _) _
  have hn2 : w2.heap[w1.heap.size]? = some (.cells #[.int .u8 0, .string ⟨#[]⟩] 25 (0, 0)) := by rw [← hw2]; exact World.alloc_heap_new w1 _
  have hb2 : Below w1.heap.size w1 w2 := by rw [← hw2]; exact galloc (Below.refl _ _) _
  have hn12 := (hb2.block _ (Array.getElem?_eq_some_iff.1 hn1).1).trans hn1
  rw [hz1] at hn2
  have hbw : Below w.heap.size w w2 := gcall hb1 hb2
  have c0 : w2.cell? ⟨w.heap.size, 0, none⟩ = some (.int .u8 tk) := by rw [cellH hn12]; rfl
  have c1 : w2.cell? ⟨w.heap.size, 1, none⟩ = some (.string tx) := by rw [cellH hn12]; rfl
  have hcl := clone_any tx w2.drew hsz
  have HCL := Lib.hid hcl
  have HN2 := Lib.hid hn2
  have HBW := Lib.hid hbw
  clear hcl hn2 hbw hn12 hb2 hn1 hb1
  go_enter Tryz.func44, Tryz.ntmps44
  go_wp2_with fail
  go_region_with (go_at_call 54; (with_reducible refine Calls.mono HCL.out ?_); rintro e w5 ⟨rfl, hb5⟩; have x0 : w5.cell? ⟨w.heap.size, 0, none⟩ = some (.int .u8 tk) := (cell_in hb5 c0); have HN5 : Hid (w5.heap[w.heap.size + 1]? = some (.cells #[.int .u8 0, .string ⟨#[]⟩] 25 (0, 0))) := Lib.hid ((hb5.block _ (Array.getElem?_eq_some_iff.1 HN2.out).1).trans HN2.out); have HB5 : Hid (Below w.heap.size w w5) := Lib.hid (HBW.out.trans ((Below.refl w2.heap.size w2).drew.trans hb5 |>.mono HBW.out.size)); have y0 : w5.cell? ⟨w.heap.size + 1, 0, none⟩ = some (.int .u8 0) := (by rw [cellH HN5.out]; rfl); have y1 : w5.cell? ⟨w.heap.size + 1, 1, none⟩ = some (.string ⟨#[]⟩) := (by rw [cellH HN5.out]; rfl); have yf : ∀ o, w5.frozen? ⟨w.heap.size + 1, o, none⟩ = false := (fun o => Lib.frozen_of_heap HN5.out o); clear hb5)
  all_goals go_wp2
  all_goals
    have kF := heap_setCell_same _ _ 1 _ _ (.string tx) (heap_setCell_same _ _ 0 _ _ (.int .u8 tk) HN5.out)
    have z0 := cellH kF 0
    have z1 := cellH kF 1
    exact bodyPost_ret (v := .agg #[.int .u8 tk, .string tx]) (by simp at z0 z1; simp [results, Tryz.results44, go_sem, z0, z1]) rfl ⟨rfl, (HB5.out.setCell (p := ⟨w.heap.size + 1, 0, none⟩) (by show w.heap.size ≤ w.heap.size + 1; omega) _).setCell (p := ⟨w.heap.size + 1, 1, none⟩) (by show w.heap.size ≤ w.heap.size + 1; omega) _⟩
end Go.Proofs.YtingfomfibhnhaaGreatDoor
