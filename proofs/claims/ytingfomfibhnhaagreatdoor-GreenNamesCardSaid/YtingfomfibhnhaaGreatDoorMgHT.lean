/-
  At.
-/
import Derived.Test.YtingfomfibhnhaaGreatDoorMgHS
namespace Go.Proofs.YtingfomfibhnhaaGreatDoor
open Go.RowKit Go.Shelf Go.Maps

abbrev zeroA : Value := .agg #[.int .u8 0, .int .u8 0, .string ⟨#[]⟩, .slice none 0 0]
/-- What At ends in. -/
def AtEnd (W : World) (r : Option T) (e : Ending) (w' : World) : Prop := Below W.heap.size W w' ∧
  ((r = none ∧ e = .returned (.tuple #[zeroA, .int .i64 5])) ∨ ∃ (z : T) (p : Option Addr) (c : Nat), r = some z ∧ e = .returned (.tuple #[aggN z p c, .int .i64 0]) ∧ NIn w' W.heap.size w'.heap.size z (cellsN z p c))
set_option maxRecDepth 100000 in
set_option maxHeartbeats 4000000 in
theorem At_any (x : T) (l : List Int) (W : World) (p : Option Addr) (c : Nat) (v : Value) (hx : NAt AnyB W x (cellsN x p c)) (hl : PaAt W v l) (hlen : l.length ≤ 1000000) (hz : ∀ z, atT x l = some z → countT z ≤ 1000000 ∧ shortT z) :
    Calls Tryz.prog 14 #[aggN x p c, v] W (AtEnd W (atT x l)) := by
  have hl' := hl
  obtain ⟨_, pl, cl, rfl, _⟩ := hl'
  obtain ⟨w1, hw1⟩ : ∃ w, W.alloc (.cells #[.int .u8 x.kind, .int .u8 x.tok.1, .string ⟨x.tok.2.toArray⟩, .slice p x.kids.length c] 27) = w := ⟨_, rfl⟩
  have n1 : w1.heap[W.heap.size]? = some (boxN x p c) := by rw [← hw1]; exact World.alloc_heap_new W _
  have b1 : Below W.heap.size W w1 := by rw [← hw1]; exact galloc (Below.refl _ _) _
  have z1 : w1.heap.size = W.heap.size + 1 := by rw [← hw1]; simp
  obtain ⟨w2, hw2⟩ : ∃ w, w1.alloc (.cells #[.int .u8 0, .int .u8 0, .string ⟨#[]⟩, .slice none 0 0] 27) = w := ⟨_, rfl⟩
  have n2 : w2.heap[W.heap.size + 1]? = some (.cells #[.int .u8 0, .int .u8 0, .string ⟨#[]⟩, .slice none 0 0] 27 (0, 0)) := by rw [← hw2, ← z1]; exact World.alloc_heap_new w1 _
  have n12 : w2.heap[W.heap.size]? = some (boxN x p c) := by rw [← hw2]; exact ((galloc (Below.refl w1.heap.size w1) _).block _ (by omega)).trans n1
  have b2 : Below W.heap.size W w2 := by rw [← hw2]; exact galloc b1 _
  have hr := reach_any x l w2 W.heap.size 0 p c (.slice pl l.length cl) (box4 n12) (hx.below b2) (hl.below b2) hlen
  have HR := Lib.hid hr
  have HB := Lib.hid b2
  obtain ⟨r0, r1, r2, r3⟩ := box4 n2
  have HN2 := Lib.hid n2
  have rf : ∀ o, w2.frozen? ⟨W.heap.size + 1, o, none⟩ = false := fun o => Lib.frozen_of_heap n2 o
  clear hl hx hr b2 n12 n2 b1 n1
  cases hat : atT x l with
  | none =>
    have HR2 : Hid (Calls Tryz.prog 33 #[.pointer (some ⟨W.heap.size, 0, none⟩), .slice pl l.length cl] w2 fun e w' => w' = w2 ∧ e = .returned (.pointer none)) := Lib.hid (HR.out.mono fun e w' ⟨h1, h2⟩ => ⟨h1, by
      rcases h2 with ⟨h3, _⟩ | ⟨y, g, o, p, c, h3, h4, _⟩
      · exact h3
      · rw [hat] at h4; cases h4⟩)
    have hWR : W.heap.size ≤ W.heap.size + 1 := by omega
    have hE := copied_end (a := .int .u8 0) (b := .int .u8 0) (c := .string ⟨#[]⟩) (k := 0) (t := (0, [])) (ls := []) (p := none) (cc := 0) (lo := W.heap.size + 2) HB.out hWR (by omega) (by unfold NIn; exact ⟨none, 0, [], rfl, .inl ⟨rfl, rfl, rfl, rfl⟩⟩) HN2.out
    simp only [List.length_nil] at hE
    have HE := Lib.hid hE
    clear hat HR hE
    go_enter Tryz.func14, Tryz.ntmps14
    go_wp2_with fail
    refine HR2.out.mono ?_
    rintro e w' ⟨rfl, rfl⟩
    go_wp2
    obtain ⟨c0, c1, c2, c3⟩ := box4 HE.out.2.2
    exact bodyPost_ret (v := .tuple #[zeroA, .int .i64 5]) (by simp [results, Tryz.results14, go_sem, c0, c1, c2, c3]) rfl ⟨HE.out.2.1, .inl ⟨rfl, rfl⟩⟩
  | some z =>
    have HZ := Lib.hid (hz z hat)
    have HR2 : Hid (Calls Tryz.prog 33 #[.pointer (some ⟨W.heap.size, 0, none⟩), .slice pl l.length cl] w2 fun e w' => w' = w2 ∧ ∃ g o p c, e = .returned (.pointer (some ⟨g, o, none⟩)) ∧ NodeAt w2 g o z p c ∧ NAt AnyB w2 z (cellsN z p c)) := Lib.hid (HR.out.mono fun e w' ⟨h1, h2⟩ => ⟨h1, by
      rcases h2 with ⟨_, h3⟩ | ⟨y, g, o, p, c, h3, h4, h5, h6⟩
      · rw [hat] at h3; cases h3
      · rw [hat] at h4; cases h4; exact ⟨g, o, p, c, h3, h5, h6⟩⟩)
    obtain ⟨zk, zt, zs⟩ := z
    have HZC : Hid (∀ (p : Option Addr) (c : Nat), NAt AnyB w2 (.mk zk zt zs) (cellsN (.mk zk zt zs) p c) → Calls Tryz.prog 34 #[.agg #[.int .u8 zk, .int .u8 zt.1, .string ⟨zt.2.toArray⟩, .slice p zs.length c]] w2 (fun e w' => ∃ (p : Option Addr) (c : Nat), e = .returned (.agg #[.int .u8 zk, .int .u8 zt.1, .string ⟨zt.2.toArray⟩, .slice p zs.length c]) ∧ NIn w' w2.heap.size w'.heap.size (.mk zk zt zs) (cellsN (.mk zk zt zs) p c) ∧ Below w2.heap.size w2 w')) := Lib.hid fun p c h => copied_any _ p c w2 h HZ.out.1 HZ.out.2
    have hs2 : w2.heap.size = W.heap.size + 2 := by rw [← hw2]; simp [z1]
    have HS2 := Lib.hid hs2
    have hRl : W.heap.size + 1 < w2.heap.size := by omega
    clear hat HR hz HZ
    go_enter Tryz.func14, Tryz.ntmps14
    go_wp2_with fail
    refine HR2.out.mono ?_
    rintro e w' ⟨rfl, g, o, p2, c2, rfl, ⟨d0, d1, d2, d3⟩, hn⟩
    dsimp only [T.kind, T.tok, T.kids] at d0 d1 d2 d3
    have hc := HZC.out p2 c2 hn
    clear hn HR2 HZC hs2
    go_wp2_with fail
    refine hc.mono ?_
    rintro e w5 ⟨p5, c5, rfl, hj5, hb5⟩
    have hR5 := (hb5.block _ hRl).trans HN2.out
    have hWR : W.heap.size ≤ W.heap.size + 1 := by omega
    have hE := copied_end (a := .int .u8 zk) (b := .int .u8 zt.1) (c := .string ⟨zt.2.toArray⟩) (gcall HB.out hb5 HB.out.size) hWR hRl hj5 hR5
    have HE := Lib.hid hE
    obtain ⟨q0, q1, q2, q3⟩ := box4 hR5
    have qf : ∀ o, w5.frozen? ⟨W.heap.size + 1, o, none⟩ = false := fun o => Lib.frozen_of_heap hR5 o
    clear hE hR5 hj5 hb5 hc d0 d1 d2 d3
    go_wp2
    obtain ⟨c0, c1, c2, c3⟩ := box4 HE.out.2.2
    exact bodyPost_ret (v := .tuple #[.agg #[.int .u8 zk, .int .u8 zt.1, .string ⟨zt.2.toArray⟩, .slice p5 zs.length c5], .int .i64 0]) (by simp [results, Tryz.results14, go_sem, c0, c1, c2, c3]) rfl ⟨HE.out.2.1, .inr ⟨_, p5, c5, rfl, rfl, HE.out.1⟩⟩
end Go.Proofs.YtingfomfibhnhaaGreatDoor
