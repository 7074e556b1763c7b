/-
  What the statements ask with: all, back, Same.
-/
import Derived.Test.YtlafcnmopclgiaaDoorK
namespace Go.Proofs.YtlafcnmopclgiaaDoor
open Go.RowKit Go.Shelf

/-- '[]byte(s)' as a chunk. -/
theorem chunk_conv (w : World) (s : ByteArray) (cap : Nat) : Chunk (Lib.bytesWorld w 5 s) (.slice (some ⟨w.heap.size, 0, none⟩) s.size cap) s.data.toList := by
  refine .inr ⟨w.heap.size, 0, cap, by rw [← Lib.size_eq], fun i hi => ?_⟩
  rw [Nat.zero_add]
  exact Lib.bytesWorld_cell w 5 s i (by rw [Lib.size_eq]; exact hi)
set_option maxHeartbeats 1000000 in
theorem all_any (s : ByteArray) (w : World) (hT : Tab w) (h11 : 11 ≤ w.heap.size) (hz : s.size ≤ 1000000) :
    Calls Tryd.prog 14 #[.string s] w fun e w' => ∃ v, e = .returned v ∧ EvsAt w.heap.size w' v (runA .head s.data.toList).2.1 ∧ Below w.heap.size w w' := by
  have hnew := new_any w
  go_enter Tryd.func14, Tryd.ntmps14
  go_wp2_with fail
  refine hnew.mono ?_
  rintro e w1 ⟨rfl, hR, hb⟩
  have hs1 := hb.size
  have hcv := Lib.run_convert_string_bytes (P := Tryd.prog) w1 9 31 5 s Tryd.underlying9 Tryd.underlying31 Tryd.underlying5
  have hb2 := bytesWorld_below w1 5 s
  have hch := chunk_conv w1 s (grownCap w1 s.size 0 5)
  obtain ⟨hv, r1, r2, r3, r4, r5⟩ := hR
  have hR2 : Rd w.heap.size (Lib.bytesWorld w1 5 s) w.heap.size .head [] := ⟨hv, r1.below hb2, owns_below r2 hb2, r3, r4, r5⟩
  have HB2 := Lib.hid (hb.trans (hb2.mono hs1))
  have hT2 := hT.below HB2.out
  have hs2 := HB2.out.size
  clear hb2 hnew r1 r2
  generalize grownCap w1 s.size 0 5 = cap at *
  generalize Lib.bytesWorld w1 5 s = w2 at *
  have hf := feed_any w.heap.size w2 w.heap.size .head [] hT2 h11 hs2 hR2 _ s.data.toList hch (by rw [← Lib.size_eq]; simpa using hz)
  rw [List.nil_append] at hf
  clear hch hT2 hR2
  go_wp2_with fail
  refine hf.mono ?_
  rintro e w3 ⟨v, rfl, h1, h2, h3⟩
  have H1 := Lib.hid (owns_base (B := w.heap.size) h1 hs2)
  have H3 := Lib.hid (HB2.out.trans h3)
  clear h1 h2 h3 hf
  go_wp2_with fail
  go_ret
  exact ⟨_, rfl, H1.out, H3.out⟩
end Go.Proofs.YtlafcnmopclgiaaDoor
