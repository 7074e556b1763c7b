/-
  LexTokens: the walk of the law.
-/
import Derived.Test.YtaofpefmniadiaaDoorRF
namespace Go.Proofs.YtaofpefmniadiaaDoor
open Go.RowKit

set_option maxRecDepth 100000 in
theorem eql_tok (k : Int) (T : ByteArray) (W : World) : (binOp .eql 32 (.agg #[.int .u8 k, .string T]) (.agg #[.int .u8 k, .string T])).run Tryd.prog W = .ok (.bool true) W := by
  simp [go_sem]
def OneEnd4 (c : Nat) (Q : ByteArray) (k : Int) (w : World) (e : Ending) (w' : World) : Prop := e = .returned (.tuple #[.agg #[.int .u8 c, .string Q], .int .i64 k]) ∧ Below w.heap.size w w'
theorem one_same (s : ByteArray) (hz : s.size ≤ 1000000) : ∃ (c : Nat) (Q : ByteArray) (k : Int), (∀ w, Env w → Calls Tryd.prog 11 #[.string s] w (OneEnd4 c Q k w)) ∧ ∀ w, Env w → Calls Tryd.prog 15 #[.string s] w (OneEnd4 c Q k w) :=
  ⟨(oneT s.data.toList).1, ⟨(oneT s.data.toList).2.toArray⟩, oneE s.data.toList, fun w hE => one_tok_any s w hz hE, fun w hE => rone_any s w hz hE⟩
set_option maxRecDepth 100000 in
set_option maxHeartbeats 16000000 in
theorem tokens_walk (s : ByteArray) (w : World) (hm : s.size ≤ maxLen) (hE : Env w) : Calls Tryd.prog 4 #[.string s] w (WorksEnd w) := by
  unfold maxLen at hm
  have HE := Lib.hid hE
  clear hE
  by_cases h8 : 4000 < s.size
  · have h8' : (4000 : Int) < (s.size : Int) := by omega
    go_enter Tryd.func4, Tryd.ntmps4
    go_wp2_with fail
    go_ret
    exact ⟨rfl, Below.refl _ _⟩
  · have h8' : ¬ (4000 : Int) < (s.size : Int) := by omega
    obtain ⟨c, Q, k, ho1, ho2⟩ := one_same s (by omega)
    have ht1 := fun w hE => tokens_any s w (by omega) hE
    have ht2 := fun w hE => rtokens_any s w (by omega) hE
    have hfew : (tokL s.data.toList).length ≤ 10000000 := by
      unfold tokL
      split
      · have := toks_len s.data.toList; rw [← Lib.size_eq] at this; omega
      · exact Nat.zero_le _
    generalize tokL s.data.toList = E at *
    generalize tokE s.data.toList = K at *
    have hq := fun W => eql_tok c Q W
    go_enter Tryd.func4, Tryd.ntmps4
    go_wp2_with fail
    refine (ht1 w HE.out).mono ?_
    rintro e w1 ⟨v1, rfl, hT1, hb1⟩
    obtain ⟨p1, k1, rfl⟩ := owns_shape hT1
    have HT1 := Lib.hid hT1
    have HB1 := Lib.hid hb1
    clear hT1 hb1 ht1
    go_wp2_with fail
    refine (ht2 w1 (HE.out.below HB1.out HE.out.size)).mono ?_
    rintro e w2 ⟨v2, rfl, hT2, hb2⟩
    obtain ⟨p2, k2, rfl⟩ := owns_shape hT2
    have HT2 := Lib.hid hT2
    have HT1b := Lib.hid (HT1.out.below hb2)
    have HB2 := Lib.hid (HB1.out.trans (hb2.mono HB1.out.size))
    clear hT2 hb2 ht2
    go_wp2_with fail
    refine (ho1 w2 (HE.out.below HB2.out HE.out.size)).mono ?_
    rintro e w3 ⟨rfl, hb3⟩
    have hbox := heap_alloc_new w3 (.cells #[.int .u8 c, .string Q] 32)
    have hba : Below w3.heap.size w3 (w3.alloc (.cells #[.int .u8 c, .string Q] 32)) := galloc2 (Below.refl _ _) (Nat.le_refl _) _
    have HT14 := Lib.hid ((HT1b.out.below hb3).below hba)
    have HT24 := Lib.hid ((HT2.out.below hb3).below hba)
    have HB4 := Lib.hid ((HB2.out.trans (hb3.mono HB2.out.size)).trans (hba.mono (by have := HB2.out.size; have := hb3.size; omega)))
    have HBOX := Lib.hid hbox
    clear hb3 hba hbox ho1
    generalize hv4 : w3.alloc (.cells #[.int .u8 c, .string Q] 32) = w4 at *
    go_wp2_with fail
    refine (ho2 w4 (HE.out.below HB4.out HE.out.size)).mono ?_
    rintro e w5 ⟨rfl, hb5⟩
    have HBOX5 := Lib.hid ((hb5.block _ (Array.getElem?_eq_some_iff.1 HBOX.out).1).trans HBOX.out)
    have hbox := heap_alloc_new w5 (.cells #[.int .u8 c, .string Q] 32)
    have hba : Below w5.heap.size w5 (w5.alloc (.cells #[.int .u8 c, .string Q] 32)) := galloc2 (Below.refl _ _) (Nat.le_refl _) _
    have HT16 := Lib.hid ((HT14.out.below hb5).below hba)
    have HT26 := Lib.hid ((HT24.out.below hb5).below hba)
    have HB6 := Lib.hid ((HB4.out.trans (hb5.mono HB4.out.size)).trans (hba.mono (by have := HB4.out.size; have := hb5.size; omega)))
    have hb7 := (hba.block _ (Array.getElem?_eq_some_iff.1 HBOX5.out).1).trans HBOX5.out
    clear hb5 hba ho2 hv4
    generalize hv6 : w5.alloc (.cells #[.int .u8 c, .string Q] 32) = w6 at *
    have x0 : w6.cell? ⟨w3.heap.size, 0, none⟩ = some (.int .u8 c) := by rw [cellH hb7]; rfl
    have x1 : w6.cell? ⟨w3.heap.size, 1, none⟩ = some (.string Q) := by rw [cellH hb7]; rfl
    have y0 : w6.cell? ⟨w5.heap.size, 0, none⟩ = some (.int .u8 c) := by rw [cellH hbox]; rfl
    have y1 : w6.cell? ⟨w5.heap.size, 1, none⟩ = some (.string Q) := by rw [cellH hbox]; rfl
    clear hb7 hbox
    have hs := same_any _ _ _ _ E w6 HT16.out HT26.out hfew
    go_wp2_with (go_at_call 16; refine hs.mono ?_; rintro e w7 ⟨rfl, hb7⟩)
    go_ret
    exact ⟨rfl, HB6.out.trans (hb7.mono HB6.out.size)⟩
end Go.Proofs.YtaofpefmniadiaaDoor
