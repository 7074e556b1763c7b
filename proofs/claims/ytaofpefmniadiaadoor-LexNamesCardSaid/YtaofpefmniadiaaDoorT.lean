/-
  LexBack: the walk of the law.
-/
import Derived.Test.YtaofpefmniadiaaDoorR
import Derived.Test.YtaofpefmniadiaaDoorS
import Derived.Test.YtaofpefmniadiaaDoorO
namespace Go.Proofs.YtaofpefmniadiaaDoor
open Go.RowKit

theorem tokE_zero {l : List UInt8} (h : tokE l = 0) : l.length ≤ 65536 ∧ valB l = true := by
  unfold tokE at h
  split at h
  · cases h
  · split at h
    · exact ⟨by omega, by assumption⟩
    · cases h
theorem tokE_good {l : List UInt8} (h1 : l.length ≤ 65536) (h2 : valB l = true) : tokE l = 0 := by
  unfold tokE; rw [if_neg (by omega), if_pos h2]
/-- What LexBack asks of a text's tokens. -/
theorem back_tok {l : List UInt8} (hE : tokE l = 0) {i : Nat} {t : Tok} (h : (toks l)[i]? = some t) :
    t.2 ≠ [] ∧ oneE t.2 = 0 ∧ oneT t.2 = t ∧ tokE (l.drop (joinL ((toks l).take (i + 1))).length) = 0 ∧ tokL (l.drop (joinL ((toks l).take (i + 1))).length) = (toks l).drop (i + 1) ∧ (joinL ((toks l).take (i + 1))).length ≤ l.length := by
  obtain ⟨hl, hv⟩ := tokE_zero hE
  obtain ⟨h1, h2, h3, h4⟩ := toks_valid l hv i t h
  have hj := toks_join l
  have hle := join_le (toks l) (i + 1)
  have hj2 : joinL (toks l) = l := hj
  rw [hj2] at hle
  have hle2 : t.2.length ≤ 65536 := by
    have hs := join_step h
    have := congrArg List.length hs
    rw [List.length_append] at this
    omega
  have e1 : tokE t.2 = 0 := tokE_good hle2 h2
  have e2 : tokE (l.drop (joinL ((toks l).take (i + 1))).length) = 0 := tokE_good (by rw [List.length_drop]; omega) h4
  refine ⟨h1, ?_, ?_, e2, ?_, hle⟩
  · unfold oneE; rw [if_pos e1, h3]; rfl
  · unfold oneT oneE; rw [if_pos e1, h3]; rfl
  · unfold tokL; rw [if_pos e2]; exact toks_drop (i + 1) l
set_option maxRecDepth 100000 in
theorem neq_tok (k : Int) (T : ByteArray) (W : World) : (binOp .neq 32 (.agg #[.int .u8 k, .string T]) (.agg #[.int .u8 k, .string T])).run Tryd.prog W = .ok (.bool false) W := by
  simp [go_sem]
end Go.Proofs.YtaofpefmniadiaaDoor
