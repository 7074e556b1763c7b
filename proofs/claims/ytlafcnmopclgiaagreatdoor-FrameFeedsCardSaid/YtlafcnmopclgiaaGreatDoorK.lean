/-
  Write, the document's too.
-/
import Derived.Test.YtlafcnmopclgiaaGreatDoorJ
import Derived.Lib.AppendIntMem
namespace Go.Proofs.YtlafcnmopclgiaaGreatDoor
open Go.RowKit Go.Shelf

theorem of_list {s : ByteArray} {l : List UInt8} (h : s.data.toList = l) : s = ⟨l.toArray⟩ := by rw [← h]
theorem app_list (a b : ByteArray) : (a ++ b).data.toList = a.data.toList ++ b.data.toList := by rw [ByteArray.data_append, Array.toList_append]
theorem galloc {w W : World} (h : Below w.heap.size w W) (o : Obj) : Below w.heap.size w (W.alloc o) := h.alloc h.size o
theorem decDigits_le (u : Nat) : (Lib.decDigits u).length ≤ u + 1 := by
  induction u using Nat.strongRecOn with
  | _ u ih =>
    rw [Lib.decDigits]
    split
    · simp
    · have := ih (u / 10) (by omega)
      simp; omega

theorem conv_one (w : World) (x : Int) (c : UInt8) (h : (c.toNat : Int) = x) :
    (convert 30 9 (.slice (some ⟨w.heap.size, 0, none⟩) 1 1)).run Tryz.prog (w.alloc (.cells #[.int .u8 x] 5)) = .ok (.string ⟨#[c]⟩) (w.alloc (.cells #[.int .u8 x] 5)) := by
  refine run_convert_bytes_back _ 30 9 5 ⟨w.heap.size, 0, none⟩ 1 [c] u31 u5 u9 fun j hj => ?_
  have : j = 0 := by simp at hj; exact hj
  subst this
  rw [← h]
  simp [Addr.add]
theorem dig_byte (d : Nat) (h : d < 10) : ((UInt8.ofNat (48 + d)).toNat : Int) = 48 + (d : Int) := by
  have : (UInt8.ofNat (48 + d)).toNat = 48 + d := by simp [UInt8.toNat_ofNat']; omega
  rw [this]; omega
theorem conv_at (W : World) (g : Nat) (x : Int) (c : UInt8) (h : (c.toNat : Int) = x) (hc : W.cell? ⟨g, 0, none⟩ = some (.int .u8 x)) :
    (convert 30 9 (.slice (some ⟨g, 0, none⟩) 1 1)).run Tryz.prog W = .ok (.string ⟨#[c]⟩) W := by
  refine run_convert_bytes_back _ 30 9 5 ⟨g, 0, none⟩ 1 [c] u31 u5 u9 fun j hj => ?_
  have : j = 0 := by simp at hj; exact hj
  subst this
  rw [← h] at hc
  simpa [Addr.add] using hc
/-- What Write answers. -/
def WriteEnd (l : List UInt8) : Value := if l.length ≤ 262144 then .tuple #[bl (frameOf l), .int .i64 0] else .tuple #[bl [], .int .i64 40]
theorem frame_text (s D : ByteArray) (hD : D.data.toList = Lib.decDigits s.size) :
    ((⟨#[67, 111, 110, 116, 101, 110, 116, 45, 76, 101, 110, 103, 116, 104, 58, 32]⟩ ++ D ++ ⟨#[13, 10, 13, 10]⟩ ++ s : ByteArray)) = ⟨(frameOf s.data.toList).toArray⟩ := by
  refine of_list ?_
  rw [app_list, app_list, app_list, hD]
  unfold frameOf
  rw [← Lib.size_eq]
  rfl
theorem write_ok (s : ByteArray) (w : World) (hT : Tab w) (h : s.size ≤ 262144) : Calls Tryz.prog 12 #[.string s] w fun e w' => e = .returned (WriteEnd s.data.toList) ∧ Below w.heap.size w w' := by
  have hi : ¬ (262144 : Int) < (s.size : Int) := by omega
  have hD := Tryz.strconv_Itoa (s.size : Int) (by omega) (by omega) w hT.1
  have hitoa : Lib.itoa (s.size : Int) = Lib.decDigits s.size := by unfold Lib.itoa; rw [if_neg (by omega)]; rfl
  rw [hitoa] at hD
  have hlen : (Lib.decDigits s.size).length ≤ 6 := by rw [Lib.decDigits_length]; exact nDigits_few _ h
  obtain ⟨D, hDe⟩ : ∃ D : ByteArray, (⟨(Lib.decDigits s.size).toArray⟩ : ByteArray) = D := ⟨_, rfl⟩
  have hDl : D.data.toList = Lib.decDigits s.size := by rw [← hDe]
  have hDs : D.size ≤ 6 := by rw [Lib.size_eq, hDl]; exact hlen
  rw [hDe] at hD
  have HR : Hid (WriteEnd s.data.toList = .tuple #[.string (⟨#[67, 111, 110, 116, 101, 110, 116, 45, 76, 101, 110, 103, 116, 104, 58, 32]⟩ ++ D ++ ⟨#[13, 10, 13, 10]⟩ ++ s), .int .i64 0]) := Lib.hid (by unfold WriteEnd; rw [← Lib.size_eq, if_pos h, frame_text s D hDl]; rfl)
  have z1 : ¬ 9223372036854775807 < 16 + D.size := by omega
  have z2 : ¬ 9223372036854775807 < 16 + D.size + 4 := by omega
  have z3 : ¬ 9223372036854775807 < 16 + D.size + 4 + s.size := by omega
  clear hitoa hDe hDl hlen hT
  go_enter Tryz.func12, Tryz.ntmps12
  go_wp2_with fail
  refine hD.mono ?_
  rintro e w1 ⟨rfl, k, os, rfl⟩
  have HB := Lib.hid (Lib.below_grow w.heap.size w (Nat.le_refl _) k os)
  go_wp2_with fail
  go_ret2
  exact ⟨by rw [HR.out]; rfl, HB.out⟩
theorem write_big (s : ByteArray) (w : World) (h : 262144 < s.size) : Calls Tryz.prog 12 #[.string s] w fun e w' => e = .returned (WriteEnd s.data.toList) ∧ Below w.heap.size w w' := by
  have hi : (262144 : Int) < (s.size : Int) := by omega
  have HR : Hid (WriteEnd s.data.toList = .tuple #[.string ⟨#[]⟩, .int .i64 40]) := Lib.hid (by unfold WriteEnd; rw [← Lib.size_eq, if_neg (by omega)]; rfl)
  go_enter Tryz.func12, Tryz.ntmps12
  go_wp2_with fail
  go_ret2
  exact ⟨by rw [HR.out]; rfl, Below.refl _ _⟩
theorem write_any (s : ByteArray) (w : World) (hT : Tab w) : Calls Tryz.prog 12 #[.string s] w fun e w' => e = .returned (WriteEnd s.data.toList) ∧ Below w.heap.size w w' := by
  by_cases h : s.size ≤ 262144
  · exact write_ok s w hT h
  · exact write_big s w (by omega)
end Go.Proofs.YtlafcnmopclgiaaGreatDoor
