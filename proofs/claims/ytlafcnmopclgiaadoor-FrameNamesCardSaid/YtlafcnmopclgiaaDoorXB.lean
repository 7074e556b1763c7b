/-
  FrameNames, its walk: the zero texts.
-/
import Derived.Test.YtlafcnmopclgiaaDoorXC
import Derived.Deep.OwnRows
import Derived.Deep.RegionHeld3
namespace Go.Proofs.YtlafcnmopclgiaaDoor
open Go.RowKit Go.Shelf

def zeros (n : Nat) : ByteArray := ⟨(List.replicate n (0 : UInt8)).toArray⟩
theorem zeros_size (n : Nat) : (zeros n).size = n := by simp [zeros, ByteArray.size]
theorem zeros_list (n : Nat) : (zeros n).data.toList = List.replicate n 0 := by simp [zeros]
theorem make_zeros (n : Nat) (hn : n ≤ 1000000) (w : World) : (Instr.makeSlice 31 (.int .i64 (n : Int)) (.int .i64 (n : Int))).run Tryd.prog w = .ok (.slice (some ⟨w.heap.size, 0, none⟩) n n) (w.alloc (.cells (madeCells #[.int .u8 0] n) 5)) :=
  run_make_row' 31 5 (.int .u8 0) 1 u31 info5 rfl .i64 .i64 n (by omega) (by omega) w
theorem conv_zeros (n : Nat) (w : World) : (convert 31 9 (.slice (some ⟨w.heap.size, 0, none⟩) n n)).run Tryd.prog (w.alloc (.cells (madeCells #[.int .u8 0] n) 5)) = .ok (.string (zeros n)) (w.alloc (.cells (madeCells #[.int .u8 0] n) 5)) := by
  have h := run_convert_bytes_back (P := Tryd.prog) (w.alloc (.cells (madeCells #[.int .u8 0] n) 5)) 31 9 5 ⟨w.heap.size, 0, none⟩ n (List.replicate n (0 : UInt8)) u31 u5 u9 (fun j hj => by
    have hj' : j < n := by simpa using hj
    rw [addr_add, Nat.zero_add, cell_of_row _ w.heap.size j _ 5 (0, 0) (heap_alloc_new w _)]
    simp [madeCells, hj', Nat.mod_one])
  rw [List.length_replicate] at h
  exact h
/-- The frame of the longest body. -/
def longF : ByteArray := ⟨(frameOf (List.replicate 262144 0)).toArray⟩
theorem longF_list : longF.data.toList = frameOf (List.replicate 262144 0) := rfl
theorem write_over (w : World) (hT : Tab w) : Calls Tryd.prog 9 #[.string (zeros 262145)] w fun e w' => e = .returned (.tuple #[.string ⟨#[]⟩, .int .i64 40]) ∧ Below w.heap.size w w' := by
  have h := write_any (zeros 262145) w hT
  unfold WriteEnd at h
  rw [← Lib.size_eq, zeros_size, if_neg (by omega)] at h
  exact h
theorem write_edge (w : World) (hT : Tab w) : Calls Tryd.prog 9 #[.string (zeros 262144)] w fun e w' => e = .returned (.tuple #[.string longF, .int .i64 0]) ∧ Below w.heap.size w w' := by
  have h := write_any (zeros 262144) w hT
  unfold WriteEnd at h
  rw [← Lib.size_eq, zeros_size, if_pos (by omega), zeros_list] at h
  exact h
theorem longF_told : (runA .head longF.data.toList).2.1 = [(List.replicate 262144 0, 0)] := by
  have h := run_frames [List.replicate 262144 0] (fun b hb => by rw [List.mem_singleton] at hb; subst hb; rw [List.length_replicate]; exact Nat.le_refl _)
  rw [longF_list]
  simp only [List.map_cons, List.map_nil, List.flatten_cons, List.flatten_nil, List.append_nil] at h
  rw [h]
def kp1 : List UInt8 := [110, 111, 13, 10, 13, 10, 46, 46, 67, 111, 110, 116, 101, 110, 116, 45, 76, 101, 110, 103, 116, 104]
def kp2 : List UInt8 := [58, 32, 49, 13, 10, 13, 10, 113]
set_option maxRecDepth 100000 in
theorem pt1 : runA .head ([] ++ kp1) = (8, [([], 72)], .skip) := by kernel_rfl
set_option maxRecDepth 100000 in
theorem pt2 : runA .skip ([67, 111, 110, 116, 101, 110, 116, 45, 76, 101, 110, 103, 116, 104] ++ kp2) = (22, [([113], 0)], .head) := by kernel_rfl
def strLen : Value → Nat
  | .string b => b.size
  | _ => 0
theorem head_next (k : Nat) : nmHead k ++ [121] = nmHead (k + 1) := by
  unfold nmHead
  rw [List.append_assoc, List.replicate_succ']
set_option maxRecDepth 100000 in
theorem cut1 : runA .head ([] ++ (nmHead 1002 ++ [13, 10, 13])) = (0, [], .head) := by kernel_rfl
set_option maxRecDepth 100000 in
theorem cut2 : (runA .head ((nmHead 1002 ++ [13, 10, 13]) ++ [10])).2.1 = [([], 0)] := by decide +kernel
theorem frame_len2 (l : List UInt8) (h : l.length ≤ 262144) : (frameOf l).length ≤ 1000000 := by
  unfold frameOf
  have h2 := nDigits_few l.length h
  rw [List.length_append, List.length_append, List.length_append, List.length_cons, Lib.decDigits_length]
  show 15 + (_ + 1) + 4 + _ ≤ _
  omega
end Go.Proofs.YtlafcnmopclgiaaDoor
