/-
  FrameNames, its parts: what closed texts tell; nobody's reader.
-/
import Derived.Test.YtlafcnmopclgiaaDoorV
namespace Go.Proofs.YtlafcnmopclgiaaDoor
open Go.RowKit Go.Shelf

set_option maxRecDepth 100000 in
theorem feed_nil (w : World) (v : Value) : Calls Tryd.prog 11 #[.pointer none, v] w fun e w' => e = .returned (.tuple #[.slice none 0 0, .int .i64 2]) ∧ w' = w := by
  go_enter Tryd.func11, Tryd.ntmps11
  go_wp2_with fail
  go_ret2
  exact ⟨rfl, rfl⟩
set_option maxRecDepth 100000 in
theorem copy_nil (w : World) : Calls Tryd.prog 16 #[.pointer none] w fun e w' => e = .returned (.pointer none) ∧ w' = w := by
  go_enter Tryd.func16, Tryd.ntmps16
  go_wp2_with fail
  go_ret
  exact ⟨rfl, rfl⟩
/-- The cases: a text, what it tells. -/
def nmCases : List (List UInt8 × List Ev) := [
  ([120, 58, 32, 121, 13, 10, 13, 10, 102, 111, 111, 32, 67, 111, 110, 116, 101, 110, 116, 45, 76, 101, 110, 103, 116, 104, 58, 32, 49, 13, 10, 13, 10, 122], [([], 72), ([122], 0)]),
  ([67, 111, 110, 116, 101, 110, 116, 45, 76, 101, 110, 103, 116, 104, 58, 32, 57, 57, 57, 57, 57, 57, 57, 57, 57, 57, 57, 57, 13, 10, 13, 10, 67, 111, 110, 116, 101, 110, 116, 45, 76, 101, 110, 103, 116, 104, 58, 32, 48, 13, 10, 13, 10], [([], 40), ([], 0)]),
  ([67, 111, 110, 116, 101, 110, 116, 45, 76, 101, 110, 103, 116, 104, 58, 32, 48, 48, 55, 13, 10, 13, 10], [([], 72)]),
  ([13, 10, 13, 10], [([], 72)]),
  ([67, 79, 78, 84, 69, 78, 84, 45, 108, 101, 110, 103, 116, 104, 58, 9, 32, 49, 32, 13, 10, 13, 10, 113], [([113], 0)]),
  ([67, 111, 110, 116, 101, 110, 116, 45, 76, 101, 110, 103, 116, 104, 58, 32, 49, 13, 10, 67, 111, 110, 116, 101, 110, 116, 45, 76, 101, 110, 103, 116, 104, 58, 32, 49, 13, 10, 13, 10, 113], [([], 72), ([113], 0)]),
  ([67, 111, 110, 116, 101, 110, 116, 45, 76, 101, 110, 103, 116, 104, 32, 58, 32, 49, 13, 10, 13, 10, 113], [([], 72)]),
  ([67, 111, 110, 116, 101, 110, 116, 45, 76, 101, 110, 103, 116, 104, 58, 32, 50, 54, 50, 49, 52, 53, 13, 10, 13, 10], [([], 40)])]
set_option maxRecDepth 100000 in
theorem nm_told : ∀ c ∈ nmCases, (runA .head c.1).2.1 = c.2 := by decide +kernel
/-- The longest head that may be. -/
def nmStart : List UInt8 := [67, 111, 110, 116, 101, 110, 116, 45, 76, 101, 110, 103, 116, 104, 58, 32, 48, 13, 10, 120, 58, 32]
def nmHead (k : Nat) : List UInt8 := nmStart ++ List.replicate k 121
set_option maxRecDepth 100000 in
theorem nm_edge : (runA .head (nmHead 1002 ++ crlf2)).2.1 = [([], 0)] := by decide +kernel
set_option maxRecDepth 100000 in
theorem nm_over : (runA .head (nmHead 1003 ++ crlf2)).2.1 = [([], 72)] := by decide +kernel
set_option maxRecDepth 100000 in
theorem nm_open : (runA .head (nmHead 1002)).2.1 = [] := by decide +kernel
set_option maxRecDepth 100000 in
theorem nm_cut : (runA .head (nmHead 1002 ++ [13, 10, 13])).2.1 = [] := by decide +kernel
set_option maxRecDepth 100000 in
theorem nm_part : (runA .head [110, 111, 13, 10, 13, 10, 46, 46, 67, 111, 110, 116, 101, 110, 116, 45, 76, 101, 110, 103, 116, 104]).2.1 = [([], 72)] := by decide +kernel
set_option maxRecDepth 100000 in
theorem nm_part2 : (runA .head ([110, 111, 13, 10, 13, 10, 46, 46, 67, 111, 110, 116, 101, 110, 116, 45, 76, 101, 110, 103, 116, 104] ++ [58, 32, 49, 13, 10, 13, 10, 113])).2.1 = [([], 72), ([113], 0)] := by decide +kernel
end Go.Proofs.YtlafcnmopclgiaaDoor
