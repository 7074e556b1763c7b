/-
  LexNames: many, Ahead; the facts on its texts.
-/
import Derived.Test.YtaofpefmniadiaaDoorV
import Derived.Laws.MakeOwn
import Derived.Laws.IdiomStrings
import Derived.Lib.SmallJoins
namespace Go.Proofs.YtaofpefmniadiaaDoor
open Go.RowKit Go.Shelf

def rep (n : Nat) (c : UInt8) : ByteArray := ⟨Array.replicate n c⟩
theorem rep_list (n : Nat) (c : UInt8) : (rep n c).data.toList = List.replicate n c := by simp [rep]
theorem rep_size (n : Nat) (c : UInt8) : (rep n c).size = n := by simp [rep, ByteArray.size]
theorem und43 : Tryd.prog.underlying 43 = some (.slice 5) := by kernel_rfl

theorem conv_own (w : World) (B n : Nat) (v : Value) (l : List UInt8) (h : w.ownsRow B 5 1 v n (Lib.byteCells l)) (hn : 0 < n) : (convert 43 9 v).run Tryd.prog w = .ok (.string ⟨l.toArray⟩) w := by
  obtain ⟨g, cap, rfl⟩ := Joins.ownsRow_form h hn
  have hl : l.length = n := by have := h.1; rw [Lib.byteCells_length] at this; omega
  subst hl
  refine run_convert_bytes_back w 43 9 5 ⟨g, 0, none⟩ cap l und43 und5 und9 fun j hj => ?_
  have hadd := h.cells (g := g) rfl j (.int .u8 (l[j].toNat : Int)) (by simp [Lib.byteCells, hj])
  exact hadd

set_option maxRecDepth 100000 in
set_option maxHeartbeats 2000000 in
theorem many_any (n : Nat) (c : UInt8) (w : World) (h0 : 0 < n) (hn : n ≤ 100000) : Calls Tryd.prog 10 #[.int .i64 n, .string ⟨#[c]⟩] w fun e w' => e = .returned (.string (rep n c)) ∧ Below w.heap.size w w' := by
  obtain ⟨i0, hi, hz0, hz1, hz2⟩ := info_parts Tryd.Builder_Extra_169.infoByte
  have hmk : (Instr.makeSlice 43 (.int .i64 0) (.int .i64 n)).run Tryd.prog w = .ok (.slice (some ⟨w.heap.size, 0, none⟩) 0 n) (w.alloc (.cells (madeCells #[.int .u8 0] n) 5)) := by
    have h := run_make (P := Tryd.prog) w 43 5 i0 (.int .u8 0) und43 hi hz0 .i64 .i64 0 n (by omega) (by omega) (by rw [hz2]; omega) (by omega)
    rw [hz1, show (Value.int .u8 0).cells = #[.int .u8 0] from rfl] at h
    simpa using h
  have hown : (w.alloc (.cells (madeCells #[.int .u8 0] n) 5)).ownsRow w.heap.size 5 1 (.slice (some ⟨w.heap.size, 0, none⟩) 0 n) 0 [] :=
    World.ownsRow_made w _ n (Nat.le_refl _) (by unfold maxLen; omega) (by rw [size_madeCells]; omega)
  have hB0 : Below w.heap.size w (w.alloc (.cells (madeCells #[.int .u8 0] n) 5)) := (Below.refl _ _).alloc (Nat.le_refl _) _
  have hsz : (⟨#[c]⟩ : ByteArray).size = 1 := rfl
  have hce : ∀ k, Lib.byteCells (List.replicate k c) ++ Lib.strCells ⟨#[c]⟩ = Lib.byteCells (List.replicate (k + 1) c) := fun k => by
    rw [List.replicate_succ']; simp [Lib.byteCells, Lib.strCells]
  have HCE := Lib.hid hce
  clear hce
  obtain ⟨cs, hcs⟩ : ∃ cs, (⟨#[c]⟩ : ByteArray) = cs := ⟨_, rfl⟩
  rw [hcs] at hsz ⊢
  simp only [hcs] at HCE
  clear hcs
  have hsz' : (cs.size : Int) = 1 := by omega
  generalize w.alloc (.cells (madeCells #[.int .u8 0] n) 5) = W0 at *
  have HO := Lib.hid hown
  have HB := Lib.hid hB0
  clear hown hB0
  go_enter Tryd.func10, Tryd.ntmps10
  go_wp2
  go_loopw [5, 6] (fun v i wr => ∃ k : Nat, i = .int .i64 k ∧ k ≤ n ∧ Hid (wr.ownsRow w.heap.size 5 1 v k (Lib.byteCells (List.replicate k c))) ∧ Hid (Below w.heap.size w wr)) (fun _ i _ => n - (intOf i).toNat)
  case atStart => exact ⟨0, rfl, Nat.zero_le _, HO, HB⟩
  case round =>
    obtain ⟨k, rfl, hk, hO, hB⟩ := hrel
    by_cases hlt : k < n
    · have hlt' : (k : Int) < (n : Int) := by omega
      go_wp2_with (at_builtin; refine Lib.wpList_append_own_string _ rfl _ _ 43 9 rfl w.heap.size 5 i0 und43 und9 hi hz0 hz1 hz2 _ _ _ rfl hO.out cs rfl ?c3 ?c4 ?c5 ?_)
      case c3 => unfold maxLen; omega
      case c4 => omega
      case c5 => exact hB.out.size
      intro v' w2 hown' hgrow _
      have HO' : Hid (w2.ownsRow w.heap.size 5 1 v' (k + 1) (Lib.byteCells (List.replicate (k + 1) c))) := Lib.hid (by rw [← HCE.out k]; exact hown')
      have HB' := Lib.hid (hB.out.grown hgrow hB.out.size (fun k hk => (hO.out.lt k hk).1))
      clear hown' hgrow
      go_wp2
      go_roundw
      case rel => exact ⟨k + 1, by simp, by omega, HO', HB'⟩
      case measure => simp [intOf]; omega
    · have : k = n := by omega
      subst this
      have hlt' : ¬ (k : Int) < (k : Int) := by omega
      have hcv := conv_own _ _ _ _ _ hO.out h0
      go_wp2
      go_ret
      exact ⟨rfl, hB.out⟩

/-! ### blanks -/
theorem val_one : valB [32] = true := by decide +kernel
theorem val_rep : ∀ n, valB (List.replicate n 32) = true
  | 0 => rfl
  | n + 1 => by rw [List.replicate_succ, show (32 : UInt8) :: List.replicate n 32 = [32] ++ List.replicate n 32 from rfl, valB_app val_one]; exact val_rep n
theorem lead_rep : ∀ n, lead blankB (List.replicate n 32) = n
  | 0 => rfl
  | n + 1 => by
    rw [List.replicate_succ]; unfold lead; rw [if_pos (by decide), lead_rep n]
theorem toks_rep (n : Nat) : toks (List.replicate (n + 1) 32) = [(1, List.replicate (n + 1) 32)] := by
  have hc : cut (List.replicate (n + 1) 32) = (1, n + 1) := by
    rw [List.replicate_succ]
    show cutC 32 (List.replicate n 32) = _
    unfold cutC
    rw [if_pos (by decide), ← List.replicate_succ, lead_rep]
  have hl : (List.replicate (n + 1) (32 : UInt8)).length = n + 1 := List.length_replicate
  rw [toks_cons _ (by rw [List.replicate_succ]; simp), hc]
  rw [List.take_of_length_le (by rw [hl]; exact Nat.le_refl _), List.drop_of_length_le (by rw [hl]; exact Nat.le_refl _), toks_nil]
theorem tokE_rep (n : Nat) (h : n ≤ 65536) : tokE (List.replicate n 32) = 0 := by
  unfold tokE; rw [List.length_replicate, if_neg (by omega), if_pos (val_rep n)]
theorem tokE_far (n : Nat) (h : 65536 < n) : tokE (List.replicate n 32) = 40 := by
  unfold tokE; rw [List.length_replicate, if_pos h]
def TokEnd3 (n : Nat) (k : Int) (w : World) (e : Ending) (w' : World) : Prop := ∃ p c, e = .returned (.tuple #[.slice p n c, .int .i64 k]) ∧ Below w.heap.size w w'
theorem tokens_n (s : ByteArray) (w : World) (hz : s.size ≤ 1000000) (hE : Env w) {n : Nat} {k : Int} (h1 : (tokL s.data.toList).length = n) (h2 : tokE s.data.toList = k) : Calls Tryd.prog 9 #[.string s] w (TokEnd3 n k w) := by
  subst h1; subst h2
  refine (tokens_any s w hz hE).mono ?_
  rintro e w' ⟨v, h1, h2, h3⟩
  obtain ⟨p, c, rfl⟩ := owns_shape h2
  exact ⟨p, c, h1, h3⟩
theorem many_n (n : Nat) (h0 : 0 < n) (hn : n ≤ 100000) {m : Nat} {k : Int} (h1 : (tokL (List.replicate n 32)).length = m) (h2 : tokE (List.replicate n 32) = k) : ∃ X : ByteArray, (∀ w, Calls Tryd.prog 10 #[.int .i64 n, .string ⟨#[32]⟩] w (StrEnd X w)) ∧ ∀ w, Env w → Calls Tryd.prog 9 #[.string X] w (TokEnd3 m k w) :=
  ⟨rep n 32, fun w => many_any n 32 w h0 hn, fun w hE => tokens_n (rep n 32) w (by rw [rep_size]; omega) hE (by rw [rep_list]; exact h1) (by rw [rep_list]; exact h2)⟩
theorem many_most : ∃ X : ByteArray, (∀ w, Calls Tryd.prog 10 #[.int .i64 65536, .string ⟨#[32]⟩] w (StrEnd X w)) ∧ ∀ w, Env w → Calls Tryd.prog 9 #[.string X] w (TokEnd3 1 0 w) :=
  many_n 65536 (by omega) (by omega) (by unfold tokL; rw [if_pos (tokE_rep _ (Nat.le_refl _)), show 65536 = 65535 + 1 from rfl, toks_rep]; rfl) (tokE_rep _ (Nat.le_refl _))
theorem many_over : ∃ X : ByteArray, (∀ w, Calls Tryd.prog 10 #[.int .i64 65537, .string ⟨#[32]⟩] w (StrEnd X w)) ∧ ∀ w, Env w → Calls Tryd.prog 9 #[.string X] w (TokEnd3 0 40 w) :=
  many_n 65537 (by omega) (by omega) (by unfold tokL; rw [if_neg (by rw [tokE_far _ (by omega)]; decide)]; rfl) (tokE_far _ (by omega))

/-! ### Ahead -/
def BoolEnd (b : Bool) (w : World) (e : Ending) (w' : World) : Prop := e = .returned (.bool b) ∧ Below w.heap.size w w'
theorem ahead_yes (T : ByteArray) (w : World) : Calls Tryd.prog 13 #[.agg #[.int .u8 2, .string T]] w (BoolEnd true w) := by
  have hB := galloc2 (Below.refl w.heap.size w) (Nat.le_refl _) (.cells #[.int .u8 2, .string T] 32)
  go_enter Tryd.func13, Tryd.ntmps13
  go_wp2_with fail
  go_ret
  exact ⟨rfl, hB⟩
theorem ahead_no (T : ByteArray) (w : World) : Calls Tryd.prog 13 #[.agg #[.int .u8 4, .string T]] w (BoolEnd false w) := by
  have hB := galloc2 (Below.refl w.heap.size w) (Nat.le_refl _) (.cells #[.int .u8 4, .string T] 32)
  go_enter Tryd.func13, Tryd.ntmps13
  go_wp2_with fail
  go_ret
  exact ⟨rfl, hB⟩
end Go.Proofs.YtaofpefmniadiaaDoor
