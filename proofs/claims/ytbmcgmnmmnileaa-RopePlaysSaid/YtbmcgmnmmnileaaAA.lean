/-
  A text that is so many times a byte; the depth; the texts of RopeNames' loops.
-/
import Derived.Test.YtbmcgmnmmnileaaZ
import Derived.Laws.MakeOwn
import Derived.Laws.IdiomStrings
import Derived.Lib.SmallJoins
namespace Go.Proofs.Ytbmcgmnmmnileaa
open Go.RowKit Go.Shelf

def rep (n : Nat) (c : UInt8) : ByteArray := ⟨Array.replicate n c⟩
theorem rep_list (n : Nat) (c : UInt8) : (rep n c).data.toList = List.replicate n c := by simp [rep]
theorem rep_size (n : Nat) (c : UInt8) : (rep n c).size = n := by simp [rep, ByteArray.size]
theorem u58 : Try.prog.underlying 58 = some (.slice 5) := by kernel_rfl
theorem u5 : Try.prog.underlying 5 = some (.int .u8) := by kernel_rfl
theorem u9 : Try.prog.underlying 9 = some .string := by kernel_rfl

theorem conv_own (w : World) (B n : Nat) (v : Value) (l : List UInt8) (h : w.ownsRow B 5 1 v n (Lib.byteCells l)) (hn : 0 < n) : (convert 58 9 v).run Try.prog w = .ok (.string ⟨l.toArray⟩) w := by
  obtain ⟨g, cap, rfl⟩ := Joins.ownsRow_form h hn
  have hl : l.length = n := by have := h.1; rw [Lib.byteCells_length] at this; omega
  subst hl
  refine run_convert_bytes_back w 58 9 5 ⟨g, 0, none⟩ cap l u58 u5 u9 fun j hj => ?_
  have hadd := h.cells (g := g) rfl j (.int .u8 (l[j].toNat : Int)) (by simp [Lib.byteCells, hj])
  exact hadd

set_option maxRecDepth 100000 in
set_option maxHeartbeats 2000000 in
theorem many_any (n : Nat) (c : UInt8) (w : World) (h0 : 0 < n) (hn : n ≤ 100000) : Calls Try.prog 9 #[.int .i64 n, .string ⟨#[c]⟩] w fun e w' => e = .returned (.string (rep n c)) ∧ Below w.heap.size w w' := by
  obtain ⟨i0, hi, hz0, hz1, hz2⟩ := info_parts Try.Builder_Extra_165.infoByte
  have hmk : (Instr.makeSlice 58 (.int .i64 0) (.int .i64 n)).run Try.prog w = .ok (.slice (some ⟨w.heap.size, 0, none⟩) 0 n) (w.alloc (.cells (madeCells #[.int .u8 0] n) 5)) := by
    have h := run_make (P := Try.prog) w 58 5 i0 (.int .u8 0) u58 hi hz0 .i64 .i64 0 n (by omega) (by omega) (by rw [hz2]; omega) (by omega)
    rw [hz1, show (Value.int .u8 0).cells = #[.int .u8 0] from rfl] at h
    simpa using h
  have hown : (w.alloc (.cells (madeCells #[.int .u8 0] n) 5)).ownsRow w.heap.size 5 1 (.slice (some ⟨w.heap.size, 0, none⟩) 0 n) 0 [] :=
    World.ownsRow_made w _ n (Nat.le_refl _) (by unfold maxLen; omega) (by rw [size_madeCells]; omega)
  have hB0 : Below w.heap.size w (w.alloc (.cells (madeCells #[.int .u8 0] n) 5)) := (Below.refl _ _).alloc (Nat.le_refl _) _
  have hsz : (⟨#[c]⟩ : ByteArray).size = 1 := rfl
  have hce : ∀ k, Lib.byteCells (List.replicate k c) ++ Lib.strCells ⟨#[c]⟩ = Lib.byteCells (List.replicate (k + 1) c) := fun k => by
    rw [List.replicate_succ']; simp [Lib.byteCells, Lib.strCells]
  have HCE := Lib.hid hce
  clear hce
  obtain ⟨cs, hcs⟩ : ∃ cs, (⟨#[c]⟩ : ByteArray) = cs := ⟨_, rfl⟩
  rw [hcs] at hsz ⊢
  simp only [hcs] at HCE
  clear hcs
  have hsz' : (cs.size : Int) = 1 := by omega
  generalize w.alloc (.cells (madeCells #[.int .u8 0] n) 5) = W0 at *
  have HO := Lib.hid hown
  have HB := Lib.hid hB0
  clear hown hB0
  go_enter Try.func9, Try.ntmps9
  go_wp2
  go_loopw [5, 6] (fun v i wr => ∃ k : Nat, i = .int .i64 k ∧ k ≤ n ∧ Hid (wr.ownsRow w.heap.size 5 1 v k (Lib.byteCells (List.replicate k c))) ∧ Hid (Below w.heap.size w wr)) (fun _ i _ => n - (intOf i).toNat)
  case atStart => exact ⟨0, rfl, Nat.zero_le _, HO, HB⟩
  case round =>
    obtain ⟨k, rfl, hk, hO, hB⟩ := hrel
    by_cases hlt : k < n
    · have hlt' : (k : Int) < (n : Int) := by omega
      go_wp2_with (at_builtin; refine Lib.wpList_append_own_string _ rfl _ _ 58 9 rfl w.heap.size 5 i0 u58 u9 hi hz0 hz1 hz2 _ _ _ rfl hO.out cs rfl ?c3 ?c4 ?c5 ?_)
      case c3 => unfold maxLen; omega
      case c4 => omega
      case c5 => exact hB.out.size
      intro v' w2 hown' hgrow _
      have HO' : Hid (w2.ownsRow w.heap.size 5 1 v' (k + 1) (Lib.byteCells (List.replicate (k + 1) c))) := Lib.hid (by rw [← HCE.out k]; exact hown')
      have HB' := Lib.hid (hB.out.grown hgrow hB.out.size (fun k hk => (hO.out.lt k hk).1))
      clear hown' hgrow
      go_wp2
      go_roundw
      case rel => exact ⟨k + 1, by simp, by omega, HO', HB'⟩
      case measure => simp [intOf]; omega
    · have : k = n := by omega
      subst this
      have hlt' : ¬ (k : Int) < (k : Int) := by omega
      have hcv := conv_own _ _ _ _ _ hO.out h0
      go_wp2
      go_ret
      exact ⟨rfl, hB.out⟩

def xs : Nat → List UInt8
  | 0 => []
  | n + 1 => xs n ++ [if n % 2 = 0 then 97 else 10]
theorem xs_len : ∀ n, (xs n).length = n
  | 0 => rfl
  | n + 1 => by simp [xs, xs_len n]
theorem xs_count : ∀ n, (xs n).count 10 = n / 2
  | 0 => rfl
  | n + 1 => by
    rw [xs, List.count_append, xs_count n]
    rcases Nat.mod_two_eq_zero_or_one n with h | h
    · simp [h]; omega
    · simp [h]; omega
theorem xs_nth : ∀ (n k : Nat), k ≤ n / 2 → nth (xs n) k = 2 * k
  | 0, k, h => by
    have : k = 0 := by omega
    subst this; rfl
  | n + 1, k, h => by
    by_cases hk : k ≤ n / 2
    · rw [xs, nth_cat_left _ _ _ (by rw [xs_count]; exact hk), xs_nth n k hk]
    · have h1 : n % 2 = 1 := by omega
      rw [xs, nth_cat_right _ _ _ (by rw [xs_count]; omega), xs_len, xs_count, if_neg (by omega), show k - n / 2 = 0 + 1 by omega, nth_hit, nth_zero]
      omega
theorem put_end (l t : List UInt8) : put l l.length l.length t = l ++ t := by
  unfold put; simp
theorem put_begin (l t : List UInt8) : put l 0 0 t = t ++ l := by
  unfold put; simp

/-- Depth: nought just of no bytes; and so many at most. -/
def Deep (l : List UInt8) (d : Nat) : Prop := (l = [] → d = 0) ∧ ∀ k, l.length < 2 ^ k → d ≤ 2 * k
theorem rp_depth (w : World) (b : Nat) (l : List UInt8) (h : Rp w b l) : Calls Try.prog 15 #[.pointer (some ⟨b, 0, none⟩)] w fun e w' => ∃ d : Nat, e = .returned (.int .i64 d) ∧ Deep l d ∧ Below w.heap.size w w' := by
  obtain ⟨o, h1, rfl⟩ := h
  have ho : OkO o := by obtain ⟨p, _, _, ho⟩ := h1; exact ho
  refine (depth_any w b o h1).mono ?_
  rintro e w' ⟨rfl, hb⟩
  refine ⟨depthO o, rfl, ?_, hb⟩
  cases o with
  | none => exact ⟨fun _ => rfl, fun k _ => Nat.zero_le _⟩
  | some t =>
    refine ⟨fun h => ?_, fun k hk => ?_⟩
    · have h' : t.text = [] := h
      have e := T.size_text t
      rw [h'] at e
      have := T.Ok.pos ho
      simp at e
      omega
    · have hk' : t.text.length < 2 ^ k := hk
      rw [T.size_text] at hk'
      exact T.Ok.lt ho hk'
theorem rp_replace_large (w : World) (b : Nat) (l : List UInt8) (a c : Int) (s : ByteArray) (h : Rp w b l) (hs : isSpan l.length a c = true) (hl : l.length ≤ 65536) (hz : s.size ≤ 1000000000) (hg : 65536 < (l.length : Int) - (c - a) + s.size) :
    Calls Try.prog 10 #[.pointer (some ⟨b, 0, none⟩), .agg #[.int .i64 a, .int .i64 c], .string s] w fun e w' => e = .returned (.tuple #[.pointer none, .int .i64 40]) ∧ Below w.heap.size w w' := by
  obtain ⟨o, h1, rfl⟩ := h; exact replace_large w b o a c s h1 hs hl hz hg
end Go.Proofs.Ytbmcgmnmmnileaa
