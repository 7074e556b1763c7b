/-
  The worth's own methods: integer, text, sign, top; the tables that are laid.
-/
import Derived.Test.YtgcpgieojckheaaGreatDoorK
import Derived.Test.YtgcpgieojckheaaGreatDoorShelf2
import Derived.Lib.SmallJoins
import Derived.Lib.AppendIntMem
namespace Go.Proofs.YtgcpgieojckheaaGreatDoor
open Go.RowKit Go.Shelf

/-- What the program's own variables hold: the table of powers, and errors. -/
def Tab (w : World) : Prop := Lib.TabIs Tryz.prog w "internal/strconv.uint64pow10" .u64 Lib.pow10Tab ∧ ∃ ev, w.cell? ⟨1, 0, none⟩ = some ev ∧ (ev = .nilIface ∨ ∃ te pe, ev = .iface te pe)
theorem pow_global : ∃ g, Tryz.prog.globalNamed "internal/strconv.uint64pow10" = some g := Option.isSome_iff_exists.1 (show (Tryz.prog.globalNamed "internal/strconv.uint64pow10").isSome = true by kernel_rfl)
theorem Tab.below {w w' : World} (h : Tab w) (hb : Below w.heap.size w w') : Tab w' := by
  obtain ⟨g, hg⟩ := pow_global
  obtain ⟨h1, ev, h2, h3⟩ := h
  exact ⟨Go.Joins.tab_stays hg h1 hb (Nat.le_refl _), ev, (hb.cell (p := ⟨1, 0, none⟩) (World.block_lt_of_cell? w _ h2)).trans h2, h3⟩
theorem of_list {s : ByteArray} {l : List UInt8} (h : s.data.toList = l) : s = ⟨l.toArray⟩ := by rw [← h]
theorem app_list (a b : ByteArray) : (a ++ b).data.toList = a.data.toList ++ b.data.toList := by rw [ByteArray.data_append, Array.toList_append]
theorem clone_any (s : ByteArray) (w : World) (hs : s.size ≤ 1000000000) :
    Calls Tryz.prog 82 #[.string s] w fun e w' => e = .returned (.string s) ∧ Below w.heap.size w w' := by
  go_enter Tryz.func82, Tryz.ntmps82
  go_wp2_with fail
  refine (Tryz.stringslite_Clone s w (by omega)).mono ?_
  rintro e w' ⟨rfl, hb⟩
  go_wp2
  go_ret
  exact ⟨rfl, hb⟩
def sgn (neg : Bool) : List UInt8 := if neg then [45] else []
theorem integer_any (neg : Bool) (t : ByteArray) (x : Int) (w : World) (hs : t.size ≤ 1000000000) :
    Calls Tryz.prog 49 #[.agg #[.bool neg, .string t, .int .i64 x]] w fun e w' => e = .returned (bl (sgn neg ++ t.data.toList)) ∧ Below w.heap.size w w' := by
  cases neg with
  | true =>
    have HE : Hid (Value.string ((⟨#[45]⟩ : ByteArray) ++ t) = bl (sgn true ++ t.data.toList)) := Lib.hid (by
      unfold bl sgn; rw [of_list (app_list ⟨#[45]⟩ t)]; rfl)
    go_enter Tryz.func49, Tryz.ntmps49
    go_wp2
    go_ret
    exact ⟨by rw [← HE.out]; rfl, galloc (Below.refl _ _) _⟩
  | false =>
    have HE : Hid (Value.string t = bl (sgn false ++ t.data.toList)) := Lib.hid (by unfold bl sgn; rfl)
    have hc := fun W => clone_any t W hs
    go_enter Tryz.func49, Tryz.ntmps49
    go_wp2_with fail
    refine (hc _).mono ?_
    rintro e w1 ⟨rfl, hb⟩
    have HB := Lib.hid hb
    clear hb hc
    go_wp2
    go_ret
    exact ⟨by rw [← HE.out]; rfl, gcall (galloc (Below.refl _ _) _) HB.out⟩
theorem text_digits {n : Num} (hc : Canon n) : textD n = [48] ↔ n.digits = [] := by
  unfold textD
  by_cases h : n.digits = []
  · rw [if_pos h]; simp [h]
  · rw [if_neg h]
    constructor
    · intro e; exact absurd (by rw [e]; rfl) hc.first
    · intro e; exact absurd e h
theorem sign_any (n : Num) (w : World) (hc : Canon n) :
    Calls Tryz.prog 89 #[numV n] w fun e w' => e = .returned (.int .i64 (signN n)) ∧ Below w.heap.size w w' := by
  obtain ⟨T, hT⟩ : ∃ t : ByteArray, (⟨(textD n).toArray⟩ : ByteArray) = t := ⟨_, rfl⟩
  have eT : T.toList = textD n := by rw [Lib.toList_data, ← hT]
  have hV : numV n = .agg #[.bool n.neg, .string T, .int .i64 n.exp] := by unfold numV bl; rw [hT]
  rw [hV]
  have hd := text_digits hc
  clear hV hT hc
  by_cases h0 : n.digits = []
  · have HS : Hid (signN n = 0) := Lib.hid (by unfold signN; rw [if_pos h0])
    have h1 : (T.toList == [48]) = true := by rw [eT, hd.2 h0]; rfl
    clear eT hd h0
    go_enter Tryz.func89, Tryz.ntmps89
    go_wp2
    go_ret
    exact ⟨by rw [HS.out]; rfl, galloc (Below.refl _ _) _⟩
  · have h1 : (T.toList == [48]) = false := by
      rw [eT]
      cases hx : (textD n == [48]) with
      | false => rfl
      | true => exact absurd (hd.1 (by simpa using hx)) h0
    have HS : Hid (signN n = if n.neg then -1 else 1) := Lib.hid (by unfold signN; rw [if_neg h0])
    clear eT hd h0
    cases hn : n.neg with
    | true =>
      rw [hn] at HS
      clear hn
      go_enter Tryz.func89, Tryz.ntmps89
      go_wp2
      go_ret
      exact ⟨by rw [HS.out]; rfl, galloc (Below.refl _ _) _⟩
    | false =>
      rw [hn] at HS
      clear hn
      go_enter Tryz.func89, Tryz.ntmps89
      go_wp2
      go_ret
      exact ⟨by rw [HS.out]; rfl, galloc (Below.refl _ _) _⟩
theorem top_any (neg : Bool) (t : ByteArray) (x : Int) (w : World) (hs : t.size ≤ 1000000000) (h1 : -10000 ≤ x) (h2 : x ≤ 10000) :
    Calls Tryz.prog 136 #[.agg #[.bool neg, .string t, .int .i64 x]] w fun e w' => e = .returned (.int .i64 (x + t.size)) ∧ Below w.heap.size w w' := by
  have hw : IntKind.i64.wrap (x + t.size) = x + t.size := IntWalk.i64_in _ (by omega)
  go_enter Tryz.func136, Tryz.ntmps136
  go_wp2
  go_ret
  exact ⟨rfl, galloc (Below.refl _ _) _⟩
theorem isNaN64 (x : Int) (w : World) : Calls Tryz.prog 178 #[.int .i64 x] w fun e w' => e = .returned (.bool false) ∧ w = w' := by
  have h : (x == x) = true := by simp
  have h' : (x != x) = false := by simp
  go_enter Tryz.func178, Tryz.ntmps178
  go_wp2
  go_ret
  exact ⟨rfl, rfl⟩
theorem compare64 (x y : Int) (w : World) : Calls Tryz.prog 137 #[.int .i64 x, .int .i64 y] w fun e w' => e = .returned (.int .i64 (cmpI x y)) ∧ w = w' := by
  have HC : Hid (cmpI x y = if x < y then -1 else if y < x then 1 else 0) := Lib.hid rfl
  go_enter Tryz.func137, Tryz.ntmps137
  go_wp2_with (go_at_call 178; refine (isNaN64 _ _).mono ?_; rintro e w1 ⟨rfl, rfl⟩)
  all_goals (go_ret; refine ⟨?_, rfl⟩; rw [HC.out]; (repeat' split) <;> first | rfl | (exfalso; omega))
end Go.Proofs.YtgcpgieojckheaaGreatDoor
