/-
  kinds, works.
-/
import Derived.Test.YtaofpefmniadiaaDoorM
namespace Go.Proofs.YtaofpefmniadiaaDoor
open Go.RowKit

def letters : List UInt8 := [63, 98, 114, 119, 110, 105, 102, 116, 115, 33]
def kindL (E : List Tok) : List UInt8 := E.map fun t => letters.getD t.1 0
def kindS (l : List UInt8) : List UInt8 := if tokE l = 0 then kindL (toks l) else [63]
theorem nameK_le (l : List UInt8) : nameK l ≤ 9 := by unfold nameK; split; omega; split <;> omega
theorem quo_kind : ∀ (l : List UInt8) (st : Nat), (quo st l).1 ≤ 9
  | [], st => by rw [quo_nil]; exact Nat.le_refl _
  | c :: r, st => by
    have sh : ∀ st, (addN (quo st r)).1 ≤ 9 := fun st => quo_kind r st
    match st with
    | 0 => rw [quo_zero]; repeat' split
           all_goals first | exact sh _ | decide
    | 1 => rw [quo_one]; repeat' split
           all_goals first | exact sh _ | decide
    | st + 2 =>
      have e : quo (st + 2) (c :: r) = if c == 34 then (9, 1) else if c == 10 then (9, 0) else addN (quo 2 r) := rfl
      rw [e]; repeat' split
      all_goals first | exact sh _ | decide
theorem num_kind (l : List UInt8) : (num l).1 ≤ 9 := by
  rw [num_eq]; split
  · show (if _ then 6 else 9) ≤ 9; split <;> decide
  · exact (by decide : 5 ≤ 9)
theorem cut_kind (l : List UInt8) : (cut l).1 ≤ 9 := by
  cases l with
  | nil => exact Nat.zero_le _
  | cons c r =>
    show (cutC c r).1 ≤ 9
    unfold cutC
    split
    · exact (by decide : 1 ≤ 9)
    split
    · show (if _ then 2 else 9) ≤ 9; split <;> decide
    split
    · exact nameK_le _
    split
    · exact num_kind _
    split
    · exact quo_kind _ _
    split
    · exact (by decide : 8 ≤ 9)
    split
    · exact (by decide : 8 ≤ 9)
    · exact (by decide : 9 ≤ 9)
theorem toks_kind (l : List UInt8) : ∀ t ∈ toks l, t.1 ≤ 9 := by
  induction l using toks_ind with
  | h0 => intro t h; simp [toks_nil] at h
  | h1 l hl ih =>
    intro t h
    rw [toks_cons l hl, List.mem_cons] at h
    rcases h with rfl | h
    · exact cut_kind l
    · exact ih t h
theorem kind_step {E : List Tok} {i : Nat} {t : Tok} (h : E[i]? = some t) : kindL (E.take (i + 1)) = kindL (E.take i) ++ [letters.getD t.1 0] := by
  have hi : i < E.length := (List.getElem?_eq_some_iff.1 h).1
  unfold kindL
  rw [List.take_succ_eq_append_getElem hi, List.map_append, (List.getElem?_eq_some_iff.1 h).2]; rfl
def lettersB : ByteArray := ⟨#[63, 98, 114, 119, 110, 105, 102, 116, 115, 33]⟩
theorem letter_at (k : Nat) (h : k ≤ 9) : (lettersB.extract k (k + 1)).data.toList = [letters.getD k 0] := by
  rcases (by omega : k = 0 ∨ k = 1 ∨ k = 2 ∨ k = 3 ∨ k = 4 ∨ k = 5 ∨ k = 6 ∨ k = 7 ∨ k = 8 ∨ k = 9) with rfl | rfl | rfl | rfl | rfl | rfl | rfl | rfl | rfl | rfl <;> rfl
def KindEnd (l : List UInt8) (w : World) (e : Ending) (w' : World) : Prop := e = .returned (bl l) ∧ Below w.heap.size w w'
set_option maxRecDepth 100000 in
set_option maxHeartbeats 8000000 in
theorem kinds_any (s : ByteArray) (w : World) (hz : s.size ≤ 1000000) (hE : Env w) : Calls Tryd.prog 8 #[.string s] w (KindEnd (kindS s.data.toList) w) := by
  have hc := tokens_any s w hz hE
  have hS : kindS s.data.toList = if tokE s.data.toList = 0 then kindL (toks s.data.toList) else [63] := rfl
  have hL : tokL s.data.toList = if tokE s.data.toList = 0 then toks s.data.toList else [] := rfl
  have hkk := toks_kind s.data.toList
  have hfew : (toks s.data.toList).length ≤ 1000000 := by have := toks_len s.data.toList; rw [← Lib.size_eq] at this; omega
  generalize kindS s.data.toList = R at *
  generalize tokE s.data.toList = K at *
  generalize tokL s.data.toList = E1 at *
  generalize toks s.data.toList = E at *
  by_cases h0 : K = 0
  · subst h0
    rw [if_pos rfl] at hS hL
    subst hL
    have HS := Lib.hid hS
    have HK := Lib.hid hkk
    clear hS hkk hE
    go_enter Tryd.func8, Tryd.ntmps8
    go_wp2_with fail
    refine hc.mono ?_
    rintro e w1 ⟨v, rfl, hTk, hb⟩
    obtain ⟨po, co, rfl⟩ := owns_shape hTk
    have HT := Lib.hid hTk
    have HB := Lib.hid hb
    clear hTk hb hc
    go_wp2_with fail
    go_loop [5, 6, 7] (fun o i _ => ∃ (O : ByteArray) (k : Nat), o = .string O ∧ i = .int .i64 k ∧ k ≤ E1.length ∧ Hid (O.data.toList = kindL (E1.take k))) (fun _ i _ => E1.length - (intOf i).toNat)
    case atStart => exact ⟨⟨#[]⟩, 0, rfl, rfl, Nat.zero_le _, Lib.hid rfl⟩
    case round =>
      obtain ⟨O, k, rfl, rfl, hk, HO⟩ := hrel
      by_cases hlt : k < E1.length
      · have hlt' : (k : Int) < (E1.length : Int) := by omega
        have hgt : E1[k]? = some E1[k] := List.getElem?_eq_getElem hlt
        obtain ⟨g, cap, he, q0, q1⟩ := tok_at HT.out hgt
        injection he with he1 _ he2
        subst he1
        subst he2
        have HSt := Lib.hid (kind_step hgt)
        have hk9 := HK.out _ (List.getElem_mem hlt)
        generalize E1[k] = t at *
        obtain ⟨c, tt⟩ := t
        have q0' : w1.cell? ⟨g, k * 2, none⟩ = some (.int .u8 c) := q0
        have hc9 : c ≤ 9 := hk9
        have hc9' : (c : Int) ≤ 9 := by omega
        have hOz : O.size ≤ 1000000 := by rw [Lib.size_eq, HO.out]; unfold kindL; rw [List.length_map, List.length_take]; omega
        have hla := Lib.hid (letter_at c hc9)
        have w1' : IntKind.i64.wrap ((k : Int) + 1) = ((k + 1 : Nat) : Int) := by rw [IntWalk.i64_in _ (by omega)]; omega
        have w2' : IntKind.i64.wrap ((c : Int) + 1) = ((c + 1 : Nat) : Int) := by rw [IntWalk.i64_in _ (by omega)]; omega
        have w3' : IntKind.i64.wrap (c : Int) = (c : Int) := IntWalk.i64_in _ (by omega)
        clear hgt q0 q1 hk9
        have hz1 : (lettersB.extract c (c + 1)).size = 1 := by rw [Lib.size_eq, hla.out]; rfl
        have hsz : ¬ 9223372036854775807 < O.size + (lettersB.extract c (c + 1)).size := by omega
        have HN : Hid ((O ++ lettersB.extract c (c + 1)).data.toList = kindL (E1.take (k + 1))) := Lib.hid (by rw [HSt.out, Utf.data_append, hla.out, HO.out])
        go_wp2_with fail
        go_round
        case rel => exact ⟨O ++ lettersB.extract c (c + 1), k + 1, rfl, rfl, by omega, HN⟩
        case measure => simp [intOf]; omega
      · have hke : k = E1.length := by omega
        have hlt' : ¬ (k : Int) < (E1.length : Int) := by omega
        have HR : Hid (Value.string O = bl R) := Lib.hid (by
          have h := HO.out
          rw [hke, List.take_length, ← HS.out] at h
          rw [ba_of O h]; rfl)
        clear hke
        go_wp2_with fail
        go_ret
        exact ⟨by rw [← HR.out]; rfl, HB.out⟩
  · rw [if_neg h0] at hS hL
    subst hL
    have HS := Lib.hid hS
    have q : ((K : Int) != 0) = true := by rw [bne_iff_ne]; exact h0
    clear hS hkk hE h0
    go_enter Tryd.func8, Tryd.ntmps8
    go_wp2_with fail
    refine hc.mono ?_
    rintro e w1 ⟨v, rfl, hTk, hb⟩
    have HB := Lib.hid hb
    clear hTk hb hc
    go_wp2_with fail
    go_ret
    exact ⟨by rw [HS.out]; rfl, HB.out⟩
/-! ### the examples -/
theorem kinds_lit (s : ByteArray) (l : List UInt8) (w : World) (hz : s.size ≤ 1000000) (hE : Env w) (h : kindS s.data.toList = l) : Calls Tryd.prog 8 #[.string s] w (KindEnd l w) := h ▸ kinds_any s w hz hE
def wx1 : List UInt8 := [108, 101, 116, 32, 120, 39, 32, 61, 32, 49, 46, 53, 101, 51, 32, 43, 46, 32, 95, 121, 32, 40, 42, 32, 97, 32, 40, 42, 32, 98, 32, 42, 41, 32, 42, 41]
theorem wk1 : kindS wx1 = [119, 98, 110, 98, 115, 98, 102, 98, 115, 98, 110, 98, 114] := by decide +kernel
theorem wk2 : kindS [34, 97, 92, 110, 34, 32] = [116, 98] := by decide +kernel
theorem wk3 : kindS [34, 97, 92, 113, 34, 32, 98, 34] = [33, 98, 110, 33] := by decide +kernel
theorem wk4 : kindS [34, 97, 10] = [33, 98] := by decide +kernel
def StrEnd (x : ByteArray) (w : World) (e : Ending) (w' : World) : Prop := e = .returned (.string x) ∧ Below w.heap.size w w'
theorem kl1 (w : World) (hE : Env w) : Calls Tryd.prog 8 #[.string ⟨#[108, 101, 116, 32, 120, 39, 32, 61, 32, 49, 46, 53, 101, 51, 32, 43, 46, 32, 95, 121, 32, 40, 42, 32, 97, 32, 40, 42, 32, 98, 32, 42, 41, 32, 42, 41]⟩] w (StrEnd ⟨#[119, 98, 110, 98, 115, 98, 102, 98, 115, 98, 110, 98, 114]⟩ w) := kinds_lit ⟨#[108, 101, 116, 32, 120, 39, 32, 61, 32, 49, 46, 53, 101, 51, 32, 43, 46, 32, 95, 121, 32, 40, 42, 32, 97, 32, 40, 42, 32, 98, 32, 42, 41, 32, 42, 41]⟩ _ w (by decide) hE wk1
theorem kl2 (w : World) (hE : Env w) : Calls Tryd.prog 8 #[.string ⟨#[34, 97, 92, 110, 34, 32]⟩] w (StrEnd ⟨#[116, 98]⟩ w) := kinds_lit ⟨#[34, 97, 92, 110, 34, 32]⟩ _ w (by decide) hE wk2
theorem kl3 (w : World) (hE : Env w) : Calls Tryd.prog 8 #[.string ⟨#[34, 97, 92, 113, 34, 32, 98, 34]⟩] w (StrEnd ⟨#[33, 98, 110, 33]⟩ w) := kinds_lit ⟨#[34, 97, 92, 113, 34, 32, 98, 34]⟩ _ w (by decide) hE wk3
theorem kl4 (w : World) (hE : Env w) : Calls Tryd.prog 8 #[.string ⟨#[34, 97, 10]⟩] w (StrEnd ⟨#[33, 98]⟩ w) := kinds_lit ⟨#[34, 97, 10]⟩ _ w (by decide) hE wk4
def WorksEnd (w : World) (e : Ending) (w' : World) : Prop := e = .returned (.bool true) ∧ Below w.heap.size w w'
set_option maxRecDepth 100000 in
set_option maxHeartbeats 4000000 in
theorem works_any (w : World) (hE : Env w) : Calls Tryd.prog 7 #[] w (WorksEnd w) := by
  have HE := Lib.hid hE
  clear hE
  go_enter Tryd.func7, Tryd.ntmps7
  go_wp2_with fail
  with_reducible refine (kl1 w HE.out).mono ?_
  rintro e w1 ⟨rfl, hb1⟩
  have HB1 := Lib.hid hb1
  clear hb1
  go_wp2_with fail
  with_reducible refine (kl2 w1 (HE.out.below HB1.out HE.out.size)).mono ?_
  rintro e w2 ⟨rfl, hb2⟩
  have HB2 := Lib.hid (HB1.out.trans (hb2.mono HB1.out.size))
  clear hb2
  go_wp2_with fail
  with_reducible refine (kl3 w2 (HE.out.below HB2.out HE.out.size)).mono ?_
  rintro e w3 ⟨rfl, hb3⟩
  have HB3 := Lib.hid (HB2.out.trans (hb3.mono HB2.out.size))
  clear hb3
  go_wp2_with fail
  with_reducible refine (kl4 w3 (HE.out.below HB3.out HE.out.size)).mono ?_
  rintro e w4 ⟨rfl, hb4⟩
  have HB4 := Lib.hid (HB3.out.trans (hb4.mono HB3.out.size))
  clear hb4
  go_wp2_with fail
  go_ret
  exact ⟨rfl, HB4.out⟩
end Go.Proofs.YtaofpefmniadiaaDoor
