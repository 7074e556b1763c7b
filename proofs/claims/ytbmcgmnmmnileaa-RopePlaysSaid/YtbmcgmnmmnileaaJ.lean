/-
  split at any byte; the first and the last piece.
-/
import Derived.Test.YtbmcgmnmmnileaaI
import Derived.LoopTactic
namespace Go.Proofs.Ytbmcgmnmmnileaa
open Go.RowKit Go.Shelf

namespace T
/-- Is this byte between two pieces, or at an end? -/
def Bd : T → Nat → Prop
  | leaf s, k => k = 0 ∨ k = s.size
  | cat l r, k => (k ≤ l.size ∧ Bd l k) ∨ (l.size ≤ k ∧ Bd r (k - l.size))
def first : T → ByteArray
  | leaf s => s
  | cat l _ => l.first
def last : T → ByteArray
  | leaf s => s
  | cat _ r => r.last
theorem Bd.zero : ∀ t : T, t.Bd 0
  | leaf _ => .inl rfl
  | cat l _ => .inl ⟨Nat.zero_le _, Bd.zero l⟩
theorem Bd.full : ∀ t : T, t.Bd t.size
  | leaf _ => .inr rfl
  | cat l r => .inr ⟨by simp only [size]; omega, by simp only [size]; rw [Nat.add_sub_cancel_left]; exact Bd.full r⟩
theorem first_size : ∀ t : T, t.Ok → 0 < t.first.size ∧ t.first.size ≤ t.size
  | leaf s, h => ⟨h, Nat.le_refl _⟩
  | cat l r, h => by have := first_size l h.1; simp only [first, size]; omega
theorem last_size : ∀ t : T, t.Ok → 0 < t.last.size ∧ t.last.size ≤ t.size
  | leaf s, h => ⟨h, Nat.le_refl _⟩
  | cat l r, h => by have := last_size r h.2.1; simp only [last, size]; omega
theorem Bd.first : ∀ t : T, t.Ok → t.Bd t.first.size
  | leaf _, _ => .inr rfl
  | cat l _, h => .inl ⟨(first_size l h.1).2, Bd.first l h.1⟩
theorem Bd.last : ∀ t : T, t.Ok → t.Bd (t.size - t.last.size)
  | leaf s, _ => .inl (Nat.sub_self _)
  | cat l r, h => .inr ⟨by have := (last_size r h.2.1).2; simp only [size, T.last]; omega, by
      have h1 := (last_size r h.2.1).2
      have e : (cat l r).size - (cat l r).last.size - l.size = r.size - r.last.size := by simp only [size, T.last]; omega
      rw [e]; exact Bd.last r h.2.1⟩
theorem first_text : ∀ t : T, ∃ x, t.text = t.first.data.toList ++ x
  | leaf s => ⟨[], (List.append_nil _).symm⟩
  | cat l r => by
    obtain ⟨x, hx⟩ := first_text l
    exact ⟨x ++ r.text, by simp only [text, first, hx, List.append_assoc]⟩
theorem last_text : ∀ t : T, ∃ x, t.text = x ++ t.last.data.toList
  | leaf s => ⟨[], rfl⟩
  | cat l r => by
    obtain ⟨x, hx⟩ := last_text r
    exact ⟨l.text ++ x, by simp only [text, last, hx, List.append_assoc]⟩
end T

/-- split, of a tree that lies there. -/
theorem split_some : ∀ (t : T) (w : World) (b : Nat) (k : Nat), At w b t → t.Ok → k ≤ t.size → t.size ≤ 100000 →
    Calls Try.prog 29 #[.pointer (some ⟨b, 0, none⟩), .int .i64 k] w (Cuts w t.text k (t.Bd k))
  | .leaf s, w, b, k, hA, ho, hk, hs => by
    by_cases h0 : k = 0
    · subst h0
      exact split_zero w _ (some (.leaf s)) _ ⟨b, rfl, hA⟩ ho
    · by_cases h1 : k = s.size
      · subst h1
        exact split_full w b (.leaf s) _ hA ho
      · refine Calls.mono (split_leaf w b s k hA (by omega) (by have : k ≤ s.size := hk; omega)) ?_
        rintro e w' ⟨u, v, lo, ro, h, t, p1, p2, p3, p4, p5, p6, p7, _, p9⟩
        exact ⟨u, v, lo, ro, h, t, p1, p2, p3, p4, p5, p6, p7, fun q => by rcases q with q | q; exact absurd q h0; exact absurd q h1, p9⟩
  | .cat l r, w, b, k, hA, ho, hk, hs => by
    have pl := ho.1.pos
    by_cases h0 : k = 0
    · subst h0
      exact split_zero w _ (some (.cat l r)) _ ⟨b, rfl, hA⟩ ho
    · by_cases h1 : k = (T.cat l r).size
      · subst h1
        exact split_full w b (.cat l r) _ hA ho
      · have h2 : k < l.size + r.size := by have : k ≤ l.size + r.size := hk; have : k ≠ l.size + r.size := h1; omega
        have h3 : l.size + r.size ≤ 100000 := hs
        by_cases h4 : k ≤ l.size
        · refine Calls.mono (split_left w b l r k (l.Bd k) hA ho (by omega) h4 hs fun W bl hW => split_some l W bl k hW ho.1 h4 (by omega)) ?_
          rintro e w' ⟨u, v, lo, ro, h, t, p1, p2, p3, p4, p5, p6, p7, p8, p9⟩
          refine ⟨u, v, lo, ro, h, t, p1, p2, p3, p4, p5, p6, p7, fun q => p8 ?_, p9⟩
          rcases q with ⟨_, q⟩ | ⟨q1, q⟩
          · exact q
          · rw [show k = l.size by omega]; exact T.Bd.full l
        · refine Calls.mono (split_right w b l r k (r.Bd (k - l.size)) hA ho (by omega) h2 hs fun W br hW => split_some r W br (k - l.size) hW ho.2.1 (by omega) (by omega)) ?_
          rintro e w' ⟨u, v, lo, ro, h, t, p1, p2, p3, p4, p5, p6, p7, p8, p9⟩
          refine ⟨u, v, lo, ro, h, t, p1, p2, p3, p4, p5, p6, p7, fun q => p8 ?_, p9⟩
          rcases q with ⟨q1, q⟩ | ⟨_, q⟩
          · omega
          · exact q
def BdO : Option T → Nat → Prop
  | none, _ => True
  | some t, k => t.Bd k
/-- split, of a tree or nil. -/
theorem split_any (w : World) (v : Value) (o : Option T) (k : Nat) (hv : AtO w v o) (ho : OkO o) (hk : k ≤ (textO o).length) (hs : (textO o).length ≤ 100000) :
    Calls Try.prog 29 #[v, .int .i64 k] w (Cuts w (textO o) k (BdO o k)) := by
  cases o with
  | none =>
    have : k = 0 := Nat.le_zero.1 hk
    subst this
    exact split_zero w v none _ hv trivial
  | some t =>
    obtain ⟨b, rfl, hA⟩ := hv
    have e : (textO (some t)).length = t.size := T.size_text t
    rw [e] at hk hs
    exact split_some t w b k hA ho hk hs

theorem At.det {w : World} : ∀ {t u : T} {b : Nat}, At w b t → At w b u → t = u
  | .leaf s, .leaf s', b, h, h' => by
    have e := h.leaf.1.symm.trans h'.leaf.1
    injection e with e; injection e with e
    rw [e]
  | .leaf s, .cat l r, b, h, h' => by
    obtain ⟨bl, br, _, c4, _⟩ := h'.cat
    have e := h.leaf.2.1.symm.trans c4
    injection e with e; injection e with e
    exact absurd e (by simp)
  | .cat l r, .leaf s, b, h, h' => by
    obtain ⟨bl, br, _, c4, _⟩ := h.cat
    have e := h'.leaf.2.1.symm.trans c4
    injection e with e; injection e with e
    exact absurd e (by simp)
  | .cat l r, .cat l' r', b, h, h' => by
    obtain ⟨bl, br, _, c4, c5, hl, hr⟩ := h.cat
    obtain ⟨bl', br', _, c4', c5', hl', hr'⟩ := h'.cat
    have e := c4.symm.trans c4'
    injection e with e; injection e with e; injection e with e; injection e with e
    subst e
    have e := c5.symm.trans c5'
    injection e with e; injection e with e; injection e with e; injection e with e
    subst e
    rw [At.det hl hl', At.det hr hr']
open Classical in
noncomputable def deepAt (w : World) (v : Value) : Nat := if h : ∃ t b, v = .pointer (some ⟨b, 0, none⟩) ∧ At w b t then h.choose.depth else 0
theorem deepAt_eq {w : World} {b : Nat} {t : T} (h : At w b t) : deepAt w (.pointer (some ⟨b, 0, none⟩)) = t.depth := by
  have hx : ∃ t c, Value.pointer (some ⟨b, 0, none⟩) = .pointer (some ⟨c, 0, none⟩) ∧ At w c t := ⟨t, b, rfl, h⟩
  unfold deepAt
  rw [dif_pos hx]
  obtain ⟨c, e, hc⟩ := hx.choose_spec
  injection e with e; injection e with e; injection e with e
  subst e
  rw [At.det hc h]

set_option maxRecDepth 100000 in
theorem first_some (t : T) (w : World) (b : Nat) (hA : At w b t) : Calls Try.prog 44 #[.pointer (some ⟨b, 0, none⟩)] w fun e w' => e = .returned (.string t.first) ∧ w = w' := by
  have H : Hid (At w b t) := Lib.hid hA
  obtain ⟨R, hR⟩ : ∃ R, t.first = R := ⟨_, rfl⟩
  rw [hR]
  have HR := Lib.hid hR
  clear hA hR
  go_enter Try.func44, Try.ntmps44
  go_wp2
  go_loop [0] (fun v => ∃ u c, v = .pointer (some ⟨c, 0, none⟩) ∧ Hid (At w c u) ∧ Hid (u.first = R)) (fun v => deepAt w v)
  case atStart => exact ⟨t, b, rfl, H, HR⟩
  case round =>
    obtain ⟨u, c, rfl, hu, hr⟩ := hrel
    cases u with
    | leaf s =>
      have hp := isPiece_leaf w c s hu.out
      obtain ⟨c3, c4, c5⟩ := hu.out.leaf
      go_wp2_with fail
      refine hp.mono ?_
      rintro e w1 ⟨rfl, rfl⟩
      clear hp
      go_wp2
      go_ret
      exact ⟨by rw [← hr.out]; rfl, rfl⟩
    | cat l r =>
      have hp := isPiece_cat w c l r hu.out
      obtain ⟨bl, br, c3, c4, c5, hl, hrr⟩ := hu.out.cat
      have hm1 := deepAt_eq hu.out
      have hm2 := deepAt_eq hl
      have HL := Lib.hid hl
      clear hl hrr
      go_wp2_with fail
      refine hp.mono ?_
      rintro e w1 ⟨rfl, rfl⟩
      clear hp
      go_wp2
      exact ⟨⟨l, bl, rfl, HL, hr⟩, by rw [hm1, hm2]; simp only [T.depth]; omega⟩
set_option maxRecDepth 100000 in
theorem last_some (t : T) (w : World) (b : Nat) (hA : At w b t) : Calls Try.prog 43 #[.pointer (some ⟨b, 0, none⟩)] w fun e w' => e = .returned (.string t.last) ∧ w = w' := by
  have H : Hid (At w b t) := Lib.hid hA
  obtain ⟨R, hR⟩ : ∃ R, t.last = R := ⟨_, rfl⟩
  rw [hR]
  have HR := Lib.hid hR
  clear hA hR
  go_enter Try.func43, Try.ntmps43
  go_wp2
  go_loop [0] (fun v => ∃ u c, v = .pointer (some ⟨c, 0, none⟩) ∧ Hid (At w c u) ∧ Hid (u.last = R)) (fun v => deepAt w v)
  case atStart => exact ⟨t, b, rfl, H, HR⟩
  case round =>
    obtain ⟨u, c, rfl, hu, hr⟩ := hrel
    cases u with
    | leaf s =>
      have hp := isPiece_leaf w c s hu.out
      obtain ⟨c3, c4, c5⟩ := hu.out.leaf
      go_wp2_with fail
      refine hp.mono ?_
      rintro e w1 ⟨rfl, rfl⟩
      clear hp
      go_wp2
      go_ret
      exact ⟨by rw [← hr.out]; rfl, rfl⟩
    | cat l r =>
      have hp := isPiece_cat w c l r hu.out
      obtain ⟨bl, br, c3, c4, c5, hl, hrr⟩ := hu.out.cat
      have hm1 := deepAt_eq hu.out
      have hm2 := deepAt_eq hrr
      have HL := Lib.hid hrr
      clear hl hrr
      go_wp2_with fail
      refine hp.mono ?_
      rintro e w1 ⟨rfl, rfl⟩
      clear hp
      go_wp2
      exact ⟨⟨r, br, rfl, HL, hr⟩, by rw [hm1, hm2]; simp only [T.depth]; omega⟩

def firstO : Option T → ByteArray
  | none => ⟨#[]⟩
  | some t => t.first
def lastO : Option T → ByteArray
  | none => ⟨#[]⟩
  | some t => t.last
theorem first_none (w : World) : Calls Try.prog 44 #[.pointer none] w fun e w' => e = .returned (.string ⟨#[]⟩) ∧ w = w' := by
  go_enter Try.func44, Try.ntmps44
  go_wp2
  go_ret
  exact ⟨rfl, rfl⟩
theorem last_none (w : World) : Calls Try.prog 43 #[.pointer none] w fun e w' => e = .returned (.string ⟨#[]⟩) ∧ w = w' := by
  go_enter Try.func43, Try.ntmps43
  go_wp2
  go_ret
  exact ⟨rfl, rfl⟩
theorem first_any (w : World) (v : Value) (o : Option T) (hv : AtO w v o) : Calls Try.prog 44 #[v] w fun e w' => e = .returned (.string (firstO o)) ∧ w = w' := by
  cases o with
  | none => have hv' : v = .pointer none := hv; subst hv'; exact first_none w
  | some t => obtain ⟨b, rfl, hA⟩ := hv; exact first_some t w b hA
theorem last_any (w : World) (v : Value) (o : Option T) (hv : AtO w v o) : Calls Try.prog 43 #[v] w fun e w' => e = .returned (.string (lastO o)) ∧ w = w' := by
  cases o with
  | none => have hv' : v = .pointer none := hv; subst hv'; exact last_none w
  | some t => obtain ⟨b, rfl, hA⟩ := hv; exact last_some t w b hA

/-- How many bytes the last piece has that build makes. -/
def lastN (n : Nat) : Nat := if n = 0 then 0 else (n - 1) % 256 + 1
theorem lastSize_any (s : ByteArray) (w : World) (hs : s.size ≤ 1000000) : Calls Try.prog 45 #[.string s] w fun e w' => e = .returned (.int .i64 (lastN s.size : Nat)) ∧ w = w' := by
  by_cases h0 : s.size = 0
  · have he := isEmpty_yes h0
    have H := Lib.hid h0
    clear h0
    go_enter Try.func45, Try.ntmps45
    go_wp2
    go_ret
    exact ⟨by rw [H.out]; rfl, rfl⟩
  · have he := isEmpty_no (s := s) (by omega)
    have hl : ((lastN s.size : Nat) : Int) = ((s.size : Int) - 1) % 256 + 1 := by unfold lastN; rw [if_neg h0]; omega
    rw [hl]
    go_enter Try.func45, Try.ntmps45
    go_wp2
    go_ret
    exact ⟨rfl, rfl⟩
end Go.Proofs.Ytbmcgmnmmnileaa
