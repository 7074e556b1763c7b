/-
  divide: a text's tokens in memory.
-/
import Derived.Test.YtfedmhccbfhcbaaGreatDoorK
import Derived.Laws.AppendOwn
import Derived.Deep.AppendLies
namespace Go.Proofs.YtfedmhccbfhcbaaGreatDoor
open Go.RowKit

def tokC (t : Tok) : List Value := [.int .u8 t.1, bl t.2]
/-- A row of tokens in blocks from B on. -/
def ToksAt (B : Nat) (w : World) (v : Value) (E : List Tok) : Prop := w.ownsRow B 39 2 v E.length (E.flatMap tokC)
theorem und26 : Tryz.prog.underlying 30 = some (.slice 39) := by kernel_rfl
theorem info32 : (Tryz.prog.info? 39).map (fun i => (i.zero, i.size, i.bytes)) = some (some (.agg #[.int .u8 0, .string ⟨#[]⟩]), 2, 24) := by kernel_rfl
theorem galloc2 {w0 w : World} {n : Nat} (h : Below n w0 w) (hn : n ≤ w.heap.size) (o : Obj) : Below n w0 (w.alloc o) := Below.alloc h hn o
theorem owns_below {B e size n : Nat} {v : Value} {xs : List Value} {w w' : World} (h : w.ownsRow B e size v n xs) (hb : Below w.heap.size w w') : w'.ownsRow B e size v n xs := by
  obtain ⟨h1, h2⟩ := h
  refine ⟨h1, ?_⟩
  rcases h2 with h2 | ⟨g, cap, cur, h3, h4, h5, h6, h7, h8, h9⟩
  · exact .inl h2
  · exact .inr ⟨g, cap, cur, h3, h4, (hb.block g (Array.getElem?_eq_some_iff.1 h5).1).trans h5, h6, h7, h8, h9⟩
theorem owns_shape {B e size n : Nat} {v : Value} {xs : List Value} {w : World} (h : w.ownsRow B e size v n xs) : ∃ p cap, v = .slice p n cap := by
  rcases h.2 with ⟨rfl, rfl⟩ | ⟨g, cap, cur, rfl, _⟩
  · exact ⟨_, _, rfl⟩
  · exact ⟨_, _, rfl⟩
theorem owns_base {B B' e size n : Nat} {v : Value} {xs : List Value} {w : World} (h : w.ownsRow B e size v n xs) (hB : B' ≤ B) : w.ownsRow B' e size v n xs := by
  obtain ⟨h1, h2⟩ := h
  refine ⟨h1, ?_⟩
  rcases h2 with h2 | ⟨g, cap, cur, h3, h4, h5, h6, h7, h8, h9⟩
  · exact .inl h2
  · exact .inr ⟨g, cap, cur, h3, Nat.le_trans hB h4, h5, h6, h7, h8, h9⟩
theorem ToksAt.below {B : Nat} {v : Value} {E : List Tok} {w w' : World} (h : ToksAt B w v E) (hb : Below w.heap.size w w') : ToksAt B w' v E := owns_below h hb
theorem toks_snoc {EV : List Tok} {X : List UInt8} {E : List Tok} (h : EV = E ++ toks X) (hX : X ≠ []) : EV = (E ++ [((cut X).1, X.take (cut X).2)]) ++ toks (X.drop (cut X).2) := by
  rw [h, toks_cons X hX, List.append_assoc]; rfl
def strLen : Value → Nat
  | .string t => t.size
  | _ => 0
def DivEnd (E : List Tok) (w : World) (e : Ending) (w' : World) : Prop := ∃ v, e = .returned v ∧ ToksAt w.heap.size w' v E ∧ Below w.heap.size w w'
theorem tok_cell {k : Nat} {X : ByteArray} {n : Nat} : ([.int .u8 k, .string (X.extract 0 n)] : List Value) = tokC (k, X.data.toList.take n) := by
  unfold tokC bl
  rw [ba_of (X.extract 0 n) (l := X.data.toList.take n) (by rw [Utf.extract_list, List.drop_zero])]
set_option maxRecDepth 100000 in
set_option maxHeartbeats 8000000 in
theorem divide_any (s : ByteArray) (w : World) (hz : s.size ≤ 1000000) (hE : Env w) : Calls Tryz.prog 39 #[.string s] w (DivEnd (toks s.data.toList) w) := by
  obtain ⟨i32, hi9, hz0, hz1, hz2⟩ := info_parts info32
  obtain ⟨EV, hEV⟩ : ∃ EV, toks s.data.toList = EV := ⟨_, rfl⟩
  have hfew : EV.length ≤ 1000000 := by rw [← hEV]; have := toks_len s.data.toList; rw [← Lib.size_eq] at this; omega
  have H0 : Hid (EV = [] ++ toks s.data.toList) := Lib.hid hEV.symm
  rw [hEV]
  clear hEV
  have HE := Lib.hid hE
  clear hE
  go_enter Tryz.func39, Tryz.ntmps39
  go_wp2_with fail
  refine (rows_any w).mono ?_
  rintro e w1 ⟨T, rfl, hT, hTl, hb1⟩
  have HT := Lib.hid hT
  have HB1 := Lib.hid hb1
  have HE1 := Lib.hid (HE.out.below hb1 HE.out.size)
  clear hT hTl hb1
  go_wp2_with fail
  go_loopw [0, 3] (fun v ov wr => ∃ (X : ByteArray) (E : List Tok), v = .string X ∧ X.size ≤ s.size ∧ Hid (EV = E ++ toks X.data.toList) ∧ Hid (ToksAt w1.heap.size wr ov E) ∧ Hid (Below w1.heap.size w1 wr)) (fun v _ _ => strLen v)
  case atStart => exact ⟨s, [], rfl, Nat.le_refl _, H0, Lib.hid (World.ownsRow_nil _ _ _ _), Lib.hid (Below.refl _ _)⟩
  case round =>
    obtain ⟨X, E, rfl, hX, HV, HO, HB⟩ := hrel
    obtain ⟨po, co, rfl⟩ := owns_shape HO.out
    by_cases h0 : 0 < X.size
    · have e0 := Utf.isEmpty_no h0
      have hne : X.data.toList ≠ [] := by intro x; rw [Lib.size_eq, x] at h0; simp at h0
      have HN := Lib.hid (toks_snoc HV.out hne)
      have hbd := cut_bd X.data.toList hne
      rw [← Lib.size_eq] at hbd
      have HTr := HT.out.below HB.out
      have HEr := HE1.out.below HB.out HE1.out.size
      have hc := next_any X T wr (by omega) h0 HTr HEr
      have HEl : Hid (E.length + 1 ≤ 1000000) := Lib.hid (by have := congrArg List.length HN.out; rw [List.length_append, List.length_append] at this; simp only [List.length_cons, List.length_nil] at this; omega)
      generalize cut X.data.toList = C at hc HN hbd
      obtain ⟨k, n⟩ := C
      have hn0 : 0 < n := hbd.1
      have hnX : n ≤ X.size := hbd.2
      have hnX' : (n : Int) ≤ (X.size : Int) := by omega
      have hn0' : (0 : Int) ≤ (n : Int) := by omega
      have HZ : Hid ((X.extract n X.size).size < X.size) := Lib.hid (by rw [ext_size]; omega)
      have HN2 : Hid (EV = (E ++ [(k, X.data.toList.take n)]) ++ toks (X.extract n X.size).data.toList) := Lib.hid (by rw [ext_list]; exact HN.out)
      clear hbd HN HTr HEr
      go_wp2_with fail
      refine hc.mono ?_
      rintro e wf ⟨rfl, hbf⟩
      have HOf := Lib.hid (HO.out.below hbf)
      have HBf := Lib.hid (HB.out.trans (hbf.mono HB.out.size))
      clear hbf hc
      obtain ⟨wa, hwa⟩ : ∃ wa, wf.alloc (.cells #[.int .u8 k, .string (X.extract 0 n)] 39) = wa := ⟨_, rfl⟩
      have NW : Hid (∀ (j : Nat) u, ([.int .u8 k, .string (X.extract 0 n)] : List Value)[j]? = some u → wa.cell? ((⟨wf.heap.size, 0, none⟩ : Addr).add j) = some u) := Lib.hid (by rw [← hwa]; exact World.news_of_block (heap_alloc_new wf _))
      have ba : Below wf.heap.size wf wa := by rw [← hwa]; exact galloc2 (Below.refl _ _) (Nat.le_refl _) _
      have OW : Hid (wa.ownsRow w1.heap.size 39 2 _ E.length (E.flatMap tokC)) := Lib.hid (owns_below HOf.out ba)
      have BA : Hid (Below w1.heap.size w1 wa) := Lib.hid (HBf.out.trans (ba.mono HBf.out.size))
      clear ba
      subst hwa
      go_wp2_with (at_builtin; refine wpList_append_own _ rfl _ _ 30 rfl w1.heap.size 39 i32 (.agg #[.int .u8 0, .string ⟨#[]⟩]) 2 24 und26 hi9 hz0 hz1 hz2 rfl (by decide) _ _ _ rfl OW.out ⟨wf.heap.size, 0, none⟩ 1 1 [.int .u8 k, .string (X.extract 0 n)] rfl rfl NW.out (by simp [Value.oneCell']) ?c3 ?c4 ?c5 ?_)
      case c3 => have := HEl.out; unfold maxLen; omega
      case c4 => have := HEl.out; omega
      case c5 => first | exact BA.out.size | (have := BA.out.size; simpa using this)
      intro v' w2 hown hgrow _
      have O1 : Hid (ToksAt w1.heap.size w2 v' (E ++ [(k, X.data.toList.take n)])) := Lib.hid (by
        unfold ToksAt; rw [List.length_append, List.flatMap_append]
        rw [tok_cell] at hown
        exact hown)
      have B1 : Hid (Below w1.heap.size w1 w2) := Lib.hid (BA.out.grown hgrow BA.out.size (fun k h => (OW.out.lt k h).1))
      clear hown hgrow
      go_wp2_with fail
      go_roundw
      case rel => exact ⟨X.extract n X.size, E ++ [(k, X.data.toList.take n)], rfl, by have := HZ.out; omega, HN2, O1, B1⟩
      case measure => exact HZ.out
    · have h0' : X.size = 0 := by omega
      have e0 := Utf.isEmpty_yes h0'
      have hne : X.data.toList = [] := List.length_eq_zero_iff.1 (by rw [← Lib.size_eq]; exact h0')
      have HR : Hid (EV = E) := Lib.hid (by rw [HV.out, hne, toks_nil, List.append_nil])
      clear h0 h0' hne
      go_wp2_with fail
      go_ret
      exact ⟨_, rfl, by rw [HR.out]; exact owns_base HO.out HB1.out.size, HB1.out.trans (HB.out.mono HB1.out.size)⟩
end Go.Proofs.YtfedmhccbfhcbaaGreatDoor
