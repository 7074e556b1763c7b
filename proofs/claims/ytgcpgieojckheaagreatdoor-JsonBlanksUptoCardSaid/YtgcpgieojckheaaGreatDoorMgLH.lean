/-
  The printer's value.
  The printer's value, of any value in memory.
  The printer's text, as a string; the closure of Print; attempt.
  Print's closure, and attempt of it.
  The survey of a value: visit, plainly and in memory.
  visit of any value in memory; checkSize.
-/
import Derived.Test.YtgcpgieojckheaaGreatDoorMgLE
import Derived.Test.YtgcpgieojckheaaGreatDoorMgKJ
import Derived.Lib.UnsafeStr
namespace Go.Proofs.YtgcpgieojckheaaGreatDoor.Json
open Go.RowKit Go.Shelf

mutual
/-- A value that may be printed: its texts and lists are not too long for a walk; an Object has as many names as values. -/
def okJ : J → Prop
  | .mk k t ns ls => k ≤ 7 ∧ t.length ≤ 1000000 ∧ (∀ n ∈ ns, n.length ≤ 1000000) ∧ ls.length ≤ 1000000 ∧ (k = 7 → ns.length = ls.length) ∧ oksJ ls
def oksJ : List J → Prop
  | [] => True
  | j :: js => okJ j ∧ oksJ js
end
theorem oksJ_at : ∀ (l : List J) (i : Nat) (x : J), oksJ l → l[i]? = some x → okJ x
  | [], i, x, _, h => by simp at h
  | j :: js, 0, x, h, hx => by
    simp at hx; subst hx
    unfold oksJ at h; exact h.1
  | j :: js, i + 1, x, h, hx => by
    simp at hx
    unfold oksJ at h
    exact oksJ_at js i x h.2 hx
theorem outJ_1 (t : List UInt8) (ns : List (List UInt8)) (ls : List J) : outJ (.mk 1 t ns ls) = [110, 117, 108, 108] := by rw [outJ]; rfl
theorem outJ_2 (t : List UInt8) (ns : List (List UInt8)) (ls : List J) : outJ (.mk 2 t ns ls) = [116, 114, 117, 101] := by rw [outJ]; rfl
theorem outJ_3 (t : List UInt8) (ns : List (List UInt8)) (ls : List J) : outJ (.mk 3 t ns ls) = [102, 97, 108, 115, 101] := by rw [outJ]; rfl
theorem outJ_4 (t : List UInt8) (ns : List (List UInt8)) (ls : List J) : outJ (.mk 4 t ns ls) = t := by rw [outJ]; rfl
theorem outJ_5 (t : List UInt8) (ns : List (List UInt8)) (ls : List J) : outJ (.mk 5 t ns ls) = quoteJ t := by rw [outJ]; rfl
theorem outJ_6 (t : List UInt8) (ns : List (List UInt8)) (ls : List J) : outJ (.mk 6 t ns ls) = 91 :: (outL (fun _ => []) 0 (outsJ ls) ++ [93]) := by rw [outJ]; rfl
theorem outJ_7 (t : List UInt8) (ns : List (List UInt8)) (ls : List J) : outJ (.mk 7 t ns ls) = 123 :: (outL (fun i => quoteJ (ns.getD i []) ++ [58]) 0 (outsJ ls) ++ [125]) := by rw [outJ]; rfl
theorem outJ_0 (t : List UInt8) (ns : List (List UInt8)) (ls : List J) : outJ (.mk 0 t ns ls) = [] := by rw [outJ]; rfl
/-- From a later world to an earlier one. -/
theorem PutEnd.from {B b : Nat} {t o : List UInt8} {W w : World} {e : Ending} {w' : World} (hf : Fr B b W w) (h : PutEnd B b t o w e w') : PutEnd B b t o W e w' := by
  rcases h with ⟨h1, h2, h3, h4, h5⟩ | ⟨h1, h2, h3⟩
  · exact .inl ⟨h1, h2, h3, hf.1.trans h4, hf.2.1.trans h5 hf.2.2⟩
  · exact .inr ⟨h1, h2, hf.trans h3⟩
set_option maxHeartbeats 16000000 in
set_option maxRecDepth 100000 in
theorem pvalue_one (B b : Nat) (k : Nat) (t : List UInt8) (ns : List (List UInt8)) (ls : List J) (T : List UInt8) (W : World) (pc : Option Addr) (cc : Nat) (pd : Option Addr) (cd : Nat) (vs : List Value)
    (hok : okJ (.mk k t ns ls)) (h : PrAt B b T W) (hB : B ≤ W.heap.size) (hT : T.length ≤ 262144)
    (hc : SlIn (· < B) W (.slice pc ns.length cc) 1 ns.length (ns.map bl)) (hd : SlIn (· < B) W (.slice pd ls.length cd) 4 ls.length vs) (hj : JsAt (· < B) W ls vs)
    (HV : Hid (∀ (i : Nat) j cs t w, ls[i]? = some j → JAt (· < B) w j cs → PrAt B b t w → B ≤ w.heap.size → t.length ≤ 262144 → Calls Tryz.prog 60 #[.pointer (some ⟨b, 0, none⟩), .agg cs.toArray] w (PutEnd B b t (outJ j) w))) :
    Calls Tryz.prog 60 #[.pointer (some ⟨b, 0, none⟩), .agg #[.int .u8 k, bl t, .slice pc ns.length cc, .slice pd ls.length cd]] W (PutEnd B b T (outJ (.mk k t ns ls)) W) := by
  unfold okJ at hok
  obtain ⟨o1, o2, o3, o4, o5, _⟩ := hok
  obtain ⟨tx, htx⟩ : ∃ tx : ByteArray, (⟨t.toArray⟩ : ByteArray) = tx := ⟨_, rfl⟩
  have htl : tx.data.toList = t := by rw [← htx]
  have hbl : bl t = .string tx := by rw [← htx]; rfl
  rw [hbl]
  obtain ⟨K, hK⟩ : ∃ K : Int, (k : Int) = K := ⟨_, rfl⟩
  rw [hK]
  obtain ⟨w1, hw1⟩ : ∃ w1, W.alloc (.cells #[.pointer (some ⟨b, 0, none⟩)] 91) = w1 := ⟨_, rfl⟩
  obtain ⟨w2, hw2⟩ : ∃ w2, w1.alloc (.cells #[.int .u8 K, .string tx, .slice pc ns.length cc, .slice pd ls.length cd] 47) = w2 := ⟨_, rfl⟩
  have hp1 : w1.heap[W.heap.size]? = some (.cells #[.pointer (some ⟨b, 0, none⟩)] 91 (0, 0)) := by rw [← hw1]; exact World.alloc_heap_new W _
  have hb1 : Below W.heap.size W w1 := by rw [← hw1]; exact galloc (Below.refl _ _) _
  have hs1 : w1.heap.size = W.heap.size + 1 := by rw [← hw1]; simp
  have hp2 : w2.heap[w1.heap.size]? = some (.cells #[.int .u8 K, .string tx, .slice pc ns.length cc, .slice pd ls.length cd] 47 (0, 0)) := by rw [← hw2]; exact World.alloc_heap_new w1 _
  have hb2 : Below w1.heap.size w1 w2 := by rw [← hw2]; exact galloc (Below.refl _ _) _
  have hp1' : w2.heap[W.heap.size]? = some (.cells #[.pointer (some ⟨b, 0, none⟩)] 91 (0, 0)) := (hb2.block _ (by omega)).trans hp1
  have hf2 : Fr B b W w2 := ⟨(gcall hb1 hb2).mono hB, Kp.below (gcall hb1 hb2), Nat.le_trans hb1.size hb2.size⟩
  have hpr2 : PrAt B b T w2 := h.keep (gcall hb1 hb2)
  have hB2 : B ≤ w2.heap.size := Nat.le_trans hB hf2.2.2
  have hblt := h.lt
  have hN1 : W.heap.size ≠ b := by omega
  have hN2 : w1.heap.size ≠ b := by omega
  have hc2 := hc.world hf2.stays
  have hd2 := hd.world hf2.stays
  have hj2 := JsAt.world hf2.stays ls vs hj
  obtain ⟨N, hN⟩ : ∃ N, W.heap.size = N := ⟨_, rfl⟩
  obtain ⟨M, hM⟩ : ∃ M, w1.heap.size = M := ⟨_, rfl⟩
  rw [hN] at hp1' hN1
  rw [hM] at hp2 hN2
  have c0 : w2.cell? ⟨N, 0, none⟩ = some (.pointer (some ⟨b, 0, none⟩)) := by rw [Lib.cell_of_heap hp1']; rfl
  obtain ⟨d0, d1, d2, d3⟩ : w2.cell? ⟨M, 0, none⟩ = some (.int .u8 K) ∧ w2.cell? ⟨M, 1, none⟩ = some (.string tx) ∧ w2.cell? ⟨M, 2, none⟩ = some (.slice pc ns.length cc) ∧ w2.cell? ⟨M, 3, none⟩ = some (.slice pd ls.length cd) :=
    ⟨by rw [cellH hp2]; rfl, by rw [cellH hp2]; rfl, by rw [cellH hp2]; rfl, by rw [cellH hp2]; rfl⟩
  have HF := Lib.hid hf2
  clear hp1 hb1 hb2 hs1 h hB hc hd hj hf2 hblt hbl
  have hk : k = 0 ∨ k = 1 ∨ k = 2 ∨ k = 3 ∨ k = 4 ∨ k = 5 ∨ k = 6 ∨ k = 7 := by omega
  rcases hk with rfl | rfl | rfl | rfl | rfl | rfl | rfl | rfl
  · rw [outJ_0]
    have q1 : (K == 1) = false := by rw [← hK]; rfl
    have q2 : (K == 2) = false := by rw [← hK]; rfl
    have q3 : (K == 3) = false := by rw [← hK]; rfl
    have q4 : (K == 4) = false := by rw [← hK]; rfl
    have q5 : (K == 5) = false := by rw [← hK]; rfl
    have q6 : (K == 6) = false := by rw [← hK]; rfl
    have q7 : (K == 7) = false := by rw [← hK]; rfl
    clear hK
    go_enter Tryz.func60, Tryz.ntmps60
    go_wp2_with fail
    go_end0
    exact PutEnd.from HF.out (.inl ⟨by simpa using hT, rfl, by simpa using hpr2, Below.refl _ _, Kp.refl _ _⟩)
  · rw [outJ_1]
    have q1 : (K == 1) = true := by rw [← hK]; rfl
    clear hK
    have hcall := put_any B b T ⟨#[110, 117, 108, 108]⟩ w2 hpr2 hB2 hT
    skip
    clear hd2 hj2 hc2 hp2 hp1' HV
    go_enter Tryz.func60, Tryz.ntmps60
    go_wp2_with fail
    refine hcall.mono ?_
    intro e w3 he
    have HE := Lib.hid (PutEnd.from HF.out he)
    rcases he with ⟨_, rfl, _⟩ | ⟨_, rfl, _⟩
    · clear hcall
      go_wp2
      go_end0
      exact HE.out
    · clear hcall
      go_wp2_with fail
      exact ⟨rfl, HE.out⟩
  · rw [outJ_2]
    have q1 : (K == 1) = false := by rw [← hK]; rfl
    have q2 : (K == 2) = true := by rw [← hK]; rfl
    clear hK
    have hcall := put_any B b T ⟨#[116, 114, 117, 101]⟩ w2 hpr2 hB2 hT
    skip
    clear hd2 hj2 hc2 hp2 hp1' HV
    go_enter Tryz.func60, Tryz.ntmps60
    go_wp2_with fail
    refine hcall.mono ?_
    intro e w3 he
    have HE := Lib.hid (PutEnd.from HF.out he)
    rcases he with ⟨_, rfl, _⟩ | ⟨_, rfl, _⟩
    · clear hcall
      go_wp2
      go_end0
      exact HE.out
    · clear hcall
      go_wp2_with fail
      exact ⟨rfl, HE.out⟩
  · rw [outJ_3]
    have q1 : (K == 1) = false := by rw [← hK]; rfl
    have q2 : (K == 2) = false := by rw [← hK]; rfl
    have q3 : (K == 3) = true := by rw [← hK]; rfl
    clear hK
    have hcall := put_any B b T ⟨#[102, 97, 108, 115, 101]⟩ w2 hpr2 hB2 hT
    skip
    clear hd2 hj2 hc2 hp2 hp1' HV
    go_enter Tryz.func60, Tryz.ntmps60
    go_wp2_with fail
    refine hcall.mono ?_
    intro e w3 he
    have HE := Lib.hid (PutEnd.from HF.out he)
    rcases he with ⟨_, rfl, _⟩ | ⟨_, rfl, _⟩
    · clear hcall
      go_wp2
      go_end0
      exact HE.out
    · clear hcall
      go_wp2_with fail
      exact ⟨rfl, HE.out⟩
  · rw [outJ_4]
    have q1 : (K == 1) = false := by rw [← hK]; rfl
    have q2 : (K == 2) = false := by rw [← hK]; rfl
    have q3 : (K == 3) = false := by rw [← hK]; rfl
    have q4 : (K == 4) = true := by rw [← hK]; rfl
    clear hK
    have hcall := put_any B b T tx w2 hpr2 hB2 hT
    rw [htl] at hcall
    clear hd2 hj2 hc2 hp2 hp1' HV
    go_enter Tryz.func60, Tryz.ntmps60
    go_wp2_with fail
    refine hcall.mono ?_
    intro e w3 he
    have HE := Lib.hid (PutEnd.from HF.out he)
    rcases he with ⟨_, rfl, _⟩ | ⟨_, rfl, _⟩
    · clear hcall
      go_wp2
      go_end0
      exact HE.out
    · clear hcall
      go_wp2_with fail
      exact ⟨rfl, HE.out⟩
  · rw [outJ_5]
    have q1 : (K == 1) = false := by rw [← hK]; rfl
    have q2 : (K == 2) = false := by rw [← hK]; rfl
    have q3 : (K == 3) = false := by rw [← hK]; rfl
    have q4 : (K == 4) = false := by rw [← hK]; rfl
    have q5 : (K == 5) = true := by rw [← hK]; rfl
    clear hK
    have hcall := pquoted_any B b T tx w2 hpr2 hB2 hT (by rw [Lib.size_eq, htl]; exact o2)
    rw [htl] at hcall
    clear hd2 hj2 hc2 hp2 hp1' HV
    go_enter Tryz.func60, Tryz.ntmps60
    go_wp2_with fail
    refine hcall.mono ?_
    intro e w3 he
    have HE := Lib.hid (PutEnd.from HF.out he)
    rcases he with ⟨_, rfl, _⟩ | ⟨_, rfl, _⟩
    · clear hcall
      go_wp2
      go_end0
      exact HE.out
    · clear hcall
      go_wp2_with fail
      exact ⟨rfl, HE.out⟩
  · rw [outJ_6]
    have q1 : (K == 1) = false := by rw [← hK]; rfl
    have q2 : (K == 2) = false := by rw [← hK]; rfl
    have q3 : (K == 3) = false := by rw [← hK]; rfl
    have q4 : (K == 4) = false := by rw [← hK]; rfl
    have q5 : (K == 5) = false := by rw [← hK]; rfl
    have q6 : (K == 6) = true := by rw [← hK]; rfl
    clear hK
    have hcall := plist_arr B b w2 T 91 93 pd cd vs ls (fun _ => []) (fun _ => True) hpr2 hB2 hT o4 hd2 hj2 trivial (Lib.hid (fun _ _ _ _ _ _ => trivial)) (Lib.hid (fun i t w _ hp _ ht _ => ahead_arr B b i t w hp ht)) HV
    clear hd2 hj2 hc2 hp2 hp1' HV
    go_enter Tryz.func60, Tryz.ntmps60
    go_wp2_with fail
    refine hcall.mono ?_
    intro e w3 he
    have HE := Lib.hid (PutEnd.from HF.out he)
    rcases he with ⟨_, rfl, _⟩ | ⟨_, rfl, _⟩
    · clear hcall
      go_wp2
      go_end0
      exact HE.out
    · clear hcall
      go_wp2_with fail
      exact ⟨rfl, HE.out⟩
  · rw [outJ_7]
    have q1 : (K == 1) = false := by rw [← hK]; rfl
    have q2 : (K == 2) = false := by rw [← hK]; rfl
    have q3 : (K == 3) = false := by rw [← hK]; rfl
    have q4 : (K == 4) = false := by rw [← hK]; rfl
    have q5 : (K == 5) = false := by rw [← hK]; rfl
    have q6 : (K == 6) = false := by rw [← hK]; rfl
    have q7 : (K == 7) = true := by rw [← hK]; rfl
    have hst : ObSt B b N M 7 tx pc ns cc pd ls.length cd w2 := ⟨hp1', hN1, by rw [hp2, ← hK], hN2, hc2⟩
    clear hK
    have hcall := plist_obj B b w2 T 123 125 pd cd vs ls (fun i => quoteJ (ns.getD i []) ++ [58]) (ObSt B b N M 7 tx pc ns cc pd ls.length cd) N M hpr2 hB2 hT o4 hd2 hj2 hst (Lib.hid (fun w w' h hs hb hk => h.keep hs hb hk))
      (Lib.hid (fun i t w hi hp hB ht hs => ahead_obj B b N M 7 tx pc ns cc pd ls.length cd i t w (by rw [o5 rfl]; exact hi) o3 hp hB ht hs)) HV
    clear hd2 hj2 hc2 hp2 hp1' HV hst o5
    go_enter Tryz.func60, Tryz.ntmps60
    go_wp2_with fail
    refine hcall.mono ?_
    intro e w3 he
    have HE := Lib.hid (PutEnd.from HF.out he)
    rcases he with ⟨_, rfl, _⟩ | ⟨_, rfl, _⟩
    · clear hcall
      go_wp2
      go_end0
      exact HE.out
    · clear hcall
      go_wp2_with fail
      exact ⟨rfl, HE.out⟩
end Go.Proofs.YtgcpgieojckheaaGreatDoor.Json
namespace Go.Proofs.YtgcpgieojckheaaGreatDoor.Json
open Go.RowKit Go.Shelf

theorem deepJ_at : ∀ (l : List J) (i : Nat) (x : J), l[i]? = some x → deepJ x ≤ deepsJ l
  | [], i, x, h => by simp at h
  | j :: js, 0, x, h => by simp at h; subst h; unfold deepsJ; omega
  | j :: js, i + 1, x, h => by
    simp at h
    have := deepJ_at js i x h
    unfold deepsJ; omega
theorem pvalue_deep (B b : Nat) : ∀ (n : Nat) (j : J), deepJ j ≤ n → okJ j → ∀ (cs : List Value) (t : List UInt8) (w : World), JAt (· < B) w j cs → PrAt B b t w → B ≤ w.heap.size → t.length ≤ 262144 →
    Calls Tryz.prog 60 #[.pointer (some ⟨b, 0, none⟩), .agg cs.toArray] w (PutEnd B b t (outJ j) w)
  | 0, .mk k t ns ls, hd, _, _, _, _, _, _, _, _ => by unfold deepJ at hd; omega
  | n + 1, .mk k t ns ls, hd, hok, cs, T, w, hj, h, hB, hT => by
    obtain ⟨pc, cc, pd, cd, vs, rfl, h1, h2, h3⟩ := hj.form
    refine pvalue_one B b k t ns ls T w pc cc pd cd vs hok h hB hT h1 h2 h3 (Lib.hid fun i j cs t w hi hj hp hB ht => pvalue_deep B b n j ?_ ?_ cs t w hj hp hB ht)
    · have := deepJ_at ls i j hi
      unfold deepJ at hd; omega
    · unfold okJ at hok
      exact oksJ_at ls i j hok.2.2.2.2.2 hi
/-- What value writes. -/
theorem pvalue_any (B b : Nat) (j : J) (hok : okJ j) (cs : List Value) (t : List UInt8) (w : World) (hj : JAt (· < B) w j cs) (h : PrAt B b t w) (hB : B ≤ w.heap.size) (ht : t.length ≤ 262144) :
    Calls Tryz.prog 60 #[.pointer (some ⟨b, 0, none⟩), .agg cs.toArray] w (PutEnd B b t (outJ j) w) :=
  pvalue_deep B b (deepJ j) j (Nat.le_refl _) hok cs t w hj h hB ht
end Go.Proofs.YtgcpgieojckheaaGreatDoor.Json
namespace Go.Proofs.YtgcpgieojckheaaGreatDoor.Json
open Go.RowKit Go.Shelf

theorem freeze_other (w : World) (g n k : Nat) (h : k ≠ g) : (w.freeze ⟨g, 0, none⟩ n).heap[k]? = w.heap[k]? := by
  unfold World.freeze
  split
  · rfl
  · simp [Array.getElem?_modify, Ne.symm h]
theorem Fr.freeze {B b : Nat} {w : World} {g n : Nat} {cur : Array Value} {fz : Nat × Nat} (hg : w.heap[g]? = some (.cells cur 5 fz)) (hB : B ≤ g) : Fr B b w (w.drew.freeze ⟨g, 0, none⟩ n) := by
  have hs : w.heap.size ≤ (w.drew.freeze ⟨g, 0, none⟩ n).heap.size := (Lib.below_freeze (B := B) (Below.drew (Below.refl B w)) (p := ⟨g, 0, none⟩) hB n).size
  refine ⟨Lib.below_freeze (Below.drew (Below.refl B w)) (p := ⟨g, 0, none⟩) hB n, fun k _ _ hn => ?_, hs⟩
  exact freeze_other w.drew g n k (fun e => by subst e; exact hn _ _ hg)
/-- The row that holds the text. -/
def StrRow (B b : Nat) (t : List UInt8) (w : World) : Prop := ∃ g cap cur, w.cell? ⟨b, 1, none⟩ = some (.slice (some ⟨g, 0, none⟩) t.length cap) ∧ B ≤ g ∧ w.heap[g]? = some (.cells cur 5 (0, 0)) ∧ t.length ≤ cap ∧ cap ≤ maxLen ∧ cur.size = cap ∧
    ∀ j x, t[j]? = some x → w.cell? ((⟨g, 0, none⟩ : Addr).add j) = some (.int .u8 x.toNat)
set_option maxHeartbeats 2000000 in
set_option maxRecDepth 100000 in
theorem string_any (B b : Nat) (t : List UInt8) (w : World) (h : PrAt B b t w) (h0 : t ≠ []) :
    Calls Tryz.prog 61 #[.pointer (some ⟨b, 0, none⟩)] w fun e w' => e = .returned (.string ⟨t.toArray⟩) ∧ Fr B b w w' := by
  have hl0 : t.length ≠ 0 := by simpa using h0
  have hbl : (Lib.byteCells t).length = t.length := by simp [Lib.byteCells]
  have hx : StrRow B b t w := by
    have go : ∀ p, Lib.BuilderAt 96 5 B b p (Lib.byteCells t) w → StrRow B b t w := fun p h => by
      obtain ⟨hB, v, hbk, hown, hne⟩ := h
      have c1 : w.cell? ⟨b, 1, none⟩ = some v := by rw [Lib.cell_of_heap hbk]; rfl
      have hc := fun g (hg : v.ownBlock = some g) => World.ownsRow.cells hown hg
      rw [hbl] at hown
      rcases hown.2 with ⟨_, hz⟩ | ⟨g, cap, cur, rfl, h2, h3, h4, h5, h6, h7⟩
      · exact absurd hz hl0
      · exact ⟨g, cap, cur, c1, h2, h3, h4, h5, by simpa using h6, fun j x hj => hc g rfl j _ (by simp [Lib.byteCells, hj])⟩
    rcases h with h | h
    · exact go _ h
    · exact go _ h
  obtain ⟨g, cap, cur, c1, hBg, hg, h4, h5, h6, hcell⟩ := hx
  have d1 : w.drew.cell? ⟨b, 1, none⟩ = some (.slice (some ⟨g, 0, none⟩) t.length cap) := c1
  have hSD : (Builtin.unsafeSliceData_ #[37] 122 #[.slice (some ⟨g, 0, none⟩) t.length cap]).run Tryz.prog w.drew = .ok (.pointer (some ⟨g, 0, none⟩)) w.drew :=
    Lib.run_unsafeSliceData_row _ _ _ _ _ _ (by omega)
  have hUS : (Builtin.unsafeString_ #[122, 3] 9 #[.pointer (some ⟨g, 0, none⟩), .int .i64 t.length]).run Tryz.prog w.drew = .ok (.string ⟨t.toArray⟩) (w.drew.freeze ⟨g, 0, none⟩ t.length) := by
    refine Lib.run_unsafeString_row w.drew 122 3 9 5 (by kernel_rfl) (by kernel_rfl) g cur.size (by have hg' : w.drew.heap[g]? = some (.cells cur 5 (0, 0)) := hg; simp [World.shape?, hg']) t h0 (by omega) (by unfold maxLen at h5; omega) hcell
  have HF : Hid (Fr B b w (w.drew.freeze ⟨g, 0, none⟩ t.length)) := Lib.hid (Fr.freeze hg hBg)
  clear h hcell hg h0 hl0 hbl
  have mixed := Tryz.lays169.mixed
  go_enter Tryz.func61, Tryz.ntmps61
  go_wp2
  go_region_o
  all_goals (go_wp2; go_ret; exact ⟨rfl, HF.out⟩)
end Go.Proofs.YtgcpgieojckheaaGreatDoor.Json
namespace Go.Proofs.YtgcpgieojckheaaGreatDoor.Json
open Go.RowKit Go.Shelf

set_option maxHeartbeats 1000000 in
set_option maxRecDepth 100000 in
theorem catchS_bad (p : Addr) (k : Int) (older : List PanicEntry) (w : World) (hc : w.cell? p = some (.int .i64 0)) (hz : w.frozen? p = false) :
    CallsD Tryz.prog 95 #[.pointer (some p)] (.panicking ({ v := .iface 23 (.int .i64 k), recovered := false } :: older)) w fun e u' w' =>
      e = .returned (.tuple #[]) ∧ u' = .panicking ({ v := .iface 23 (.int .i64 k), recovered := true } :: older) ∧ w' = w.setCell p (.int .i64 k) := by
  have hta : ∀ w : World, (Instr.typeAssert (Value.iface 23 (Value.int IntKind.i64 k)) 20 23 true).run Tryz.prog w = .ok (.tuple #[.int .i64 k, .bool true]) w := fun w => by kernel_rfl
  refine callsD_of_wpS Tryz.func95 rfl fun c₀ cs hu => ?_
  apply wpS_seq
  apply wpS_region
  simp [wpOpsS, go_sem, recoverD, hu, Tryz.ntmps95, Exit.thenS]
  refine wpS_of_wp ?_
  go_wp2
  simp [bodyPostS, results, Tryz.results95]
set_option maxHeartbeats 1000000 in
set_option maxRecDepth 100000 in
theorem catchS_idle (p : Addr) (w : World) :
    CallsD Tryz.prog 95 #[.pointer (some p)] .returning w fun e u' w' => e = .returned (.tuple #[]) ∧ u' = .returning ∧ w' = w := by
  refine callsD_of_wpS Tryz.func95 rfl fun c₀ cs hu => ?_
  apply wpS_seq
  apply wpS_region
  simp [wpOpsS, go_sem, recoverD, hu, Tryz.ntmps95, Exit.thenS]
  refine wpS_of_wp ?_
  go_wp2
  cases c₀
  simp_all [bodyPostS, results, Tryz.results95]
/-- What Print's closure ends in. -/
def PrintEnd (B b : Nat) (o : List UInt8) (w : World) (e : Ending) (w' : World) : Prop :=
  (o.length ≤ 262144 ∧ e = .returned (.string ⟨o.toArray⟩) ∧ Fr B b w w') ∨ (262144 < o.length ∧ BadP 40 B b w e w')
set_option maxHeartbeats 2000000 in
set_option maxRecDepth 100000 in
theorem print_closure (B b PP JB : Nat) (j : J) (cs : List Value) (w : World) (hok : okJ j) (hne : outJ j ≠ []) (hP : w.heap[PP]? = some (.cells #[.pointer (some ⟨b, 0, none⟩)] 91 (0, 0))) (hPb : PP ≠ b)
    (hJ : w.heap[JB]? = some (.cells cs.toArray 47 (0, 0))) (hj : JAt (· < B) w j cs) (h : PrAt B b [] w) (hB : B ≤ w.heap.size) :
    Calls Tryz.prog 59 #[.pointer (some ⟨PP, 0, none⟩), .pointer (some ⟨JB, 0, none⟩)] w (PrintEnd B b (outJ j) w) := by
  obtain ⟨va, vb, vc, vd, rfl⟩ := hj.four
  obtain ⟨kd, tx, pc, nc, cc, pe, ne, ce, rfl, rfl, rfl, rfl⟩ := jat_four hj
  have hv := pvalue_any B b j hok _ [] w hj h hB (Nat.zero_le _)
  obtain ⟨o, ho⟩ : ∃ o, outJ j = o := ⟨_, rfl⟩
  rw [ho] at hv hne ⊢
  have c0 : w.cell? ⟨PP, 0, none⟩ = some (.pointer (some ⟨b, 0, none⟩)) := by rw [Lib.cell_of_heap hP]; rfl
  obtain ⟨d0, d1, d2, d3⟩ : w.cell? ⟨JB, 0, none⟩ = some (.int .u8 kd) ∧ w.cell? ⟨JB, 1, none⟩ = some (.string tx) ∧ w.cell? ⟨JB, 2, none⟩ = some (.slice pc nc cc) ∧ w.cell? ⟨JB, 3, none⟩ = some (.slice pe ne ce) :=
    ⟨by rw [cellH hJ]; rfl, by rw [cellH hJ]; rfl, by rw [cellH hJ]; rfl, by rw [cellH hJ]; rfl⟩
  have HP := Lib.hid hP
  have HPb := Lib.hid hPb
  have HNE := Lib.hid hne
  clear hok hP hPb hJ hj h hB ho hne
  rw [show ([.int .u8 (kd : Int), .string tx, .slice pc nc cc, .slice pe ne ce] : List Value).toArray = #[.int .u8 (kd : Int), .string tx, .slice pc nc cc, .slice pe ne ce] from rfl] at hv
  go_enter Tryz.func59, Tryz.ntmps59
  go_wp2_with fail
  refine hv.mono ?_
  rintro e w1 (⟨hl1, rfl, h1, hb1, hk1⟩ | ⟨hl1, rfl, hb1⟩)
  · have e1 : w1.cell? ⟨PP, 0, none⟩ = some (.pointer (some ⟨b, 0, none⟩)) := by
      have := (hk1 PP (Array.getElem?_eq_some_iff.1 HP.out).1 HPb.out (fun c2 fz e => by
        have h1 := HP.out
        rw [h1] at e; injection e with e; injection e with _ e _; exact absurd e (by decide))).trans HP.out
      rw [Lib.cell_of_heap this]; rfl
    have hs := string_any B b o w1 (by simpa using h1) HNE.out
    have HF1 : Hid (Fr B b w w1) := Lib.hid ⟨hb1, hk1, hb1.size⟩
    have HL : Hid (o.length ≤ 262144) := Lib.hid (by simpa using hl1)
    clear hl1 h1 hb1 hk1 hv
    go_wp2_with fail
    refine hs.mono ?_
    rintro e w2 ⟨rfl, hf2⟩
    have HF2 := Lib.hid (HF1.out.trans hf2)
    clear hf2 hs
    go_wp2
    go_ret
    exact .inl ⟨HL.out, rfl, HF2.out⟩
  · have HL : Hid (262144 < o.length) := Lib.hid (by simpa using hl1)
    have HB1 := Lib.hid hb1
    clear hl1 hb1 hv
    go_wp2_with fail
    exact ⟨rfl, Or.inr ⟨HL.out, rfl, HB1.out⟩⟩
theorem Fr.setBox {B b : Nat} {W w : World} (h : Fr B b W w) {R : Nat} (hB : B ≤ R) (hR : W.heap.size ≤ R) (v : Value) : Fr B b W (w.setCell ⟨R, 0, none⟩ v) :=
  ⟨h.1.setCell (p := ⟨R, 0, none⟩) hB _, fun k hk hb hn => ((Only.set R w 0 v).block k (by omega)).trans (h.2.1 k hk hb hn), Nat.le_trans h.2.2 (Nat.le_of_eq (Only.set R w 0 v).size.symm)⟩
/-- What is printed, and the error. -/
def printG (o : List UInt8) : List UInt8 × Int := if o.length ≤ 262144 then (o, 0) else ([], 40)
set_option maxHeartbeats 4000000 in
set_option maxRecDepth 100000 in
theorem attempt_print (B b PP JB : Nat) (j : J) (cs : List Value) (W : World) (hok : okJ j) (hne : outJ j ≠ []) (hP : W.heap[PP]? = some (.cells #[.pointer (some ⟨b, 0, none⟩)] 91 (0, 0))) (hPb : PP ≠ b)
    (hJ : W.heap[JB]? = some (.cells cs.toArray 47 (0, 0))) (hj : JAt (· < B) W j cs) (h : PrAt B b [] W) (hB : B ≤ W.heap.size) :
    Calls Tryz.prog 58 #[.func (.func 59) #[] #[.pointer (some ⟨PP, 0, none⟩), .pointer (some ⟨JB, 0, none⟩)]] W fun e w' => e = .returned (.tuple #[.string ⟨(printG (outJ j)).1.toArray⟩, .int .i64 (printG (outJ j)).2]) ∧ Fr B b W w' := by
  have hmf : ∀ (fn : Fn) (first cap : Array Value) (w : World), (Instr.makeFunc fn first cap).run Tryz.prog w = .ok (.func fn first cap) w := fun _ _ _ _ => rfl
  have hblt := h.lt
  obtain ⟨W0, hW0⟩ : ∃ W0, W.alloc (.cells #[.int .i64 0] 23) = W0 := ⟨_, rfl⟩
  have hb0 : Below W.heap.size W W0 := by rw [← hW0]; exact galloc (Below.refl _ _) _
  have hE0 : W0.heap[W.heap.size]? = some (.cells #[.int .i64 0] 23 (0, 0)) := by rw [← hW0]; exact World.alloc_heap_new W _
  have hs0 : W0.heap.size = W.heap.size + 1 := by rw [← hW0]; simp
  have hf0 : Fr B b W W0 := ⟨hb0.mono hB, Kp.below hb0, hb0.size⟩
  have hwa := print_closure B b PP JB j cs W0 hok hne ((hb0.block PP (Array.getElem?_eq_some_iff.1 hP).1).trans hP) hPb ((hb0.block JB (Array.getElem?_eq_some_iff.1 hJ).1).trans hJ) (JAt.world hf0.stays _ _ hj) (h.keep hb0) (Nat.le_trans hB hb0.size)
  obtain ⟨o, ho⟩ : ∃ o, outJ j = o := ⟨_, rfl⟩
  rw [ho] at hwa ⊢
  obtain ⟨R, hR⟩ : ∃ R, W.heap.size = R := ⟨_, rfl⟩
  rw [hR] at hE0 hs0
  have hbR : R ≠ b := by omega
  have HBR : Hid (B ≤ R) := Lib.hid (by omega)
  have HRe := Lib.hid hR
  have HF0 := Lib.hid hf0
  have HE := Lib.hid hE0
  have HW0 := Lib.hid hW0
  have HWs := Lib.hid hs0
  have HbR := Lib.hid hbR
  clear hok hne hP hPb hJ hj h hB hb0 hE0 hW0 hs0 hR hf0 ho hbR hblt
  go_enter_defers Tryz.func58, Tryz.ntmps58
  go_wp2_with fail
  rw [HW0.out, HRe.out]
  refine hwa.mono ?_
  intro e w1 h1
  clear hwa HW0
  have hkeep : ∀ {w1 : World}, Fr B b W0 w1 → w1.heap[R]? = some (.cells #[.int .i64 0] 23 (0, 0)) := fun hf => (hf.2.1 R (by have := HWs.out; omega) HbR.out (fun c2 fz e => by
    have h1 := HE.out
    rw [h1] at e; injection e with e; injection e with _ e _; exact absurd e (by decide))).trans HE.out
  rcases h1 with ⟨hl, rfl, hf1⟩ | ⟨hl, rfl, hf1⟩
  · have hE1 := hkeep hf1
    have e0 : w1.cell? ⟨R, 0, none⟩ = some (.int .i64 0) := by rw [Lib.cell_of_heap hE1]; rfl
    have ez : w1.frozen? ⟨R, 0, none⟩ = false := Lib.frozen_of_heap hE1 0
    have HG : Hid (printG o = (o, 0)) := Lib.hid (by unfold printG; rw [if_pos hl])
    have HE1 := Lib.hid hE1
    have HF1 := Lib.hid (HF0.out.trans hf1)
    clear hl hf1 hE1 hkeep
    go_wp2_with fail
    have y4 : (w1.setCell ⟨R, 0, none⟩ (.int .i64 0)).cell? ⟨R, 0, none⟩ = some (.int .i64 0) := by
      have := heap_setCell_same w1 R 0 _ _ (.int .i64 0) HE1.out
      rw [Lib.cell_of_heap this]; rfl
    have HF2 : Fr B b W (w1.setCell ⟨R, 0, none⟩ (.int .i64 0)) := HF1.out.setBox HBR.out (by have := HRe.out; omega) _
    generalize w1.setCell ⟨R, 0, none⟩ (.int .i64 0) = w3 at *
    refine leaves_cons (f := 95) (args := #[.pointer (some ⟨R, 0, none⟩)]) (by simp) (by simp [go_sem]) ?_
    refine (catchS_idle ⟨R, 0, none⟩ _).mono ?_
    rintro e u' w4 ⟨rfl, rfl, rfl⟩
    rw [HG.out]
    simp [Leaves, settle, results, Tryz.results58, go_sem, y4]
    first
      | exact HF2
      | exact ⟨rfl, HF2⟩
      | trace_state
  · have hE1 := hkeep hf1
    have e0 : w1.cell? ⟨R, 0, none⟩ = some (.int .i64 0) := by rw [Lib.cell_of_heap hE1]; rfl
    have ez : w1.frozen? ⟨R, 0, none⟩ = false := Lib.frozen_of_heap hE1 0
    have E0 : (w1.setCell ⟨R, 0, none⟩ (.int .i64 40)).cell? ⟨R, 0, none⟩ = some (.int .i64 40) := by
      have := heap_setCell_same w1 R 0 _ _ (.int .i64 40) hE1
      rw [Lib.cell_of_heap this]; rfl
    have HG : Hid (printG o = ([], 40)) := Lib.hid (by unfold printG; rw [if_neg (by omega)])
    have HF1 := Lib.hid (HF0.out.trans hf1)
    clear hl hf1 hE1 hkeep
    go_wp2_with fail
    refine leaves_cons (f := 95) (args := #[.pointer (some ⟨R, 0, none⟩)]) (by simp) (by simp [go_sem]) ?_
    refine (catchS_bad ⟨R, 0, none⟩ 40 [] _ e0 ez).mono ?_
    rintro e u' w2 ⟨rfl, rfl, rfl⟩
    have HF2 : Fr B b W (w1.setCell ⟨R, 0, none⟩ (.int .i64 40)) := HF1.out.setBox HBR.out (by have := HRe.out; omega) _
    generalize w1.setCell ⟨R, 0, none⟩ (.int .i64 40) = w2 at *
    rw [HG.out]
    simp [Leaves, settle, results, Tryz.results58, go_sem, E0]
    first
      | exact HF2
      | exact ⟨rfl, HF2⟩
      | trace_state
end Go.Proofs.YtgcpgieojckheaaGreatDoor.Json
namespace Go.Proofs.YtgcpgieojckheaaGreatDoor.Json
open Go.RowKit Go.Shelf

mutual
/-- What a visit of a value's list tells: whether it went on, how many were counted, whether something is too deep. -/
def visJ (nest : Nat) : J → Nat → Nat × Bool → Bool × (Nat × Bool)
  | .mk _ _ _ ls, d, st => if ls.length = 0 then (true, st) else if nest < d then (false, (st.1, true)) else if 2147483647 - st.1 < ls.length then (false, (2147483647, st.2)) else visJs nest ls d (st.1 + ls.length, st.2)
def visJs (nest : Nat) : List J → Nat → Nat × Bool → Bool × (Nat × Bool)
  | [], _, st => (true, st)
  | j :: js, d, st => match visJ nest j (d + 1) st with
    | (false, st') => (false, st')
    | (true, st') => visJs nest js d st'
end
mutual
theorem visJ_le (nest : Nat) : ∀ (j : J) (d : Nat) (st : Nat × Bool), st.1 ≤ 2147483647 → (visJ nest j d st).2.1 ≤ 2147483647
  | .mk _ _ _ ls, d, st, h => by
    unfold visJ
    split
    · exact h
    · split
      · exact h
      · split
        · exact Nat.le_refl _
        · exact visJs_le nest ls d _ (by show st.1 + ls.length ≤ _; omega)
theorem visJs_le (nest : Nat) : ∀ (l : List J) (d : Nat) (st : Nat × Bool), st.1 ≤ 2147483647 → (visJs nest l d st).2.1 ≤ 2147483647
  | [], _, st, h => by unfold visJs; exact h
  | j :: js, d, st, h => by
    unfold visJs
    have h1 := visJ_le nest j (d + 1) st h
    split
    · rename_i st' hst; rw [hst] at h1; exact h1
    · rename_i st' hst; rw [hst] at h1; exact visJs_le nest js d st' h1
end
/-- The survey's block. -/
def SAt (S nest : Nat) (st : Nat × Bool) (w : World) : Prop := w.heap[S]? = some (.cells #[.int .i64 nest, .int .i64 st.1, .bool st.2] 124 (0, 0))
def VEnd (S nest : Nat) (r : Bool × (Nat × Bool)) (w : World) (e : Ending) (w' : World) : Prop := e = .returned (.bool r.1) ∧ SAt S nest r.2 w' ∧ But S w w'
/-- The loop's state. -/
def VInv (S nest d : Nat) (R : Bool × (Nat × Bool)) (W : World) (rest : List J) (wr : World) : Prop :=
  ∃ st : Nat × Bool, SAt S nest st wr ∧ But S W wr ∧ st.1 ≤ 2147483647 ∧ R = visJs nest rest d st
set_option maxHeartbeats 8000000 in
set_option maxRecDepth 100000 in
theorem visit_one (S nest d : Nat) (k : Nat) (t : List UInt8) (ns : List (List UInt8)) (ls : List J) (st : Nat × Bool) (W : World) (pd : Option Addr) (cd : Nat) (vs : List Value)
    (hn : nest ≤ 100000) (hd : d ≤ 200000) (hc : st.1 ≤ 2147483647) (hlen : ls.length ≤ 1000000000) (hS : SAt S nest st W) (hSl : SlIn (· ≠ S) W (.slice pd ls.length cd) 4 ls.length vs) (hJ : JsAt (· ≠ S) W ls vs)
    (HREC : Hid (∀ (i : Nat) x, ls[i]? = some x → ∀ (st : Nat × Bool) (w : World) va vb vc vd, st.1 ≤ 2147483647 → d < 200000 → JAt (· ≠ S) w x [va, vb, vc, vd] → SAt S nest st w →
      Calls Tryz.prog 101 #[.pointer (some ⟨S, 0, none⟩), vd, .int .i64 ((d + 1 : Nat) : Int)] w (VEnd S nest (visJ nest x (d + 1) st) w))) :
    Calls Tryz.prog 101 #[.pointer (some ⟨S, 0, none⟩), .slice pd ls.length cd, .int .i64 d] W (VEnd S nest (visJ nest (.mk k t ns ls) d st) W) := by
  obtain ⟨R, hR⟩ : ∃ R, visJ nest (.mk k t ns ls) d st = R := ⟨_, rfl⟩
  rw [hR]
  have HR := Lib.hid hR
  have hS' := hS
  unfold SAt at hS'
  obtain ⟨s0, s1, s2, sf⟩ : W.cell? ⟨S, 0, none⟩ = some (.int .i64 nest) ∧ W.cell? ⟨S, 1, none⟩ = some (.int .i64 st.1) ∧ W.cell? ⟨S, 2, none⟩ = some (.bool st.2) ∧ ∀ o, W.frozen? ⟨S, o, none⟩ = false :=
    ⟨by rw [Lib.cell_of_heap hS']; rfl, by rw [Lib.cell_of_heap hS']; rfl, by rw [Lib.cell_of_heap hS']; rfl, fun o => Lib.frozen_of_heap hS' o⟩
  have HS := Lib.hid hS'
  clear hR hS hS'
  by_cases h0 : ls.length = 0
  · have h0' : ((ls.length : Int) == 0) = true := by simp [h0]
    have HG : Hid (R = (true, st)) := Lib.hid (by rw [← HR.out]; unfold visJ; rw [if_pos h0])
    clear hSl hJ HREC h0
    go_enter Tryz.func101, Tryz.ntmps101
    go_wp2
    go_ret
    rw [HG.out]
    exact ⟨rfl, HS.out, But.refl _ _⟩
  · have h0' : ((ls.length : Int) == 0) = false := by rw [beq_eq_false_iff_ne]; omega
    by_cases hdp : nest < d
    · have hdp' : (nest : Int) < (d : Int) := by omega
      have HG : Hid (R = (false, (st.1, true))) := Lib.hid (by rw [← HR.out]; unfold visJ; rw [if_neg h0, if_pos hdp])
      clear hSl hJ HREC h0
      go_enter Tryz.func101, Tryz.ntmps101
      go_wp2
      go_ret
      rw [HG.out]
      exact ⟨rfl, heap_setCell_same W S 2 _ _ (.bool true) HS.out, But.set _ _ _ _⟩
    · have hdp' : ¬ (nest : Int) < (d : Int) := by omega
      have hw : IntKind.i64.wrap ((2147483647 : Int) - (st.1 : Int)) = (2147483647 : Int) - (st.1 : Int) := IntWalk.i64_in _ (by omega)
      by_cases hm : 2147483647 - st.1 < ls.length
      · have hm' : (2147483647 : Int) - (st.1 : Int) < (ls.length : Int) := by omega
        have HG : Hid (R = (false, (2147483647, st.2))) := Lib.hid (by rw [← HR.out]; unfold visJ; rw [if_neg h0, if_neg hdp, if_pos hm])
        clear hSl hJ HREC h0
        go_enter Tryz.func101, Tryz.ntmps101
        go_wp2
        go_ret
        rw [HG.out]
        exact ⟨rfl, heap_setCell_same W S 1 _ _ (.int .i64 2147483647) HS.out, But.set _ _ _ _⟩
      · have hm' : ¬ (2147483647 : Int) - (st.1 : Int) < (ls.length : Int) := by omega
        have hw2 : IntKind.i64.wrap ((st.1 : Int) + (ls.length : Int)) = ((st.1 + ls.length : Nat) : Int) := by rw [IntWalk.i64_in _ (by omega)]; omega
        have hwd : IntKind.i64.wrap ((d : Int) + 1) = ((d + 1 : Nat) : Int) := by rw [IntWalk.i64_in _ (by omega)]; omega
        have HG : Hid (R = visJs nest ls d (st.1 + ls.length, st.2)) := Lib.hid (by rw [← HR.out]; unfold visJ; rw [if_neg h0, if_neg hdp, if_neg hm])
        have HI0 : Hid (VInv S nest d R W (ls.drop 0) (W.setCell ⟨S, 1, none⟩ (.int .i64 ((st.1 + ls.length : Nat) : Int)))) :=
          Lib.hid ⟨(st.1 + ls.length, st.2), heap_setCell_same W S 1 _ _ _ HS.out, But.set _ _ _ _, by show st.1 + ls.length ≤ _; omega, HG.out⟩
        have HSl := Lib.hid hSl
        have HJ := Lib.hid hJ
        have hd1 : d < 200000 := by omega
        clear hSl hJ h0 hm
        go_enter Tryz.func101, Tryz.ntmps101
        go_wp2
        go_loopw [42] (fun iv wr => ∃ i : Nat, i ≤ ls.length ∧ iv = .int .i64 i ∧ Hid (VInv S nest d R W (ls.drop i) wr)) (fun iv _ => ls.length - (intOf iv).toNat)
        case atStart => exact ⟨0, by omega, rfl, HI0⟩
        case round =>
          clear s0 s1 s2 sf
          obtain ⟨i, hi, rfl, HI⟩ := hrel
          rcases Nat.lt_or_ge i ls.length with hlt | hge
          · have hlt' : (i : Int) < (ls.length : Int) := by omega
            have hwi : IntKind.i64.wrap ((i : Int) + 1) = ((i + 1 : Nat) : Int) := by rw [IntWalk.i64_in _ (by omega)]; omega
            obtain ⟨g1, o1, rfl, hx1⟩ := HSl.out.cellAt (by omega)
            have hu1 := List.getElem?_eq_getElem hlt
            obtain ⟨xa, xb, xc, xd, hjx, m1, m2, m3, m4⟩ := HJ.out.nth ls vs i _ hu1
            obtain ⟨st1, i1, i2, i3, i4⟩ := HI.out
            have hst : Stays (· ≠ S) W wr := ⟨i2.size, fun k hk hs => i2.block k hk hs⟩
            have hjw := JAt.world hst _ _ hjx
            obtain ⟨kd, tx, pc, nc, cc, pe, ne, ce, rfl, rfl, rfl, rfl⟩ := jat_four hjx
            have hgS : g1 ≠ S := by
              obtain ⟨_, p2, cap2, h2, _, h4⟩ := HSl.out
              cases h2
              rcases h4 with h4 | ⟨g, q, h5, h6, _⟩
              · omega
              · cases h5; exact h6
            have k4 : wr.cell? ⟨g1, o1 + i * 4 + 3, none⟩ = some (.slice pe ne ce) := by
              have hq := hx1 _ _ m4
              exact (World.cell?_of_block (a := ⟨g1, o1 + (i * 4 + 3), none⟩) (i2.block g1 (World.block_lt_of_cell? W _ hq) hgS)).trans hq
            have hcall := HREC.out i _ hu1 st1 wr _ _ _ _ i3 hd1 hjw i1
            have hvl := visJ_le nest (ls[i]'hlt) (d + 1) st1 i3
            have HI4 : Hid (R = match visJ nest (ls[i]'hlt) (d + 1) st1 with | (false, st') => (false, st') | (true, st') => visJs nest (ls.drop (i + 1)) d st') := Lib.hid (by
              rw [i4, List.drop_eq_getElem_cons hlt]; rw [visJs])
            have HB2 := Lib.hid i2
            obtain ⟨V, hV⟩ : ∃ V, visJ nest (ls[i]'hlt) (d + 1) st1 = V := ⟨_, rfl⟩
            rw [hV] at hcall hvl HI4
            obtain ⟨vb, vst⟩ := V
            clear hx1 hu1 hjx m1 m2 m3 m4 hjw hst i1 i2 i4 hV HI hgS
            cases vb with
            | true =>
              go_wp2_with fail
              refine hcall.mono ?_
              rintro e w2 ⟨rfl, hs2, hb2⟩
              have HI2 : Hid (VInv S nest d R W (ls.drop (i + 1)) w2) := Lib.hid ⟨vst, hs2, HB2.out.trans hb2, hvl, HI4.out⟩
              clear hs2 hb2 hcall
              go_wp2
              exact ⟨⟨i + 1, by omega, rfl, HI2⟩, by simp [intOf]; omega⟩
            | false =>
              go_wp2_with fail
              refine hcall.mono ?_
              rintro e w2 ⟨rfl, hs2, hb2⟩
              have HE : Hid (VEnd S nest R W (.returned (.bool false)) w2) := Lib.hid (by rw [HI4.out]; exact ⟨rfl, hs2, HB2.out.trans hb2⟩)
              clear hs2 hb2 hcall
              go_wp2
              go_ret
              exact HE.out
          · obtain rfl : i = ls.length := by omega
            have hlt' : ¬ (ls.length : Int) < (ls.length : Int) := by omega
            have HE : Hid (VEnd S nest R W (.returned (.bool true)) wr) := Lib.hid (by
              obtain ⟨st1, i1, i2, i3, i4⟩ := HI.out
              rw [List.drop_length, visJs] at i4
              rw [i4]; exact ⟨rfl, i1, i2⟩)
            go_wp2
            go_ret
            exact HE.out
end Go.Proofs.YtgcpgieojckheaaGreatDoor.Json
namespace Go.Proofs.YtgcpgieojckheaaGreatDoor.Json
open Go.RowKit Go.Shelf

theorem visit_deep (S nest : Nat) (hn : nest ≤ 100000) : ∀ (n : Nat) (j : J), deepJ j ≤ n → bigJ j → ∀ (d : Nat) (st : Nat × Bool) (w : World) (va vb vc vd : Value), d ≤ 200000 → st.1 ≤ 2147483647 → JAt (· ≠ S) w j [va, vb, vc, vd] → SAt S nest st w →
    Calls Tryz.prog 101 #[.pointer (some ⟨S, 0, none⟩), vd, .int .i64 d] w (VEnd S nest (visJ nest j d st) w)
  | 0, .mk k t ns ls, hd, _, _, _, _, _, _, _, _, _, _, _, _ => by unfold deepJ at hd; omega
  | n + 1, .mk k t ns ls, hd, hbig, d, st, w, va, vb, vc, vd, h1, h2, hj, hs => by
    obtain ⟨pc, cc, pd, cd, vs, he, _, hs2, hs3⟩ := hj.form
    injection he with _ he; injection he with _ he; injection he with _ he; injection he with he _
    subst he
    unfold bigJ at hbig
    refine visit_one S nest d k t ns ls st w pd cd vs hn h1 h2 (by omega) hs hs2 hs3 (Lib.hid fun i x hi st w va vb vc vd hc hd2 hjx hsx => visit_deep S nest hn n x ?_ (bigsJ_at ls i x hbig.2.2 hi) (d + 1) st w va vb vc vd (by omega) hc hjx hsx)
    have := deepJ_at ls i x hi
    unfold deepJ at hd; omega
/-- What checkSize says. -/
def sizeG (j : J) : Nat := if (visJ 64 (.mk 0 [] [] [j]) 1 (0, false)).2.2 then 61 else if 65536 < (visJ 64 (.mk 0 [] [] [j]) 1 (0, false)).2.1 then 40 else 0
set_option maxHeartbeats 4000000 in
set_option maxRecDepth 100000 in
theorem size_any (j : J) (hbig : bigJ j) (W : World) (cs : List Value) (hj : JAt AnyB W j cs) :
    Calls Tryz.prog 65 #[.agg cs.toArray] W fun e w' => e = .returned (.int .i64 (sizeG j)) ∧ Below W.heap.size W w' := by
  obtain ⟨va, vb, vc, vd, rfl⟩ := hj.four
  obtain ⟨kd, tx, pc, nc, cc, pe, ne, ce, rfl, rfl, rfl, rfl⟩ := jat_four hj
  rw [show ([.int .u8 (kd : Int), .string tx, .slice pc nc cc, .slice pe ne ce] : List Value).toArray = #[.int .u8 (kd : Int), .string tx, .slice pc nc cc, .slice pe ne ce] from rfl]
  obtain ⟨K, hK⟩ : ∃ K : Int, (kd : Int) = K := ⟨_, rfl⟩
  rw [hK] at hj ⊢
  obtain ⟨w1, hw1⟩ : ∃ w1, W.alloc (.cells #[.int .u8 K, .string tx, .slice pc nc cc, .slice pe ne ce] 47) = w1 := ⟨_, rfl⟩
  have hp1 : w1.heap[W.heap.size]? = some (.cells #[.int .u8 K, .string tx, .slice pc nc cc, .slice pe ne ce] 47 (0, 0)) := by rw [← hw1]; exact World.alloc_heap_new W _
  have hb1 : Below W.heap.size W w1 := by rw [← hw1]; exact galloc (Below.refl _ _) _
  have hs1 : w1.heap.size = W.heap.size + 1 := by rw [← hw1]; simp
  obtain ⟨wz, hwz⟩ : ∃ wz, w1.alloc (.cells #[.int .i64 0, .int .i64 0, .bool false] 124) = wz := ⟨_, rfl⟩
  have kR : wz.heap[w1.heap.size]? = some (.cells #[.int .i64 0, .int .i64 0, .bool false] 124 (0, 0)) := by rw [← hwz]; exact World.alloc_heap_new w1 _
  have hbz : Below w1.heap.size w1 wz := by rw [← hwz]; exact galloc (Below.refl _ _) _
  have hsz : wz.heap.size = w1.heap.size + 1 := by rw [← hwz]; simp
  obtain ⟨S, hSe⟩ : ∃ S, w1.heap.size = S := ⟨_, rfl⟩
  rw [hSe] at kR hbz hsz
  obtain ⟨w2, hw2⟩ : ∃ w2, ((wz.setCell ⟨S, 0, none⟩ (.int .i64 64)).setCell ⟨S, 1, none⟩ (.int .i64 0)).setCell ⟨S, 2, none⟩ (.bool false) = w2 := ⟨_, rfl⟩
  have k2 : w2.heap[S]? = some (.cells #[.int .i64 64, .int .i64 0, .bool false] 124 (0, 0)) := by
    rw [← hw2]; exact heap_setCell_same _ _ 2 _ _ (.bool false) (heap_setCell_same _ _ 1 _ _ (.int .i64 0) (heap_setCell_same _ _ 0 _ _ (.int .i64 64) kR))
  have hb2 : Below S w1 w2 := by
    rw [← hw2]
    exact ((hbz.setCell (p := ⟨S, 0, none⟩) (Nat.le_refl _) _).setCell (p := ⟨S, 1, none⟩) (Nat.le_refl _) _).setCell (p := ⟨S, 2, none⟩) (Nat.le_refl _) _
  obtain ⟨q0, q1, q2, qf⟩ : wz.cell? ⟨S, 0, none⟩ = some (.int .i64 0) ∧ wz.cell? ⟨S, 1, none⟩ = some (.int .i64 0) ∧ wz.cell? ⟨S, 2, none⟩ = some (.bool false) ∧ ∀ o, wz.frozen? ⟨S, o, none⟩ = false :=
    ⟨by rw [Lib.cell_of_heap kR]; rfl, by rw [Lib.cell_of_heap kR]; rfl, by rw [Lib.cell_of_heap kR]; rfl, fun o => Lib.frozen_of_heap kR o⟩
  obtain ⟨N, hN⟩ : ∃ N, W.heap.size = N := ⟨_, rfl⟩
  rw [hN] at hp1 hs1
  have hNS : N < S := by omega
  have hp2 : w2.heap[N]? = some (.cells #[.int .u8 K, .string tx, .slice pc nc cc, .slice pe ne ce] 47 (0, 0)) := (hb2.block N hNS).trans hp1
  obtain ⟨d0, d1, d2, d3⟩ : w2.cell? ⟨N, 0, none⟩ = some (.int .u8 K) ∧ w2.cell? ⟨N, 1, none⟩ = some (.string tx) ∧ w2.cell? ⟨N, 2, none⟩ = some (.slice pc nc cc) ∧ w2.cell? ⟨N, 3, none⟩ = some (.slice pe ne ce) :=
    ⟨by rw [cellH hp2]; rfl, by rw [cellH hp2]; rfl, by rw [cellH hp2]; rfl, by rw [cellH hp2]; rfl⟩
  obtain ⟨w3, hw3⟩ : ∃ w3, w2.alloc (.cells #[.int .u8 K, .string tx, .slice pc nc cc, .slice pe ne ce] 47) = w3 := ⟨_, rfl⟩
  have hp3 : w3.heap[w2.heap.size]? = some (.cells #[.int .u8 K, .string tx, .slice pc nc cc, .slice pe ne ce] 47 (0, 0)) := by rw [← hw3]; exact World.alloc_heap_new w2 _
  have hb3 : Below w2.heap.size w2 w3 := by rw [← hw3]; exact galloc (Below.refl _ _) _
  have hs3 : w3.heap.size = w2.heap.size + 1 := by rw [← hw3]; simp
  have hs2 : S < w2.heap.size := (Array.getElem?_eq_some_iff.1 k2).1
  obtain ⟨L, hL⟩ : ∃ L, w2.heap.size = L := ⟨_, rfl⟩
  have hbW : Below N W w3 := by rw [← hN]; exact (hb1.trans (hb2.mono (by omega))).trans (hb3.mono (by omega))
  rw [hL] at hp3 hs3 hs2
  have hjS : JAt (· ≠ S) w3 j [.int .u8 K, .string tx, .slice pc nc cc, .slice pe ne ce] := by
    have h0 : JAt (· < N) W j [.int .u8 K, .string tx, .slice pc nc cc, .slice pe ne ce] := JAt.mono (fun i h _ => by show i < N; omega) j _ hj
    have h1 : JAt (· < N) w3 j [.int .u8 K, .string tx, .slice pc nc cc, .slice pe ne ce] := JAt.world ⟨hbW.size, fun i _ h => hbW.block i h⟩ j _ h0
    exact JAt.mono (fun i _ h => by have h : i < N := h; show i ≠ S; omega) j _ h1
  have hsl : SlIn (· ≠ S) w3 (.slice (some ⟨L, 0, none⟩) 1 1) 4 1 [.int .u8 K, .string tx, .slice pc nc cc, .slice pe ne ce] :=
    ⟨rfl, _, 1, rfl, Nat.le_refl _, .inr ⟨L, 0, rfl, by show L ≠ S; omega, by omega, fun i u hi => by
      rw [cellH hp3]
      rw [Nat.zero_add]
      simpa using hi⟩⟩
  have hv := visit_deep S 64 (by omega) (deepJ (.mk 0 [] [] [j])) (.mk 0 [] [] [j]) (Nat.le_refl _) (by unfold bigJ; refine ⟨by simp, by simp, ?_⟩; unfold bigsJ; exact ⟨hbig, by unfold bigsJ; trivial⟩) 1 (0, false) w3 (.int .u8 (0 : Nat)) (bl []) (.slice none 0 0) (.slice (some ⟨L, 0, none⟩) 1 1) (by omega) (Nat.zero_le _)
    (by unfold JAt; exact ⟨_, _, _, rfl, SlIn.nil _ _ _, hsl, by unfold JsAt; exact ⟨_, [], by simp, hjS, by unfold JsAt; rfl⟩⟩) ((hb3.block S (by omega)).trans k2)
  have HSG : Hid (sizeG j = if (visJ 64 (.mk 0 [] [] [j]) 1 (0, false)).2.2 then 61 else if 65536 < (visJ 64 (.mk 0 [] [] [j]) 1 (0, false)).2.1 then 40 else 0) := Lib.hid rfl
  obtain ⟨V, hV⟩ : ∃ V, visJ 64 (.mk 0 [] [] [j]) 1 (0, false) = V := ⟨_, rfl⟩
  rw [hV] at hv HSG
  obtain ⟨v1, v2, v3⟩ := V
  have HBW := Lib.hid hbW
  have HSN : Hid (N ≤ S) := Lib.hid (by omega)
  have HNN := Lib.hid hN
  clear hj hp1 hb1 hs1 kR hbz hsz k2 hb2 hp2 hp3 hb3 hs3 hs2 hjS hsl hV hbW hbig hNS hK
  go_enter Tryz.func65, Tryz.ntmps65
  go_wp2_with fail
  refine hv.mono ?_
  rintro e w4 ⟨rfl, hs4, hb4⟩
  obtain ⟨c1, c2⟩ : w4.cell? ⟨S, 1, none⟩ = some (.int .i64 v2) ∧ w4.cell? ⟨S, 2, none⟩ = some (.bool v3) := by
    unfold SAt at hs4
    exact ⟨by rw [Lib.cell_of_heap hs4]; rfl, by rw [Lib.cell_of_heap hs4]; rfl⟩
  have HB4 : Hid (Below W.heap.size W w4) := Lib.hid (by
    rw [HNN.out]
    exact HBW.out.trans ⟨hb4.os, hb4.tape, hb4.output, hb4.size, fun k hk => hb4.block k (by have := HBW.out.size; rw [HNN.out] at this; omega) (by have := HSN.out; omega)⟩)
  have HSG2 := HSG
  clear hv hs4 hb4
  cases v3 with
  | true =>
    go_wp2
    go_ret
    rw [HSG.out]
    exact ⟨rfl, HB4.out⟩
  | false =>
    by_cases hc : 65536 < v2
    · have hc' : (65536 : Int) < (v2 : Int) := by omega
      have HE : Hid (sizeG j = 40) := Lib.hid (by rw [HSG.out]; simp [hc])
      clear hc
      go_wp2
      go_ret
      rw [HE.out]
      exact ⟨rfl, HB4.out⟩
    · have hc' : ¬ (65536 : Int) < (v2 : Int) := by omega
      have HE : Hid (sizeG j = 0) := Lib.hid (by rw [HSG.out]; simp [hc])
      clear hc
      go_wp2
      go_ret
      rw [HE.out]
      exact ⟨rfl, HB4.out⟩
end Go.Proofs.YtgcpgieojckheaaGreatDoor.Json
