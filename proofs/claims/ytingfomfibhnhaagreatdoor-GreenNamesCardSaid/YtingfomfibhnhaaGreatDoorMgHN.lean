/-
  given: a tree copied as it is handed in.
  given, walked.
-/
import Derived.Test.YtingfomfibhnhaaGreatDoorMgHM
import Derived.Deep.AppendLies
import Derived.Deep.RegionLaw
import Derived.Maps.AppendAt
namespace Go.Proofs.YtingfomfibhnhaaGreatDoor
open Go.RowKit Go.Shelf Go.Maps

theorem info27 : (Tryz.prog.info? 27).map (fun i => (i.zero, i.size, i.bytes)) = some (some (.agg #[.int .u8 0, .int .u8 0, .string ⟨#[]⟩, .slice none 0 0]), 4, 56) := by kernel_rfl
theorem und23 : Tryz.prog.underlying 23 = some (.slice 27) := by kernel_rfl
/-- All is kept but the block b. -/
structure OnlyN (b : Nat) (w w' : World) : Prop where
  os : w'.os = w.os
  tape : w'.tape = w.tape
  output : w'.output = w.output
  size : w'.heap.size = w.heap.size
  block : ∀ k, k ≠ b → w'.heap[k]? = w.heap[k]?
theorem OnlyN.set (b : Nat) (w : World) (o : Nat) (v : Value) : OnlyN b w (w.setCell ⟨b, o, none⟩ v) :=
  ⟨rfl, rfl, rfl, by simp [World.setCell], fun k hk => Below.heap_setCell w ⟨b, o, none⟩ v k hk⟩
/-- All that lay before is kept, but the block b. -/
structure ButN (b : Nat) (w w' : World) : Prop where
  os : w'.os = w.os
  tape : w'.tape = w.tape
  output : w'.output = w.output
  size : w.heap.size ≤ w'.heap.size
  block : ∀ k, k < w.heap.size → k ≠ b → w'.heap[k]? = w.heap[k]?
theorem ButN.refl (b : Nat) (w : World) : ButN b w w := ⟨rfl, rfl, rfl, Nat.le_refl _, fun _ _ _ => rfl⟩
theorem ButN.trans {b : Nat} {w x y : World} (h : ButN b w x) (k : ButN b x y) : ButN b w y :=
  ⟨k.os.trans h.os, k.tape.trans h.tape, k.output.trans h.output, Nat.le_trans h.size k.size, fun j hj hb => (k.block j (Nat.lt_of_lt_of_le hj h.size) hb).trans (h.block j hj hb)⟩
theorem ButN.of {b : Nat} {w w' : World} (h : Below w.heap.size w w') : ButN b w w' := ⟨h.os, h.tape, h.output, h.size, fun k hk _ => h.block k hk⟩
theorem ButN.set (b : Nat) (w : World) (o : Nat) (v : Value) : ButN b w (w.setCell ⟨b, o, none⟩ v) := by
  have h := OnlyN.set b w o v
  exact ⟨h.os, h.tape, h.output, Nat.le_of_eq h.size.symm, fun k _ hk => h.block k hk⟩
theorem ButN.below {b n : Nat} {w w' : World} (h : ButN b w w') (hn : n ≤ b) (hz : n ≤ w.heap.size) : Below n w w' := ⟨h.os, h.tape, h.output, h.size, fun k hk => h.block k (by omega) (by omega)⟩
theorem ButN.grown {b : Nat} {W w w' : World} {row : Option Nat} (h : ButN b W w) (hg : w.grownBy w' row) (hr : ∀ g, row = some g → W.heap.size ≤ g) : ButN b W w' :=
  ⟨hg.os.trans h.os, hg.tape.trans h.tape, hg.output.trans h.output, Nat.le_trans h.size hg.size, fun k hk hkb => (hg.block k (Nat.lt_of_lt_of_le hk h.size) (fun e => by have := hr k e.symm; omega)).trans (h.block k hk hkb)⟩
theorem own_butN {w w' : World} {b B : Nat} {e : TypeId} {size n : Nat} {v : Value} {xs : List Value} (h : w.ownsRow B e size v n xs) (hb : ButN b w w') (hB : b < B) : w'.ownsRow B e size v n xs := by
  refine ⟨h.1, ?_⟩
  rcases h.2 with h2 | ⟨g, cap, cur, rfl, h4, h5, h6⟩
  · exact .inl h2
  · exact .inr ⟨g, cap, cur, rfl, h4, (hb.block g (Array.getElem?_eq_some_iff.1 h5).1 (by omega)).trans h5, h6⟩
def JFarN (J : Nat) (cs : Array Value) (row : Option Nat) (w : World) : Prop := w.heap[J]? = some (.cells cs 27 (0, 0)) ∧ some J ≠ row
theorem heap_grownN {J : Nat} {cs : Array Value} {row : Option Nat} {w w' : World} (hg : w.grownBy w' row) (h : JFarN J cs row w) : w'.heap[J]? = some (.cells cs 27 (0, 0)) :=
  (hg.block J (Array.getElem?_eq_some_iff.1 h.1).1 h.2).trans h.1
theorem cell_grownN {J : Nat} {p q u v : Value} {row : Option Nat} {w w' : World} (hg : w.grownBy w' row) (h : JFarN J #[p, q, u, v] row w) : w'.cell? ⟨J, 3, none⟩ = some v := by
  rw [Lib.cell_of_heap (heap_grownN hg h)]; rfl
theorem cellJN {J : Nat} {p q u v : Value} {row : Option Nat} {w : World} (h : JFarN J #[p, q, u, v] row w) : w.cell? ⟨J, 3, none⟩ = some v := by
  rw [Lib.cell_of_heap h.1]; rfl
theorem froz_grownN {J : Nat} {cs : Array Value} {row : Option Nat} {w w' : World} (hg : w.grownBy w' row) (h : JFarN J cs row w) : w'.frozen? ⟨J, 3, none⟩ = false := Lib.frozen_of_heap (heap_grownN hg h) 3
theorem box_fourN {W0 : World} {N : Nat} {a0 b0 c0 d0 : Value} (kR : W0.heap[N]? = some (.cells #[a0, b0, c0, d0] 27 (0, 0))) (a b c d : Value) :
    ((((W0.setCell ⟨N, 0, none⟩ a).setCell ⟨N, 1, none⟩ b).setCell ⟨N, 2, none⟩ c).setCell ⟨N, 3, none⟩ d).heap[N]? = some (.cells #[a, b, c, d] 27 (0, 0)) :=
  heap_setCell_same _ _ 3 _ _ d (heap_setCell_same _ _ 2 _ _ c (heap_setCell_same _ _ 1 _ _ b (heap_setCell_same _ _ 0 _ _ a kR)))
/-- A row of nodes that has grown by one. -/
theorem nrows_snoc {b B : Nat} {lv v' : Value} {js : List T} {j : T} {xs four : List Value} {w wx w2 : World} {o : Obj}
    (hown2 : w.ownsRow B 27 4 lv js.length xs) (hjs : NsAt (fun g => B ≤ g ∧ lv.ownBlock ≠ some g) w js xs) (hBw : B ≤ w.heap.size) (hbB : b < B)
    (hbx : ButN b w wx) (hj : NAt (fun g => w.heap.size ≤ g) wx j four)
    (hgrow : (wx.alloc o).grownBy w2 lv.ownBlock) (hat : v'.ownBlock = lv.ownBlock ∨ v'.ownBlock = some (wx.heap.size + 1)) :
    NsAt (fun g => B ≤ g ∧ v'.ownBlock ≠ some g) w2 (js ++ [j]) (xs ++ four) := by
  have hsz := hbx.size
  have hbl := hown2.lt
  have hb0 := galloc (Below.refl wx.heap.size wx) o
  have hs0 : (wx.alloc o).heap.size = wx.heap.size + 1 := by simp
  have key : ∀ i, i < wx.heap.size → lv.ownBlock ≠ some i → v'.ownBlock ≠ some i := fun i hi h e => by
    rcases hat with h' | h'
    · exact h (by rw [← h', e])
    · rw [h'] at e; have := Option.some.inj e; omega
  have st : Stays (fun i => (B ≤ i ∧ lv.ownBlock ≠ some i) ∧ v'.ownBlock ≠ some i) wx w2 :=
    ⟨by have := hgrow.size; omega, fun i hi h => (hgrow.block i (by omega) (fun e => h.1.2 e.symm)).trans (hb0.block i hi)⟩
  refine NsAt.snoc ?_ js xs ?_
  · refine NAt.mono (S := fun i => (B ≤ i ∧ lv.ownBlock ≠ some i) ∧ v'.ownBlock ≠ some i) (fun i _ h => ⟨h.1.1, h.2⟩) j four ?_
    refine NAt.world st j four (NAt.mono (fun i hi h => ?_) j four hj)
    have h : w.heap.size ≤ i := h
    have h1 : lv.ownBlock ≠ some i := fun e => by have := (hbl i e).2; omega
    exact ⟨⟨Nat.le_trans hBw h, h1⟩, key i hi h1⟩
  · refine NsAt.mono (S := fun i => (B ≤ i ∧ lv.ownBlock ≠ some i) ∧ v'.ownBlock ≠ some i) (fun i _ h => ⟨h.1.1, h.2⟩) js xs ?_
    refine NsAt.world st js xs (NsAt.mono (fun i hi h => ⟨h, key i hi h.2⟩) js xs (NsAt.world ⟨hsz, fun i hi h => hbx.block i hi (by have := h.1; omega)⟩ js xs hjs))
/-- The box of the out tree, and its row of Kids so far. -/
def GInv (w0 : World) (O : Nat) (a b c : Value) (js : List T) (wr : World) : Prop :=
  ButN O w0 wr ∧ ∃ (pd : Option Addr) (cd : Nat) (xs : List Value), wr.heap[O]? = some (.cells #[a, b, c, .slice pd js.length cd] 27 (0, 0)) ∧ wr.ownsRow w0.heap.size 27 4 (.slice pd js.length cd) js.length xs ∧
    NsAt (fun g => w0.heap.size ≤ g ∧ (Value.slice pd js.length cd).ownBlock ≠ some g) wr js xs
theorem own_oN {w : World} {B O : Nat} {v : Value} {n : Nat} {xs : List Value} (h : w.ownsRow B 27 4 v n xs) (hO : O < B) : some O ≠ v.ownBlock := fun e => by have := (h.lt O e.symm).1; omega
theorem ginv_step {w0 wr w5 w6 : World} {O g cap : Nat} {a b c p q u x : Value} {pd : Option Addr} {cd n : Nat} {js : List T} {j : T} {xs : List Value} (hn : js.length = n) (hO : O < w0.heap.size) (hb : ButN O w0 wr)
    (hh : wr.heap[O]? = some (.cells #[a, b, c, .slice pd n cd] 27 (0, 0))) (hown : wr.ownsRow w0.heap.size 27 4 (.slice pd n cd) n xs)
    (hjs : NsAt (fun g => w0.heap.size ≤ g ∧ (Value.slice pd n cd).ownBlock ≠ some g) wr js xs)
    (hb5 : Below wr.heap.size wr w5) (hj : NAt (fun g => wr.heap.size ≤ g) w5 j [p, q, u, x])
    (hgrow : (w5.alloc (.cells #[p, q, u, x] 27)).grownBy w6 (Value.slice pd n cd).ownBlock) (hown3 : w6.ownsRow w0.heap.size 27 4 (.slice (some ⟨g, 0, none⟩) (n + 1) cap) (n + 1) (xs ++ [p, q, u, x]))
    (hat : (Value.slice pd n cd).ownBlock = some g ∨ g = (w5.alloc (.cells #[p, q, u, x] 27)).heap.size) :
    GInv w0 O a b c (js ++ [j]) (w6.setCell ⟨O, 3, none⟩ (.slice (some ⟨g, 0, none⟩) (n + 1) cap)) := by
  subst hn
  have hO5 : some O ≠ (Value.slice pd js.length cd).ownBlock := own_oN hown hO
  have hs := hb.size
  have hs5 := hb5.size
  have hj6 := nrows_snoc (b := O) (w := wr) (wx := w5) (w2 := w6) (v' := .slice (some ⟨g, 0, none⟩) (js.length + 1) cap) (o := .cells #[p, q, u, x] 27) hown hjs hs hO (ButN.of hb5) hj hgrow
    (by rcases hat with h | h
        · exact .inl (by rw [h]; rfl)
        · exact .inr (by rw [h]; simp [Value.ownBlock]))
  have hOl : O < wr.heap.size := by omega
  have hb6 : ButN O w0 w6 := ((hb.trans (ButN.of hb5)).trans (ButN.of (galloc (Below.refl w5.heap.size w5) (.cells #[p, q, u, x] 27)))).grown hgrow (fun g hg => (hown.lt g hg).1)
  have hO6 : w6.heap[O]? = some (.cells #[a, b, c, .slice pd js.length cd] 27 (0, 0)) := (hgrow.block O (by simp; omega) hO5).trans (((galloc (Below.refl w5.heap.size w5) _).block O (by omega)).trans ((hb5.block O hOl).trans hh))
  have ho := OnlyN.set O w6 3 (.slice (some ⟨g, 0, none⟩) (js.length + 1) cap)
  refine ⟨hb6.trans (ButN.set _ _ _ _), some ⟨g, 0, none⟩, cap, xs ++ [p, q, u, x], ?_, ?_, ?_⟩
  · rw [List.length_append]
    exact heap_setCell_same w6 O 3 _ _ _ hO6
  · rw [List.length_append]
    exact ownsRow_setCell_other hown3 (fun e => by have := (hown3.lt O e).1; omega) _
  · rw [List.length_append]
    exact NsAt.world ⟨Nat.le_of_eq ho.size.symm, fun k _ hk => ho.block k (fun e => by have := hk.1; omega)⟩ _ _ hj6
/-- What given ends in. -/
def GivEnd (x : T) (W : World) (e : Ending) (w' : World) : Prop := ∃ (p : Option Addr) (c : Nat), e = .returned (aggN x p c) ∧ NAt (fun g => W.heap.size ≤ g) w' x (cellsN x p c) ∧ Below W.heap.size W w'
/-- The out tree, told: its box R. -/
theorem given_end {W w3 wr : World} {k : Nat} {t : Tok} {ls : List T} {O R : Nat} {a b c z0 z1 z2 z3 : Value} {pd : Option Addr} {cd : Nat}
    (hbW : Below W.heap.size W w3) (hWR : W.heap.size ≤ R) (hR2 : R < w3.heap.size) (hOW : W.heap.size ≤ O)
    (hI : GInv w3 O a b c ls wr) (hO : wr.heap[O]? = some (.cells #[a, b, c, .slice pd ls.length cd] 27 (0, 0)))
    (hR : wr.heap[R]? = some (.cells #[z0, z1, z2, z3] 27 (0, 0))) :
    NAt (fun g => W.heap.size ≤ g) ((((wr.setCell ⟨R, 0, none⟩ a).setCell ⟨R, 1, none⟩ b).setCell ⟨R, 2, none⟩ c).setCell ⟨R, 3, none⟩ (.slice pd ls.length cd)) (.mk k t ls) (cellsN (.mk k t ls) pd cd) ∧
    Below W.heap.size W ((((wr.setCell ⟨R, 0, none⟩ a).setCell ⟨R, 1, none⟩ b).setCell ⟨R, 2, none⟩ c).setCell ⟨R, 3, none⟩ (.slice pd ls.length cd)) ∧
    ((((wr.setCell ⟨R, 0, none⟩ a).setCell ⟨R, 1, none⟩ b).setCell ⟨R, 2, none⟩ c).setCell ⟨R, 3, none⟩ (.slice pd ls.length cd)).heap[R]? = some (.cells #[a, b, c, .slice pd ls.length cd] 27 (0, 0)) := by
  obtain ⟨hb, pe, ce, xs, hO', hown, hjs⟩ := hI
  rw [hO] at hO'
  have e := Option.some.inj hO'
  injection e with e _ _
  have e3 : (Value.slice pd ls.length cd) = .slice pe ls.length ce := by
    have := congrArg (fun (x : Array Value) => x[3]?) e
    simpa using this
  have hs1 := hbW.size
  have hs3 := hb.size
  have o : ∀ i, i ≠ R → ((((wr.setCell ⟨R, 0, none⟩ a).setCell ⟨R, 1, none⟩ b).setCell ⟨R, 2, none⟩ c).setCell ⟨R, 3, none⟩ (.slice pd ls.length cd)).heap[i]? = wr.heap[i]? := fun i hk => by
    rw [(OnlyN.set R _ 3 _).block i hk, (OnlyN.set R _ 2 _).block i hk, (OnlyN.set R _ 1 _).block i hk, (OnlyN.set R _ 0 _).block i hk]
  have sz : ((((wr.setCell ⟨R, 0, none⟩ a).setCell ⟨R, 1, none⟩ b).setCell ⟨R, 2, none⟩ c).setCell ⟨R, 3, none⟩ (.slice pd ls.length cd)).heap.size = wr.heap.size := by
    rw [(OnlyN.set R _ 3 _).size, (OnlyN.set R _ 2 _).size, (OnlyN.set R _ 1 _).size, (OnlyN.set R _ 0 _).size]
  have hBr : Below W.heap.size W wr :=
    ⟨hb.os.trans hbW.os, hb.tape.trans hbW.tape, hb.output.trans hbW.output, Nat.le_trans hbW.size hb.size, fun k hk => (hb.block k (by omega) (by omega)).trans (hbW.block k hk)⟩
  have hBf := (((hBr.setCell (p := ⟨R, 0, none⟩) hWR a).setCell (p := ⟨R, 1, none⟩) hWR b).setCell (p := ⟨R, 2, none⟩) hWR c).setCell (p := ⟨R, 3, none⟩) hWR (.slice pd ls.length cd)
  have hbox := box_fourN hR a b c (.slice pd ls.length cd)
  generalize (((wr.setCell ⟨R, 0, none⟩ a).setCell ⟨R, 1, none⟩ b).setCell ⟨R, 2, none⟩ c).setCell ⟨R, 3, none⟩ (.slice pd ls.length cd) = wf at *
  refine ⟨?_, hBf, hbox⟩
  injection e3 with e4 e5 e6
  subst e4 e6
  have hst : Stays (fun g => w3.heap.size ≤ g) wr wf := ⟨by rw [sz]; exact Nat.le_refl _, fun i hi h => o i (by omega)⟩
  refine NAt.make (k := k) (t := t) (ks := ls) (vs := xs) ?_ ?_
  · exact ((SlIn.of_owns (S := fun g => w3.heap.size ≤ g) hown (fun g hg => (hown.lt g hg).1)).world hst).mono (fun i _ h => Nat.le_trans hs1 h)
  · exact NsAt.mono (fun i _ h => Nat.le_trans hs1 h) ls xs (NsAt.world hst ls xs (NsAt.mono (fun i _ h => h.1) ls xs hjs))
end Go.Proofs.YtingfomfibhnhaaGreatDoor
namespace Go.Proofs.YtingfomfibhnhaaGreatDoor
open Go.RowKit Go.Shelf Go.Maps

set_option maxHeartbeats 8000000 in
set_option maxRecDepth 100000 in
theorem given_one (k : Nat) (t : Tok) (ls : List T) (W : World) (pd : Option Addr) (cd : Nat) (vs : List Value) (hll : ls.length ≤ 1000000)
    (hd : SlIn AnyB W (.slice pd ls.length cd) 4 ls.length vs) (hj : NsAt AnyB W ls vs)
    (HREC : Hid (∀ (i : Nat) x, ls[i]? = some x → ∀ (w : World) (p : Option Addr) (c : Nat), NAt AnyB w x (cellsN x p c) → Calls Tryz.prog 21 #[aggN x p c] w (GivEnd x w))) :
    Calls Tryz.prog 21 #[.agg #[.int .u8 k, .int .u8 t.1, .string ⟨t.2.toArray⟩, .slice pd ls.length cd]] W (GivEnd (.mk k t ls) W) := by
  obtain ⟨TX, hTX⟩ : ∃ TX : ByteArray, (⟨t.2.toArray⟩ : ByteArray) = TX := ⟨_, rfl⟩
  obtain ⟨K, hK⟩ : ∃ K : Int, (k : Int) = K := ⟨_, rfl⟩
  obtain ⟨TK, hTK⟩ : ∃ K : Int, (t.1 : Int) = K := ⟨_, rfl⟩
  rw [hTX, hK, hTK]
  obtain ⟨w1, hw1⟩ : ∃ w1, W.alloc (.cells #[.int .u8 K, .int .u8 TK, .string TX, .slice pd ls.length cd] 27) = w1 := ⟨_, rfl⟩
  have hp1 : w1.heap[W.heap.size]? = some (.cells #[.int .u8 K, .int .u8 TK, .string TX, .slice pd ls.length cd] 27 (0, 0)) := by rw [← hw1]; exact World.alloc_heap_new W _
  have hb1 : Below W.heap.size W w1 := by rw [← hw1]; exact galloc (Below.refl _ _) _
  have hs1 : w1.heap.size = W.heap.size + 1 := by rw [← hw1]; simp
  obtain ⟨w2, hw2⟩ : ∃ w2, w1.alloc (.cells #[.int .u8 0, .int .u8 0, .string ⟨#[]⟩, .slice none 0 0] 27) = w2 := ⟨_, rfl⟩
  have hp2 : w2.heap[w1.heap.size]? = some (.cells #[.int .u8 0, .int .u8 0, .string ⟨#[]⟩, .slice none 0 0] 27 (0, 0)) := by rw [← hw2]; exact World.alloc_heap_new w1 _
  have hb2 : Below w1.heap.size w1 w2 := by rw [← hw2]; exact galloc (Below.refl _ _) _
  have hs2 : w2.heap.size = W.heap.size + 2 := by rw [← hw2]; simp [hs1]
  obtain ⟨wc, hwc⟩ : ∃ wc, w2.alloc (.cells #[.int .u8 K, .int .u8 TK, .string TX, .slice none 0 0] 27) = wc := ⟨_, rfl⟩
  have hpc : wc.heap[w2.heap.size]? = some (.cells #[.int .u8 K, .int .u8 TK, .string TX, .slice none 0 0] 27 (0, 0)) := by rw [← hwc]; exact World.alloc_heap_new w2 _
  have hbc : Below w2.heap.size w2 wc := by rw [← hwc]; exact galloc (Below.refl _ _) _
  have hsc : wc.heap.size = W.heap.size + 3 := by rw [← hwc]; simp [hs2]
  have hbW0 : Below W.heap.size W wc := gcall (gcall hb1 hb2 (by omega)) hbc (by omega)
  obtain ⟨_, _, _, z3⟩ := box4 hpc
  have zf : ∀ o, wc.frozen? ⟨w2.heap.size, o, none⟩ = false := fun o => Lib.frozen_of_heap hpc o
  obtain ⟨wd, hwd⟩ : ∃ wd, wc.setCell ⟨w2.heap.size, 3, none⟩ (.slice none 0 0) = wd := ⟨_, rfl⟩
  have hpd : wd.heap[w2.heap.size]? = some (.cells #[.int .u8 K, .int .u8 TK, .string TX, .slice none 0 0] 27 (0, 0)) := by rw [← hwd]; exact heap_setCell_same _ _ 3 _ _ _ hpc
  have hbd : OnlyN w2.heap.size wc wd := by rw [← hwd]; exact OnlyN.set _ _ _ _
  have hsd : wd.heap.size = W.heap.size + 3 := hbd.size.trans hsc
  have hbW : Below W.heap.size W wd := by rw [← hwd]; exact hbW0.setCell (p := ⟨w2.heap.size, 3, none⟩) (by show W.heap.size ≤ w2.heap.size; omega) _
  obtain ⟨N, hN⟩ : ∃ N, W.heap.size = N := ⟨_, rfl⟩
  obtain ⟨R, hR⟩ : ∃ R, w1.heap.size = R := ⟨_, rfl⟩
  obtain ⟨O, hO⟩ : ∃ O, w2.heap.size = O := ⟨_, rfl⟩
  have hq1 : w1.heap[N]? = some (.cells #[.int .u8 K, .int .u8 TK, .string TX, .slice pd ls.length cd] 27 (0, 0)) := by rw [← hN]; exact hp1
  have hq2 : w2.heap[N]? = some (.cells #[.int .u8 K, .int .u8 TK, .string TX, .slice pd ls.length cd] 27 (0, 0)) := (hb2.block _ (by omega)).trans hq1
  have hqc : wc.heap[N]? = some (.cells #[.int .u8 K, .int .u8 TK, .string TX, .slice pd ls.length cd] 27 (0, 0)) := (hbc.block _ (by omega)).trans hq2
  rw [hR] at hp2
  rw [hO] at hpd z3 zf hwd
  have hqd : wd.heap[N]? = some (.cells #[.int .u8 K, .int .u8 TK, .string TX, .slice pd ls.length cd] 27 (0, 0)) := (hbd.block _ (by omega)).trans hqc
  have hRd : wd.heap[R]? = some (.cells #[.int .u8 0, .int .u8 0, .string ⟨#[]⟩, .slice none 0 0] 27 (0, 0)) := (hbd.block _ (by omega)).trans ((hbc.block _ (by omega)).trans hp2)
  obtain ⟨d0, d1, d2, d3⟩ := box4 hq2
  obtain ⟨e0, e1, e2, e3⟩ := box4 hqd
  have HN := Lib.hid hN
  have HRe := Lib.hid hR
  have HOe := Lib.hid hO
  have HS1 := Lib.hid hs1
  have HS2 := Lib.hid hs2
  have HSC := Lib.hid hsd
  have HQC := Lib.hid hqd
  have HRC := Lib.hid hRd
  have HOC := Lib.hid hpd
  have HBW := Lib.hid hbW
  have HD := Lib.hid hd
  have HJ := Lib.hid hj
  have HL2 := Lib.hid hll
  have HKK := Lib.hid (And.intro hTX (And.intro hK hTK))
  clear hp1 hb1 hs1 hp2 hb2 hs2 hpc hbc hsc hbW hbW0 hq1 hq2 hqc hqd hRd hpd hbd hsd hd hj hll hTX hK hTK
  go_enter Tryz.func21, Tryz.ntmps21
  go_wp2_with fail
  have HOl : Hid (O < wd.heap.size ∧ R < wd.heap.size ∧ N < wd.heap.size ∧ N ≠ O ∧ R ≠ O ∧ W.heap.size ≤ R ∧ W.heap.size ≤ O) := Lib.hid (by
    have := HS1.out; have := HS2.out; have := HSC.out; have := HN.out; have := HRe.out; have := HOe.out; omega)
  have HI0 : Hid (GInv wd O (.int .u8 K) (.int .u8 TK) (.string TX) (ls.take 0) wd) := Lib.hid ⟨ButN.refl _ _, none, 0, [], HOC.out, World.ownsRow_nil _ _ _ _, by unfold NsAt; rfl⟩
  clear d0 d1 d2 d3 zf z3 hwd hwc hw2 hw1 e0 e1 e2
  go_loopw [4] (fun iv wr => ∃ i : Nat, i ≤ ls.length ∧ iv = .int .i64 i ∧ Hid (GInv wd O (.int .u8 K) (.int .u8 TK) (.string TX) (ls.take i) wr)) (fun iv _ => ls.length - (intOf iv).toNat)
  case atStart => exact ⟨0, by omega, rfl, HI0⟩
  case round =>
    clear e3
    obtain ⟨i, hi, rfl, HI⟩ := hrel
    obtain ⟨hbI, pe, ce, xs, hhO, hown, hjs⟩ := HI.out
    have htl : (ls.take i).length = i := by rw [List.length_take]; omega
    rw [htl] at hhO hown hjs
    have hNr : wr.heap[N]? = some (.cells #[.int .u8 K, .int .u8 TK, .string TX, .slice pd ls.length cd] 27 (0, 0)) := (hbI.block N HOl.out.2.2.1 HOl.out.2.2.2.1).trans HQC.out
    have e3 : wr.cell? ⟨N, 3, none⟩ = some (.slice pd ls.length cd) := by rw [cellH hNr]; rfl
    obtain ⟨z0, z1, z2, z3⟩ := box4 hhO
    rcases Nat.lt_or_ge i ls.length with hlt | hge
    · have hlt' : (i : Int) < (ls.length : Int) := by omega
      have hwi : IntKind.i64.wrap ((i : Int) + 1) = ((i + 1 : Nat) : Int) := by rw [IntWalk.i64_in _ (by have := HL2.out; omega)]; omega
      obtain ⟨g1, o1, rfl, hx1⟩ := HD.out.cellAt (by omega)
      have hu1 := List.getElem?_eq_getElem hlt
      obtain ⟨pf, cf, hjx, m1, m2, m3, m4⟩ := HJ.out.nth ls vs i _ hu1
      have hBr : Below W.heap.size W wr := ⟨hbI.os.trans HBW.out.os, hbI.tape.trans HBW.out.tape, hbI.output.trans HBW.out.output, Nat.le_trans HBW.out.size hbI.size, fun k hk => (hbI.block k (by have := HBW.out.size; omega) (by have := HOl.out; omega)).trans (HBW.out.block k hk)⟩
      have k1 : wr.cell? ⟨g1, o1 + i * 4, none⟩ = some (.int .u8 (ls[i]'hlt).kind) := cell_in hBr (hx1 _ _ m1)
      have k2 : wr.cell? ⟨g1, o1 + i * 4 + 1, none⟩ = some (.int .u8 (ls[i]'hlt).tok.1) := cell_in hBr (hx1 _ _ m2)
      have k3 : wr.cell? ⟨g1, o1 + i * 4 + 2, none⟩ = some (.string ⟨(ls[i]'hlt).tok.2.toArray⟩) := cell_in hBr (hx1 _ _ m3)
      have k4 : wr.cell? ⟨g1, o1 + i * 4 + 3, none⟩ = some (.slice pf (ls[i]'hlt).kids.length cf) := cell_in hBr (hx1 _ _ m4)
      have hcall := HREC.out i _ hu1 wr.drew pf cf (hjx.below hBr.drew)
      have HT : Hid (ls.take (i + 1) = ls.take i ++ [ls[i]'hlt]) := Lib.hid (by rw [List.take_add_one, List.getElem?_eq_getElem hlt]; rfl)
      obtain ⟨x, hx⟩ : ∃ x, ls[i]'hlt = x := ⟨_, rfl⟩
      rw [hx] at k1 k2 k3 k4 hcall HT
      obtain ⟨v1, hv1⟩ : ∃ v : Int, (x.kind : Int) = v := ⟨_, rfl⟩
      obtain ⟨v2, hv2⟩ : ∃ v : Int, (x.tok.1 : Int) = v := ⟨_, rfl⟩
      obtain ⟨v3, hv3⟩ : ∃ v : ByteArray, (⟨x.tok.2.toArray⟩ : ByteArray) = v := ⟨_, rfl⟩
      obtain ⟨v4, hv4⟩ : ∃ v : Nat, x.kids.length = v := ⟨_, rfl⟩
      have hcall2 : Calls Tryz.prog 21 #[.agg #[.int .u8 v1, .int .u8 v2, .string v3, .slice pf v4 cf]] wr.drew (fun e w' => ∃ (p : Option Addr) (c : Nat), e = .returned (.agg #[.int .u8 v1, .int .u8 v2, .string v3, .slice p v4 c]) ∧ NAt (fun g => wr.drew.heap.size ≤ g) w' x [.int .u8 v1, .int .u8 v2, .string v3, .slice p v4 c] ∧ Below wr.drew.heap.size wr.drew w') := by
        rw [← hv1, ← hv2, ← hv3, ← hv4]
        exact hcall
      clear hcall
      have hcall := hcall2
      clear hcall2
      rw [hv1] at k1
      rw [hv2] at k2
      rw [hv3] at k3
      rw [hv4] at k4
      obtain ⟨i27, hi27, hz0, hz1, hz2⟩ := info_parts info27
      have hwO : O < wd.heap.size := HOl.out.1
      have HSTEP := Lib.hid (fun (w5 w6 : World) (g cap : Nat) (p q u y : Value) => @ginv_step wd wr w5 w6 O g cap (.int .u8 K) (.int .u8 TK) (.string TX) p q u y pe ce i (ls.take i) x xs htl hwO hbI hhO hown hjs)
      have HBr := Lib.hid hBr
      have hm1 : i + 1 ≤ maxLen := by have := HL2.out; unfold maxLen; omega
      have hm2 : (i + 1) * 56 ≤ 140737488355328 := by have := HL2.out; omega
      have hOr : O < wr.heap.size := by have := hbI.size; omega
      have hOrow : some O ≠ (Value.slice pe i ce).ownBlock := own_oN hown hwO
      have Jf : ∀ {w5 : World} (o : Obj), Below wr.drew.heap.size wr.drew w5 → JFarN O #[.int .u8 K, .int .u8 TK, .string TX, .slice pe i ce] (Value.slice pe i ce).ownBlock (w5.alloc o) := fun {w5} o h => ⟨((galloc (Below.refl w5.heap.size w5) o).block O (Nat.lt_of_lt_of_le hOr h.size)).trans ((h.block O hOr).trans hhO), hOrow⟩
      have Wf : ∀ {w5 : World} (o : Obj), Below wr.drew.heap.size wr.drew w5 → (w5.alloc o).ownsRow wd.heap.size 27 4 (.slice pe i ce) i xs := fun {w5} o h => own_butN (b := O) (own_butN (b := O) (w := wr.drew) hown (ButN.of h) hwO) (ButN.of (galloc (Below.refl w5.heap.size w5) o)) hwO
      have Sf : ∀ {w5 : World} (o : Obj), Below wr.drew.heap.size wr.drew w5 → wd.heap.size ≤ (w5.alloc o).heap.size := fun {w5} o h => by have h1 := h.size; have h2 := hbI.size; simp at h1 ⊢; omega
      have HC0 := Lib.hid hcall
      have hOrd : O < wr.drew.heap.size := hOr
      have zD : wr.drew.cell? ⟨O, 3, none⟩ = some (.slice pe i ce) := ((Below.refl wr.heap.size wr).drew.cell (p := ⟨O, 3, none⟩) hOr).trans z3
      have Ef : ∀ {w5 : World} {four : List Value}, NAt (fun g => wr.drew.heap.size ≤ g) w5 x four → NAt (fun g => wr.heap.size ≤ g) w5 x four := fun {w5} {four} h => NAt.mono (fun _ _ h => h) _ _ h
      clear HI hbI hhO hown hjs hx1 hu1 hjx m1 m2 m3 m4 hBr hNr hcall hx hv1 hv2 hv3 hv4
      go_wp2_with fail
      go_region_law (first
        | (go_simp; go_at_call 21; with_reducible (refine Calls.mono HC0.out ?_); rintro e w5 ⟨p5, c5p, rfl, hj5, hb5⟩; have HJF := Lib.hid (Jf (.cells #[.int .u8 v1, .int .u8 v2, .string v3, .slice p5 v4 c5p] 27) hb5); have HOX := Lib.hid (Wf (.cells #[.int .u8 v1, .int .u8 v2, .string v3, .slice p5 v4 c5p] 27) hb5); have HSZ := Lib.hid (Sf (.cells #[.int .u8 v1, .int .u8 v2, .string v3, .slice p5 v4 c5p] 27) hb5); have HB5 : Hid (Below wr.heap.size wr w5) := Lib.hid (gcall (Below.refl wr.heap.size wr).drew hb5 (Nat.le_refl _)); have HJ5 : Hid (NAt (fun g => wr.heap.size ≤ g) w5 x [.int .u8 v1, .int .u8 v2, .string v3, .slice p5 v4 c5p]) := Lib.hid (Ef hj5); have c5 := (hb5.cell (p := ⟨O, 3, none⟩) hOrd).trans zD; have c5b := cellJN HJF.out; clear hj5 hb5)
        | (refine step_append_lies _ (by rfl) _ _ _ (by rfl) wd.heap.size 27 i27 (.agg #[.int .u8 0, .int .u8 0, .string ⟨#[]⟩, .slice none 0 0]) 4 56 und23 hi27 hz0 hz1 hz2 rfl (by decide) (.slice pe i ce) i xs (by rfl) HOX.out ⟨w5.heap.size, 0, none⟩ 1 1 [.int .u8 v1, .int .u8 v2, .string v3, .slice p5 v4 c5p] (by rfl) rfl (World.news_of_block (heap_alloc_new w5 _)) (by intro u hu; simp at hu; rcases hu with rfl | rfl | rfl | rfl <;> rfl) (by decide) hm1 hm2 HSZ.out _ rfl ?_; intro gg cap1 w6 hown3 hgrow hat hlt1; have c6 := cell_grownN hgrow HJF.out; have f6 := froz_grownN hgrow HJF.out; have HFIN := Lib.hid (HSTEP.out w5 w6 gg cap1 _ _ _ _ HB5.out HJ5.out hgrow hown3 hat)))
      all_goals (clear Jf Wf Sf Ef HC0 HREC HSTEP)
      all_goals (have HF2 : Hid (GInv wd O (.int .u8 K) (.int .u8 TK) (.string TX) (ls.take (i + 1)) (w6.setCell ⟨O, 3, none⟩ (.slice (some ⟨gg, 0, none⟩) (i + 1) cap1))) := Lib.hid (by rw [HT.out]; exact HFIN.out))
      all_goals (generalize w6.setCell ⟨O, 3, none⟩ (.slice (some ⟨gg, 0, none⟩) (i + 1) cap1) = w7 at *)
      all_goals go_wp2
      all_goals exact ⟨⟨i + 1, by omega, rfl, HF2⟩, by simp [intOf]; omega⟩
    · obtain rfl : i = ls.length := by omega
      have hlt' : ¬ (ls.length : Int) < (ls.length : Int) := by omega
      rw [List.take_length] at HI
      have hRr := (hbI.block R HOl.out.2.1 HOl.out.2.2.2.2.1).trans HRC.out
      have hE := given_end (k := k) (t := t) HBW.out HOl.out.2.2.2.2.2.1 HOl.out.2.1 HOl.out.2.2.2.2.2.2 HI.out hhO hRr
      obtain ⟨q0, q1, q2, q3⟩ := box4 hRr
      have qf : ∀ o, wr.frozen? ⟨R, o, none⟩ = false := fun o => Lib.frozen_of_heap hRr o
      obtain ⟨c0, c1, c2, c3⟩ := box4 hE.2.2
      have HE := Lib.hid hE
      have HC := Lib.hid (And.intro c0 (And.intro c1 (And.intro c2 c3)))
      clear hE hRr hNr hhO hown hjs HI hbI c0 c1 c2 c3 HREC
      go_wp2
      obtain ⟨c0, c1, c2, c3⟩ := HC.out
      refine bodyPost_ret (v := .agg #[.int .u8 K, .int .u8 TK, .string TX, .slice pe ls.length ce]) (by simp [results, Tryz.results21, go_sem, c0, c1, c2, c3]) rfl ⟨pe, ce, ?_, ?_, ?_⟩
      · dsimp only [aggN, T.kind, T.tok, T.kids]; rw [HKK.out.1, HKK.out.2.1, HKK.out.2.2]
      · first | exact HE.out.1 | (rw [← HN.out]; exact HE.out.1)
      · first | exact HE.out.2.1 | (rw [← HN.out]; exact HE.out.2.1)
/-- Lists that may be copied. -/
theorem given_deep : ∀ (n : Nat) (x : T), countT x ≤ n → n ≤ 1000000 → ∀ (W : World) (p : Option Addr) (c : Nat), NAt AnyB W x (cellsN x p c) → Calls Tryz.prog 21 #[aggN x p c] W (GivEnd x W)
  | 0, .mk k t ks, hc, _, _, _, _, _ => by rw [countT_mk] at hc; omega
  | n + 1, .mk k t ks, hc, hn, W, p, c, h => by
    obtain ⟨vs, h1, h2⟩ := h.parts
    have hl := counts_len ks
    rw [countT_mk] at hc
    refine given_one k t ks W p c vs (by omega) h1 h2 (Lib.hid fun i x hx w p' c' h' => ?_)
    refine given_deep n x ?_ (by omega) w p' c' h'
    have := counts_at ks i x hx
    omega
theorem given_any (x : T) (p : Option Addr) (c : Nat) (W : World) (hx : NAt AnyB W x (cellsN x p c)) (hc : countT x ≤ 1000000) : Calls Tryz.prog 21 #[aggN x p c] W (GivEnd x W) :=
  given_deep _ x (Nat.le_refl _) hc W p c hx
end Go.Proofs.YtingfomfibhnhaaGreatDoor
