/-
  The parser's Array.
-/
import Derived.Test.YtgcpgieojckheaaGreatDoorMgJP
import Derived.Test.YtgcpgieojckheaaGreatDoorMgJP3
namespace Go.Proofs.YtgcpgieojckheaaGreatDoor.Json
open Go.RowKit Go.Shelf

theorem LstAt.but {W : World} {b P J B k : Nat} {ns : List (List UInt8)} {js : List Json.J} {w w' : World} (h : LstAt W b P J B k ns js w) (hb : But b w w') (hbW : b < W.heap.size) : LstAt W b P J B k ns js w' := by
  obtain ⟨hbut, hWP, hPJ, hJB, hBw, hhP, nv, lv, xs, hhJ, hown1, hown2, hjs⟩ := h
  exact ⟨hbut.trans hb, hWP, hPJ, hJB, Nat.le_trans hBw hb.size, (hb.block P (by omega) hWP.1).trans hhP, nv, lv, xs, (hb.block J (by omega) (by omega)).trans hhJ, own_but hown1 hb (by omega), own_but hown2 hb (by omega),
    JsAt.world ⟨hb.size, fun i hi h => hb.block i hi (by have := h.1; omega)⟩ js xs hjs⟩
theorem arr_el {v : Val} (W : World) (b P J B : Nat) (s : ByteArray) (y : Nat) (hT : TabsJ W) (hb8 : 8 ≤ b) (hbW : b < W.heap.size) (h8 : 8 ≤ W.heap.size) (hz : s.size ≤ 300000)
    (hV : ∀ x z w, x ≤ s.size → PAt w b s x y z → TabsJ w → 8 ≤ w.heap.size → Calls Tryz.prog 93 #[.pointer (some ⟨b, 0, none⟩)] w (ValEnd w b s x y (v (s.data.toList.drop x) z)))
    (js : List Json.J) (x z : Nat) (w : World) (hx : x ≤ s.size) (hn : js.length ≤ s.size) (hL : LstAt W b P J B 6 [] js w) (hP : PAt w b s x y z) :
    Calls Tryz.prog 183 #[.pointer (some ⟨J, 0, none⟩), .pointer (some ⟨P, 0, none⟩)] w (ListEnd (LstAt W b P J B 6 []) W b s x y (elA v js (s.data.toList.drop x) z)) := by
  have hb := hL.1
  have hTw := hT.but hb hb8 h8
  have hsz := hb.size
  unfold elA
  cases hv : v (s.data.toList.drop x) z with
  | error c =>
    exact arr_bad W b P J B js w s x y z c hL hP hTw hb8 hbW (by omega) (by omega) (fun w hw ht => by
      have := hV x z w hx hw ht (by have := hw.lt; omega)
      rw [hv] at this; exact this)
  | ok p =>
    obtain ⟨j, r, n2⟩ := p
    refine (arr_ok W b P J B js w s x y z j r n2 hL hP hTw hb8 hbW (by omega) (by omega) (fun w hw ht => by
      have := hV x z w hx hw ht (by have := hw.lt; omega)
      rw [hv] at this; exact this)).mono ?_
    rintro e w' ⟨k, h1, h2, h3, h4, h5, h6, _⟩
    exact ⟨k, h1, h2, h3, h4, h5, h6⟩
theorem LstAt.value {W : World} {b P J B k : Nat} {ns : List (List UInt8)} {js : List Json.J} {w : World} (h : LstAt W b P J B k ns js w) :
    ∃ (pc : Option Addr) (nc cc : Nat) (pd : Option Addr) (nd cd : Nat), w.heap[J]? = some (.cells #[.int .u8 k, .string ⟨#[]⟩, .slice pc nc cc, .slice pd nd cd] 47 (0, 0)) ∧
      JAt (fun g => B ≤ g) w (.mk k [] ns js) [.int .u8 k, .string ⟨#[]⟩, .slice pc nc cc, .slice pd nd cd] := by
  obtain ⟨hbut, hWP, hPJ, hJB, hBw, hhP, nv, lv, xs, hhJ, hown1, hown2, hjs⟩ := h
  obtain ⟨pc, cc, rfl⟩ := LstAt.form hown1
  obtain ⟨pd, cd, rfl⟩ := LstAt.form hown2
  refine ⟨_, _, _, _, _, _, hhJ, ?_⟩
  unfold JAt
  exact ⟨_, _, xs, rfl, by rw [← List.length_map (f := bl)] at hown1 ⊢; exact SlIn.of_owns hown1 (fun g hg => (hown1.lt g hg).1), SlIn.of_owns hown2 (fun g hg => (hown2.lt g hg).1), JsAt.mono (fun i _ h => h.1) js xs hjs⟩
set_option maxRecDepth 100000 in
set_option maxHeartbeats 4000000 in
theorem array_any {v : Val} (W : World) (b : Nat) (s : ByteArray) (x y z : Nat) (r : List UInt8) (hP : PAt W b s x y z) (hT : TabsJ W) (hb8 : 8 ≤ b) (hz : s.size ≤ 300000)
    (hr : s.data.toList.drop x = 91 :: r) (hy : y ≤ 100) (hv : Uses v) (hs : ∀ l n, v (skip l) n = v l n)
    (hV : ∀ x z w, x ≤ s.size → PAt w b s x (y + 1) z → TabsJ w → 8 ≤ w.heap.size → Calls Tryz.prog 93 #[.pointer (some ⟨b, 0, none⟩)] w (ValEnd w b s x (y + 1) (v (s.data.toList.drop x) z))) :
    Calls Tryz.prog 143 #[.pointer (some ⟨b, 0, none⟩)] W (ValEnd W b s x y (arrV (listL (elA v) 93 [] r z))) := by
  have hblt := hP.lt
  obtain ⟨W2, hW2⟩ : ∃ W2, (W.alloc (Obj.cells #[Value.pointer (some { block := b, off := 0 })] 87)).alloc (Obj.cells #[Value.int IntKind.u8 0, Value.string { data := #[] }, Value.slice none 0 0, Value.slice none 0 0] 47) = W2 := ⟨_, rfl⟩
  obtain ⟨J, hJ⟩ : ∃ J, W.heap.size + 1 + 1 = J := ⟨_, rfl⟩
  obtain ⟨P, hPP⟩ : ∃ P, W.heap.size = P := ⟨_, rfl⟩
  have hsz2 : W2.heap.size = J := by rw [← hW2]; simp; omega
  have hb2 : Below W.heap.size W W2 := by rw [← hW2]; exact galloc (galloc (Below.refl _ _) _) _
  have hP2 : W2.heap[P]? = some (.cells #[.pointer (some ⟨b, 0, none⟩)] 87 (0, 0)) := by
    rw [← hW2, ← hPP]
    exact ((galloc (Below.refl _ (W.alloc _)) _).block W.heap.size (by simp)).trans (World.alloc_heap_new W _)
  have hR2 : W2.heap[W.heap.size + 1]? = some (.cells #[.int .u8 0, .string ⟨#[]⟩, .slice none 0 0, .slice none 0 0] 47 (0, 0)) := by
    rw [← hW2]
    have := World.alloc_heap_new (W.alloc (Obj.cells #[Value.pointer (some { block := b, off := 0 })] 87)) (Obj.cells #[Value.int IntKind.u8 0, Value.string { data := #[] }, Value.slice none 0 0, Value.slice none 0 0] 47)
    rwa [World.size_alloc] at this
  obtain ⟨w0, hw0⟩ : ∃ w0, W2.alloc (Obj.cells #[Value.int IntKind.u8 6, Value.string { data := #[] }, Value.slice none 0 0, Value.slice none 0 0] 47) = w0 := ⟨_, rfl⟩
  have hb0 : Below W2.heap.size W2 w0 := by rw [← hw0]; exact galloc (Below.refl _ _) _
  have hJ0 : w0.heap[J]? = some (.cells #[.int .u8 6, .string ⟨#[]⟩, .slice none 0 0, .slice none 0 0] 47 (0, 0)) := by
    rw [← hw0, ← hsz2]; exact World.alloc_heap_new W2 _
  have hs0 : w0.heap.size = J + 1 := by rw [← hw0]; simp; omega
  have hL0 : LstAt W2 b P J (J + 1) 6 [] [] w0 := ⟨But.of hb0, ⟨by omega, by omega⟩, by omega, by omega, by omega, (hb0.block P (by omega)).trans hP2, .slice none 0 0, .slice none 0 0, [], hJ0, World.ownsRow_nil _ _ _ _, World.ownsRow_nil _ _ _ _, by unfold JsAt; rfl⟩
  have hP0 : PAt w0 b s x y z := (hP.below hb2).below hb0
  have h8 : 8 ≤ W.heap.size := by omega
  have hT2 : TabsJ W2 := hT.but (But.of (b := b) hb2) hb8 h8
  have hlist := list183 (elA v) (LstAt W2 b P J (J + 1) 6 []) List.length W2 b P J s x y z w0 [] r (elA_uses hv) (elA_skip hs) elA_len (fun a w h => h.1) (fun a w w' h hb => h.but hb (by omega))
    (fun a x z w hx _ hn hS hP => arr_el W2 b P J (J + 1) s (y + 1) hT2 hb8 (by omega) (by omega) hz hV a x z w hx hn hS hP) hL0 rfl hP0 hr hy (by omega)
  obtain ⟨G, hG⟩ : ∃ G, listL (elA v) 93 [] r z = G := ⟨_, rfl⟩
  rw [hG] at hlist ⊢
  obtain ⟨R, hRR⟩ : ∃ R, P + 1 = R := ⟨_, rfl⟩
  rw [hPP, hRR] at hR2
  have HR2 := Lib.hid hR2
  have HB2 := Lib.hid (But.of (b := b) hb2)
  have HJ := Lib.hid hJ
  have HPP := Lib.hid hPP
  have HRR := Lib.hid hRR
  have hlt1 : P < R := by omega
  have hlt2 : R < J := by omega
  have hsz3 : Hid (W2.heap.size = J) := Lib.hid hsz2
  have hWs : W.heap.size ≤ P := by omega
  have HW2 := Lib.hid hW2
  have Hw0 := Lib.hid hw0
  clear hG hT hT2 hP hP2 hR2 hb2 hb0 hJ0 hL0 hP0 hV hv hs hs0 hr hsz2 hJ hPP hRR hW2 hw0
  go_enter Tryz.func143, Tryz.ntmps143
  go_wp2_with fail
  rw [HJ.out, HW2.out, Hw0.out, HPP.out, HRR.out]
  refine hlist.mono ?_
  intro e w1 h1
  clear hlist
  cases G with
  | error c =>
    obtain ⟨rfl, hb1⟩ := h1
    have HB1 := Lib.hid (HB2.out.trans hb1)
    clear hb1
    go_wp2_with fail
    exact ⟨rfl, rfl, HB1.out⟩
  | ok p =>
    obtain ⟨js, r3, n3⟩ := p
    obtain ⟨k, hk, hks, hr3, rfl, hP1, hL1⟩ := h1
    have hbut := hL1.1
    have hR1 := (hbut.block R (by have := hsz3.out; omega) (by omega)).trans HR2.out
    obtain ⟨pc, nc, cc, pd, nd, cd, hJ1, hjat⟩ := hL1.value
    have hs1 : J + 1 ≤ w1.heap.size := hL1.2.2.2.2.1
    obtain ⟨j0, j1, j2, j3⟩ : w1.cell? ⟨J, 0, none⟩ = some (.int .u8 6) ∧ w1.cell? ⟨J, 1, none⟩ = some (.string ⟨#[]⟩) ∧ w1.cell? ⟨J, 2, none⟩ = some (.slice pc nc cc) ∧ w1.cell? ⟨J, 3, none⟩ = some (.slice pd nd cd) :=
      ⟨by rw [cellH hJ1]; rfl, by rw [cellH hJ1]; rfl, by rw [cellH hJ1]; rfl, by rw [cellH hJ1]; rfl⟩
    obtain ⟨q0, q1, q2, q3, qf⟩ : w1.cell? ⟨R, 0, none⟩ = some (.int .u8 0) ∧ w1.cell? ⟨R, 1, none⟩ = some (.string ⟨#[]⟩) ∧ w1.cell? ⟨R, 2, none⟩ = some (.slice none 0 0) ∧ w1.cell? ⟨R, 3, none⟩ = some (.slice none 0 0) ∧ ∀ o, w1.frozen? ⟨R, o, none⟩ = false :=
      ⟨by rw [cellH hR1]; rfl, by rw [cellH hR1]; rfl, by rw [cellH hR1]; rfl, by rw [cellH hR1]; rfl, fun o => Lib.frozen_of_heap hR1 o⟩
    have HK1 := Lib.hid hR1
    have HP1 := Lib.hid hP1
    have HJA := Lib.hid hjat
    have HB1 := Lib.hid (HB2.out.trans hbut)
    have HR3 := Lib.hid hr3
    have hJ8 : J ≠ R := by omega
    clear hbut hR1 hJ1 hjat hP1 hL1 hr3
    go_wp2
    have kF := heap_setCell_same _ _ 3 _ _ (.slice pd nd cd) (heap_setCell_same _ _ 2 _ _ (.slice pc nc cc) (heap_setCell_same _ _ 1 _ _ (.string ⟨#[]⟩) (heap_setCell_same _ _ 0 _ _ (.int .u8 6) HK1.out)))
    obtain ⟨z0, z1, z2, z3⟩ := (⟨by rw [cellH kF]; rfl, by rw [cellH kF]; rfl, by rw [cellH kF]; rfl, by rw [cellH kF]; rfl⟩ :
      World.cell? _ ⟨R, 0, none⟩ = some (.int .u8 6) ∧ World.cell? _ ⟨R, 1, none⟩ = some (.string ⟨#[]⟩) ∧ World.cell? _ ⟨R, 2, none⟩ = some (.slice pc nc cc) ∧ World.cell? _ ⟨R, 3, none⟩ = some (.slice pd nd cd))
    have hbne : b ≠ R := by omega
    have hWR : W.heap.size ≤ R := by omega
    refine bodyPost_ret (v := .agg #[.int .u8 6, .string ⟨#[]⟩, .slice pc nc cc, .slice pd nd cd]) (by simp [results, Tryz.results143, go_sem, z0, z1, z2, z3]) rfl ?_
    refine ⟨k, _, hk, hks, HR3.out, rfl, ⟨_, _, _, _, rfl, ?_⟩, (((HP1.out.other hbne).other hbne).other hbne).other hbne, (((HB1.out.fresh hWR).fresh hWR).fresh hWR).fresh hWR⟩
    refine JAt.mono (S := fun g => J + 1 ≤ g) (fun i _ h => by have h : J + 1 ≤ i := h; show W.heap.size ≤ i; omega) _ _ (JAt.world ⟨by simp, fun i hi h => ?_⟩ _ _ HJA.out)
    have h : J + 1 ≤ i := h
    exact ((Only.set R _ 3 _).block i (by omega)).trans (((Only.set R _ 2 _).block i (by omega)).trans (((Only.set R _ 1 _).block i (by omega)).trans ((Only.set R _ 0 _).block i (by omega))))
end Go.Proofs.YtgcpgieojckheaaGreatDoor.Json
