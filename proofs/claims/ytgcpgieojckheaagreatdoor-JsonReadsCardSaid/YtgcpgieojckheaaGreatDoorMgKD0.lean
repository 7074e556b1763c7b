/-
  What the reference's values end in.
-/
import Derived.Test.YtgcpgieojckheaaGreatDoorMgKC
import Derived.Test.YtgcpgieojckheaaGreatDoorMgS
import Derived.Test.YtgcpgieojckheaaGreatDoorMgJP7
import Derived.Test.YtgcpgieojckheaaGreatDoorMgJM
namespace Go.Proofs.YtgcpgieojckheaaGreatDoor.Json
open Go.RowKit Go.Shelf

/-- What a value of the reference's ends in. -/
def RVal (W : World) (b : Nat) (s : ByteArray) (x : Nat) : Got J → Ending → World → Prop
  | .ok (j, r, n), e, w' => ∃ k v, x ≤ k ∧ k ≤ s.size ∧ r = s.data.toList.drop k ∧ e = .returned v ∧ JVal (fun g => W.heap.size ≤ g) w' j v ∧ RAt w' b s k n 0 ∧ But b W w'
  | .error c, e, w' => c ≠ 0 ∧ ∃ (k n kd : Nat) (tx : ByteArray) (pc : Option Addr) (nc cc : Nat) (pd : Option Addr) (nd cd : Nat), e = .returned (.agg #[.int .u8 kd, .string tx, .slice pc nc cc, .slice pd nd cd]) ∧ RAt w' b s k n c ∧ But b W w'
theorem rfour {w w0 : World} {b R : Nat} {s : ByteArray} {x n : Nat} {e : Int} {p q u v : Value} (h : RAt w b s x n e) (hB : But b w0 w) (hR : w0.heap.size ≤ R) (hb : b ≠ R) :
    RAt ((((w.setCell ⟨R, 0, none⟩ p).setCell ⟨R, 1, none⟩ q).setCell ⟨R, 2, none⟩ u).setCell ⟨R, 3, none⟩ v) b s x n e ∧ But b w0 ((((w.setCell ⟨R, 0, none⟩ p).setCell ⟨R, 1, none⟩ q).setCell ⟨R, 2, none⟩ u).setCell ⟨R, 3, none⟩ v) :=
  ⟨(((h.other hb).other hb).other hb).other hb, (((hB.fresh hR).fresh hR).fresh hR).fresh hR⟩
theorem jfour {w : World} {R : Nat} {j : Json.J} {cs : List Value} {p q u v : Value} (h : JAt (fun g => R + 1 ≤ g) w j cs) : JAt (fun g => R + 1 ≤ g) ((((w.setCell ⟨R, 0, none⟩ p).setCell ⟨R, 1, none⟩ q).setCell ⟨R, 2, none⟩ u).setCell ⟨R, 3, none⟩ v) j cs :=
  JAt.world ⟨by simp, fun i hi h => by
    have h : R + 1 ≤ i := h
    exact ((Only.set R _ 3 _).block i (by omega)).trans (((Only.set R _ 2 _).block i (by omega)).trans (((Only.set R _ 1 _).block i (by omega)).trans ((Only.set R _ 0 _).block i (by omega))))⟩ j _ h
theorem jleaf (S : Nat → Prop) (w : World) (k : Nat) (t : List UInt8) : JAt S w (.mk k t [] []) [.int .u8 k, bl t, .slice none 0 0, .slice none 0 0] := by
  unfold JAt
  exact ⟨_, _, [], rfl, SlIn.nil _ _ _, SlIn.nil _ _ _, by unfold JsAt; rfl⟩
theorem rval_ok {W w1 : World} {b R : Nat} {s : ByteArray} {x k n kd : Nat} {j : Json.J} {r : List UInt8} {tx c d : Value} 
    (hx : x ≤ k) (hk : k ≤ s.size) (hr : r = s.data.toList.drop k) (hJ : JAt (fun g => R + 1 ≤ g) w1 j [.int .u8 kd, tx, c, d]) (hP : RAt w1 b s k n 0) (hB : But b W w1) (hWR : W.heap.size ≤ R) (hb : b ≠ R) :
    RVal W b s x (.ok (j, r, n)) (.returned (.agg #[.int .u8 kd, tx, c, d])) ((((w1.setCell ⟨R, 0, none⟩ (.int .u8 kd)).setCell ⟨R, 1, none⟩ tx).setCell ⟨R, 2, none⟩ c).setCell ⟨R, 3, none⟩ d) :=
  ⟨k, _, hx, hk, hr, rfl, ⟨_, _, _, _, rfl, JAt.mono (S := fun g => R + 1 ≤ g) (fun i _ h => by have h : R + 1 ≤ i := h; show W.heap.size ≤ i; omega) _ _ (jfour hJ)⟩, (rfour hP hB hWR hb).1, (rfour hP hB hWR hb).2⟩
theorem rval_bad {W w1 : World} {b R : Nat} {s : ByteArray} {x k n kd : Nat} {e : Int} {tx : ByteArray} {pc : Option Addr} {nc cc : Nat} {pd : Option Addr} {nd cd : Nat} (he : e ≠ 0) (hP : RAt w1 b s k n e) (hB : But b W w1) (hWR : W.heap.size ≤ R) (hb : b ≠ R) :
    RVal W b s x (.error e) (.returned (.agg #[.int .u8 kd, .string tx, .slice pc nc cc, .slice pd nd cd])) ((((w1.setCell ⟨R, 0, none⟩ (.int .u8 kd)).setCell ⟨R, 1, none⟩ (.string tx)).setCell ⟨R, 2, none⟩ (.slice pc nc cc)).setCell ⟨R, 3, none⟩ (.slice pd nd cd)) :=
  ⟨he, k, n, kd, tx, pc, nc, cc, pd, nd, cd, rfl, (rfour hP hB hWR hb).1, (rfour hP hB hWR hb).2⟩
end Go.Proofs.YtgcpgieojckheaaGreatDoor.Json
