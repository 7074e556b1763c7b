/-
  What GreenNames asks of At, Own, Put and Same.
-/
import Derived.Test.YtingfomfibhnhaaGreatDoorMgHX
import Derived.Test.YtingfomfibhnhaaGreatDoorMgHZ
import Derived.Test.YtingfomfibhnhaaGreatDoorMgHSA
namespace Go.Proofs.YtingfomfibhnhaaGreatDoor
open Go.RowKit Go.Shelf

abbrev zeroNd : T := .mk 0 (0, []) []
theorem n_at_none {x : T} {p : Option Addr} {c : Nat} {l : List Int} {v : Value} {w : World} (h : atT x l = none) (hx : NAt AnyB w x (cellsN x p c)) (hl : PaAt w v l) (hlen : l.length ≤ 1000000) :
    Calls Tryz.prog 14 #[aggN x p c, v] w (RetEnd (.tuple #[zeroA, .int .i64 5]) w) :=
  (At_any x l w p c v hx hl hlen (fun z hz => by rw [h] at hz; cases hz)).mono fun e w' h2 => by
    obtain ⟨h3, h4⟩ := h2
    rcases h4 with ⟨_, h5⟩ | ⟨z, p', c', h5, _⟩
    · exact ⟨h5, h3⟩
    · rw [h] at h5; cases h5
theorem n_own_some {x : T} {p : Option Addr} {c : Nat} {l : List Int} {v : Value} {w : World} {s : Nat × Nat × Nat} (h : ownA x l = s) (hx : NAt AnyB w x (cellsN x p c)) (hl : PaAt w v l) (hlen : l.length ≤ 1000000) (hc : countT x ≤ 100000) (hs : sizeT x ≤ 100000000) :
    Calls Tryz.prog 16 #[aggN x p c, v] w (RetEnd (.tuple #[.agg #[.int .i64 s.1, .int .i64 s.2.1], .int .i64 s.2.2]) w) := by
  have := gown_any x l w p c v hx hl hlen hc hs
  rw [h] at this; exact this
theorem n_put_none {x m : T} {p p2 : Option Addr} {c c2 : Nat} {l : List Int} {v : Value} {w : World} (h : atT x l = none) (hx : NAt AnyB w x (cellsN x p c)) (hm : NAt AnyB w m (cellsN m p2 c2)) (hl : PaAt w v l) (hlen : l.length ≤ 1000000) (hcx : countT x ≤ 1000000 ∧ shortT x) (hcm : countT m ≤ 1000000 ∧ shortT m) :
    Calls Tryz.prog 17 #[aggN x p c, v, aggN m p2 c2] w fun e w' => ∃ p c, e = .returned (.tuple #[aggN zeroNd p c, .int .i64 5]) ∧ NAt (fun k => w.heap.size ≤ k) w' zeroNd (cellsN zeroNd p c) ∧ Below w.heap.size w w' :=
  (Put_any x m l w p p2 c c2 v hx hm hl hlen hcx hcm).mono fun e w' h2 => by
    obtain ⟨h3, h4⟩ := h2
    rcases h4 with ⟨_, h5⟩ | ⟨z, p', c', h5, _⟩
    · exact ⟨none, 0, h5, nat_leaf _ _ _ _, h3⟩
    · unfold putR at h5; rw [h] at h5; cases h5
theorem n_put_some {x m z : T} {p p2 : Option Addr} {c c2 : Nat} {l : List Int} {v : Value} {w : World} (h : atT x l = some z) (hx : NAt AnyB w x (cellsN x p c)) (hm : NAt AnyB w m (cellsN m p2 c2)) (hl : PaAt w v l) (hlen : l.length ≤ 1000000) (hcx : countT x ≤ 1000000 ∧ shortT x) (hcm : countT m ≤ 1000000 ∧ shortT m) :
    Calls Tryz.prog 17 #[aggN x p c, v, aggN m p2 c2] w fun e w' => ∃ p c, e = .returned (.tuple #[aggN (putT x l m) p c, .int .i64 0]) ∧ NAt (fun k => w.heap.size ≤ k) w' (putT x l m) (cellsN (putT x l m) p c) ∧ Below w.heap.size w w' :=
  (Put_any x m l w p p2 c c2 v hx hm hl hlen hcx hcm).mono fun e w' h2 => by
    obtain ⟨h3, h4⟩ := h2
    rcases h4 with ⟨h5, _⟩ | ⟨y, p', c', h5, h6, h7⟩
    · unfold putR at h5; rw [h] at h5; cases h5
    · unfold putR at h5; rw [h] at h5; cases h5
      exact ⟨p', c', h6, h7, h3⟩
theorem n_same_r {a b : T} {w : World} {p p2 : Option Addr} {c c2 : Nat} (h : a = b) (ha : NAt AnyB w a (cellsN a p c)) (hb : NAt AnyB w b (cellsN b p2 c2)) (hc : countT a ≤ 1000000) : Calls Tryz.prog 19 #[aggN a p c, aggN b p2 c2] w (RetEnd (.bool true) w) := by
  subst h
  have := rsame_any a a w p p2 c c2 ha hb hc
  rw [sameT_self] at this
  exact this
end Go.Proofs.YtingfomfibhnhaaGreatDoor
