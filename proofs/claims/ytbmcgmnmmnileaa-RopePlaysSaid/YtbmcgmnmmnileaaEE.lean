/-
  The steps in memory; large.
-/
import Derived.Test.YtbmcgmnmmnileaaDD
namespace Go.Proofs.Ytbmcgmnmmnileaa
open Go.RowKit Go.Shelf

structure Step where
  kind : Int
  pos : Int
  from_ : Int
  upto : Int
  s : ByteArray
  n : Int
/-- So many steps lie there. -/
def StepsAt (w : World) (g off n : Nat) (f : Nat → Step) : Prop :=
  ∀ i, i < n → w.cell? ⟨g, off + i * 6, none⟩ = some (.int .u8 (f i).kind) ∧ w.cell? ⟨g, off + i * 6 + 1, none⟩ = some (.int .i64 (f i).pos) ∧ w.cell? ⟨g, off + i * 6 + 2, none⟩ = some (.int .i64 (f i).from_) ∧
    w.cell? ⟨g, off + i * 6 + 3, none⟩ = some (.int .i64 (f i).upto) ∧ w.cell? ⟨g, off + i * 6 + 4, none⟩ = some (.string (f i).s) ∧ w.cell? ⟨g, off + i * 6 + 5, none⟩ = some (.int .i64 (f i).n)
def total (f : Nat → Step) : Nat → Nat
  | 0 => 0
  | n + 1 => total f n + (f n).s.size
def Small (s : ByteArray) (n : Nat) (f : Nat → Step) : Prop := n ≤ 60 ∧ s.size ≤ 5000 ∧ total f n ≤ 5000 ∧ ∀ i, i < n → (f i).s.size ≤ 3000

/-- What large says. -/
def Larged (w : World) (s : ByteArray) (n : Nat) (f : Nat → Step) (e : Ending) (w' : World) : Prop := ∃ b, e = .returned (.bool b) ∧ (b = false → Small s n f) ∧ w = w'

set_option maxRecDepth 100000 in
set_option maxHeartbeats 1000000 in
theorem large_some (w : World) (s : ByteArray) (g off n cap : Nat) (f : Nat → Step) (h : StepsAt w g off n f) (hn : n ≤ cap) :
    Calls Try.prog 19 #[.string s, .slice (some ⟨g, off, none⟩) n cap] w (Larged w s n f) := by
  have H := Lib.hid h
  clear h
  go_enter Try.func19, Try.ntmps19
  go_wp2
  go_loop [5, 6] (fun m i => ∃ k : Nat, i = .int .i64 k ∧ k ≤ 61 ∧ k ≤ n ∧ m = .int .i64 (total f k : Nat) ∧ total f k ≤ 3000 * k ∧ Hid (∀ j, j < k → (f j).s.size ≤ 3000)) (fun _ i => 61 - (intOf i).toNat)
  case atStart => exact ⟨0, rfl, by omega, by omega, rfl, by simp [total], Lib.hid (fun j hj => by omega)⟩
  case round =>
    obtain ⟨k, rfl, hk, hkn, rfl, ht, hs⟩ := hrel
    by_cases h1 : k < n
    · have h1' : (k : Int) < (n : Int) := by omega
      by_cases h2 : k ≤ 60
      · have h2' : (k : Int) ≤ 60 := by omega
        obtain ⟨_, _, _, _, c4, _⟩ := H.out k h1
        obtain ⟨S, hS⟩ : ∃ S, (f k).s = S := ⟨_, rfl⟩
        rw [hS] at c4
        have HS := Lib.hid hS
        clear hS
        have htot : Hid (total f (k + 1) = total f k + S.size) := Lib.hid (by rw [← HS.out]; rfl)
        by_cases h3 : S.size ≤ 3000
        · have h3' : ¬ (3000 : Int) < (S.size : Int) := by omega
          generalize total f k = q at *
          have hw1 : IntKind.i64.wrap ((q : Int) + S.size) = (q : Int) + S.size := IntWalk.i64_in _ (by omega)
          go_wp2
          refine ⟨⟨k + 1, by simp, by omega, by omega, by rw [htot.out]; simp, by rw [htot.out]; omega, Lib.hid fun j hj => ?_⟩, by simp [intOf]; omega⟩
          rcases Nat.lt_succ_iff_lt_or_eq.1 hj with g | g
          · exact hs.out j g
          · rw [g, HS.out]; exact h3
        · have h3' : (3000 : Int) < (S.size : Int) := by omega
          go_wp2
          go_ret
          exact ⟨true, rfl, (fun h => nomatch h), rfl⟩
      · have h2' : ¬ (k : Int) ≤ 60 := by omega
        have h4 : (60 : Int) < (n : Int) := by omega
        go_wp2
        go_ret
        exact ⟨true, rfl, (fun h => nomatch h), rfl⟩
    · have h1' : ¬ (k : Int) < (n : Int) := by omega
      have hkk : k = n := by omega
      subst hkk
      by_cases h4 : (60 : Int) < (k : Int)
      · go_wp2
        go_ret
        exact ⟨true, rfl, (fun h => nomatch h), rfl⟩
      · have h4' : decide ((60 : Int) < (k : Int)) = false := decide_eq_false h4
        by_cases h5 : (5000 : Int) < (s.size : Int)
        · go_wp2
          go_ret
          exact ⟨true, rfl, (fun h => nomatch h), rfl⟩
        · have h5' : decide ((5000 : Int) < (s.size : Int)) = false := decide_eq_false h5
          have HSm : Hid (¬ (5000 : Int) < ((total f k : Nat) : Int) → Small s k f) := Lib.hid fun h => ⟨by omega, by omega, by omega, hs.out⟩
          generalize total f k = q at *
          by_cases h6 : (5000 : Int) < (q : Int)
          · go_wp2
            go_ret
            exact ⟨true, rfl, (fun h => nomatch h), rfl⟩
          · have h6' : decide ((5000 : Int) < (q : Int)) = false := decide_eq_false h6
            go_wp2
            go_ret
            exact ⟨false, rfl, fun _ => HSm.out h6, rfl⟩
theorem large_none (w : World) (s : ByteArray) (f : Nat → Step) (a : Option Addr) (cap : Nat) :
    Calls Try.prog 19 #[.string s, .slice a 0 cap] w (Larged w s 0 f) := by
  go_enter Try.func19, Try.ntmps19
  go_wp2
  go_loop [5, 6] (fun m i => m = .int .i64 0 ∧ i = .int .i64 0) (fun _ _ => 0)
  case atStart => exact ⟨rfl, rfl⟩
  case round =>
    obtain ⟨rfl, rfl⟩ := hrel
    by_cases h5 : (5000 : Int) < (s.size : Int)
    · go_wp2
      go_ret
      exact ⟨true, rfl, (fun h => nomatch h), rfl⟩
    · have h5' : decide ((5000 : Int) < (s.size : Int)) = false := decide_eq_false h5
      go_wp2
      go_ret
      exact ⟨false, rfl, fun _ => ⟨by omega, by omega, by simp [total], fun i hi => by omega⟩, rfl⟩
end Go.Proofs.Ytbmcgmnmmnileaa
