/-
  The steps among the arguments: a slice of structs of six cells, opened at every index; an argument that lies in memory, behind the call.
-/
import Derived.Test.YtbmcgmnmmnileaaEE
import Derived.Test.YtbmcgmnmmnileaaV
import Derived.Deep.Slices
import Derived.Carry
import Derived.SizedLaws
namespace Go.Proofs.Ytbmcgmnmmnileaa
open Go.ChangeShapes Go.WideShapes Go.ChangeAt Go.RowKit Go.ChangeMaps Go.Joins Go.Deep

theorem tryLaidOut : laidOutB Try.prog = true := by kernel_rfl
theorem cells47 : Try.prog.cellsOf 47 = 6 := by kernel_rfl
theorem cells3 : Try.prog.cellsOf 3 = 1 := by kernel_rfl
theorem cells5 : Try.prog.cellsOf 5 = 1 := by kernel_rfl
theorem cells9 : Try.prog.cellsOf 9 = 1 := by kernel_rfl
instance : Inhabited Step := ⟨⟨0, 0, 0, 0, ⟨#[]⟩, 0⟩⟩
section
variable {H : Type} {enc : TypeId × Value → H} {w : World} {base : Nat} {sp : Nat → Bool} {held : Bool}
theorem int_le {k : Int} (h : (Lit.int .i64 k).wf = true) : k ≤ 9223372036854775807 := by
  simp [Lit.wf] at h
  omega
/-- One step, of its six cells. -/
theorem open_step {fuel : Nat} {cs : List Value} {x : DataW H × List MemPlace} (h : DataW.trod enc Try.prog w base sp held fuel 47 cs = some x) :
    ∃ s : Step, cs = [.int .u8 s.kind, .int .i64 s.pos, .int .i64 s.from_, .int .i64 s.upto, .string s.s, .int .i64 s.n] ∧ s.n ≤ 9223372036854775807 := by
  obtain ⟨xs, k, hk, hxy, hlen, hxl, hf⟩ := DataW.trod_struct Try.underlying47 h
  rw [cells47] at hlen
  match xs, hxl, cs, hlen with
  | [y0, y1, y2, y3, y4], _, [v0, v1, v2, v3, v4, v5], _ =>
    have g0 := hf 0 _ rfl
    have g1 := hf 1 _ rfl
    have g2 := hf 2 _ rfl
    have g3 := hf 3 _ rfl
    have g4 := hf 4 _ rfl
    simp [cells3, cells5, cells9, cells30] at g0 g1 g2 g3 g4
    obtain ⟨a0, e0, _, _⟩ := DataW.trod_int Try.underlying5 g0
    obtain ⟨a1, e1, _, _⟩ := DataW.trod_int Try.underlying3 g1
    obtain ⟨s3, e3, _, _⟩ := DataW.trod_string Try.underlying9 g3
    obtain ⟨a4, e4, _, w4⟩ := DataW.trod_int Try.underlying3 g4
    obtain ⟨zs, k2, hk2, hxy2, hlen2, hxl2, hf2⟩ := DataW.trod_struct Try.underlying30 g2
    match zs, hxl2 with
    | [z0, z1], _ =>
      have q0 := hf2 0 _ rfl
      have q1 := hf2 1 _ rfl
      simp [cells3] at q0 q1
      obtain ⟨b0, f0, _, _⟩ := DataW.trod_int Try.underlying3 q0
      obtain ⟨b1, f1, _, _⟩ := DataW.trod_int Try.underlying3 q1
      simp at e0 e1 e3 e4 f0 f1
      subst e0 e1 e3 e4 f0 f1
      exact ⟨⟨a0, a1, b0, b1, s3, a4⟩, rfl, int_le w4⟩
theorem open_steps {fuel : Nat} {cs : List Value} {x : DataW H × List MemPlace} (h : DataW.trod enc Try.prog w base (fun _ => true) held fuel 38 cs = some x) :
    cs = [.slice none 0 0] ∨
    ∃ (a : Addr) (len cap : Nat) (f : Nat → Step), cs = [.slice (some a) len cap] ∧ len ≤ cap ∧ (0 < len → a.spot = none) ∧
      (0 < len → a.block < w.heap.size) ∧ (0 < len → StepsAt w a.block a.off len f) ∧ ∀ i, i < len → (f i).n ≤ 9223372036854775807 := by
  rcases open_slice Try.underlying38 h with h0 | ⟨a, len, cap, m, n, D, Pl, rfl, hb, hl, hm, hmm, rfl, hx⟩
  · exact .inl h0.1
  right
  have hlm : len ≤ m := by rw [hmm]; split <;> omega
  have each : ∀ i, i < len → ∃ s : Step, (w.cell? (a.add (i * 6)) = some (.int .u8 s.kind) ∧ w.cell? (a.add (i * 6 + 1)) = some (.int .i64 s.pos) ∧ w.cell? (a.add (i * 6 + 2)) = some (.int .i64 s.from_) ∧
      w.cell? (a.add (i * 6 + 3)) = some (.int .i64 s.upto) ∧ w.cell? (a.add (i * 6 + 4)) = some (.string s.s) ∧ w.cell? (a.add (i * 6 + 5)) = some (.int .i64 s.n)) ∧ s.n ≤ 9223372036854775807 := by
    intro i hi
    obtain ⟨cs', h1, h2⟩ := hx i (by omega)
    rw [cells47] at h1
    obtain ⟨s, rfl, hn⟩ := open_step h2
    obtain ⟨_, hlen, hcell⟩ := World.cells?_some h1
    have e0 := hcell 0 (by omega)
    have e1 := hcell 1 (by omega)
    have e2 := hcell 2 (by omega)
    have e3 := hcell 3 (by omega)
    have e4 := hcell 4 (by omega)
    have e5 := hcell 5 (by omega)
    rw [add_add] at e0 e1 e2 e3 e4 e5
    exact ⟨s, ⟨by simpa using e0, by simpa using e1, by simpa using e2, by simpa using e3, by simpa using e4, by simpa using e5⟩, hn⟩
  obtain ⟨f, hf⟩ := choose_lt each
  have hsp : 0 < len → a.spot = none := fun h0 => by
    have := World.cell?_spot (hf 0 h0).1.1
    simpa [Addr.add] using this
  refine ⟨a, len, cap, f, rfl, hl, hsp, fun h0 => ?_, fun h0 => ?_, fun i hi => (hf i hi).2⟩
  · have := World.block_lt_of_cell? w _ (hf 0 h0).1.1
    simpa [Addr.add] using this
  · intro i hi
    have hs := hsp h0
    obtain ⟨b, off, spot⟩ := a
    simp at hs
    subst hs
    obtain ⟨⟨c0, c1, c2, c3, c4, c5⟩, _⟩ := hf i hi
    simp only [add_plain] at c0 c1 c2 c3 c4 c5
    exact ⟨c0, c1, c2, c3, c4, c5⟩
/-- From a walk to the row, where an argument leads into memory. -/
theorem post_places {P : Program} {f : Func} {s : ChangeSpec} {W W' : World} {args : Array Value} {v : Value} {ds : List (DataW H)} {before : List MemPlace}
    (hW : DataW.Whole enc P f.params.toList s.vars false W args.toList ds [] before)
    (hres : DataW.TrodAll enc P W' W.heap.size (fun _ => false) false f.resultTypes.toList (v.resultList f.resultTypes.size) (s.fn H (ds ++ [])).results [])
    (hargs : DataW.TrodAll enc P W' 0 (fun b => decide (b < W.heap.size)) true f.params.toList args.toList (s.fn H (ds ++ [])).args before)
    (hvars : DataW.TrodVars enc P W' (fun b => decide (b < W.heap.size)) s.vars (s.fn H (ds ++ [])).vars [])
    (hb : Below W.heap.size W W') : s.post enc P f false true false false W args v W' :=
  ⟨ds, [], before, [], before, [], hW, hres, hargs, hvars, World.keptBut_mono (fun p hp => by cases hp) (hb.frame (· ∈ [])), fun h => by cases h⟩
end
end Go.Proofs.Ytbmcgmnmmnileaa
