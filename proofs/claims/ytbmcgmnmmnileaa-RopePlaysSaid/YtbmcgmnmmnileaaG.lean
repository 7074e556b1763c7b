/-
  split: the cases without a call of itself.
-/
import Derived.Test.YtbmcgmnmmnileaaF
import Derived.Test.YtbmcgmnmmnileaaC
namespace Go.Proofs.Ytbmcgmnmmnileaa
open Go.RowKit Go.Shelf

/-- Four cells, set one after the other. -/
def set4 (w : World) (n : Nat) (x0 x1 x2 x3 : Value) : World := (((w.setCell ⟨n, 0, none⟩ x0).setCell ⟨n, 1, none⟩ x1).setCell ⟨n, 2, none⟩ x2).setCell ⟨n, 3, none⟩ x3
theorem put_four {w : World} {n : Nat} {u0 u1 u2 u3 : Value} (x0 x1 x2 x3 : Value) (h0 : w.cell? ⟨n, 0, none⟩ = some u0) (h1 : w.cell? ⟨n, 1, none⟩ = some u1) (h2 : w.cell? ⟨n, 2, none⟩ = some u2) (h3 : w.cell? ⟨n, 3, none⟩ = some u3) :
    (set4 w n x0 x1 x2 x3).cell? ⟨n, 0, none⟩ = some x0 ∧ (set4 w n x0 x1 x2 x3).cell? ⟨n, 1, none⟩ = some x1 ∧ (set4 w n x0 x1 x2 x3).cell? ⟨n, 2, none⟩ = some x2 ∧ (set4 w n x0 x1 x2 x3).cell? ⟨n, 3, none⟩ = some x3 := by
  have ne : ∀ {W : World} {a b : Nat} {v : Value}, a ≠ b → (W.setCell ⟨n, a, none⟩ v).cell? ⟨n, b, none⟩ = W.cell? ⟨n, b, none⟩ := fun h => World.cell?_setCell_other _ _ _ _ (by intro e; injection e with _ e2; exact h e2)
  have a0 : (w.setCell ⟨n, 0, none⟩ x0).cell? ⟨n, 0, none⟩ = some x0 := World.cell?_setCell_same _ _ _ h0
  have a1 : (w.setCell ⟨n, 0, none⟩ x0).cell? ⟨n, 1, none⟩ = some u1 := (ne (by decide)).trans h1
  have a2 : (w.setCell ⟨n, 0, none⟩ x0).cell? ⟨n, 2, none⟩ = some u2 := (ne (by decide)).trans h2
  have a3 : (w.setCell ⟨n, 0, none⟩ x0).cell? ⟨n, 3, none⟩ = some u3 := (ne (by decide)).trans h3
  have b1 : ((w.setCell ⟨n, 0, none⟩ x0).setCell ⟨n, 1, none⟩ x1).cell? ⟨n, 1, none⟩ = some x1 := World.cell?_setCell_same _ _ _ a1
  have c2 : (((w.setCell ⟨n, 0, none⟩ x0).setCell ⟨n, 1, none⟩ x1).setCell ⟨n, 2, none⟩ x2).cell? ⟨n, 2, none⟩ = some x2 := World.cell?_setCell_same _ _ _ ((ne (by decide)).trans a2)
  have d3 : (((w.setCell ⟨n, 0, none⟩ x0).setCell ⟨n, 1, none⟩ x1).setCell ⟨n, 2, none⟩ x2).cell? ⟨n, 3, none⟩ = some u3 := (ne (by decide)).trans ((ne (by decide)).trans a3)
  exact ⟨(ne (by decide)).trans ((ne (by decide)).trans ((ne (by decide)).trans a0)), (ne (by decide)).trans ((ne (by decide)).trans b1), (ne (by decide)).trans c2, World.cell?_setCell_same _ _ _ d3⟩
theorem below_set4 {B : Nat} {w W : World} (hb : Below B w W) (n : Nat) (hn : B ≤ n) (x0 x1 x2 x3 : Value) : Below B w (set4 W n x0 x1 x2 x3) :=
  (((hb.setCell (p := ⟨n, 0, none⟩) hn _).setCell (p := ⟨n, 1, none⟩) hn _).setCell (p := ⟨n, 2, none⟩) hn _).setCell (p := ⟨n, 3, none⟩) hn _

/-- What split makes: the trees ahead and behind, and the piece's two parts. -/
def Cuts (w : World) (x : List UInt8) (k : Nat) (B : Prop) (e : Ending) (w' : World) : Prop :=
  ∃ (u v : Value) (lo ro : Option T) (h t : ByteArray), e = .returned (.agg #[u, .string h, .string t, v]) ∧ AtO w' u lo ∧ AtO w' v ro ∧ OkO lo ∧ OkO ro ∧
    x = textO lo ++ (h.data.toList ++ (t.data.toList ++ textO ro)) ∧ (textO lo).length + h.size = k ∧ (B → h.size = 0 ∧ t.size = 0) ∧ Below w.heap.size w w'

theorem split_zero (w : World) (v : Value) (o : Option T) (B : Prop) (hv : AtO w v o) (ho : OkO o) :
    Calls Try.prog 29 #[v, .int .i64 0] w (Cuts w (textO o) 0 B) := by
  have hB : Below w.heap.size w (w.alloc (.cells #[.pointer none, .string ⟨#[]⟩, .string ⟨#[]⟩, v] 61)) := (Below.refl _ _).alloc (Nat.le_refl _) _
  have H : Hid (AtO w v o) := Lib.hid hv
  obtain ⟨p, rfl⟩ : ∃ p, v = .pointer p := by
    cases o with
    | none => exact ⟨none, hv⟩
    | some t => obtain ⟨b, h, _⟩ := hv; exact ⟨_, h⟩
  clear hv
  go_enter Try.func29, Try.ntmps29
  go_wp2
  refine bodyPost_ret (v := .agg #[.pointer none, .string ⟨#[]⟩, .string ⟨#[]⟩, .pointer p]) (by simp [results, Try.f29, go_sem]) rfl ?_
  exact ⟨_, _, none, o, ⟨#[]⟩, ⟨#[]⟩, rfl, rfl, H.out.below (Nat.le_refl _) hB, trivial, ho, rfl, rfl, fun _ => ⟨rfl, rfl⟩, hB⟩

theorem split_full (w : World) (b : Nat) (t : T) (B : Prop) (hA : At w b t) (ho : t.Ok) :
    Calls Try.prog 29 #[.pointer (some ⟨b, 0, none⟩), .int .i64 t.size] w (Cuts w t.text t.size B) := by
  obtain ⟨c0, _, _⟩ := hA.cells
  have hp := ho.pos
  have hne : ((t.size : Int) == 0) = false := by rw [beq_eq_false_iff_ne]; omega
  have hz := At.lt hA
  have H := Lib.hid hA
  have HT := Lib.hid (T.size_text t)
  have HO := Lib.hid ho
  clear hA ho
  generalize hs : t.size = n at *
  have HS := Lib.hid hs
  clear hs
  have hB : Below w.heap.size w (w.alloc (.cells #[.pointer (some ⟨b, 0, none⟩), .string ⟨#[]⟩, .string ⟨#[]⟩, .pointer none] 61)) := (Below.refl _ _).alloc (Nat.le_refl _) _
  go_enter Try.func29, Try.ntmps29
  go_wp2
  refine bodyPost_ret (v := .agg #[.pointer (some ⟨b, 0, none⟩), .string ⟨#[]⟩, .string ⟨#[]⟩, .pointer none]) (by simp [results, Try.f29, go_sem]) rfl ?_
  exact ⟨_, _, some t, none, ⟨#[]⟩, ⟨#[]⟩, rfl, ⟨b, rfl, H.out.below (Nat.le_refl _) hB⟩, rfl, HO.out, trivial, (List.append_nil _).symm, HT.out, fun _ => ⟨rfl, rfl⟩, hB⟩

set_option maxRecDepth 100000 in
set_option maxHeartbeats 4000000 in
theorem split_leaf (w : World) (b : Nat) (s : ByteArray) (k : Nat) (hA : At w b (.leaf s)) (h0 : 0 < k) (h1 : k < s.size) :
    Calls Try.prog 29 #[.pointer (some ⟨b, 0, none⟩), .int .i64 k] w (Cuts w s.data.toList k False) := by
  obtain ⟨c0, _, _⟩ := hA.cells
  obtain ⟨c3, c4, c5⟩ := hA.leaf
  have c0' : w.cell? ⟨b, 0, none⟩ = some (.int .i64 s.size) := c0
  have hne : ((k : Int) == 0) = false := by rw [beq_eq_false_iff_ne]; omega
  have hn2 : ((k : Int) == (s.size : Int)) = false := by rw [beq_eq_false_iff_ne]; omega
  have hz := At.lt hA
  have hB0 : Below w.heap.size w (w.alloc (.cells #[.pointer none, .string ⟨#[]⟩, .string ⟨#[]⟩, .pointer none] 61)) := (Below.refl _ _).alloc (Nat.le_refl _) _
  have hp := isPiece_leaf (w.alloc (.cells #[.pointer none, .string ⟨#[]⟩, .string ⟨#[]⟩, .pointer none] 61)) b s (hA.below (Nat.le_refl _) hB0)
  have hi0 : (0 : Int) ≤ (k : Int) := by omega
  have hi1 : (k : Int) ≤ (s.size : Int) := by omega
  have HX := Lib.hid (ex_two s k)
  have HZ := Lib.hid (ex_size s 0 k (by omega))
  obtain ⟨sa, hsa⟩ : ∃ x, s.extract 0 k = x := ⟨_, rfl⟩
  obtain ⟨sb, hsb⟩ : ∃ x, s.extract k s.size = x := ⟨_, rfl⟩
  rw [hsa] at HX HZ
  rw [hsb] at HX
  clear hA c0
  go_enter Try.func29, Try.ntmps29
  go_wp2_with fail
  refine hp.mono ?_
  rintro e w1 ⟨rfl, rfl⟩
  clear hp
  go_wp2
  have k3 : (w.alloc (.cells #[.pointer none, .string ⟨#[]⟩, .string ⟨#[]⟩, .pointer none] 61)).cell? ⟨b, 3, none⟩ = some (.string s) := (World.cell?_alloc_some w ⟨b, 3, none⟩ _ (by rw [c3]; rfl)).trans c3
  have nb : w.heap.size ≠ b := by omega
  have q0 : (w.alloc (.cells #[.pointer none, .string ⟨#[]⟩, .string ⟨#[]⟩, .pointer none] 61)).cell? ⟨w.heap.size, 0, none⟩ = some (.pointer none) := by simp
  have q1 : (w.alloc (.cells #[.pointer none, .string ⟨#[]⟩, .string ⟨#[]⟩, .pointer none] 61)).cell? ⟨w.heap.size, 1, none⟩ = some (.string ⟨#[]⟩) := by simp
  have q2 : (w.alloc (.cells #[.pointer none, .string ⟨#[]⟩, .string ⟨#[]⟩, .pointer none] 61)).cell? ⟨w.heap.size, 2, none⟩ = some (.string ⟨#[]⟩) := by simp
  have q3 : (w.alloc (.cells #[.pointer none, .string ⟨#[]⟩, .string ⟨#[]⟩, .pointer none] 61)).cell? ⟨w.heap.size, 3, none⟩ = some (.pointer none) := by simp
  have f0 : ∀ o, (w.alloc (.cells #[.pointer none, .string ⟨#[]⟩, .string ⟨#[]⟩, .pointer none] 61)).frozen? ⟨w.heap.size, o, none⟩ = false := by intro o; simp
  have g0 := f0 0
  have g1 := f0 1
  have g2 := f0 2
  have g3 := f0 3
  clear f0 c3 c4 c5 c0'
  generalize w.alloc (.cells #[.pointer none, .string ⟨#[]⟩, .string ⟨#[]⟩, .pointer none] 61) = W at *
  go_region_held3 (fun u => u.cell? ⟨b, 3, none⟩ = some (.string s)) (first | exact k3 | go_keep) (first | fail)
  obtain ⟨t0, t1, t2, t3⟩ := put_four (.pointer none) (.string sa) (.string sb) (.pointer none) q0 q1 q2 q3
  have HBE := Lib.hid (below_set4 hB0 w.heap.size (Nat.le_refl _) (.pointer none) (.string sa) (.string sb) (.pointer none)).drew
  unfold set4 at t0 t1 t2 t3 HBE
  go_wp2
  refine bodyPost_ret (v := .agg #[.pointer none, .string sa, .string sb, .pointer none]) (by simp [results, Try.f29, go_sem, t0, t1, t2, t3]) rfl ?_
  exact ⟨_, _, none, none, sa, sb, rfl, rfl, rfl, trivial, trivial, by rw [show textO none = [] from rfl, List.append_nil, List.nil_append]; exact HX.out.symm, by rw [HZ.out]; exact Nat.zero_add _, fun h => h.elim, HBE.out⟩
end Go.Proofs.Ytbmcgmnmmnileaa
