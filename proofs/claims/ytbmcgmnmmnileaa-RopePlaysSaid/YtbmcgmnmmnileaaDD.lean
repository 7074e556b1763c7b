/-
  The document's own Replace; a rope tells what the document says.
-/
import Derived.Test.YtbmcgmnmmnileaaCC
namespace Go.Proofs.Ytbmcgmnmmnileaa
open Go.RowKit Go.Shelf

def Deep2 (l : List UInt8) (d : Nat) : Prop := (l = [] → d = 0) ∧ (l ≠ [] → 0 < d) ∧ ∀ k, l.length < 2 ^ k → d ≤ 2 * k
theorem rp_depth2 (w : World) (b : Nat) (l : List UInt8) (h : Rp w b l) : Calls Try.prog 15 #[.pointer (some ⟨b, 0, none⟩)] w fun e w' => ∃ d : Nat, (e = .returned (.int .i64 d) ∧ Deep2 l d) ∧ Below w.heap.size w w' := by
  obtain ⟨o, h1, rfl⟩ := h
  have ho : OkO o := by obtain ⟨p, _, _, ho⟩ := h1; exact ho
  refine (depth_any w b o h1).mono ?_
  rintro e w' ⟨rfl, hb⟩
  refine ⟨depthO o, ⟨rfl, ?_⟩, hb⟩
  cases o with
  | none => exact ⟨fun _ => rfl, fun h => absurd rfl h, fun k _ => Nat.zero_le _⟩
  | some t =>
    refine ⟨fun h => ?_, fun _ => T.depth_pos t, fun k hk => ?_⟩
    · have h' : t.text = [] := h
      have e := T.size_text t
      rw [h'] at e
      have := T.Ok.pos ho
      simp at e
      omega
    · have hk' : t.text.length < 2 ^ k := hk
      rw [T.size_text] at hk'
      exact T.Ok.lt ho hk'

theorem rreplace_bad (s t : ByteArray) (a c : Int) (w : World) (h : isSpan s.size a c = false) : Calls Try.prog 21 #[.agg #[.string s], .agg #[.int .i64 a, .int .i64 c], .string t] w fun e w' => e = .returned (.tuple #[.agg #[.string ⟨#[]⟩], .int .i64 1]) ∧ Below w.heap.size w w' := by
  obtain ⟨W, hW⟩ : ∃ W, ((w.alloc (.cells #[.string s] 42)).alloc (.cells #[.int .i64 a, .int .i64 c] 30)).alloc (.cells #[.string ⟨#[]⟩] 42) = W := ⟨_, rfl⟩
  have hB : Hid (Below w.heap.size w W) := Lib.hid (by rw [← hW]; exact galloc (galloc (galloc (Below.refl _ _) _) _) _)
  have e2 : ((w.alloc (.cells #[.string s] 42)).alloc (.cells #[.int .i64 a, .int .i64 c] 30)).heap.size = w.heap.size + 1 + 1 := by simp
  have hn := World.alloc_heap_new ((w.alloc (.cells #[.string s] 42)).alloc (.cells #[.int .i64 a, .int .i64 c] 30)) (.cells #[.string ⟨#[]⟩] 42)
  rw [e2, hW] at hn
  have x0 : W.cell? ⟨w.heap.size, 0, none⟩ = some (.string s) := by rw [← hW]; exact keepA _ (keepA _ (by simp))
  have y0 : W.cell? ⟨w.heap.size + 1, 0, none⟩ = some (.int .i64 a) := by rw [← hW]; exact keepA _ (by simp)
  have y1 : W.cell? ⟨w.heap.size + 1, 1, none⟩ = some (.int .i64 c) := by rw [← hW]; exact keepA _ (by simp)
  have z0 : W.cell? ⟨w.heap.size + 1 + 1, 0, none⟩ = some (.string ⟨#[]⟩) := by rw [cellH hn]; rfl
  have z1 : W.frozen? ⟨w.heap.size + 1 + 1, 0, none⟩ = false := Lib.frozen_of_heap hn 0
  have hi := is_any W s a c
  rw [h] at hi
  clear h e2 hn
  go_enter Try.func21, Try.ntmps21
  go_wp2_with fail
  refine hi.mono ?_
  rintro e w1 ⟨rfl, hb⟩
  replace x0 := keepB hb x0
  have hzlt := World.block_lt_of_cell? W _ z0
  replace z1 := keepF hb hzlt z1
  replace z0 := keepB hb z0
  have B1 := Lib.hid (hB.out.trans (hb.mono hB.out.size))
  clear hb hW
  have f0 : (w1.setCell ⟨w.heap.size + 1 + 1, 0, none⟩ (.string ⟨#[]⟩)).cell? ⟨w.heap.size + 1 + 1, 0, none⟩ = some (.string ⟨#[]⟩) := World.cell?_setCell_same _ _ _ z0
  go_wp2
  refine bodyPost_ret (v := .tuple #[.agg #[.string ⟨#[]⟩], .int .i64 1]) (by simp [results, Try.f21, go_sem, f0]) rfl ⟨rfl, ?_⟩
  exact gset B1.out (by omega) _ _
theorem rreplace_ok (s t : ByteArray) (a c : Nat) (w : World) (h1 : a ≤ c) (h2 : c ≤ s.size) (hs : s.size ≤ 65536) (ht : t.size ≤ 65536) (hz : s.size - (c - a) + t.size ≤ 65536) : Calls Try.prog 21 #[.agg #[.string s], .agg #[.int .i64 a, .int .i64 c], .string t] w fun e w' => e = .returned (.tuple #[.agg #[.string ⟨(put s.data.toList a c t.data.toList).toArray⟩], .int .i64 0]) ∧ Below w.heap.size w w' := by
  obtain ⟨W, hW⟩ : ∃ W, ((w.alloc (.cells #[.string s] 42)).alloc (.cells #[.int .i64 a, .int .i64 c] 30)).alloc (.cells #[.string ⟨#[]⟩] 42) = W := ⟨_, rfl⟩
  have hB : Hid (Below w.heap.size w W) := Lib.hid (by rw [← hW]; exact galloc (galloc (galloc (Below.refl _ _) _) _) _)
  have e2 : ((w.alloc (.cells #[.string s] 42)).alloc (.cells #[.int .i64 a, .int .i64 c] 30)).heap.size = w.heap.size + 1 + 1 := by simp
  have hn := World.alloc_heap_new ((w.alloc (.cells #[.string s] 42)).alloc (.cells #[.int .i64 a, .int .i64 c] 30)) (.cells #[.string ⟨#[]⟩] 42)
  rw [e2, hW] at hn
  have x0 : W.cell? ⟨w.heap.size, 0, none⟩ = some (.string s) := by rw [← hW]; exact keepA _ (keepA _ (by simp))
  have y0 : W.cell? ⟨w.heap.size + 1, 0, none⟩ = some (.int .i64 a) := by rw [← hW]; exact keepA _ (by simp)
  have y1 : W.cell? ⟨w.heap.size + 1, 1, none⟩ = some (.int .i64 c) := by rw [← hW]; exact keepA _ (by simp)
  have z0 : W.cell? ⟨w.heap.size + 1 + 1, 0, none⟩ = some (.string ⟨#[]⟩) := by rw [cellH hn]; rfl
  have z1 : W.frozen? ⟨w.heap.size + 1 + 1, 0, none⟩ = false := Lib.frozen_of_heap hn 0
  have hi := is_any W s a c
  rw [isSpan_yes h1 h2] at hi
  have hp := fun w' => put_ok w' s t a c h1 h2 (by omega) (by omega)
  obtain ⟨R, hR⟩ : ∃ R : ByteArray, (⟨(put s.data.toList a c t.data.toList).toArray⟩ : ByteArray) = R := ⟨_, rfl⟩
  rw [hR] at hp ⊢
  have d1 : ¬ (65536 : Int) < (t.size : Int) := by omega
  have d2 : decide ((65536 : Int) < (t.size : Int)) = false := decide_eq_false d1
  have w1_ : IntKind.i64.wrap ((c : Int) - a) = (c : Int) - a := IntWalk.i64_in _ (by omega)
  have w2_ : IntKind.i64.wrap ((s.size : Int) - ((c : Int) - a)) = (s.size : Int) - ((c : Int) - a) := IntWalk.i64_in _ (by omega)
  have w3_ : IntKind.i64.wrap ((s.size : Int) - ((c : Int) - a) + t.size) = (s.size : Int) - ((c : Int) - a) + t.size := IntWalk.i64_in _ (by omega)
  have d3 : ¬ (65536 : Int) < (s.size : Int) - ((c : Int) - a) + t.size := by omega
  clear e2 hn hR
  go_enter Try.func21, Try.ntmps21
  go_wp2_with fail
  refine hi.mono ?_
  rintro e w1 ⟨rfl, hb⟩
  replace x0 := keepB hb x0
  replace y0 := keepB hb y0
  replace y1 := keepB hb y1
  have hzlt := World.block_lt_of_cell? W _ z0
  replace z1 := keepF hb hzlt z1
  replace z0 := keepB hb z0
  have B1 := Lib.hid (hB.out.trans (hb.mono hB.out.size))
  clear hb hW hi
  go_wp2_with fail
  refine (hp _).mono ?_
  rintro e w2 ⟨rfl, hb⟩
  have hzl2 := World.block_lt_of_cell? w1 _ z0
  replace z1 := keepF hb hzl2 z1
  replace z0 := keepB hb z0
  have B2 := Lib.hid (B1.out.trans (hb.mono B1.out.size))
  clear hb hp
  have f0 : (w2.setCell ⟨w.heap.size + 1 + 1, 0, none⟩ (.string R)).cell? ⟨w.heap.size + 1 + 1, 0, none⟩ = some (.string R) := World.cell?_setCell_same _ _ _ z0
  go_wp2
  refine bodyPost_ret (v := .tuple #[.agg #[.string R], .int .i64 0]) (by simp [results, Try.f21, go_sem, f0]) rfl ⟨rfl, ?_⟩
  exact gset B2.out (by omega) _ _

set_option maxRecDepth 100000 in
set_option maxHeartbeats 2000000 in
theorem same_any (w : World) (b : Nat) (s : ByteArray) (h : Rp w b s.data.toList) (hs : s.size ≤ 65536) : Calls Try.prog 20 #[.pointer (some ⟨b, 0, none⟩), .agg #[.string s]] w fun e w' => e = .returned (.bool true) ∧ Below w.heap.size w w' := by
  have hl : s.data.toList.length = s.size := (Lib.size_eq s).symm
  obtain ⟨W, hW⟩ : ∃ W, w.alloc (.cells #[.string s] 42) = W := ⟨_, rfl⟩
  have hB : Hid (Below w.heap.size w W) := Lib.hid (by rw [← hW]; exact (Below.refl _ _).alloc (Nat.le_refl _) _)
  have x0 : W.cell? ⟨w.heap.size, 0, none⟩ = some (.string s) := by rw [← hW]; simp
  have R := Lib.hid (h.below (Nat.le_refl _) hB.out)
  have cn := fun w' (h' : Rp w' b s.data.toList) => rp_len w' b _ h'
  rw [hl] at cn
  have cd := fun w' (h' : Rp w' b s.data.toList) => rp_depth2 w' b _ h'
  have ct := fun w' (h' : Rp w' b s.data.toList) => rp_string w' b _ h' (by omega)
  rw [str_self] at ct
  have ce := fun w' (h' : Rp w' b s.data.toList) => rp_ends w' b _ h'
  have cf := fun w' => rends_any s w' (by omega)
  have cm := fun w' => most_any s.size w' (by omega)
  have hb := bits_lt s.size
  have HL := Lib.hid hl
  have HB := Lib.hid hb
  generalize s.data.toList.count 10 = q at *
  generalize bits s.size = m at *
  clear h hl hb
  go_enter Try.func20, Try.ntmps20
  go_wp2_with fail
  refine (cd _ R.out).mono ?_
  rintro e w1 ⟨d, ⟨rfl, hd⟩, hb⟩
  clear hW
  replace x0 := keepB hb x0
  have R1 := Lib.hid (R.out.below (Nat.le_refl _) hb)
  have B1 := Lib.hid (hB.out.trans (hb.mono hB.out.size))
  have hdm : (d : Int) ≤ 2 + 2 * (m : Int) := by
    have := hd.2.2 m (by rw [HL.out]; exact HB.out)
    omega
  have hd0 : (0 : Int) ≤ (d : Int) := by omega
  have hzz : w.heap.size < w1.heap.size := World.block_lt_of_cell? w1 ⟨w.heap.size, 0, none⟩ x0
  have hbe : (((d : Int) == 0) == ((s.size : Int) == 0)) = true := by
    by_cases hz : s.size = 0
    · have e1 : d = 0 := hd.1 (List.eq_nil_of_length_eq_zero (by rw [HL.out]; exact hz))
      rw [e1, hz]; rfl
    · have e1 : 0 < d := hd.2.1 (fun e => hz (by rw [← HL.out, e]; rfl))
      have a1 : ((d : Int) == 0) = false := by rw [beq_eq_false_iff_ne]; omega
      have a2 : ((s.size : Int) == 0) = false := by rw [beq_eq_false_iff_ne]; omega
      rw [a1, a2]; rfl
  have tn := fun W' (hW : Below w1.heap.size w1 W') => cn W' (R1.out.below (Nat.le_refl _) hW)
  have tt := fun W' (hW : Below w1.heap.size w1 W') => ct W' (R1.out.below (Nat.le_refl _) hW)
  have te := fun W' (hW : Below w1.heap.size w1 W') => ce W' (R1.out.below (Nat.le_refl _) hW)
  clear hb hd cn cd ct ce
  by_cases hz : s.size = 0
  · have a2 : ((s.size : Int) == 0) = true := by rw [hz]; rfl
    have a1 : ((d : Int) == 0) = true := by rw [a2] at hbe; simpa using hbe
    clear hz
    go_wp2
    go_region_held3 (fun u => u.cell? ⟨w.heap.size, 0, none⟩ = some (.string s)) (first | exact x0 | (with_reducible exact q1) | (with_reducible exact q2) | (with_reducible exact q3) | go_keep) (first | (go_at_call 14; (with_reducible refine Calls.mono (tn _ (Below.refl _ _).drew) ?_); rintro e v1 ⟨rfl, hb1⟩; have g1 := (Below.refl w1.heap.size w1).drew.trans hb1; have q1 := (g1.cell (p := ⟨w.heap.size, 0, none⟩) hzz).trans x0) | (go_at_call 18; (with_reducible refine Calls.mono (tt v1 g1) ?_); rintro e v2 ⟨rfl, hb2⟩; have g2 := gcall g1 hb2; have q2 := (g2.cell (p := ⟨w.heap.size, 0, none⟩) hzz).trans x0) | (go_at_call 17; (with_reducible refine Calls.mono (te v2 g2) ?_); rintro e v3 ⟨rfl, hb3⟩; have g3 := gcall g2 hb3; have q3 := (g3.cell (p := ⟨w.heap.size, 0, none⟩) hzz).trans x0) | (go_at_call 37; (with_reducible refine Calls.mono (cf v3) ?_); rintro e v4 ⟨rfl, rfl⟩) | (go_at_call 38; (with_reducible refine Calls.mono (cm v3) ?_); rintro e v5 ⟨rfl, rfl⟩))
    go_wp2
    go_ret
    exact ⟨rfl, B1.out.trans (g3.mono B1.out.size)⟩
  · have a2 : ((s.size : Int) == 0) = false := by rw [beq_eq_false_iff_ne]; omega
    have a1 : ((d : Int) == 0) = false := by rw [a2] at hbe; simpa using hbe
    clear hz
    go_wp2
    go_region_held3 (fun u => u.cell? ⟨w.heap.size, 0, none⟩ = some (.string s)) (first | exact x0 | (with_reducible exact q1) | (with_reducible exact q2) | (with_reducible exact q3) | go_keep) (first | (go_at_call 14; (with_reducible refine Calls.mono (tn _ (Below.refl _ _).drew) ?_); rintro e v1 ⟨rfl, hb1⟩; have g1 := (Below.refl w1.heap.size w1).drew.trans hb1; have q1 := (g1.cell (p := ⟨w.heap.size, 0, none⟩) hzz).trans x0) | (go_at_call 18; (with_reducible refine Calls.mono (tt v1 g1) ?_); rintro e v2 ⟨rfl, hb2⟩; have g2 := gcall g1 hb2; have q2 := (g2.cell (p := ⟨w.heap.size, 0, none⟩) hzz).trans x0) | (go_at_call 17; (with_reducible refine Calls.mono (te v2 g2) ?_); rintro e v3 ⟨rfl, hb3⟩; have g3 := gcall g2 hb3; have q3 := (g3.cell (p := ⟨w.heap.size, 0, none⟩) hzz).trans x0) | (go_at_call 37; (with_reducible refine Calls.mono (cf v3) ?_); rintro e v4 ⟨rfl, rfl⟩) | (go_at_call 38; (with_reducible refine Calls.mono (cm v3) ?_); rintro e v5 ⟨rfl, rfl⟩))
    go_wp2
    go_ret
    exact ⟨rfl, B1.out.trans (g3.mono B1.out.size)⟩
end Go.Proofs.Ytbmcgmnmmnileaa
