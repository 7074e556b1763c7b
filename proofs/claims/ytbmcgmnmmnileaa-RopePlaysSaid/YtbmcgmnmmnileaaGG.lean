/-
  RopePlays: the law's walk.
-/
import Derived.Test.YtbmcgmnmmnileaaFF
namespace Go.Proofs.Ytbmcgmnmmnileaa
open Go.RowKit Go.Shelf

theorem Plays.start (w : World) (B b : Nat) (s : ByteArray) (h : Rp w b s.data.toList) (hB : B ≤ w.heap.size) (lim : Nat) (hs : s.size ≤ lim) :
    Plays ((w.alloc (.cells #[ptr b] 23)).alloc (.cells #[.string s] 42)) B (.slice (some ⟨w.heap.size, 0, none⟩) 1 1) (.slice (some ⟨w.heap.size + 1, 0, none⟩) 1 1) [b] [s] lim := by
  have hb : Below w.heap.size w ((w.alloc (.cells #[ptr b] 23)).alloc (.cells #[.string s] 42)) := galloc (galloc (Below.refl _ _) _) _
  have h1 := World.alloc_heap_new w (.cells #[ptr b] 23)
  have h2 := World.alloc_heap_new (w.alloc (.cells #[ptr b] 23)) (.cells #[.string s] 42)
  have hz : (w.alloc (.cells #[ptr b] 23)).heap.size = w.heap.size + 1 := by simp
  rw [hz] at h2
  refine ⟨rfl, by simp, ⟨rfl, .inr ⟨w.heap.size, 1, #[ptr b], rfl, hB, ?_, by simp, by unfold maxLen; omega, rfl, rfl⟩⟩, ⟨rfl, .inr ⟨w.heap.size + 1, 1, #[.string s], rfl, by omega, h2, by simp, by unfold maxLen; omega, rfl, rfl⟩⟩, ?_, ?_⟩
  · rw [Below.heap_alloc _ _ _ (by simp)]; exact h1
  · intro j b' t h1 h2
    cases j with
    | zero => simp at h1 h2; subst h1 h2; exact h.below (Nat.le_refl _) hb
    | succ j => simp at h1
  · intro t ht; simp at ht; subst ht; exact hs
theorem total_le (f : Nat → Step) : ∀ k n : Nat, k ≤ n → total f k ≤ total f n
  | k, 0, h => by have : k = 0 := by omega
                  subst this; exact Nat.le_refl _
  | k, n + 1, h => by
    rcases Nat.lt_or_ge n k with g | g
    · have : k = n + 1 := by omega
      subst this; exact Nat.le_refl _
    · have := total_le f k n g
      show total f k ≤ total f n + _
      omega

theorem inf23 : (Try.prog.info? 23).map (fun i => (i.zero, i.size, i.bytes)) = some (some (.pointer none), 1, 8) := by kernel_rfl
theorem inf42 : (Try.prog.info? 42).map (fun i => (i.zero, i.size, i.bytes)) = some (some (.agg #[.string ⟨#[]⟩]), 1, 16) := by kernel_rfl
theorem u43 : Try.prog.underlying 43 = some (.slice 23) := by kernel_rfl
theorem u44 : Try.prog.underlying 44 = some (.slice 42) := by kernel_rfl
theorem Plays.cell1 {w : World} {B g1 m c1 : Nat} {vt : Value} {bs : List Nat} {ts : List ByteArray} {lim : Nat} (h : Plays w B (.slice (some ⟨g1, 0, none⟩) m c1) vt bs ts lim) :
    g1 < w.heap.size ∧ ∀ (j : Nat) b, bs[j]? = some b → w.cell? ⟨g1, j, none⟩ = some (.pointer (some ⟨b, 0, none⟩)) := by
  obtain ⟨g, c, g', c', e1, _, _, h1, _, _, _, _, _, _, _, h2, _⟩ := h.form
  injection e1 with e1 _ _
  injection e1 with e1
  injection e1 with e1 _ _
  subst e1
  exact ⟨h1, h2⟩
theorem Plays.cell2 {w : World} {B g2 m c2 : Nat} {va : Value} {bs : List Nat} {ts : List ByteArray} {lim : Nat} (h : Plays w B va (.slice (some ⟨g2, 0, none⟩) m c2) bs ts lim) :
    g2 < w.heap.size ∧ ∀ (j : Nat) t, ts[j]? = some t → w.cell? ⟨g2, j, none⟩ = some (.string t) := by
  obtain ⟨g, c, g', c', _, e1, _, _, _, h1, _, _, _, _, _, _, h2⟩ := h.form
  injection e1 with e1 _ _
  injection e1 with e1
  injection e1 with e1 _ _
  subst e1
  exact ⟨h1, h2⟩
set_option maxRecDepth 100000 in
set_option maxHeartbeats 8000000 in
theorem plays_some (w : World) (s : ByteArray) (g off n cap : Nat) (f : Nat → Step) (h : StepsAt w g off n f) (hg : g < w.heap.size) (hn : n ≤ cap) (hN : ∀ i, i < n → (f i).n ≤ 9223372036854775807) :
    Calls Try.prog 4 #[.string s, .slice (some ⟨g, off, none⟩) n cap] w fun e w' => e = .returned (.bool true) ∧ Below w.heap.size w w' := by
  have hl := large_some w s g off n cap f h hn
  have H := Lib.hid h
  have HN := Lib.hid hN
  clear h hN
  obtain ⟨i23, hi23, hz23, hs23, hb23⟩ := info_parts inf23
  obtain ⟨i42, hi42, hz42, hs42, hb42⟩ := info_parts inf42
  go_enter Try.func4, Try.ntmps4
  go_wp2_with fail
  refine hl.mono ?_
  rintro e w1 ⟨b, rfl, hb, rfl⟩
  cases b with
  | true =>
    go_wp2
    go_ret
    exact ⟨rfl, Below.refl _ _⟩
  | false =>
    have hsm := hb rfl
    have h5 : s.size ≤ 5000 := hsm.2.1
    have hn60 : n ≤ 60 := hsm.1
    have HSM := Lib.hid hsm
    clear hb hsm hl
    go_wp2_with fail
    refine (rp_of s _ (by omega)).mono ?_
    rintro e w1 ⟨br, rfl, kr, hb⟩
    have R := Lib.hid kr
    have B1 := Lib.hid hb
    clear kr hb
    go_wp2_with fail
    refine (same_any _ br s R.out (by omega)).mono ?_
    rintro e w2 ⟨rfl, hb⟩
    have R2 := Lib.hid (R.out.below (Nat.le_refl _) hb)
    have B2 := Lib.hid (B1.out.trans (hb.mono B1.out.size))
    clear hb
    have P0 := Lib.hid (Plays.start w2 w.heap.size br s R2.out B2.out.size 5000 h5)
    have BB := Lib.hid (galloc (galloc B2.out (.cells #[ptr br] 23)) (.cells #[.string s] 42))
    go_wp2
    go_loopw [7, 8, 9] (fun va vt i wr => ∃ (k : Nat) (bs : List Nat) (ts : List ByteArray), i = .int .i64 k ∧ k ≤ n ∧ bs.length ≤ k + 1 ∧ Hid (Plays wr w.heap.size va vt bs ts (5000 + total f k)) ∧ Hid (Below w.heap.size w wr)) (fun _ _ i _ => n - (intOf i).toNat)
    case atStart => exact ⟨0, [br], [s], rfl, by omega, by simp, Lib.hid P0.out, BB⟩
    case round =>
      obtain ⟨k, bs, ts, rfl, hk, hbk, HP, HB⟩ := hrel
      obtain ⟨g1, c1, g2, c2, rfl, rfl, d1, d2, d3, d4, d5, d6, d7, d8, d9, hc1, hc2⟩ := HP.out.form
      have HC1 := Lib.hid hc1
      have HC2 := Lib.hid hc2
      clear hc1 hc2 P0 BB R R2 B1 B2
      obtain ⟨m, hm⟩ : ∃ m, bs.length = m := ⟨_, rfl⟩
      have HM := Lib.hid hm
      have HPm : Hid (Plays wr w.heap.size (.slice (some ⟨g1, 0, none⟩) m c1) (.slice (some ⟨g2, 0, none⟩) m c2) bs ts (5000 + total f k)) := Lib.hid (by rw [← hm]; exact HP.out)
      have hm0 : 0 < m := by rw [← hm]; exact HP.out.pos
      rw [hm] at hbk d6 d8 ⊢
      clear hm
      by_cases hlt : k < n
      · have hlt' : (k : Int) < (n : Int) := by omega
        obtain ⟨y0, y1, y2, y3, y4, y5⟩ := H.out.below HB.out hg k hlt
        have hS := HSM.out.2.2.2 k hlt
        have hNk := HN.out k hlt
        have hT : total f (k + 1) ≤ 5000 := Nat.le_trans (total_le f (k + 1) n hlt) HSM.out.2.2.1
        have hTS : total f (k + 1) = total f k + (f k).s.size := rfl
        obtain ⟨KD, hKD⟩ : ∃ x, (f k).kind = x := ⟨_, rfl⟩
        obtain ⟨PO, hPO⟩ : ∃ x, (f k).pos = x := ⟨_, rfl⟩
        obtain ⟨XA, hXA⟩ : ∃ x, (f k).from_ = x := ⟨_, rfl⟩
        obtain ⟨XB, hXB⟩ : ∃ x, (f k).upto = x := ⟨_, rfl⟩
        obtain ⟨S, hSS⟩ : ∃ x, (f k).s = x := ⟨_, rfl⟩
        obtain ⟨NN, hNN⟩ : ∃ x, (f k).n = x := ⟨_, rfl⟩
        rw [hKD] at y0
        rw [hPO] at y1
        rw [hXA] at y2
        rw [hXB] at y3
        rw [hSS] at y4 hS hTS
        rw [hNN] at y5 hNk
        obtain ⟨A, hA⟩ : ∃ A : Nat, IntKind.u64.wrap PO = (A : Int) := ⟨(IntKind.u64.wrap PO).toNat, by
          have : 0 ≤ IntKind.u64.wrap PO := by rw [IntKind.wrap_u64]; omega
          omega⟩
        have hA2 : A ≤ 18446744073709551615 := by
          have : IntKind.u64.wrap PO ≤ 18446744073709551615 := by rw [IntKind.wrap_u64]; omega
          omega
        obtain ⟨q, hq⟩ : ∃ q : Nat, A % m = q := ⟨_, rfl⟩
        have hqm : q < m := by rw [← hq]; exact Nat.mod_lt _ hm0
        have hmod : Int.tmod (A : Int) (m : Int) = (q : Int) := by rw [Int.tmod_eq_emod_of_nonneg (by omega), ← hq]; rfl
        have hmod2 : (A : Int) % (m : Int) = (q : Int) := by rw [← hq]; rfl
        have hq63 : IntKind.i64.wrap (q : Int) = q := IntWalk.i64_in _ (by omega)
        have HQ := Lib.hid hq
        have HTS := Lib.hid hTS
        have HA2 := Lib.hid hA2
        clear hq hKD hPO hXA hXB hSS hNN hTS hA2
        obtain ⟨b, t, hb, ht, hR, hz⟩ := HP.out.at q (by rw [HM.out]; exact hqm)
        have x1 : wr.cell? ⟨g1, q, none⟩ = some (.pointer (some ⟨b, 0, none⟩)) := HC1.out q b hb
        have x2 : wr.cell? ⟨g2, q, none⟩ = some (.string t) := HC2.out q t ht
        have htl : t.data.toList.length = t.size := (Lib.size_eq t).symm
        have hz2 : t.size ≤ 10000 := by have := HTS.out; omega
        have hgr : g < wr.heap.size := Nat.lt_of_lt_of_le hg HB.out.size
        have HR := Lib.hid hR
        have HZ := Lib.hid hz
        have HTL := Lib.hid htl
        clear hb ht hR hz htl
        by_cases k0 : (KD == 0) = true
        · have k0' := k0
          by_cases hsp : isSpan t.size XA XB = true
          · as_aux_lemma =>
            have hsp3 : 0 ≤ XA ∧ XA ≤ XB ∧ XB ≤ t.size := by simpa [isSpan] using hsp
            obtain ⟨ka, rfl⟩ := Int.eq_ofNat_of_zero_le hsp3.1
            obtain ⟨kc, rfl⟩ := Int.eq_ofNat_of_zero_le (show 0 ≤ XB by omega)
            have e1 : ka ≤ kc := by omega
            have e2 : kc ≤ t.size := by omega
            have e3 : t.size - (kc - ka) + S.size ≤ 5000 + total f (k + 1) := by have := HTS.out; have := HZ.out; omega
            obtain ⟨R, hRR⟩ : ∃ R : ByteArray, (⟨(put t.data.toList ka kc S.data.toList).toArray⟩ : ByteArray) = R := ⟨_, rfl⟩
            have hRl : R.data.toList = put t.data.toList ka kc S.data.toList := by rw [← hRR]
            have hRz : R.size ≤ 5000 + total f (k + 1) := by
              rw [Lib.size_eq, hRl, put_len _ _ _ _ e1 (by rw [HTL.out]; exact e2), HTL.out, ← Lib.size_eq]; exact e3
            have cA : ∀ W', Below wr.heap.size wr W' → Calls Try.prog 10 #[.pointer (some ⟨b, 0, none⟩), .agg #[.int .i64 ka, .int .i64 kc], .string S] W' fun e w' => ∃ b2, e = .returned (.tuple #[.pointer (some ⟨b2, 0, none⟩), .int .i64 0]) ∧ Rp w' b2 R.data.toList ∧ Below W'.heap.size W' w' := fun W' hW => by
              rw [hRl]
              exact rp_replace W' b _ (HR.out.below (Nat.le_refl _) hW) (by rw [HTL.out]; omega) ka kc S e1 (by rw [HTL.out]; exact e2) (by rw [HTL.out]; omega)
            have cB := fun W' => rreplace_ok t S ka kc W' e1 e2 (by omega) (by omega) (by omega)
            rw [hRR] at cB
            clear hsp hsp3 hRR hRl e1 e2 e3
            go_wp2
            go_region_held3 (fun u => u.cell? ⟨g1, q, none⟩ = some (.pointer (some ⟨b, 0, none⟩)) ∧ u.cell? ⟨g, off + k * 6 + 2, none⟩ = some (.int .i64 ka) ∧ u.cell? ⟨g, off + k * 6 + 3, none⟩ = some (.int .i64 kc) ∧ u.cell? ⟨g, off + k * 6 + 4, none⟩ = some (.string S)) (first | exact ⟨x1, y2, y3, y4⟩ | (with_reducible exact ⟨x1', y2', y3', y4'⟩) | go_keep) (first | (go_at_call 10; (with_reducible refine Calls.mono (cA _ (Below.refl _ _).drew) ?_); rintro e v1 ⟨b2, rfl, hr2, hb1⟩; have gg1 := (Below.refl wr.heap.size wr).drew.trans hb1; have x1' := (gg1.cell (p := ⟨g1, q, none⟩) d2).trans x1; have x2' := (gg1.cell (p := ⟨g2, q, none⟩) d4).trans x2; have y2' := (gg1.cell (p := ⟨g, off + k * 6 + 2, none⟩) hgr).trans y2; have y3' := (gg1.cell (p := ⟨g, off + k * 6 + 3, none⟩) hgr).trans y3; have y4' := (gg1.cell (p := ⟨g, off + k * 6 + 4, none⟩) hgr).trans y4))
            have G1 := Lib.hid gg1
            have hv1 : wr.heap.size ≤ v1.heap.size := gg1.size
            have ng2 : v1.heap.size ≠ g2 := by omega
            have ngg : v1.heap.size ≠ g := by omega
            have HR2 := Lib.hid hr2
            clear gg1 hb1 cA x1' hr2
            go_wp2
            go_region_held3 (fun u => u.cell? ⟨g2, q, none⟩ = some (.string t) ∧ u.cell? ⟨g, off + k * 6 + 2, none⟩ = some (.int .i64 ka) ∧ u.cell? ⟨g, off + k * 6 + 3, none⟩ = some (.int .i64 kc) ∧ u.cell? ⟨g, off + k * 6 + 4, none⟩ = some (.string S)) (first | exact ⟨x2', y2', y3', y4'⟩ | (with_reducible exact ⟨z2, z2', z3', z4'⟩) | ((with_reducible (refine ⟨?_, ?_, ?_, ?_⟩ <;> (repeat' (first | assumption | refine keepD ?_ | refine keepA _ ?_ | refine (World.cell?_setCell_far _ _ _ _ ?_).trans ?_)))); done) | go_keep) (first | (go_at_call 21; (with_reducible refine Calls.mono (cB _) ?_); rintro e v2 ⟨rfl, hb2⟩; have gg2 : Below wr.heap.size wr v2 := (by first | exact gcall G1.out.drew hb2 | exact gcall (galloc G1.out _).drew hb2 | exact gcall G1.out hb2 | exact gcall (galloc G1.out _) hb2); have bl2 : Below v1.heap.size v1 v2 := (by first | exact gcall (Below.refl _ _).drew hb2 | exact gcall (galloc (Below.refl _ _) _).drew hb2 | exact gcall (Below.refl _ _) hb2 | exact gcall (galloc (Below.refl _ _) _) hb2); have z2 := (gg2.cell (p := ⟨g2, q, none⟩) d4).trans x2; have z2' := (gg2.cell (p := ⟨g, off + k * 6 + 2, none⟩) hgr).trans y2; have z3' := (gg2.cell (p := ⟨g, off + k * 6 + 3, none⟩) hgr).trans y3; have z4' := (gg2.cell (p := ⟨g, off + k * 6 + 4, none⟩) hgr).trans y4; have n2g : v2.heap.size ≠ g2 := (by have := gg2.size; omega); have n2gg : v2.heap.size ≠ g := (by have := gg2.size; omega); (try (refine (have bx : v2.cell? ⟨v1.heap.size, 0, none⟩ = some (.string ⟨#[]⟩) := (hb2.cell (p := ⟨v1.heap.size, 0, none⟩) ?_).trans ?_; ?_); (· (simp; done)); (· (simp; done)))); (try (refine (have bf : v2.frozen? ⟨v1.heap.size, 0, none⟩ = false := (hb2.frozen (p := ⟨v1.heap.size, 0, none⟩) ?_).trans ?_; ?_); (· (simp; done)); (· (simp; done))))))
            · as_aux_lemma =>
              obtain ⟨W3, hW3⟩ : ∃ W, v2.alloc (.cells #[.string R] 42) = W := ⟨_, rfl⟩
              have BW : Hid (Below wr.heap.size wr W3) := Lib.hid (by rw [← hW3]; exact galloc gg2 _)
              have BV : Hid (Below v1.heap.size v1 W3) := Lib.hid (by rw [← hW3]; exact galloc bl2 _)
              have xC : W3.cell? ⟨v2.heap.size, 0, none⟩ = some (.string R) := by rw [← hW3]; simp
              have hC : wr.heap.size ≤ v2.heap.size := by have := gg2.size; omega
              have PW := Lib.hid (HPm.out.below BW.out (Nat.le_refl _))
              have RW := Lib.hid (HR2.out.below (Nat.le_refl _) BV.out)
              rw [hW3]
              obtain ⟨CC, hCC⟩ : ∃ x, v2.heap.size = x := ⟨_, rfl⟩
              rw [hCC] at xC hC
              simp only [hCC]
              have hCW : CC < W3.heap.size := World.block_lt_of_cell? W3 _ xC
              clear hW3 hCC cB gg2 hb2 bl2
              have hsW : w.heap.size ≤ W3.heap.size := Nat.le_trans HB.out.size BW.out.size
              go_wp2_with (at_builtin; refine wpList_append_own _ rfl _ _ 43 rfl w.heap.size 23 i23 (.pointer none) 1 8 u43 hi23 hz23 hs23 hb23 rfl (by decide) _ _ _ rfl (PW.out.own1.alloc _) ⟨W3.heap.size, 0, none⟩ 1 1 [ptr b2] rfl rfl ?c1 ?c2 ?c3 ?c4 ?c5 ?_)
              case c1 => exact World.news_of_block (w := W3.alloc (.cells #[ptr b2] 23)) (World.alloc_heap_new W3 _)
              case c2 => simp [Value.oneCell', ptr]
              case c3 => have := HM.out; unfold maxLen; omega
              case c4 => have := HM.out; omega
              case c5 => simp; omega
              intro va' W4 hown4 hgrow4 _
              have HH := Lib.hid (PW.out.half RW.out _ hgrow4 hown4)
              have BW4 : Hid (Below w.heap.size w W4) := Lib.hid ((galloc (gcall HB.out (BW.out.mono (Nat.le_refl _))) _).grown hgrow4 (Nat.le_trans hsW (by simp)) (fun b e => (PW.out.own1.lt b e).1))
              have xC4 := hgrow4.cell (keepA (.cells #[ptr b2] 23) xC) (by simp [Value.ownBlock]; omega)
              have hCW4 : CC < W4.heap.size := World.block_lt_of_cell? W4 _ xC4
              clear hown4 hgrow4 PW xC
              go_wp2_with (at_builtin; refine wpList_append_own _ rfl _ _ 44 rfl w.heap.size 42 i42 (.agg #[.string ⟨#[]⟩]) 1 16 u44 hi42 hz42 hs42 hb42 rfl (by decide) _ _ _ rfl (HH.out.own2.alloc _) ⟨W4.heap.size, 0, none⟩ 1 1 [.string R] rfl rfl ?c1 ?c2 ?c3 ?c4 ?c5 ?_)
              case c1 => exact World.news_of_block (w := W4.alloc (.cells #[.string R] 42)) (World.alloc_heap_new W4 _)
              case c2 => simp [Value.oneCell']
              case c3 => have := HM.out; unfold maxLen; omega
              case c4 => have := HM.out; omega
              case c5 => have := BW4.out.size; simp; omega
              intro vt' W5 hown5 hgrow5 _
              have HF := Lib.hid (HH.out.full _ hgrow5 hown5 (lim2 := 5000 + total f (k + 1)) (by have := HTS.out; omega) hRz)
              have BW5 : Hid (Below w.heap.size w W5) := Lib.hid ((galloc BW4.out _).grown hgrow5 (by have := BW4.out.size; simp; omega) (fun b e => (HH.out.own2.lt b e).1))
              have xC5 := hgrow5.cell (keepA (.cells #[.string R] 42) xC4) (by simp [Value.ownBlock]; omega)
              have hc5 := same_any W5 b2 R (HF.out.rp bs.length b2 R (by simp) (by simp [HPm.out.len])) (by omega)
              clear hown5 hgrow5 HH xC4
              go_wp2_with fail
              refine hc5.mono ?_
              rintro e W6 ⟨rfl, hb6⟩
              have HF6 := Lib.hid (HF.out.below hb6 (Nat.le_refl _))
              have B6 := Lib.hid (gcall BW5.out hb6)
              clear hb6 hc5
              go_wp2
              go_roundw
              case rel => exact ⟨k + 1, bs ++ [b2], ts ++ [R], by go_num, by omega, by have := HM.out; simp; omega, HF6, B6⟩
              case measure => simp [intOf]; omega
            · as_aux_lemma =>
              obtain ⟨W3, hW3⟩ : ∃ W, v2.setCell ⟨v1.heap.size, 0, none⟩ (.string R) = W := ⟨_, rfl⟩
              have BW : Hid (Below wr.heap.size wr W3) := Lib.hid (by rw [← hW3]; exact gset gg2 hv1 0 _)
              have BV : Hid (Below v1.heap.size v1 W3) := Lib.hid (by rw [← hW3]; exact gset bl2 (Nat.le_refl _) 0 _)
              have xC : W3.cell? ⟨v1.heap.size, 0, none⟩ = some (.string R) := by rw [← hW3]; exact World.cell?_setCell_same _ _ _ bx
              have hC : wr.heap.size ≤ v1.heap.size := by have := gg2.size; omega
              have PW := Lib.hid (HPm.out.below BW.out (Nat.le_refl _))
              have RW := Lib.hid (HR2.out.below (Nat.le_refl _) BV.out)
              rw [hW3]
              obtain ⟨CC, hCC⟩ : ∃ x, v1.heap.size = x := ⟨_, rfl⟩
              rw [hCC] at xC hC
              simp only [hCC]
              have hCW : CC < W3.heap.size := World.block_lt_of_cell? W3 _ xC
              clear hW3 hCC cB gg2 hb2 bl2
              have hsW : w.heap.size ≤ W3.heap.size := Nat.le_trans HB.out.size BW.out.size
              go_wp2_with (at_builtin; refine wpList_append_own _ rfl _ _ 43 rfl w.heap.size 23 i23 (.pointer none) 1 8 u43 hi23 hz23 hs23 hb23 rfl (by decide) _ _ _ rfl (PW.out.own1.alloc _) ⟨W3.heap.size, 0, none⟩ 1 1 [ptr b2] rfl rfl ?c1 ?c2 ?c3 ?c4 ?c5 ?_)
              case c1 => exact World.news_of_block (w := W3.alloc (.cells #[ptr b2] 23)) (World.alloc_heap_new W3 _)
              case c2 => simp [Value.oneCell', ptr]
              case c3 => have := HM.out; unfold maxLen; omega
              case c4 => have := HM.out; omega
              case c5 => simp; omega
              intro va' W4 hown4 hgrow4 _
              have HH := Lib.hid (PW.out.half RW.out _ hgrow4 hown4)
              have BW4 : Hid (Below w.heap.size w W4) := Lib.hid ((galloc (gcall HB.out (BW.out.mono (Nat.le_refl _))) _).grown hgrow4 (Nat.le_trans hsW (by simp)) (fun b e => (PW.out.own1.lt b e).1))
              have xC4 := hgrow4.cell (keepA (.cells #[ptr b2] 23) xC) (by simp [Value.ownBlock]; omega)
              have hCW4 : CC < W4.heap.size := World.block_lt_of_cell? W4 _ xC4
              clear hown4 hgrow4 PW xC
              go_wp2_with (at_builtin; refine wpList_append_own _ rfl _ _ 44 rfl w.heap.size 42 i42 (.agg #[.string ⟨#[]⟩]) 1 16 u44 hi42 hz42 hs42 hb42 rfl (by decide) _ _ _ rfl (HH.out.own2.alloc _) ⟨W4.heap.size, 0, none⟩ 1 1 [.string R] rfl rfl ?c1 ?c2 ?c3 ?c4 ?c5 ?_)
              case c1 => exact World.news_of_block (w := W4.alloc (.cells #[.string R] 42)) (World.alloc_heap_new W4 _)
              case c2 => simp [Value.oneCell']
              case c3 => have := HM.out; unfold maxLen; omega
              case c4 => have := HM.out; omega
              case c5 => have := BW4.out.size; simp; omega
              intro vt' W5 hown5 hgrow5 _
              have HF := Lib.hid (HH.out.full _ hgrow5 hown5 (lim2 := 5000 + total f (k + 1)) (by have := HTS.out; omega) hRz)
              have BW5 : Hid (Below w.heap.size w W5) := Lib.hid ((galloc BW4.out _).grown hgrow5 (by have := BW4.out.size; simp; omega) (fun b e => (HH.out.own2.lt b e).1))
              have xC5 := hgrow5.cell (keepA (.cells #[.string R] 42) xC4) (by simp [Value.ownBlock]; omega)
              have hc5 := same_any W5 b2 R (HF.out.rp bs.length b2 R (by simp) (by simp [HPm.out.len])) (by omega)
              clear hown5 hgrow5 HH xC4
              go_wp2_with fail
              refine hc5.mono ?_
              rintro e W6 ⟨rfl, hb6⟩
              have HF6 := Lib.hid (HF.out.below hb6 (Nat.le_refl _))
              have B6 := Lib.hid (gcall BW5.out hb6)
              clear hb6 hc5
              go_wp2
              go_roundw
              case rel => exact ⟨k + 1, bs ++ [b2], ts ++ [R], by go_num, by omega, by have := HM.out; simp; omega, HF6, B6⟩
              case measure => simp [intOf]; omega
          · as_aux_lemma =>
            have hsp' : isSpan t.size XA XB = false := by simpa using hsp
            have cA := fun W' (hW : Below wr.heap.size wr W') => rp_replace_bad W' b _ XA XB S (HR.out.below (Nat.le_refl _) hW) (by rw [HTL.out]; exact hsp')
            have cB := fun W' => rreplace_bad t S XA XB W' hsp'
            clear hsp hsp'
            go_wp2
            go_region_held3 (fun u => u.cell? ⟨g1, q, none⟩ = some (.pointer (some ⟨b, 0, none⟩)) ∧ u.cell? ⟨g, off + k * 6 + 2, none⟩ = some (.int .i64 XA) ∧ u.cell? ⟨g, off + k * 6 + 3, none⟩ = some (.int .i64 XB) ∧ u.cell? ⟨g, off + k * 6 + 4, none⟩ = some (.string S)) (first | exact ⟨x1, y2, y3, y4⟩ | (with_reducible exact ⟨x1', y2', y3', y4'⟩) | go_keep) (first | (go_at_call 10; (with_reducible refine Calls.mono (cA _ (Below.refl _ _).drew) ?_); rintro e v1 ⟨rfl, hb1⟩; have gg1 := (Below.refl wr.heap.size wr).drew.trans hb1; have x1' := (gg1.cell (p := ⟨g1, q, none⟩) d2).trans x1; have x2' := (gg1.cell (p := ⟨g2, q, none⟩) d4).trans x2; have y2' := (gg1.cell (p := ⟨g, off + k * 6 + 2, none⟩) hgr).trans y2; have y3' := (gg1.cell (p := ⟨g, off + k * 6 + 3, none⟩) hgr).trans y3; have y4' := (gg1.cell (p := ⟨g, off + k * 6 + 4, none⟩) hgr).trans y4))
            have G1 := Lib.hid gg1
            have hv1 : wr.heap.size ≤ v1.heap.size := gg1.size
            have ng2 : v1.heap.size ≠ g2 := by omega
            have ngg : v1.heap.size ≠ g := by omega
            clear gg1 hb1 cA x1'
            go_wp2
            go_region_held3 (fun u => u.cell? ⟨g2, q, none⟩ = some (.string t) ∧ u.cell? ⟨g, off + k * 6 + 2, none⟩ = some (.int .i64 XA) ∧ u.cell? ⟨g, off + k * 6 + 3, none⟩ = some (.int .i64 XB) ∧ u.cell? ⟨g, off + k * 6 + 4, none⟩ = some (.string S)) (first | exact ⟨x2', y2', y3', y4'⟩ | (with_reducible exact ⟨z2, z2', z3', z4'⟩) | ((with_reducible (refine ⟨?_, ?_, ?_, ?_⟩ <;> (repeat' (first | assumption | refine keepD ?_ | refine keepA _ ?_ | refine (World.cell?_setCell_far _ _ _ _ ?_).trans ?_)))); done) | go_keep) (first | (go_at_call 21; (with_reducible refine Calls.mono (cB _) ?_); rintro e v2 ⟨rfl, hb2⟩; have gg2 : Below wr.heap.size wr v2 := (by first | exact gcall G1.out.drew hb2 | exact gcall (galloc G1.out _).drew hb2 | exact gcall G1.out hb2 | exact gcall (galloc G1.out _) hb2); have bl2 : Below v1.heap.size v1 v2 := (by first | exact gcall (Below.refl _ _).drew hb2 | exact gcall (galloc (Below.refl _ _) _).drew hb2 | exact gcall (Below.refl _ _) hb2 | exact gcall (galloc (Below.refl _ _) _) hb2); have z2 := (gg2.cell (p := ⟨g2, q, none⟩) d4).trans x2; have z2' := (gg2.cell (p := ⟨g, off + k * 6 + 2, none⟩) hgr).trans y2; have z3' := (gg2.cell (p := ⟨g, off + k * 6 + 3, none⟩) hgr).trans y3; have z4' := (gg2.cell (p := ⟨g, off + k * 6 + 4, none⟩) hgr).trans y4; have n2g : v2.heap.size ≠ g2 := (by have := gg2.size; omega); have n2gg : v2.heap.size ≠ g := (by have := gg2.size; omega); (try (refine (have bx : v2.cell? ⟨v1.heap.size, 0, none⟩ = some (.string ⟨#[]⟩) := (hb2.cell (p := ⟨v1.heap.size, 0, none⟩) ?_).trans ?_; ?_); (· (simp; done)); (· (simp; done)))); (try (refine (have bf : v2.frozen? ⟨v1.heap.size, 0, none⟩ = false := (hb2.frozen (p := ⟨v1.heap.size, 0, none⟩) ?_).trans ?_; ?_); (· (simp; done)); (· (simp; done))))))
            all_goals
              go_wp2
              go_roundw
            case rel => exact ⟨k + 1, bs, ts, by go_num, by omega, by have := HM.out; omega, Lib.hid ((HPm.out.below (galloc gg2 _) (Nat.le_refl _)).more (by have := HTS.out; omega)), Lib.hid (gcall HB.out (galloc gg2 _))⟩
            case measure => simp [intOf]; omega
            case rel => exact ⟨k + 1, bs, ts, by go_num, by omega, by have := HM.out; omega, Lib.hid ((HPm.out.below (gset gg2 hv1 0 _) (Nat.le_refl _)).more (by have := HTS.out; omega)), Lib.hid (gcall HB.out (gset gg2 hv1 0 _))⟩
            case measure => simp [intOf]; omega
        have k0' : (KD == 0) = false := by simpa using k0
        clear k0
        by_cases k1 : (KD == 1) = true
        · as_aux_lemma =>
          have k1' := k1
          have cA := fun W' (hW : Below wr.heap.size wr W') => rp_slice W' b _ (HR.out.below (Nat.le_refl _) hW) (by rw [HTL.out]; omega) XA XB
          have cB := fun W' => rslice_any t XA XB W'
          generalize (sliceR t.data.toList XA XB).1 = L1 at *
          generalize (sliceR t.data.toList XA XB).2 = L2 at *
          go_wp2
          go_region_held3 (fun u => u.cell? ⟨g1, q, none⟩ = some (.pointer (some ⟨b, 0, none⟩)) ∧ u.cell? ⟨g, off + k * 6 + 2, none⟩ = some (.int .i64 XA) ∧ u.cell? ⟨g, off + k * 6 + 3, none⟩ = some (.int .i64 XB)) (first | exact ⟨x1, y2, y3⟩ | (with_reducible exact ⟨x1', y2', y3'⟩) | go_keep) (first | (go_at_call 16; (with_reducible refine Calls.mono (cA _ (Below.refl _ _).drew) ?_); rintro e v1 ⟨rfl, hb1⟩; have gg1 := (Below.refl wr.heap.size wr).drew.trans hb1; have x1' := (gg1.cell (p := ⟨g1, q, none⟩) d2).trans x1; have x2' := (gg1.cell (p := ⟨g2, q, none⟩) d4).trans x2; have y2' := (gg1.cell (p := ⟨g, off + k * 6 + 2, none⟩) hgr).trans y2; have y3' := (gg1.cell (p := ⟨g, off + k * 6 + 3, none⟩) hgr).trans y3))
          have G1 := Lib.hid gg1
          clear gg1 hb1 cA x1'
          go_wp2
          go_region_held3 (fun u => u.cell? ⟨g2, q, none⟩ = some (.string t) ∧ u.cell? ⟨g, off + k * 6 + 2, none⟩ = some (.int .i64 XA) ∧ u.cell? ⟨g, off + k * 6 + 3, none⟩ = some (.int .i64 XB)) (first | exact ⟨x2', y2', y3'⟩ | (with_reducible exact ⟨z2, z2', z3'⟩) | go_keep) (first | (go_at_call 22; (with_reducible refine Calls.mono (cB _) ?_); rintro e v2 ⟨rfl, hb2⟩; have gg2 := gcall G1.out ((Below.refl _ _).drew.trans hb2); have z2 := (gg2.cell (p := ⟨g2, q, none⟩) d4).trans x2; have z2' := (gg2.cell (p := ⟨g, off + k * 6 + 2, none⟩) hgr).trans y2; have z3' := (gg2.cell (p := ⟨g, off + k * 6 + 3, none⟩) hgr).trans y3))
          have G2 := Lib.hid gg2
          clear hb2 cB gg2
          go_wp2
          go_roundw
          case rel => exact ⟨k + 1, bs, ts, by go_num, by omega, by have := HM.out; omega, Lib.hid ((HPm.out.below G2.out (Nat.le_refl _)).more (by have := HTS.out; omega)), Lib.hid (gcall HB.out G2.out)⟩
          case measure => simp [intOf]; omega
        have k1' : (KD == 1) = false := by simpa using k1
        clear k1
        by_cases k2 : (KD == 2) = true
        · as_aux_lemma =>
          have k2' := k2
          have cA := fun W' (hW : Below wr.heap.size wr W') => rp_line W' b _ (HR.out.below (Nat.le_refl _) hW) (by rw [HTL.out]; omega) NN
          have cB := fun W' => rline_any t NN W' (by omega) hNk
          generalize (lineR t.data.toList NN).1 = L1 at *
          generalize (lineR t.data.toList NN).2 = L2 at *
          go_wp2
          go_region_held3 (fun u => u.cell? ⟨g1, q, none⟩ = some (.pointer (some ⟨b, 0, none⟩)) ∧ u.cell? ⟨g, off + k * 6 + 5, none⟩ = some (.int .i64 NN)) (first | exact ⟨x1, y5⟩ | (with_reducible exact ⟨x1', y5'⟩) | go_keep) (first | (go_at_call 13; (with_reducible refine Calls.mono (cA _ (Below.refl _ _).drew) ?_); rintro e v1 ⟨rfl, hb1⟩; have gg1 := (Below.refl wr.heap.size wr).drew.trans hb1; have x1' := (gg1.cell (p := ⟨g1, q, none⟩) d2).trans x1; have x2' := (gg1.cell (p := ⟨g2, q, none⟩) d4).trans x2; have y5' := (gg1.cell (p := ⟨g, off + k * 6 + 5, none⟩) hgr).trans y5))
          have G1 := Lib.hid gg1
          clear gg1 hb1 cA x1'
          go_wp2
          go_region_held3 (fun u => u.cell? ⟨g2, q, none⟩ = some (.string t) ∧ u.cell? ⟨g, off + k * 6 + 5, none⟩ = some (.int .i64 NN)) (first | exact ⟨x2', y5'⟩ | (with_reducible exact ⟨z2, z5'⟩) | go_keep) (first | (go_at_call 23; (with_reducible refine Calls.mono (cB _) ?_); rintro e v2 ⟨rfl, hb2⟩; have gg2 := gcall G1.out ((Below.refl _ _).drew.trans hb2); have z2 := (gg2.cell (p := ⟨g2, q, none⟩) d4).trans x2; have z5' := (gg2.cell (p := ⟨g, off + k * 6 + 5, none⟩) hgr).trans y5))
          have G2 := Lib.hid gg2
          clear hb2 cB gg2
          go_wp2
          go_roundw
          case rel => exact ⟨k + 1, bs, ts, by go_num, by omega, by have := HM.out; omega, Lib.hid ((HPm.out.below G2.out (Nat.le_refl _)).more (by have := HTS.out; omega)), Lib.hid (gcall HB.out G2.out)⟩
          case measure => simp [intOf]; omega
        · as_aux_lemma =>
          have k2' : (KD == 2) = false := by simpa using k2
          clear k2
          have cA := fun W' (hW : Below wr.heap.size wr W') => rp_ahead W' b _ (HR.out.below (Nat.le_refl _) hW) (by rw [HTL.out]; omega) NN
          have cB := fun W' => rahead_any t NN W' (by omega)
          generalize (aheadR t.data.toList NN).1 = L1 at *
          generalize (aheadR t.data.toList NN).2 = L2 at *
          go_wp2
          go_region_held3 (fun u => u.cell? ⟨g1, q, none⟩ = some (.pointer (some ⟨b, 0, none⟩)) ∧ u.cell? ⟨g, off + k * 6 + 5, none⟩ = some (.int .i64 NN)) (first | exact ⟨x1, y5⟩ | (with_reducible exact ⟨x1', y5'⟩) | go_keep) (first | (go_at_call 12; (with_reducible refine Calls.mono (cA _ (Below.refl _ _).drew) ?_); rintro e v1 ⟨rfl, hb1⟩; have gg1 := (Below.refl wr.heap.size wr).drew.trans hb1; have x1' := (gg1.cell (p := ⟨g1, q, none⟩) d2).trans x1; have x2' := (gg1.cell (p := ⟨g2, q, none⟩) d4).trans x2; have y5' := (gg1.cell (p := ⟨g, off + k * 6 + 5, none⟩) hgr).trans y5))
          have G1 := Lib.hid gg1
          clear gg1 hb1 cA x1'
          go_wp2
          go_region_held3 (fun u => u.cell? ⟨g2, q, none⟩ = some (.string t) ∧ u.cell? ⟨g, off + k * 6 + 5, none⟩ = some (.int .i64 NN)) (first | exact ⟨x2', y5'⟩ | (with_reducible exact ⟨z2, z5'⟩) | go_keep) (first | (go_at_call 24; (with_reducible refine Calls.mono (cB _) ?_); rintro e v2 ⟨rfl, hb2⟩; have gg2 := gcall G1.out ((Below.refl _ _).drew.trans hb2); have z2 := (gg2.cell (p := ⟨g2, q, none⟩) d4).trans x2; have z5' := (gg2.cell (p := ⟨g, off + k * 6 + 5, none⟩) hgr).trans y5))
          have G2 := Lib.hid gg2
          clear hb2 cB gg2
          go_wp2
          go_roundw
          case rel => exact ⟨k + 1, bs, ts, by go_num, by omega, by have := HM.out; omega, Lib.hid ((HPm.out.below G2.out (Nat.le_refl _)).more (by have := HTS.out; omega)), Lib.hid (gcall HB.out G2.out)⟩
          case measure => simp [intOf]; omega
      · as_aux_lemma =>
        have hlt' : ¬ (k : Int) < (n : Int) := by omega
        have hlim : total f k ≤ 5000 := Nat.le_trans (total_le f k n hk) HSM.out.2.2.1
        clear HP HC1 HC2
        go_wp2
        go_loopw [27] (fun i wr => ∃ j : Nat, i = .int .i64 j ∧ j ≤ m ∧ Hid (Plays wr w.heap.size (.slice (some ⟨g1, 0, none⟩) m c1) (.slice (some ⟨g2, 0, none⟩) m c2) bs ts (5000 + total f k)) ∧ Hid (Below w.heap.size w wr)) (fun i _ => m - (intOf i).toNat)
        case atStart => exact ⟨0, rfl, Nat.zero_le _, HPm, HB⟩
        case round =>
          obtain ⟨j, rfl, hj, HPq, HBq⟩ := hrel
          by_cases hjm : j < m
          · have hjm' : (j : Int) < (m : Int) := by omega
            obtain ⟨l1, q1⟩ := HPq.out.cell1
            obtain ⟨l2, q2⟩ := HPq.out.cell2
            obtain ⟨b, t, hb, ht, hR, hz⟩ := HPq.out.at j (by rw [HM.out]; exact hjm)
            have x1 := q1 j b hb
            have x2 := q2 j t ht
            have hc := fun W' (hW : Below wr.heap.size wr W') => same_any W' b t (hR.below (Nat.le_refl _) hW) (by omega)
            clear q1 q2 hb ht hR
            go_wp2
            go_region_held3 (fun u => u.cell? ⟨g1, j, none⟩ = some (.pointer (some ⟨b, 0, none⟩)) ∧ u.cell? ⟨g2, j, none⟩ = some (.string t)) (first | exact ⟨x1, x2⟩ | (with_reducible exact ⟨x1', x2'⟩) | go_keep) (first | (go_at_call 20; (with_reducible refine Calls.mono (hc _ (Below.refl _ _).drew) ?_); rintro e v1 ⟨rfl, hb1⟩; have gg1 := (Below.refl wr.heap.size wr).drew.trans hb1; have x1' := (gg1.cell (p := ⟨g1, j, none⟩) l1).trans x1; have x2' := (gg1.cell (p := ⟨g2, j, none⟩) l2).trans x2))
            have G1 := Lib.hid gg1
            clear gg1 hb1 hc x1' x2'
            go_wp2
            go_roundw
            case rel => exact ⟨j + 1, by go_num, by omega, Lib.hid (HPq.out.below G1.out (Nat.le_refl _)), Lib.hid (gcall HBq.out G1.out)⟩
            case measure => simp [intOf]; omega
          · have hjm' : ¬ (j : Int) < (m : Int) := by omega
            go_wp2
            go_ret
            exact ⟨rfl, HBq.out⟩
end Go.Proofs.Ytbmcgmnmmnileaa
