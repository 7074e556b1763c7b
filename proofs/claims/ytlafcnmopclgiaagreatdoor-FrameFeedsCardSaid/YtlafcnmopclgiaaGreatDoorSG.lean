/-
  FrameFeeds.
-/
import Derived.Test.YtlafcnmopclgiaaGreatDoorSF
namespace Go.Proofs.YtlafcnmopclgiaaGreatDoor
open Go.RowKit Go.Shelf

theorem und30 : Tryz.prog.underlying 30 = some (.slice 5) := u31
theorem copy_rd (B : Nat) (w : World) (b : Nat) (m : Mode) (l : List UInt8) (hv : Value) (h : RdV B w b m l hv) :
    Calls Tryz.prog 7 #[.pointer (some ⟨b, 0, none⟩)] w fun e w' => ∃ cv, e = .returned (.pointer (some ⟨w.heap.size, 0, none⟩)) ∧ RCell w' w.heap.size cv m ∧
      ((cv = .slice none 0 0 ∧ l = [] ∧ m = .head) ∨ ∃ g, cv = .slice (some ⟨g, 0, none⟩) l.length l.length ∧ hv.ownBlock = some g) ∧ Below w.heap.size w w' := by
  rcases owns_bytes h.o with ⟨e1, e2⟩ | ⟨g, cap, e1, hcap, _, _, _⟩
  · refine (copy_none w b m (by rw [← e1]; exact h.r)).mono ?_
    rintro e w' ⟨he, h1, h2⟩
    exact ⟨_, he, h1, .inl ⟨rfl, e2, h.nil e1⟩, h2⟩
  · refine (copy_some w b ⟨g, 0, none⟩ l.length cap m (by rw [← e1]; exact h.r) hcap).mono ?_
    rintro e w' ⟨he, h1, h2⟩
    exact ⟨_, he, h1, .inr ⟨g, rfl, by rw [e1]; rfl⟩, h2⟩
theorem type_ne {w : World} {g k : Nat} {cs ds : Array Value} {t u : TypeId} {f f' : Nat × Nat} (h : w.heap[g]? = some (.cells cs t f)) (h' : w.heap[k]? = some (.cells ds u f')) (hne : t ≠ u) : g ≠ k := fun e => by
  subst e; rw [h] at h'; cases h'; exact hne rfl
theorem owns_type {B e size n g : Nat} {v : Value} {xs : List Value} {w : World} (h : w.ownsRow B e size v n xs) (hg : v.ownBlock = some g) : ∃ cs, w.heap[g]? = some (.cells cs e (0, 0)) := by
  rcases h.2 with ⟨rfl, _⟩ | ⟨g2, cap, cur, rfl, _, h5, _⟩
  · simp [Value.ownBlock] at hg
  · obtain rfl : g2 = g := by simpa [Value.ownBlock] using hg
    exact ⟨_, h5⟩
theorem lies_stays {v : Value} {l : List UInt8} {w : World} {g : Nat} (h : Stays v (l.map byV) w) (hg : v.ownBlock = some g) : Lies w g 0 l := fun i hi => by
  have := h g hg i _ (byV_get l i hi)
  rwa [addr_add] at this
/-- A row of n cells lies at g. -/
def InR (t : TypeId) (g n : Nat) (w : World) : Prop := ∃ cs, w.heap[g]? = some (.cells cs t (0, 0)) ∧ n ≤ cs.size
theorem InR.cell {t : TypeId} {g n j : Nat} {w : World} (h : InR t g n w) (hj : j < n) : (∃ y, w.cell? ⟨g, j, none⟩ = some y) ∧ w.frozen? ⟨g, j, none⟩ = false := by
  obtain ⟨cs, h1, h2⟩ := h
  exact ⟨⟨_, by rw [cellH h1, Array.getElem?_eq_getElem (by omega)]⟩, Lib.frozen_of_heap h1 j⟩
theorem InR.set {t : TypeId} {g n : Nat} {w : World} (h : InR t g n w) (j : Nat) (v : Value) : InR t g n (w.setCell ⟨g, j, none⟩ v) := by
  obtain ⟨cs, h1, h2⟩ := h
  exact ⟨_, heap_setCell_same w g j _ _ v h1, by simpa using h2⟩
theorem InR.keep {t : TypeId} {g n : Nat} {w w' : World} (h : InR t g n w) (hk : w'.heap[g]? = w.heap[g]?) : InR t g n w' := by
  obtain ⟨cs, h1, h2⟩ := h
  exact ⟨cs, hk.trans h1, h2⟩
theorem Kept.trans {b : Nat} {r : Option Nat} {w x y : World} (h : Kept b r w x) (k : Kept b r x y) : Kept b r w y :=
  ⟨k.os.trans h.os, k.tape.trans h.tape, k.output.trans h.output, Nat.le_trans h.size k.size, fun j hj h1 h2 => (k.block j (Nat.lt_of_lt_of_le hj h.size) h1 h2).trans (h.block j hj h1 h2)⟩
theorem Kept.set2 {b g : Nat} {r : Option Nat} {w x : World} (h : Kept b r w x) (hg : r = some g) (o : Nat) (v : Value) : Kept b r w (x.setCell ⟨g, o, none⟩ v) :=
  ⟨h.os, h.tape, h.output, by have := h.size; simpa using this, fun j hj h1 h2 => (Below.heap_setCell x ⟨g, o, none⟩ v j (fun e => h2 (by rw [hg]; exact congrArg some e))).trans (h.block j hj h1 h2)⟩
/-- The state ahead of a round. -/
def Inv (w : World) (L : List (List UInt8)) (b x k : Nat) (wr : World) : Prop :=
  ∃ (hv : Value) (A : ByteArray), A.data.toList = (L.take k).flatten ∧ XAt wr x A (runA .head A.data.toList).2.1.length ∧
    RdV w.heap.size wr b (runA .head A.data.toList).2.2 (A.data.toList.drop (runA .head A.data.toList).1) hv ∧ Below w.heap.size w wr
theorem flat_next {L : List (List UInt8)} {k : Nat} {l : List UInt8} (h : L[k]? = some l) : (L.take (k + 1)).flatten = (L.take k).flatten ++ l := by
  rw [List.take_add_one, h]; simp
theorem flat_len (L : List (List UInt8)) : L.flatten.length = sumL L := by
  unfold sumL; rw [List.length_flatten]
set_option maxRecDepth 100000 in
set_option maxHeartbeats 16000000 in
theorem frameFeeds_walk (w : World) (v : Value) (L : List (List UInt8)) (hT : Tab w ∧ 11 ≤ w.heap.size) (hL : Rows2 w v L) (hz : L.length ≤ 9223372036854775807) :
    Calls Tryz.prog 3 #[v] w fun e w' => e = .returned (.bool true) ∧ Below w.heap.size w w' := by
  obtain ⟨i5, hi5, hz0, hz1, hz2⟩ := info_parts info5
  have hlong := long_any w v L hL hz
  obtain ⟨p, cap, rfl, hcap, hrows⟩ := hL
  have HRW := Lib.hid hrows
  clear hrows
  go_enter Tryz.func3, Tryz.ntmps3
  go_wp2_with fail
  refine hlong.mono ?_
  rintro e w1 ⟨q, rfl, hq, rfl⟩
  clear hlong
  cases q with
  | true =>
    have haw := awake_any w hT.1 hT.2
    go_wp2_with fail
    refine haw.mono ?_
    rintro e w1 ⟨rfl, hb⟩
    have HB := Lib.hid hb
    clear hb haw
    go_wp2_with fail
    go_ret
    exact ⟨rfl, HB.out⟩
  | false =>
    obtain ⟨hsum, h300⟩ := hq rfl
    clear hq
    have hnew := new_any w
    go_wp2_with fail
    refine hnew.mono ?_
    rintro e w1 ⟨rfl, R0, b1⟩
    obtain ⟨hv0, r1, r2, r3, r4, r5⟩ := R0
    have hs1 := b1.size
    have hbw : w.heap.size < w1.heap.size := RCell.lt r1
    obtain ⟨wx, hwx⟩ : ∃ wx, w1.alloc (.cells #[.string ⟨#[]⟩, .int .i64 0] 29) = wx := ⟨_, rfl⟩
    have hI : Inv w L w.heap.size w1.heap.size 0 wx := by
      have ba : Below w1.heap.size w1 wx := by rw [← hwx]; exact galloc2 (Below.refl _ _) (Nat.le_refl _) _
      have ek : runA .head (⟨#[]⟩ : ByteArray).data.toList = (0, [], .head) := by kernel_rfl
      refine ⟨hv0, ⟨#[]⟩, rfl, ?_, ?_, b1.trans (ba.mono hs1)⟩
      · rw [ek, ← hwx]; exact heap_alloc_new w1 _
      · rw [ek]; exact ⟨r1.below ba, owns_below r2 ba, r3, r4, r5⟩
    have HI := Lib.hid hI
    clear hnew r1 r2 r3 r4 r5 hI
    go_wp2_with fail

    clear hwx b1
    go_loopw [5] (fun i wr => ∃ k : Nat, i = .int .i64 k ∧ k ≤ L.length ∧ Hid (Inv w L w.heap.size w1.heap.size k wr)) (fun i _ => L.length - (intOf i).toNat)
    case atStart => exact ⟨0, rfl, Nat.zero_le _, HI⟩
    case round =>
      obtain ⟨k, rfl, hk, HK⟩ := hrel
      obtain ⟨hv, A, hA, hX, hR, hB⟩ := HK.out
      have hsr := hB.size
      have HT := Lib.hid (hT.1.below hB)
      have h11 : 11 ≤ wr.heap.size := Nat.le_trans hT.2 hsr
      by_cases hlt : k < L.length
      · have hlt' : (k : Int) < (L.length : Int) := by omega
        obtain ⟨l, hl⟩ : ∃ l, L[k]? = some l := ⟨_, List.getElem?_eq_getElem hlt⟩
        have hlen : A.data.toList.length + l.length < 6000 := by
          rw [hA, flat_len, ← sumL_next hl]
          exact Nat.lt_of_le_of_lt (sumL_take L (k + 1)) hsum
        obtain ⟨g, o, rv, rfl, c0, hrv⟩ := HRW.out k l hl
        have HA1 := Lib.hid (flat_next hl)
        have hglt : g < w.heap.size := World.block_lt_of_cell? w _ c0
        have HC0 : Hid (∀ W : World, Below w.heap.size w W → W.cell? ⟨g, o + k, none⟩ = some rv ∧ BRowV W rv l) := Lib.hid fun W hW => ⟨(hW.cell (p := ⟨g, o + k, none⟩) hglt).trans c0, hrv.below hW⟩
        obtain ⟨rp, rc, rfl⟩ := hrv.shape
        clear hl c0 hrv
        obtain ⟨c1, hrv1⟩ := HC0.out _ hB
        have ba : Below wr.heap.size wr (wr.alloc (.cells #[] 5)) := galloc2 (Below.refl _ _) (Nat.le_refl _) _
        obtain ⟨c2, hrv2⟩ := HC0.out _ (hB.trans (ba.mono hsr))
        have hnb : (wr.alloc (.cells #[] 5)).heap[wr.heap.size]? = some (.cells #[] 5 (0, 0)) := heap_alloc_new wr _
        have hown0 : (wr.alloc (.cells #[] 5)).ownsRow wr.heap.size 5 1 (.slice (some ⟨wr.heap.size, 0, none⟩) 0 0) 0 [] := ⟨rfl, .inr ⟨wr.heap.size, 0, #[], rfl, Nat.le_refl _, hnb, Nat.le_refl _, by unfold maxLen; decide, rfl, rfl⟩⟩
        have HX := Lib.hid hX
        have HR := Lib.hid hR
        have HB := Lib.hid hB
        clear hX hR hB HK hnb
        go_upto_region 10 with fail
        go_cut [6] (fun iv wx => ∃ gi ci, iv = .slice (some ⟨gi, 0, none⟩) l.length ci ∧ l.length ≤ ci ∧ Hid (wx.ownsRow wr.heap.size 5 1 iv l.length (l.map byV)) ∧ Hid (Below wr.heap.size wr wx))
        case first =>
          rcases hrv2 with ⟨⟨p2, cp2, hrv2⟩, rfl⟩ | ⟨g2, o2, cp2, hrv2, hc2, hl2⟩
          · injection hrv2 with a1 _ a3
            subst a1
            subst a3
            have HO0 := Lib.hid hown0
            have BA := Lib.hid ba
            clear hown0 ba
            go_wp2_with (at_builtin; refine wpList_append_zero rfl _ _ 30 rfl 5 i5 und30 hi5 (some ⟨wr.heap.size, 0, none⟩) 0 0 (Nat.le_refl _) rfl rp rc rfl ?_)
            go_wp2_with fail
            go_meet
            case rel => exact ⟨_, _, rfl, Nat.le_refl _, HO0, BA⟩
          · injection hrv2 with a1 _ a3
            subst a1
            subst a3
            have hnews := news_lies hl2
            have HO0 := Lib.hid hown0
            have BA := Lib.hid ba
            clear hown0 ba
            go_wp2_with (at_builtin; refine wpList_append_own_at _ rfl _ _ 30 rfl wr.heap.size 5 i5 (.int .u8 0) 1 1 und30 hi5 hz0 hz1 hz2 rfl (by decide) _ _ _ rfl HO0.out ⟨g2, o2, none⟩ l.length rc (l.map byV) rfl ?c1 hnews ?c2 ?c3 ?c4 ?c5 ?_)

            case c2 => have := byV_one l; simpa using this
            case c3 => unfold maxLen; omega
            case c4 => omega

            intro v' w6 hown hgrow hnil _
            try simp only [List.nil_append, Nat.zero_add] at hown
            have hb6 : Below wr.heap.size wr w6 := BA.out.grown hgrow (by simp) (fun k e => by simp [Value.ownBlock] at e; omega)
            have HO6 := Lib.hid hown
            have HB6 := Lib.hid hb6
            have hv6 : ∃ gi ci, v' = .slice (some ⟨gi, 0, none⟩) l.length ci ∧ l.length ≤ ci := by
              rcases owns_bytes hown with ⟨e1, e2⟩ | ⟨gi, ci, e1, e2, _⟩
              · exact (hnil e1).elim
              · exact ⟨gi, ci, e1, e2⟩
            obtain ⟨gi, ci, rfl, hci⟩ := hv6
            clear hown hgrow hnil hb6
            go_wp2_with fail
            go_meet
            case rel => exact ⟨gi, ci, rfl, hci, HO6, HB6⟩
        case rest =>
          obtain ⟨gi, ci, rfl, hci, HIN, HBI⟩ := hcut
          clear c1 c2 hrv1 hrv2 hown0 ba
          obtain ⟨hgi1, hgi2⟩ := HIN.out.lt gi rfl
          have hsc := HBI.out.size
          obtain ⟨e1, e2, e3⟩ := run_next A.data.toList l
          have HX0 := HX.out
          have HR0 := HR.out
          clear HX HR
          obtain ⟨E, hE⟩ : ∃ E, (runA .head A.data.toList).2.1 = E := ⟨_, rfl⟩
          obtain ⟨m, hm⟩ : ∃ m, (runA .head A.data.toList).2.2 = m := ⟨_, rfl⟩
          obtain ⟨lh, hlh⟩ : ∃ lh, A.data.toList.drop (runA .head A.data.toList).1 = lh := ⟨_, rfl⟩
          have hlhl : lh.length ≤ A.data.toList.length := by rw [← hlh, List.length_drop]; omega
          rw [hm, hlh] at e1 e2 e3 HR0
          rw [hE] at e1 HX0
          obtain ⟨N, hN⟩ : ∃ N, (runA m (lh ++ l)).2.1 = N := ⟨_, rfl⟩
          rw [hN] at e1
          clear hE hm hlh
          have hNl : N.length ≤ 3000000 := by
            have h1 := told_few (A.data.toList ++ l) (by rw [List.length_append]; omega)
            have := congrArg List.length e1
            rw [List.length_append] at this; omega
          have HX1 : Hid (XAt wc w1.heap.size A E.length) := Lib.hid (HX0.below HBI.out)
          have hob : ∀ g', hv.ownBlock = some g' → w.heap.size ≤ g' ∧ g' < wr.heap.size := fun g' h => HR0.o.lt g' h
          have hbr : w.heap.size < wr.heap.size := RCell.lt HR0.r
          have hR1 : RdV w.heap.size wc w.heap.size m lh hv := HR0.keep (HBI.out.block _ hbr) (fun g' h => HBI.out.block g' (hob g' h).2)
          have hxne : ∀ g', hv.ownBlock = some g' → g' ≠ w1.heap.size := fun g' h => by
            obtain ⟨cs, h1⟩ := owns_type HR0.o h
            exact type_ne h1 HX0 (by decide)
          have hxw : w1.heap.size < wr.heap.size := XAt.lt HX0
          have E1 := Lib.hid e1
          have E2 := Lib.hid e2
          have E3 := Lib.hid e3
          have hcp := copy_rd w.heap.size wc w.heap.size m lh hv hR1
          have HOB := Lib.hid hob
          have HXN := Lib.hid hxne
          have HR1 := Lib.hid hR1
          have HN := Lib.hid hN
          clear e1 e2 e3 HX0 HR0 hR1 hob hxne hN
          go_wp2_with fail
          refine hcp.mono ?_
          rintro e w7 ⟨cv, rfl, hC7, hcv, b7⟩
          have hs7 := b7.size
          have hC7lt := RCell.lt hC7
          have HCV := Lib.hid hcv
          have HC7 := Lib.hid hC7
          have HB7 : Hid (Below w.heap.size w w7) := Lib.hid (HB.out.trans ((HBI.out.trans (b7.mono hsc)).mono hsr))
          have hR7 : RdV w.heap.size w7 w.heap.size m lh hv := HR1.out.keep (b7.block _ (by omega)) (fun g' h => b7.block g' (by have := (HOB.out g' h).2; omega))
          have HX7 := Lib.hid (HX1.out.below b7)
          have HIN7 := Lib.hid (owns_below HIN.out b7)
          have hch7 : Chunk2 w7 (.slice (some ⟨gi, 0, none⟩) l.length ci) l := .inr ⟨⟨gi, 0, none⟩, ci, rfl, World.ownsRow.cells HIN7.out rfl⟩
          have hf := feed_keep w.heap.size w7 w.heap.size m lh (hT.1.below HB7.out) hT.2 HB7.out.size hv hR7 _ l hch7 (by omega)
          unfold FeedEnd3 at hf
          rw [HN.out] at hf
          clear hcp hC7 hcv b7 hR7 hch7
          go_wp2_with fail
          refine hf.mono ?_
          rintro e w8 ⟨av, hv', rfl, hev, hR8, hK8, hown8, hst8⟩
          have hs8 := hK8.size
          have HB8 : Hid (Below w.heap.size w w8) := Lib.hid (HB7.out.trans (hK8.below (Nat.le_refl _) (fun k h => (HOB.out k h).1) HB7.out.size))
          have k8 : ∀ g', g' < w7.heap.size → g' ≠ w.heap.size → hv.ownBlock ≠ some g' → w8.heap[g']? = w7.heap[g']? := fun g' h1 h2 h3 => hK8.block g' h1 h2 (fun e => h3 e.symm)
          have HX8 : Hid (XAt w8 w1.heap.size A E.length) := Lib.hid ((k8 _ (by omega) (by omega) (fun h => HXN.out _ h rfl)).trans HX7.out)
          have HC8 : Hid (RCell w8 wc.heap.size cv m) := Lib.hid ((k8 _ hC7lt (by omega) (fun h => by have := (HOB.out _ h).2; omega)).trans HC7.out)
          have HIN8 : Hid (w8.ownsRow wr.heap.size 5 1 (.slice (some ⟨gi, 0, none⟩) l.length ci) l.length (l.map byV)) := Lib.hid (own_keep HIN7.out fun g' h => by
            obtain rfl : gi = g' := by simpa [Value.ownBlock] using h
            exact k8 _ (by omega) (by omega) (fun h => by have := (HOB.out _ h).2; omega))
          have hbl8 : ∀ g', hv'.ownBlock = some g' → w.heap.size ≤ g' ∧ g' < w8.heap.size ∧ g' ≠ w1.heap.size ∧ g' ≠ wc.heap.size ∧ g' ≠ gi ∧ some g' ≠ av.ownBlock := fun g' h => by
            obtain ⟨cs, h1⟩ := owns_type hR8.o h
            refine ⟨(hR8.o.lt g' h).1, (hR8.o.lt g' h).2, type_ne h1 HX8.out (by decide), type_ne h1 HC8.out (by decide), ?_, fun e => ?_⟩
            · rcases hown8 g' h with h2 | h2
              · have := (HOB.out _ h2).2; omega
              · omega
            · obtain ⟨cs2, h2⟩ := owns_type hev e.symm
              exact type_ne h1 h2 (by decide) rfl
          have HBL := Lib.hid hbl8
          have HEV8 := Lib.hid hev
          have HR8 := Lib.hid hR8
          have HST := Lib.hid hst8
          obtain ⟨pa, ca, rfl⟩ := evs_shape hev
          clear hf hev hR8 hK8 hown8 hst8 hbl8 k8
          obtain ⟨c8, _⟩ := HC0.out w8 HB8.out
          have hcv8 := (HC0.out w8.drew HB8.out.drew).2.str
          have hrf := rfeed_any w8 w1.heap.size A ⟨l.toArray⟩ E N HX8.out _ hcv8 (by rw [app_list]; exact E1.out) (by rw [ByteArray.size_append]; have := Lib.size_eq A; show A.size + l.toArray.size ≤ _; rw [List.size_toArray]; omega)
          unfold RFeedEnd at hrf
          clear hcv8
          go_wp2_with fail
          refine hrf.mono ?_
          rintro e w9 ⟨bv, rfl, hbv, hX9, hB9, hfr9⟩
          have hs9 := hB9.size
          have HB9 : Hid (Below w.heap.size w w9) := Lib.hid (HB8.out.trans (hB9.below (by omega) (by omega)))
          have HC9 : Hid (RCell w9 wc.heap.size cv m) := Lib.hid ((hB9.block _ (RCell.lt HC8.out) (by omega)).trans HC8.out)
          have HIN9 : Hid (w9.ownsRow wr.heap.size 5 1 (.slice (some ⟨gi, 0, none⟩) l.length ci) l.length (l.map byV)) := Lib.hid (owns_but HIN8.out (by simp [Value.ownBlock]; omega) hB9)
          have HEV9 : Hid (EvsAt w7.heap.size w9 (.slice pa N.length ca) N) := Lib.hid (owns_but HEV8.out (fun h => by have := (HEV8.out.lt _ h).1; omega) hB9)
          have HX9 := Lib.hid hX9
          have hch9 : Chunk2 w9 (.slice (some ⟨gi, 0, none⟩) l.length ci) l := .inr ⟨⟨gi, 0, none⟩, ci, rfl, World.ownsRow.cells HIN9.out rfl⟩
          have hhc : (cv = .slice none 0 0 ∧ lh = [] ∧ m = .head) ∨ ∃ g, cv = .slice (some ⟨g, 0, none⟩) lh.length lh.length ∧ Lies w9 g 0 lh ∧ g ≠ wc.heap.size := by
            rcases HCV.out with h | ⟨g', h1, h2⟩
            · exact .inl h
            · exact .inr ⟨g', h1, (lies_stays HST.out h2).but hB9 (HXN.out g' h2), by have := (HOB.out g' h2).2; omega⟩
          have hfc := feed_copy w9 wc.heap.size m lh (hT.1.below HB9.out) (by omega) cv HC9.out hhc _ l hch9 (by omega)
          unfold FeedEnd4 at hfc
          rw [HN.out] at hfc
          have HBV9 := Lib.hid hbv
          have HB9b := Lib.hid hB9
          have HFR := Lib.hid hfr9
          clear hrf hbv hX9 hB9 hfr9 hch9 hhc c8
          go_wp2_with fail
          refine hfc.mono ?_
          rintro e w10 ⟨dv, rfl, hdv, hB10⟩
          have hs10 := hB10.size
          have HBL10 : Hid (Below w.heap.size w w10) := Lib.hid (HB9.out.trans (hB10.below (by omega) (by omega)))
          have HEV10 : Hid (EvsAt w7.heap.size w10 (.slice pa N.length ca) N) := Lib.hid (owns_but HEV9.out (fun h => by have := (HEV9.out.lt _ h).1; omega) hB10)
          have HIN10 : Hid (w10.ownsRow wr.heap.size 5 1 (.slice (some ⟨gi, 0, none⟩) l.length ci) l.length (l.map byV)) := Lib.hid (owns_but HIN9.out (by simp [Value.ownBlock]; omega) hB10)
          have HBV10 : Hid (RefIn w10 bv N) := Lib.hid (HBV9.out.but hB10 fun g' o' ⟨n', c', h⟩ _ => by have := HFR.out g' o' n' c' h; omega)
          have HX10 : Hid (XAt w10 w1.heap.size (A ++ ⟨l.toArray⟩) (E ++ N).length) := Lib.hid ((hB10.block _ (XAt.lt HX9.out) (by omega)).trans HX9.out)
          have HDV := Lib.hid hdv
          have HB10b := Lib.hid hB10
          obtain ⟨pd, cd, rfl⟩ := evs_shape hdv
          obtain ⟨pb, cb2, hbve⟩ := HBV10.out
          obtain ⟨hbve, _⟩ := hbve
          subst hbve
          clear hfc hdv hB10
          have hli : Lies w10 gi 0 l := by
            rcases owns_bytes HIN10.out with ⟨e1, _⟩ | ⟨g', cap', e1, _, h2, _⟩
            · cases e1
            · cases e1; exact h2
          have hS : ∀ u, Below w10.heap.size w10 u → u.cell? ⟨g, o + k, none⟩ = some (.slice rp l.length rc) ∧ (convert 30 9 (.slice (some ⟨gi, 0, none⟩) l.length ci)).run Tryz.prog u = .ok (.string ⟨l.toArray⟩) u ∧ (convert 30 9 (.slice rp l.length rc)).run Tryz.prog u = .ok (.string ⟨l.toArray⟩) u := fun u hu => by
            obtain ⟨h1, h2⟩ := HC0.out u (HBL10.out.trans (hu.mono HBL10.out.size))
            exact ⟨h1, (hli.below hu).str ci, h2.str⟩
          have HS := Lib.hid hS
          clear hS
          go_wp2_with fail
          have HLB : Hid ((⟨l.toArray⟩ : ByteArray).data.toList = l) := Lib.hid rfl
          have hqe : ((⟨l.toArray⟩ : ByteArray).toList != (⟨l.toArray⟩ : ByteArray).toList) = false := by simp
          have hqe2 : ((⟨l.toArray⟩ : ByteArray).toList == (⟨l.toArray⟩ : ByteArray).toList) = true := by simp
          have B0 : Below w10.heap.size w10 w10.drew := (Below.refl _ _).drew
          have z0 := HS.out _ B0
          have hA0 : EvsAt w7.heap.size w10.drew (.slice pa N.length ca) N := owns_below HEV10.out B0
          clear hli
          generalize (⟨l.toArray⟩ : ByteArray) = LB at *
          generalize hw0 : w10.drew = w0 at *
          go_region_held3 (fun u => u.cell? ⟨g, o + k, none⟩ = some (.slice rp l.length rc) ∧ (convert 30 9 (.slice (some ⟨gi, 0, none⟩) l.length ci)).run Tryz.prog u = .ok (.string LB) u ∧ (convert 30 9 (.slice rp l.length rc)).run Tryz.prog u = .ok (.string LB) u) (first | exact z0 | exact z1 | exact z2 | exact z3 | exact z4 | go_keep) (first | (go_at_call 11; (with_reducible refine Calls.mono (back_any _ w0 _ N hA0 hNl) ?_); rintro e w11 ⟨v11, rfl, hr11, hb11⟩; have B1 := B0.trans (hb11.mono B0.size); have z1 := HS.out _ B1) | (go_at_call 10; (with_reducible refine Calls.mono (same_in _ w11 v11 _ N hr11 (HBV10.out.below B1) hNl) ?_); rintro e w12 ⟨rfl, hb12⟩; have B2 := B1.trans (hb12.mono B1.size); have z2 := HS.out _ B2; have hD2 : EvsAt w9.heap.size w12 (.slice pd N.length cd) N := owns_below HDV.out B2) | (go_at_call 11; (with_reducible refine Calls.mono (back_any _ w12 _ N hD2 hNl) ?_); rintro e w13 ⟨v13, rfl, hr13, hb13⟩; have B3 := B2.trans (hb13.mono B2.size); have z3 := HS.out _ B3) | (go_at_call 10; (with_reducible refine Calls.mono (same_in _ w13 v13 _ N hr13 (HBV10.out.below B3) hNl) ?_); rintro e w14 ⟨rfl, hb14⟩; have B4 := B3.trans (hb14.mono B3.size); have z4 := HS.out _ B4))
          all_goals
            have HA4 : Hid (EvsAt w7.heap.size w14 (.slice pa N.length ca) N) := Lib.hid (owns_below HEV10.out B4)
            have HI4 : Hid (InR 5 gi l.length w14) := Lib.hid (by
              rcases (owns_below HIN10.out B4).2 with ⟨h0, _⟩ | ⟨g', cap', cur, h0, _, h1, h2, _, h3, _⟩
              · cases h0
              · cases h0; exact ⟨cur, h1, by omega⟩)
            have HP4 : Hid (∀ ga, pa = some ⟨ga, 0, none⟩ → InR 40 ga (N.length * 2) w14) := Lib.hid fun ga hga => by
              subst hga
              rcases HA4.out.2 with ⟨h0, _⟩ | ⟨g', cap', cur, h0, _, h1, h2, _, h3, _⟩
              · cases h0
              · cases h0; exact ⟨cur, h1, by omega⟩
            have HPA : Hid (0 < N.length → ∃ ga, pa = some ⟨ga, 0, none⟩) := Lib.hid fun hn => by
              rcases evs_block HA4.out with ⟨cap2, _, e2⟩ | ⟨ga, cap2, e1⟩
              · rw [e2] at hn; simp at hn
              · cases e1; exact ⟨ga, rfl⟩
            have HGA : Hid (∀ ga, pa = some ⟨ga, 0, none⟩ → w7.heap.size ≤ ga ∧ ga ≠ gi) := Lib.hid fun ga hga => by
              have h1 := (HA4.out.lt ga (by rw [hga]; rfl)).1
              exact ⟨h1, by omega⟩
            have B4h := Lib.hid B4
            clear z0 z1 z2 z3 z4 hr11 hb11 hb12 hr13 hb13 hb14 hD2 B0 B1 B2 B3 B4 hA0 hqe hqe2
            go_wp2_with fail
            go_loopw [13] (fun i wr2 => ∃ j : Nat, i = .int .i64 j ∧ j ≤ l.length ∧ Hid (InR 5 gi l.length wr2) ∧ Hid (∀ ga, pa = some ⟨ga, 0, none⟩ → InR 40 ga (N.length * 2) wr2) ∧ Hid (Kept gi (Value.slice pa N.length ca).ownBlock w14 wr2)) (fun i _ => l.length - (intOf i).toNat)
            case atStart => exact ⟨0, rfl, Nat.zero_le _, HI4, HP4, Lib.hid (Kept.refl _ _ _)⟩
            case round =>
              obtain ⟨j, rfl, hj, HJ, HPJ, HK⟩ := hrel
              by_cases hjl : j < l.length
              · have hjl' : (j : Int) < (l.length : Int) := by omega
                have hw : IntKind.i64.wrap ((j : Int) + 1) = ((j + 1 : Nat) : Int) := by rw [IntWalk.i64_in _ (by omega)]; omega
                obtain ⟨⟨y, hy⟩, hyf⟩ := HJ.out.cell hjl
                go_wp2_with fail
                go_roundw
                case rel => exact ⟨j + 1, by go_num, by omega, Lib.hid (HJ.out.set j _), Lib.hid (fun ga hga => (HPJ.out ga hga).keep (Below.heap_setCell _ ⟨gi, j, none⟩ _ ga (HGA.out ga hga).2)), Lib.hid (HK.out.set j _)⟩
                case measure => simp [intOf]; omega
              · obtain rfl : j = l.length := by omega
                have hjl' : ¬ (l.length : Int) < (l.length : Int) := by omega
                go_wp2_with fail
                go_loopw [14] (fun i wr3 => ∃ j : Nat, i = .int .i64 j ∧ j ≤ N.length ∧ Hid (∀ ga, pa = some ⟨ga, 0, none⟩ → InR 40 ga (N.length * 2) wr3) ∧ Hid (Kept gi (Value.slice pa N.length ca).ownBlock w14 wr3)) (fun i _ => N.length - (intOf i).toNat)
                case atStart => exact ⟨0, rfl, Nat.zero_le _, HPJ, HK⟩
                case round =>
                  obtain ⟨j, rfl, hjn, HP3, HK3⟩ := hrel
                  by_cases hjl : j < N.length
                  · have hjl2 : (j : Int) < (N.length : Int) := by omega
                    have hw : IntKind.i64.wrap ((j : Int) + 1) = ((j + 1 : Nat) : Int) := by rw [IntWalk.i64_in _ (by omega)]; omega
                    obtain ⟨ga, hga⟩ := HPA.out (by omega)
                    subst hga
                    obtain ⟨⟨y, hy⟩, hyf⟩ := (HP3.out ga rfl).cell (show j * 2 < N.length * 2 by omega)
                    go_wp2_with fail
                    go_roundw
                    case rel => exact ⟨j + 1, by go_num, by omega, Lib.hid (fun ga' h => by injection h with h; injection h with h1 _ _; rw [← h1]; exact (HP3.out ga rfl).set (j * 2) _), Lib.hid (HK3.out.set2 rfl (j * 2) _)⟩
                    case measure => simp [intOf]; omega
                  · obtain rfl : j = N.length := by omega
                    have hjl2 : ¬ (N.length : Int) < (N.length : Int) := by omega
                    have hw : IntKind.i64.wrap ((k : Int) + 1) = ((k + 1 : Nat) : Int) := by rw [IntWalk.i64_in _ (by omega)]; omega
                    have hfin : Inv w L w.heap.size w1.heap.size (k + 1) wr := by
                      have hl1 : (A ++ LB).data.toList = A.data.toList ++ l := by rw [app_list, HLB.out]
                      have hs14 := B4h.out.size
                      have go1 : ∀ g', g' < w10.heap.size → g' ≠ gi → some g' ≠ (Value.slice pa N.length ca).ownBlock → wr.heap[g']? = w10.heap[g']? := fun g' h1 h2 h3 =>
                        (HK3.out.block g' (by omega) h2 h3).trans (B4h.out.block g' h1)
                      have go2 : ∀ g', g' < w8.heap.size → g' ≠ w1.heap.size → g' ≠ wc.heap.size → g' ≠ gi → some g' ≠ (Value.slice pa N.length ca).ownBlock → wr.heap[g']? = w8.heap[g']? := fun g' h1 h2 h3 h4 h5 =>
                        ((go1 g' (by omega) h4 h5).trans (HB10b.out.block g' (by omega) h3)).trans (HB9b.out.block g' h1 h2)
                      have hav : ∀ g', g' < w7.heap.size → some g' ≠ (Value.slice pa N.length ca).ownBlock := fun g' h1 e => by have := (HEV8.out.lt g' e.symm).1; omega
                      refine ⟨hv', A ++ LB, by rw [hl1, HA1.out, hA], ?_, ?_, ?_⟩
                      · rw [hl1, E1.out]
                        exact (go1 _ (XAt.lt HX10.out) (by omega) (hav _ (by omega))).trans HX10.out
                      · rw [hl1, E2.out, E3.out]
                        exact HR8.out.keep (go2 _ (by omega) (by omega) (by omega) (by omega) (hav _ (by omega))) (fun g' h => by
                          obtain ⟨_, b2, b3, b4, b5, b6⟩ := HBL.out g' h
                          exact go2 g' b2 b3 b4 b5 b6)
                      · exact (HBL10.out.trans (B4h.out.mono HBL10.out.size)).trans (HK3.out.below (by omega) (fun g' e => by have := (HEV8.out.lt g' e).1; omega) (by omega))
                    have HF := Lib.hid hfin
                    clear hfin
                    go_wp2_with fail
                    go_roundw
                    case rel => exact ⟨k + 1, by go_num, by omega, HF⟩
                    case measure => simp [intOf]; omega
      · obtain rfl : k = L.length := by omega
        have hlt' : ¬ (L.length : Int) < (L.length : Int) := by omega
        have haw := awake_any wr HT.out h11
        have HB := Lib.hid hB
        clear hX hR HK hB
        go_wp2_with fail
        refine haw.mono ?_
        rintro e w2 ⟨rfl, hb2⟩
        have HB2 := Lib.hid (HB.out.trans (hb2.mono hsr))
        clear hb2 haw
        go_wp2_with fail
        go_ret
        exact ⟨rfl, HB2.out⟩
end Go.Proofs.YtlafcnmopclgiaaGreatDoor
