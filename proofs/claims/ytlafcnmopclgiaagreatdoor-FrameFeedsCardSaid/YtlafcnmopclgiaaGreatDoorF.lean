/-
  head: a head is read.
-/
import Derived.Test.YtlafcnmopclgiaaGreatDoorE
import Derived.Lib.SlBytesConst
namespace Go.Proofs.YtlafcnmopclgiaaGreatDoor
open Go.RowKit Go.Shelf

/-- What an operation does. -/
def StepEnd (m : Mode) (l : List UInt8) (w : World) (e : Ending) (w' : World) : Prop :=
  ∃ v, e = .returned (stepV (op m l).1 v (op m l).2.2) ∧ EvsAt w.heap.size w' v (op m l).2.1.toList ∧ Below w.heap.size w w'
theorem index_any (w : World) (g o c1 g2 c2 : Nat) (l sep : List UInt8) (h1 : Lies w g o l) (h2 : Lies w g2 0 sep) (hc : l.length ≤ c1) (hz : l.length ≤ 1000000000) (hs : sep.length ≤ 1000) (hT : Tab w) :
    Calls Tryz.prog 18 #[.slice (some ⟨g, o, none⟩) l.length c1, .slice (some ⟨g2, 0, none⟩) sep.length c2] w fun e w' => e = .returned (.int .i64 (Lib.index l sep)) ∧ ∃ q, w' = w.drewN q := by
  obtain ⟨_, _, m, hm⟩ := hT
  have h := Tryz.bytes_Index_at ⟨g, o, none⟩ ⟨g2, 0, none⟩ l.length c1 sep.length c2 (nums l) (nums sep) m w (nums_len l) (nums_len sep) (nums_byte l) (nums_byte sep)
    (fun i hi => by rw [addr_add, nums_get]; exact h1 i hi) (fun i hi => by rw [addr_add, nums_get]; exact h2 i hi) hc (by omega) (by omega) hm
  rw [bytesOf_nums, bytesOf_nums] at h
  exact h
theorem crlf2_lies (w : World) : Lies (w.alloc (.cells #[.int .u8 13, .int .u8 10, .int .u8 13, .int .u8 10] 5 (4, 5))) w.heap.size 0 crlf2 := by
  intro i hi
  rw [cellH (heap_alloc_new w _)]
  match i, hi with
  | 0, _ => rfl
  | 1, _ => rfl
  | 2, _ => rfl
  | 3, _ => rfl
  | i + 4, hi => exact absurd hi (by show ¬ i + 4 < 4; omega)
theorem headLen_err {b : List UInt8} {k : Int} (h : headLen b = .error k) : k = 72 ∨ k = 40 := by
  unfold headLen at h
  split at h
  · split at h
    · split at h
      · split at h
        · cases h; exact .inr rfl
        · cases h
      · cases h; exact .inr rfl
    · cases h; exact .inl rfl
  · cases h; exact .inl rfl
theorem SBox.below {w w' : World} {b : Nat} {c0 c1 c2 : Value} (h : SBox w b c0 c1 c2) (hb : Below w.heap.size w w') : SBox w' b c0 c1 c2 := (hb.block b (Array.getElem?_eq_some_iff.1 h).1).trans h
theorem evs_shape {B : Nat} {w : World} {v : Value} {l : List Ev} (h : EvsAt B w v l) : ∃ p cap, v = .slice p l.length cap := owns_shape h
theorem evs_keep {B n : Nat} {w w' : World} {v : Value} {l : List Ev} (h : EvsAt n w v l) (hB : B ≤ n) (hk : ∀ g, n ≤ g → g < w.heap.size → w'.heap[g]? = w.heap[g]?) : EvsAt B w' v l := by
  obtain ⟨h1, h2⟩ := h
  refine ⟨h1, ?_⟩
  rcases h2 with h2 | ⟨g, cap, cur, h3, h4, h5, h6⟩
  · exact .inl h2
  · exact .inr ⟨g, cap, cur, h3, Nat.le_trans hB h4, (hk g h4 (Array.getElem?_eq_some_iff.1 h5).1).trans h5, h6⟩
set_option maxRecDepth 100000 in
set_option maxHeartbeats 4000000 in
theorem head_any (w : World) (hT : Tab w) (g o cap : Nat) (l : List UInt8) (hl : Lies w g o l) (hc : l.length ≤ cap) (hz : l.length ≤ 1000000000) :
    Calls Tryz.prog 13 #[.agg #[.int .i64 0], .slice (some ⟨g, o, none⟩) l.length cap] w (StepEnd .head l w) := by
  have hmf := makeFunc_run
  obtain ⟨A1, hv1⟩ : ∃ A, w.alloc (.cells #[.int .i64 0] 45) = A := ⟨_, rfl⟩
  obtain ⟨A2, hv2⟩ : ∃ A, A1.alloc (.cells #[.int .i64 0, .slice none 0 0, .nilFunc] 56) = A := ⟨_, rfl⟩
  obtain ⟨A0, hv0⟩ : ∃ A, A2.alloc (.cells #[.int .u8 13, .int .u8 10, .int .u8 13, .int .u8 10] 5) = A := ⟨_, rfl⟩
  obtain ⟨A3, hv3⟩ : ∃ A, A2.alloc (.cells #[.int .u8 13, .int .u8 10, .int .u8 13, .int .u8 10] 5 (4, 5)) = A := ⟨_, rfl⟩
  have s1 : A1.heap.size = w.heap.size + 1 := by rw [← hv1]; simp
  have s2 : A2.heap.size = w.heap.size + 2 := by rw [← hv2]; simp [s1]
  have b1 : Below w.heap.size w A1 := by rw [← hv1]; exact galloc2 (Below.refl _ _) (Nat.le_refl _) _
  have b2 : Below w.heap.size w A2 := by rw [← hv2]; exact galloc2 b1 (by omega) _
  have b3 : Below w.heap.size w A3 := by rw [← hv3]; exact galloc2 b2 (by omega) _
  have hcs : (convert 30 30 (.slice (some ⟨w.heap.size + 2, 0, none⟩) 4 4)).run Tryz.prog A0 = .ok (.slice (some ⟨w.heap.size + 2, 0, none⟩) 4 4) A3 := by
    rw [← hv0, ← hv3, ← s2]; exact Lib.run_convert_bytes_const A2 30 5 #[.int .u8 13, .int .u8 10, .int .u8 13, .int .u8 10] 4 4 u31 u5
  have S2 : SBox A2 (w.heap.size + 1) (.int .i64 0) (.slice none 0 0) .nilFunc := by rw [← hv2, ← s1]; exact heap_alloc_new A1 _
  have S3 : SBox A3 (w.heap.size + 1) (.int .i64 0) (.slice none 0 0) .nilFunc := by rw [← hv3]; exact heap_old S2
  have r3 : Lies A3 (w.heap.size + 2) 0 crlf2 := by rw [← hv3, ← s2]; exact crlf2_lies A2
  have l3 := (hl.take 1028).below b3
  have hmin : min (l.length : Int) 1028 = ((l.take 1028).length : Int) := by rw [List.length_take]; omega
  have hbl : (l.take 1028).length ≤ cap := by rw [List.length_take]; omega
  have hbl2 : (l.take 1028).length ≤ 1028 := by rw [List.length_take]; omega
  have hle : (((l.take 1028).length : Nat) : Int) ≤ (cap : Int) := by omega
  have T3 := hT.below b3
  have hix := index_any A3 g o cap (w.heap.size + 2) 4 (l.take 1028) crlf2 l3 r3 hbl (by omega) (by decide) T3
  have hc4 : crlf2.length = 4 := rfl
  rw [hc4] at hix
  have HS := Lib.hid S3
  have HB := Lib.hid b3
  have HT := Lib.hid T3
  have HLI := Lib.hid l3
  have HOP : Hid (op .head l = opHead l) := rfl
  have HLL : Hid (l.length < 1028 ↔ (l.take 1028).length < 1028) := Lib.hid (by rw [List.length_take]; omega)
  unfold StepEnd
  have HDEF : Hid (opHead l = if 0 ≤ Lib.index (l.take 1028) crlf2 then
      match headLen ((l.take 1028).take (Lib.index (l.take 1028) crlf2).toNat) with
      | .error k => (1, some ([], k), some .skip)
      | .ok n => ((Lib.index (l.take 1028) crlf2).toNat + 4, none, some (.body n))
    else if l.length < 1028 then (0, none, none)
    else (1, some ([], 72), some .skip)) := rfl
  have hroom := Lib.index_room (l.take 1028) crlf2
  have hge := Lib.index_ge (l.take 1028) crlf2
  rw [hc4] at hroom
  rw [show op .head l = opHead l from rfl]
  generalize opHead l = OP at *
  generalize hI : Lib.index (l.take 1028) crlf2 = I at *
  generalize hb : l.take 1028 = b at *
  have HCZ := Lib.hid hc
  clear hI hb b1 b2 b3 S2 S3 r3 l3 T3 hl HOP hc4 hz hc hT
  by_cases h0 : 0 ≤ I
  · obtain ⟨i, rfl⟩ := Int.eq_ofNat_of_zero_le h0
    have hr := hroom h0
    have hi : ¬ (i : Int) < 0 := by omega
    have hib : (i : Int) ≤ (b.length : Int) := by omega
    have hcap : (i : Int) ≤ (cap : Int) := by omega
    have hlen : (b.take i).length = i := by rw [List.length_take]; omega
    have hD : Hid (OP = match headLen (b.take i) with | .error k => (1, some ([], k), some .skip) | .ok n => (i + 4, none, some (.body n))) := Lib.hid (by rw [HDEF.out, if_pos h0]; rfl)
    have hconv : ∀ w', Below A3.heap.size A3 w' → (convert 30 9 (.slice (some ⟨g, o, none⟩) i cap)).run Tryz.prog w' = .ok (.string ⟨(b.take i).toArray⟩) w' := fun w' h => by
      have := ((HLI.out.take i).below h).str cap
      rw [hlen] at this; exact this
    have hL := fun w' (h : Below A3.heap.size A3 w') => length_any ⟨(b.take i).toArray⟩ w' (HT.out.below h) (by show (b.take i).toArray.size ≤ _; rw [List.size_toArray]; omega)
    have hw4 : IntKind.i64.wrap ((i : Int) + 4) = ((i + 4 : Nat) : Int) := by rw [IntWalk.i64_in _ (by omega)]; omega
    have hbt : (⟨(b.take i).toArray⟩ : ByteArray).data.toList = b.take i := rfl
    rw [hbt] at hL
    clear hbt HDEF hroom
    generalize (⟨(b.take i).toArray⟩ : ByteArray) = BS at *
    cases hh : headLen (b.take i) with
    | error k =>
      rw [hh] at hL
      have hk : (k == 0) = false := by rcases headLen_err hh with rfl | rfl <;> rfl
      have hk2 : (k != 0) = true := by unfold bne; rw [hk]; rfl
      have HD : Hid (OP = (1, some ([], k), some .skip)) := Lib.hid (by rw [hD.out, hh])
      clear hD hh
      go_enter Tryz.func13, Tryz.ntmps13
      go_wp2_with fail
      refine hix.mono ?_
      rintro e w4 ⟨rfl, q, rfl⟩
      have B4 := belowN (Below.refl A3.heap.size A3) q
      have hcv := hconv _ B4
      have hL4 := hL _ B4
      have HB4 := Lib.hid B4
      clear hL hconv B4
      go_wp2_with fail
      refine hL4.mono ?_
      rintro e w5 ⟨rfl, hb5⟩
      have HB5 := Lib.hid (gcall HB4.out HB4.out.size hb5)
      clear hb5 hL4 hcv
      simp only [lenV]
      go_wp2_with fail
      refine (fault_any k w5).mono ?_
      rintro e w6 ⟨v, rfl, hev, hb6⟩
      obtain ⟨p, cp, rfl⟩ := evs_shape hev
      have HB6 := Lib.hid (gcall HB5.out HB5.out.size hb6)
      have HS6 := Lib.hid (HS.out.below HB6.out)
      have HE6 := Lib.hid hev
      have HZ := Lib.hid HB5.out.size
      clear hev hb6
      obtain ⟨q0, q1, q2, qf⟩ := HS6.out.cells
      simp only [stepV, fnO, fnOf]
      go_wp2
      have kF := HS6.out.set (.int .i64 1) (.slice p 1 cp) (fnOf .skip)
      obtain ⟨z0, z1, z2, _⟩ := kF.cells
      refine bodyPost_ret (v := stepV 1 (.slice p 1 cp) (some .skip)) (by simp only [fnOf] at z0 z1 z2; simp [results, Tryz.results13, go_sem, stepV, fnO, fnOf, z0, z1, z2]) rfl ⟨.slice p 1 cp, by rw [HD.out], ?_, ?_⟩
      · rw [HD.out]
        have hs3 : w.heap.size + 2 ≤ A3.heap.size := by rw [← hv3]; simp; omega
        exact evs_keep HE6.out (by have := HB.out.size; have := HZ.out; omega) fun g' hg _ => by
          have := HZ.out
          rw [Below.heap_setCell _ ⟨w.heap.size + 1, 2, none⟩ _ _ (by simp; omega), Below.heap_setCell _ ⟨w.heap.size + 1, 1, none⟩ _ _ (by simp; omega), Below.heap_setCell _ ⟨w.heap.size + 1, 0, none⟩ _ _ (by simp; omega)]
      · exact set3_below (by omega) (HB.out.trans (HB6.out.mono HB.out.size))
    | ok n =>
      rw [hh] at hL
      have HD : Hid (OP = (i + 4, none, some (.body n))) := Lib.hid (by rw [hD.out, hh])
      clear hD hh
      go_enter Tryz.func13, Tryz.ntmps13
      go_wp2_with fail
      refine hix.mono ?_
      rintro e w4 ⟨rfl, q, rfl⟩
      have B4 := belowN (Below.refl A3.heap.size A3) q
      have hcv := hconv _ B4
      have hL4 := hL _ B4
      have HB4 := Lib.hid B4
      clear hL hconv B4
      go_wp2_with fail
      refine hL4.mono ?_
      rintro e w5 ⟨rfl, hb5⟩
      have HB5 := Lib.hid (gcall HB4.out HB4.out.size hb5)
      clear hb5 hL4 hcv
      simp only [lenV]
      have HS5 := Lib.hid (HS.out.below HB5.out)
      obtain ⟨q0, q1, q2, qf⟩ := HS5.out.cells
      go_wp2_with fail
      have kF := HS5.out.set (.int .i64 ((i : Int) + 4)) (.slice none 0 0) (fnOf (.body n))
      obtain ⟨z0, z1, z2, _⟩ := kF.cells
      refine bodyPost_ret (v := stepV (i + 4) (.slice none 0 0) (some (.body n))) (by simp only [fnOf] at z0 z1 z2; simp [results, Tryz.results13, go_sem, stepV, fnO, fnOf, z0, z1, z2]) rfl ⟨.slice none 0 0, by rw [HD.out], ?_, ?_⟩
      · rw [HD.out]; exact evs_none _ _
      · exact set3_below (by omega) (HB.out.trans (HB5.out.mono HB.out.size))
  · have hneg : I < 0 := by omega
    by_cases hl : l.length < 1028
    · have HD : Hid (OP = (0, none, none)) := Lib.hid (by rw [HDEF.out, if_neg h0, if_pos hl])
      have hlt : ((b.length : Nat) : Int) < 1028 := by have := HLL.out.1 hl; omega
      clear HDEF hroom HLL
      go_enter Tryz.func13, Tryz.ntmps13
      go_wp2_with fail
      refine hix.mono ?_
      rintro e w4 ⟨rfl, q, rfl⟩
      have HB4 := Lib.hid (belowN (Below.refl A3.heap.size A3) q)
      have HS5 := Lib.hid (HS.out.below HB4.out)
      obtain ⟨q0, q1, q2, qf⟩ := HS5.out.cells
      go_wp2_with fail
      have kF := HS5.out.set (.int .i64 0) (.slice none 0 0) .nilFunc
      obtain ⟨z0, z1, z2, _⟩ := kF.cells
      refine bodyPost_ret (v := stepV 0 (.slice none 0 0) none) (by simp [results, Tryz.results13, go_sem, stepV, fnO, z0, z1, z2]) rfl ⟨.slice none 0 0, by rw [HD.out], ?_, ?_⟩
      · rw [HD.out]; exact evs_none _ _
      · exact set3_below (by omega) (HB.out.trans (HB4.out.mono HB.out.size))
    · have HD : Hid (OP = (1, some ([], 72), some .skip)) := Lib.hid (by rw [HDEF.out, if_neg h0, if_neg hl])
      have hlt : ¬ ((b.length : Nat) : Int) < 1028 := by have := HLL.out.2; omega
      clear HDEF hroom HLL
      go_enter Tryz.func13, Tryz.ntmps13
      go_wp2_with fail
      refine hix.mono ?_
      rintro e w4 ⟨rfl, q, rfl⟩
      have HB5 := Lib.hid (belowN (Below.refl A3.heap.size A3) q)
      go_wp2_with fail
      refine (fault_any 72 _).mono ?_
      rintro e w6 ⟨v, rfl, hev, hb6⟩
      obtain ⟨p, cp, rfl⟩ := evs_shape hev
      have HB6 := Lib.hid (gcall HB5.out HB5.out.size hb6)
      have HS6 := Lib.hid (HS.out.below HB6.out)
      have HE6 := Lib.hid hev
      have HZ := Lib.hid HB5.out.size
      clear hev hb6
      obtain ⟨q0, q1, q2, qf⟩ := HS6.out.cells
      simp only [stepV, fnO, fnOf]
      go_wp2
      have kF := HS6.out.set (.int .i64 1) (.slice p 1 cp) (fnOf .skip)
      obtain ⟨z0, z1, z2, _⟩ := kF.cells
      refine bodyPost_ret (v := stepV 1 (.slice p 1 cp) (some .skip)) (by simp only [fnOf] at z0 z1 z2; simp [results, Tryz.results13, go_sem, stepV, fnO, fnOf, z0, z1, z2]) rfl ⟨.slice p 1 cp, by rw [HD.out], ?_, ?_⟩
      · rw [HD.out]
        have hs3 : w.heap.size + 2 ≤ A3.heap.size := by rw [← hv3]; simp; omega
        exact evs_keep HE6.out (by have := HB.out.size; have := HZ.out; omega) fun g' hg _ => by
          have := HZ.out
          rw [Below.heap_setCell _ ⟨w.heap.size + 1, 2, none⟩ _ _ (by simp; omega), Below.heap_setCell _ ⟨w.heap.size + 1, 1, none⟩ _ _ (by simp; omega), Below.heap_setCell _ ⟨w.heap.size + 1, 0, none⟩ _ _ (by simp; omega)]
      · exact set3_below (by omega) (HB.out.trans (HB6.out.mono HB.out.size))
end Go.Proofs.YtlafcnmopclgiaaGreatDoor
