/-
  The printer's list of an Array.
  The printer's list of an Object.
  The printer's value: what stands ahead of an element, the name of a member.
-/
import Derived.Test.YtgcpgieojckheaaGreatDoorMgLA
import Derived.Test.YtgcpgieojckheaaGreatDoorMgKJ
namespace Go.Proofs.YtgcpgieojckheaaGreatDoor.Json
open Go.RowKit Go.Shelf

theorem jat_four {S : Nat → Prop} {w : World} {j : J} {va vb vc vd : Value} (h : JAt S w j [va, vb, vc, vd]) : ∃ (kd : Nat) (tx : ByteArray) (pc : Option Addr) (nc cc : Nat) (pd : Option Addr) (nd cd : Nat), va = .int .u8 kd ∧ vb = .string tx ∧ vc = .slice pc nc cc ∧ vd = .slice pd nd cd := by
  cases j with
  | mk kk tt ns ls =>
    obtain ⟨pc, cc, pd, cd, vs, h1, _⟩ := h.form
    injection h1 with e1 h1; injection h1 with e2 h1; injection h1 with e3 h1; injection h1 with e4 _
    exact ⟨kk, ⟨tt.toArray⟩, pc, ns.length, cc, pd, ls.length, cd, e1, e2, e3, e4⟩
theorem PrAt.lt {B b : Nat} {t : List UInt8} {w : World} (h : PrAt B b t w) : b < w.heap.size := by
  rcases h with ⟨_, v, h, _⟩ | ⟨_, v, h, _⟩ <;> exact (Array.getElem?_eq_some_iff.1 h).1
theorem Fr.stays {B b : Nat} {W w : World} (h : Fr B b W w) : Stays (· < B) W w := ⟨h.2.2, fun k _ hk => h.1.block k hk⟩
theorem box_keep {b k : Nat} {w w' : World} {cs : Array Value} (h : w.heap[k]? = some (.cells cs 47 (0, 0))) (hne : k ≠ b) (hk : Kp b w w') : w'.heap[k]? = some (.cells cs 47 (0, 0)) :=
  (hk k (Array.getElem?_eq_some_iff.1 h).1 hne (fun c2 fz e => by rw [h] at e; injection e with e; injection e with _ e _; exact absurd e (by decide))).trans h
/-- The loop's state. -/
def LP (B b : Nat) (W : World) (t : List UInt8) (op : UInt8) (f : Nat → List UInt8) (xs : List (List UInt8)) (i : Nat) (w : World) : Prop :=
  PrAt B b (t ++ op :: outL f 0 (xs.take i)) w ∧ (t ++ op :: outL f 0 (xs.take i)).length ≤ 262144 ∧ Fr B b W w
set_option maxHeartbeats 8000000 in
set_option maxRecDepth 100000 in
theorem plist_arr (B b : Nat) (W : World) (t : List UInt8) (op sh : UInt8) (pd : Option Addr) (cd : Nat) (vs : List Value) (js : List J) (f : Nat → List UInt8) (St : World → Prop)
    (h : PrAt B b t W) (hB : B ≤ W.heap.size) (ht : t.length ≤ 262144) (hlen : js.length ≤ 1000000) (hSl : SlIn (· < B) W (.slice pd js.length cd) 4 js.length vs) (hJs : JsAt (· < B) W js vs) (hst : St W)
    (HSt : Hid (∀ w w', St w → w.heap.size ≤ w'.heap.size → Below B w w' → Kp b w w' → St w'))
    (HEl : Hid (∀ (i : Nat) t w, i < js.length → PrAt B b t w → B ≤ w.heap.size → t.length ≤ 262144 → St w → Calls Tryz.prog 99 #[.int .i64 i] w (PutEnd B b t (f i) w)))
    (HV : Hid (∀ (i : Nat) j cs t w, js[i]? = some j → JAt (· < B) w j cs → PrAt B b t w → B ≤ w.heap.size → t.length ≤ 262144 → Calls Tryz.prog 60 #[.pointer (some ⟨b, 0, none⟩), .agg cs.toArray] w (PutEnd B b t (outJ j) w))) :
    Calls Tryz.prog 98 #[.pointer (some ⟨b, 0, none⟩), .string ⟨#[op]⟩, .string ⟨#[sh]⟩, .slice pd js.length cd, .func (.func 99) #[] #[]] W (PutEnd B b t (op :: (outL f 0 (outsJ js) ++ [sh])) W) := by
  obtain ⟨o, ho⟩ : ∃ o, op :: (outL f 0 (outsJ js) ++ [sh]) = o := ⟨_, rfl⟩
  rw [ho]
  have HO := Lib.hid ho
  have HB0 := Lib.hid hB
  have HSl := Lib.hid hSl
  have HJs := Lib.hid hJs
  have HST := Lib.hid hst
  have hp1 := put_any B b t ⟨#[op]⟩ W h hB ht
  clear ho h ht hB hSl hJs hst
  go_enter Tryz.func98, Tryz.ntmps98
  go_wp2_with fail
  refine hp1.mono ?_
  rintro e w1 (⟨hl1, rfl, h1, hb1, hk1⟩ | ⟨hl1, rfl, hb1⟩)
  · have HI0 : Hid (LP B b W t op f (outsJ js) 0 w1) := Lib.hid ⟨h1, by simp [outL] at hl1 ⊢; omega, hb1, hk1, hb1.size⟩
    clear hl1 h1 hb1 hk1 hp1
    go_wp2_with fail
    go_loopw [17] (fun iv wr => ∃ i : Nat, i ≤ js.length ∧ iv = .int .i64 i ∧ Hid (LP B b W t op f (outsJ js) i wr)) (fun iv _ => js.length - (intOf iv).toNat)
    case atStart => exact ⟨0, by omega, rfl, HI0⟩
    case round =>
      obtain ⟨i, hi, rfl, HI⟩ := hrel
      rcases Nat.lt_or_ge i js.length with hlt | hge
      · have hlt' : (i : Int) < (js.length : Int) := by omega
        have hwi : IntKind.i64.wrap ((i : Int) + 1) = ((i + 1 : Nat) : Int) := by rw [IntWalk.i64_in _ (by omega)]; omega
        obtain ⟨g1, o1, rfl, hx1⟩ := HSl.out.cellAt (by omega)
        have hu1 := List.getElem?_eq_getElem hlt
        obtain ⟨xa, xb, xc, xd, hjx, m1, m2, m3, m4⟩ := HJs.out.nth js vs i _ hu1
        obtain ⟨kd, tx, pc, nc, cc, pe, ne, ce, rfl, rfl, rfl, rfl⟩ := jat_four hjx
        have hlo : g1 < B := by
          obtain ⟨_, p2, cap2, h2, _, h4⟩ := HSl.out
          cases h2
          rcases h4 with h4 | ⟨g, q, h5, h6, _⟩
          · omega
          · cases h5; exact h6
        have hcell : ∀ q v, W.cell? ⟨g1, q, none⟩ = some v → wr.cell? ⟨g1, q, none⟩ = some v := fun q v hq => (World.cell?_of_block (a := ⟨g1, q, none⟩) (HI.out.2.2.1.block g1 hlo)).trans hq
        have k1 : wr.cell? ⟨g1, o1 + i * 4, none⟩ = some (.int .u8 (kd : Nat)) := hcell _ _ (hx1 _ _ m1)
        have k2 : wr.cell? ⟨g1, o1 + i * 4 + 1, none⟩ = some (.string tx) := hcell _ _ (hx1 _ _ m2)
        have k3 : wr.cell? ⟨g1, o1 + i * 4 + 2, none⟩ = some (.slice pc nc cc) := hcell _ _ (hx1 _ _ m3)
        have k4 : wr.cell? ⟨g1, o1 + i * 4 + 3, none⟩ = some (.slice pe ne ce) := hcell _ _ (hx1 _ _ m4)
        have HX := Lib.hid hjx
        have HU := Lib.hid hu1
        have HXS : Hid ((outsJ js)[i]? = some (outJ (js[i]'hlt))) := Lib.hid (by rw [outsJ_map, List.getElem?_map, hu1]; rfl)
        obtain ⟨wb, hwb⟩ : ∃ wb, wr.alloc (.cells #[.int .u8 0, .string ⟨#[]⟩, .slice none 0 0, .slice none 0 0] 47) = wb := ⟨_, rfl⟩
        have kR : wb.heap[wr.heap.size]? = some (.cells #[.int .u8 0, .string ⟨#[]⟩, .slice none 0 0, .slice none 0 0] 47 (0, 0)) := by rw [← hwb]; exact World.alloc_heap_new wr _
        have hbb : Below wr.heap.size wr wb := by rw [← hwb]; exact galloc (Below.refl _ _) _
        obtain ⟨w4, hw4⟩ : ∃ w4, (((wb.setCell ⟨wr.heap.size, 0, none⟩ (.int .u8 (kd : Nat))).setCell ⟨wr.heap.size, 1, none⟩ (.string tx)).setCell ⟨wr.heap.size, 2, none⟩ (.slice pc nc cc)).setCell ⟨wr.heap.size, 3, none⟩ (.slice pe ne ce) = w4 := ⟨_, rfl⟩
        have kF : w4.heap[wr.heap.size]? = some (.cells #[(.int .u8 (kd : Nat)), (.string tx), (.slice pc nc cc), (.slice pe ne ce)] 47 (0, 0)) := by
          rw [← hw4]; exact heap_setCell_same _ _ 3 _ _ (.slice pe ne ce) (heap_setCell_same _ _ 2 _ _ (.slice pc nc cc) (heap_setCell_same _ _ 1 _ _ (.string tx) (heap_setCell_same _ _ 0 _ _ (.int .u8 (kd : Nat)) kR)))
        have hb4 : Below wr.heap.size wr w4 := by
          rw [← hw4]
          exact (((hbb.setCell (p := ⟨wr.heap.size, 0, none⟩) (Nat.le_refl _) _).setCell (p := ⟨wr.heap.size, 1, none⟩) (Nat.le_refl _) _).setCell (p := ⟨wr.heap.size, 2, none⟩) (Nat.le_refl _) _).setCell (p := ⟨wr.heap.size, 3, none⟩) (Nat.le_refl _) _
        obtain ⟨q0, q1, q2, q3, qf⟩ : wb.cell? ⟨wr.heap.size, 0, none⟩ = some (.int .u8 0) ∧ wb.cell? ⟨wr.heap.size, 1, none⟩ = some (.string ⟨#[]⟩) ∧ wb.cell? ⟨wr.heap.size, 2, none⟩ = some (.slice none 0 0) ∧ wb.cell? ⟨wr.heap.size, 3, none⟩ = some (.slice none 0 0) ∧ ∀ o, wb.frozen? ⟨wr.heap.size, o, none⟩ = false :=
          ⟨by rw [cellH kR]; rfl, by rw [cellH kR]; rfl, by rw [cellH kR]; rfl, by rw [cellH kR]; rfl, fun o => Lib.frozen_of_heap kR o⟩
        have HBX4 := Lib.hid kF
        have HNb : Hid (wr.heap.size ≠ b) := Lib.hid (by have := HI.out.1.lt; omega)
        have HF4 : Hid (Fr B b W w4) := Lib.hid (HI.out.2.2.trans ⟨hb4.mono (Nat.le_trans HB0.out HI.out.2.2.2.2), Kp.below hb4, hb4.size⟩)
        have HP4 : Hid (PrAt B b (t ++ op :: outL f 0 ((outsJ js).take i)) w4) := Lib.hid (HI.out.1.keep hb4)
        have HT4 := Lib.hid HI.out.2.1
        clear hx1 hu1 hjx m1 m2 m3 m4 hcell kR hbb kF hb4
        by_cases hi0 : i = 0
        · have hgt : ¬ (0 : Int) < (i : Int) := by omega
          have hgt2 : decide ((0 : Int) < (i : Int)) = false := by simp; omega
          obtain ⟨T1, hT1⟩ : ∃ T1, t ++ op :: outL f 0 ((outsJ js).take i) = T1 := ⟨_, rfl⟩
          have HT1E : Hid (T1 = (t ++ op :: outL f 0 ((outsJ js).take i)) ++ (if i = 0 then [] else [44])) := Lib.hid (by rw [if_pos hi0, hT1]; simp)
          rw [hT1] at HP4 HT4
          clear hT1 hi0
          have HP1 := HP4
          have HT1 := HT4
          have HF1 := HF4
          have HBX1 := HBX4
          have hel := HEl.out i T1 w4 hlt HP1.out (Nat.le_trans HB0.out HF1.out.2.2) HT1.out (HSt.out _ _ HST.out HF1.out.2.2 HF1.out.1 HF1.out.2.1)
          go_wp2_with fail
          refine hel.mono ?_
          rintro e w2 (⟨hl2, rfl, h2, hb2, hk2⟩ | ⟨hl2, rfl, hb2⟩)
          · have HF2 : Hid (Fr B b W w2) := Lib.hid (HF1.out.trans ⟨hb2, hk2, hb2.size⟩)
            have HBX2 : Hid (w2.heap[wr.heap.size]? = some (.cells #[(.int .u8 (kd : Nat)), (.string tx), (.slice pc nc cc), (.slice pe ne ce)] 47 (0, 0))) := Lib.hid (box_keep HBX1.out HNb.out hk2)
            have HP2 := Lib.hid h2
            have HT2 : Hid ((T1 ++ f i).length ≤ 262144) := Lib.hid (by rw [List.length_append]; exact hl2)
            clear hl2 h2 hb2 hk2 hel
            obtain ⟨n0, n1, n2, n3⟩ : w2.cell? ⟨wr.heap.size, 0, none⟩ = some (.int .u8 (kd : Nat)) ∧ w2.cell? ⟨wr.heap.size, 1, none⟩ = some (.string tx) ∧ w2.cell? ⟨wr.heap.size, 2, none⟩ = some (.slice pc nc cc) ∧ w2.cell? ⟨wr.heap.size, 3, none⟩ = some (.slice pe ne ce) :=
              ⟨by rw [cellH HBX2.out]; rfl, by rw [cellH HBX2.out]; rfl, by rw [cellH HBX2.out]; rfl, by rw [cellH HBX2.out]; rfl⟩
            have hv := HV.out i _ [(.int .u8 (kd : Nat)), (.string tx), (.slice pc nc cc), (.slice pe ne ce)] (T1 ++ f i) w2 HU.out (JAt.world (HF2.out.stays) _ _ HX.out) HP2.out (Nat.le_trans HB0.out HF2.out.2.2) HT2.out
            rw [show ([(.int .u8 (kd : Nat)), (.string tx), (.slice pc nc cc), (.slice pe ne ce)] : List Value).toArray = #[(.int .u8 (kd : Nat)), (.string tx), (.slice pc nc cc), (.slice pe ne ce)] from rfl] at hv
            go_wp2_with fail
            refine hv.mono ?_
            rintro e w3 (⟨hl3, rfl, h3, hb3, hk3⟩ | ⟨hl3, rfl, hb3⟩)
            · have HI3 : Hid (LP B b W t op f (outsJ js) (i + 1) w3) := Lib.hid (by
                have e1 : (T1 ++ f i) ++ outJ (js[i]'hlt) = t ++ op :: outL f 0 ((outsJ js).take (i + 1)) := by rw [HT1E.out, outL_take f _ i _ HXS.out]; simp
                refine ⟨by rw [← e1]; exact h3, ?_, HF2.out.trans ⟨hb3, hk3, hb3.size⟩⟩
                rw [← e1, List.length_append]; exact hl3)
              clear hl3 h3 hb3 hk3 hv
              go_wp2
              exact ⟨⟨i + 1, by omega, rfl, HI3⟩, by simp [intOf]; omega⟩
            · have HK : Hid (262144 < t.length + o.length) := Lib.hid (long_of (e := outL f (0 + ((outsJ js).take (i + 1)).length) ((outsJ js).drop (i + 1)) ++ [sh]) hl3 (by
                rw [HT1E.out, ← HO.out, outL_rest f (outsJ js) (i + 1), outL_take f _ i _ HXS.out]; simp))
              have HB3 := Lib.hid (HF2.out.trans hb3)
              clear hl3 hb3 hv
              go_wp2_with fail
              exact ⟨rfl, Or.inr ⟨HK.out, rfl, HB3.out⟩⟩
          · have HK : Hid (262144 < t.length + o.length) := Lib.hid (long_of (e := outJ (js[i]'hlt) ++ outL f (0 + ((outsJ js).take (i + 1)).length) ((outsJ js).drop (i + 1)) ++ [sh]) hl2 (by
              rw [HT1E.out, ← HO.out, outL_rest f (outsJ js) (i + 1), outL_take f _ i _ HXS.out]; simp))
            have HB2 := Lib.hid (HF1.out.trans hb2)
            clear hl2 hb2 hel
            go_wp2_with fail
            exact ⟨rfl, Or.inr ⟨HK.out, rfl, HB2.out⟩⟩
        · have hgt : (0 : Int) < (i : Int) := by omega
          have hgt2 : decide ((0 : Int) < (i : Int)) = true := by simp; omega
          have hpc := put_any B b _ ⟨#[44]⟩ w4 HP4.out (Nat.le_trans HB0.out HF4.out.2.2) HT4.out
          have HI0' := Lib.hid hi0
          clear hi0
          go_wp2_with fail
          refine hpc.mono ?_
          rintro e w5 (⟨hl5, rfl, h5, hb5, hk5⟩ | ⟨hl5, rfl, hb5⟩)
          · have HF1 : Hid (Fr B b W w5) := Lib.hid (HF4.out.trans ⟨hb5, hk5, hb5.size⟩)
            have HBX1 : Hid (w5.heap[wr.heap.size]? = some (.cells #[(.int .u8 (kd : Nat)), (.string tx), (.slice pc nc cc), (.slice pe ne ce)] 47 (0, 0))) := Lib.hid (box_keep HBX4.out HNb.out hk5)
            obtain ⟨T1, hT1⟩ : ∃ T1, (t ++ op :: outL f 0 ((outsJ js).take i)) ++ (⟨#[44]⟩ : ByteArray).data.toList = T1 := ⟨_, rfl⟩
            have HT1E : Hid (T1 = (t ++ op :: outL f 0 ((outsJ js).take i)) ++ (if i = 0 then [] else [44])) := Lib.hid (by rw [if_neg HI0'.out, ← hT1])
            have HT1 : Hid (T1.length ≤ 262144) := Lib.hid (by rw [← hT1, List.length_append]; exact hl5)
            have HP1 : Hid (PrAt B b T1 w5) := Lib.hid (by rw [← hT1]; exact h5)
            clear hl5 h5 hb5 hk5 hpc hT1
            have hel := HEl.out i T1 w5 hlt HP1.out (Nat.le_trans HB0.out HF1.out.2.2) HT1.out (HSt.out _ _ HST.out HF1.out.2.2 HF1.out.1 HF1.out.2.1)
            go_wp2_with fail
            refine hel.mono ?_
            rintro e w2 (⟨hl2, rfl, h2, hb2, hk2⟩ | ⟨hl2, rfl, hb2⟩)
            · have HF2 : Hid (Fr B b W w2) := Lib.hid (HF1.out.trans ⟨hb2, hk2, hb2.size⟩)
              have HBX2 : Hid (w2.heap[wr.heap.size]? = some (.cells #[(.int .u8 (kd : Nat)), (.string tx), (.slice pc nc cc), (.slice pe ne ce)] 47 (0, 0))) := Lib.hid (box_keep HBX1.out HNb.out hk2)
              have HP2 := Lib.hid h2
              have HT2 : Hid ((T1 ++ f i).length ≤ 262144) := Lib.hid (by rw [List.length_append]; exact hl2)
              clear hl2 h2 hb2 hk2 hel
              obtain ⟨n0, n1, n2, n3⟩ : w2.cell? ⟨wr.heap.size, 0, none⟩ = some (.int .u8 (kd : Nat)) ∧ w2.cell? ⟨wr.heap.size, 1, none⟩ = some (.string tx) ∧ w2.cell? ⟨wr.heap.size, 2, none⟩ = some (.slice pc nc cc) ∧ w2.cell? ⟨wr.heap.size, 3, none⟩ = some (.slice pe ne ce) :=
                ⟨by rw [cellH HBX2.out]; rfl, by rw [cellH HBX2.out]; rfl, by rw [cellH HBX2.out]; rfl, by rw [cellH HBX2.out]; rfl⟩
              have hv := HV.out i _ [(.int .u8 (kd : Nat)), (.string tx), (.slice pc nc cc), (.slice pe ne ce)] (T1 ++ f i) w2 HU.out (JAt.world (HF2.out.stays) _ _ HX.out) HP2.out (Nat.le_trans HB0.out HF2.out.2.2) HT2.out
              rw [show ([(.int .u8 (kd : Nat)), (.string tx), (.slice pc nc cc), (.slice pe ne ce)] : List Value).toArray = #[(.int .u8 (kd : Nat)), (.string tx), (.slice pc nc cc), (.slice pe ne ce)] from rfl] at hv
              go_wp2_with fail
              refine hv.mono ?_
              rintro e w3 (⟨hl3, rfl, h3, hb3, hk3⟩ | ⟨hl3, rfl, hb3⟩)
              · have HI3 : Hid (LP B b W t op f (outsJ js) (i + 1) w3) := Lib.hid (by
                  have e1 : (T1 ++ f i) ++ outJ (js[i]'hlt) = t ++ op :: outL f 0 ((outsJ js).take (i + 1)) := by rw [HT1E.out, outL_take f _ i _ HXS.out]; simp
                  refine ⟨by rw [← e1]; exact h3, ?_, HF2.out.trans ⟨hb3, hk3, hb3.size⟩⟩
                  rw [← e1, List.length_append]; exact hl3)
                clear hl3 h3 hb3 hk3 hv
                go_wp2
                exact ⟨⟨i + 1, by omega, rfl, HI3⟩, by simp [intOf]; omega⟩
              · have HK : Hid (262144 < t.length + o.length) := Lib.hid (long_of (e := outL f (0 + ((outsJ js).take (i + 1)).length) ((outsJ js).drop (i + 1)) ++ [sh]) hl3 (by
                  rw [HT1E.out, ← HO.out, outL_rest f (outsJ js) (i + 1), outL_take f _ i _ HXS.out]; simp))
                have HB3 := Lib.hid (HF2.out.trans hb3)
                clear hl3 hb3 hv
                go_wp2_with fail
                exact ⟨rfl, Or.inr ⟨HK.out, rfl, HB3.out⟩⟩
            · have HK : Hid (262144 < t.length + o.length) := Lib.hid (long_of (e := outJ (js[i]'hlt) ++ outL f (0 + ((outsJ js).take (i + 1)).length) ((outsJ js).drop (i + 1)) ++ [sh]) hl2 (by
                rw [HT1E.out, ← HO.out, outL_rest f (outsJ js) (i + 1), outL_take f _ i _ HXS.out]; simp))
              have HB2 := Lib.hid (HF1.out.trans hb2)
              clear hl2 hb2 hel
              go_wp2_with fail
              exact ⟨rfl, Or.inr ⟨HK.out, rfl, HB2.out⟩⟩
          · have HK : Hid (262144 < t.length + o.length) := Lib.hid (long_of (e := f i ++ outJ (js[i]'hlt) ++ outL f (0 + ((outsJ js).take (i + 1)).length) ((outsJ js).drop (i + 1)) ++ [sh]) hl5 (by
              rw [← HO.out, outL_rest f (outsJ js) (i + 1), outL_take f _ i _ HXS.out, if_neg HI0'.out]; simp))
            have HB5 := Lib.hid (HF4.out.trans hb5)
            clear hl5 hb5 hpc
            go_wp2_with fail
            exact ⟨rfl, Or.inr ⟨HK.out, rfl, HB5.out⟩⟩
      · obtain rfl : i = js.length := by omega
        have hlt' : ¬ (js.length : Int) < (js.length : Int) := by omega
        have htk : (outsJ js).take js.length = outsJ js := List.take_of_length_le (by rw [outsJ_map, List.length_map]; exact Nat.le_refl _)
        have hI := HI.out
        unfold LP at hI
        rw [htk] at hI
        have hps := put_any B b _ ⟨#[sh]⟩ wr hI.1 (Nat.le_trans HB0.out hI.2.2.2.2) hI.2.1
        have HFR := Lib.hid hI.2.2
        have HE1 : Hid ((t ++ op :: outL f 0 (outsJ js)) ++ (⟨#[sh]⟩ : ByteArray).data.toList = t ++ o) := Lib.hid (by rw [← HO.out]; simp)
        clear hI htk
        go_wp2_with fail
        refine hps.mono ?_
        rintro e w5 (⟨hl5, rfl, h5, hb5, hk5⟩ | ⟨hl5, rfl, hb5⟩)
        · have HK : Hid (PutEnd B b t o W (.returned (.tuple #[])) w5) := Lib.hid (.inl ⟨by
            have := congrArg List.length HE1.out
            have e2 : (t ++ o).length = t.length + o.length := List.length_append; rw [e2, List.length_append] at this; omega, rfl, by rw [← HE1.out]; exact h5, HFR.out.1.trans hb5, HFR.out.2.1.trans hk5 HFR.out.2.2⟩)
          clear hl5 h5 hb5 hk5 hps
          go_wp2
          go_end0
          exact HK.out
        · have HK : Hid (262144 < t.length + o.length) := Lib.hid (by
            have := congrArg List.length HE1.out
            have e2 : (t ++ o).length = t.length + o.length := List.length_append; rw [e2, List.length_append] at this; omega)
          have HB5 := Lib.hid (HFR.out.trans hb5)
          clear hl5 hb5 hps
          go_wp2_with fail
          exact ⟨rfl, Or.inr ⟨HK.out, rfl, HB5.out⟩⟩
  · clear hp1
    go_wp2_with fail
    refine ⟨rfl, Or.inr ⟨?_, rfl, hb1⟩⟩
    rw [← HO.out]
    simp at hl1 ⊢
    omega
end Go.Proofs.YtgcpgieojckheaaGreatDoor.Json
namespace Go.Proofs.YtgcpgieojckheaaGreatDoor.Json
open Go.RowKit Go.Shelf

set_option maxHeartbeats 8000000 in
set_option maxRecDepth 100000 in
theorem plist_obj (B b : Nat) (W : World) (t : List UInt8) (op sh : UInt8) (pd : Option Addr) (cd : Nat) (vs : List Value) (js : List J) (f : Nat → List UInt8) (St : World → Prop) (PB JB : Nat)
    (h : PrAt B b t W) (hB : B ≤ W.heap.size) (ht : t.length ≤ 262144) (hlen : js.length ≤ 1000000) (hSl : SlIn (· < B) W (.slice pd js.length cd) 4 js.length vs) (hJs : JsAt (· < B) W js vs) (hst : St W)
    (HSt : Hid (∀ w w', St w → w.heap.size ≤ w'.heap.size → Below B w w' → Kp b w w' → St w'))
    (HEl : Hid (∀ (i : Nat) t w, i < js.length → PrAt B b t w → B ≤ w.heap.size → t.length ≤ 262144 → St w → Calls Tryz.prog 100 #[.int .i64 i, .pointer (some ⟨PB, 0, none⟩), .pointer (some ⟨JB, 0, none⟩)] w (PutEnd B b t (f i) w)))
    (HV : Hid (∀ (i : Nat) j cs t w, js[i]? = some j → JAt (· < B) w j cs → PrAt B b t w → B ≤ w.heap.size → t.length ≤ 262144 → Calls Tryz.prog 60 #[.pointer (some ⟨b, 0, none⟩), .agg cs.toArray] w (PutEnd B b t (outJ j) w))) :
    Calls Tryz.prog 98 #[.pointer (some ⟨b, 0, none⟩), .string ⟨#[op]⟩, .string ⟨#[sh]⟩, .slice pd js.length cd, .func (.func 100) #[] #[.pointer (some ⟨PB, 0, none⟩), .pointer (some ⟨JB, 0, none⟩)]] W (PutEnd B b t (op :: (outL f 0 (outsJ js) ++ [sh])) W) := by
  obtain ⟨o, ho⟩ : ∃ o, op :: (outL f 0 (outsJ js) ++ [sh]) = o := ⟨_, rfl⟩
  rw [ho]
  have HO := Lib.hid ho
  have HB0 := Lib.hid hB
  have HSl := Lib.hid hSl
  have HJs := Lib.hid hJs
  have HST := Lib.hid hst
  have hp1 := put_any B b t ⟨#[op]⟩ W h hB ht
  clear ho h ht hB hSl hJs hst
  go_enter Tryz.func98, Tryz.ntmps98
  go_wp2_with fail
  refine hp1.mono ?_
  rintro e w1 (⟨hl1, rfl, h1, hb1, hk1⟩ | ⟨hl1, rfl, hb1⟩)
  · have HI0 : Hid (LP B b W t op f (outsJ js) 0 w1) := Lib.hid ⟨h1, by simp [outL] at hl1 ⊢; omega, hb1, hk1, hb1.size⟩
    clear hl1 h1 hb1 hk1 hp1
    go_wp2_with fail
    go_loopw [17] (fun iv wr => ∃ i : Nat, i ≤ js.length ∧ iv = .int .i64 i ∧ Hid (LP B b W t op f (outsJ js) i wr)) (fun iv _ => js.length - (intOf iv).toNat)
    case atStart => exact ⟨0, by omega, rfl, HI0⟩
    case round =>
      obtain ⟨i, hi, rfl, HI⟩ := hrel
      rcases Nat.lt_or_ge i js.length with hlt | hge
      · have hlt' : (i : Int) < (js.length : Int) := by omega
        have hwi : IntKind.i64.wrap ((i : Int) + 1) = ((i + 1 : Nat) : Int) := by rw [IntWalk.i64_in _ (by omega)]; omega
        obtain ⟨g1, o1, rfl, hx1⟩ := HSl.out.cellAt (by omega)
        have hu1 := List.getElem?_eq_getElem hlt
        obtain ⟨xa, xb, xc, xd, hjx, m1, m2, m3, m4⟩ := HJs.out.nth js vs i _ hu1
        obtain ⟨kd, tx, pc, nc, cc, pe, ne, ce, rfl, rfl, rfl, rfl⟩ := jat_four hjx
        have hlo : g1 < B := by
          obtain ⟨_, p2, cap2, h2, _, h4⟩ := HSl.out
          cases h2
          rcases h4 with h4 | ⟨g, q, h5, h6, _⟩
          · omega
          · cases h5; exact h6
        have hcell : ∀ q v, W.cell? ⟨g1, q, none⟩ = some v → wr.cell? ⟨g1, q, none⟩ = some v := fun q v hq => (World.cell?_of_block (a := ⟨g1, q, none⟩) (HI.out.2.2.1.block g1 hlo)).trans hq
        have k1 : wr.cell? ⟨g1, o1 + i * 4, none⟩ = some (.int .u8 (kd : Nat)) := hcell _ _ (hx1 _ _ m1)
        have k2 : wr.cell? ⟨g1, o1 + i * 4 + 1, none⟩ = some (.string tx) := hcell _ _ (hx1 _ _ m2)
        have k3 : wr.cell? ⟨g1, o1 + i * 4 + 2, none⟩ = some (.slice pc nc cc) := hcell _ _ (hx1 _ _ m3)
        have k4 : wr.cell? ⟨g1, o1 + i * 4 + 3, none⟩ = some (.slice pe ne ce) := hcell _ _ (hx1 _ _ m4)
        have HX := Lib.hid hjx
        have HU := Lib.hid hu1
        have HXS : Hid ((outsJ js)[i]? = some (outJ (js[i]'hlt))) := Lib.hid (by rw [outsJ_map, List.getElem?_map, hu1]; rfl)
        obtain ⟨wb, hwb⟩ : ∃ wb, wr.alloc (.cells #[.int .u8 0, .string ⟨#[]⟩, .slice none 0 0, .slice none 0 0] 47) = wb := ⟨_, rfl⟩
        have kR : wb.heap[wr.heap.size]? = some (.cells #[.int .u8 0, .string ⟨#[]⟩, .slice none 0 0, .slice none 0 0] 47 (0, 0)) := by rw [← hwb]; exact World.alloc_heap_new wr _
        have hbb : Below wr.heap.size wr wb := by rw [← hwb]; exact galloc (Below.refl _ _) _
        obtain ⟨w4, hw4⟩ : ∃ w4, (((wb.setCell ⟨wr.heap.size, 0, none⟩ (.int .u8 (kd : Nat))).setCell ⟨wr.heap.size, 1, none⟩ (.string tx)).setCell ⟨wr.heap.size, 2, none⟩ (.slice pc nc cc)).setCell ⟨wr.heap.size, 3, none⟩ (.slice pe ne ce) = w4 := ⟨_, rfl⟩
        have kF : w4.heap[wr.heap.size]? = some (.cells #[(.int .u8 (kd : Nat)), (.string tx), (.slice pc nc cc), (.slice pe ne ce)] 47 (0, 0)) := by
          rw [← hw4]; exact heap_setCell_same _ _ 3 _ _ (.slice pe ne ce) (heap_setCell_same _ _ 2 _ _ (.slice pc nc cc) (heap_setCell_same _ _ 1 _ _ (.string tx) (heap_setCell_same _ _ 0 _ _ (.int .u8 (kd : Nat)) kR)))
        have hb4 : Below wr.heap.size wr w4 := by
          rw [← hw4]
          exact (((hbb.setCell (p := ⟨wr.heap.size, 0, none⟩) (Nat.le_refl _) _).setCell (p := ⟨wr.heap.size, 1, none⟩) (Nat.le_refl _) _).setCell (p := ⟨wr.heap.size, 2, none⟩) (Nat.le_refl _) _).setCell (p := ⟨wr.heap.size, 3, none⟩) (Nat.le_refl _) _
        obtain ⟨q0, q1, q2, q3, qf⟩ : wb.cell? ⟨wr.heap.size, 0, none⟩ = some (.int .u8 0) ∧ wb.cell? ⟨wr.heap.size, 1, none⟩ = some (.string ⟨#[]⟩) ∧ wb.cell? ⟨wr.heap.size, 2, none⟩ = some (.slice none 0 0) ∧ wb.cell? ⟨wr.heap.size, 3, none⟩ = some (.slice none 0 0) ∧ ∀ o, wb.frozen? ⟨wr.heap.size, o, none⟩ = false :=
          ⟨by rw [cellH kR]; rfl, by rw [cellH kR]; rfl, by rw [cellH kR]; rfl, by rw [cellH kR]; rfl, fun o => Lib.frozen_of_heap kR o⟩
        have HBX4 := Lib.hid kF
        have HNb : Hid (wr.heap.size ≠ b) := Lib.hid (by have := HI.out.1.lt; omega)
        have HF4 : Hid (Fr B b W w4) := Lib.hid (HI.out.2.2.trans ⟨hb4.mono (Nat.le_trans HB0.out HI.out.2.2.2.2), Kp.below hb4, hb4.size⟩)
        have HP4 : Hid (PrAt B b (t ++ op :: outL f 0 ((outsJ js).take i)) w4) := Lib.hid (HI.out.1.keep hb4)
        have HT4 := Lib.hid HI.out.2.1
        clear hx1 hu1 hjx m1 m2 m3 m4 hcell kR hbb kF hb4
        by_cases hi0 : i = 0
        · have hgt : ¬ (0 : Int) < (i : Int) := by omega
          have hgt2 : decide ((0 : Int) < (i : Int)) = false := by simp; omega
          obtain ⟨T1, hT1⟩ : ∃ T1, t ++ op :: outL f 0 ((outsJ js).take i) = T1 := ⟨_, rfl⟩
          have HT1E : Hid (T1 = (t ++ op :: outL f 0 ((outsJ js).take i)) ++ (if i = 0 then [] else [44])) := Lib.hid (by rw [if_pos hi0, hT1]; simp)
          rw [hT1] at HP4 HT4
          clear hT1 hi0
          have HP1 := HP4
          have HT1 := HT4
          have HF1 := HF4
          have HBX1 := HBX4
          have hel := HEl.out i T1 w4 hlt HP1.out (Nat.le_trans HB0.out HF1.out.2.2) HT1.out (HSt.out _ _ HST.out HF1.out.2.2 HF1.out.1 HF1.out.2.1)
          go_wp2_with fail
          refine hel.mono ?_
          rintro e w2 (⟨hl2, rfl, h2, hb2, hk2⟩ | ⟨hl2, rfl, hb2⟩)
          · have HF2 : Hid (Fr B b W w2) := Lib.hid (HF1.out.trans ⟨hb2, hk2, hb2.size⟩)
            have HBX2 : Hid (w2.heap[wr.heap.size]? = some (.cells #[(.int .u8 (kd : Nat)), (.string tx), (.slice pc nc cc), (.slice pe ne ce)] 47 (0, 0))) := Lib.hid (box_keep HBX1.out HNb.out hk2)
            have HP2 := Lib.hid h2
            have HT2 : Hid ((T1 ++ f i).length ≤ 262144) := Lib.hid (by rw [List.length_append]; exact hl2)
            clear hl2 h2 hb2 hk2 hel
            obtain ⟨n0, n1, n2, n3⟩ : w2.cell? ⟨wr.heap.size, 0, none⟩ = some (.int .u8 (kd : Nat)) ∧ w2.cell? ⟨wr.heap.size, 1, none⟩ = some (.string tx) ∧ w2.cell? ⟨wr.heap.size, 2, none⟩ = some (.slice pc nc cc) ∧ w2.cell? ⟨wr.heap.size, 3, none⟩ = some (.slice pe ne ce) :=
              ⟨by rw [cellH HBX2.out]; rfl, by rw [cellH HBX2.out]; rfl, by rw [cellH HBX2.out]; rfl, by rw [cellH HBX2.out]; rfl⟩
            have hv := HV.out i _ [(.int .u8 (kd : Nat)), (.string tx), (.slice pc nc cc), (.slice pe ne ce)] (T1 ++ f i) w2 HU.out (JAt.world (HF2.out.stays) _ _ HX.out) HP2.out (Nat.le_trans HB0.out HF2.out.2.2) HT2.out
            rw [show ([(.int .u8 (kd : Nat)), (.string tx), (.slice pc nc cc), (.slice pe ne ce)] : List Value).toArray = #[(.int .u8 (kd : Nat)), (.string tx), (.slice pc nc cc), (.slice pe ne ce)] from rfl] at hv
            go_wp2_with fail
            refine hv.mono ?_
            rintro e w3 (⟨hl3, rfl, h3, hb3, hk3⟩ | ⟨hl3, rfl, hb3⟩)
            · have HI3 : Hid (LP B b W t op f (outsJ js) (i + 1) w3) := Lib.hid (by
                have e1 : (T1 ++ f i) ++ outJ (js[i]'hlt) = t ++ op :: outL f 0 ((outsJ js).take (i + 1)) := by rw [HT1E.out, outL_take f _ i _ HXS.out]; simp
                refine ⟨by rw [← e1]; exact h3, ?_, HF2.out.trans ⟨hb3, hk3, hb3.size⟩⟩
                rw [← e1, List.length_append]; exact hl3)
              clear hl3 h3 hb3 hk3 hv
              go_wp2
              exact ⟨⟨i + 1, by omega, rfl, HI3⟩, by simp [intOf]; omega⟩
            · have HK : Hid (262144 < t.length + o.length) := Lib.hid (long_of (e := outL f (0 + ((outsJ js).take (i + 1)).length) ((outsJ js).drop (i + 1)) ++ [sh]) hl3 (by
                rw [HT1E.out, ← HO.out, outL_rest f (outsJ js) (i + 1), outL_take f _ i _ HXS.out]; simp))
              have HB3 := Lib.hid (HF2.out.trans hb3)
              clear hl3 hb3 hv
              go_wp2_with fail
              exact ⟨rfl, Or.inr ⟨HK.out, rfl, HB3.out⟩⟩
          · have HK : Hid (262144 < t.length + o.length) := Lib.hid (long_of (e := outJ (js[i]'hlt) ++ outL f (0 + ((outsJ js).take (i + 1)).length) ((outsJ js).drop (i + 1)) ++ [sh]) hl2 (by
              rw [HT1E.out, ← HO.out, outL_rest f (outsJ js) (i + 1), outL_take f _ i _ HXS.out]; simp))
            have HB2 := Lib.hid (HF1.out.trans hb2)
            clear hl2 hb2 hel
            go_wp2_with fail
            exact ⟨rfl, Or.inr ⟨HK.out, rfl, HB2.out⟩⟩
        · have hgt : (0 : Int) < (i : Int) := by omega
          have hgt2 : decide ((0 : Int) < (i : Int)) = true := by simp; omega
          have hpc := put_any B b _ ⟨#[44]⟩ w4 HP4.out (Nat.le_trans HB0.out HF4.out.2.2) HT4.out
          have HI0' := Lib.hid hi0
          clear hi0
          go_wp2_with fail
          refine hpc.mono ?_
          rintro e w5 (⟨hl5, rfl, h5, hb5, hk5⟩ | ⟨hl5, rfl, hb5⟩)
          · have HF1 : Hid (Fr B b W w5) := Lib.hid (HF4.out.trans ⟨hb5, hk5, hb5.size⟩)
            have HBX1 : Hid (w5.heap[wr.heap.size]? = some (.cells #[(.int .u8 (kd : Nat)), (.string tx), (.slice pc nc cc), (.slice pe ne ce)] 47 (0, 0))) := Lib.hid (box_keep HBX4.out HNb.out hk5)
            obtain ⟨T1, hT1⟩ : ∃ T1, (t ++ op :: outL f 0 ((outsJ js).take i)) ++ (⟨#[44]⟩ : ByteArray).data.toList = T1 := ⟨_, rfl⟩
            have HT1E : Hid (T1 = (t ++ op :: outL f 0 ((outsJ js).take i)) ++ (if i = 0 then [] else [44])) := Lib.hid (by rw [if_neg HI0'.out, ← hT1])
            have HT1 : Hid (T1.length ≤ 262144) := Lib.hid (by rw [← hT1, List.length_append]; exact hl5)
            have HP1 : Hid (PrAt B b T1 w5) := Lib.hid (by rw [← hT1]; exact h5)
            clear hl5 h5 hb5 hk5 hpc hT1
            have hel := HEl.out i T1 w5 hlt HP1.out (Nat.le_trans HB0.out HF1.out.2.2) HT1.out (HSt.out _ _ HST.out HF1.out.2.2 HF1.out.1 HF1.out.2.1)
            go_wp2_with fail
            refine hel.mono ?_
            rintro e w2 (⟨hl2, rfl, h2, hb2, hk2⟩ | ⟨hl2, rfl, hb2⟩)
            · have HF2 : Hid (Fr B b W w2) := Lib.hid (HF1.out.trans ⟨hb2, hk2, hb2.size⟩)
              have HBX2 : Hid (w2.heap[wr.heap.size]? = some (.cells #[(.int .u8 (kd : Nat)), (.string tx), (.slice pc nc cc), (.slice pe ne ce)] 47 (0, 0))) := Lib.hid (box_keep HBX1.out HNb.out hk2)
              have HP2 := Lib.hid h2
              have HT2 : Hid ((T1 ++ f i).length ≤ 262144) := Lib.hid (by rw [List.length_append]; exact hl2)
              clear hl2 h2 hb2 hk2 hel
              obtain ⟨n0, n1, n2, n3⟩ : w2.cell? ⟨wr.heap.size, 0, none⟩ = some (.int .u8 (kd : Nat)) ∧ w2.cell? ⟨wr.heap.size, 1, none⟩ = some (.string tx) ∧ w2.cell? ⟨wr.heap.size, 2, none⟩ = some (.slice pc nc cc) ∧ w2.cell? ⟨wr.heap.size, 3, none⟩ = some (.slice pe ne ce) :=
                ⟨by rw [cellH HBX2.out]; rfl, by rw [cellH HBX2.out]; rfl, by rw [cellH HBX2.out]; rfl, by rw [cellH HBX2.out]; rfl⟩
              have hv := HV.out i _ [(.int .u8 (kd : Nat)), (.string tx), (.slice pc nc cc), (.slice pe ne ce)] (T1 ++ f i) w2 HU.out (JAt.world (HF2.out.stays) _ _ HX.out) HP2.out (Nat.le_trans HB0.out HF2.out.2.2) HT2.out
              rw [show ([(.int .u8 (kd : Nat)), (.string tx), (.slice pc nc cc), (.slice pe ne ce)] : List Value).toArray = #[(.int .u8 (kd : Nat)), (.string tx), (.slice pc nc cc), (.slice pe ne ce)] from rfl] at hv
              go_wp2_with fail
              refine hv.mono ?_
              rintro e w3 (⟨hl3, rfl, h3, hb3, hk3⟩ | ⟨hl3, rfl, hb3⟩)
              · have HI3 : Hid (LP B b W t op f (outsJ js) (i + 1) w3) := Lib.hid (by
                  have e1 : (T1 ++ f i) ++ outJ (js[i]'hlt) = t ++ op :: outL f 0 ((outsJ js).take (i + 1)) := by rw [HT1E.out, outL_take f _ i _ HXS.out]; simp
                  refine ⟨by rw [← e1]; exact h3, ?_, HF2.out.trans ⟨hb3, hk3, hb3.size⟩⟩
                  rw [← e1, List.length_append]; exact hl3)
                clear hl3 h3 hb3 hk3 hv
                go_wp2
                exact ⟨⟨i + 1, by omega, rfl, HI3⟩, by simp [intOf]; omega⟩
              · have HK : Hid (262144 < t.length + o.length) := Lib.hid (long_of (e := outL f (0 + ((outsJ js).take (i + 1)).length) ((outsJ js).drop (i + 1)) ++ [sh]) hl3 (by
                  rw [HT1E.out, ← HO.out, outL_rest f (outsJ js) (i + 1), outL_take f _ i _ HXS.out]; simp))
                have HB3 := Lib.hid (HF2.out.trans hb3)
                clear hl3 hb3 hv
                go_wp2_with fail
                exact ⟨rfl, Or.inr ⟨HK.out, rfl, HB3.out⟩⟩
            · have HK : Hid (262144 < t.length + o.length) := Lib.hid (long_of (e := outJ (js[i]'hlt) ++ outL f (0 + ((outsJ js).take (i + 1)).length) ((outsJ js).drop (i + 1)) ++ [sh]) hl2 (by
                rw [HT1E.out, ← HO.out, outL_rest f (outsJ js) (i + 1), outL_take f _ i _ HXS.out]; simp))
              have HB2 := Lib.hid (HF1.out.trans hb2)
              clear hl2 hb2 hel
              go_wp2_with fail
              exact ⟨rfl, Or.inr ⟨HK.out, rfl, HB2.out⟩⟩
          · have HK : Hid (262144 < t.length + o.length) := Lib.hid (long_of (e := f i ++ outJ (js[i]'hlt) ++ outL f (0 + ((outsJ js).take (i + 1)).length) ((outsJ js).drop (i + 1)) ++ [sh]) hl5 (by
              rw [← HO.out, outL_rest f (outsJ js) (i + 1), outL_take f _ i _ HXS.out, if_neg HI0'.out]; simp))
            have HB5 := Lib.hid (HF4.out.trans hb5)
            clear hl5 hb5 hpc
            go_wp2_with fail
            exact ⟨rfl, Or.inr ⟨HK.out, rfl, HB5.out⟩⟩
      · obtain rfl : i = js.length := by omega
        have hlt' : ¬ (js.length : Int) < (js.length : Int) := by omega
        have htk : (outsJ js).take js.length = outsJ js := List.take_of_length_le (by rw [outsJ_map, List.length_map]; exact Nat.le_refl _)
        have hI := HI.out
        unfold LP at hI
        rw [htk] at hI
        have hps := put_any B b _ ⟨#[sh]⟩ wr hI.1 (Nat.le_trans HB0.out hI.2.2.2.2) hI.2.1
        have HFR := Lib.hid hI.2.2
        have HE1 : Hid ((t ++ op :: outL f 0 (outsJ js)) ++ (⟨#[sh]⟩ : ByteArray).data.toList = t ++ o) := Lib.hid (by rw [← HO.out]; simp)
        clear hI htk
        go_wp2_with fail
        refine hps.mono ?_
        rintro e w5 (⟨hl5, rfl, h5, hb5, hk5⟩ | ⟨hl5, rfl, hb5⟩)
        · have HK : Hid (PutEnd B b t o W (.returned (.tuple #[])) w5) := Lib.hid (.inl ⟨by
            have := congrArg List.length HE1.out
            have e2 : (t ++ o).length = t.length + o.length := List.length_append; rw [e2, List.length_append] at this; omega, rfl, by rw [← HE1.out]; exact h5, HFR.out.1.trans hb5, HFR.out.2.1.trans hk5 HFR.out.2.2⟩)
          clear hl5 h5 hb5 hk5 hps
          go_wp2
          go_end0
          exact HK.out
        · have HK : Hid (262144 < t.length + o.length) := Lib.hid (by
            have := congrArg List.length HE1.out
            have e2 : (t ++ o).length = t.length + o.length := List.length_append; rw [e2, List.length_append] at this; omega)
          have HB5 := Lib.hid (HFR.out.trans hb5)
          clear hl5 hb5 hps
          go_wp2_with fail
          exact ⟨rfl, Or.inr ⟨HK.out, rfl, HB5.out⟩⟩
  · clear hp1
    go_wp2_with fail
    refine ⟨rfl, Or.inr ⟨?_, rfl, hb1⟩⟩
    rw [← HO.out]
    simp at hl1 ⊢
    omega
end Go.Proofs.YtgcpgieojckheaaGreatDoor.Json
namespace Go.Proofs.YtgcpgieojckheaaGreatDoor.Json
open Go.RowKit Go.Shelf

theorem ahead_arr (B b : Nat) (i : Nat) (t : List UInt8) (w : World) (h : PrAt B b t w) (ht : t.length ≤ 262144) : Calls Tryz.prog 99 #[.int .i64 i] w (PutEnd B b t [] w) := by
  go_enter Tryz.func99, Tryz.ntmps99
  go_wp2
  go_end0
  exact .inl ⟨by simpa using ht, rfl, by simpa using h, Below.refl _ _, Kp.refl _ _⟩
/-- What the closure of an Object holds. -/
def ObSt (B b PB JB : Nat) (kd : Nat) (tx : ByteArray) (pc : Option Addr) (ns : List (List UInt8)) (cc : Nat) (pd : Option Addr) (nd cd : Nat) (w : World) : Prop :=
  w.heap[PB]? = some (.cells #[.pointer (some ⟨b, 0, none⟩)] 91 (0, 0)) ∧ PB ≠ b ∧ w.heap[JB]? = some (.cells #[.int .u8 kd, .string tx, .slice pc ns.length cc, .slice pd nd cd] 47 (0, 0)) ∧ JB ≠ b ∧ SlIn (· < B) w (.slice pc ns.length cc) 1 ns.length (ns.map bl)
theorem ObSt.keep {B b PB JB kd : Nat} {tx : ByteArray} {pc : Option Addr} {ns : List (List UInt8)} {cc : Nat} {pd : Option Addr} {nd cd : Nat} {w w' : World} (h : ObSt B b PB JB kd tx pc ns cc pd nd cd w)
    (hs : w.heap.size ≤ w'.heap.size) (hb : Below B w w') (hk : Kp b w w') : ObSt B b PB JB kd tx pc ns cc pd nd cd w' := by
  obtain ⟨h1, h2, h3, h4, h5⟩ := h
  refine ⟨(hk PB (Array.getElem?_eq_some_iff.1 h1).1 h2 (fun c2 fz e => ?_)).trans h1, h2, box_keep h3 h4 hk, h4, h5.world ⟨hs, fun k _ hk => hb.block k hk⟩⟩
  rw [h1] at e; injection e with e; injection e with _ e _; exact absurd e (by decide)
theorem Fr.ofDrew (B b : Nat) (w : World) : Fr B b w w.drew := ⟨(Below.refl _ w).drew, Kp.below (Below.refl _ w).drew, Nat.le_refl _⟩
theorem bp_put {B b : Nat} {W w1 : World} {t o : List UInt8} (h : 262144 < t.length + o.length) (hb : Fr B b W w1) (tm : Array Value) :
    bodyPost Tryz.prog Tryz.f100 (PutEnd B b t o W) (Exit.panic [{ v := .iface 23 (.int .i64 40), recovered := false }]) { tmps := tm, defers := [] } w1 := ⟨rfl, Or.inr ⟨h, rfl, hb⟩⟩
theorem fake2 {a : Array Value} (h : Hid False) (w : World) : Calls Tryz.prog 97 a w fun e _ => e = .returned (.tuple #[]) := h.out.elim
set_option maxHeartbeats 4000000 in
set_option maxRecDepth 100000 in
theorem ahead_obj (B b PB JB : Nat) (kd : Nat) (tx : ByteArray) (pc : Option Addr) (ns : List (List UInt8)) (cc : Nat) (pd : Option Addr) (nd cd : Nat) (i : Nat) (t : List UInt8) (w : World)
    (hi : i < ns.length) (hn : ∀ n ∈ ns, n.length ≤ 1000000) (h : PrAt B b t w) (hB : B ≤ w.heap.size) (ht : t.length ≤ 262144) (hst : ObSt B b PB JB kd tx pc ns cc pd nd cd w) :
    Calls Tryz.prog 100 #[.int .i64 i, .pointer (some ⟨PB, 0, none⟩), .pointer (some ⟨JB, 0, none⟩)] w (PutEnd B b t (quoteJ (ns.getD i []) ++ [58]) w) := by
  obtain ⟨h1, h2, h3, h4, h5⟩ := hst
  have hu := List.getElem?_eq_getElem hi
  have hgd : ns.getD i [] = ns[i] := by rw [List.getD_eq_getElem?_getD, hu]; rfl
  rw [hgd]
  obtain ⟨g1, o1, rfl, hx1⟩ := h5.cellAt (by omega)
  have k1 : w.cell? ⟨g1, o1 + i, none⟩ = some (bl (ns[i])) := hx1 i _ (by rw [List.getElem?_map, hu]; rfl)
  have hnl : (ns[i]).length ≤ 1000000 := hn _ (List.getElem_mem hi)
  generalize ns[i] = nm at *
  have p1 : w.cell? ⟨PB, 0, none⟩ = some (.pointer (some ⟨b, 0, none⟩)) := by rw [Lib.cell_of_heap h1]; rfl
  have j1 : w.cell? ⟨JB, 2, none⟩ = some (.slice (some ⟨g1, o1, none⟩) ns.length cc) := by rw [cellH h3]; rfl
  have hlt' : (i : Int) < (ns.length : Int) := by omega
  have h0 : (0 : Int) ≤ (i : Int) := by omega
  have hcall := pquoted_any B b t ⟨nm.toArray⟩ w.drew (h.keep (Below.refl _ w).drew) hB ht (by rw [Lib.size_eq]; simpa using hnl)
  have hml : (⟨nm.toArray⟩ : ByteArray).data.toList = nm := by simp
  rw [hml] at hcall
  unfold bl at k1
  have HST : Hid (w.heap[PB]? = some (.cells #[.pointer (some ⟨b, 0, none⟩)] 91 (0, 0))) := Lib.hid h1
  have HB := Lib.hid hB
  have H2 := Lib.hid h2
  clear h1 h3 h4 h5 hx1 hu hn h ht hgd hi hB h2
  by_cases hfit : t.length + (quoteJ nm).length ≤ 262144
  · have hcall2 := hcall.mono (R' := fun e w' => e = .returned (.tuple #[]) ∧ PrAt B b (t ++ quoteJ nm) w' ∧ Below B w.drew w' ∧ Kp b w.drew w') (by
      rintro e w3 (⟨_, h⟩ | ⟨hl, _⟩)
      · exact h
      · omega)
    clear hcall
    go_enter Tryz.func100, Tryz.ntmps100
    go_wp2_with fail
    go_region_law (first | (go_simp; go_at_call 97; with_reducible (refine Calls.mono hcall2 ?_); rintro e w3 ⟨rfl, h3, hb3, hk3⟩))
    all_goals
      have HF3 : Hid (Fr B b w w3) := Lib.hid ((show Fr B b w w.drew from ⟨(Below.refl _ w).drew, Kp.below (Below.refl _ w).drew, Nat.le_refl _⟩).trans ⟨hb3, hk3, hb3.size⟩)
      have p3 : w3.cell? ⟨PB, 0, none⟩ = some (.pointer (some ⟨b, 0, none⟩)) := by
        have := (HF3.out.2.1 PB (Array.getElem?_eq_some_iff.1 HST.out).1 H2.out (fun c2 fz e => by
          have h1 := HST.out
          rw [h1] at e; injection e with e; injection e with _ e _; exact absurd e (by decide))).trans HST.out
        rw [Lib.cell_of_heap this]; rfl
      have hp := put_any B b _ ⟨#[58]⟩ w3 h3 (Nat.le_trans HB.out HF3.out.2.2) (by rw [List.length_append]; exact hfit)
      clear h3 hb3 hk3 p1 j1 k1 hcall2
      go_wp2_with fail
      refine hp.mono ?_
      rintro e w5 (⟨hl5, rfl, h5, hb5, hk5⟩ | ⟨hl5, rfl, hb5⟩)
      · have HK : Hid (PutEnd B b t (quoteJ nm ++ [58]) w (.returned (.tuple #[])) w5) := Lib.hid (.inl ⟨by
          have e2 : (⟨#[58]⟩ : ByteArray).data.toList.length = 1 := rfl
          rw [e2, List.length_append] at hl5
          rw [List.length_append]; simpa [Nat.add_assoc] using hl5, rfl, by rw [← List.append_assoc]; exact h5, HF3.out.1.trans hb5, HF3.out.2.1.trans hk5 HF3.out.2.2⟩)
        clear hl5 h5 hb5 hk5 hp p3
        go_wp2
        go_end0
        exact HK.out
      · have HK : Hid (262144 < t.length + (quoteJ nm ++ [58]).length) := Lib.hid (by
          have e2 : (⟨#[58]⟩ : ByteArray).data.toList.length = 1 := rfl
          rw [e2, List.length_append] at hl5
          rw [List.length_append]; simpa [Nat.add_assoc] using hl5)
        have HB5 := Lib.hid (HF3.out.trans hb5)
        clear hl5 hb5 hp p3
        go_wp2_with fail
        exact ⟨rfl, Or.inr ⟨HK.out, rfl, HB5.out⟩⟩
  · have hcall2 := hcall.mono (R' := fun e w' => e = .panicked [{ v := .iface 23 (.int .i64 40), recovered := false }] ∧ Fr B b w.drew w') (by
      rintro e w3 (⟨hl, _⟩ | ⟨_, h⟩)
      · omega
      · exact h)
    have HK : Hid (262144 < t.length + (quoteJ nm ++ [58]).length) := Lib.hid (by rw [List.length_append]; omega)
    clear hcall
    go_enter Tryz.func100, Tryz.ntmps100
    go_wp2_with fail
    go_region_law (first | (go_simp; go_at_call 97; with_reducible (refine calls_or hcall2 ?_ ?_); (· rintro e w3 ⟨rfl, hb3⟩; exact bp_put HK.out (Fr.trans (Fr.ofDrew B b w) hb3) _); intro HF; with_reducible (refine Calls.mono (fake2 HF w.drew) ?_); intro e w3 he; subst he))
    all_goals exact HF.out.elim
end Go.Proofs.YtgcpgieojckheaaGreatDoor.Json
