/-
  The reference's take of one byte; its escape.
-/
import Derived.Test.YtgcpgieojckheaaGreatDoorMgKA
import Derived.Test.YtgcpgieojckheaaGreatDoorMgJL
namespace Go.Proofs.YtgcpgieojckheaaGreatDoor.Json
open Go.RowKit Go.Shelf

theorem rtake_yes (W : World) (b : Nat) (s : ByteArray) (p : List UInt8) (x n : Nat) (r : List UInt8) (h : RAt W b s x n 0) (hz : s.size ≤ 1000000) (hp : p.length ≤ 10) (hd : s.data.toList.drop x = p ++ r) (hx : x ≤ s.size) :
    Calls Tryz.prog 106 #[.pointer (some ⟨b, 0, none⟩), .string ⟨p.toArray⟩] W fun e w' => e = .returned (.bool true) ∧ RAt w' b s (x + p.length) n 0 ∧ But b W w' := by
  have hps : (⟨p.toArray⟩ : ByteArray).size = p.length := by rw [Lib.size_eq]
  have hl := congrArg List.length hd
  rw [List.length_drop, ← Lib.size_eq, List.length_append] at hl
  have := take_yes W b s ⟨p.toArray⟩ x n h hz (by omega) (by omega) (by rw [hps, hd, List.take_left])
  rw [hps] at this
  exact this
theorem rtake_no (W : World) (b : Nat) (s : ByteArray) (p : List UInt8) (x n : Nat) (h : RAt W b s x n 0) (hx : x ≤ s.size) (hz : s.size ≤ 1000000) (hp : p.length ≤ 10) (hd : ∀ r, s.data.toList.drop x ≠ p ++ r) :
    Calls Tryz.prog 106 #[.pointer (some ⟨b, 0, none⟩), .string ⟨p.toArray⟩] W fun e w' => e = .returned (.bool false) ∧ Below W.heap.size W w' := by
  have hps : (⟨p.toArray⟩ : ByteArray).size = p.length := by rw [Lib.size_eq]
  rcases Nat.lt_or_ge s.size (x + p.length) with g | g
  · exact take_short W b s ⟨p.toArray⟩ x n h hx hz (by omega) (by omega)
  · refine take_no W b s ⟨p.toArray⟩ x n h hz (by omega) (by omega) fun e => ?_
    rw [hps] at e
    exact hd ((s.data.toList.drop x).drop p.length) (by
      have e : (s.data.toList.drop x).take p.length = p := e
      have h2 := List.take_append_drop p.length (s.data.toList.drop x)
      rw [e] at h2; exact h2.symm)
def frB (i : Nat) : UInt8 := [34, 92, 47, 98, 102, 110, 114, 116].getD i 0
def toB (i : Nat) : UInt8 := [34, 92, 47, 8, 12, 10, 13, 9].getD i 0
theorem meant_fr : ∀ i, i < 8 → meant (frB i) = some (toB i) := by
  intro i hi
  have : ∀ i : Fin 8, meant (frB i.val) = some (toB i.val) := by decide
  exact this ⟨i, hi⟩
theorem meant_no (c : UInt8) (h : ∀ j, j < 8 → frB j ≠ c) : meant c = none := by
  have h0 := h 0 (by omega); have h1 := h 1 (by omega); have h2 := h 2 (by omega); have h3 := h 3 (by omega)
  have h4 := h 4 (by omega); have h5 := h 5 (by omega); have h6 := h 6 (by omega); have h7 := h 7 (by omega)
  unfold meant
  rw [if_neg (fun e => h0 e.symm), if_neg (fun e => h1 e.symm), if_neg (fun e => h2 e.symm), if_neg (fun e => h3 e.symm), if_neg (fun e => h4 e.symm), if_neg (fun e => h5 e.symm), if_neg (fun e => h6 e.symm), if_neg (fun e => h7 e.symm)]
def frO : Obj := .cells #[.string ⟨#[34]⟩, .string ⟨#[92]⟩, .string ⟨#[47]⟩, .string ⟨#[98]⟩, .string ⟨#[102]⟩, .string ⟨#[110]⟩, .string ⟨#[114]⟩, .string ⟨#[116]⟩] 9
def toO : Obj := .cells #[.string ⟨#[34]⟩, .string ⟨#[92]⟩, .string ⟨#[47]⟩, .string ⟨#[8]⟩, .string ⟨#[12]⟩, .string ⟨#[10]⟩, .string ⟨#[13]⟩, .string ⟨#[9]⟩] 9
theorem fr_cell {w : World} {F i : Nat} (h : w.heap[F]? = some frO) (hi : i < 8) : w.cell? ⟨F, i, none⟩ = some (.string ⟨#[frB i]⟩) := by
  rw [cellH h]
  match i, hi with
  | 0, _ => rfl
  | 1, _ => rfl
  | 2, _ => rfl
  | 3, _ => rfl
  | 4, _ => rfl
  | 5, _ => rfl
  | 6, _ => rfl
  | 7, _ => rfl
theorem to_cell {w : World} {F i : Nat} (h : w.heap[F]? = some toO) (hi : i < 8) : w.cell? ⟨F, i, none⟩ = some (.string ⟨#[toB i]⟩) := by
  rw [cellH h]
  match i, hi with
  | 0, _ => rfl
  | 1, _ => rfl
  | 2, _ => rfl
  | 3, _ => rfl
  | 4, _ => rfl
  | 5, _ => rfl
  | 6, _ => rfl
  | 7, _ => rfl
/-- What an escape ends in. -/
def REsc (W : World) (b : Nat) (s : ByteArray) (x n : Nat) : Option (List UInt8 × List UInt8) → Ending → World → Prop
  | some (t, r), e, w' => ∃ k, x ≤ k ∧ k ≤ s.size ∧ r = s.data.toList.drop k ∧ e = .returned (bl t) ∧ RAt w' b s k n 0 ∧ But b W w'
  | none, e, w' => ∃ (k : Nat) (t : ByteArray), e = .returned (.string t) ∧ t.size ≤ 4 ∧ RAt w' b s k n 4 ∧ But b W w'
/-- Behind the first unit. -/
def unitsB (a : Nat) (r : List UInt8) : Option (List UInt8 × List UInt8) :=
  if (Utf.putB a).size ≠ 0 then some ((Utf.putB a).data.toList, r)
  else match (generalizing := false) r with
    | 92 :: 117 :: r2 =>
      match unit4 r2 with
      | none => none
      | some (b, r3) => if Utf.pairQ a b then some ((Utf.putB (Utf.pairP a b)).data.toList, r3) else none
    | _ => none
theorem units_b (l : List UInt8) : units l = match unit4 l with | none => none | some (a, r) => unitsB a r := by
  unfold units
  cases unit4 l with
  | none => rfl
  | some p => rfl
theorem unitsB_put {a : Nat} {r : List UInt8} (h : (Utf.putB a).size ≠ 0) : unitsB a r = some ((Utf.putB a).data.toList, r) := by unfold unitsB; rw [if_pos h]
theorem unitsB_two {a : Nat} {r2 : List UInt8} (h : (Utf.putB a).size = 0) : unitsB a (92 :: 117 :: r2) = match unit4 r2 with | none => none | some (b, r3) => if Utf.pairQ a b then some ((Utf.putB (Utf.pairP a b)).data.toList, r3) else none := by
  unfold unitsB; rw [if_neg (fun e => e h)]; rfl
theorem unitsB_no {a : Nat} {r : List UInt8} (h : (Utf.putB a).size = 0) (hr : ∀ r2, r ≠ 92 :: 117 :: r2) : unitsB a r = none := by
  unfold unitsB; rw [if_neg (fun e => e h)]
  split
  · rename_i r2; exact absurd rfl (hr _)
  · rfl
theorem escR_u (r : List UInt8) : escR (117 :: r) = units r := rfl
theorem escR_fr {i : Nat} (hi : i < 8) (r : List UInt8) : escR (frB i :: r) = some ([toB i], r) := by
  unfold escR; simp only; rw [meant_fr i hi]
theorem escR_none {l : List UInt8} (h : ∀ j, j < 8 → ∀ r, l ≠ frB j :: r) (hu : ∀ r, l ≠ 117 :: r) : escR l = none := by
  cases l with
  | nil => rfl
  | cons c r =>
    unfold escR
    simp only
    rw [meant_no c (fun j hj e => h j hj r (by rw [e]))]
    simp only
    rw [if_neg (fun e => hu r (by rw [e]))]
theorem putB_few (p : Int) : (Utf.putB p).size ≤ 4 := by rw [Lib.size_eq]; exact putB_le p
theorem putB_bl (p : Int) : bl (Utf.putB p).data.toList = .string (Utf.putB p) := by
  unfold bl; congr 1
theorem putB_zero : 0 < (Utf.putB ((0 : Nat) : Int)).size := by decide +kernel
theorem RAt.other {W : World} {b B : Nat} {s : ByteArray} {x n o : Nat} {e : Int} {v : Value} (h : RAt W b s x n e) (hB : b ≠ B) : RAt (W.setCell ⟨B, o, none⟩ v) b s x n e := ((Only.set B W o v).block b hB).trans h
set_option maxRecDepth 100000 in
set_option maxHeartbeats 8000000 in
theorem rescape_any (W : World) (b : Nat) (s : ByteArray) (x n : Nat) (h : RAt W b s x n 0) (hx : x ≤ s.size) (hz : s.size ≤ 1000000) :
    Calls Tryz.prog 154 #[.pointer (some ⟨b, 0, none⟩)] W (REsc W b s x n (escR (s.data.toList.drop x))) := by
  obtain ⟨V, hV⟩ : ∃ V, escR (s.data.toList.drop x) = V := ⟨_, rfl⟩
  rw [hV]
  have hblt := h.lt
  obtain ⟨W2, hW2⟩ : ∃ W2, (W.alloc (Obj.cells #[.string ⟨#[34]⟩, .string ⟨#[92]⟩, .string ⟨#[47]⟩, .string ⟨#[98]⟩, .string ⟨#[102]⟩, .string ⟨#[110]⟩, .string ⟨#[114]⟩, .string ⟨#[116]⟩] 9)).alloc (Obj.cells #[.string ⟨#[34]⟩, .string ⟨#[92]⟩, .string ⟨#[47]⟩, .string ⟨#[8]⟩, .string ⟨#[12]⟩, .string ⟨#[10]⟩, .string ⟨#[13]⟩, .string ⟨#[9]⟩] 9) = W2 := ⟨_, rfl⟩
  have hb2 : Below W.heap.size W W2 := by rw [← hW2]; exact galloc (galloc (Below.refl _ _) _) _
  have hF2 : W2.heap[W.heap.size]? = some frO := by rw [← hW2]; exact ((galloc (Below.refl _ (W.alloc _)) _).block _ (by simp)).trans (World.alloc_heap_new W _)
  have hO2 : W2.heap[W.heap.size + 1]? = some toO := by
    have := World.alloc_heap_new (W.alloc frO) toO
    rw [World.size_alloc] at this
    rw [← hW2]; exact this
  have hs2 : W2.heap.size = W.heap.size + 2 := by rw [← hW2]; simp
  obtain ⟨F, hF⟩ : ∃ F, W.heap.size = F := ⟨_, rfl⟩
  rw [hF] at hF2 hO2 hs2
  have hlt1 : F < W2.heap.size := by omega
  have hlt2 : F + 1 < W2.heap.size := by omega
  have HP2 := Lib.hid (h.below hb2)
  have HB2 := Lib.hid (But.of (b := b) hb2)
  have HF := Lib.hid hF
  have HF2 := Lib.hid hF2
  have HO2 := Lib.hid hO2
  have HW2 := Lib.hid hW2
  have HV := Lib.hid hV
  clear hV h hb2 hF2 hO2 hs2 hF hW2
  go_enter Tryz.func154, Tryz.ntmps154
  go_wp2_with fail
  rw [HW2.out, HF.out]
  go_loopw [5] (fun iv wr => ∃ i : Nat, i ≤ 8 ∧ iv = .int .i64 i ∧ Hid (RAt wr b s x n 0) ∧ Hid (Below W2.heap.size W2 wr) ∧ Hid (∀ j, j < i → ∀ r, s.data.toList.drop x ≠ frB j :: r)) (fun iv _ => 8 - (intOf iv).toNat)
  case atStart => exact ⟨0, by omega, rfl, HP2, Lib.hid (Below.refl _ _), Lib.hid (fun j hj => by omega)⟩
  case round =>
    obtain ⟨i, hi, rfl, HP, HB, HN⟩ := hrel
    rcases Nat.lt_or_ge i 8 with hlt | hge
    · have hlt' : (i : Int) < 8 := by omega
      have hwi : IntKind.i64.wrap ((i : Int) + 1) = ((i + 1 : Nat) : Int) := by rw [IntWalk.i64_in _ (by omega)]; omega
      have cF := fr_cell ((HB.out.block F hlt1).trans HF2.out) hlt
      by_cases hq : ∃ r, s.data.toList.drop x = frB i :: r
      · obtain ⟨r, hr⟩ := hq
        have ht := rtake_yes wr b s [frB i] x n r HP.out hz (by simp) hr hx
        have hdc := drop_cons hr
        have hx1 : x + 1 ≤ s.size := by have := hdc.1; rw [← Lib.size_eq] at this; omega
        have HVS : Hid (V = some ([toB i], s.data.toList.drop (x + 1))) := Lib.hid (by rw [← HV.out, hr, escR_fr hlt, ← hdc.2.2])
        have HT := Lib.hid (to_cell (i := i) ((HB.out.block (F + 1) hlt2).trans HO2.out) hlt)
        clear hr hdc HV
        rw [show (⟨[frB i].toArray⟩ : ByteArray) = ⟨#[frB i]⟩ from rfl] at ht
        generalize (⟨#[frB i]⟩ : ByteArray) = QF at cF ht
        go_wp2_with fail
        refine ht.mono ?_
        rintro e w1 ⟨rfl, hP1, hb1⟩
        have cT : w1.cell? ⟨F + 1, i, none⟩ = some (.string ⟨#[toB i]⟩) := (World.cell?_of_block (a := ⟨F + 1, i, none⟩) (hb1.block (F + 1) (by have := HB.out.size; omega) (by have := HF.out; omega))).trans HT.out
        have HP1 := Lib.hid hP1
        have HB1 := Lib.hid ((HB2.out.trans (But.of (HB.out))).trans hb1)
        have HQ : Hid (bl [toB i] = .string ⟨#[toB i]⟩) := Lib.hid rfl
        generalize (⟨#[toB i]⟩ : ByteArray) = QT at cT HQ
        clear hP1 hb1 ht HT
        go_wp2
        go_ret
        rw [HVS.out]
        exact ⟨x + 1, by omega, hx1, rfl, by rw [HQ.out]; rfl, HP1.out, HB1.out⟩
      · have ht := rtake_no wr b s [frB i] x n HP.out hx hz (by simp) (fun r hr => hq ⟨r, hr⟩)
        have HN2 : Hid (∀ j, j < i + 1 → ∀ r, s.data.toList.drop x ≠ frB j :: r) := Lib.hid (fun j hj r hr => by
          rcases Nat.lt_or_ge j i with g | g
          · exact HN.out j g r hr
          · have e : j = i := by omega
            subst e; exact hq ⟨r, hr⟩)
        rw [show (⟨[frB i].toArray⟩ : ByteArray) = ⟨#[frB i]⟩ from rfl] at ht
        generalize (⟨#[frB i]⟩ : ByteArray) = QF at cF ht
        clear hq
        go_wp2_with fail
        refine ht.mono ?_
        rintro e w1 ⟨rfl, hb1⟩
        have HP1 := Lib.hid (HP.out.below hb1)
        have HB1 := Lib.hid (gcall HB.out hb1)
        clear hb1 ht
        go_wp2
        exact ⟨⟨i + 1, by omega, rfl, HP1, HB1, HN2⟩, by simp [intOf]; omega⟩
    · obtain rfl : i = 8 := by omega
      have hlt' : ¬ (((8 : Nat) : Int)) < 8 := by omega
      by_cases hq : ∃ r, s.data.toList.drop x = 117 :: r
      · obtain ⟨r, hr⟩ := hq
        have ht := rtake_yes wr b s [117] x n r HP.out hz (by simp) hr hx
        have hdc := drop_cons hr
        have hx1 : x + 1 ≤ s.size := by have := hdc.1; rw [← Lib.size_eq] at this; omega
        have HV2 : Hid ((match unit4 (s.data.toList.drop (x + 1)) with | none => none | some (a, r) => unitsB a r) = V) := Lib.hid (by rw [← HV.out, hr, escR_u, units_b, ← hdc.2.2])
        clear hr hdc HV HN
        go_wp2_with fail
        refine ht.mono ?_
        rintro e w1 ⟨rfl, hP1, hb1⟩
        have HP1 := Lib.hid hP1
        have HB1 := Lib.hid ((HB2.out.trans (But.of HB.out)).trans hb1)
        clear hP1 hb1 ht
        go_wp2_with fail
        refine (runit_any w1 b s (x + 1) n HP1.out hx1 hz).mono ?_
        intro e w2 h2
        cases hu : unit4 (s.data.toList.drop (x + 1)) with
        | none =>
          rw [hu] at h2
          obtain ⟨k2, rfl, hP2, hb2⟩ := h2
          have HVN : Hid (V = none) := Lib.hid (by rw [← HV2.out, hu])
          have HP3 := Lib.hid hP2
          have HB3 := Lib.hid (HB1.out.trans hb2)
          have hput := Utf.rput_any ((0 : Nat) : Int) w2
          have hemp : (Utf.putB ((0 : Nat) : Int)).toList.isEmpty = false := Utf.isEmpty_no putB_zero
          have hfew := putB_few ((0 : Nat) : Int)
          generalize Utf.putB ((0 : Nat) : Int) = Q at hput hemp hfew
          clear hu hP2 hb2 HV2
          go_wp2_with fail
          refine hput.mono ?_
          rintro e w3 ⟨rfl, hb3⟩
          have HP4 := Lib.hid (HP3.out.below hb3)
          have HB4 := Lib.hid (HB3.out.trans (But.of hb3))
          clear hput hb3
          go_wp2
          go_ret
          rw [HVN.out]
          exact ⟨k2, Q, rfl, hfew, HP4.out, HB4.out⟩
        | some p =>
          obtain ⟨a, r2⟩ := p
          rw [hu] at h2
          obtain ⟨rfl, hx5, hr2, hP2, hb2⟩ := h2
          have HV3 : Hid (unitsB a (s.data.toList.drop (x + 1 + 4)) = V) := Lib.hid (by rw [← HV2.out, hu, ← hr2])
          obtain ⟨k2, hk2⟩ : ∃ k2, x + 1 + 4 = k2 := ⟨_, rfl⟩
          rw [hk2] at hP2 HV3 hx5
          have hxk : x ≤ k2 := by omega
          have HP3 := Lib.hid hP2
          have HB3 := Lib.hid (HB1.out.trans hb2)
          have hput := Utf.rput_any (a : Int) w2
          clear hu hP2 hb2 HV2 hr2 hk2
          by_cases hp : (Utf.putB (a : Int)).size ≠ 0
          · have HV4 : Hid (V = some ((Utf.putB (a : Int)).data.toList, s.data.toList.drop k2)) := Lib.hid (by rw [← HV3.out, unitsB_put hp])
            have hemp : (Utf.putB (a : Int)).toList.isEmpty = false := Utf.isEmpty_no (by omega)
            have HQ := Lib.hid (putB_bl (a : Int))
            generalize Utf.putB (a : Int) = Q at hput hemp HV4 HQ
            clear HV3 hp
            go_wp2_with fail
            refine hput.mono ?_
            rintro e w3 ⟨rfl, hb3⟩
            have HP4 := Lib.hid (HP3.out.below hb3)
            have HB4 := Lib.hid (HB3.out.trans (But.of hb3))
            clear hput hb3
            go_wp2
            go_ret
            rw [HV4.out]
            exact ⟨k2, hxk, hx5, rfl, by rw [HQ.out]; rfl, HP4.out, HB4.out⟩
          · have hemp : (Utf.putB (a : Int)).toList.isEmpty = true := Utf.isEmpty_yes (Decidable.not_not.1 hp)
            have HP0 := Lib.hid (Decidable.not_not.1 hp)
            clear hp
            by_cases hq : ∃ r3, s.data.toList.drop k2 = 92 :: 117 :: r3
            · obtain ⟨r3, hr3⟩ := hq
              have HV4 : Hid ((match unit4 (s.data.toList.drop (k2 + 2)) with | none => none | some (b, r3) => if Utf.pairQ a b then some ((Utf.putB (Utf.pairP a b)).data.toList, r3) else none) = V) := Lib.hid (by
                have e3 : s.data.toList.drop (k2 + 2) = r3 := by rw [← List.drop_drop, hr3]; rfl
                rw [← HV3.out, hr3, unitsB_two HP0.out, e3])
              have hk4 : k2 + 2 ≤ s.size := by
                have := congrArg List.length hr3
                rw [List.length_drop, ← Lib.size_eq] at this
                simp at this; omega
              have HT : Hid (∀ w, RAt w b s k2 n 0 → Calls Tryz.prog 106 #[.pointer (some ⟨b, 0, none⟩), .string ⟨#[92, 117]⟩] w fun e w' => e = .returned (.bool true) ∧ RAt w' b s (k2 + 2) n 0 ∧ But b w w') := Lib.hid (fun w hw => rtake_yes w b s [92, 117] k2 n r3 hw hz (by simp) hr3 hx5)
              generalize Utf.putB (a : Int) = Q at hput hemp
              clear hr3 HV3 HP0
              go_wp2_with fail
              refine hput.mono ?_
              rintro e w3 ⟨rfl, hb3⟩
              have HP4 := Lib.hid (HP3.out.below hb3)
              have HB4 := Lib.hid (HB3.out.trans (But.of hb3))
              clear hput hb3
              go_wp2_with fail
              refine (HT.out w3 HP4.out).mono ?_
              rintro e w4 ⟨rfl, hP5, hb5⟩
              have HP5 := Lib.hid hP5
              have HB5 := Lib.hid (HB4.out.trans hb5)
              clear hP5 hb5 HT
              go_wp2_with fail
              refine (runit_any w4 b s (k2 + 2) n HP5.out hk4 hz).mono ?_
              intro e w5 h5
              cases hu : unit4 (s.data.toList.drop (k2 + 2)) with
              | none =>
                rw [hu] at h5
                obtain ⟨k6, rfl, hP6, hb6⟩ := h5
                have HVN : Hid (V = none) := Lib.hid (by rw [← HV4.out, hu])
                have HP6 := Lib.hid hP6
                have HB6 := Lib.hid (HB5.out.trans hb6)
                have hpair := Utf.rpair_any (a : Int) ((0 : Nat) : Int) w5
                have hq0 : Utf.pairQ (a : Int) ((0 : Nat) : Int) = false := by unfold Utf.pairQ; exact decide_eq_false (by omega)
                rw [hq0] at hpair
                generalize Utf.pairP (a : Int) ((0 : Nat) : Int) = PP at hpair
                clear hu hP6 hb6 HV4 hq0
                go_wp2_with fail
                refine hpair.mono ?_
                rintro e w6 ⟨rfl, rfl⟩
                clear hpair
                go_wp2_with fail
                refine (fail_any w5 b s k6 n 4 4 HP6.out).mono ?_
                rintro r w7 ⟨rfl, hP7, hb7⟩
                rw [if_neg (by decide)] at hP7
                have HP7 := Lib.hid hP7
                have HB7 := Lib.hid (HB6.out.trans hb7)
                clear hP7 hb7
                go_wp2
                go_ret
                rw [HVN.out]
                exact ⟨k6, _, rfl, by decide, HP7.out, HB7.out⟩
              | some p =>
                obtain ⟨c, r4⟩ := p
                rw [hu] at h5
                obtain ⟨rfl, hx9, hr4, hP6, hb6⟩ := h5
                obtain ⟨k6, hk6⟩ : ∃ k6, k2 + 2 + 4 = k6 := ⟨_, rfl⟩
                have hxk6 : x ≤ k6 := by omega
                rw [hk6] at hP6 hx9 hr4
                have HP6 := Lib.hid hP6
                have HB6 := Lib.hid (HB5.out.trans hb6)
                have hpair := Utf.rpair_any (a : Int) (c : Int) w5
                have HV5 : Hid ((if Utf.pairQ a c then some ((Utf.putB (Utf.pairP a c)).data.toList, s.data.toList.drop k6) else none) = V) := Lib.hid (by rw [← HV4.out, hu, ← hr4])
                clear hu hP6 hb6 HV4 hr4 hk6
                cases hqq : Utf.pairQ (a : Int) (c : Int) with
                | false =>
                  rw [hqq] at hpair
                  have HVN : Hid (V = none) := Lib.hid (by rw [← HV5.out, hqq]; rfl)
                  generalize Utf.pairP (a : Int) (c : Int) = PP at hpair
                  clear hqq HV5
                  go_wp2_with fail
                  refine hpair.mono ?_
                  rintro e w6 ⟨rfl, rfl⟩
                  clear hpair
                  go_wp2_with fail
                  refine (fail_any w5 b s k6 n 0 4 HP6.out).mono ?_
                  rintro r w7 ⟨rfl, hP7, hb7⟩
                  rw [if_pos rfl] at hP7
                  have HP7 := Lib.hid hP7
                  have HB7 := Lib.hid (HB6.out.trans hb7)
                  clear hP7 hb7
                  go_wp2
                  go_ret
                  rw [HVN.out]
                  exact ⟨k6, _, rfl, by decide, HP7.out, HB7.out⟩
                | true =>
                  rw [hqq] at hpair
                  have HVS : Hid (V = some ((Utf.putB (Utf.pairP a c)).data.toList, s.data.toList.drop k6)) := Lib.hid (by rw [← HV5.out, hqq]; rfl)
                  have hput2 := Utf.rput_any (Utf.pairP (a : Int) (c : Int)) w5
                  have HQ := Lib.hid (putB_bl (Utf.pairP (a : Int) (c : Int)))
                  generalize Utf.putB (Utf.pairP (a : Int) (c : Int)) = QQ at hput2 HQ HVS
                  generalize Utf.pairP (a : Int) (c : Int) = PP at hpair hput2
                  clear hqq HV5
                  go_wp2_with fail
                  refine hpair.mono ?_
                  rintro e w6 ⟨rfl, rfl⟩
                  clear hpair
                  go_wp2_with fail
                  refine hput2.mono ?_
                  rintro e w7 ⟨rfl, hb7⟩
                  have HP7 := Lib.hid (HP6.out.below hb7)
                  have HB7 := Lib.hid (HB6.out.trans (But.of hb7))
                  clear hb7 hput2
                  go_wp2
                  go_ret
                  rw [HVS.out]
                  exact ⟨k6, hxk6, hx9, rfl, by rw [HQ.out]; rfl, HP7.out, HB7.out⟩
            · have HVN : Hid (V = none) := Lib.hid (by rw [← HV3.out, unitsB_no HP0.out (fun r2 e => hq ⟨r2, e⟩)])
              have HT : Hid (∀ w, RAt w b s k2 n 0 → Calls Tryz.prog 106 #[.pointer (some ⟨b, 0, none⟩), .string ⟨#[92, 117]⟩] w fun e w' => e = .returned (.bool false) ∧ Below w.heap.size w w') := Lib.hid (fun w hw => rtake_no w b s [92, 117] k2 n hw hx5 hz (by simp) (fun r e => hq ⟨r, e⟩))
              generalize Utf.putB (a : Int) = Q at hput hemp
              clear hq HV3 HP0
              go_wp2_with fail
              refine hput.mono ?_
              rintro e w3 ⟨rfl, hb3⟩
              have HP4 := Lib.hid (HP3.out.below hb3)
              have HB4 := Lib.hid (HB3.out.trans (But.of hb3))
              clear hput hb3
              go_wp2_with fail
              refine (HT.out w3 HP4.out).mono ?_
              rintro e w4 ⟨rfl, hb5⟩
              have HP5 := Lib.hid (HP4.out.below hb5)
              have HB5 := Lib.hid (HB4.out.trans (But.of hb5))
              clear hb5 HT
              go_wp2_with fail
              refine (fail_any w4 b s k2 n 0 4 HP5.out).mono ?_
              rintro r w7 ⟨rfl, hP7, hb7⟩
              rw [if_pos rfl] at hP7
              have HP7 := Lib.hid hP7
              have HB7 := Lib.hid (HB5.out.trans hb7)
              clear hP7 hb7
              go_wp2
              go_ret
              rw [HVN.out]
              exact ⟨k2, _, rfl, by decide, HP7.out, HB7.out⟩
      · have HVN : Hid (V = none) := Lib.hid (by rw [← HV.out, escR_none HN.out (fun r e => hq ⟨r, e⟩)])
        have ht := rtake_no wr b s [117] x n HP.out hx hz (by simp) (fun r hr => hq ⟨r, hr⟩)
        clear hq HV HN
        go_wp2_with fail
        refine ht.mono ?_
        rintro e w1 ⟨rfl, hb1⟩
        have HP1 := Lib.hid (HP.out.below hb1)
        have HB1 := Lib.hid ((HB2.out.trans (But.of HB.out)).trans (But.of hb1))
        clear hb1 ht
        go_wp2_with fail
        refine (fail_any w1 b s x n 0 4 HP1.out).mono ?_
        rintro r w7 ⟨rfl, hP7, hb7⟩
        rw [if_pos rfl] at hP7
        have HP7 := Lib.hid hP7
        have HB7 := Lib.hid (HB1.out.trans hb7)
        clear hP7 hb7
        go_wp2
        go_ret
        rw [HVN.out]
        exact ⟨x, _, rfl, by decide, HP7.out, HB7.out⟩
end Go.Proofs.YtgcpgieojckheaaGreatDoor.Json
