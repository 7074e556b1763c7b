/-
  RelexRows: the walk.
-/
import Derived.Test.YtfedmhccbfhcbaaGreatDoorXS
import Derived.Test.YtfedmhccbfhcbaaGreatDoorXL
namespace Go.Proofs.YtfedmhccbfhcbaaGreatDoor
open Go.RowKit Go.Shelf

theorem edX_len {s x : List UInt8} {f t : Int} : (edX s x f t).length ≤ 65536 := by
  unfold edX
  split
  · rename_i h
    unfold edE at h
    split at h
    · exact (tokE_zero h).1
    · cases h
  · exact Nat.zero_le _
theorem rowF_len : ∀ (l : List Ed) (s : List UInt8) (i : Nat), s.length ≤ 65536 → (rowF s l i).1.length ≤ 65536
  | [], s, i, h => h
  | e :: l, s, i, h => by
    unfold rowF
    split
    · exact rowF_len l _ _ edX_len
    · exact Nat.zero_le _
theorem rowT_len (s : List UInt8) (l : List Ed) : (rowT (rwR s l)).length ≤ 65536 := by
  unfold rowT
  split
  · have h : (rwR s l).1.length ≤ 65536 := by
      unfold rwR
      split
      · rename_i h; exact rowF_len l s 0 (tokE_zero h).1
      · exact Nat.zero_le _
    have := toks_len (rwR s l).1
    omega
  · exact Nat.zero_le _
set_option maxRecDepth 100000 in
set_option maxHeartbeats 16000000 in
theorem rows_walk (s : ByteArray) (vl : Value) (l : List Ed) (w : World) (hm : s.size ≤ maxLen) (hl : EdsAt w vl l) (hn : l.length ≤ 9223372036854775807) (hE : Env w) : Calls Tryz.prog 4 #[.string s, vl] w (LawEnd w) := by
  unfold maxLen at hm
  obtain ⟨pl, cl, rfl⟩ := hl.shape
  have HL := Lib.hid hl
  have HE := Lib.hid hE
  have haw := fun W hE => awake_any W hE
  clear hl hE
  by_cases h20 : 20 < l.length
  · have h20' : (20 : Int) < (l.length : Int) := by omega
    go_enter Tryz.func4, Tryz.ntmps4
    go_wp2_with fail
    refine (haw w HE.out).mono ?_
    rintro e w2 ⟨rfl, hb2⟩
    go_wp2_with fail
    go_ret
    exact ⟨rfl, hb2⟩
  · have h20' : ¬ (20 : Int) < (l.length : Int) := by omega
    have hln : l.length ≤ 20 := by omega
    have HRT := Lib.hid (rowT_len s.data.toList l)
    go_enter Tryz.func4, Tryz.ntmps4
    go_wp2_with fail
    go_loopw [6] (fun i wr => ∃ k : Nat, i = .int .i64 k ∧ k ≤ l.length ∧ Hid (∀ j e, j < k → l[j]? = some e → e.x.size ≤ 500) ∧ wr = w) (fun i _ => l.length - (intOf i).toNat)
    case atStart => exact ⟨0, rfl, Nat.zero_le _, Lib.hid (fun j e h => absurd h (Nat.not_lt_zero _)), rfl⟩
    case round =>
    obtain ⟨k, rfl, hk, HJ, rfl⟩ := hrel
    by_cases hlt : k < l.length
    · have hlt' : (k : Int) < (l.length : Int) := by omega
      have hx := List.getElem?_eq_getElem hlt
      generalize l[k] = ed at hx
      obtain ⟨g, o, c', he, r0, r1, r2⟩ := HL.out.at hx
      cases he
      obtain ⟨f, t, x⟩ := ed
      change wr.cell? ⟨g, o + k * 3 + 2, none⟩ = some (.string x) at r2
      have u4 : IntKind.i64.wrap ((k : Int) + 1) = ((k + 1 : Nat) : Int) := by rw [IntWalk.i64_in _ (by omega)]; omega
      by_cases h5 : 500 < x.size
      · have h5' : (500 : Int) < (x.size : Int) := by omega
        clear hx
        go_wp2_with fail
        refine (haw wr HE.out).mono ?_
        rintro e w2 ⟨rfl, hb2⟩
        go_wp2_with fail
        go_ret
        exact ⟨rfl, hb2⟩
      · have h5' : ¬ (500 : Int) < (x.size : Int) := by omega
        have HJ2 : Hid (∀ j e, j < k + 1 → l[j]? = some e → e.x.size ≤ 500) := Lib.hid (by
          intro j e hj he
          by_cases hjk : j < k
          · exact HJ.out j e hjk he
          · have : j = k := by omega
            subst this
            rw [hx] at he
            cases he
            show x.size ≤ 500
            omega)
        clear hx h5
        go_wp2_with fail
        go_roundw
        case rel => exact ⟨k + 1, rfl, by omega, HJ2, trivial⟩
        case measure => simp [intOf]; omega
    · have hlt' : ¬ (k : Int) < (l.length : Int) := by omega
      have HX : Hid (∀ e ∈ l, e.x.size ≤ 500) := Lib.hid (by
        intro e he
        obtain ⟨j, hj, hje⟩ := List.getElem_of_mem he
        exact HJ.out j e (by omega) (by rw [List.getElem?_eq_getElem hj, hje]))
      clear HJ
      by_cases h2 : 2000 < s.size
      · have h2' : (2000 : Int) < (s.size : Int) := by omega
        go_wp2_with fail
        refine (haw wr HE.out).mono ?_
        rintro e w2 ⟨rfl, hb2⟩
        go_wp2_with fail
        go_ret
        exact ⟨rfl, hb2⟩
      · have h2' : ¬ (2000 : Int) < (s.size : Int) := by omega
        have hr1 := row_any s _ l wr (by omega) HL.out (fun e he => Nat.le_trans (HX.out e he) (by decide)) (by omega) HE.out
        have hr2 := fun W hW hE => rrow_any s (.slice pl l.length cl) l W (by omega) hW (fun e he => Nat.le_trans (HX.out e he) (by decide)) (by omega) hE
        unfold RowEnd at hr1 hr2
        generalize hR : rwR s.data.toList l = R at *
        obtain ⟨R1, R2, R3⟩ := R
        dsimp only at hr1 hr2
        generalize rowT (R1, R2, R3) = D at *
        clear hR h2
        go_wp2_with fail
        refine hr1.mono ?_
        rintro e w2 ⟨v2, rfl, hO2, hb2⟩
        obtain ⟨q2, c2, rfl⟩ := own_shape hO2
        have HB2 := Lib.hid hb2
        have HO2 := Lib.hid hO2
        clear hb2 hO2 hr1
        go_wp2_with fail
        refine (hr2 w2 (HL.out.below HB2.out) (HE.out.below HB2.out HE.out.size)).mono ?_
        rintro e w3 ⟨v3, rfl, hO3, hb3⟩
        obtain ⟨q3, c3, rfl⟩ := own_shape hO3
        have HB3 := Lib.hid (HB2.out.trans (hb3.mono HB2.out.size))
        have hdl := HRT.out
        have hsm := same_row _ _ D D w3 (HO2.out.below hb3).row hO3.row (by omega) (by omega)
        rw [show sameB D D = true from decide_eq_true rfl] at hsm
        clear hb3 hO3 hr2 hdl
        go_wp2_with (go_at_call 10; refine hsm.mono ?_; rintro e w4 ⟨rfl, hm4⟩)
        have HB4 := Lib.hid (HB3.out.trans ((drew_below hm4).mono HB3.out.size))
        refine (haw w4 (HE.out.below HB4.out HE.out.size)).mono ?_
        rintro e w5 ⟨rfl, hb5⟩
        go_wp2_with fail
        go_ret
        exact ⟨rfl, HB4.out.trans (hb5.mono HB4.out.size)⟩
end Go.Proofs.YtfedmhccbfhcbaaGreatDoor
