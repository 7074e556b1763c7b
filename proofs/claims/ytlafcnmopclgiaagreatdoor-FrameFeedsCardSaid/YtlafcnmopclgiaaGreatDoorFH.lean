/-
  The document's Cut: all that is told of bytes.
-/
import Derived.Test.YtlafcnmopclgiaaGreatDoorFG
import Derived.Test.YtlafcnmopclgiaaGreatDoorT
namespace Go.Proofs.YtlafcnmopclgiaaGreatDoor
open Go.RowKit Go.Shelf

theorem take_crlf {l : List UInt8} {i : Nat} (h : Lib.occAt l crlf2 i = true) : l.take (i + 2) = l.take i ++ crlf := by
  unfold Lib.occAt at h
  obtain ⟨r, hr⟩ := List.isPrefixOf_iff_prefix.1 h
  rw [List.take_add, ← hr]; rfl
theorem und35 : Tryz.prog.underlying 35 = some (.slice 53) := u34
def CutEnd (EV : List Ev) (w : World) (e : Ending) (w' : World) : Prop := ∃ v, e = .returned v ∧ RefAt w.heap.size w' v EV ∧ Below w.heap.size w w'
set_option maxRecDepth 100000 in
set_option maxHeartbeats 8000000 in
theorem cut_any (s : ByteArray) (w : World) (hz : s.size ≤ 1000000) : Calls Tryz.prog 16 #[.string s] w (CutEnd (runA .head s.data.toList).2.1 w) := by
  obtain ⟨i33, hi9, hz0, hz1, hz2⟩ := info_parts info33
  obtain ⟨EV, hEV⟩ : ∃ EV, (runA .head s.data.toList).2.1 = EV := ⟨_, rfl⟩
  have hfew : EV.length ≤ 2000002 := by rw [← hEV]; exact told_few _ (by rw [← Lib.size_eq]; exact hz)
  have H0 : Hid (EV = [] ++ told false s.data.toList) := Lib.hid hEV.symm
  rw [hEV]
  clear hEV
  go_enter Tryz.func16, Tryz.ntmps16
  go_wp2_with fail
  go_loopw [0, 3, 4] (fun v ov b wr => ∃ (X : ByteArray) (sk : Bool) (E : List Ev), v = .string X ∧ b = .bool sk ∧ X.size ≤ s.size ∧ Hid (EV = E ++ told sk X.data.toList) ∧ Hid (RefAt w.heap.size wr ov E) ∧ Hid (Below w.heap.size w wr)) (fun v _ _ _ => strLen v)
  case atStart => exact ⟨s, false, [], rfl, rfl, Nat.le_refl _, H0, Lib.hid (World.ownsRow_nil _ _ _ _), Lib.hid (Below.refl _ _)⟩
  case round =>
    obtain ⟨X, sk, E, rfl, rfl, hX, HV, HO, HB⟩ := hrel
    obtain ⟨po, co, rfl⟩ := owns_shape HO.out
    have hlx : X.data.toList.length = X.size := (Lib.size_eq X).symm
    go_upto_if 9 with (fail)
    go_cut [0, 4] (fun v b wx => ∃ Y : ByteArray, v = .string Y ∧ b = .bool false ∧ Y.size ≤ X.size ∧ Hid (EV = E ++ told false Y.data.toList) ∧ wx = wr)
    case first =>
      cases sk with
      | false =>
        go_wp2_with fail
        go_meet
        case rel => exact ⟨X, rfl, rfl, Nat.le_refl _, HV, rfl⟩
      | true =>
        have hfd := find_any X ⟨#[67, 111, 110, 116, 101, 110, 116, 45, 76, 101, 110, 103, 116, 104, 58]⟩ wr (by omega) (by decide)
        have e1 : (⟨#[67, 111, 110, 116, 101, 110, 116, 45, 76, 101, 110, 103, 116, 104, 58]⟩ : ByteArray).data.toList = mark := rfl
        rw [e1] at hfd
        clear e1
        rcases index_nat' X.data.toList mark with hx | ⟨i, hx, hx2, _, _⟩
        · rw [hx] at hfd
          have HR : Hid (EV = E) := Lib.hid (by rw [HV.out]; unfold told; rw [if_pos rfl, skip_none (by rw [hx]; decide), List.append_nil])
          clear hx
          go_wp2_with fail
          refine hfd.mono ?_
          rintro e w1 ⟨rfl, rfl⟩
          go_wp2_with fail
          go_ret
          exact ⟨.slice po E.length co, rfl, by rw [HR.out]; exact HO.out, HB.out⟩
        · rw [hx] at hfd
          have hx3 : i + 15 ≤ X.data.toList.length := hx2
          have hi0 : ¬ (i : Int) < 0 := by omega
          have hi1 : (i : Int) ≤ (X.size : Int) := by omega
          have HR : Hid (EV = E ++ told false (X.extract i X.size).data.toList) := Lib.hid (by rw [HV.out, drop_ex rfl i]; unfold told; rw [if_pos rfl, skip_at hx, if_neg (by decide)])
          have HZ : Hid ((X.extract i X.size).size ≤ X.size) := Lib.hid (by rw [ByteArray.size_extract]; omega)
          clear hx hx2 hx3
          go_wp2_with fail
          refine hfd.mono ?_
          rintro e w1 ⟨rfl, rfl⟩
          go_wp2_with fail
          go_meet
          case rel => exact ⟨X.extract i X.size, rfl, rfl, HZ.out, HR, rfl⟩
    case rest =>
      obtain ⟨Y, rfl, rfl, hY, HV2, rfl⟩ := hcut
      clear HV
      have hly : Y.data.toList.length = Y.size := (Lib.size_eq Y).symm
      have hfd := find_any Y ⟨#[13, 10, 13, 10]⟩ wc (by omega) (by decide)
      have e1 : (⟨#[13, 10, 13, 10]⟩ : ByteArray).data.toList = crlf2 := rfl
      rw [e1] at hfd
      clear e1
      rcases index_nat' Y.data.toList crlf2 with hx | ⟨i, hx, hx2, hocc, _⟩
      · rw [hx] at hfd
        have hxn : Lib.index Y.data.toList crlf2 < 0 := by rw [hx]; decide
        by_cases hl : Y.size < 1028
        · have hl' : (Y.size : Int) < 1028 := by omega
          have HR : Hid (EV = E) := Lib.hid (by rw [HV2.out]; unfold told; rw [if_neg (by decide), head_wait hxn (by omega), List.append_nil])
          clear hx hxn
          go_wp2_with fail
          refine hfd.mono ?_
          rintro e wf ⟨rfl, rfl⟩
          go_wp2_with fail
          go_ret
          exact ⟨.slice po E.length co, rfl, by rw [HR.out]; exact HO.out, HB.out⟩
        · have hl' : ¬ (Y.size : Int) < 1028 := by omega
          have htold : told false Y.data.toList = ([], 72) :: told true (Y.data.toList.drop 1) := head_none (.inl hxn) (by omega)
          clear hx hxn
          have HE : Hid (EV = (E ++ [([], 72)]) ++ told true (Y.extract 1 Y.size).data.toList) := Lib.hid (by
            rw [HV2.out, drop_ex rfl 1, List.append_assoc]; exact congrArg (E ++ ·) (htold))
          have HEl : Hid (E.length + 1 ≤ 2000002) := Lib.hid (by have := congrArg List.length HE.out; rw [List.length_append, List.length_append] at this; simp only [List.length_cons, List.length_nil] at this; omega)
          have hYs : Hid ((Y.extract 1 Y.size).size = Y.size - 1) := Lib.hid (by rw [ByteArray.size_extract]; omega)
          have y1 : (1 : Int) ≤ (Y.size : Int) := by omega
          clear HV2 htold
          go_wp2_with fail
          refine hfd.mono ?_
          rintro e wf ⟨rfl, rfl⟩
          obtain ⟨wa, hwa⟩ : ∃ wa, wf.alloc (.cells #[.string ⟨#[]⟩, .int .i64 72] 53) = wa := ⟨_, rfl⟩
          have NW : Hid (∀ (j : Nat) u, ([.string ⟨#[]⟩, .int .i64 72] : List Value)[j]? = some u → wa.cell? ((⟨wf.heap.size, 0, none⟩ : Addr).add j) = some u) := Lib.hid (by rw [← hwa]; exact World.news_of_block (heap_alloc_new wf _))
          have ba : Below wf.heap.size wf wa := by rw [← hwa]; exact galloc2 (Below.refl _ _) (Nat.le_refl _) _
          have OW : Hid (wa.ownsRow w.heap.size 53 2 _ E.length (E.flatMap evC)) := Lib.hid (owns_below HO.out ba)
          have BA : Hid (Below w.heap.size w wa) := Lib.hid (HB.out.trans (ba.mono HB.out.size))
          clear ba
          subst hwa
          go_wp2_with (at_builtin; refine wpList_append_own _ rfl _ _ 35 rfl w.heap.size 53 i33 (.agg #[.string ⟨#[]⟩, .int .i64 0]) 2 24 und35 hi9 hz0 hz1 hz2 rfl (by decide) _ _ _ rfl OW.out ⟨wf.heap.size, 0, none⟩ 1 1 [.string ⟨#[]⟩, .int .i64 72] rfl rfl NW.out (by simp [Value.oneCell']) ?c3 ?c4 ?c5 ?_)
          case c3 => have := HEl.out; unfold maxLen; omega
          case c4 => have := HEl.out; omega
          case c5 => first | exact BA.out.size | (have := BA.out.size; simpa using this)
          intro v' w1 hown hgrow _
          have O1 : Hid (RefAt w.heap.size w1 v' (E ++ [([], 72)])) := Lib.hid (by unfold RefAt; rw [List.length_append, List.flatMap_append]; exact hown)
          have B1 : Hid (Below w.heap.size w w1) := Lib.hid (BA.out.grown hgrow BA.out.size (fun k h => (OW.out.lt k h).1))
          clear hown hgrow
          go_wp2_with fail
          go_roundw
          case rel => exact ⟨Y.extract 1 Y.size, true, E ++ [([], 72)], rfl, rfl, by have := hYs.out; omega, HE, O1, B1⟩
          case measure => show (Y.extract 1 Y.size).size < X.size; rw [hYs.out]; omega
      · rw [hx] at hfd
        have hx4 : i + 4 ≤ Y.size := by rw [← hly]; exact hx2
        have i0 : ¬ (i : Int) < 0 := by omega
        have i0' : (0 : Int) ≤ (i : Int) := by omega
        by_cases hi : 1024 < i
        · have hi' : ¬ (i : Int) ≤ 1024 := by omega
          have htold : told false Y.data.toList = ([], 72) :: told true (Y.data.toList.drop 1) := head_none (.inr (by rw [hx]; omega)) (by omega)
          clear hx hx2 hocc
          have HE : Hid (EV = (E ++ [([], 72)]) ++ told true (Y.extract 1 Y.size).data.toList) := Lib.hid (by
            rw [HV2.out, drop_ex rfl 1, List.append_assoc]; exact congrArg (E ++ ·) (htold))
          have HEl : Hid (E.length + 1 ≤ 2000002) := Lib.hid (by have := congrArg List.length HE.out; rw [List.length_append, List.length_append] at this; simp only [List.length_cons, List.length_nil] at this; omega)
          have hYs : Hid ((Y.extract 1 Y.size).size = Y.size - 1) := Lib.hid (by rw [ByteArray.size_extract]; omega)
          have y1 : (1 : Int) ≤ (Y.size : Int) := by omega
          clear HV2 htold
          go_wp2_with fail
          refine hfd.mono ?_
          rintro e wf ⟨rfl, rfl⟩
          obtain ⟨wa, hwa⟩ : ∃ wa, wf.alloc (.cells #[.string ⟨#[]⟩, .int .i64 72] 53) = wa := ⟨_, rfl⟩
          have NW : Hid (∀ (j : Nat) u, ([.string ⟨#[]⟩, .int .i64 72] : List Value)[j]? = some u → wa.cell? ((⟨wf.heap.size, 0, none⟩ : Addr).add j) = some u) := Lib.hid (by rw [← hwa]; exact World.news_of_block (heap_alloc_new wf _))
          have ba : Below wf.heap.size wf wa := by rw [← hwa]; exact galloc2 (Below.refl _ _) (Nat.le_refl _) _
          have OW : Hid (wa.ownsRow w.heap.size 53 2 _ E.length (E.flatMap evC)) := Lib.hid (owns_below HO.out ba)
          have BA : Hid (Below w.heap.size w wa) := Lib.hid (HB.out.trans (ba.mono HB.out.size))
          clear ba
          subst hwa
          go_wp2_with (at_builtin; refine wpList_append_own _ rfl _ _ 35 rfl w.heap.size 53 i33 (.agg #[.string ⟨#[]⟩, .int .i64 0]) 2 24 und35 hi9 hz0 hz1 hz2 rfl (by decide) _ _ _ rfl OW.out ⟨wf.heap.size, 0, none⟩ 1 1 [.string ⟨#[]⟩, .int .i64 72] rfl rfl NW.out (by simp [Value.oneCell']) ?c3 ?c4 ?c5 ?_)
          case c3 => have := HEl.out; unfold maxLen; omega
          case c4 => have := HEl.out; omega
          case c5 => first | exact BA.out.size | (have := BA.out.size; simpa using this)
          intro v' w1 hown hgrow _
          have O1 : Hid (RefAt w.heap.size w1 v' (E ++ [([], 72)])) := Lib.hid (by unfold RefAt; rw [List.length_append, List.flatMap_append]; exact hown)
          have B1 : Hid (Below w.heap.size w w1) := Lib.hid (BA.out.grown hgrow BA.out.size (fun k h => (OW.out.lt k h).1))
          clear hown hgrow
          go_wp2_with fail
          go_roundw
          case rel => exact ⟨Y.extract 1 Y.size, true, E ++ [([], 72)], rfl, rfl, by have := hYs.out; omega, HE, O1, B1⟩
          case measure => show (Y.extract 1 Y.size).size < X.size; rw [hYs.out]; omega
        · have hi' : (i : Int) ≤ 1024 := by omega
          have hw2 : IntKind.i64.wrap ((i : Int) + 2) = ((i + 2 : Nat) : Int) := by rw [IntWalk.i64_in _ (by omega)]; omega
          have hw4 : IntKind.i64.wrap ((i : Int) + 4) = ((i + 4 : Nat) : Int) := by rw [IntWalk.i64_in _ (by omega)]; omega
          have hlh := lenR_head (i + 2) (Y.data.toList.take i) (by rw [List.length_take]; omega)
          have hln := rlength_any (Y.extract 0 (i + 2)) wc (i + 2) (by rw [ByteArray.size_extract]; omega) (by rw [ByteArray.size_extract]; omega)
          rw [take_ex rfl (i + 2), take_crlf hocc] at hln
          have htk : ∀ e, headLen (Y.data.toList.take i) = .error e → told false Y.data.toList = ([], e) :: told true (Y.data.toList.drop 1) := fun e he => head_bad hx (by omega) he
          have hto : ∀ n, headLen (Y.data.toList.take i) = .ok n → told false Y.data.toList = if Y.data.toList.length < i + 4 + n then [] else ((Y.data.toList.drop (i + 4)).take n, 0) :: told false (Y.data.toList.drop (i + 4 + n)) := fun n hn => head_ok hx (by omega) hn
          clear hx hx2 hocc
          obtain ⟨i2, hi2⟩ : ∃ i2, i + 2 = i2 := ⟨_, rfl⟩
          rw [hi2] at hw2 hln
          rw [hi2] at hlh
          have a2 : (i2 : Int) ≤ (Y.size : Int) := by omega
          generalize lenR i2 (-1) (Y.data.toList.take i ++ crlf) = N at *
          cases hh : headLen (Y.data.toList.take i) with
          | error e =>
            rw [hh] at hlh
            have htold := htk e hh
            clear htk hto hh
            rcases hlh with ⟨rfl, hN⟩ | ⟨rfl, hN⟩
            · have HE : Hid (EV = (E ++ [([], 72)]) ++ told true (Y.extract 1 Y.size).data.toList) := Lib.hid (by
                rw [HV2.out, drop_ex rfl 1, List.append_assoc]; exact congrArg (E ++ ·) (htold))
              have HEl : Hid (E.length + 1 ≤ 2000002) := Lib.hid (by have := congrArg List.length HE.out; rw [List.length_append, List.length_append] at this; simp only [List.length_cons, List.length_nil] at this; omega)
              have hYs : Hid ((Y.extract 1 Y.size).size = Y.size - 1) := Lib.hid (by rw [ByteArray.size_extract]; omega)
              have y1 : (1 : Int) ≤ (Y.size : Int) := by omega
              clear HV2 htold
              go_wp2_with fail
              refine hfd.mono ?_
              rintro e wf ⟨rfl, rfl⟩
              go_wp2_with fail
              refine hln.mono ?_
              rintro e wf ⟨rfl, rfl⟩
              obtain ⟨wa, hwa⟩ : ∃ wa, wf.alloc (.cells #[.string ⟨#[]⟩, .int .i64 72] 53) = wa := ⟨_, rfl⟩
              have NW : Hid (∀ (j : Nat) u, ([.string ⟨#[]⟩, .int .i64 72] : List Value)[j]? = some u → wa.cell? ((⟨wf.heap.size, 0, none⟩ : Addr).add j) = some u) := Lib.hid (by rw [← hwa]; exact World.news_of_block (heap_alloc_new wf _))
              have ba : Below wf.heap.size wf wa := by rw [← hwa]; exact galloc2 (Below.refl _ _) (Nat.le_refl _) _
              have OW : Hid (wa.ownsRow w.heap.size 53 2 _ E.length (E.flatMap evC)) := Lib.hid (owns_below HO.out ba)
              have BA : Hid (Below w.heap.size w wa) := Lib.hid (HB.out.trans (ba.mono HB.out.size))
              clear ba
              subst hwa
              go_wp2_with (at_builtin; refine wpList_append_own _ rfl _ _ 35 rfl w.heap.size 53 i33 (.agg #[.string ⟨#[]⟩, .int .i64 0]) 2 24 und35 hi9 hz0 hz1 hz2 rfl (by decide) _ _ _ rfl OW.out ⟨wf.heap.size, 0, none⟩ 1 1 [.string ⟨#[]⟩, .int .i64 72] rfl rfl NW.out (by simp [Value.oneCell']) ?c3 ?c4 ?c5 ?_)
              case c3 => have := HEl.out; unfold maxLen; omega
              case c4 => have := HEl.out; omega
              case c5 => first | exact BA.out.size | (have := BA.out.size; simpa using this)
              intro v' w1 hown hgrow _
              have O1 : Hid (RefAt w.heap.size w1 v' (E ++ [([], 72)])) := Lib.hid (by unfold RefAt; rw [List.length_append, List.flatMap_append]; exact hown)
              have B1 : Hid (Below w.heap.size w w1) := Lib.hid (BA.out.grown hgrow BA.out.size (fun k h => (OW.out.lt k h).1))
              clear hown hgrow
              go_wp2_with fail
              go_roundw
              case rel => exact ⟨Y.extract 1 Y.size, true, E ++ [([], 72)], rfl, rfl, by have := hYs.out; omega, HE, O1, B1⟩
              case measure => show (Y.extract 1 Y.size).size < X.size; rw [hYs.out]; omega
            · have hN0 : ¬ N < 0 := by omega
              have hN1 : (0 : Int) ≤ N := by omega
              have HE : Hid (EV = (E ++ [([], 40)]) ++ told true (Y.extract 1 Y.size).data.toList) := Lib.hid (by
                rw [HV2.out, drop_ex rfl 1, List.append_assoc]; exact congrArg (E ++ ·) (htold))
              have HEl : Hid (E.length + 1 ≤ 2000002) := Lib.hid (by have := congrArg List.length HE.out; rw [List.length_append, List.length_append] at this; simp only [List.length_cons, List.length_nil] at this; omega)
              have hYs : Hid ((Y.extract 1 Y.size).size = Y.size - 1) := Lib.hid (by rw [ByteArray.size_extract]; omega)
              have y1 : (1 : Int) ≤ (Y.size : Int) := by omega
              clear HV2 htold
              go_wp2_with fail
              refine hfd.mono ?_
              rintro e wf ⟨rfl, rfl⟩
              go_wp2_with fail
              refine hln.mono ?_
              rintro e wf ⟨rfl, rfl⟩
              obtain ⟨wa, hwa⟩ : ∃ wa, wf.alloc (.cells #[.string ⟨#[]⟩, .int .i64 40] 53) = wa := ⟨_, rfl⟩
              have NW : Hid (∀ (j : Nat) u, ([.string ⟨#[]⟩, .int .i64 40] : List Value)[j]? = some u → wa.cell? ((⟨wf.heap.size, 0, none⟩ : Addr).add j) = some u) := Lib.hid (by rw [← hwa]; exact World.news_of_block (heap_alloc_new wf _))
              have ba : Below wf.heap.size wf wa := by rw [← hwa]; exact galloc2 (Below.refl _ _) (Nat.le_refl _) _
              have OW : Hid (wa.ownsRow w.heap.size 53 2 _ E.length (E.flatMap evC)) := Lib.hid (owns_below HO.out ba)
              have BA : Hid (Below w.heap.size w wa) := Lib.hid (HB.out.trans (ba.mono HB.out.size))
              clear ba
              subst hwa
              go_wp2_with (at_builtin; refine wpList_append_own _ rfl _ _ 35 rfl w.heap.size 53 i33 (.agg #[.string ⟨#[]⟩, .int .i64 0]) 2 24 und35 hi9 hz0 hz1 hz2 rfl (by decide) _ _ _ rfl OW.out ⟨wf.heap.size, 0, none⟩ 1 1 [.string ⟨#[]⟩, .int .i64 40] rfl rfl NW.out (by simp [Value.oneCell']) ?c3 ?c4 ?c5 ?_)
              case c3 => have := HEl.out; unfold maxLen; omega
              case c4 => have := HEl.out; omega
              case c5 => first | exact BA.out.size | (have := BA.out.size; simpa using this)
              intro v' w1 hown hgrow _
              have O1 : Hid (RefAt w.heap.size w1 v' (E ++ [([], 40)])) := Lib.hid (by unfold RefAt; rw [List.length_append, List.flatMap_append]; exact hown)
              have B1 : Hid (Below w.heap.size w w1) := Lib.hid (BA.out.grown hgrow BA.out.size (fun k h => (OW.out.lt k h).1))
              clear hown hgrow
              go_wp2_with fail
              go_roundw
              case rel => exact ⟨Y.extract 1 Y.size, true, E ++ [([], 40)], rfl, rfl, by have := hYs.out; omega, HE, O1, B1⟩
              case measure => show (Y.extract 1 Y.size).size < X.size; rw [hYs.out]; omega
          | ok n =>
            rw [hh] at hlh
            obtain ⟨rfl, hn⟩ := hlh
            have htold := hto n hh
            clear htk hto hh
            have n0 : ¬ (n : Int) < 0 := by omega
            have n1 : ¬ (262144 : Int) < (n : Int) := by omega
            obtain ⟨i4, hi4⟩ : ∃ i4, i + 4 = i4 := ⟨_, rfl⟩
            rw [hi4] at hw4 htold
            have hw5 : IntKind.i64.wrap ((i4 : Int) + (n : Int)) = ((i4 + n : Nat) : Int) := by rw [IntWalk.i64_in _ (by omega)]; omega
            rw [hly] at htold
            obtain ⟨t, ht⟩ : ∃ t, i4 + n = t := ⟨_, rfl⟩
            rw [ht] at hw5 htold
            by_cases hl : Y.size < t
            · have hl' : (Y.size : Int) < (t : Int) := by omega
              have hd : decide (Y.size < t) = true := decide_eq_true hl
              have HR : Hid (EV = E) := Lib.hid (by rw [HV2.out, htold, if_pos hl, List.append_nil])
              clear htold
              go_wp2_with fail
              refine hfd.mono ?_
              rintro e wf ⟨rfl, rfl⟩
              go_wp2_with fail
              refine hln.mono ?_
              rintro e wf ⟨rfl, rfl⟩
              go_wp2_with fail
              go_ret
              exact ⟨.slice po E.length co, rfl, by rw [HR.out]; exact HO.out, HB.out⟩
            · have hl' : ¬ (Y.size : Int) < (t : Int) := by omega
              have hd : decide (Y.size < t) = false := decide_eq_false hl
              have t1 : (t : Int) ≤ (Y.size : Int) := by omega
              have t2 : (i4 : Int) ≤ (t : Int) := by omega
              have t3 : (i4 : Int) ≤ (Y.size : Int) := by omega
              have ebody : (Y.extract i4 t).data.toList = (Y.data.toList.drop i4).take n := by rw [ex_list, show t - i4 = n by omega]
              have HE : Hid (EV = (E ++ [((Y.extract i4 t).data.toList, 0)]) ++ told false (Y.extract t Y.size).data.toList) := Lib.hid (by
                rw [HV2.out, htold, if_neg hl, drop_ex rfl t, ebody, List.append_assoc]; rfl)
              have HEl : Hid (E.length + 1 ≤ 2000002) := Lib.hid (by have := congrArg List.length HE.out; rw [List.length_append, List.length_append] at this; simp only [List.length_cons, List.length_nil] at this; omega)
              have hYs : Hid ((Y.extract t Y.size).size = Y.size - t) := Lib.hid (by rw [ByteArray.size_extract]; omega)
              have hT4 : Hid (4 ≤ t) := Lib.hid (by omega)
              have HEB : Hid (evC ((Y.extract i4 t).data.toList, 0) = [.string (Y.extract i4 t), .int .i64 0]) := Lib.hid rfl
              clear HV2 htold ebody
              go_wp2_with fail
              refine hfd.mono ?_
              rintro e wf ⟨rfl, rfl⟩
              go_wp2_with fail
              refine hln.mono ?_
              rintro e wf ⟨rfl, rfl⟩
              obtain ⟨BD, hBD⟩ : ∃ BD, Y.extract i4 t = BD := ⟨_, rfl⟩
              obtain ⟨wa, hwa⟩ : ∃ wa, wf.alloc (.cells #[.string BD, .int .i64 0] 53) = wa := ⟨_, rfl⟩
              rw [hBD] at HE HEB
              have NW : Hid (∀ (j : Nat) u, ([.string BD, .int .i64 0] : List Value)[j]? = some u → wa.cell? ((⟨wf.heap.size, 0, none⟩ : Addr).add j) = some u) := Lib.hid (by rw [← hwa]; exact World.news_of_block (heap_alloc_new wf _))
              have ba : Below wf.heap.size wf wa := by rw [← hwa]; exact galloc2 (Below.refl _ _) (Nat.le_refl _) _
              have OW : Hid (wa.ownsRow w.heap.size 53 2 _ E.length (E.flatMap evC)) := Lib.hid (owns_below HO.out ba)
              have BA : Hid (Below w.heap.size w wa) := Lib.hid (HB.out.trans (ba.mono HB.out.size))
              clear ba
              subst hwa
              subst hBD
              go_wp2_with (at_builtin; refine wpList_append_own _ rfl _ _ 35 rfl w.heap.size 53 i33 (.agg #[.string ⟨#[]⟩, .int .i64 0]) 2 24 und35 hi9 hz0 hz1 hz2 rfl (by decide) _ _ _ rfl OW.out ⟨wf.heap.size, 0, none⟩ 1 1 [.string (Y.extract i4 t), .int .i64 0] rfl rfl NW.out (by simp [Value.oneCell']) ?c3 ?c4 ?c5 ?_)
              case c3 => have := HEl.out; unfold maxLen; omega
              case c4 => have := HEl.out; omega
              case c5 => first | exact BA.out.size | (have := BA.out.size; simpa using this)
              intro v' w1 hown hgrow _
              have O1 : Hid (RefAt w.heap.size w1 v' (E ++ [((Y.extract i4 t).data.toList, 0)])) := Lib.hid (by unfold RefAt; rw [List.length_append, List.flatMap_append, List.flatMap_cons, List.flatMap_nil, List.append_nil, HEB.out]; exact hown)
              have B1 : Hid (Below w.heap.size w w1) := Lib.hid (BA.out.grown hgrow BA.out.size (fun k h => (OW.out.lt k h).1))
              clear hown hgrow
              go_wp2_with fail
              go_roundw
              case rel => exact ⟨Y.extract t Y.size, false, E ++ [((Y.extract i4 t).data.toList, 0)], rfl, rfl, by have := hYs.out; omega, HE, O1, B1⟩
              case measure => show (Y.extract t Y.size).size < X.size; have := hT4.out; rw [hYs.out]; omega
end Go.Proofs.YtlafcnmopclgiaaGreatDoor
