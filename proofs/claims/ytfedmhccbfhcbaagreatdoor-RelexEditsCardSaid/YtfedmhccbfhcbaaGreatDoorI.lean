/-
  nameBut, its closure; rows.
-/
import Derived.Test.YtfedmhccbfhcbaaGreatDoorH
import Derived.Laws.EntriesVeiled
namespace Go.Proofs.YtfedmhccbfhcbaaGreatDoor
open Go.RowKit Go.Maps Go.WideMaps

/-- The box of the captured map, and the map. -/
def WordsAt (B : Nat) (w : World) : Prop := ∃ M, w.cell? ⟨B, 0, none⟩ = some (.map (some M)) ∧ MapOf M 13 w
theorem lt_of_cell {w : World} {b o : Nat} {v : Value} (h : w.cell? ⟨b, o, none⟩ = some v) : b < w.heap.size := by
  unfold World.cell? at h
  rcases Nat.lt_or_ge b w.heap.size with g | g
  · exact g
  · simp only [Array.getElem?_eq_none g] at h; cases h
theorem WordsAt.below {B : Nat} {w w' : World} (h : WordsAt B w) (hb : Below w.heap.size w w') : WordsAt B w' := by
  obtain ⟨M, h1, h2⟩ := h
  exact ⟨M, (hb.cell (p := ⟨B, 0, none⟩) (lt_of_cell h1)).trans h1, h2.below hb h2.lt⟩
theorem drewN_below (w : World) (n : Nat) : Below w.heap.size w (w.drewN n) := ⟨rfl, rfl, rfl, Nat.le_refl _, fun _ _ => rfl⟩
def nameR (l : List UInt8) : Nat × Nat := if lead lowB l = 0 then (0, 0) else (nameK (l.take (lead inB l)), lead inB l)
theorem lead_sub {p q : UInt8 → Bool} (h : ∀ c, p c = true → q c = true) : ∀ l : List UInt8, lead q l = lead p l + lead q (l.drop (lead p l))
  | [] => rfl
  | c :: r => by
    by_cases g : p c = true
    · rw [lead_cons p, if_pos g, lead_cons q, if_pos (h c g), List.drop_succ_cons, lead_sub h r]; omega
    · rw [lead_cons p, if_neg g, List.drop_zero]; omega
theorem low_in (c : UInt8) (h : lowB c = true) : inB c = true := by unfold inB; rw [h]; rfl
def isWord (t : List UInt8) : Bool := has (wd 13) (.string t)
set_option maxRecDepth 100000 in
theorem look_words {M : Nat} {w : World} {T : ByteArray} (h : MapOf M 13 w) (hT : T.data.toList.length ≤ 1000000000) :
    (Instr.lookup 97 (.map (some M)) (.string T) true).run Tryz.prog w = .ok (.tuple #[.int .u8 (if isWord T.data.toList then nameK T.data.toList else 0), .bool (isWord T.data.toList)]) w := by
  have hTb : Value.string T = bl T.data.toList := rfl
  have hkey := key_bl T.data.toList hT
  rw [← hTb] at hkey
  obtain ⟨v, ps, hlk, hv⟩ := World.ownsMap.look_ok (t := 97) (e := 5) h law9 und71 (zero5 w) (plainElem_int und5 (by decide)) hkey
  obtain ⟨c, rfl, hcc, hwc⟩ := plainElem_int_inv und5 hv
  injection hcc with hcc _
  refine hlk.trans ?_
  unfold isWord
  rcases wd_of T.data.toList (.lit (.int .u8 0)) with ⟨h1, hat⟩ | ⟨h1, hK⟩
  · rw [hat] at hcc; injection hcc with hcc; injection hcc with _ hcc
    rw [h1, ← hcc]; rfl
  · rw [atKey_of_not_has h1] at hcc; injection hcc with hcc; injection hcc with _ hcc
    rw [h1, ← hcc]; rfl
theorem isWord_no {t : List UInt8} (h : isWord t = false) : nameK t = 4 := by
  rcases wd_of t (.lit (.int .u8 0)) with ⟨h1, hat⟩ | ⟨h1, hK⟩
  · unfold isWord at h; rw [h1] at h; cases h
  · exact hK
set_option maxRecDepth 100000 in
set_option maxHeartbeats 4000000 in
theorem name_any (s : ByteArray) (B : Nat) (w : World) (hz : s.size ≤ 1000000000) (hW : WordsAt B w) :
    Calls Tryz.prog 66 #[.string s, .pointer (some ⟨B, 0, none⟩)] w (NumEnd2 (nameR s.data.toList) w) := by
  obtain ⟨M, hc, hM⟩ := hW
  have c1 := fun W => leading61 lowB startsName_any s W hz
  have hsub := lead_sub low_in s.data.toList
  have hle := lead_le inB s.data.toList
  rw [← Lib.size_eq] at hle
  have hR : nameR s.data.toList = if lead lowB s.data.toList = 0 then (0, 0) else (nameK (s.data.toList.take (lead inB s.data.toList)), lead inB s.data.toList) := rfl
  generalize nameR s.data.toList = R at *
  generalize lead lowB s.data.toList = k at *
  by_cases h0 : k = 0
  · have q : ((k : Int) == 0) = true := by rw [h0]; rfl
    have HR : Hid (R = (0, 0)) := Lib.hid (by rw [hR, if_pos h0])
    clear hR h0 hsub
    go_enter Tryz.func66, Tryz.ntmps66
    go_wp2_with (go_at_call 63; ((with_reducible refine (c1 _).mono ?_); rintro e w' ⟨rfl, rfl⟩))
    go_ret2
    exact ⟨by rw [HR.out]; rfl, Below.refl _ _⟩
  · have q : ((k : Int) == 0) = false := beq_eq_false_iff_ne.2 (by omega)
    rw [if_neg h0] at hR
    have hks : k ≤ s.size := by omega
    have hks' : (k : Int) ≤ (s.size : Int) := by omega
    have c2 := fun W => leading62 inB isInName_any (s.extract k s.size) W (by rw [ext_size]; omega)
    rw [ext_list] at c2
    generalize lead inB (s.data.toList.drop k) = m at *
    rw [hsub] at hR hle
    have hm' : ((k + m : Nat) : Int) ≤ (s.size : Int) := by omega
    have w1 : IntKind.i64.wrap ((k : Int) + (m : Int)) = ((k + m : Nat) : Int) := by rw [IntWalk.i64_in _ (by omega)]; omega
    clear h0 hsub
    generalize k + m = N at *
    have h0N : (0 : Int) ≤ (N : Int) := by omega
    have hN2 : N ≤ s.size := by omega
    obtain ⟨T, hT⟩ : ∃ T, s.extract 0 N = T := ⟨_, rfl⟩
    have hTl : T.data.toList = s.data.toList.take N := by rw [← hT, Utf.extract_list, List.drop_zero]
    have hTz : T.data.toList.length ≤ 1000000000 := by rw [hTl, List.length_take, ← Lib.size_eq]; omega
    have hlk : ∀ a, (Instr.lookup 97 (.map (some M)) (.string T) true).run Tryz.prog (w.drewN a) = .ok (.tuple #[.int .u8 (if isWord T.data.toList then nameK T.data.toList else 0), .bool (isWord T.data.toList)]) (w.drewN a) := fun a => look_words (w := w.drewN a) hM hTz
    rw [← hTl] at hR
    cases hi : isWord T.data.toList with
    | true =>
      rw [hi] at hlk
      simp only [if_true] at hlk
      have HR := Lib.hid hR
      have HT := Lib.hid hT
      clear hR hT hM hTl hTz hi
      generalize nameK T.data.toList = K at *
      go_enter Tryz.func66, Tryz.ntmps66
      go_wp2_with (first | (go_at_call 63; ((with_reducible refine (c1 _).mono ?_); rintro e w' ⟨rfl, rfl⟩)) | (go_at_call 63; ((with_reducible refine (c2 _).mono ?_); rintro e w' ⟨rfl, rfl⟩)))
      have hT := HT.out
      go_quiet (fail)
      go_wp2
      go_ret2
      exact ⟨by rw [HR.out]; rfl, drewN_below _ _⟩
    | false =>
      rw [hi] at hlk
      simp only [Bool.false_eq_true, if_false] at hlk
      have HR := Lib.hid hR
      have HT := Lib.hid hT
      have HK := Lib.hid (isWord_no hi)
      clear hR hT hM hTl hTz hi
      go_enter Tryz.func66, Tryz.ntmps66
      go_wp2_with (first | (go_at_call 63; ((with_reducible refine (c1 _).mono ?_); rintro e w' ⟨rfl, rfl⟩)) | (go_at_call 63; ((with_reducible refine (c2 _).mono ?_); rintro e w' ⟨rfl, rfl⟩)))
      have hT := HT.out
      go_quiet (fail)
      go_wp2
      go_ret2
      exact ⟨by rw [HR.out, HK.out]; rfl, drewN_below _ _⟩
end Go.Proofs.YtfedmhccbfhcbaaGreatDoor
