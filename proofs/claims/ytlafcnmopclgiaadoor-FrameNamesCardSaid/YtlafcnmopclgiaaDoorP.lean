/-
  FrameAgain.
-/
import Derived.Test.YtlafcnmopclgiaaDoorO
import Derived.Shelf.Bytes.SlSmallAll
namespace Go.Proofs.YtlafcnmopclgiaaDoor
open Go.RowKit Go.Shelf

/-- A row of bytes, as an argument. -/
def BRowV (w : World) (v : Value) (l : List UInt8) : Prop :=
  ((∃ p cap, v = .slice p 0 cap) ∧ l = []) ∨ ∃ g o cap, v = .slice (some ⟨g, o, none⟩) l.length cap ∧ l.length ≤ cap ∧ Lies w g o l
theorem BRowV.below {w w' : World} {v : Value} {l : List UInt8} (h : BRowV w v l) (hb : Below w.heap.size w w') : BRowV w' v l := by
  rcases h with h | ⟨g, o, cap, h1, h2, h3⟩
  · exact .inl h
  · exact .inr ⟨g, o, cap, h1, h2, h3.below hb⟩
theorem BRowV.shape {w : World} {v : Value} {l : List UInt8} (h : BRowV w v l) : ∃ p cap, v = .slice p l.length cap := by
  rcases h with ⟨⟨p, cap, rfl⟩, rfl⟩ | ⟨g, o, cap, h1, _⟩
  · exact ⟨p, cap, rfl⟩
  · exact ⟨_, cap, h1⟩
theorem BRowV.str {w : World} {v : Value} {l : List UInt8} (h : BRowV w v l) : (convert 31 9 v).run Tryd.prog w = .ok (.string ⟨l.toArray⟩) w := by
  rcases h with ⟨⟨p, cap, rfl⟩, rfl⟩ | ⟨g, o, cap, rfl, _, h3⟩
  · exact Go.Proofs.run_convert_bytes_zero w 31 5 u31 u5 p cap 9 u9
  · exact h3.str cap
theorem BRowV.cell {w : World} {p : Option Addr} {cap : Nat} {l : List UInt8} (h : BRowV w (.slice p l.length cap) l) {i : Nat} (hi : i < l.length) : ∃ g o, p = some ⟨g, o, none⟩ ∧ w.cell? ⟨g, o + i, none⟩ = some (.int .u8 (l.getD i 0).toNat) := by
  rcases h with ⟨_, rfl⟩ | ⟨g, o, cap2, h1, _, h3⟩
  · exact absurd hi (Nat.not_lt_zero _)
  · cases h1
    exact ⟨g, o, rfl, h3 i hi⟩
theorem again_text (l : List UInt8) (S : ByteArray) (F : List UInt8) (hS : S.data.toList = F) : ((⟨#[110, 111, 32, 104, 101, 97, 100, 13, 10, 13, 10]⟩ ++ ⟨l.toArray⟩ ++ S : ByteArray)).data.toList = noHead ++ crlf2 ++ (l ++ F) := by
  rw [app_list, app_list, hS, List.append_assoc]
  rfl
theorem again_told (b : List UInt8) (l : List ByteArray) (hb : (67 : UInt8) ∉ b) (h : ∀ X ∈ l, X.size ≤ 3000) : (runA .head (noHead ++ crlf2 ++ (b ++ framesOf l))).2.1 = ([], 72) :: l.map fun X => (X.data.toList, 0) := by
  have h2 := run_again b (l.map fun X => X.data.toList) hb (fun b hb => by
    obtain ⟨X, hX, rfl⟩ := List.mem_map.1 hb
    have := h X hX
    rw [← Lib.size_eq]; omega)
  unfold framesOf
  rw [List.map_map, List.map_map] at h2
  exact h2
set_option maxRecDepth 100000 in
set_option maxHeartbeats 4000000 in
theorem frameAgain_walk (bv v : Value) (b : List UInt8) (l : List ByteArray) (w : World) (hT : Tab w ∧ 11 ≤ w.heap.size) (hb : BRowV w bv b) (hl : LStr w v l) (hz : l.length ≤ 9223372036854775807) :
    Calls Tryd.prog 7 #[bv, v] w fun e w' => e = .returned (.bool true) ∧ Below w.heap.size w w' := by
  have ha := awake_any w hT.1 hT.2
  obtain ⟨p, cap, rfl⟩ := hl.shape
  obtain ⟨pb, cb, rfl⟩ := hb.shape
  have HL := Lib.hid hl
  have HBV := Lib.hid hb
  clear hl hb
  by_cases hbig : 3000 < b.length
  · have hbig' : (3000 : Int) < (b.length : Int) := by omega
    go_enter Tryd.func7, Tryd.ntmps7
    go_wp2_with fail
    refine ha.mono ?_
    rintro e w1 ⟨rfl, hb1⟩
    have B1 := Lib.hid hb1
    clear hb1 ha
    go_wp2_with fail
    go_ret
    exact ⟨rfl, B1.out⟩
  · have hbig' : ¬ (3000 : Int) < (b.length : Int) := by omega
    go_enter Tryd.func7, Tryd.ntmps7
    go_wp2_with fail
    refine ha.mono ?_
    rintro e w1 ⟨rfl, hb1⟩
    have B1 := Lib.hid hb1
    have HB1 := Lib.hid (HBV.out.below hb1)
    clear hb1 ha
    go_wp2_with fail
    go_loop [5] (fun i => ∃ k : Nat, i = .int .i64 k ∧ k ≤ b.length ∧ Hid (∀ (j : Nat) c, j < k → b[j]? = some c → (c != 67) = true)) (fun i => b.length - (intOf i).toNat)
    case atStart => exact ⟨0, rfl, Nat.zero_le _, Lib.hid (fun j c hj => by omega)⟩
    case round =>
      obtain ⟨k, rfl, hk, HJ⟩ := hrel
      by_cases hlt : k < b.length
      · have hlt' : (k : Int) < (b.length : Int) := by omega
        obtain ⟨g, o, rfl, hc⟩ := HB1.out.cell hlt
        have hi : IntKind.i64.wrap ((k : Int) + 1) = ((k + 1 : Nat) : Int) := by rw [IntWalk.i64_in _ (by omega)]; omega
        have HS : Hid ((b.getD k 0 != 67) = true → ∀ (j : Nat) c, j < k + 1 → b[j]? = some c → (c != 67) = true) := Lib.hid (until_succ hlt HJ.out)
        generalize b.getD k 0 = c at *
        have he : ((c.toNat : Int) == 67) = (c == 67) := u8_eq rfl
        have hn : (c != 67) = !(c == 67) := rfl
        rw [hn] at HS
        generalize (c == 67) = q at *
        clear hn
        cases q with
        | true =>
          go_wp2_with fail
          go_ret
          exact ⟨rfl, B1.out⟩
        | false =>
          go_wp2_with fail
          go_round
          case rel => exact ⟨k + 1, by go_num, by omega, Lib.hid (HS.out rfl)⟩
          case measure => simp [intOf]; omega
      · obtain rfl : k = b.length := by omega
        have hlt' : ¬ (b.length : Int) < (b.length : Int) := by omega
        have hno : (67 : UInt8) ∉ b := fun hm => by
          obtain ⟨j, hj, e⟩ := List.getElem_of_mem hm
          have := HJ.out j _ hj (List.getElem?_eq_getElem hj)
          rw [e] at this; exact absurd this (by decide)
        have HNO := Lib.hid hno
        clear hno
        have hw := written_any w1 (hT.1.below B1.out) _ l (HL.out.below B1.out) hz
        go_wp2_with fail
        refine hw.mono ?_
        rintro e w2 ⟨S, ok, rfl, hok, hb2⟩
        have B2 := Lib.hid (gcall B1.out B1.out.size hb2)
        have HB2 := HB1.out.below hb2
        have hstr := HB2.str
        clear hb2 hw HB2
        cases ok with
        | false =>
          go_wp2_with fail
          go_ret
          exact ⟨rfl, B2.out⟩
        | true =>
          obtain ⟨hS, hSz, h50, hX⟩ := hok rfl
          have hbsz : (⟨b.toArray⟩ : ByteArray).size = b.length := by show b.toArray.size = _; simp
          have htext := again_text b S _ hS
          obtain ⟨BB, hBB⟩ : ∃ B : ByteArray, (⟨b.toArray⟩ : ByteArray) = B := ⟨_, rfl⟩
          rw [hBB] at hstr htext hbsz
          have z1 : ¬ 9223372036854775807 < 11 + BB.size := by omega
          have z2 : ¬ 9223372036854775807 < 11 + BB.size + S.size := by omega
          have hTs : (⟨#[110, 111, 32, 104, 101, 97, 100, 13, 10, 13, 10]⟩ ++ BB ++ S : ByteArray).size ≤ 1000000 := by
            rw [ByteArray.size_append, ByteArray.size_append]; show 11 + _ + _ ≤ _; omega
          have hall := all_any (⟨#[110, 111, 32, 104, 101, 97, 100, 13, 10, 13, 10]⟩ ++ BB ++ S) w2 (hT.1.below B2.out) (Nat.le_trans hT.2 B2.out.size) hTs
          rw [htext, again_told b l HNO.out hX] at hall
          clear hok hS htext hBB hTs
          go_wp2_with fail
          refine hall.mono ?_
          rintro e w3 ⟨ve, rfl, hev, hb3⟩
          have B3 := Lib.hid (gcall B2.out B2.out.size hb3)
          have HEV := Lib.hid hev
          clear hb3 hall hev
          have hlen : (([], 72) :: l.map fun X => ((X.data.toList, 0) : Ev)).length = l.length + 1 := by simp
          have hL3 := HL.out.below B3.out
          obtain ⟨g, cp, rfl, f0, f1⟩ := evs_first HEV.out
          have hlm : (l.map fun X => ((X.data.toList, 0) : Ev)).length = l.length := List.length_map _
          rw [hlm] at HEV ⊢
          have hw1 : IntKind.i64.wrap ((l.length : Int) + 1) = ((l.length + 1 : Nat) : Int) := by rw [IntWalk.i64_in _ (by omega)]; omega
          unfold bl at f0
          go_wp2_with fail
          go_loopw [9] (fun i wr => ∃ k : Nat, i = .int .i64 k ∧ k ≤ l.length ∧ Hid (Below w3.heap.size w3 wr)) (fun i _ => l.length - (intOf i).toNat)
          case atStart => exact ⟨0, rfl, Nat.zero_le _, Lib.hid (Below.refl _ _)⟩
          case round =>
            obtain ⟨k, rfl, hk, HBr⟩ := hrel
            by_cases hlt : k < l.length
            · have hlt' : (k : Int) < (l.length : Int) := by omega
              obtain ⟨X, hXk⟩ : ∃ X, l[k]? = some X := ⟨_, List.getElem?_eq_getElem hlt⟩
              obtain ⟨c1, c2⟩ := evs_at HEV.out rfl (i := k + 1) (e := (X.data.toList, 0)) (by rw [List.getElem?_cons_succ, List.getElem?_map, hXk]; rfl)
              have hi : IntKind.i64.wrap ((k : Int) + 1) = ((k + 1 : Nat) : Int) := by rw [IntWalk.i64_in _ (by omega)]; omega
              have hk1 : ((k + 1 : Nat) : Int) < ((l.length + 1 : Nat) : Int) := by omega
              rcases hL3 with ⟨e1, e2⟩ | ⟨g2, o2, cap2, e1, e2⟩
              · subst e2; exact absurd hlt (Nat.not_lt_zero _)
              · cases e1
                have c3 := e2 k X hXk
                have hbx : bl X.data.toList = .string X := rfl
                simp only [hbx] at c1
                replace c1 := (HBr.out.cell (World.block_lt_of_cell? w3 _ c1)).trans c1
                replace c2 := (HBr.out.cell (World.block_lt_of_cell? w3 _ c2)).trans c2
                replace c3 := (HBr.out.cell (World.block_lt_of_cell? w3 _ c3)).trans c3
                simp only at c2
                clear e2 hXk
                go_wp2_with fail
                go_quiet (fail)
                go_wp2
                go_roundw
                case rel => exact ⟨k + 1, by go_num, by omega, Lib.hid (belowN HBr.out _)⟩
                case measure => simp [intOf]; omega
            · obtain rfl : k = l.length := by omega
              have hlt' : ¬ (l.length : Int) < (l.length : Int) := by omega
              go_wp2_with fail
              go_ret
              exact ⟨rfl, B3.out.trans (HBr.out.mono B3.out.size)⟩
end Go.Proofs.YtlafcnmopclgiaaDoor
