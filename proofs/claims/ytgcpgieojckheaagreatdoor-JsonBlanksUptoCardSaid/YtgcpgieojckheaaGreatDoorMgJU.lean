/-
  strconv.ParseUint at base 16 of at most four bytes.
  The parser's unit: four digits.
  The parser's units.
  The parser's escaped.
-/
import Derived.Test.YtgcpgieojckheaaGreatDoorMgJB
import Derived.Outline
namespace Go.Proofs.YtgcpgieojckheaaGreatDoor.Json
open Go.RowKit Go.Shelf

/-- Digits, from what was read on. -/
def hexF : Nat → List UInt8 → Option Nat
  | n, [] => some n
  | n, c :: r => match hexV c with
    | none => none
    | some d => hexF (n * 16 + d) r
theorem hex_kinds (c : UInt8) : (48 ≤ c.toNat ∧ c.toNat ≤ 57 ∧ hexV c = some (c.toNat - 48)) ∨
    (¬ (48 ≤ c.toNat ∧ c.toNat ≤ 57) ∧ ∃ L : Nat, bits .or .u8 c.toNat 32 = (L : Int) ∧ ((97 ≤ L ∧ L ≤ 102 ∧ hexV c = some (L - 87)) ∨ (103 ≤ L ∧ L ≤ 122 ∧ hexV c = none) ∨ (¬ (97 ≤ L ∧ L ≤ 122) ∧ L ≤ 255 ∧ hexV c = none))) := by
  have H : ∀ n < 256, (48 ≤ n ∧ n ≤ 57 ∧ hexV (UInt8.ofNat n) = some (n - 48)) ∨
    (¬ (48 ≤ n ∧ n ≤ 57) ∧ bits .or .u8 (n : Int) 32 = ((bits .or .u8 (n : Int) 32).toNat : Int) ∧ ((97 ≤ (bits .or .u8 (n : Int) 32).toNat ∧ (bits .or .u8 (n : Int) 32).toNat ≤ 102 ∧ hexV (UInt8.ofNat n) = some ((bits .or .u8 (n : Int) 32).toNat - 87)) ∨ (103 ≤ (bits .or .u8 (n : Int) 32).toNat ∧ (bits .or .u8 (n : Int) 32).toNat ≤ 122 ∧ hexV (UInt8.ofNat n) = none) ∨ (¬ (97 ≤ (bits .or .u8 (n : Int) 32).toNat ∧ (bits .or .u8 (n : Int) 32).toNat ≤ 122) ∧ (bits .or .u8 (n : Int) 32).toNat ≤ 255 ∧ hexV (UInt8.ofNat n) = none))) := by decide +kernel
  have := H c.toNat c.toNat_lt
  rw [UInt8.ofNat_toNat] at this
  rcases this with h | ⟨h1, h2, h3⟩
  · exact .inl h
  · exact .inr ⟨h1, _, h2, h3⟩
theorem bytesWorld_below (w : World) (e : TypeId) (s : ByteArray) : Below w.heap.size w (Lib.bytesWorld w e s) :=
  ⟨rfl, rfl, rfl, by rw [Lib.bytesWorld_size]; omega, fun k hk => Lib.bytesWorld_at_old w e s k hk⟩
def parseV : Option Nat → Value
  | some n => .tuple #[.int .u64 n, .nilIface]
  | none => .tuple #[.int .u64 0, .iface 140 (.int .i64 2)]
def ParseEnd (t : ByteArray) (w : World) (e : Ending) (w' : World) : Prop :=
  e = .returned (parseV (hexF 0 t.data.toList)) ∧ Below w.heap.size w w'
set_option maxRecDepth 100000 in
set_option maxHeartbeats 4000000 in
theorem parse16_any (t : ByteArray) (w : World) (h0 : t.size ≠ 0) (h4 : t.size ≤ 4) :
    Calls Tryz.prog 120 #[.string t, .int .i64 16, .int .i64 16] w (ParseEnd t w) := by
  have hcv := Lib.run_convert_string_bytes (P := Tryz.prog) w 9 37 5 t Tryz.underlying9 Tryz.underlying37 Tryz.underlying5
  have hB := Lib.hid (bytesWorld_below w 5 t)
  have hR : Hid (∀ i, i < t.size → (Lib.bytesWorld w 5 t).cell? ⟨w.heap.size, i, none⟩ = some (.int .u8 (t.data.toList.getD i 0).toNat)) := Lib.hid fun i hi => Lib.bytesWorld_cell w 5 t i hi
  have hlen : t.data.toList.length = t.size := (Lib.size_eq t).symm
  have hemp : t.toList.isEmpty = false := by
    rw [Lib.toList_data, List.isEmpty_eq_false_iff]; intro e; rw [e] at hlen; exact h0 hlen.symm
  obtain ⟨V, hV⟩ : ∃ V, hexF 0 t.data.toList = V := ⟨_, rfl⟩
  have HV := Lib.hid hV
  unfold ParseEnd
  rw [hV]
  clear hV
  generalize hg : grownCap w t.size 0 5 = cap at *
  generalize Lib.bytesWorld w 5 t = w1 at *
  clear hg
  go_enter Tryz.func120, Tryz.ntmps120
  go_wp2_with fail
  go_loop [12, 13, 101] (fun b nv i => ∃ (k n : Nat), b = .bool false ∧ i = .int .i64 k ∧ nv = .int .u64 n ∧ k ≤ t.size ∧ n ≤ 65535 ∧ Hid (n < 16 ^ k) ∧ Hid (V = hexF n (t.data.toList.drop k))) (fun _ _ i => t.size - (intOf i).toNat)
  case atStart => exact ⟨0, 0, rfl, rfl, rfl, Nat.zero_le _, by omega, Lib.hid (by decide), Lib.hid HV.out.symm⟩
  case round =>
    obtain ⟨k, n, rfl, rfl, rfl, hk, hn, HN, HF⟩ := hrel
    by_cases hlt : k < t.size
    · have hlt' : (k : Int) < (t.size : Int) := by omega
      have hc := hR.out k hlt
      have hn4 : n ≤ 4095 := by
        have h1 : 16 ^ k ≤ 16 ^ 3 := Nat.pow_le_pow_right (by decide) (by omega)
        have := HN.out
        have e : (16 : Nat) ^ 3 = 4096 := by decide
        omega
      have hdr : t.data.toList.drop k = t.data.toList.getD k 0 :: t.data.toList.drop (k + 1) := by
        rw [List.getD_eq_getElem?_getD, List.getElem?_eq_getElem (by omega)]; exact List.drop_eq_getElem_cons (by omega)
      have HS : Hid (V = match hexV (t.data.toList.getD k 0) with | none => none | some d => hexF (n * 16 + d) (t.data.toList.drop (k + 1))) := Lib.hid (by rw [HF.out, hdr, hexF])
      clear hdr HF
      have hw : IntKind.i64.wrap ((k : Int) + 1) = ((k + 1 : Nat) : Int) := by rw [IntWalk.i64_in _ (by omega)]; omega
      have hlow := Tryz.internal_strconv_lower ((t.data.toList.getD k 0).toNat : Int)
      have hc255 := (t.data.toList.getD k 0).toNat_lt
      have hkd := hex_kinds (t.data.toList.getD k 0)
      generalize t.data.toList.getD k 0 = c at *
      go_upto_block 5 with (fail)
      go_cut [12, 16] (fun b dv wx => b = .bool false ∧ wx = w1 ∧ ∃ d : Nat, dv = .int .u8 d ∧ d ≤ 255 ∧ Hid (hexV c = if d < 16 then some d else none))
      case first =>
        rcases hkd with ⟨k1, k2, k3⟩ | ⟨k1, L, hL, k2⟩
        · have c95 : ((c.toNat : Int) == 95) = false := by rw [beq_eq_false_iff_ne]; omega
          have c1 : (48 : Int) ≤ (c.toNat : Int) := by omega
          have c2 : (c.toNat : Int) ≤ 57 := by omega
          have hdw : IntKind.u8.wrap ((c.toNat : Int) - 48) = ((c.toNat - 48 : Nat) : Int) := by rw [IntWalk.u8_in _ (by omega)]; omega
          have HX : Hid (hexV c = if c.toNat - 48 < 16 then some (c.toNat - 48) else none) := Lib.hid (by rw [k3, if_pos (by omega)])
          clear hlow HS k3
          go_wp2_with fail
          go_meet
          case rel => exact ⟨rfl, rfl, c.toNat - 48, rfl, by omega, HX⟩
        · rw [hL] at hlow
          clear hL
          have hb95 : ((c.toNat : Int) == 95) = (c == 95) := u8_eq rfl
          generalize (c == 95) = q95 at *
          by_cases c1 : 48 ≤ c.toNat
          · have c1' : (48 : Int) ≤ (c.toNat : Int) := by omega
            have c2' : ¬ (c.toNat : Int) ≤ 57 := by omega
            have c2d : decide ((c.toNat : Int) ≤ 57) = false := decide_eq_false c2'
            cases q95 with
            | true =>
              rcases k2 with ⟨l1, l2, hx⟩ | ⟨l1, l2, hx⟩ | ⟨l1, l2, hx⟩
              · have m1 : (97 : Int) ≤ (L : Int) := by omega
                have m2 : (L : Int) ≤ 122 := by omega
                have hdw1 : IntKind.u8.wrap ((L : Int) - 97) = ((L - 97 : Nat) : Int) := by rw [IntWalk.u8_in _ (by omega)]; omega
                have hdw2 : IntKind.u8.wrap (((L - 97 : Nat) : Int) + 10) = ((L - 87 : Nat) : Int) := by rw [IntWalk.u8_in _ (by omega)]; omega
                have HX : Hid (hexV c = if L - 87 < 16 then some (L - 87) else none) := Lib.hid (by rw [hx, if_pos (by omega)])
                clear hx
                go_wp2_with fail
                refine (hlow _).mono ?_
                rintro e w2 ⟨rfl, rfl⟩
                go_wp2_with fail
                refine (hlow _).mono ?_
                rintro e w2 ⟨rfl, rfl⟩
                go_wp2_with fail
                refine (hlow _).mono ?_
                rintro e w2 ⟨rfl, rfl⟩
                go_wp2_with fail
                go_meet
                case rel => exact ⟨rfl, rfl, L - 87, rfl, by omega, HX⟩
              · have m1 : (97 : Int) ≤ (L : Int) := by omega
                have m2 : (L : Int) ≤ 122 := by omega
                have hdw1 : IntKind.u8.wrap ((L : Int) - 97) = ((L - 97 : Nat) : Int) := by rw [IntWalk.u8_in _ (by omega)]; omega
                have hdw2 : IntKind.u8.wrap (((L - 97 : Nat) : Int) + 10) = ((L - 87 : Nat) : Int) := by rw [IntWalk.u8_in _ (by omega)]; omega
                have HX : Hid (hexV c = if L - 87 < 16 then some (L - 87) else none) := Lib.hid (by rw [hx, if_neg (by omega)])
                clear hx
                go_wp2_with fail
                refine (hlow _).mono ?_
                rintro e w2 ⟨rfl, rfl⟩
                go_wp2_with fail
                refine (hlow _).mono ?_
                rintro e w2 ⟨rfl, rfl⟩
                go_wp2_with fail
                refine (hlow _).mono ?_
                rintro e w2 ⟨rfl, rfl⟩
                go_wp2_with fail
                go_meet
                case rel => exact ⟨rfl, rfl, L - 87, rfl, by omega, HX⟩
              · have HD : Hid (V = none) := Lib.hid (by rw [HS.out, hx])
                clear HS hx
                by_cases m1 : 97 ≤ L
                · have m1' : (97 : Int) ≤ (L : Int) := by omega
                  have m2' : ¬ (L : Int) ≤ 122 := by omega
                  have m2d : decide ((L : Int) ≤ 122) = false := decide_eq_false m2'
                  go_wp2_with fail
                  refine (hlow _).mono ?_
                  rintro e w2 ⟨rfl, rfl⟩
                  go_wp2_with fail
                  refine (hlow _).mono ?_
                  rintro e w2 ⟨rfl, rfl⟩
                  go_wp2_with fail
                  go_ret2
                  exact ⟨by rw [HD.out]; rfl, hB.out⟩
                · have m1' : ¬ (97 : Int) ≤ (L : Int) := by omega
                  go_wp2_with fail
                  refine (hlow _).mono ?_
                  rintro e w2 ⟨rfl, rfl⟩
                  go_wp2_with fail
                  go_ret2
                  exact ⟨by rw [HD.out]; rfl, hB.out⟩
            | false =>
              rcases k2 with ⟨l1, l2, hx⟩ | ⟨l1, l2, hx⟩ | ⟨l1, l2, hx⟩
              · have m1 : (97 : Int) ≤ (L : Int) := by omega
                have m2 : (L : Int) ≤ 122 := by omega
                have hdw1 : IntKind.u8.wrap ((L : Int) - 97) = ((L - 97 : Nat) : Int) := by rw [IntWalk.u8_in _ (by omega)]; omega
                have hdw2 : IntKind.u8.wrap (((L - 97 : Nat) : Int) + 10) = ((L - 87 : Nat) : Int) := by rw [IntWalk.u8_in _ (by omega)]; omega
                have HX : Hid (hexV c = if L - 87 < 16 then some (L - 87) else none) := Lib.hid (by rw [hx, if_pos (by omega)])
                clear hx
                go_wp2_with fail
                refine (hlow _).mono ?_
                rintro e w2 ⟨rfl, rfl⟩
                go_wp2_with fail
                refine (hlow _).mono ?_
                rintro e w2 ⟨rfl, rfl⟩
                go_wp2_with fail
                refine (hlow _).mono ?_
                rintro e w2 ⟨rfl, rfl⟩
                go_wp2_with fail
                go_meet
                case rel => exact ⟨rfl, rfl, L - 87, rfl, by omega, HX⟩
              · have m1 : (97 : Int) ≤ (L : Int) := by omega
                have m2 : (L : Int) ≤ 122 := by omega
                have hdw1 : IntKind.u8.wrap ((L : Int) - 97) = ((L - 97 : Nat) : Int) := by rw [IntWalk.u8_in _ (by omega)]; omega
                have hdw2 : IntKind.u8.wrap (((L - 97 : Nat) : Int) + 10) = ((L - 87 : Nat) : Int) := by rw [IntWalk.u8_in _ (by omega)]; omega
                have HX : Hid (hexV c = if L - 87 < 16 then some (L - 87) else none) := Lib.hid (by rw [hx, if_neg (by omega)])
                clear hx
                go_wp2_with fail
                refine (hlow _).mono ?_
                rintro e w2 ⟨rfl, rfl⟩
                go_wp2_with fail
                refine (hlow _).mono ?_
                rintro e w2 ⟨rfl, rfl⟩
                go_wp2_with fail
                refine (hlow _).mono ?_
                rintro e w2 ⟨rfl, rfl⟩
                go_wp2_with fail
                go_meet
                case rel => exact ⟨rfl, rfl, L - 87, rfl, by omega, HX⟩
              · have HD : Hid (V = none) := Lib.hid (by rw [HS.out, hx])
                clear HS hx
                by_cases m1 : 97 ≤ L
                · have m1' : (97 : Int) ≤ (L : Int) := by omega
                  have m2' : ¬ (L : Int) ≤ 122 := by omega
                  have m2d : decide ((L : Int) ≤ 122) = false := decide_eq_false m2'
                  go_wp2_with fail
                  refine (hlow _).mono ?_
                  rintro e w2 ⟨rfl, rfl⟩
                  go_wp2_with fail
                  refine (hlow _).mono ?_
                  rintro e w2 ⟨rfl, rfl⟩
                  go_wp2_with fail
                  go_ret2
                  exact ⟨by rw [HD.out]; rfl, hB.out⟩
                · have m1' : ¬ (97 : Int) ≤ (L : Int) := by omega
                  go_wp2_with fail
                  refine (hlow _).mono ?_
                  rintro e w2 ⟨rfl, rfl⟩
                  go_wp2_with fail
                  go_ret2
                  exact ⟨by rw [HD.out]; rfl, hB.out⟩
          · have c1' : ¬ (48 : Int) ≤ (c.toNat : Int) := by omega
            have hb95' : q95 = false := by
              rw [← hb95, beq_eq_false_iff_ne]; omega
            subst hb95'
            rcases k2 with ⟨l1, l2, hx⟩ | ⟨l1, l2, hx⟩ | ⟨l1, l2, hx⟩
            · have m1 : (97 : Int) ≤ (L : Int) := by omega
              have m2 : (L : Int) ≤ 122 := by omega
              have hdw1 : IntKind.u8.wrap ((L : Int) - 97) = ((L - 97 : Nat) : Int) := by rw [IntWalk.u8_in _ (by omega)]; omega
              have hdw2 : IntKind.u8.wrap (((L - 97 : Nat) : Int) + 10) = ((L - 87 : Nat) : Int) := by rw [IntWalk.u8_in _ (by omega)]; omega
              have HX : Hid (hexV c = if L - 87 < 16 then some (L - 87) else none) := Lib.hid (by rw [hx, if_pos (by omega)])
              clear hx
              go_wp2_with fail
              refine (hlow _).mono ?_
              rintro e w2 ⟨rfl, rfl⟩
              go_wp2_with fail
              refine (hlow _).mono ?_
              rintro e w2 ⟨rfl, rfl⟩
              go_wp2_with fail
              refine (hlow _).mono ?_
              rintro e w2 ⟨rfl, rfl⟩
              go_wp2_with fail
              go_meet
              case rel => exact ⟨rfl, rfl, L - 87, rfl, by omega, HX⟩
            · have m1 : (97 : Int) ≤ (L : Int) := by omega
              have m2 : (L : Int) ≤ 122 := by omega
              have hdw1 : IntKind.u8.wrap ((L : Int) - 97) = ((L - 97 : Nat) : Int) := by rw [IntWalk.u8_in _ (by omega)]; omega
              have hdw2 : IntKind.u8.wrap (((L - 97 : Nat) : Int) + 10) = ((L - 87 : Nat) : Int) := by rw [IntWalk.u8_in _ (by omega)]; omega
              have HX : Hid (hexV c = if L - 87 < 16 then some (L - 87) else none) := Lib.hid (by rw [hx, if_neg (by omega)])
              clear hx
              go_wp2_with fail
              refine (hlow _).mono ?_
              rintro e w2 ⟨rfl, rfl⟩
              go_wp2_with fail
              refine (hlow _).mono ?_
              rintro e w2 ⟨rfl, rfl⟩
              go_wp2_with fail
              refine (hlow _).mono ?_
              rintro e w2 ⟨rfl, rfl⟩
              go_wp2_with fail
              go_meet
              case rel => exact ⟨rfl, rfl, L - 87, rfl, by omega, HX⟩
            · have HD : Hid (V = none) := Lib.hid (by rw [HS.out, hx])
              clear HS hx
              by_cases m1 : 97 ≤ L
              · have m1' : (97 : Int) ≤ (L : Int) := by omega
                have m2' : ¬ (L : Int) ≤ 122 := by omega
                have m2d : decide ((L : Int) ≤ 122) = false := decide_eq_false m2'
                go_wp2_with fail
                refine (hlow _).mono ?_
                rintro e w2 ⟨rfl, rfl⟩
                go_wp2_with fail
                refine (hlow _).mono ?_
                rintro e w2 ⟨rfl, rfl⟩
                go_wp2_with fail
                go_ret2
                exact ⟨by rw [HD.out]; rfl, hB.out⟩
              · have m1' : ¬ (97 : Int) ≤ (L : Int) := by omega
                go_wp2_with fail
                refine (hlow _).mono ?_
                rintro e w2 ⟨rfl, rfl⟩
                go_wp2_with fail
                go_ret2
                exact ⟨by rw [HD.out]; rfl, hB.out⟩
      case rest =>
        obtain ⟨rfl, rfl, d, rfl, hd, HX⟩ := hcut
        clear hlow
        by_cases hd16 : d < 16
        · have HD : Hid (V = hexF (n * 16 + d) (t.data.toList.drop (k + 1))) := Lib.hid (by rw [HS.out, HX.out, if_pos hd16])
          have hn1 : IntKind.u64.wrap ((n : Int) * 16) = ((n * 16 : Nat) : Int) := by rw [IntWalk.u64_in _ (by omega)]; omega
          have hn2 : IntKind.u64.wrap (((n * 16 : Nat) : Int) + (d : Int)) = ((n * 16 + d : Nat) : Int) := by rw [IntWalk.u64_in _ (by omega)]; omega
          have hd16' : ¬ (16 : Int) ≤ (d : Int) := by omega
          have hcut : ¬ (1152921504606846976 : Int) ≤ (n : Int) := by omega
          have hov : ¬ ((n * 16 + d : Nat) : Int) < ((n * 16 : Nat) : Int) := by omega
          have hov2 : decide (n * 16 + d < n * 16) = false := decide_eq_false (by omega)
          have hmx : ¬ (65535 : Int) < ((n * 16 + d : Nat) : Int) := by omega
          clear HS HX hd
          go_wp2_with fail
          go_round
          case rel => exact ⟨k + 1, n * 16 + d, rfl, by go_num, by first | rfl | go_num, by omega, by omega, Lib.hid (by rw [Nat.pow_succ]; have := HN.out; omega), HD⟩
          case measure => simp [intOf]; omega
        · have HD : Hid (V = none) := Lib.hid (by rw [HS.out, HX.out, if_neg hd16])
          have hd16' : (16 : Int) ≤ (d : Int) := by omega
          go_wp2_with fail
          go_ret2
          exact ⟨by rw [HD.out]; rfl, hB.out⟩
    · have hlt' : ¬ (k : Int) < (t.size : Int) := by omega
      have HD : Hid (V = some n) := Lib.hid (by rw [HF.out, List.drop_of_length_le (by omega), hexF])
      go_wp2_with fail
      go_ret2
      exact ⟨by rw [HD.out]; rfl, hB.out⟩
end Go.Proofs.YtgcpgieojckheaaGreatDoor.Json
namespace Go.Proofs.YtgcpgieojckheaaGreatDoor.Json
open Go.RowKit Go.Shelf

/-- strconv.ErrSyntax lies in its block. -/
def Tab0 (w : World) : Prop := ∃ ev, w.cell? ⟨0, 0, none⟩ = some ev ∧ (ev = .nilIface ∨ ∃ te pe, ev = .iface te pe)
theorem Tab0.but {w w' : World} {b : Nat} (h : Tab0 w) (hb : But b w w') (h0 : b ≠ 0) : Tab0 w' := by
  obtain ⟨ev, h1, h2⟩ := h
  exact ⟨ev, (World.cell?_of_block (hb.block 0 (World.block_lt_of_cell? w _ h1) (fun e => h0 e.symm))).trans h1, h2⟩
theorem Tab0.below {w w' : World} (h : Tab0 w) (hb : Below w.heap.size w w') : Tab0 w' := by
  obtain ⟨ev, h1, h2⟩ := h
  exact ⟨ev, (hb.cell (p := ⟨0, 0, none⟩) (World.block_lt_of_cell? w _ h1)).trans h1, h2⟩
theorem hexF_four (a b c d : UInt8) (r : List UInt8) : unit4 (a :: b :: c :: d :: r) = (hexF 0 [a, b, c, d]).map fun n => (n, r) := by
  unfold unit4
  simp only [hexF]
  cases hexV a with
  | none => rfl
  | some a =>
    simp only
    cases hexV b with
    | none => rfl
    | some b =>
      simp only
      cases hexV c with
      | none => rfl
      | some c =>
        simp only
        cases hexV d with
        | none => rfl
        | some d => simp
theorem unit4_hex (l : List UInt8) : unit4 l = if 4 ≤ l.length then (hexF 0 (l.take 4)).map fun n => (n, l.drop 4) else none := by
  match l with
  | [] => rfl
  | [_] => rfl
  | [_, _] => rfl
  | [_, _, _] => rfl
  | a :: b :: c :: d :: r => rw [if_pos (by simp), hexF_four]; rfl
theorem hexV_le (c : UInt8) (d : Nat) (h : hexV c = some d) : d < 16 := by
  unfold hexV at h
  repeat' (split at h)
  all_goals first | (injection h with h; omega) | cases h
theorem hexF_le : ∀ (l : List UInt8) (n m : Nat), hexF n l = some m → m < (n + 1) * 16 ^ l.length
  | [], n, m, h => by
    rw [hexF] at h; injection h with h; simp; omega
  | c :: r, n, m, h => by
    rw [hexF] at h
    split at h
    · cases h
    · rename_i d hd
      have h1 := hexV_le c d hd
      have h2 := hexF_le r _ m h
      have h3 : (n * 16 + d + 1) * 16 ^ r.length ≤ (n + 1) * 16 * 16 ^ r.length := Nat.mul_le_mul_right _ (by omega)
      rw [List.length_cons, Nat.pow_succ, Nat.mul_comm (16 ^ r.length) 16, ← Nat.mul_assoc]
      omega
set_option maxHeartbeats 1000000 in
theorem parseU_some (t : ByteArray) (w : World) (h0 : t.size ≠ 0) (h4 : t.size ≤ 4) (n : Nat) (hn : hexF 0 t.data.toList = some n) :
    Calls Tryz.prog 225 #[.string t, .int .i64 16, .int .i64 16] w fun e w' => e = .returned (.tuple #[.int .u64 n, .nilIface]) ∧ Below w.heap.size w w' := by
  have hp := parse16_any t w h0 h4
  unfold ParseEnd at hp
  rw [hn] at hp
  unfold parseV at hp
  go_enter Tryz.func225, Tryz.ntmps225
  go_wp2_with fail
  refine hp.mono ?_
  rintro e w1 ⟨rfl, hb⟩
  have HB := Lib.hid hb
  clear hb hp
  go_wp2_with fail
  go_ret2
  exact ⟨rfl, HB.out⟩
set_option maxHeartbeats 1000000 in
theorem parseU_none (t : ByteArray) (w : World) (hT : Tab0 w) (h4 : t.size ≤ 4) (hn : t.size = 0 ∨ hexF 0 t.data.toList = none) :
    Calls Tryz.prog 225 #[.string t, .int .i64 16, .int .i64 16] w fun e w' => ∃ N : Nat, e = .returned (.tuple #[.int .u64 0, .iface 143 (.pointer (some ⟨N, 0, none⟩))]) ∧ Below w.heap.size w w' := by
  have hp : Calls Tryz.prog 120 #[.string t, .int .i64 16, .int .i64 16] w fun e w' => e = .returned (.tuple #[.int .u64 0, .iface 140 (.int .i64 2)]) ∧ Below w.heap.size w w' := by
    by_cases h0 : t.size = 0
    · have ht : t = ⟨#[]⟩ := by
        cases t with
        | mk d => congr 1; exact Array.eq_empty_of_size_eq_zero h0
      rw [ht]
      exact (Tryz.internal_strconv_ParseUint_empty 16 16 w).mono fun e w' ⟨h1, h2⟩ => ⟨h1, by rw [h2]; exact Below.refl _ _⟩
    · have hp := parse16_any t w h0 h4
      unfold ParseEnd at hp
      rcases hn with hn | hn
      · exact absurd hn h0
      · rw [hn] at hp; exact hp
  have hte := fun w1 (h1 : Below w.heap.size w w1) ev hev hev2 => Tryz.strconv_toError_syntax ⟨#[80, 97, 114, 115, 101, 85, 105, 110, 116]⟩ t 16 16 ev w1 (by omega) hev hev2
  clear hn
  go_enter Tryz.func225, Tryz.ntmps225
  go_wp2_with fail
  refine hp.mono ?_
  rintro e w1 ⟨rfl, hb⟩
  obtain ⟨ev, he1, he2⟩ := hT.below hb
  have hte1 := hte w1 hb ev he1 he2
  have HB := Lib.hid hb
  clear hb hp hte he1 he2 hT
  go_wp2_with fail
  refine hte1.mono ?_
  rintro e w2 ⟨N, rfl, _, _, hb2⟩
  have HB2 := Lib.hid (HB.out.trans (hb2.mono HB.out.size))
  clear hb2 hte1
  go_wp2_with fail
  go_ret2
  exact ⟨N, rfl, HB2.out⟩
/-- What unit does: the number, or the error. -/
def UnitEnd (W : World) (b : Nat) (s : ByteArray) (x y z : Nat) : Option (Nat × List UInt8) → Ending → World → Prop
  | some (n, _), e, w' => e = .returned (.int .i64 n) ∧ x + 4 ≤ s.size ∧ PAt w' b s (x + 4) y z ∧ But b W w'
  | none, e, w' => Bad 4 b W e w'
set_option maxRecDepth 100000 in
set_option maxHeartbeats 2000000 in
theorem unit_some (W : World) (b : Nat) (s : ByteArray) (x y z n : Nat) (h : PAt W b s x y z) (hx : x + 4 ≤ s.size) (hz : s.size ≤ 1000000) (hn : hexF 0 ((s.data.toList.drop x).take 4) = some n) :
    Calls Tryz.prog 216 #[.pointer (some ⟨b, 0, none⟩)] W fun e w' => e = .returned (.int .i64 n) ∧ PAt w' b s (x + 4) y z ∧ But b W w' := by
  obtain ⟨k0, k1, k2, k3, kf⟩ := h.cells
  have hn16 : n < 65536 := by
    have := hexF_le _ 0 n hn
    rw [List.length_take] at this
    have h2 : 16 ^ min 4 (s.data.toList.drop x).length ≤ 16 ^ 4 := Nat.pow_le_pow_right (by decide) (by omega)
    have e : (16 : Nat) ^ 4 = 65536 := by decide
    omega
  have hw4 : IntKind.i64.wrap ((x : Int) + 4) = ((x + 4 : Nat) : Int) := by rw [IntWalk.i64_in _ (by omega)]; omega
  have hmin : min ((x + 4 : Nat) : Int) (s.size : Int) = ((x + 4 : Nat) : Int) := by omega
  obtain ⟨X, hX⟩ : ∃ X, x + 4 = X := ⟨_, rfl⟩
  rw [hX] at hw4 hmin hx
  have hx1 : (x : Int) ≤ (X : Int) := by omega
  have hx2 : (X : Int) ≤ (s.size : Int) := by omega
  have hx3 : ¬ (X : Int) < (X : Int) := by omega
  have hx4 : decide ((X : Int) < (X : Int)) = false := decide_eq_false hx3
  have hsz : (s.extract x X).size = 4 := by rw [ByteArray.size_extract]; omega
  have hp := fun w => parseU_some (s.extract x X) w (by omega) (by omega) n (by rw [ex_list, show X - x = 4 by omega]; exact hn)
  have H := Lib.hid h
  have HXe := Lib.hid hX
  clear h hn hX
  go_enter Tryz.func216, Tryz.ntmps216
  go_wp2_with fail
  go_quiet (fail)
  go_wp2_with fail
  have HP0 : Hid (PAt (W.drewN nq) b s x y z) := Lib.hid (H.out.below (drewN_below W nq))
  have HB0 : Hid (But b W (W.drewN nq)) := Lib.hid (But.of (drewN_below W nq))
  generalize W.drewN nq = w0 at *
  have HPd : Hid (PAt w0.drew b s x y z) := Lib.hid (HP0.out.below (Below.refl _ _).drew)
  obtain ⟨d0, d1, _, _, _⟩ := HPd.out.cells
  have HBd : Hid (But b W w0.drew) := Lib.hid (HB0.out.trans (But.of (Below.refl _ _).drew))
  go_region_held3 (fun u => u.cell? ⟨b, 0, none⟩ = some (.string s) ∧ u.cell? ⟨b, 1, none⟩ = some (.int .i64 x)) (first | exact ⟨d0, d1⟩ | exact ⟨y0, y1⟩ | go_keep) ((go_at_call 225; (with_reducible refine Calls.mono (hp _) ?_); rintro e w5 ⟨rfl, hb5⟩; have HP5 := HPd.out.below hb5; have y0 := HP5.cells.1; have y1 := HP5.cells.2.1))
  have HPF := Lib.hid HP5
  have HBF := Lib.hid (HBd.out.trans (But.of hb5))
  have yf := HP5.cells.2.2.2.2
  clear hb5 HP5 d0 d1 hp k0 k1 k2 k3 kf
  go_wp2_with fail
  go_ret
  exact ⟨rfl, by rw [HXe.out]; exact HPF.out.set1 X, HBF.out.trans (But.set _ _ _ _)⟩
set_option maxRecDepth 100000 in
set_option maxHeartbeats 2000000 in
theorem unit_none (W : World) (b : Nat) (s : ByteArray) (x y z : Nat) (h : PAt W b s x y z) (hT : Tab0 W) (hx : x + 4 ≤ s.size) (hz : s.size ≤ 1000000) (hn : hexF 0 ((s.data.toList.drop x).take 4) = none) :
    Calls Tryz.prog 216 #[.pointer (some ⟨b, 0, none⟩)] W (Bad 4 b W) := by
  obtain ⟨k0, k1, k2, k3, kf⟩ := h.cells
  have hw4 : IntKind.i64.wrap ((x : Int) + 4) = ((x + 4 : Nat) : Int) := by rw [IntWalk.i64_in _ (by omega)]; omega
  have hmin : min ((x + 4 : Nat) : Int) (s.size : Int) = ((x + 4 : Nat) : Int) := by omega
  obtain ⟨X, hX⟩ : ∃ X, x + 4 = X := ⟨_, rfl⟩
  rw [hX] at hw4 hmin hx
  have hx1 : (x : Int) ≤ (X : Int) := by omega
  have hx2 : (X : Int) ≤ (s.size : Int) := by omega
  have hsz : (s.extract x X).size = 4 := by rw [ByteArray.size_extract]; omega
  have hp := fun w (hw : Tab0 w) => parseU_none (s.extract x X) w hw (by omega) (.inr (by rw [ex_list, show X - x = 4 by omega]; exact hn))
  have H := Lib.hid h
  have HT := Lib.hid hT
  clear h hn hT
  go_enter Tryz.func216, Tryz.ntmps216
  go_wp2_with fail
  go_quiet (fail)
  go_wp2_with fail
  have HP0 : Hid (PAt (W.drewN nq) b s x y z) := Lib.hid (H.out.below (drewN_below W nq))
  have HB0 : Hid (But b W (W.drewN nq)) := Lib.hid (But.of (drewN_below W nq))
  have HT0 : Hid (Tab0 (W.drewN nq)) := Lib.hid (HT.out.below (drewN_below W nq))
  generalize W.drewN nq = w0 at *
  have HPd : Hid (PAt w0.drew b s x y z) := Lib.hid (HP0.out.below (Below.refl _ _).drew)
  have HTd : Hid (Tab0 w0.drew) := Lib.hid (HT0.out.below (Below.refl _ _).drew)
  obtain ⟨d0, d1, _, _, _⟩ := HPd.out.cells
  have HBd : Hid (But b W w0.drew) := Lib.hid (HB0.out.trans (But.of (Below.refl _ _).drew))
  go_region_held3 (fun u => u.cell? ⟨b, 0, none⟩ = some (.string s) ∧ u.cell? ⟨b, 1, none⟩ = some (.int .i64 x)) (first | exact ⟨d0, d1⟩ | exact ⟨y0, y1⟩ | go_keep) ((go_at_call 225; (with_reducible refine Calls.mono (hp _ HTd.out) ?_); rintro e w5 ⟨N5, rfl, hb5⟩; have HP5 := HPd.out.below hb5; have y0 := HP5.cells.1; have y1 := HP5.cells.2.1))
  have HBF := Lib.hid (HBd.out.trans (But.of hb5))
  clear hb5 HP5 d0 d1 hp k0 k1 k2 k3 kf
  go_wp2_with fail
  exact ⟨rfl, rfl, HBF.out⟩
set_option maxRecDepth 100000 in
set_option maxHeartbeats 2000000 in
theorem unit_short (W : World) (b : Nat) (s : ByteArray) (x y z : Nat) (h : PAt W b s x y z) (hT : Tab0 W) (hxs : x ≤ s.size) (hx : s.size < x + 4) (hz : s.size ≤ 1000000) :
    Calls Tryz.prog 216 #[.pointer (some ⟨b, 0, none⟩)] W (Bad 4 b W) := by
  obtain ⟨k0, k1, k2, k3, kf⟩ := h.cells
  have hw4 : IntKind.i64.wrap ((x : Int) + 4) = ((x + 4 : Nat) : Int) := by rw [IntWalk.i64_in _ (by omega)]; omega
  have hmin : min ((x + 4 : Nat) : Int) (s.size : Int) = (s.size : Int) := by omega
  obtain ⟨X, hX⟩ : ∃ X, x + 4 = X := ⟨_, rfl⟩
  rw [hX] at hw4 hmin hx
  have hx1 : (x : Int) ≤ (s.size : Int) := by omega
  have hx3 : (s.size : Int) < (X : Int) := by omega
  have hx4 : decide (s.size < X) = true := decide_eq_true hx
  have hx0 : (0 : Int) ≤ (x : Int) := by omega
  have hsz : (s.extract x s.size).size < 4 := by rw [ByteArray.size_extract]; omega
  have H := Lib.hid h
  have HT := Lib.hid hT
  clear h hT
  by_cases hg : (s.extract x s.size).size ≠ 0 ∧ ∃ n, hexF 0 (s.extract x s.size).data.toList = some n
  · obtain ⟨h0, n, hn⟩ := hg
    have hp := fun w => parseU_some (s.extract x s.size) w h0 (by omega) n hn
    clear hn
    go_enter Tryz.func216, Tryz.ntmps216
    go_wp2_with fail
    go_quiet (fail)
    go_wp2_with fail
    have HP0 : Hid (PAt (W.drewN nq) b s x y z) := Lib.hid (H.out.below (drewN_below W nq))
    have HB0 : Hid (But b W (W.drewN nq)) := Lib.hid (But.of (drewN_below W nq))
    generalize W.drewN nq = w0 at *
    have HPd : Hid (PAt w0.drew b s x y z) := Lib.hid (HP0.out.below (Below.refl _ _).drew)
    obtain ⟨d0, d1, _, _, _⟩ := HPd.out.cells
    have HBd : Hid (But b W w0.drew) := Lib.hid (HB0.out.trans (But.of (Below.refl _ _).drew))
    go_region_held3 (fun u => u.cell? ⟨b, 0, none⟩ = some (.string s) ∧ u.cell? ⟨b, 1, none⟩ = some (.int .i64 x)) (first | exact ⟨d0, d1⟩ | exact ⟨y0, y1⟩ | go_keep) ((go_at_call 225; (with_reducible refine Calls.mono (hp _) ?_); rintro e w5 ⟨rfl, hb5⟩; have HP5 := HPd.out.below hb5; have y0 := HP5.cells.1; have y1 := HP5.cells.2.1))
    have HBF := Lib.hid (HBd.out.trans (But.of hb5))
    clear hb5 HP5 d0 d1 hp k0 k1 k2 k3 kf
    go_wp2_with fail
    exact ⟨rfl, rfl, HBF.out⟩
  · have hp := fun w (hw : Tab0 w) => parseU_none (s.extract x s.size) w hw (by omega) (by
      by_cases h0 : (s.extract x s.size).size = 0
      · exact .inl h0
      · right
        cases hh : hexF 0 (s.extract x s.size).data.toList with
        | none => rfl
        | some n => exact absurd ⟨h0, n, hh⟩ hg)
    clear hg
    go_enter Tryz.func216, Tryz.ntmps216
    go_wp2_with fail
    go_quiet (fail)
    go_wp2_with fail
    have HP0 : Hid (PAt (W.drewN nq) b s x y z) := Lib.hid (H.out.below (drewN_below W nq))
    have HB0 : Hid (But b W (W.drewN nq)) := Lib.hid (But.of (drewN_below W nq))
    have HT0 : Hid (Tab0 (W.drewN nq)) := Lib.hid (HT.out.below (drewN_below W nq))
    generalize W.drewN nq = w0 at *
    have HPd : Hid (PAt w0.drew b s x y z) := Lib.hid (HP0.out.below (Below.refl _ _).drew)
    have HTd : Hid (Tab0 w0.drew) := Lib.hid (HT0.out.below (Below.refl _ _).drew)
    obtain ⟨d0, d1, _, _, _⟩ := HPd.out.cells
    have HBd : Hid (But b W w0.drew) := Lib.hid (HB0.out.trans (But.of (Below.refl _ _).drew))
    go_region_held3 (fun u => u.cell? ⟨b, 0, none⟩ = some (.string s) ∧ u.cell? ⟨b, 1, none⟩ = some (.int .i64 x)) (first | exact ⟨d0, d1⟩ | exact ⟨y0, y1⟩ | go_keep) ((go_at_call 225; (with_reducible refine Calls.mono (hp _ HTd.out) ?_); rintro e w5 ⟨N5, rfl, hb5⟩; have HP5 := HPd.out.below hb5; have y0 := HP5.cells.1; have y1 := HP5.cells.2.1))
    have HBF := Lib.hid (HBd.out.trans (But.of hb5))
    clear hb5 HP5 d0 d1 hp k0 k1 k2 k3 kf
    go_wp2_with fail
    exact ⟨rfl, rfl, HBF.out⟩
theorem unit_any (W : World) (b : Nat) (s : ByteArray) (x y z : Nat) (h : PAt W b s x y z) (hT : Tab0 W) (hxs : x ≤ s.size) (hz : s.size ≤ 1000000) :
    Calls Tryz.prog 216 #[.pointer (some ⟨b, 0, none⟩)] W (UnitEnd W b s x y z (unit4 (s.data.toList.drop x))) := by
  have hl : (s.data.toList.drop x).length = s.size - x := by rw [List.length_drop, ← Lib.size_eq]
  rw [unit4_hex, hl]
  by_cases hx : x + 4 ≤ s.size
  · rw [if_pos (by omega)]
    cases hn : hexF 0 ((s.data.toList.drop x).take 4) with
    | none => exact unit_none W b s x y z h hT hx hz hn
    | some n => exact (unit_some W b s x y z n h hx hz hn).mono fun e w' ⟨h1, h2, h3⟩ => ⟨h1, hx, h2, h3⟩
  · rw [if_neg (by omega)]
    exact unit_short W b s x y z h hT hxs (by omega) hz
end Go.Proofs.YtgcpgieojckheaaGreatDoor.Json
namespace Go.Proofs.YtgcpgieojckheaaGreatDoor.Json
open Go.RowKit Go.Shelf

theorem drop_cons {l : List UInt8} {x : Nat} {c : UInt8} {r : List UInt8} (h : l.drop x = c :: r) : x < l.length ∧ l[x]? = some c ∧ r = l.drop (x + 1) := by
  have h1 : x < l.length := by
    rcases Nat.lt_or_ge x l.length with g | g
    · exact g
    · rw [List.drop_of_length_le g] at h; cases h
  rw [List.drop_eq_getElem_cons h1] at h
  injection h with h2 h3
  exact ⟨h1, by rw [List.getElem?_eq_getElem h1, h2], h3.symm⟩
theorem need_yes (W : World) (b : Nat) (s : ByteArray) (x y z : Nat) (c : UInt8) (r : List UInt8) (h : PAt W b s x y z) (hz : s.size ≤ 1000000) (hd : s.data.toList.drop x = c :: r) :
    Calls Tryz.prog 180 #[.pointer (some ⟨b, 0, none⟩), .int .u8 c.toNat] W fun e w' => e = .returned NoVal ∧ PAt w' b s (x + 1) y z ∧ But b W w' := by
  obtain ⟨h1, h2, _⟩ := drop_cons hd
  rw [← Lib.size_eq] at h1
  rw [get_list h1] at h2
  exact need_ok W b s x y z c h h1 hz (Option.some.inj h2)
theorem need_no (W : World) (b : Nat) (s : ByteArray) (x y z : Nat) (c : UInt8) (h : PAt W b s x y z) (hx : x ≤ s.size) (hd : ∀ r, s.data.toList.drop x ≠ c :: r) :
    Calls Tryz.prog 180 #[.pointer (some ⟨b, 0, none⟩), .int .u8 c.toNat] W (Bad 4 b W) := by
  rcases Nat.lt_or_ge x s.size with g | g
  · refine need_bad W b s x y z c h g fun e => ?_
    apply hd (s.data.toList.drop (x + 1))
    rw [List.drop_eq_getElem_cons (by rw [← Lib.size_eq]; exact g)]
    congr 1
  · exact need_end W b s x y z c h (by omega)
/-- What is read of a String: a text, and what is left; or the error. -/
def StrEnd (W : World) (b : Nat) (s : ByteArray) (x y z : Nat) : Option (List UInt8 × List UInt8) → Ending → World → Prop
  | some (t, r), e, w' => ∃ k, x ≤ k ∧ k ≤ s.size ∧ r = s.data.toList.drop k ∧ e = .returned (bl t) ∧ PAt w' b s k y z ∧ But b W w'
  | none, e, w' => Bad 4 b W e w'
theorem Bad.trans {k : Int} {b : Nat} {W w w' : World} {e : Ending} (hb : But b W w) (h : Bad k b w e w') : Bad k b W e w' := ⟨h.1, hb.trans h.2⟩
theorem unit4_some {l r : List UInt8} {n : Nat} (h : unit4 l = some (n, r)) : r = l.drop 4 := by
  rw [unit4_hex] at h
  split at h
  · cases hh : hexF 0 (l.take 4) with
    | none => rw [hh] at h; cases h
    | some m => rw [hh] at h; simp at h; exact h.2.symm
  · cases h
set_option maxRecDepth 100000 in
set_option maxHeartbeats 4000000 in
theorem units_any (W : World) (b : Nat) (s : ByteArray) (x y z : Nat) (h : PAt W b s x y z) (hT : Tab0 W) (b0 : b ≠ 0) (hx : x ≤ s.size) (hz : s.size ≤ 1000000) :
    Calls Tryz.prog 205 #[.pointer (some ⟨b, 0, none⟩)] W (StrEnd W b s x y z (units (s.data.toList.drop x))) := by
  have hU := unit_any W b s x y z h hT hx hz
  have HT := Lib.hid hT
  have HV : Hid (units (s.data.toList.drop x) = match unit4 (s.data.toList.drop x) with
    | none => none
    | some (a, r) =>
      if (Utf.putB a).size ≠ 0 then some ((Utf.putB a).data.toList, r)
      else match r with
        | 92 :: 117 :: r2 =>
          match unit4 r2 with
          | none => none
          | some (b, r3) => if Utf.pairQ a b then some ((Utf.putB (Utf.pairP a b)).data.toList, r3) else none
        | _ => none) := Lib.hid rfl
  generalize units (s.data.toList.drop x) = V at *
  clear h hT
  cases hu : unit4 (s.data.toList.drop x) with
  | none =>
    rw [hu] at hU HV
    have HV2 : Hid (V = none) := Lib.hid HV.out
    clear hu HV
    go_enter Tryz.func205, Tryz.ntmps205
    go_wp2_with fail
    refine hU.mono ?_
    rintro e w1 ⟨rfl, hb⟩
    have HB := Lib.hid hb
    clear hb hU
    go_wp2_with fail
    rw [HV2.out]
    exact ⟨rfl, rfl, HB.out⟩
  | some p =>
    obtain ⟨a, r⟩ := p
    have hr4 := unit4_some hu
    rw [hu] at hU HV
    rw [List.drop_drop] at hr4
    simp only at HV
    have HR := Lib.hid hr4
    clear hu hr4
    have hpa := Utf.put_any (a : Int)
    by_cases hp : (Utf.putB (a : Int)).size ≠ 0
    · have HV2 : Hid (V = some ((Utf.putB (a : Int)).data.toList, r)) := Lib.hid (by rw [HV.out, if_pos hp])
      have hemp : (Utf.putB (a : Int)).toList.isEmpty = false := Utf.isEmpty_no (by omega)
      clear HV hp
      generalize Utf.putB (a : Int) = P at *
      go_enter Tryz.func205, Tryz.ntmps205
      go_wp2_with fail
      refine hU.mono ?_
      rintro e w1 ⟨rfl, hx4, hP1, hb1⟩
      have HP1 := Lib.hid hP1
      have HB1 := Lib.hid hb1
      clear hP1 hb1 hU
      go_wp2_with fail
      refine (hpa _).mono ?_
      rintro e w2 ⟨rfl, rfl⟩
      go_wp2_with fail
      go_ret
      rw [HV2.out]
      exact ⟨x + 4, by omega, hx4, HR.out, by simp [bl], HP1.out, HB1.out⟩
    · have hr : r = s.data.toList.drop (x + 4) := HR.out
      have hemp : (Utf.putB (a : Int)).toList.isEmpty = true := Utf.isEmpty_yes (Decidable.not_not.1 hp)
      have HV1 : Hid (V = match (generalizing := false) r with
        | 92 :: 117 :: r2 =>
          match unit4 r2 with
          | none => none
          | some (b, r3) => if Utf.pairQ a b then some ((Utf.putB (Utf.pairP a b)).data.toList, r3) else none
        | _ => none) := Lib.hid (by rw [HV.out, if_neg hp])
      clear HV hp
      generalize Utf.putB (a : Int) = P at *
      by_cases hd : ∃ r1, r = 92 :: r1
      · obtain ⟨r1, rfl⟩ := hd
        obtain ⟨hq1, _, hq2⟩ := drop_cons hr.symm
        rw [← Lib.size_eq] at hq1
        have HQ2 := Lib.hid hq2
        by_cases hd2 : ∃ r2, r1 = 117 :: r2
        · obtain ⟨r2, rfl⟩ := hd2
          obtain ⟨hq3, _, hq4⟩ := drop_cons hq2.symm
          rw [← Lib.size_eq] at hq3
          have HQ4 := Lib.hid hq4
          have HV2 : Hid (V = match (generalizing := false) unit4 r2 with
            | none => none
            | some (b, r3) => if Utf.pairQ a b then some ((Utf.putB (Utf.pairP a b)).data.toList, r3) else none) := Lib.hid HV1.out
          have hU2 := fun w hw ht => unit_any w b s (x + 6) y z hw ht (by omega) hz
          rw [show x + 6 = x + 4 + 1 + 1 by omega, ← HQ4.out] at hU2
          clear HV1 hr hq2 hq4
          cases hu : unit4 r2 with
          | none =>
            rw [hu] at hU2 HV2
            have HV3 : Hid (V = none) := Lib.hid HV2.out
            clear hu HV2
            have hn1 := fun w hw => need_yes w b s (x + 4) y z 92 _ hw hz HR.out.symm
            have hn2 := fun w hw => need_yes w b s (x + 4 + 1) y z 117 _ hw hz HQ2.out.symm
            go_enter Tryz.func205, Tryz.ntmps205
            go_wp2_with fail
            refine hU.mono ?_
            rintro e w1 ⟨rfl, hx4, hP1, hb1⟩
            have HP1 := Lib.hid hP1
            have HB1 := Lib.hid hb1
            have HT1 := Lib.hid (HT.out.but hb1 b0)
            clear hP1 hb1 hU
            go_wp2_with fail
            refine (hpa _).mono ?_
            rintro e w2 ⟨rfl, rfl⟩
            go_wp2_with fail
            refine (hn1 _ HP1.out).mono ?_
            rintro e w3 ⟨rfl, hP2, hb2⟩
            have HP2 := Lib.hid hP2
            have HB2 := Lib.hid hb2
            clear hP2 hb2
            go_wp2_with fail
            refine (hn2 _ HP2.out).mono ?_
            rintro e w4 ⟨rfl, hP3, hb3⟩
            have HB3b := Lib.hid (HB2.out.trans hb3)
            have HB3 := Lib.hid (HB1.out.trans HB3b.out)
            have HP3 := Lib.hid hP3
            clear hP3 hb3 hn1 hn2
            go_wp2_with fail
            refine (hU2 _ HP3.out (HT1.out.but HB3b.out b0)).mono ?_
            rintro e w4 hbad
            obtain ⟨rfl, hb4⟩ := hbad
            have HB4 := Lib.hid (HB3.out.trans hb4)
            clear hb4
            go_wp2_with fail
            rw [HV3.out]
            exact ⟨rfl, rfl, HB4.out⟩
          | some p2 =>
            obtain ⟨b2, r3⟩ := p2
            have hr3 := unit4_some hu
            rw [HQ4.out, List.drop_drop] at hr3
            have HR3 := Lib.hid hr3
            rw [hu] at hU2 HV2
            have hpr := Utf.pair_any (a : Int) (b2 : Int)
            have hpp := Utf.put_any (Utf.pairP (a : Int) (b2 : Int))
            simp only at HV2
            clear hu hr3
            cases hq : Utf.pairQ (a : Int) (b2 : Int) with
            | false =>
              rw [hq] at hpr HV2
              have HV3 : Hid (V = none) := Lib.hid (by rw [HV2.out]; rfl)
              clear HV2
              have hn1 := fun w hw => need_yes w b s (x + 4) y z 92 _ hw hz HR.out.symm
              have hn2 := fun w hw => need_yes w b s (x + 4 + 1) y z 117 _ hw hz HQ2.out.symm
              go_enter Tryz.func205, Tryz.ntmps205
              go_wp2_with fail
              refine hU.mono ?_
              rintro e w1 ⟨rfl, hx4, hP1, hb1⟩
              have HP1 := Lib.hid hP1
              have HB1 := Lib.hid hb1
              have HT1 := Lib.hid (HT.out.but hb1 b0)
              clear hP1 hb1 hU
              go_wp2_with fail
              refine (hpa _).mono ?_
              rintro e w2 ⟨rfl, rfl⟩
              go_wp2_with fail
              refine (hn1 _ HP1.out).mono ?_
              rintro e w3 ⟨rfl, hP2, hb2⟩
              have HP2 := Lib.hid hP2
              have HB2 := Lib.hid hb2
              clear hP2 hb2
              go_wp2_with fail
              refine (hn2 _ HP2.out).mono ?_
              rintro e w4 ⟨rfl, hP3, hb3⟩
              have HB3b := Lib.hid (HB2.out.trans hb3)
              have HB3 := Lib.hid (HB1.out.trans HB3b.out)
              have HP3 := Lib.hid hP3
              clear hP3 hb3 hn1 hn2
              go_wp2_with fail
              refine (hU2 _ HP3.out (HT1.out.but HB3b.out b0)).mono ?_
              rintro e w4 ⟨rfl, hx5, hP4, hb4⟩
              have HB4 := Lib.hid (HB3.out.trans hb4)
              clear hb4 hP4
              go_wp2_with fail
              refine (hpr _).mono ?_
              rintro e w5 ⟨rfl, rfl⟩
              go_wp2_with fail
              rw [HV3.out]
              exact ⟨rfl, rfl, HB4.out⟩
            | true =>
              rw [hq] at hpr HV2
              have HV3 : Hid (V = some ((Utf.putB (Utf.pairP (a : Int) (b2 : Int))).data.toList, r3)) := Lib.hid (by rw [HV2.out]; rfl)
              clear HV2
              generalize Utf.pairP (a : Int) (b2 : Int) = PP at *
              have hn1 := fun w hw => need_yes w b s (x + 4) y z 92 _ hw hz HR.out.symm
              have hn2 := fun w hw => need_yes w b s (x + 4 + 1) y z 117 _ hw hz HQ2.out.symm
              go_enter Tryz.func205, Tryz.ntmps205
              go_wp2_with fail
              refine hU.mono ?_
              rintro e w1 ⟨rfl, hx4, hP1, hb1⟩
              have HP1 := Lib.hid hP1
              have HB1 := Lib.hid hb1
              have HT1 := Lib.hid (HT.out.but hb1 b0)
              clear hP1 hb1 hU
              go_wp2_with fail
              refine (hpa _).mono ?_
              rintro e w2 ⟨rfl, rfl⟩
              go_wp2_with fail
              refine (hn1 _ HP1.out).mono ?_
              rintro e w3 ⟨rfl, hP2, hb2⟩
              have HP2 := Lib.hid hP2
              have HB2 := Lib.hid hb2
              clear hP2 hb2
              go_wp2_with fail
              refine (hn2 _ HP2.out).mono ?_
              rintro e w4 ⟨rfl, hP3, hb3⟩
              have HB3b := Lib.hid (HB2.out.trans hb3)
              have HB3 := Lib.hid (HB1.out.trans HB3b.out)
              have HP3 := Lib.hid hP3
              clear hP3 hb3 hn1 hn2
              go_wp2_with fail
              refine (hU2 _ HP3.out (HT1.out.but HB3b.out b0)).mono ?_
              rintro e w4 ⟨rfl, hx5, hP4, hb4⟩
              have HB4 := Lib.hid (HB3.out.trans hb4)
              have HP4 := Lib.hid hP4
              clear hb4 hP4
              go_wp2_with fail
              refine (hpr _).mono ?_
              rintro e w5 ⟨rfl, rfl⟩
              go_wp2_with fail
              refine (hpp _).mono ?_
              rintro e w6 ⟨rfl, rfl⟩
              go_wp2_with fail
              go_ret
              rw [HV3.out]
              exact ⟨_, by omega, hx5, HR3.out, by simp [bl], HP4.out, HB4.out⟩
        · have HV3 : Hid (V = none) := Lib.hid (by
            rw [HV1.out]
            split
            · rename_i r2 h; exact absurd ⟨r2, by injection h⟩ hd2
            · rfl)
          have hn2 := fun w hw => need_no w b s (x + 4 + 1) y z 117 hw (by omega) (fun r2 h => hd2 ⟨r2, HQ2.out.trans h⟩)
          have hn1 := fun w hw => need_yes w b s (x + 4) y z 92 r1 hw hz hr.symm
          clear HV1 hd2
          go_enter Tryz.func205, Tryz.ntmps205
          go_wp2_with fail
          refine hU.mono ?_
          rintro e w1 ⟨rfl, hx4, hP1, hb1⟩
          have HP1 := Lib.hid hP1
          have HB1 := Lib.hid hb1
          have HT1 := Lib.hid (HT.out.but hb1 b0)
          clear hP1 hb1 hU
          go_wp2_with fail
          refine (hpa _).mono ?_
          rintro e w2 ⟨rfl, rfl⟩
          go_wp2_with fail
          refine (hn1 _ HP1.out).mono ?_
          rintro e w3 ⟨rfl, hP3, hb3⟩
          have HB3 := Lib.hid (HB1.out.trans hb3)
          have HP3 := Lib.hid hP3
          clear hP3 hb3
          go_wp2_with fail
          refine (hn2 _ HP3.out).mono ?_
          rintro e w4 ⟨rfl, hb4⟩
          have HB4 := Lib.hid (HB3.out.trans hb4)
          clear hb4
          go_wp2_with fail
          rw [HV3.out]
          exact ⟨rfl, rfl, HB4.out⟩
      · have HV3 : Hid (V = none) := Lib.hid (by
          rw [HV1.out]
          split
          · rename_i r2; exact absurd ⟨_, rfl⟩ hd
          · rfl)
        have hn1 := fun w hw (hle : x + 4 ≤ s.size) => need_no w b s (x + 4) y z 92 hw hle (fun r1 h => hd ⟨r1, hr.trans h⟩)
        clear HV1 hd
        go_enter Tryz.func205, Tryz.ntmps205
        go_wp2_with fail
        refine hU.mono ?_
        rintro e w1 ⟨rfl, hx4, hP1, hb1⟩
        have HP1 := Lib.hid hP1
        have HB1 := Lib.hid hb1
        have HT1 := Lib.hid (HT.out.but hb1 b0)
        clear hP1 hb1 hU
        go_wp2_with fail
        refine (hpa _).mono ?_
        rintro e w2 ⟨rfl, rfl⟩
        go_wp2_with fail
        refine (hn1 _ HP1.out hx4).mono ?_
        rintro e w3 ⟨rfl, hb3⟩
        have HB3 := Lib.hid (HB1.out.trans hb3)
        clear hb3
        go_wp2_with fail
        rw [HV3.out]
        exact ⟨rfl, rfl, HB3.out⟩
end Go.Proofs.YtgcpgieojckheaaGreatDoor.Json
namespace Go.Proofs.YtgcpgieojckheaaGreatDoor.Json
open Go.RowKit Go.Shelf

theorem next_yes (W : World) (b : Nat) (s : ByteArray) (x y z : Nat) (c : UInt8) (r : List UInt8) (h : PAt W b s x y z) (hd : s.data.toList.drop x = c :: r) :
    Calls Tryz.prog 140 #[.pointer (some ⟨b, 0, none⟩)] W fun e w' => e = .returned (.int .u8 c.toNat) ∧ Below W.heap.size W w' := by
  obtain ⟨h1, h2, _⟩ := drop_cons hd
  rw [← Lib.size_eq] at h1
  rw [get_list h1] at h2
  have := next_in W b s x y z h h1
  rw [Option.some.inj h2] at this; exact this
def escL : List UInt8 := [34, 92, 98, 102, 110, 114, 116]
def escM : List UInt8 := [34, 92, 8, 12, 10, 13, 9]
theorem esc_kinds (c : UInt8) : (∃ i : Nat, i < 7 ∧ Lib.indexByte escL c = (i : Int) ∧ meant c = some (escM.getD i 0)) ∨ (Lib.indexByte escL c = -1 ∧ c = 47 ∧ meant c = some 47) ∨ (Lib.indexByte escL c = -1 ∧ c ≠ 47 ∧ meant c = none) := by
  have H : ∀ n < 256, ((Lib.indexByte escL (UInt8.ofNat n)).toNat < 7 ∧ Lib.indexByte escL (UInt8.ofNat n) = ((Lib.indexByte escL (UInt8.ofNat n)).toNat : Int) ∧ meant (UInt8.ofNat n) = some (escM.getD (Lib.indexByte escL (UInt8.ofNat n)).toNat 0)) ∨ (Lib.indexByte escL (UInt8.ofNat n) = -1 ∧ UInt8.ofNat n = 47 ∧ meant (UInt8.ofNat n) = some 47) ∨ (Lib.indexByte escL (UInt8.ofNat n) = -1 ∧ UInt8.ofNat n ≠ 47 ∧ meant (UInt8.ofNat n) = none) := by decide +kernel
  have := H c.toNat c.toNat_lt
  rw [UInt8.ofNat_toNat] at this
  rcases this with ⟨h1, h2, h3⟩ | h | h
  · exact .inl ⟨_, h1, h2, h3⟩
  · exact .inr (.inl h)
  · exact .inr (.inr h)
theorem escM_cut (i : Nat) (h : i < 7) : (⟨#[34, 92, 8, 12, 10, 13, 9]⟩ : ByteArray).extract i (i + 1) = ⟨#[escM.getD i 0]⟩ := by
  apply Utf.ba_ext
  rw [ex_list]
  have : ∀ i < 7, List.take (i + 1 - i) (List.drop i (⟨#[34, 92, 8, 12, 10, 13, 9]⟩ : ByteArray).data.toList) = (⟨#[escM.getD i 0]⟩ : ByteArray).data.toList := by decide +kernel
  exact this i h
/-- What is read behind a place at which \ must stand. -/
def escS (l : List UInt8) : Option (List UInt8 × List UInt8) :=
  match l with
  | 92 :: r => escR r
  | _ => none
set_option maxRecDepth 100000 in
set_option maxHeartbeats 4000000 in
theorem escaped_any (W : World) (b : Nat) (s : ByteArray) (x y z : Nat) (h : PAt W b s x y z) (hT : Tab0 W) (b0 : b ≠ 0) (hx : x ≤ s.size) (hz : s.size ≤ 1000000) :
    Calls Tryz.prog 181 #[.pointer (some ⟨b, 0, none⟩)] W (StrEnd W b s x y z (escS (s.data.toList.drop x))) := by
  obtain ⟨V, hV⟩ : ∃ V, escS (s.data.toList.drop x) = V := ⟨_, rfl⟩
  rw [hV]
  have HT := Lib.hid hT
  have H := Lib.hid h
  clear hT h
  by_cases hd : ∃ r, s.data.toList.drop x = 92 :: r
  · obtain ⟨r, hr⟩ := hd
    have hq := (drop_cons hr).2.2
    have hq1 : x + 1 ≤ s.size := by have := (drop_cons hr).1; rw [← Lib.size_eq] at this; omega
    have HQ := Lib.hid hq
    have hn1 := need_yes W b s x y z 92 r H.out hz hr
    have HV1 : Hid (V = escR r) := Lib.hid (by rw [← hV, hr]; rfl)
    clear hV hr hq
    cases r with
    | nil =>
      have HV2 : Hid (V = none) := HV1
      have hxs : x + 1 = s.size := by
        have h1 := congrArg List.length HQ.out
        rw [List.length_drop, ← Lib.size_eq] at h1
        simp at h1; omega
      have hn2 := fun w hw => next_end w b s (x + 1) y z hw hxs
      have hn3 := fun w hw => need_end w b s (x + 1) y z 0 hw hxs
      clear HV1
      go_enter Tryz.func181, Tryz.ntmps181
      go_wp2_with fail
      refine hn1.mono ?_
      rintro e w1 ⟨rfl, hP1, hb1⟩
      have HP1 := Lib.hid hP1
      have HB1 := Lib.hid hb1
      clear hP1 hb1 hn1
      go_wp2_with fail
      refine (hn2 _ HP1.out).mono ?_
      rintro e w2 ⟨rfl, hb2⟩
      have HP2 := Lib.hid (HP1.out.below hb2)
      have HB2 := Lib.hid (HB1.out.trans (But.of hb2))
      clear hb2 hn2
      go_wp2_with fail
      refine (hn3 _ HP2.out).mono ?_
      rintro e w3 ⟨rfl, hb3⟩
      have HB3 := Lib.hid (HB2.out.trans hb3)
      clear hb3 hn3
      go_wp2_with fail
      rw [HV2.out]
      exact ⟨rfl, rfl, HB3.out⟩
    | cons c r1 =>
      have hq2 := (drop_cons HQ.out.symm).2.2
      have hq3 : x + 1 + 1 ≤ s.size := by have := (drop_cons HQ.out.symm).1; rw [← Lib.size_eq] at this; omega
      have HQ2 := Lib.hid hq2
      have hn2 := fun w hw => next_yes w b s (x + 1) y z c r1 hw HQ.out.symm
      have hn3 := fun w hw => need_yes w b s (x + 1) y z c r1 hw hz HQ.out.symm
      have hib := fun w => Tryz.strings_IndexByte ⟨#[34, 92, 98, 102, 110, 114, 116]⟩ (c.toNat : Int) w
      have hcc : ((c.toNat : Int)).toNat.toUInt8 = c := by simp
      have hll : (⟨#[34, 92, 98, 102, 110, 114, 116]⟩ : ByteArray).data.toList = escL := rfl
      rw [hcc, hll] at hib
      have HV2 : Hid (V = match meant c with | some b => some ([b], r1) | none => if c = 117 then units r1 else none) := HV1
      clear HV1 hq2 hcc hll
      have hk := esc_kinds c
      generalize Lib.indexByte escL c = I at *
      rcases hk with ⟨i, hi, rfl, hm⟩ | ⟨rfl, rfl, hm⟩ | ⟨rfl, hc47, hm⟩
      · have HV3 : Hid (V = some ([escM.getD i 0], r1)) := Lib.hid (by rw [HV2.out, hm])
        have i0 : (0 : Int) ≤ (i : Int) := by omega
        have hw1 : IntKind.i64.wrap ((i : Int) + 1) = ((i + 1 : Nat) : Int) := by rw [IntWalk.i64_in _ (by omega)]; omega
        have HC := Lib.hid (escM_cut i hi)
        obtain ⟨j, hj⟩ : ∃ j, i + 1 = j := ⟨_, rfl⟩
        rw [hj] at hw1 HC
        have j1 : (i : Int) ≤ (j : Int) := by omega
        have j2 : (j : Int) ≤ 7 := by omega
        clear HV2 hm hj
        go_enter Tryz.func181, Tryz.ntmps181
        go_wp2_with fail
        refine hn1.mono ?_
        rintro e w1 ⟨rfl, hP1, hb1⟩
        have HP1 := Lib.hid hP1
        have HB1 := Lib.hid hb1
        clear hP1 hb1 hn1
        go_wp2_with fail
        refine (hn2 _ HP1.out).mono ?_
        rintro e w2 ⟨rfl, hb2⟩
        have HP2 := Lib.hid (HP1.out.below hb2)
        have HB2 := Lib.hid (HB1.out.trans (But.of hb2))
        clear hb2 hn2
        go_wp2_with fail
        refine (hn3 _ HP2.out).mono ?_
        rintro e w3 ⟨rfl, hP3, hb3⟩
        have HP3 := Lib.hid hP3
        have HB3 := Lib.hid (HB2.out.trans hb3)
        clear hP3 hb3 hn3
        go_wp2_with fail
        refine (hib _).mono ?_
        rintro e w4 ⟨rfl, rfl⟩
        go_wp2_with fail
        go_ret
        rw [HV3.out]
        exact ⟨x + 1 + 1, by omega, hq3, HQ2.out, (by show Ending.returned (.string _) = Ending.returned (.string _); rw [HC.out]), HP3.out, HB3.out⟩
      · have HV3 : Hid (V = some ([47], r1)) := Lib.hid (by rw [HV2.out, hm])
        clear HV2 hm
        go_enter Tryz.func181, Tryz.ntmps181
        go_wp2_with fail
        refine hn1.mono ?_
        rintro e w1 ⟨rfl, hP1, hb1⟩
        have HP1 := Lib.hid hP1
        have HB1 := Lib.hid hb1
        clear hP1 hb1 hn1
        go_wp2_with fail
        refine (hn2 _ HP1.out).mono ?_
        rintro e w2 ⟨rfl, hb2⟩
        have HP2 := Lib.hid (HP1.out.below hb2)
        have HB2 := Lib.hid (HB1.out.trans (But.of hb2))
        clear hb2 hn2
        go_wp2_with fail
        refine (hn3 _ HP2.out).mono ?_
        rintro e w3 ⟨rfl, hP3, hb3⟩
        have HP3 := Lib.hid hP3
        have HB3 := Lib.hid (HB2.out.trans hb3)
        clear hP3 hb3 hn3
        go_wp2_with fail
        refine (hib _).mono ?_
        rintro e w4 ⟨rfl, rfl⟩
        go_wp2_with fail
        go_ret
        rw [HV3.out]
        exact ⟨x + 1 + 1, by omega, hq3, HQ2.out, rfl, HP3.out, HB3.out⟩
      · have h47 : ((c.toNat : Int) == 47) = false := (u8_eq (k := 47) (n := 47) rfl).trans (beq_eq_false_iff_ne.2 hc47)
        have HV3 : Hid (V = if c = 117 then units r1 else none) := Lib.hid (by rw [HV2.out, hm])
        clear HV2 hm
        by_cases hc : c = 117
        · have h117 : ((c.toNat : Int) == 117) = true := (u8_eq (k := 117) (n := 117) rfl).trans (beq_iff_eq.2 hc)
          have HV4 : Hid (V = units r1) := Lib.hid (by rw [HV3.out, if_pos hc])
          have hun := fun w hw ht => units_any w b s (x + 1 + 1) y z hw ht b0 hq3 hz
          rw [← HQ2.out] at hun
          have HV5 : Hid (units r1 = V) := Lib.hid HV4.out.symm
          generalize units r1 = U at *
          clear HV3 hc hc47 HV4
          go_enter Tryz.func181, Tryz.ntmps181
          go_wp2_with fail
          refine hn1.mono ?_
          rintro e w1 ⟨rfl, hP1, hb1⟩
          have HP1 := Lib.hid hP1
          have HB1 := Lib.hid hb1
          clear hP1 hb1 hn1
          go_wp2_with fail
          refine (hn2 _ HP1.out).mono ?_
          rintro e w2 ⟨rfl, hb2⟩
          have HP2 := Lib.hid (HP1.out.below hb2)
          have HB2 := Lib.hid (HB1.out.trans (But.of hb2))
          clear hb2 hn2
          go_wp2_with fail
          refine (hn3 _ HP2.out).mono ?_
          rintro e w3 ⟨rfl, hP3, hb3⟩
          have HP3 := Lib.hid hP3
          have HB3 := Lib.hid (HB2.out.trans hb3)
          clear hP3 hb3 hn3
          go_wp2_with fail
          refine (hib _).mono ?_
          rintro e w4 ⟨rfl, rfl⟩
          go_wp2_with fail
          refine (hun _ HP3.out ((HT.out.but HB3.out b0))).mono ?_
          intro e w5 hend
          rw [HV5.out] at hend
          cases V with
          | none =>
            obtain ⟨rfl, hb5⟩ := hend
            have HB5 := Lib.hid (HB3.out.trans hb5)
            clear hb5
            go_wp2_with fail
            exact ⟨rfl, rfl, HB5.out⟩
          | some p =>
            obtain ⟨k, k1, k2, k3, rfl, k4, k5⟩ := hend
            have HF : Hid (StrEnd W b s x y z (some p) (.returned (bl p.1)) w5) := Lib.hid ⟨k, by omega, k2, k3, rfl, k4, HB3.out.trans k5⟩
            clear k3 k4 k5
            go_wp2_with fail
            go_ret
            exact HF.out
        · have h117 : ((c.toNat : Int) == 117) = false := (u8_eq (k := 117) (n := 117) rfl).trans (beq_eq_false_iff_ne.2 hc)
          have HV4 : Hid (V = none) := Lib.hid (by rw [HV3.out, if_neg hc])
          clear HV3 hc hc47
          go_enter Tryz.func181, Tryz.ntmps181
          go_wp2_with fail
          refine hn1.mono ?_
          rintro e w1 ⟨rfl, hP1, hb1⟩
          have HP1 := Lib.hid hP1
          have HB1 := Lib.hid hb1
          clear hP1 hb1 hn1
          go_wp2_with fail
          refine (hn2 _ HP1.out).mono ?_
          rintro e w2 ⟨rfl, hb2⟩
          have HP2 := Lib.hid (HP1.out.below hb2)
          have HB2 := Lib.hid (HB1.out.trans (But.of hb2))
          clear hb2 hn2
          go_wp2_with fail
          refine (hn3 _ HP2.out).mono ?_
          rintro e w3 ⟨rfl, hP3, hb3⟩
          have HP3 := Lib.hid hP3
          have HB3 := Lib.hid (HB2.out.trans hb3)
          clear hP3 hb3 hn3
          go_wp2_with fail
          refine (hib _).mono ?_
          rintro e w4 ⟨rfl, rfl⟩
          go_wp2_with fail
          rw [HV4.out]
          exact ⟨rfl, rfl, HB3.out⟩
  · have HV1 : Hid (V = none) := Lib.hid (by
      rw [← hV]; unfold escS
      split
      · rename_i r h; exact absurd ⟨r, h⟩ hd
      · rfl)
    have hn1 := need_no W b s x y z 92 H.out hx (fun r h => hd ⟨r, h⟩)
    clear hV hd
    go_enter Tryz.func181, Tryz.ntmps181
    go_wp2_with fail
    refine hn1.mono ?_
    rintro e w1 ⟨rfl, hb1⟩
    have HB1 := Lib.hid hb1
    clear hb1 hn1
    go_wp2_with fail
    rw [HV1.out]
    exact ⟨rfl, rfl, HB1.out⟩
end Go.Proofs.YtgcpgieojckheaaGreatDoor.Json
