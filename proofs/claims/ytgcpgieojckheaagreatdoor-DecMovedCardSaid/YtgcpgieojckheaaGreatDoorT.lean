/-
  DecMoved.
-/
import Derived.Test.YtgcpgieojckheaaGreatDoorS
namespace Go.Proofs.YtgcpgieojckheaaGreatDoor
open Go.RowKit Go.Shelf

/-- The digits, as the law makes them of bytes. -/
def mk (f : Nat → Nat) (k : Nat) : List UInt8 := (List.range k).map fun i => UInt8.ofNat (48 + f i % 10)
theorem mk_succ (f : Nat → Nat) (k : Nat) : mk f (k + 1) = mk f k ++ [UInt8.ofNat (48 + f k % 10)] := by simp [mk, List.range_succ]
theorem mk_len (f : Nat → Nat) (k : Nat) : (mk f k).length = k := by simp [mk]
theorem mk_dig (f : Nat → Nat) (k : Nat) : ∀ c ∈ mk f k, isDig c = true := by
  intro c hc
  obtain ⟨i, _, rfl⟩ := List.mem_map.1 hc
  have h : (UInt8.ofNat (48 + f i % 10)).toNat = 48 + f i % 10 := by simp [UInt8.toNat_ofNat']; omega
  unfold isDig
  rw [h]; simp; omega
theorem sz_of {s : ByteArray} {l : List UInt8} (h : s.data.toList = l) : s.size = l.length := by rw [Lib.size_eq, h]
def OwnOk (o : ByteArray) (W : World) (e : Ending) (w' : World) : Prop := e = .returned (.tuple #[.string o, .int .i64 0]) ∧ Below W.heap.size W w'
theorem own_ok {s o : ByteArray} {l : List UInt8} (W : World) (ht : Tab W) (hs : s.data.toList = l) (hl : l.length ≤ 1000000000) (ho : ownR l = (o.data.toList, 0)) : Calls Tryz.prog 16 #[.string s] W (OwnOk o W) := by
  have h := own_any s W ht (by rw [sz_of hs]; exact hl)
  unfold OwnEnd at h
  rw [hs, ho] at h
  exact h
set_option maxRecDepth 100000 in
set_option maxHeartbeats 4000000 in
theorem decMoved_some (w : World) (ht : Tab w) (b off len cap : Nat) (hlc : len ≤ cap) (f : Nat → Nat) (hcell : ∀ i, i < len → w.cell? ⟨b, off + i, none⟩ = some (.int .u8 (f i : Nat)) ∧ f i ≤ 255) (y : Nat) (hy : y ≤ 255) (x : Int) :
    Calls Tryz.prog 8 #[.slice (some ⟨b, off, none⟩) len cap, .int .u8 y, .int .i64 x] w fun e w' => e = .returned (.bool true) ∧ Below w.heap.size w w' := by
  have hA := fun W (hW : Below w.heap.size w W) => awake_any W (ht.below hW)
  by_cases hbig : (150 : Int) < (len : Int)
  · have hd : decide ((150 : Int) < (len : Int)) = true := decide_eq_true hbig
    clear hcell
    go_enter Tryz.func8, Tryz.ntmps8
    go_wp2_with fail
    refine (hA _ (Below.refl _ _)).mono ?_
    rintro e w1 ⟨rfl, hb⟩
    have B1 := Lib.hid hb
    clear hb hA
    go_wp2
    go_ret
    exact ⟨rfl, B1.out⟩
  have hd : decide ((150 : Int) < (len : Int)) = false := decide_eq_false hbig
  have hl : len ≤ 150 := by omega
  have HC := Lib.hid hcell
  clear hcell hbig
  obtain ⟨E, hE⟩ : ∃ E : Nat, IntKind.u64.wrap x % 5000 = (E : Int) ∧ E < 5000 := ⟨(IntKind.u64.wrap x % 5000).toNat, by omega, by omega⟩
  have hx0 : 0 ≤ IntKind.u64.wrap x := by rw [IntKind.wrap_u64]; omega
  have hE1 : (IntKind.u64.wrap x).tmod 5000 = (E : Int) := by rw [Int.tmod_eq_emod_of_nonneg hx0]; exact hE.1
  have hE2 := hE.1
  have hE3 : E < 5000 := hE.2
  have hE4 : IntKind.i64.wrap (E : Int) = E := IntWalk.i64_in _ (by omega)
  obtain ⟨n, hn⟩ : ∃ n : Nat, y % 40 = n := ⟨_, rfl⟩
  have hn40 : n < 40 := by omega
  have hn1 : (y : Int).tmod 40 = (n : Int) := by rw [Int.tmod_eq_emod_of_nonneg (by omega)]; omega
  have hn2 : (y : Int) % 40 = (n : Int) := by omega
  have hn4 : IntKind.i64.wrap (n : Int) = n := IntWalk.i64_in _ (by omega)
  have hen : IntKind.i64.wrap ((E : Int) + n) = ((E + n : Nat) : Int) := by rw [IntWalk.i64_in _ (by omega)]; omega
  obtain ⟨o, q1, q2, q3⟩ := own_moved (mk f len) n E (mk_dig _ _) (by rw [mk_len]; omega) (by omega) (by omega)
  have Q1 := Lib.hid q1
  have Q2 := Lib.hid q2
  have Q3 := Lib.hid q3
  obtain ⟨O, hO⟩ : ∃ O : ByteArray, O.data.toList = o := ⟨⟨o.toArray⟩, rfl⟩
  have HO := Lib.hid hO
  have HN := Lib.hid hn
  have HEE := Lib.hid hE
  have HML := Lib.hid (mk_len f len)
  clear q1 q2 q3 hO hn hE hE2 hn2 hx0
  go_enter Tryz.func8, Tryz.ntmps8
  go_wp2_with fail
  refine (hA _ (Below.refl _ _)).mono ?_
  rintro e w1 ⟨rfl, hb⟩
  have B1 := Lib.hid hb
  clear hb hA
  go_wp2
  go_loopw [7, 8] (fun v i wr => ∃ (k : Nat) (S : ByteArray), i = .int .i64 k ∧ k ≤ len ∧ v = .string S ∧ S.size ≤ 151 ∧ Hid (S.data.toList = 49 :: mk f k) ∧ Hid (Below w.heap.size w wr)) (fun _ i _ => len - (intOf i).toNat)
  case atStart => exact ⟨0, ⟨#[49]⟩, rfl, Nat.zero_le _, rfl, by decide, Lib.hid rfl, B1⟩
  case round =>
    obtain ⟨k, S, rfl, hk, rfl, hS, HS, HB⟩ := hrel
    by_cases hlt : k < len
    · have hlt' : (k : Int) < (len : Int) := by omega
      obtain ⟨c0, hf⟩ := HC.out k hlt
      have c1 := (HB.out.cell (p := ⟨b, off + k, none⟩) (World.block_lt_of_cell? w _ c0)).trans c0
      have hb := dig_byte (f k % 10) (by omega)
      have HS1 : Hid ((S ++ ⟨#[UInt8.ofNat (48 + f k % 10)]⟩).data.toList = 49 :: mk f (k + 1)) := Lib.hid (by rw [app_list, HS.out, mk_succ]; rfl)
      generalize f k = z at *
      obtain ⟨d, hd9⟩ : ∃ d, z % 10 = d := ⟨_, rfl⟩
      have hm1 : (z : Int).tmod 10 = (d : Int) := by rw [Int.tmod_eq_emod_of_nonneg (by omega)]; omega
      have hm2 : (z : Int) % 10 = (d : Int) := by omega
      have hdl : d < 10 := by omega
      rw [hd9] at hb HS1
      have hc1 := conv_one wr (48 + d) (UInt8.ofNat (48 + d)) hb
      have hw2 : IntKind.u8.wrap (48 + (d : Int)) = 48 + d := by rw [IntKind.wrap_u8]; omega
      generalize UInt8.ofNat (48 + d) = c at *
      have hS2 : (S ++ ⟨#[c]⟩).size ≤ 151 := by rw [sz_of HS1.out, List.length_cons, mk_len]; omega
      clear hb hd9 c0 hf
      go_wp2
      go_roundw
      case rel => exact ⟨k + 1, _, by go_num, by omega, rfl, hS2, HS1, Lib.hid (galloc HB.out _)⟩
      case measure => simp [intOf]; omega
    · have hlt' : ¬ (k : Int) < (len : Int) := by omega
      obtain rfl : k = len := by omega
      clear hk
      go_wp2
      go_loop [10, 11, 12] (fun t u i => ∃ (j : Nat) (T U : ByteArray), i = .int .i64 j ∧ j ≤ n ∧ t = .string T ∧ u = .string U ∧ T.size ≤ 200 ∧ U.size ≤ 200 ∧ Hid (T.data.toList = (49 :: mk f k) ++ [46, 48] ++ List.replicate j 48) ∧ Hid (U.data.toList = (49 :: mk f k) ++ List.replicate j 48)) (fun _ _ i => n - (intOf i).toNat)
      case atStart => exact ⟨0, _, _, rfl, Nat.zero_le _, rfl, rfl, by rw [sz_of (app_list S ⟨#[46, 48]⟩), HS.out]; simp [mk_len] <;> omega, by omega, Lib.hid (by rw [app_list, HS.out]; simp), Lib.hid (by rw [HS.out]; simp)⟩
      case round =>
        obtain ⟨j, T, U, rfl, hj, rfl, rfl, hT, hU, HT, HU⟩ := hrel
        by_cases hjn : j < n
        · have hjn' : (j : Int) < (n : Int) := by omega
          have HT1 : Hid ((T ++ ⟨#[48]⟩).data.toList = (49 :: mk f k) ++ [46, 48] ++ List.replicate (j + 1) 48) := Lib.hid (by rw [app_list, HT.out, List.replicate_succ']; simp)
          have HU1 : Hid ((U ++ ⟨#[48]⟩).data.toList = (49 :: mk f k) ++ List.replicate (j + 1) 48) := Lib.hid (by rw [app_list, HU.out, List.replicate_succ']; simp)
          have hT2 : (T ++ ⟨#[48]⟩).size ≤ 200 := by rw [sz_of HT1.out]; simp [mk_len]; omega
          have hU2 : (U ++ ⟨#[48]⟩).size ≤ 200 := by rw [sz_of HU1.out]; simp [mk_len]; omega
          go_wp2
          go_round
          case rel => exact ⟨j + 1, _, _, by go_num, by omega, rfl, rfl, hT2, hU2, HT1, HU1⟩
          case measure => simp [intOf]; omega
        · have hjn' : ¬ (j : Int) < (n : Int) := by omega
          obtain rfl : j = n := by omega
          have cN := fun W => number_any (E + j) W (by omega)
          have cM := fun W => number_any E W (by omega)
          unfold bl at cN cM
          obtain ⟨D1, hD1⟩ : ∃ s : ByteArray, (⟨(Lib.decDigits (E + j)).toArray⟩ : ByteArray) = s := ⟨_, rfl⟩
          obtain ⟨D2, hD2⟩ : ∃ s : ByteArray, (⟨(Lib.decDigits E).toArray⟩ : ByteArray) = s := ⟨_, rfl⟩
          have eD1 : D1.data.toList = Lib.decDigits (E + j) := by rw [← hD1]
          have eD2 : D2.data.toList = Lib.decDigits E := by rw [← hD2]
          have zD1 : D1.size ≤ 6000 := by rw [sz_of eD1]; have := decDigits_le (E + j); omega
          have zD2 : D2.size ≤ 6000 := by rw [sz_of eD2]; have := decDigits_le E; omega
          rw [hD1] at cN
          rw [hD2] at cM
          have o1 := fun W (hW : Below w.heap.size w W) => own_ok (s := T ++ ⟨#[101]⟩ ++ D1) (o := O) (l := (49 :: mk f k) ++ [46, 48] ++ List.replicate j 48 ++ [101] ++ Lib.decDigits (E + j)) W (ht.below hW) (by rw [app_list, app_list, HT.out, eD1]) (by have := decDigits_le (E + j); simp [mk_len]; omega) (by rw [HO.out]; exact Q1.out)
          have o2 := fun W (hW : Below w.heap.size w W) => own_ok (s := U ++ ⟨#[69, 43, 48, 48]⟩ ++ D2) (o := O) (l := (49 :: mk f k) ++ List.replicate j 48 ++ [69, 43, 48, 48] ++ Lib.decDigits E) W (ht.below hW) (by rw [app_list, app_list, HU.out, eD2]) (by have := decDigits_le E; simp [mk_len]; omega) (by rw [HO.out]; exact Q2.out)
          have o3 := fun W (hW : Below w.heap.size w W) => own_ok (s := S ++ ⟨#[101]⟩ ++ D1) (o := O) (l := (49 :: mk f k) ++ [101] ++ Lib.decDigits (E + j)) W (ht.below hW) (by rw [app_list, app_list, HS.out, eD1]) (by have := decDigits_le (E + j); simp [mk_len]; omega) (by rw [HO.out]; exact Q3.out)
          clear hD1 hD2 eD1 eD2 hj
          go_wp2_with fail
          refine (cN _).mono ?_
          rintro e v1 ⟨rfl, hb⟩
          have G1 := Lib.hid (gcall HB.out hb)
          clear hb
          go_wp2_with fail
          refine (o1 _ G1.out).mono ?_
          rintro e v2 ⟨rfl, hb⟩
          have G2 := Lib.hid (gcall G1.out hb)
          clear hb o1
          go_wp2_with fail
          refine (cM _).mono ?_
          rintro e v3 ⟨rfl, hb⟩
          have G3 := Lib.hid (gcall G2.out hb)
          clear hb cM
          go_wp2_with fail
          refine (o2 _ G3.out).mono ?_
          rintro e v4 ⟨rfl, hb⟩
          have G4 := Lib.hid (gcall G3.out hb)
          clear hb o2
          go_wp2_with fail
          refine (cN _).mono ?_
          rintro e v5 ⟨rfl, hb⟩
          have G5 := Lib.hid (gcall G4.out hb)
          clear hb cN
          go_wp2_with fail
          refine (o3 _ G5.out).mono ?_
          rintro e v6 ⟨rfl, hb⟩
          have G6 := Lib.hid (gcall G5.out hb)
          clear hb o3
          go_wp2
          go_ret
          exact ⟨by simp, G6.out⟩
set_option maxRecDepth 100000 in
set_option maxHeartbeats 4000000 in
theorem decMoved_none (w : World) (ht : Tab w) (a : Option Addr) (cap : Nat) (y : Nat) (hy : y ≤ 255) (x : Int) :
    Calls Tryz.prog 8 #[.slice a 0 cap, .int .u8 y, .int .i64 x] w fun e w' => e = .returned (.bool true) ∧ Below w.heap.size w w' := by
  have hA := fun W (hW : Below w.heap.size w W) => awake_any W (ht.below hW)
  obtain ⟨E, hE⟩ : ∃ E : Nat, IntKind.u64.wrap x % 5000 = (E : Int) ∧ E < 5000 := ⟨(IntKind.u64.wrap x % 5000).toNat, by omega, by omega⟩
  have hx0 : 0 ≤ IntKind.u64.wrap x := by rw [IntKind.wrap_u64]; omega
  have hE1 : (IntKind.u64.wrap x).tmod 5000 = (E : Int) := by rw [Int.tmod_eq_emod_of_nonneg hx0]; exact hE.1
  have hE2 := hE.1
  have hE3 : E < 5000 := hE.2
  have hE4 : IntKind.i64.wrap (E : Int) = E := IntWalk.i64_in _ (by omega)
  obtain ⟨n, hn⟩ : ∃ n : Nat, y % 40 = n := ⟨_, rfl⟩
  have hn40 : n < 40 := by omega
  have hn1 : (y : Int).tmod 40 = (n : Int) := by rw [Int.tmod_eq_emod_of_nonneg (by omega)]; omega
  have hn2 : (y : Int) % 40 = (n : Int) := by omega
  have hn4 : IntKind.i64.wrap (n : Int) = n := IntWalk.i64_in _ (by omega)
  have hen : IntKind.i64.wrap ((E : Int) + n) = ((E + n : Nat) : Int) := by rw [IntWalk.i64_in _ (by omega)]; omega
  obtain ⟨o, q1, q2, q3⟩ := own_moved (mk (fun _ => 0) 0) n E (mk_dig _ _) (by rw [mk_len]; omega) (by omega) (by omega)
  have Q1 := Lib.hid q1
  have Q2 := Lib.hid q2
  have Q3 := Lib.hid q3
  obtain ⟨O, hO⟩ : ∃ O : ByteArray, O.data.toList = o := ⟨⟨o.toArray⟩, rfl⟩
  have HO := Lib.hid hO
  have HN := Lib.hid hn
  have HEE := Lib.hid hE
  have HML := Lib.hid (mk_len (fun _ => 0) 0)
  clear q1 q2 q3 hO hn hE hE2 hn2 hx0
  go_enter Tryz.func8, Tryz.ntmps8
  go_wp2_with fail
  refine (hA _ (Below.refl _ _)).mono ?_
  rintro e w1 ⟨rfl, hb⟩
  have B1 := Lib.hid hb
  clear hb hA
  go_wp2
  go_loopw [7, 8] (fun v i wr => ∃ (k : Nat) (S : ByteArray), i = .int .i64 k ∧ k ≤ 0 ∧ v = .string S ∧ S.size ≤ 151 ∧ Hid (S.data.toList = 49 :: mk (fun _ => 0) k) ∧ Hid (Below w.heap.size w wr)) (fun _ i _ => 0 - (intOf i).toNat)
  case atStart => exact ⟨0, ⟨#[49]⟩, rfl, Nat.zero_le _, rfl, by decide, Lib.hid rfl, B1⟩
  case round =>
    obtain ⟨k, S, rfl, hk, rfl, hS, HS, HB⟩ := hrel
    · obtain rfl : k = 0 := by omega
      clear hk
      go_wp2
      go_loop [10, 11, 12] (fun t u i => ∃ (j : Nat) (T U : ByteArray), i = .int .i64 j ∧ j ≤ n ∧ t = .string T ∧ u = .string U ∧ T.size ≤ 200 ∧ U.size ≤ 200 ∧ Hid (T.data.toList = (49 :: mk (fun _ => 0) 0) ++ [46, 48] ++ List.replicate j 48) ∧ Hid (U.data.toList = (49 :: mk (fun _ => 0) 0) ++ List.replicate j 48)) (fun _ _ i => n - (intOf i).toNat)
      case atStart => exact ⟨0, _, _, rfl, Nat.zero_le _, rfl, rfl, by rw [sz_of (app_list S ⟨#[46, 48]⟩), HS.out]; simp [mk_len] <;> omega, by omega, Lib.hid (by rw [app_list, HS.out]; simp), Lib.hid (by rw [HS.out]; simp)⟩
      case round =>
        obtain ⟨j, T, U, rfl, hj, rfl, rfl, hT, hU, HT, HU⟩ := hrel
        by_cases hjn : j < n
        · have hjn' : (j : Int) < (n : Int) := by omega
          have HT1 : Hid ((T ++ ⟨#[48]⟩).data.toList = (49 :: mk (fun _ => 0) 0) ++ [46, 48] ++ List.replicate (j + 1) 48) := Lib.hid (by rw [app_list, HT.out, List.replicate_succ']; simp)
          have HU1 : Hid ((U ++ ⟨#[48]⟩).data.toList = (49 :: mk (fun _ => 0) 0) ++ List.replicate (j + 1) 48) := Lib.hid (by rw [app_list, HU.out, List.replicate_succ']; simp)
          have hT2 : (T ++ ⟨#[48]⟩).size ≤ 200 := by rw [sz_of HT1.out]; simp [mk_len]; omega
          have hU2 : (U ++ ⟨#[48]⟩).size ≤ 200 := by rw [sz_of HU1.out]; simp [mk_len]; omega
          go_wp2
          go_round
          case rel => exact ⟨j + 1, _, _, by go_num, by omega, rfl, rfl, hT2, hU2, HT1, HU1⟩
          case measure => simp [intOf]; omega
        · have hjn' : ¬ (j : Int) < (n : Int) := by omega
          obtain rfl : j = n := by omega
          have cN := fun W => number_any (E + j) W (by omega)
          have cM := fun W => number_any E W (by omega)
          unfold bl at cN cM
          obtain ⟨D1, hD1⟩ : ∃ s : ByteArray, (⟨(Lib.decDigits (E + j)).toArray⟩ : ByteArray) = s := ⟨_, rfl⟩
          obtain ⟨D2, hD2⟩ : ∃ s : ByteArray, (⟨(Lib.decDigits E).toArray⟩ : ByteArray) = s := ⟨_, rfl⟩
          have eD1 : D1.data.toList = Lib.decDigits (E + j) := by rw [← hD1]
          have eD2 : D2.data.toList = Lib.decDigits E := by rw [← hD2]
          have zD1 : D1.size ≤ 6000 := by rw [sz_of eD1]; have := decDigits_le (E + j); omega
          have zD2 : D2.size ≤ 6000 := by rw [sz_of eD2]; have := decDigits_le E; omega
          rw [hD1] at cN
          rw [hD2] at cM
          have o1 := fun W (hW : Below w.heap.size w W) => own_ok (s := T ++ ⟨#[101]⟩ ++ D1) (o := O) (l := (49 :: mk (fun _ => 0) 0) ++ [46, 48] ++ List.replicate j 48 ++ [101] ++ Lib.decDigits (E + j)) W (ht.below hW) (by rw [app_list, app_list, HT.out, eD1]) (by have := decDigits_le (E + j); simp [mk_len]; omega) (by rw [HO.out]; exact Q1.out)
          have o2 := fun W (hW : Below w.heap.size w W) => own_ok (s := U ++ ⟨#[69, 43, 48, 48]⟩ ++ D2) (o := O) (l := (49 :: mk (fun _ => 0) 0) ++ List.replicate j 48 ++ [69, 43, 48, 48] ++ Lib.decDigits E) W (ht.below hW) (by rw [app_list, app_list, HU.out, eD2]) (by have := decDigits_le E; simp [mk_len]; omega) (by rw [HO.out]; exact Q2.out)
          have o3 := fun W (hW : Below w.heap.size w W) => own_ok (s := S ++ ⟨#[101]⟩ ++ D1) (o := O) (l := (49 :: mk (fun _ => 0) 0) ++ [101] ++ Lib.decDigits (E + j)) W (ht.below hW) (by rw [app_list, app_list, HS.out, eD1]) (by have := decDigits_le (E + j); simp [mk_len]; omega) (by rw [HO.out]; exact Q3.out)
          clear hD1 hD2 eD1 eD2 hj
          go_wp2_with fail
          refine (cN _).mono ?_
          rintro e v1 ⟨rfl, hb⟩
          have G1 := Lib.hid (gcall HB.out hb)
          clear hb
          go_wp2_with fail
          refine (o1 _ G1.out).mono ?_
          rintro e v2 ⟨rfl, hb⟩
          have G2 := Lib.hid (gcall G1.out hb)
          clear hb o1
          go_wp2_with fail
          refine (cM _).mono ?_
          rintro e v3 ⟨rfl, hb⟩
          have G3 := Lib.hid (gcall G2.out hb)
          clear hb cM
          go_wp2_with fail
          refine (o2 _ G3.out).mono ?_
          rintro e v4 ⟨rfl, hb⟩
          have G4 := Lib.hid (gcall G3.out hb)
          clear hb o2
          go_wp2_with fail
          refine (cN _).mono ?_
          rintro e v5 ⟨rfl, hb⟩
          have G5 := Lib.hid (gcall G4.out hb)
          clear hb cN
          go_wp2_with fail
          refine (o3 _ G5.out).mono ?_
          rintro e v6 ⟨rfl, hb⟩
          have G6 := Lib.hid (gcall G5.out hb)
          clear hb o3
          go_wp2
          go_ret
          exact ⟨by simp, G6.out⟩
end Go.Proofs.YtgcpgieojckheaaGreatDoor
