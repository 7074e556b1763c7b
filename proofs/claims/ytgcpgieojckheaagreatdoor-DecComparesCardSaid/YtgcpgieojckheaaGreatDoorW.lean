/-
  The reference: Get, whole, Form, Own, Of.
-/
import Derived.Test.YtgcpgieojckheaaGreatDoorV
import Derived.Test.YtgcpgieojckheaaGreatDoorS
namespace Go.Proofs.YtgcpgieojckheaaGreatDoor
open Go.RowKit Go.Shelf

def refV (n : Num) : Value := .agg #[.bool n.neg, bl n.digits, .int .i64 n.exp]
def GetEnd (l : List UInt8) (w : World) (e : Ending) (w' : World) : Prop := e = .returned (.tuple #[refV (readR l).1, .int .i64 (readR l).2]) ∧ Below w.heap.size w w'
theorem ref_eq (a : Bool) (b : ByteArray) (c : Int) : refV ⟨a, b.data.toList, c⟩ = .agg #[.bool a, .string b, .int .i64 c] := rfl
theorem large_ref (a : Bool) (b : ByteArray) (c : Int) : (decide ((200 : Int) < (b.size : Int)) || (decide (c < -9999) || decide (9999 < c))) = tooLarge ⟨a, b.data.toList, c⟩ := by
  unfold tooLarge
  have e2 : decide ((200 : Int) < (b.size : Int)) = decide (200 < b.data.toList.length) := by
    rw [decide_eq_decide, Lib.size_eq]; omega
  rw [e2]
set_option maxHeartbeats 2000000 in
theorem rget_any (s : ByteArray) (w : World) (hs : s.size ≤ 30000) : Calls Tryz.prog 46 #[.string s] w (GetEnd s.data.toList w) := by
  have hp := fun W => parse_any s W hs
  have hlen : s.data.toList.length ≤ 30000 := by rw [← Lib.size_eq]; exact hs
  generalize s.data.toList = l at *
  go_enter Tryz.func46, Tryz.ntmps46
  go_wp2_with fail
  have B0 : Below w.heap.size w (w.alloc (.cells #[.bool false, .string ⟨#[]⟩, .int .i64 0] 73)) := galloc (Below.refl _ _) _
  have kR : (w.alloc (.cells #[.bool false, .string ⟨#[]⟩, .int .i64 0] 73)).heap[w.heap.size]? = some (.cells #[.bool false, .string ⟨#[]⟩, .int .i64 0] 73 (0, 0)) := World.alloc_heap_new w _
  generalize w.alloc (.cells #[.bool false, .string ⟨#[]⟩, .int .i64 0] 73) = W0 at *
  have hz0 : w.heap.size < W0.heap.size := (Array.getElem?_eq_some_iff.1 kR).1
  refine (hp _).mono ?_
  rintro e w3 ⟨a, b, c, ok, rfl, hb, h1, h2⟩
  have hz4 : w.heap.size < w3.heap.size := Nat.lt_of_lt_of_le hz0 hb.size
  have hz5 : w3.heap.size ≠ w.heap.size := by omega
  have hz6 : w.heap.size ≠ w3.heap.size := by omega
  have kR3 := (hb.block w.heap.size hz0).trans kR
  have B3 := gcall B0 hb
  obtain ⟨k0, k1, k2, kf⟩ := cells3 kR3
  have HB3 := Lib.hid B3
  have KR3 := Lib.hid kR3
  clear B3 kR3 B0 kR hb hp hz0
  cases ok with
  | false =>
    have hr : readR l = (Num.zero, 4) := readR_none (h1 rfl)
    have HR := Lib.hid hr
    obtain ⟨q0, q1, q2, _⟩ := cells3 (set3a (x := .bool false) (y := .string ⟨#[]⟩) (z := .int .i64 0) KR3.out (.cells #[.bool a, .string b, .int .i64 c] 73))
    clear hr h1 h2
    go_wp2
    exact bodyPost_ret (v := .tuple #[.agg #[.bool false, .string ⟨#[]⟩, .int .i64 0], .int .i64 4]) (by simp [results, Tryz.results46, go_sem, q0, q1, q2]) rfl ⟨by rw [HR.out]; rfl, galloc (gset (gset (gset HB3.out (Nat.le_refl _) _ _) (Nat.le_refl _) _ _) (Nat.le_refl _) _ _) _⟩
  | true =>
    obtain ⟨p, P, hpp, hpo, hv⟩ := h2 rfl
    obtain ⟨l1, l2, _⟩ := parse_len hpp
    have hrd := read_valP hpp hpo (by rw [farR_eq]; omega)
    rw [hv] at hrd
    have hLa := large_ref a b c
    rw [← hLa] at hrd
    have HRD := Lib.hid hrd
    clear h1 h2 hpp hpo hv l1 l2 hrd hLa
    by_cases c1 : (200 : Int) < (b.size : Int)
    · have hr : readR l = (Num.zero, 40) := by rw [HRD.out, decide_eq_true c1]; rfl
      have HR := Lib.hid hr
      obtain ⟨q0, q1, q2, _⟩ := cells3 (set3a (x := .bool false) (y := .string ⟨#[]⟩) (z := .int .i64 0) KR3.out (.cells #[.bool a, .string b, .int .i64 c] 73))
      clear hr
      go_wp2
      exact bodyPost_ret (v := .tuple #[.agg #[.bool false, .string ⟨#[]⟩, .int .i64 0], .int .i64 40]) (by simp [results, Tryz.results46, go_sem, q0, q1, q2]) rfl ⟨by rw [HR.out]; rfl, galloc (gset (gset (gset HB3.out (Nat.le_refl _) _ _) (Nat.le_refl _) _ _) (Nat.le_refl _) _ _) _⟩
    · have d1 : decide ((200 : Int) < (b.size : Int)) = false := decide_eq_false c1
      by_cases c2 : c < -9999
      · have hr : readR l = (Num.zero, 40) := by rw [HRD.out, d1, decide_eq_true c2]; rfl
        have HR := Lib.hid hr
        obtain ⟨q0, q1, q2, _⟩ := cells3 (set3a (x := .bool false) (y := .string ⟨#[]⟩) (z := .int .i64 0) KR3.out (.cells #[.bool a, .string b, .int .i64 c] 73))
        clear hr
        go_wp2
        exact bodyPost_ret (v := .tuple #[.agg #[.bool false, .string ⟨#[]⟩, .int .i64 0], .int .i64 40]) (by simp [results, Tryz.results46, go_sem, q0, q1, q2]) rfl ⟨by rw [HR.out]; rfl, galloc (gset (gset (gset HB3.out (Nat.le_refl _) _ _) (Nat.le_refl _) _ _) (Nat.le_refl _) _ _) _⟩
      · have d2 : decide (c < -9999) = false := decide_eq_false c2
        by_cases c3 : 9999 < c
        · have hr : readR l = (Num.zero, 40) := by rw [HRD.out, d1, d2, decide_eq_true c3]; rfl
          have HR := Lib.hid hr
          obtain ⟨q0, q1, q2, _⟩ := cells3 (set3a (x := .bool false) (y := .string ⟨#[]⟩) (z := .int .i64 0) KR3.out (.cells #[.bool a, .string b, .int .i64 c] 73))
          clear hr
          go_wp2
          exact bodyPost_ret (v := .tuple #[.agg #[.bool false, .string ⟨#[]⟩, .int .i64 0], .int .i64 40]) (by simp [results, Tryz.results46, go_sem, q0, q1, q2]) rfl ⟨by rw [HR.out]; rfl, galloc (gset (gset (gset HB3.out (Nat.le_refl _) _ _) (Nat.le_refl _) _ _) (Nat.le_refl _) _ _) _⟩
        · have d3 : decide (9999 < c) = false := decide_eq_false c3
          have hr : readR l = (⟨a, b.data.toList, c⟩, 0) := by rw [HRD.out, d1, d2, d3]; rfl
          have HR := Lib.hid hr
          obtain ⟨q0, q1, q2, _⟩ := cells3 (set3a (x := .bool a) (y := .string b) (z := .int .i64 c) KR3.out (.cells #[.bool a, .string b, .int .i64 c] 73))
          clear hr
          go_wp2
          exact bodyPost_ret (v := .tuple #[.agg #[.bool a, .string b, .int .i64 c], .int .i64 0]) (by simp [results, Tryz.results46, go_sem, q0, q1, q2]) rfl ⟨by rw [HR.out]; rfl, galloc (gset (gset (gset HB3.out (Nat.le_refl _) _ _) (Nat.le_refl _) _ _) (Nat.le_refl _) _ _) _⟩
theorem itoa_abs (n : Int) (_ : n ≠ 0) : Lib.itoa n = (if n < 0 then [45] else []) ++ Lib.decDigits n.natAbs := by
  unfold Lib.itoa
  by_cases h0 : n < 0
  · rw [if_pos h0, if_pos h0]; rfl
  · rw [if_neg h0, if_neg h0, show n.toNat = n.natAbs by omega]; rfl
/-- The digits that are made so far stand behind those that are left. -/
def Left (N u : Nat) (l : List UInt8) : Prop := (u = 0 → l = Lib.decDigits N) ∧ (0 < u → Lib.decDigits u ++ l = Lib.decDigits N)
theorem Left.step {N u : Nat} {l : List UInt8} (h : Left N u l) (hu : 0 < u) : Left N (u / 10) (UInt8.ofNat (48 + u % 10) :: l) := by
  have e := h.2 hu
  rw [Lib.decDigits] at e
  by_cases h10 : u < 10
  · rw [dif_pos h10] at e
    refine ⟨fun _ => ?_, fun h => by omega⟩
    rw [← e, Nat.mod_eq_of_lt h10]; rfl
  · rw [dif_neg h10] at e
    refine ⟨fun h => by omega, fun _ => ?_⟩
    rw [← e]; simp
theorem Left.len {N u : Nat} {l : List UInt8} (h : Left N u l) : l.length ≤ (Lib.decDigits N).length := by
  rcases Nat.eq_zero_or_pos u with g | g
  · rw [h.1 g]; exact Nat.le_refl _
  · have := congrArg List.length (h.2 g)
    rw [List.length_append] at this; omega
set_option maxHeartbeats 2000000 in
theorem rwhole_any (n : Int) (w : World) (h0 : -9223372036854775808 ≤ n) (h1 : n ≤ 9223372036854775807) :
    Calls Tryz.prog 52 #[.int .i64 n] w fun e w' => e = .returned (bl (Lib.itoa n)) ∧ Below w.heap.size w w' := by
  by_cases hz : n = 0
  · subst hz
    have HE : Hid (bl (Lib.itoa 0) = .string ⟨#[48]⟩) := Lib.hid (by unfold Lib.itoa; rw [if_neg (by decide), Lib.decDigits]; rfl)
    go_enter Tryz.func52, Tryz.ntmps52
    go_wp2
    go_ret
    exact ⟨by rw [HE.out]; rfl, Below.refl _ _⟩
  · obtain ⟨N, hN⟩ : ∃ N, n.natAbs = N := ⟨_, rfl⟩
    have hN0 : 0 < N := by omega
    have hNl : (Lib.decDigits N).length ≤ 19 := decDigits_len N 19 (by omega) (by omega)
    have hI := itoa_abs n hz
    rw [hN] at hI
    have hne : (n == 0) = false := by simpa using hz
    obtain ⟨U, hU⟩ : ∃ U : Nat, IntKind.u64.wrap n = (U : Int) := ⟨(IntKind.u64.wrap n).toNat, by
      have : 0 ≤ IntKind.u64.wrap n := by rw [IntKind.wrap_u64]; omega
      omega⟩
    have hUp : ¬ n < 0 → U = N := fun h => by
      rw [IntKind.wrap_u64] at hU; omega
    have hUn : n < 0 → IntKind.u64.wrap (-(U : Int)) = (N : Int) := fun h => by
      rw [IntKind.wrap_u64] at hU ⊢; omega
    have hNb : N ≤ 9223372036854775808 := by omega
    have HNB := Lib.hid hNb
    have HNL := Lib.hid hNl
    have HI := Lib.hid hI
    have HUP := Lib.hid hUp
    have HUN := Lib.hid hUn
    clear h0 h1 hz hN hI hUp hUn hNb hNl
    by_cases hneg : n < 0
    · have HNEG := Lib.hid hneg
      have hw := HUN.out hneg
      have hdn : decide (n < 0) = true := decide_eq_true hneg
      go_enter Tryz.func52, Tryz.ntmps52
      go_wp2
      go_loopw [3, 4] (fun sv uv wr => ∃ (u : Nat) (S : ByteArray), uv = .int .u64 u ∧ sv = .string S ∧ u ≤ N ∧ S.size ≤ 19 ∧ Hid (Left N u S.data.toList) ∧ Hid (Below w.heap.size w wr)) (fun _ uv _ => (intOf uv).toNat)
      case atStart => exact ⟨N, ⟨#[]⟩, rfl, rfl, Nat.le_refl _, by decide, Lib.hid ⟨fun h => by omega, fun _ => by simp⟩, Lib.hid (Below.refl _ _)⟩
      case round =>
        obtain ⟨u, S, rfl, rfl, hu, hS, HL, HB⟩ := hrel
        by_cases hu0 : 0 < u
        · have hu0' : (0 : Int) < (u : Int) := by omega
          have hst := HL.out.step hu0
          obtain ⟨d, hd⟩ : ∃ d, u % 10 = d := ⟨_, rfl⟩
          obtain ⟨q, hq⟩ : ∃ q, u / 10 = q := ⟨_, rfl⟩
          have hdl : d < 10 := by omega
          have t2 : Int.tmod (u : Int) 10 = (d : Int) := by rw [Int.tmod_eq_emod_of_nonneg (by omega)]; omega
          have t3 : (u : Int) % 10 = (d : Int) := by omega
          have hqb : q ≤ 9223372036854775808 := by have := HNB.out; omega
          have t4 : IntKind.u64.wrap (Int.tdiv (u : Int) 10) = (q : Int) := by rw [Int.tdiv_eq_ediv_of_nonneg (by omega), IntKind.wrap_u64]; omega
          have t5 : IntKind.u64.wrap ((u : Int) / 10) = (q : Int) := by rw [IntKind.wrap_u64]; omega
          clear hqb
          have hqu : q < u := by omega
          have hqN : q ≤ N := by omega
          have hb := dig_byte d hdl
          have hc1 := conv_one wr (48 + d) (UInt8.ofNat (48 + d)) hb
          have hw1 : IntKind.u64.wrap (48 + (d : Int)) = 48 + d := by rw [IntKind.wrap_u64]; omega
          have hw2 : IntKind.u8.wrap (48 + (d : Int)) = 48 + d := by rw [IntKind.wrap_u8]; omega
          rw [hd, hq] at hst
          generalize UInt8.ofNat (48 + d) = c at *
          have HST : Hid (Left N q ((⟨#[c]⟩ : ByteArray) ++ S).data.toList) := Lib.hid (by rw [app_list]; exact hst)
          have hS2 : ((⟨#[c]⟩ : ByteArray) ++ S).size ≤ 19 := by
            rw [Lib.size_eq]; exact Nat.le_trans HST.out.len HNL.out
          have HQU := Lib.hid hqu
          clear hd hq hb hst hqu
          go_wp2
          go_roundw
          case rel => exact ⟨q, _, by rfl, rfl, hqN, hS2, HST, Lib.hid (galloc HB.out _)⟩
          case measure => have := HQU.out; simp [intOf]; omega
        · have hu1 : u = 0 := by omega
          have HLL := Lib.hid (HL.out.1 hu1)
          have hu0' : ¬ (0 : Int) < (u : Int) := by omega
          have HE : Hid (Value.string ((⟨#[45]⟩ : ByteArray) ++ S) = bl (Lib.itoa n)) := Lib.hid (by
            unfold bl
            rw [HI.out, if_pos (by have := HNEG.out; omega), of_list (app_list ⟨#[45]⟩ S), HLL.out])
          clear hu1
          go_wp2
          go_ret
          exact ⟨by rw [← HE.out]; rfl, HB.out⟩
    · have HNEG := Lib.hid hneg
      obtain rfl : U = N := HUP.out hneg
      have hdn : decide (n < 0) = false := decide_eq_false hneg
      go_enter Tryz.func52, Tryz.ntmps52
      go_wp2
      go_loopw [3, 4] (fun sv uv wr => ∃ (u : Nat) (S : ByteArray), uv = .int .u64 u ∧ sv = .string S ∧ u ≤ U ∧ S.size ≤ 19 ∧ Hid (Left U u S.data.toList) ∧ Hid (Below w.heap.size w wr)) (fun _ uv _ => (intOf uv).toNat)
      case atStart => exact ⟨U, ⟨#[]⟩, rfl, rfl, Nat.le_refl _, by decide, Lib.hid ⟨fun h => by omega, fun _ => by simp⟩, Lib.hid (Below.refl _ _)⟩
      case round =>
        obtain ⟨u, S, rfl, rfl, hu, hS, HL, HB⟩ := hrel
        by_cases hu0 : 0 < u
        · have hu0' : (0 : Int) < (u : Int) := by omega
          have hst := HL.out.step hu0
          obtain ⟨d, hd⟩ : ∃ d, u % 10 = d := ⟨_, rfl⟩
          obtain ⟨q, hq⟩ : ∃ q, u / 10 = q := ⟨_, rfl⟩
          have hdl : d < 10 := by omega
          have t2 : Int.tmod (u : Int) 10 = (d : Int) := by rw [Int.tmod_eq_emod_of_nonneg (by omega)]; omega
          have t3 : (u : Int) % 10 = (d : Int) := by omega
          have hqb : q ≤ 9223372036854775808 := by have := HNB.out; omega
          have t4 : IntKind.u64.wrap (Int.tdiv (u : Int) 10) = (q : Int) := by rw [Int.tdiv_eq_ediv_of_nonneg (by omega), IntKind.wrap_u64]; omega
          have t5 : IntKind.u64.wrap ((u : Int) / 10) = (q : Int) := by rw [IntKind.wrap_u64]; omega
          clear hqb
          have hqu : q < u := by omega
          have hqN : q ≤ U := by omega
          have hb := dig_byte d hdl
          have hc1 := conv_one wr (48 + d) (UInt8.ofNat (48 + d)) hb
          have hw1 : IntKind.u64.wrap (48 + (d : Int)) = 48 + d := by rw [IntKind.wrap_u64]; omega
          have hw2 : IntKind.u8.wrap (48 + (d : Int)) = 48 + d := by rw [IntKind.wrap_u8]; omega
          rw [hd, hq] at hst
          generalize UInt8.ofNat (48 + d) = c at *
          have HST : Hid (Left U q ((⟨#[c]⟩ : ByteArray) ++ S).data.toList) := Lib.hid (by rw [app_list]; exact hst)
          have hS2 : ((⟨#[c]⟩ : ByteArray) ++ S).size ≤ 19 := by
            rw [Lib.size_eq]; exact Nat.le_trans HST.out.len HNL.out
          have HQU := Lib.hid hqu
          clear hd hq hb hst hqu
          go_wp2
          go_roundw
          case rel => exact ⟨q, _, by rfl, rfl, hqN, hS2, HST, Lib.hid (galloc HB.out _)⟩
          case measure => have := HQU.out; simp [intOf]; omega
        · have hu1 : u = 0 := by omega
          have HLL := Lib.hid (HL.out.1 hu1)
          have hu0' : ¬ (0 : Int) < (u : Int) := by omega
          have HE : Hid (Value.string S = bl (Lib.itoa n)) := Lib.hid (by
            unfold bl
            rw [HI.out, if_neg (by have := HNEG.out; omega), List.nil_append, ← HLL.out])
          clear hu1
          go_wp2
          go_ret
          exact ⟨by rw [← HE.out]; rfl, HB.out⟩
end Go.Proofs.YtgcpgieojckheaaGreatDoor
