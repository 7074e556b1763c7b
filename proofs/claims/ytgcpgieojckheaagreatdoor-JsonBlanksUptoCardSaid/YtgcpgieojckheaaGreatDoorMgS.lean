/-
  number; DecMoved.
  The reference: Get, whole, Form, Own, Of.
  The reference: Form, Own, Of, sign.
  The reference: above, Cmp.
-/
import Derived.Test.YtgcpgieojckheaaGreatDoorMgL
import Derived.Test.YtgcpgieojckheaaGreatDoorMgV
import Derived.Laws.IdiomStrings
namespace Go.Proofs.YtgcpgieojckheaaGreatDoor
open Go.RowKit Go.Shelf

theorem u37 : Tryz.prog.underlying 37 = some (.slice 5) := by kernel_rfl
theorem u5 : Tryz.prog.underlying 5 = some (.int .u8) := by kernel_rfl
theorem u9 : Tryz.prog.underlying 9 = some .string := by kernel_rfl
theorem conv_one (w : World) (x : Int) (c : UInt8) (h : (c.toNat : Int) = x) :
    (convert 37 9 (.slice (some ⟨w.heap.size, 0, none⟩) 1 1)).run Tryz.prog (w.alloc (.cells #[.int .u8 x] 5)) = .ok (.string ⟨#[c]⟩) (w.alloc (.cells #[.int .u8 x] 5)) := by
  refine run_convert_bytes_back _ 37 9 5 ⟨w.heap.size, 0, none⟩ 1 [c] u37 u5 u9 fun j hj => ?_
  have : j = 0 := by simp at hj; exact hj
  subst this
  rw [← h]
  simp [Addr.add]
theorem dig_byte (d : Nat) (h : d < 10) : ((UInt8.ofNat (48 + d)).toNat : Int) = 48 + (d : Int) := by
  have : (UInt8.ofNat (48 + d)).toNat = 48 + d := by simp [UInt8.toNat_ofNat']; omega
  rw [this]; omega
set_option maxHeartbeats 1000000 in
theorem number_small (n : Nat) (w : World) (h : n < 10) : Calls Tryz.prog 24 #[.int .i64 n] w fun e w' => e = .returned (bl (Lib.decDigits n)) ∧ Below w.heap.size w w' := by
  have h1 : (n : Int) < 10 := by omega
  have hb := dig_byte n h
  have hc := conv_one w (48 + n) (UInt8.ofNat (48 + n)) hb
  have HE : Hid (Value.string ⟨#[UInt8.ofNat (48 + n)]⟩ = bl (Lib.decDigits n)) := Lib.hid (by rw [Lib.decDigits, dif_pos h]; rfl)
  have hw1 : IntKind.i64.wrap (48 + (n : Int)) = 48 + n := IntWalk.i64_in _ (by omega)
  have hw2 : IntKind.u8.wrap (48 + (n : Int)) = 48 + n := by rw [IntKind.wrap_u8]; omega
  clear hb h
  generalize UInt8.ofNat (48 + n) = c at *
  go_enter Tryz.func24, Tryz.ntmps24
  go_wp2
  go_ret
  exact ⟨by rw [← HE.out]; rfl, galloc (Below.refl _ _) _⟩
theorem conv_at (W : World) (g : Nat) (x : Int) (c : UInt8) (h : (c.toNat : Int) = x) (hc : W.cell? ⟨g, 0, none⟩ = some (.int .u8 x)) :
    (convert 37 9 (.slice (some ⟨g, 0, none⟩) 1 1)).run Tryz.prog W = .ok (.string ⟨#[c]⟩) W := by
  refine run_convert_bytes_back _ 37 9 5 ⟨g, 0, none⟩ 1 [c] u37 u5 u9 fun j hj => ?_
  have : j = 0 := by simp at hj; exact hj
  subst this
  rw [← h] at hc
  simpa [Addr.add] using hc
set_option maxHeartbeats 2000000 in
theorem number_any (n : Nat) : ∀ (w : World), n ≤ 1000000 → Calls Tryz.prog 24 #[.int .i64 n] w fun e w' => e = .returned (bl (Lib.decDigits n)) ∧ Below w.heap.size w w' := by
  induction n using Nat.strongRecOn with
  | _ n ih =>
    intro w hn
    by_cases hs : n < 10
    · exact number_small n w hs
    · have hi := fun W => ih (n / 10) (by omega) W (by omega)
      obtain ⟨q, hq⟩ : ∃ q, n / 10 = q := ⟨_, rfl⟩
      obtain ⟨d, hd⟩ : ∃ d, n % 10 = d := ⟨_, rfl⟩
      have hdl : d < 10 := by omega
      have hb := dig_byte d hdl
      have hc1 := fun W => conv_one W (48 + d) (UInt8.ofNat (48 + d)) hb
      have hc2 := conv_at (w.alloc (.cells #[.int .u8 (48 + d)] 5)).drew w.heap.size (48 + d) (UInt8.ofNat (48 + d)) hb (by simp)
      have h1 : ¬ (n : Int) < 10 := by omega
      have hw1 : IntKind.i64.wrap (48 + (d : Int)) = 48 + d := IntWalk.i64_in _ (by omega)
      have hw2 : IntKind.u8.wrap (48 + (d : Int)) = 48 + d := by rw [IntKind.wrap_u8]; omega
      rw [hq] at hi
      have hm : Int.tmod (n : Int) 10 = (d : Int) := by rw [Int.tmod_eq_emod_of_nonneg (by omega)]; omega
      have hm2 : (n : Int) % 10 = (d : Int) := by omega
      have hdv2 : IntKind.i64.wrap ((n : Int) / 10) = (q : Int) := by rw [IntWalk.i64_in _ (by omega)]; omega
      have hdv : IntKind.i64.wrap (Int.tdiv (n : Int) 10) = (q : Int) := by rw [Int.tdiv_eq_ediv_of_nonneg (by omega)]; rw [IntWalk.i64_in _ (by omega)]; omega
      have zq : (Lib.decDigits q).length ≤ q + 1 := decDigits_le q
      have HE : Hid (∀ c, c = UInt8.ofNat (48 + d) → Lib.decDigits q ++ [c] = Lib.decDigits n) := Lib.hid fun c hc => by
        rw [hc]; conv => rhs; rw [Lib.decDigits]
        rw [dif_neg hs, hq, hd]
      obtain ⟨Q, hQ⟩ : ∃ s : ByteArray, (⟨(Lib.decDigits q).toArray⟩ : ByteArray) = s := ⟨_, rfl⟩
      have eQ : Q.data.toList = Lib.decDigits q := by rw [← hQ]
      have zQ : Q.size ≤ 1000001 := by rw [Lib.size_eq, eQ]; omega
      unfold bl at hi
      rw [hQ] at hi
      have hE2 := HE.out _ rfl
      obtain ⟨c, hcc⟩ : ∃ c, UInt8.ofNat (48 + d) = c := ⟨_, rfl⟩
      rw [hcc] at hb hc1 hc2 hE2
      have HB := Lib.hid hb
      have za : ¬ 9223372036854775807 < Q.size + 1 := by omega
      have HR : Hid (Value.string (Q ++ ⟨#[c]⟩) = bl (Lib.decDigits n)) := Lib.hid (by
        unfold bl
        rw [of_list (app_list Q ⟨#[c]⟩), eQ, ← hE2])
      clear ih hs hq hd hb zq HE hQ eQ hE2 hcc
      go_enter Tryz.func24, Tryz.ntmps24
      go_wp2
      go_region_with ((go_at_call 24; (with_reducible refine Calls.mono (hi _) ?_); rintro e v1 ⟨rfl, hb1⟩; (try (refine (have k1 : v1.cell? ⟨w.heap.size, 0, none⟩ = some (.int .u8 (48 + (d : Int))) := (hb1.cell (p := ⟨w.heap.size, 0, none⟩) ?_).trans ?_; ?_); (· (simp; done)); (· (simp; done)); have kc := conv_at v1 w.heap.size (48 + (d : Int)) c HB.out k1))))
      all_goals
        have HB1 : Hid (Below w.heap.size w v1) := Lib.hid (by first | exact gcall (Below.refl _ _).drew hb1 | exact gcall (galloc (Below.refl _ _) _).drew hb1)
        clear hb1
        go_wp2
        go_ret
        exact ⟨by rw [← HR.out]; rfl, (by first | exact galloc HB1.out _ | exact HB1.out)⟩
end Go.Proofs.YtgcpgieojckheaaGreatDoor
namespace Go.Proofs.YtgcpgieojckheaaGreatDoor
open Go.RowKit Go.Shelf

def refV (n : Num) : Value := .agg #[.bool n.neg, bl n.digits, .int .i64 n.exp]
def GetEnd (l : List UInt8) (w : World) (e : Ending) (w' : World) : Prop := e = .returned (.tuple #[refV (readR l).1, .int .i64 (readR l).2]) ∧ Below w.heap.size w w'
theorem ref_eq (a : Bool) (b : ByteArray) (c : Int) : refV ⟨a, b.data.toList, c⟩ = .agg #[.bool a, .string b, .int .i64 c] := rfl
theorem large_ref (a : Bool) (b : ByteArray) (c : Int) : (decide ((200 : Int) < (b.size : Int)) || (decide (c < -9999) || decide (9999 < c))) = tooLarge ⟨a, b.data.toList, c⟩ := by
  unfold tooLarge
  have e2 : decide ((200 : Int) < (b.size : Int)) = decide (200 < b.data.toList.length) := by
    rw [decide_eq_decide, Lib.size_eq]; omega
  rw [e2]
set_option maxHeartbeats 2000000 in
theorem rget_any (s : ByteArray) (w : World) (hs : s.size ≤ 30000) : Calls Tryz.prog 46 #[.string s] w (GetEnd s.data.toList w) := by
  have hp := fun W => parse_any s W hs
  have hlen : s.data.toList.length ≤ 30000 := by rw [← Lib.size_eq]; exact hs
  generalize s.data.toList = l at *
  go_enter Tryz.func46, Tryz.ntmps46
  go_wp2_with fail
  have B0 : Below w.heap.size w (w.alloc (.cells #[.bool false, .string ⟨#[]⟩, .int .i64 0] 73)) := galloc (Below.refl _ _) _
  have kR : (w.alloc (.cells #[.bool false, .string ⟨#[]⟩, .int .i64 0] 73)).heap[w.heap.size]? = some (.cells #[.bool false, .string ⟨#[]⟩, .int .i64 0] 73 (0, 0)) := World.alloc_heap_new w _
  generalize w.alloc (.cells #[.bool false, .string ⟨#[]⟩, .int .i64 0] 73) = W0 at *
  have hz0 : w.heap.size < W0.heap.size := (Array.getElem?_eq_some_iff.1 kR).1
  refine (hp _).mono ?_
  rintro e w3 ⟨a, b, c, ok, rfl, hb, h1, h2⟩
  have hz4 : w.heap.size < w3.heap.size := Nat.lt_of_lt_of_le hz0 hb.size
  have hz5 : w3.heap.size ≠ w.heap.size := by omega
  have hz6 : w.heap.size ≠ w3.heap.size := by omega
  have kR3 := (hb.block w.heap.size hz0).trans kR
  have B3 := gcall B0 hb
  obtain ⟨k0, k1, k2, kf⟩ := cells3 kR3
  have HB3 := Lib.hid B3
  have KR3 := Lib.hid kR3
  clear B3 kR3 B0 kR hb hp hz0
  cases ok with
  | false =>
    have hr : readR l = (Num.zero, 4) := readR_none (h1 rfl)
    have HR := Lib.hid hr
    obtain ⟨q0, q1, q2, _⟩ := cells3 (set3a (x := .bool false) (y := .string ⟨#[]⟩) (z := .int .i64 0) KR3.out (.cells #[.bool a, .string b, .int .i64 c] 73))
    clear hr h1 h2
    go_wp2
    exact bodyPost_ret (v := .tuple #[.agg #[.bool false, .string ⟨#[]⟩, .int .i64 0], .int .i64 4]) (by simp [results, Tryz.results46, go_sem, q0, q1, q2]) rfl ⟨by rw [HR.out]; rfl, galloc (gset (gset (gset HB3.out (Nat.le_refl _) _ _) (Nat.le_refl _) _ _) (Nat.le_refl _) _ _) _⟩
  | true =>
    obtain ⟨p, P, hpp, hpo, hv⟩ := h2 rfl
    obtain ⟨l1, l2, _⟩ := parse_len hpp
    have hrd := read_valP hpp hpo (by rw [farR_eq]; omega)
    rw [hv] at hrd
    have hLa := large_ref a b c
    rw [← hLa] at hrd
    have HRD := Lib.hid hrd
    clear h1 h2 hpp hpo hv l1 l2 hrd hLa
    by_cases c1 : (200 : Int) < (b.size : Int)
    · have hr : readR l = (Num.zero, 40) := by rw [HRD.out, decide_eq_true c1]; rfl
      have HR := Lib.hid hr
      obtain ⟨q0, q1, q2, _⟩ := cells3 (set3a (x := .bool false) (y := .string ⟨#[]⟩) (z := .int .i64 0) KR3.out (.cells #[.bool a, .string b, .int .i64 c] 73))
      clear hr
      go_wp2
      exact bodyPost_ret (v := .tuple #[.agg #[.bool false, .string ⟨#[]⟩, .int .i64 0], .int .i64 40]) (by simp [results, Tryz.results46, go_sem, q0, q1, q2]) rfl ⟨by rw [HR.out]; rfl, galloc (gset (gset (gset HB3.out (Nat.le_refl _) _ _) (Nat.le_refl _) _ _) (Nat.le_refl _) _ _) _⟩
    · have d1 : decide ((200 : Int) < (b.size : Int)) = false := decide_eq_false c1
      by_cases c2 : c < -9999
      · have hr : readR l = (Num.zero, 40) := by rw [HRD.out, d1, decide_eq_true c2]; rfl
        have HR := Lib.hid hr
        obtain ⟨q0, q1, q2, _⟩ := cells3 (set3a (x := .bool false) (y := .string ⟨#[]⟩) (z := .int .i64 0) KR3.out (.cells #[.bool a, .string b, .int .i64 c] 73))
        clear hr
        go_wp2
        exact bodyPost_ret (v := .tuple #[.agg #[.bool false, .string ⟨#[]⟩, .int .i64 0], .int .i64 40]) (by simp [results, Tryz.results46, go_sem, q0, q1, q2]) rfl ⟨by rw [HR.out]; rfl, galloc (gset (gset (gset HB3.out (Nat.le_refl _) _ _) (Nat.le_refl _) _ _) (Nat.le_refl _) _ _) _⟩
      · have d2 : decide (c < -9999) = false := decide_eq_false c2
        by_cases c3 : 9999 < c
        · have hr : readR l = (Num.zero, 40) := by rw [HRD.out, d1, d2, decide_eq_true c3]; rfl
          have HR := Lib.hid hr
          obtain ⟨q0, q1, q2, _⟩ := cells3 (set3a (x := .bool false) (y := .string ⟨#[]⟩) (z := .int .i64 0) KR3.out (.cells #[.bool a, .string b, .int .i64 c] 73))
          clear hr
          go_wp2
          exact bodyPost_ret (v := .tuple #[.agg #[.bool false, .string ⟨#[]⟩, .int .i64 0], .int .i64 40]) (by simp [results, Tryz.results46, go_sem, q0, q1, q2]) rfl ⟨by rw [HR.out]; rfl, galloc (gset (gset (gset HB3.out (Nat.le_refl _) _ _) (Nat.le_refl _) _ _) (Nat.le_refl _) _ _) _⟩
        · have d3 : decide (9999 < c) = false := decide_eq_false c3
          have hr : readR l = (⟨a, b.data.toList, c⟩, 0) := by rw [HRD.out, d1, d2, d3]; rfl
          have HR := Lib.hid hr
          obtain ⟨q0, q1, q2, _⟩ := cells3 (set3a (x := .bool a) (y := .string b) (z := .int .i64 c) KR3.out (.cells #[.bool a, .string b, .int .i64 c] 73))
          clear hr
          go_wp2
          exact bodyPost_ret (v := .tuple #[.agg #[.bool a, .string b, .int .i64 c], .int .i64 0]) (by simp [results, Tryz.results46, go_sem, q0, q1, q2]) rfl ⟨by rw [HR.out]; rfl, galloc (gset (gset (gset HB3.out (Nat.le_refl _) _ _) (Nat.le_refl _) _ _) (Nat.le_refl _) _ _) _⟩
theorem itoa_abs (n : Int) (_ : n ≠ 0) : Lib.itoa n = (if n < 0 then [45] else []) ++ Lib.decDigits n.natAbs := by
  unfold Lib.itoa
  by_cases h0 : n < 0
  · rw [if_pos h0, if_pos h0]; rfl
  · rw [if_neg h0, if_neg h0, show n.toNat = n.natAbs by omega]; rfl
/-- The digits that are made so far stand behind those that are left. -/
def Left (N u : Nat) (l : List UInt8) : Prop := (u = 0 → l = Lib.decDigits N) ∧ (0 < u → Lib.decDigits u ++ l = Lib.decDigits N)
theorem Left.step {N u : Nat} {l : List UInt8} (h : Left N u l) (hu : 0 < u) : Left N (u / 10) (UInt8.ofNat (48 + u % 10) :: l) := by
  have e := h.2 hu
  rw [Lib.decDigits] at e
  by_cases h10 : u < 10
  · rw [dif_pos h10] at e
    refine ⟨fun _ => ?_, fun h => by omega⟩
    rw [← e, Nat.mod_eq_of_lt h10]; rfl
  · rw [dif_neg h10] at e
    refine ⟨fun h => by omega, fun _ => ?_⟩
    rw [← e]; simp
theorem Left.len {N u : Nat} {l : List UInt8} (h : Left N u l) : l.length ≤ (Lib.decDigits N).length := by
  rcases Nat.eq_zero_or_pos u with g | g
  · rw [h.1 g]; exact Nat.le_refl _
  · have := congrArg List.length (h.2 g)
    rw [List.length_append] at this; omega
set_option maxHeartbeats 2000000 in
theorem rwhole_any (n : Int) (w : World) (h0 : -9223372036854775808 ≤ n) (h1 : n ≤ 9223372036854775807) :
    Calls Tryz.prog 52 #[.int .i64 n] w fun e w' => e = .returned (bl (Lib.itoa n)) ∧ Below w.heap.size w w' := by
  by_cases hz : n = 0
  · subst hz
    have HE : Hid (bl (Lib.itoa 0) = .string ⟨#[48]⟩) := Lib.hid (by unfold Lib.itoa; rw [if_neg (by decide), Lib.decDigits]; rfl)
    go_enter Tryz.func52, Tryz.ntmps52
    go_wp2
    go_ret
    exact ⟨by rw [HE.out]; rfl, Below.refl _ _⟩
  · obtain ⟨N, hN⟩ : ∃ N, n.natAbs = N := ⟨_, rfl⟩
    have hN0 : 0 < N := by omega
    have hNl : (Lib.decDigits N).length ≤ 19 := decDigits_len N 19 (by omega) (by omega)
    have hI := itoa_abs n hz
    rw [hN] at hI
    have hne : (n == 0) = false := by simpa using hz
    obtain ⟨U, hU⟩ : ∃ U : Nat, IntKind.u64.wrap n = (U : Int) := ⟨(IntKind.u64.wrap n).toNat, by
      have : 0 ≤ IntKind.u64.wrap n := by rw [IntKind.wrap_u64]; omega
      omega⟩
    have hUp : ¬ n < 0 → U = N := fun h => by
      rw [IntKind.wrap_u64] at hU; omega
    have hUn : n < 0 → IntKind.u64.wrap (-(U : Int)) = (N : Int) := fun h => by
      rw [IntKind.wrap_u64] at hU ⊢; omega
    have hNb : N ≤ 9223372036854775808 := by omega
    have HNB := Lib.hid hNb
    have HNL := Lib.hid hNl
    have HI := Lib.hid hI
    have HUP := Lib.hid hUp
    have HUN := Lib.hid hUn
    clear h0 h1 hz hN hI hUp hUn hNb hNl
    by_cases hneg : n < 0
    · have HNEG := Lib.hid hneg
      have hw := HUN.out hneg
      have hdn : decide (n < 0) = true := decide_eq_true hneg
      go_enter Tryz.func52, Tryz.ntmps52
      go_wp2
      go_loopw [3, 4] (fun sv uv wr => ∃ (u : Nat) (S : ByteArray), uv = .int .u64 u ∧ sv = .string S ∧ u ≤ N ∧ S.size ≤ 19 ∧ Hid (Left N u S.data.toList) ∧ Hid (Below w.heap.size w wr)) (fun _ uv _ => (intOf uv).toNat)
      case atStart => exact ⟨N, ⟨#[]⟩, rfl, rfl, Nat.le_refl _, by decide, Lib.hid ⟨fun h => by omega, fun _ => by simp⟩, Lib.hid (Below.refl _ _)⟩
      case round =>
        obtain ⟨u, S, rfl, rfl, hu, hS, HL, HB⟩ := hrel
        by_cases hu0 : 0 < u
        · have hu0' : (0 : Int) < (u : Int) := by omega
          have hst := HL.out.step hu0
          obtain ⟨d, hd⟩ : ∃ d, u % 10 = d := ⟨_, rfl⟩
          obtain ⟨q, hq⟩ : ∃ q, u / 10 = q := ⟨_, rfl⟩
          have hdl : d < 10 := by omega
          have t2 : Int.tmod (u : Int) 10 = (d : Int) := by rw [Int.tmod_eq_emod_of_nonneg (by omega)]; omega
          have t3 : (u : Int) % 10 = (d : Int) := by omega
          have hqb : q ≤ 9223372036854775808 := by have := HNB.out; omega
          have t4 : IntKind.u64.wrap (Int.tdiv (u : Int) 10) = (q : Int) := by rw [Int.tdiv_eq_ediv_of_nonneg (by omega), IntKind.wrap_u64]; omega
          have t5 : IntKind.u64.wrap ((u : Int) / 10) = (q : Int) := by rw [IntKind.wrap_u64]; omega
          clear hqb
          have hqu : q < u := by omega
          have hqN : q ≤ N := by omega
          have hb := dig_byte d hdl
          have hc1 := conv_one wr (48 + d) (UInt8.ofNat (48 + d)) hb
          have hw1 : IntKind.u64.wrap (48 + (d : Int)) = 48 + d := by rw [IntKind.wrap_u64]; omega
          have hw2 : IntKind.u8.wrap (48 + (d : Int)) = 48 + d := by rw [IntKind.wrap_u8]; omega
          rw [hd, hq] at hst
          generalize UInt8.ofNat (48 + d) = c at *
          have HST : Hid (Left N q ((⟨#[c]⟩ : ByteArray) ++ S).data.toList) := Lib.hid (by rw [app_list]; exact hst)
          have hS2 : ((⟨#[c]⟩ : ByteArray) ++ S).size ≤ 19 := by
            rw [Lib.size_eq]; exact Nat.le_trans HST.out.len HNL.out
          have HQU := Lib.hid hqu
          clear hd hq hb hst hqu
          go_wp2
          go_roundw
          case rel => exact ⟨q, _, by rfl, rfl, hqN, hS2, HST, Lib.hid (galloc HB.out _)⟩
          case measure => have := HQU.out; simp [intOf]; omega
        · have hu1 : u = 0 := by omega
          have HLL := Lib.hid (HL.out.1 hu1)
          have hu0' : ¬ (0 : Int) < (u : Int) := by omega
          have HE : Hid (Value.string ((⟨#[45]⟩ : ByteArray) ++ S) = bl (Lib.itoa n)) := Lib.hid (by
            unfold bl
            rw [HI.out, if_pos (by have := HNEG.out; omega), of_list (app_list ⟨#[45]⟩ S), HLL.out])
          clear hu1
          go_wp2
          go_ret
          exact ⟨by rw [← HE.out]; rfl, HB.out⟩
    · have HNEG := Lib.hid hneg
      obtain rfl : U = N := HUP.out hneg
      have hdn : decide (n < 0) = false := decide_eq_false hneg
      go_enter Tryz.func52, Tryz.ntmps52
      go_wp2
      go_loopw [3, 4] (fun sv uv wr => ∃ (u : Nat) (S : ByteArray), uv = .int .u64 u ∧ sv = .string S ∧ u ≤ U ∧ S.size ≤ 19 ∧ Hid (Left U u S.data.toList) ∧ Hid (Below w.heap.size w wr)) (fun _ uv _ => (intOf uv).toNat)
      case atStart => exact ⟨U, ⟨#[]⟩, rfl, rfl, Nat.le_refl _, by decide, Lib.hid ⟨fun h => by omega, fun _ => by simp⟩, Lib.hid (Below.refl _ _)⟩
      case round =>
        obtain ⟨u, S, rfl, rfl, hu, hS, HL, HB⟩ := hrel
        by_cases hu0 : 0 < u
        · have hu0' : (0 : Int) < (u : Int) := by omega
          have hst := HL.out.step hu0
          obtain ⟨d, hd⟩ : ∃ d, u % 10 = d := ⟨_, rfl⟩
          obtain ⟨q, hq⟩ : ∃ q, u / 10 = q := ⟨_, rfl⟩
          have hdl : d < 10 := by omega
          have t2 : Int.tmod (u : Int) 10 = (d : Int) := by rw [Int.tmod_eq_emod_of_nonneg (by omega)]; omega
          have t3 : (u : Int) % 10 = (d : Int) := by omega
          have hqb : q ≤ 9223372036854775808 := by have := HNB.out; omega
          have t4 : IntKind.u64.wrap (Int.tdiv (u : Int) 10) = (q : Int) := by rw [Int.tdiv_eq_ediv_of_nonneg (by omega), IntKind.wrap_u64]; omega
          have t5 : IntKind.u64.wrap ((u : Int) / 10) = (q : Int) := by rw [IntKind.wrap_u64]; omega
          clear hqb
          have hqu : q < u := by omega
          have hqN : q ≤ U := by omega
          have hb := dig_byte d hdl
          have hc1 := conv_one wr (48 + d) (UInt8.ofNat (48 + d)) hb
          have hw1 : IntKind.u64.wrap (48 + (d : Int)) = 48 + d := by rw [IntKind.wrap_u64]; omega
          have hw2 : IntKind.u8.wrap (48 + (d : Int)) = 48 + d := by rw [IntKind.wrap_u8]; omega
          rw [hd, hq] at hst
          generalize UInt8.ofNat (48 + d) = c at *
          have HST : Hid (Left U q ((⟨#[c]⟩ : ByteArray) ++ S).data.toList) := Lib.hid (by rw [app_list]; exact hst)
          have hS2 : ((⟨#[c]⟩ : ByteArray) ++ S).size ≤ 19 := by
            rw [Lib.size_eq]; exact Nat.le_trans HST.out.len HNL.out
          have HQU := Lib.hid hqu
          clear hd hq hb hst hqu
          go_wp2
          go_roundw
          case rel => exact ⟨q, _, by rfl, rfl, hqN, hS2, HST, Lib.hid (galloc HB.out _)⟩
          case measure => have := HQU.out; simp [intOf]; omega
        · have hu1 : u = 0 := by omega
          have HLL := Lib.hid (HL.out.1 hu1)
          have hu0' : ¬ (0 : Int) < (u : Int) := by omega
          have HE : Hid (Value.string S = bl (Lib.itoa n)) := Lib.hid (by
            unfold bl
            rw [HI.out, if_neg (by have := HNEG.out; omega), List.nil_append, ← HLL.out])
          clear hu1
          go_wp2
          go_ret
          exact ⟨by rw [← HE.out]; rfl, HB.out⟩
end Go.Proofs.YtgcpgieojckheaaGreatDoor
namespace Go.Proofs.YtgcpgieojckheaaGreatDoor
open Go.RowKit Go.Shelf

theorem refV_eq (n : Num) : ∃ T : ByteArray, T.data.toList = n.digits ∧ refV n = .agg #[.bool n.neg, .string T, .int .i64 n.exp] := ⟨⟨n.digits.toArray⟩, rfl, rfl⟩
theorem empty_yes {T : ByteArray} {l : List UInt8} (h : T.data.toList = l) (h0 : l = []) : T.toList.isEmpty = true := mk_empty_yes (by rw [h, h0])
theorem empty_no {T : ByteArray} {l : List UInt8} (h : T.data.toList = l) (h0 : l ≠ []) : T.toList.isEmpty = false := by
  cases l with
  | nil => exact absurd rfl h0
  | cons a r => exact mk_empty_no h
set_option maxHeartbeats 1000000 in
theorem rform_any (n : Num) (w : World) (hc : Canon n) (hl : tooLarge n = false) :
    Calls Tryz.prog 47 #[refV n] w fun e w' => e = .returned (bl (form n)) ∧ Below w.heap.size w w' := by
  obtain ⟨T, eT, hV⟩ := refV_eq n
  rw [hV]
  have hx := digits_len hl
  have hz : T.size ≤ 200 := by rw [Lib.size_eq, eT]; omega
  by_cases h0 : n.digits = []
  · have hn := Num.canon_zero hc h0
    have HE : Hid (bl (form n) = .string ⟨#[48]⟩) := Lib.hid (by rw [hn]; rfl)
    have he := empty_yes eT h0
    clear hc hl hV hn h0 eT hx
    go_enter Tryz.func47, Tryz.ntmps47
    go_wp2
    go_ret
    exact ⟨by rw [HE.out]; rfl, galloc (Below.refl _ _) _⟩
  · have he := empty_no eT h0
    have hf := fun W => rwhole_any n.exp W (by omega) (by omega)
    obtain ⟨D, hD⟩ : ∃ s : ByteArray, (⟨(Lib.itoa n.exp).toArray⟩ : ByteArray) = s := ⟨_, rfl⟩
    have eD : D.data.toList = Lib.itoa n.exp := by rw [← hD]
    have zD : D.size ≤ 20000 := by rw [Lib.size_eq, eD]; have := itoa_len n.exp; omega
    unfold bl at hf
    rw [hD] at hf
    have HF : Hid (form n = (sgn n.neg ++ n.digits) ++ (if n.exp = 0 then [] else 101 :: Lib.itoa n.exp)) := Lib.hid (by
      unfold form wholeForm expForm sgn
      rw [if_neg h0])
    cases hn : n.neg with
    | true =>
      by_cases hx0 : n.exp = 0
      · have HE : Hid (Value.string ((⟨#[45]⟩ : ByteArray) ++ T) = bl (form n)) := Lib.hid (by
          unfold bl
          have e1 : ((⟨#[45]⟩ : ByteArray) ++ T).data.toList = form n := by rw [HF.out, app_list, eT, hn, hx0]; simp [sgn]
          rw [of_list e1])
        rw [hx0]
        clear hc hl hV h0 eT hx hf hD eD HF
        go_enter Tryz.func47, Tryz.ntmps47
        go_wp2
        go_ret
        exact ⟨by rw [← HE.out]; rfl, galloc (Below.refl _ _) _⟩
      · have HE : Hid (Value.string (((⟨#[45]⟩ : ByteArray) ++ T) ++ (⟨#[101]⟩ : ByteArray) ++ D) = bl (form n)) := Lib.hid (by
          unfold bl
          have e1 : (((⟨#[45]⟩ : ByteArray) ++ T) ++ (⟨#[101]⟩ : ByteArray) ++ D).data.toList = form n := by rw [HF.out, app_list, app_list, app_list, eT, eD, hn, if_neg hx0]; simp [sgn]
          rw [of_list e1])
        have hx1 : (n.exp == 0) = false := by simpa using hx0
        have hx2 : (n.exp != 0) = true := by simpa using hx0

        generalize n.exp = x at *
        clear hc hl hV h0 eT hx hD eD HF hx0
        go_enter Tryz.func47, Tryz.ntmps47
        go_wp2_with fail
        refine (hf _).mono ?_
        rintro e w1 ⟨rfl, hb⟩
        have HB := Lib.hid (gcall (galloc (Below.refl _ _) _) hb)
        clear hb hf
        go_wp2
        go_ret
        exact ⟨by rw [← HE.out]; rfl, HB.out⟩
    | false =>
      by_cases hx0 : n.exp = 0
      · have HE : Hid (Value.string T = bl (form n)) := Lib.hid (by
          unfold bl
          have e1 : T.data.toList = form n := by rw [HF.out, eT, hn, hx0]; simp [sgn]
          rw [of_list e1])
        rw [hx0]
        clear hc hl hV h0 eT hx hf hD eD HF
        go_enter Tryz.func47, Tryz.ntmps47
        go_wp2
        go_ret
        exact ⟨by rw [← HE.out]; rfl, galloc (Below.refl _ _) _⟩
      · have HE : Hid (Value.string (T ++ (⟨#[101]⟩ : ByteArray) ++ D) = bl (form n)) := Lib.hid (by
          unfold bl
          have e1 : (T ++ (⟨#[101]⟩ : ByteArray) ++ D).data.toList = form n := by rw [HF.out, app_list, app_list, eT, eD, hn, if_neg hx0]; simp [sgn]
          rw [of_list e1])
        have hx1 : (n.exp == 0) = false := by simpa using hx0
        have hx2 : (n.exp != 0) = true := by simpa using hx0

        generalize n.exp = x at *
        clear hc hl hV h0 eT hx hD eD HF hx0
        go_enter Tryz.func47, Tryz.ntmps47
        go_wp2_with fail
        refine (hf _).mono ?_
        rintro e w1 ⟨rfl, hb⟩
        have HB := Lib.hid (gcall (galloc (Below.refl _ _) _) hb)
        clear hb hf
        go_wp2
        go_ret
        exact ⟨by rw [← HE.out]; rfl, HB.out⟩

set_option maxHeartbeats 1000000 in
theorem rown_any (s : ByteArray) (w : World) (hs : s.size ≤ 30000) : Calls Tryz.prog 17 #[.string s] w (OwnEnd s.data.toList w) := by
  have hr := rget_any s w hs
  generalize s.data.toList = l at *
  by_cases h0 : (readR l).2 = 0
  · have ho : ownR l = (form (readR l).1, 0) := by unfold ownR; rw [if_pos h0]
    obtain ⟨hc, hl⟩ := canon_read l
    unfold GetEnd at hr
    rw [h0] at hr
    generalize (readR l).1 = n at *
    obtain ⟨T, eT, hV⟩ := refV_eq n
    have ct := fun W => rform_any n W hc hl
    rw [hV] at hr ct
    have HO := Lib.hid ho
    clear hc hl ho h0 eT hV
    go_enter Tryz.func17, Tryz.ntmps17
    go_wp2_with fail
    refine hr.mono ?_
    rintro e w1 ⟨rfl, hb⟩
    have HB := Lib.hid hb
    clear hb hr
    go_wp2_with fail
    refine (ct _).mono ?_
    rintro e w2 ⟨rfl, hb2⟩
    have HB2 := Lib.hid (gcall (galloc HB.out _) hb2)
    clear hb2 ct
    go_wp2
    go_ret2
    exact ⟨by rw [HO.out]; rfl, HB2.out⟩
  · have ho : ownR l = ([], (readR l).2) := by unfold ownR; rw [if_neg h0]
    unfold GetEnd at hr
    obtain ⟨T, eT, hV⟩ := refV_eq (readR l).1
    rw [hV] at hr
    generalize (readR l).2 = E at *
    have h1 : (E == 0) = false := by simpa using h0
    have h2 : (E != 0) = true := by simpa using h0
    have HO := Lib.hid ho
    generalize (readR l).1 = n at *
    clear ho h0 eT hV
    go_enter Tryz.func17, Tryz.ntmps17
    go_wp2_with fail
    refine hr.mono ?_
    rintro e w1 ⟨rfl, hb⟩
    have HB := Lib.hid hb
    clear hb hr
    go_wp2
    go_ret2
    exact ⟨by rw [HO.out]; rfl, galloc HB.out _⟩
set_option maxHeartbeats 1000000 in
theorem rof_any (n : Int) (w : World) (h0 : -9223372036854775808 ≤ n) (h1 : n ≤ 9223372036854775807) : Calls Tryz.prog 21 #[.int .i64 n] w fun e w' => e = .returned (bl (ofR n)) ∧ Below w.heap.size w w' := by
  have hf := rwhole_any n w h0 h1
  obtain ⟨D, hD⟩ : ∃ s : ByteArray, (⟨(Lib.itoa n).toArray⟩ : ByteArray) = s := ⟨_, rfl⟩
  have eD : D.data.toList = Lib.itoa n := by rw [← hD]
  have hz : D.size ≤ 30000 := by
    rw [Lib.size_eq, eD]
    have := decDigits_len n.natAbs 19 (by omega) (by omega)
    have := decDigits_len n.toNat 19 (by omega) (by omega)
    unfold Lib.itoa
    split <;> simp <;> omega
  have ho := fun W => rown_any D W hz
  unfold bl at hf
  rw [hD] at hf
  unfold OwnEnd at ho
  rw [eD] at ho
  have HE : Hid (bl (ownR (Lib.itoa n)).1 = bl (ofR n)) := Lib.hid rfl
  unfold bl at ho
  generalize (ownR (Lib.itoa n)).1 = A at *
  generalize (ownR (Lib.itoa n)).2 = E at *
  clear hD eD h0 h1 hz
  go_enter Tryz.func21, Tryz.ntmps21
  go_wp2_with fail
  refine hf.mono ?_
  rintro e w1 ⟨rfl, hb⟩
  have HB := Lib.hid hb
  clear hb hf
  go_wp2_with fail
  refine (ho _).mono ?_
  rintro e w2 ⟨rfl, hb2⟩
  have HB2 := Lib.hid (gcall HB.out hb2)
  clear hb2 ho
  go_wp2
  go_ret
  exact ⟨by rw [← HE.out]; rfl, HB2.out⟩
theorem rsign_any (n : Num) (w : World) :
    Calls Tryz.prog 54 #[refV n] w fun e w' => e = .returned (.int .i64 (signN n)) ∧ Below w.heap.size w w' := by
  obtain ⟨T, eT, hV⟩ := refV_eq n
  rw [hV]
  by_cases h0 : n.digits = []
  · have HS : Hid (signN n = 0) := Lib.hid (by unfold signN; rw [if_pos h0])
    have he := empty_yes eT h0
    clear eT hV h0
    go_enter Tryz.func54, Tryz.ntmps54
    go_wp2
    go_ret
    exact ⟨by rw [HS.out]; rfl, galloc (Below.refl _ _) _⟩
  · have HS : Hid (signN n = if n.neg then -1 else 1) := Lib.hid (by unfold signN; rw [if_neg h0])
    have he := empty_no eT h0
    clear eT hV h0
    cases hn : n.neg with
    | true =>
      rw [hn] at HS
      clear hn
      go_enter Tryz.func54, Tryz.ntmps54
      go_wp2
      go_ret
      exact ⟨by rw [HS.out]; rfl, galloc (Below.refl _ _) _⟩
    | false =>
      rw [hn] at HS
      clear hn
      go_enter Tryz.func54, Tryz.ntmps54
      go_wp2
      go_ret
      exact ⟨by rw [HS.out]; rfl, galloc (Below.refl _ _) _⟩
end Go.Proofs.YtgcpgieojckheaaGreatDoor
namespace Go.Proofs.YtgcpgieojckheaaGreatDoor
open Go.RowKit Go.Shelf

/-- Digits held against digits, noughts behind the shorter ones. -/
def pad : List UInt8 → List UInt8 → Int
  | [], [] => 0
  | a :: xs, [] => if a.toNat < 48 then -1 else if 48 < a.toNat then 1 else pad xs []
  | [], b :: bs => if 48 < b.toNat then -1 else if b.toNat < 48 then 1 else pad [] bs
  | a :: xs, b :: bs => if a.toNat < b.toNat then -1 else if b.toNat < a.toNat then 1 else pad xs bs
theorem pad_left : ∀ (a : List UInt8), (∀ c ∈ a, isDig c = true) → a.getLast? ≠ some 48 → a ≠ [] → pad a [] = 1
  | [], _, _, h => absurd rfl h
  | x :: xs, hd, hl, _ => by
    have h1 := isDig_iff.1 (hd x (by simp))
    simp only [pad]
    rw [if_neg (by omega)]
    by_cases hx : 48 < x.toNat
    · rw [if_pos hx]
    · rw [if_neg hx]
      have e : x = 48 := UInt8.toNat_inj.1 (by show x.toNat = 48; omega)
      cases xs with
      | nil => rw [e] at hl; simp at hl
      | cons y r => exact pad_left (y :: r) (fun c hc => hd c (by simp at hc ⊢; right; exact hc)) (by rw [List.getLast?_cons_cons] at hl; exact hl) (by simp)
theorem pad_right : ∀ (a : List UInt8), (∀ c ∈ a, isDig c = true) → a.getLast? ≠ some 48 → a ≠ [] → pad [] a = -1
  | [], _, _, h => absurd rfl h
  | x :: xs, hd, hl, _ => by
    have h1 := isDig_iff.1 (hd x (by simp))
    simp only [pad]
    by_cases hx : 48 < x.toNat
    · rw [if_pos hx]
    · rw [if_neg hx, if_neg (by omega)]
      have e : x = 48 := UInt8.toNat_inj.1 (by show x.toNat = 48; omega)
      cases xs with
      | nil => rw [e] at hl; simp at hl
      | cons y r => exact pad_right (y :: r) (fun c hc => hd c (by simp at hc ⊢; right; exact hc)) (by rw [List.getLast?_cons_cons] at hl; exact hl) (by simp)
theorem last_tail {x : UInt8} {xs : List UInt8} (h : (x :: xs).getLast? ≠ some 48) : xs.getLast? ≠ some 48 := by
  cases xs with
  | nil => simp
  | cons y r => rw [List.getLast?_cons_cons] at h; exact h
theorem pad_lex : ∀ (a b : List UInt8), (∀ c ∈ a, isDig c = true) → (∀ c ∈ b, isDig c = true) → a.getLast? ≠ some 48 → b.getLast? ≠ some 48 → pad a b = lex a b
  | [], [], _, _, _, _ => by simp [pad, lex]
  | x :: xs, [], ha, _, la, _ => by rw [pad_left _ ha la (by simp)]; rfl
  | [], y :: bs, _, hb, _, lb => by rw [pad_right _ hb lb (by simp)]; rfl
  | x :: xs, y :: bs, ha, hb, la, lb => by
    simp only [pad, lex]
    rw [pad_lex xs bs (fun c hc => ha c (by simp [hc])) (fun c hc => hb c (by simp [hc])) (last_tail la) (last_tail lb)]
theorem pad_range : ∀ a b : List UInt8, -1 ≤ pad a b ∧ pad a b ≤ 1
  | [], [] => by simp [pad]
  | x :: xs, [] => by
    have := pad_range xs []
    simp only [pad]; split
    · omega
    · split <;> omega
  | [], y :: bs => by
    have := pad_range [] bs
    simp only [pad]; split
    · omega
    · split <;> omega
  | x :: xs, y :: bs => by
    have := pad_range xs bs
    simp only [pad]; split
    · omega
    · split <;> omega
def aboveR (a b : Num) : Int := if topN a ≠ topN b then cmpI (topN a) (topN b) else pad a.digits b.digits
theorem aboveR_eq {a b : Num} (ha : Canon a) (hb : Canon b) : aboveR a b = sizes a b := by
  unfold aboveR sizes
  rw [pad_lex _ _ ha.dig hb.dig ha.last hb.last]
theorem aboveR_range (a b : Num) : -1 ≤ aboveR a b ∧ aboveR a b ≤ 1 := by
  unfold aboveR
  split
  · exact cmpI_range _ _
  · exact pad_range _ _
theorem drop_cons {s : ByteArray} {i : Nat} (h : i < s.size) : s.data.toList.drop i = (s[i]'h) :: s.data.toList.drop (i + 1) := by
  have hl : i < s.data.toList.length := by rw [← Lib.size_eq]; exact h
  rw [List.drop_eq_getElem_cons hl]; rfl
theorem drop_none {s : ByteArray} {i : Nat} (h : ¬ i < s.size) : s.data.toList.drop i = [] := List.drop_eq_nil_of_le (by rw [← Lib.size_eq]; omega)
theorem belowN {B : Nat} {a w : World} (h : Below B a w) (n : Nat) : Below B a (w.drewN n) := ⟨h.os, h.tape, h.output, h.size, h.block⟩
structure TwoR (N : Nat) (na : Bool) (TA : ByteArray) (ea : Int) (nb : Bool) (TB : ByteArray) (eb : Int) (W : World) : Prop where
  a : W.heap[N]? = some (.cells #[.bool na, .string TA, .int .i64 ea] 73 (0, 0))
  b : W.heap[N + 1]? = some (.cells #[.bool nb, .string TB, .int .i64 eb] 73 (0, 0))
theorem TwoR.cells {N : Nat} {na nb : Bool} {TA TB : ByteArray} {ea eb : Int} {W : World} (h : TwoR N na TA ea nb TB eb W) :
    W.cell? ⟨N, 0, none⟩ = some (.bool na) ∧ W.cell? ⟨N, 1, none⟩ = some (.string TA) ∧ W.cell? ⟨N, 2, none⟩ = some (.int .i64 ea) ∧ W.cell? ⟨N + 1, 0, none⟩ = some (.bool nb) ∧ W.cell? ⟨N + 1, 1, none⟩ = some (.string TB) ∧ W.cell? ⟨N + 1, 2, none⟩ = some (.int .i64 eb) := by
  obtain ⟨a, b, c, _⟩ := cells3 h.a
  obtain ⟨d, e, f, _⟩ := cells3 h.b
  exact ⟨a, b, c, d, e, f⟩
theorem TwoR.here (w : World) (na : Bool) (TA : ByteArray) (ea : Int) (nb : Bool) (TB : ByteArray) (eb : Int) :
    TwoR w.heap.size na TA ea nb TB eb ((w.alloc (.cells #[.bool na, .string TA, .int .i64 ea] 73)).alloc (.cells #[.bool nb, .string TB, .int .i64 eb] 73)) ∧
      Below w.heap.size w ((w.alloc (.cells #[.bool na, .string TA, .int .i64 ea] 73)).alloc (.cells #[.bool nb, .string TB, .int .i64 eb] 73)) := by
  refine ⟨⟨(Below.heap_alloc _ _ _ (by simp)).trans (World.alloc_heap_new w _), ?_⟩, galloc (galloc (Below.refl _ _) _) _⟩
  have := World.alloc_heap_new (w.alloc (.cells #[.bool na, .string TA, .int .i64 ea] 73)) (.cells #[.bool nb, .string TB, .int .i64 eb] 73)
  have hz : (w.alloc (.cells #[.bool na, .string TA, .int .i64 ea] 73)).heap.size = w.heap.size + 1 := by simp
  rw [hz] at this
  exact this
set_option maxRecDepth 100000 in
set_option maxHeartbeats 4000000 in
theorem rabove_any (a b : Num) (w : World) (la : tooLarge a = false) (lb : tooLarge b = false) :
    Calls Tryz.prog 55 #[refV a, refV b] w fun e w' => e = .returned (.int .i64 (aboveR a b)) ∧ Below w.heap.size w w' := by
  obtain ⟨TA, eA, hA⟩ := refV_eq a
  obtain ⟨TB, eB, hB⟩ := refV_eq b
  rw [hA, hB]
  have xa := digits_len la
  have xb := digits_len lb
  have za : TA.size ≤ 200 := by rw [Lib.size_eq, eA]; omega
  have zb : TB.size ≤ 200 := by rw [Lib.size_eq, eB]; omega
  have tA : (TA.size : Int) + a.exp = topN a := by unfold topN; rw [Lib.size_eq, eA]; omega
  have tB : (TB.size : Int) + b.exp = topN b := by unfold topN; rw [Lib.size_eq, eB]; omega
  have hwA : IntKind.i64.wrap ((TA.size : Int) + a.exp) = topN a := by rw [IntWalk.i64_in _ (by omega)]; exact tA
  have hwB : IntKind.i64.wrap ((TB.size : Int) + b.exp) = topN b := by rw [IntWalk.i64_in _ (by omega)]; exact tB
  have HS : Hid (aboveR a b = if topN a ≠ topN b then cmpI (topN a) (topN b) else pad TA.data.toList TB.data.toList) := Lib.hid (by rw [eA, eB]; rfl)
  have HTA := Lib.hid tA
  have HTB := Lib.hid tB
  obtain ⟨T0, B0⟩ := TwoR.here w a.neg TA a.exp b.neg TB b.exp
  generalize aboveR a b = Z at *
  generalize a.neg = na at *
  generalize b.neg = nb at *
  have hea : -9999 ≤ a.exp ∧ a.exp ≤ 9999 := ⟨xa.2.1, xa.2.2⟩
  have heb : -9999 ≤ b.exp ∧ b.exp ≤ 9999 := ⟨xb.2.1, xb.2.2⟩
  generalize a.exp = ea at *
  generalize b.exp = eb at *
  generalize topN a = X at *
  generalize topN b = Y at *
  clear hA hB eA eB xa xb la lb tA tB
  obtain ⟨k0, k1, k2, k3, k4, k5⟩ := T0.cells
  have HB0 := Lib.hid B0
  clear T0 B0
  by_cases hXY : X = Y
  · subst hXY
    rw [if_neg (by simp)] at HS
    have hq1 : (X == X) = true := by simp
    have hq2 : (X != X) = false := by simp
    go_enter Tryz.func55, Tryz.ntmps55
    go_wp2
    generalize (w.alloc (.cells #[.bool na, .string TA, .int .i64 ea] 73)).alloc (.cells #[.bool nb, .string TB, .int .i64 eb] 73) = W0 at *
    go_quiet (fail)
    go_wp2
    go_loop [7] (fun i => ∃ k : Nat, i = .int .i64 k ∧ k ≤ 200 ∧ Hid (Z = pad (TA.data.toList.drop k) (TB.data.toList.drop k))) (fun i => 200 - (intOf i).toNat)
    case atStart => exact ⟨0, rfl, by omega, HS⟩
    case round =>
      obtain ⟨k, rfl, hk, HZ⟩ := hrel
      by_cases hA : k < TA.size
      · have hA' : (k : Int) < (TA.size : Int) := by omega
        have hdA := drop_cons hA
        by_cases hB : k < TB.size
        · have hB' : (k : Int) < (TB.size : Int) := by omega
          have hdB := drop_cons hB
          have hP : Hid (Z = if (TA[k]'hA).toNat < (TB[k]'hB).toNat then -1 else if (TB[k]'hB).toNat < (TA[k]'hA).toNat then 1 else pad (TA.data.toList.drop (k + 1)) (TB.data.toList.drop (k + 1))) := Lib.hid (by rw [HZ.out, hdA, hdB]; simp only [pad])
          clear hdA hdB HZ
          by_cases h1 : (TA[k]'hA).toNat < (TB[k]'hB).toNat
          · have h1' : ((TA[k]'hA).toNat : Int) < ((TB[k]'hB).toNat : Int) := by omega
            have HF : Hid (Z = -1) := Lib.hid (by rw [hP.out, if_pos h1])
            clear hP
            go_wp2
            go_ret
            exact ⟨by rw [HF.out]; rfl, belowN HB0.out _⟩
          · have h1' : ¬ ((TA[k]'hA).toNat : Int) < ((TB[k]'hB).toNat : Int) := by omega
            by_cases h2 : (TB[k]'hB).toNat < (TA[k]'hA).toNat
            · have h2' : ((TB[k]'hB).toNat : Int) < ((TA[k]'hA).toNat : Int) := by omega
              have HF : Hid (Z = 1) := Lib.hid (by rw [hP.out, if_neg h1, if_pos h2])
              clear hP
              go_wp2
              go_ret
              exact ⟨by rw [HF.out]; rfl, belowN HB0.out _⟩
            · have h2' : ¬ ((TB[k]'hB).toNat : Int) < ((TA[k]'hA).toNat : Int) := by omega
              have HF : Hid (Z = pad (TA.data.toList.drop (k + 1)) (TB.data.toList.drop (k + 1))) := Lib.hid (by rw [hP.out, if_neg h1, if_neg h2])
              clear hP
              go_wp2
              go_round
              case rel => exact ⟨k + 1, by go_num, by omega, HF⟩
              case measure => simp [intOf]; omega
        · have hB' : ¬ (k : Int) < (TB.size : Int) := by omega
          have hdB := drop_none hB
          have hdB1 : TB.data.toList.drop (k + 1) = [] := drop_none (by omega)
          have hP : Hid (Z = if (TA[k]'hA).toNat < 48 then -1 else if 48 < (TA[k]'hA).toNat then 1 else pad (TA.data.toList.drop (k + 1)) (TB.data.toList.drop (k + 1))) := Lib.hid (by rw [HZ.out, hdA, hdB, hdB1]; simp only [pad])
          clear hdA hdB hdB1 HZ
          by_cases h1 : (TA[k]'hA).toNat < 48
          · have h1' : ((TA[k]'hA).toNat : Int) < (48 : Int) := by omega
            have HF : Hid (Z = -1) := Lib.hid (by rw [hP.out, if_pos h1])
            clear hP
            go_wp2
            go_ret
            exact ⟨by rw [HF.out]; rfl, belowN HB0.out _⟩
          · have h1' : ¬ ((TA[k]'hA).toNat : Int) < (48 : Int) := by omega
            by_cases h2 : 48 < (TA[k]'hA).toNat
            · have h2' : (48 : Int) < ((TA[k]'hA).toNat : Int) := by omega
              have HF : Hid (Z = 1) := Lib.hid (by rw [hP.out, if_neg h1, if_pos h2])
              clear hP
              go_wp2
              go_ret
              exact ⟨by rw [HF.out]; rfl, belowN HB0.out _⟩
            · have h2' : ¬ (48 : Int) < ((TA[k]'hA).toNat : Int) := by omega
              have HF : Hid (Z = pad (TA.data.toList.drop (k + 1)) (TB.data.toList.drop (k + 1))) := Lib.hid (by rw [hP.out, if_neg h1, if_neg h2])
              clear hP
              go_wp2
              go_round
              case rel => exact ⟨k + 1, by go_num, by omega, HF⟩
              case measure => simp [intOf]; omega
      · have hA' : ¬ (k : Int) < (TA.size : Int) := by omega
        have hdA := drop_none hA
        by_cases hB : k < TB.size
        · have hB' : (k : Int) < (TB.size : Int) := by omega
          have hdB := drop_cons hB
          have hdA1 : TA.data.toList.drop (k + 1) = [] := drop_none (by omega)
          have hP : Hid (Z = if 48 < (TB[k]'hB).toNat then -1 else if (TB[k]'hB).toNat < 48 then 1 else pad (TA.data.toList.drop (k + 1)) (TB.data.toList.drop (k + 1))) := Lib.hid (by rw [HZ.out, hdA, hdB, hdA1]; simp only [pad])
          clear hdA hdB hdA1 HZ
          by_cases h1 : 48 < (TB[k]'hB).toNat
          · have h1' : (48 : Int) < ((TB[k]'hB).toNat : Int) := by omega
            have HF : Hid (Z = -1) := Lib.hid (by rw [hP.out, if_pos h1])
            clear hP
            go_wp2
            go_ret
            exact ⟨by rw [HF.out]; rfl, belowN HB0.out _⟩
          · have h1' : ¬ (48 : Int) < ((TB[k]'hB).toNat : Int) := by omega
            by_cases h2 : (TB[k]'hB).toNat < 48
            · have h2' : ((TB[k]'hB).toNat : Int) < (48 : Int) := by omega
              have HF : Hid (Z = 1) := Lib.hid (by rw [hP.out, if_neg h1, if_pos h2])
              clear hP
              go_wp2
              go_ret
              exact ⟨by rw [HF.out]; rfl, belowN HB0.out _⟩
            · have h2' : ¬ ((TB[k]'hB).toNat : Int) < (48 : Int) := by omega
              have HF : Hid (Z = pad (TA.data.toList.drop (k + 1)) (TB.data.toList.drop (k + 1))) := Lib.hid (by rw [hP.out, if_neg h1, if_neg h2])
              clear hP
              go_wp2
              go_round
              case rel => exact ⟨k + 1, by go_num, by omega, HF⟩
              case measure => simp [intOf]; omega
        · have hB' : ¬ (k : Int) < (TB.size : Int) := by omega
          have HF : Hid (Z = 0) := Lib.hid (by rw [HZ.out, hdA, drop_none hB]; simp [pad])
          clear hdA HZ
          go_wp2
          go_ret
          exact ⟨by rw [HF.out]; rfl, belowN HB0.out _⟩
  · rw [if_pos hXY] at HS
    have hq1 : (X == Y) = false := by simpa using hXY
    have hq2 : (X != Y) = true := by simpa using hXY
    by_cases hlt : X < Y
    · have HF : Hid (Z = -1) := Lib.hid (by rw [HS.out]; unfold cmpI; rw [if_pos hlt])
      go_enter Tryz.func55, Tryz.ntmps55
      go_wp2
      generalize (w.alloc (.cells #[.bool na, .string TA, .int .i64 ea] 73)).alloc (.cells #[.bool nb, .string TB, .int .i64 eb] 73) = W0 at *
      go_quiet (fail)
      go_wp2
      go_ret
      exact ⟨by rw [HF.out]; rfl, belowN HB0.out _⟩
    · have HF : Hid (Z = 1) := Lib.hid (by rw [HS.out]; unfold cmpI; rw [if_neg hlt, if_pos (by omega)])
      go_enter Tryz.func55, Tryz.ntmps55
      go_wp2
      generalize (w.alloc (.cells #[.bool na, .string TA, .int .i64 ea] 73)).alloc (.cells #[.bool nb, .string TB, .int .i64 eb] 73) = W0 at *
      go_quiet (fail)
      go_wp2
      go_ret
      exact ⟨by rw [HF.out]; rfl, belowN HB0.out _⟩
end Go.Proofs.YtgcpgieojckheaaGreatDoor
