/-
  number; DecMoved.
-/
import Derived.Test.YtgcpgieojckheaaGreatDoorQ
import Derived.Laws.IdiomStrings
namespace Go.Proofs.YtgcpgieojckheaaGreatDoor
open Go.RowKit Go.Shelf

theorem u37 : Tryz.prog.underlying 37 = some (.slice 5) := by kernel_rfl
theorem u5 : Tryz.prog.underlying 5 = some (.int .u8) := by kernel_rfl
theorem u9 : Tryz.prog.underlying 9 = some .string := by kernel_rfl
theorem conv_one (w : World) (x : Int) (c : UInt8) (h : (c.toNat : Int) = x) :
    (convert 37 9 (.slice (some ⟨w.heap.size, 0, none⟩) 1 1)).run Tryz.prog (w.alloc (.cells #[.int .u8 x] 5)) = .ok (.string ⟨#[c]⟩) (w.alloc (.cells #[.int .u8 x] 5)) := by
  refine run_convert_bytes_back _ 37 9 5 ⟨w.heap.size, 0, none⟩ 1 [c] u37 u5 u9 fun j hj => ?_
  have : j = 0 := by simp at hj; exact hj
  subst this
  rw [← h]
  simp [Addr.add]
theorem dig_byte (d : Nat) (h : d < 10) : ((UInt8.ofNat (48 + d)).toNat : Int) = 48 + (d : Int) := by
  have : (UInt8.ofNat (48 + d)).toNat = 48 + d := by simp [UInt8.toNat_ofNat']; omega
  rw [this]; omega
set_option maxHeartbeats 1000000 in
theorem number_small (n : Nat) (w : World) (h : n < 10) : Calls Tryz.prog 24 #[.int .i64 n] w fun e w' => e = .returned (bl (Lib.decDigits n)) ∧ Below w.heap.size w w' := by
  have h1 : (n : Int) < 10 := by omega
  have hb := dig_byte n h
  have hc := conv_one w (48 + n) (UInt8.ofNat (48 + n)) hb
  have HE : Hid (Value.string ⟨#[UInt8.ofNat (48 + n)]⟩ = bl (Lib.decDigits n)) := Lib.hid (by rw [Lib.decDigits, dif_pos h]; rfl)
  have hw1 : IntKind.i64.wrap (48 + (n : Int)) = 48 + n := IntWalk.i64_in _ (by omega)
  have hw2 : IntKind.u8.wrap (48 + (n : Int)) = 48 + n := by rw [IntKind.wrap_u8]; omega
  clear hb h
  generalize UInt8.ofNat (48 + n) = c at *
  go_enter Tryz.func24, Tryz.ntmps24
  go_wp2
  go_ret
  exact ⟨by rw [← HE.out]; rfl, galloc (Below.refl _ _) _⟩
theorem conv_at (W : World) (g : Nat) (x : Int) (c : UInt8) (h : (c.toNat : Int) = x) (hc : W.cell? ⟨g, 0, none⟩ = some (.int .u8 x)) :
    (convert 37 9 (.slice (some ⟨g, 0, none⟩) 1 1)).run Tryz.prog W = .ok (.string ⟨#[c]⟩) W := by
  refine run_convert_bytes_back _ 37 9 5 ⟨g, 0, none⟩ 1 [c] u37 u5 u9 fun j hj => ?_
  have : j = 0 := by simp at hj; exact hj
  subst this
  rw [← h] at hc
  simpa [Addr.add] using hc
set_option maxHeartbeats 2000000 in
theorem number_any (n : Nat) : ∀ (w : World), n ≤ 1000000 → Calls Tryz.prog 24 #[.int .i64 n] w fun e w' => e = .returned (bl (Lib.decDigits n)) ∧ Below w.heap.size w w' := by
  induction n using Nat.strongRecOn with
  | _ n ih =>
    intro w hn
    by_cases hs : n < 10
    · exact number_small n w hs
    · have hi := fun W => ih (n / 10) (by omega) W (by omega)
      obtain ⟨q, hq⟩ : ∃ q, n / 10 = q := ⟨_, rfl⟩
      obtain ⟨d, hd⟩ : ∃ d, n % 10 = d := ⟨_, rfl⟩
      have hdl : d < 10 := by omega
      have hb := dig_byte d hdl
      have hc1 := fun W => conv_one W (48 + d) (UInt8.ofNat (48 + d)) hb
      have hc2 := conv_at (w.alloc (.cells #[.int .u8 (48 + d)] 5)).drew w.heap.size (48 + d) (UInt8.ofNat (48 + d)) hb (by simp)
      have h1 : ¬ (n : Int) < 10 := by omega
      have hw1 : IntKind.i64.wrap (48 + (d : Int)) = 48 + d := IntWalk.i64_in _ (by omega)
      have hw2 : IntKind.u8.wrap (48 + (d : Int)) = 48 + d := by rw [IntKind.wrap_u8]; omega
      rw [hq] at hi
      have hm : Int.tmod (n : Int) 10 = (d : Int) := by rw [Int.tmod_eq_emod_of_nonneg (by omega)]; omega
      have hm2 : (n : Int) % 10 = (d : Int) := by omega
      have hdv2 : IntKind.i64.wrap ((n : Int) / 10) = (q : Int) := by rw [IntWalk.i64_in _ (by omega)]; omega
      have hdv : IntKind.i64.wrap (Int.tdiv (n : Int) 10) = (q : Int) := by rw [Int.tdiv_eq_ediv_of_nonneg (by omega)]; rw [IntWalk.i64_in _ (by omega)]; omega
      have zq : (Lib.decDigits q).length ≤ q + 1 := decDigits_le q
      have HE : Hid (∀ c, c = UInt8.ofNat (48 + d) → Lib.decDigits q ++ [c] = Lib.decDigits n) := Lib.hid fun c hc => by
        rw [hc]; conv => rhs; rw [Lib.decDigits]
        rw [dif_neg hs, hq, hd]
      obtain ⟨Q, hQ⟩ : ∃ s : ByteArray, (⟨(Lib.decDigits q).toArray⟩ : ByteArray) = s := ⟨_, rfl⟩
      have eQ : Q.data.toList = Lib.decDigits q := by rw [← hQ]
      have zQ : Q.size ≤ 1000001 := by rw [Lib.size_eq, eQ]; omega
      unfold bl at hi
      rw [hQ] at hi
      have hE2 := HE.out _ rfl
      obtain ⟨c, hcc⟩ : ∃ c, UInt8.ofNat (48 + d) = c := ⟨_, rfl⟩
      rw [hcc] at hb hc1 hc2 hE2
      have HB := Lib.hid hb
      have za : ¬ 9223372036854775807 < Q.size + 1 := by omega
      have HR : Hid (Value.string (Q ++ ⟨#[c]⟩) = bl (Lib.decDigits n)) := Lib.hid (by
        unfold bl
        rw [of_list (app_list Q ⟨#[c]⟩), eQ, ← hE2])
      clear ih hs hq hd hb zq HE hQ eQ hE2 hcc
      go_enter Tryz.func24, Tryz.ntmps24
      go_wp2
      go_region_with ((go_at_call 24; (with_reducible refine Calls.mono (hi _) ?_); rintro e v1 ⟨rfl, hb1⟩; (try (refine (have k1 : v1.cell? ⟨w.heap.size, 0, none⟩ = some (.int .u8 (48 + (d : Int))) := (hb1.cell (p := ⟨w.heap.size, 0, none⟩) ?_).trans ?_; ?_); (· (simp; done)); (· (simp; done)); have kc := conv_at v1 w.heap.size (48 + (d : Int)) c HB.out k1))))
      all_goals
        have HB1 : Hid (Below w.heap.size w v1) := Lib.hid (by first | exact gcall (Below.refl _ _).drew hb1 | exact gcall (galloc (Below.refl _ _) _).drew hb1)
        clear hb1
        go_wp2
        go_ret
        exact ⟨by rw [← HR.out]; rfl, (by first | exact galloc HB1.out _ | exact HB1.out)⟩
end Go.Proofs.YtgcpgieojckheaaGreatDoor
