/-
  Write, the document's too.
-/
import Derived.Test.YtlafcnmopclgiaaDoorJ
import Derived.Lib.AppendIntMem
namespace Go.Proofs.YtlafcnmopclgiaaDoor
open Go.RowKit Go.Shelf

theorem of_list {s : ByteArray} {l : List UInt8} (h : s.data.toList = l) : s = ⟨l.toArray⟩ := by rw [← h]
theorem app_list (a b : ByteArray) : (a ++ b).data.toList = a.data.toList ++ b.data.toList := by rw [ByteArray.data_append, Array.toList_append]
theorem galloc {w W : World} (h : Below w.heap.size w W) (o : Obj) : Below w.heap.size w (W.alloc o) := h.alloc h.size o
theorem decDigits_le (u : Nat) : (Lib.decDigits u).length ≤ u + 1 := by
  induction u using Nat.strongRecOn with
  | _ u ih =>
    rw [Lib.decDigits]
    split
    · simp
    · have := ih (u / 10) (by omega)
      simp; omega

theorem conv_one (w : World) (x : Int) (c : UInt8) (h : (c.toNat : Int) = x) :
    (convert 31 9 (.slice (some ⟨w.heap.size, 0, none⟩) 1 1)).run Tryd.prog (w.alloc (.cells #[.int .u8 x] 5)) = .ok (.string ⟨#[c]⟩) (w.alloc (.cells #[.int .u8 x] 5)) := by
  refine run_convert_bytes_back _ 31 9 5 ⟨w.heap.size, 0, none⟩ 1 [c] u31 u5 u9 fun j hj => ?_
  have : j = 0 := by simp at hj; exact hj
  subst this
  rw [← h]
  simp [Addr.add]
theorem dig_byte (d : Nat) (h : d < 10) : ((UInt8.ofNat (48 + d)).toNat : Int) = 48 + (d : Int) := by
  have : (UInt8.ofNat (48 + d)).toNat = 48 + d := by simp [UInt8.toNat_ofNat']; omega
  rw [this]; omega
set_option maxHeartbeats 1000000 in
theorem digits_small (n : Nat) (w : World) (h : n < 10) : Calls Tryd.prog 19 #[.int .i64 n] w fun e w' => e = .returned (bl (Lib.decDigits n)) ∧ Below w.heap.size w w' := by
  have h1 : (n : Int) < 10 := by omega
  have hb := dig_byte n h
  have hc := conv_one w (48 + n) (UInt8.ofNat (48 + n)) hb
  have HE : Hid (Value.string ⟨#[UInt8.ofNat (48 + n)]⟩ = bl (Lib.decDigits n)) := Lib.hid (by rw [Lib.decDigits, dif_pos h]; rfl)
  have hw1 : IntKind.i64.wrap (48 + (n : Int)) = 48 + n := IntWalk.i64_in _ (by omega)
  have hw2 : IntKind.u8.wrap (48 + (n : Int)) = 48 + n := by rw [IntKind.wrap_u8]; omega
  clear hb h
  generalize UInt8.ofNat (48 + n) = c at *
  go_enter Tryd.func19, Tryd.ntmps19
  go_wp2
  go_ret
  exact ⟨by rw [← HE.out]; rfl, galloc (Below.refl _ _) _⟩
theorem conv_at (W : World) (g : Nat) (x : Int) (c : UInt8) (h : (c.toNat : Int) = x) (hc : W.cell? ⟨g, 0, none⟩ = some (.int .u8 x)) :
    (convert 31 9 (.slice (some ⟨g, 0, none⟩) 1 1)).run Tryd.prog W = .ok (.string ⟨#[c]⟩) W := by
  refine run_convert_bytes_back _ 31 9 5 ⟨g, 0, none⟩ 1 [c] u31 u5 u9 fun j hj => ?_
  have : j = 0 := by simp at hj; exact hj
  subst this
  rw [← h] at hc
  simpa [Addr.add] using hc
set_option maxHeartbeats 2000000 in
theorem digits_any (n : Nat) : ∀ (w : World), n ≤ 1000000 → Calls Tryd.prog 19 #[.int .i64 n] w fun e w' => e = .returned (bl (Lib.decDigits n)) ∧ Below w.heap.size w w' := by
  induction n using Nat.strongRecOn with
  | _ n ih =>
    intro w hn
    by_cases hs : n < 10
    · exact digits_small n w hs
    · have hi := fun W => ih (n / 10) (by omega) W (by omega)
      obtain ⟨q, hq⟩ : ∃ q, n / 10 = q := ⟨_, rfl⟩
      obtain ⟨d, hd⟩ : ∃ d, n % 10 = d := ⟨_, rfl⟩
      have hdl : d < 10 := by omega
      have hb := dig_byte d hdl
      have hc1 := fun W => conv_one W (48 + d) (UInt8.ofNat (48 + d)) hb
      have hc2 := conv_at (w.alloc (.cells #[.int .u8 (48 + d)] 5)).drew w.heap.size (48 + d) (UInt8.ofNat (48 + d)) hb (by simp)
      have h1 : ¬ (n : Int) < 10 := by omega
      have hw1 : IntKind.i64.wrap (48 + (d : Int)) = 48 + d := IntWalk.i64_in _ (by omega)
      have hw2 : IntKind.u8.wrap (48 + (d : Int)) = 48 + d := by rw [IntKind.wrap_u8]; omega
      rw [hq] at hi
      have hm : Int.tmod (n : Int) 10 = (d : Int) := by rw [Int.tmod_eq_emod_of_nonneg (by omega)]; omega
      have hm2 : (n : Int) % 10 = (d : Int) := by omega
      have hdv2 : IntKind.i64.wrap ((n : Int) / 10) = (q : Int) := by rw [IntWalk.i64_in _ (by omega)]; omega
      have hdv : IntKind.i64.wrap (Int.tdiv (n : Int) 10) = (q : Int) := by rw [Int.tdiv_eq_ediv_of_nonneg (by omega)]; rw [IntWalk.i64_in _ (by omega)]; omega
      have zq : (Lib.decDigits q).length ≤ q + 1 := decDigits_le q
      have HE : Hid (∀ c, c = UInt8.ofNat (48 + d) → Lib.decDigits q ++ [c] = Lib.decDigits n) := Lib.hid fun c hc => by
        rw [hc]; conv => rhs; rw [Lib.decDigits]
        rw [dif_neg hs, hq, hd]
      obtain ⟨Q, hQ⟩ : ∃ s : ByteArray, (⟨(Lib.decDigits q).toArray⟩ : ByteArray) = s := ⟨_, rfl⟩
      have eQ : Q.data.toList = Lib.decDigits q := by rw [← hQ]
      have zQ : Q.size ≤ 1000001 := by rw [Lib.size_eq, eQ]; omega
      unfold bl at hi
      rw [hQ] at hi
      have hE2 := HE.out _ rfl
      obtain ⟨c, hcc⟩ : ∃ c, UInt8.ofNat (48 + d) = c := ⟨_, rfl⟩
      rw [hcc] at hb hc1 hc2 hE2
      have HB := Lib.hid hb
      have za : ¬ 9223372036854775807 < Q.size + 1 := by omega
      have HR : Hid (Value.string (Q ++ ⟨#[c]⟩) = bl (Lib.decDigits n)) := Lib.hid (by
        unfold bl
        rw [of_list (app_list Q ⟨#[c]⟩), eQ, ← hE2])
      clear ih hs hq hd hb zq HE hQ eQ hE2 hcc
      go_enter Tryd.func19, Tryd.ntmps19
      go_wp2
      go_region_with ((go_at_call 19; (with_reducible refine Calls.mono (hi _) ?_); rintro e v1 ⟨rfl, hb1⟩; (try (refine (have k1 : v1.cell? ⟨w.heap.size, 0, none⟩ = some (.int .u8 (48 + (d : Int))) := (hb1.cell (p := ⟨w.heap.size, 0, none⟩) ?_).trans ?_; ?_); (· (simp; done)); (· (simp; done)); have kc := conv_at v1 w.heap.size (48 + (d : Int)) c HB.out k1))))
      all_goals
        have HB1 : Hid (Below w.heap.size w v1) := Lib.hid (by first | exact gcall (Below.refl _ _).drew (by exact Nat.le_refl _) hb1 | exact gcall (galloc (Below.refl _ _) _).drew (by simp) hb1)
        clear hb1
        go_wp2
        go_ret
        exact ⟨by rw [← HR.out]; rfl, (by first | exact galloc HB1.out _ | exact HB1.out)⟩
/-- What Write answers. -/
def WriteEnd (l : List UInt8) : Value := if l.length ≤ 262144 then .tuple #[bl (frameOf l), .int .i64 0] else .tuple #[bl [], .int .i64 40]
theorem frame_text (s D : ByteArray) (hD : D.data.toList = Lib.decDigits s.size) :
    ((⟨#[67, 111, 110, 116, 101, 110, 116, 45, 76, 101, 110, 103, 116, 104, 58, 32]⟩ ++ D ++ ⟨#[13, 10, 13, 10]⟩ ++ s : ByteArray)) = ⟨(frameOf s.data.toList).toArray⟩ := by
  refine of_list ?_
  rw [app_list, app_list, app_list, hD]
  unfold frameOf
  rw [← Lib.size_eq]
  rfl
theorem write_big (n : Nat) (hn : n = 9 ∨ n = 10) (s : ByteArray) (w : World) (h : 262144 < s.size) : Calls Tryd.prog n #[.string s] w fun e w' => e = .returned (WriteEnd s.data.toList) ∧ Below w.heap.size w w' := by
  have hi : (262144 : Int) < (s.size : Int) := by omega
  have HR : Hid (WriteEnd s.data.toList = .tuple #[.string ⟨#[]⟩, .int .i64 40]) := Lib.hid (by unfold WriteEnd; rw [← Lib.size_eq, if_neg (by omega)]; rfl)
  rcases hn with rfl | rfl
  · go_enter Tryd.func9, Tryd.ntmps9
    go_wp2_with fail
    go_ret2
    exact ⟨by rw [HR.out]; rfl, Below.refl _ _⟩
  · go_enter Tryd.func10, Tryd.ntmps10
    go_wp2_with fail
    go_ret2
    exact ⟨by rw [HR.out]; rfl, Below.refl _ _⟩
theorem write_ok (s : ByteArray) (w : World) (hT : Tab w) (h : s.size ≤ 262144) : Calls Tryd.prog 9 #[.string s] w fun e w' => e = .returned (WriteEnd s.data.toList) ∧ Below w.heap.size w w' := by
  have hi : ¬ (262144 : Int) < (s.size : Int) := by omega
  have hD := Tryd.strconv_Itoa (s.size : Int) (by omega) (by omega) w hT.1
  have hitoa : Lib.itoa (s.size : Int) = Lib.decDigits s.size := by unfold Lib.itoa; rw [if_neg (by omega)]; rfl
  rw [hitoa] at hD
  have hlen : (Lib.decDigits s.size).length ≤ 6 := by rw [Lib.decDigits_length]; exact nDigits_few _ h
  obtain ⟨D, hDe⟩ : ∃ D : ByteArray, (⟨(Lib.decDigits s.size).toArray⟩ : ByteArray) = D := ⟨_, rfl⟩
  have hDl : D.data.toList = Lib.decDigits s.size := by rw [← hDe]
  have hDs : D.size ≤ 6 := by rw [Lib.size_eq, hDl]; exact hlen
  rw [hDe] at hD
  have HR : Hid (WriteEnd s.data.toList = .tuple #[.string (⟨#[67, 111, 110, 116, 101, 110, 116, 45, 76, 101, 110, 103, 116, 104, 58, 32]⟩ ++ D ++ ⟨#[13, 10, 13, 10]⟩ ++ s), .int .i64 0]) := Lib.hid (by unfold WriteEnd; rw [← Lib.size_eq, if_pos h, frame_text s D hDl]; rfl)
  have z1 : ¬ 9223372036854775807 < 16 + D.size := by omega
  have z2 : ¬ 9223372036854775807 < 16 + D.size + 4 := by omega
  have z3 : ¬ 9223372036854775807 < 16 + D.size + 4 + s.size := by omega
  clear hitoa hDe hDl hlen hT
  go_enter Tryd.func9, Tryd.ntmps9
  go_wp2_with fail
  refine hD.mono ?_
  rintro e w1 ⟨rfl, k, os, rfl⟩
  have HB := Lib.hid (Lib.below_grow w.heap.size w (Nat.le_refl _) k os)
  go_wp2_with fail
  go_ret2
  exact ⟨by rw [HR.out]; rfl, HB.out⟩
theorem rwrite_ok (s : ByteArray) (w : World) (h : s.size ≤ 262144) : Calls Tryd.prog 10 #[.string s] w fun e w' => e = .returned (WriteEnd s.data.toList) ∧ Below w.heap.size w w' := by
  have hi : ¬ (262144 : Int) < (s.size : Int) := by omega
  have hD := digits_any s.size w (by omega)
  have hlen : (Lib.decDigits s.size).length ≤ 6 := by rw [Lib.decDigits_length]; exact nDigits_few _ h
  unfold bl at hD
  obtain ⟨D, hDe⟩ : ∃ D : ByteArray, (⟨(Lib.decDigits s.size).toArray⟩ : ByteArray) = D := ⟨_, rfl⟩
  have hDl : D.data.toList = Lib.decDigits s.size := by rw [← hDe]
  have hDs : D.size ≤ 6 := by rw [Lib.size_eq, hDl]; exact hlen
  rw [hDe] at hD
  have HR : Hid (WriteEnd s.data.toList = .tuple #[.string (⟨#[67, 111, 110, 116, 101, 110, 116, 45, 76, 101, 110, 103, 116, 104, 58, 32]⟩ ++ D ++ ⟨#[13, 10, 13, 10]⟩ ++ s), .int .i64 0]) := Lib.hid (by unfold WriteEnd; rw [← Lib.size_eq, if_pos h, frame_text s D hDl]; rfl)
  have z1 : ¬ 9223372036854775807 < 16 + D.size := by omega
  have z2 : ¬ 9223372036854775807 < 16 + D.size + 4 := by omega
  have z3 : ¬ 9223372036854775807 < 16 + D.size + 4 + s.size := by omega
  clear hDe hDl hlen
  go_enter Tryd.func10, Tryd.ntmps10
  go_wp2_with fail
  refine hD.mono ?_
  rintro e w1 ⟨rfl, hb⟩
  have HB := Lib.hid hb
  clear hb
  go_wp2_with fail
  go_ret2
  exact ⟨by rw [HR.out]; rfl, HB.out⟩
theorem write_any (s : ByteArray) (w : World) (hT : Tab w) : Calls Tryd.prog 9 #[.string s] w fun e w' => e = .returned (WriteEnd s.data.toList) ∧ Below w.heap.size w w' := by
  by_cases h : s.size ≤ 262144
  · exact write_ok s w hT h
  · exact write_big 9 (.inl rfl) s w (by omega)
theorem rwrite_any (s : ByteArray) (w : World) : Calls Tryd.prog 10 #[.string s] w fun e w' => e = .returned (WriteEnd s.data.toList) ∧ Below w.heap.size w w' := by
  by_cases h : s.size ≤ 262144
  · exact rwrite_ok s w h
  · exact write_big 10 (.inr rfl) s w (by omega)
end Go.Proofs.YtlafcnmopclgiaaDoor
