/-
  Plain facts on the characters of a text: their widths, their places, the sums of their units.
-/
import Derived.Test.YtffldjlgmbiplaaDoorE
import Derived.Test.YtffldjlgmbiplaaDoorH
namespace Go.Proofs.YtffldjlgmbiplaaDoor
open Go.RowKit

theorem rune_unt (t : ByteArray) (h : 0 < t.size) : unt (rp t) = if rn t = 4 then 2 else 1 := by
  unfold unt
  have l0 := (t.get! 0).toNat_lt
  rcases rune_kinds t h with ⟨h1, h2, h3⟩ | ⟨h1, h2, h3, h4⟩ | ⟨h1, h2, h3, h4, h5⟩ | ⟨h1, h2, h3, h4, h5, h6⟩ | ⟨h1, h2, h3, h4, h5, h6⟩
  · rw [h2, h3, if_neg (by omega), if_neg (by omega)]
  · unfold K2 at h2; rw [h3, h4, if_neg (by omega), if_neg (by omega)]
  · unfold K3 at h3; rw [h4, h5, if_neg (by omega), if_neg (by omega)]
  · unfold K4 at h4; rw [h5, h6, if_pos (by omega), if_pos rfl]
  · rw [h5, h6, if_neg (by omega), if_neg (by omega)]
theorem rune_neg (t : ByteArray) (h : 0 < t.size) : rp t < 0 ↔ (rn t = 1 ∧ 128 ≤ (t.get! 0).toNat) := by
  rcases rune_kinds t h with ⟨h1, h2, h3⟩ | ⟨h1, h2, h3, h4⟩ | ⟨h1, h2, h3, h4, h5⟩ | ⟨h1, h2, h3, h4, h5, h6⟩ | ⟨h1, h2, h3, h4, h5, h6⟩ <;> omega

theorem size_extract (s : ByteArray) (i j : Nat) (h : j ≤ s.size) : (s.extract i j).size = j - i := by simp; omega
theorem get!_extract_at (s : ByteArray) (i j : Nat) (h : i < j) (hj : j ≤ s.size) : (s.extract i j).get! 0 = s.get! i := by
  have h1 := get!_list (s.extract i j) 0 (by rw [size_extract s i j hj]; omega)
  rw [extract_list, List.getElem?_drop, Nat.add_zero, List.getElem?_take_of_lt h, get!_list s i (by omega)] at h1
  exact (Option.some.inj h1).symm

/-- The character at byte k: what it is, in the reference's words. -/
theorem char_facts (s : ByteArray) (k : Nat) (h : k < s.size) :
    1 ≤ rn (s.extract k s.size) ∧ rn (s.extract k s.size) ≤ 4 ∧ k + rn (s.extract k s.size) ≤ s.size ∧ (s.extract k (k + rn (s.extract k s.size))).size = rn (s.extract k s.size) ∧
    widB (s.extract k (k + rn (s.extract k s.size))) = unt (rp (s.extract k s.size)) ∧ strayB (s.extract k (k + rn (s.extract k s.size))) = decide (rp (s.extract k s.size) < 0) := by
  have hz : (s.extract k s.size).size = s.size - k := size_extract s k s.size (Nat.le_refl _)
  have h0 : 0 < (s.extract k s.size).size := by omega
  have h1 := rn_pos _ h0
  have h2 := rn_le (s.extract k s.size)
  have h4 := rn_4 (s.extract k s.size)
  have hu := rune_unt _ h0
  have hn := rune_neg _ h0
  rw [get!_extract_at s k s.size h (Nat.le_refl _)] at hn
  generalize rn (s.extract k s.size) = n at *
  have hc := size_extract s k (k + n) (by omega)
  have hg := get!_extract_at s k (k + n) (by omega) (by omega)
  refine ⟨h1, h4, by omega, by omega, ?_, ?_⟩
  · rw [hu, widB, hc, Nat.add_sub_cancel_left]
  · unfold strayB
    rw [hc, hg, Nat.add_sub_cancel_left]
    apply Bool.eq_iff_iff.2
    simp only [Bool.and_eq_true, beq_iff_eq, decide_eq_true_eq]
    exact hn.symm

/-! ### units -/
def uN (xs : List (Nat × ByteArray)) : Int := (xs.map fun x => widB x.2).sum
theorem widB_bd (s : ByteArray) : 1 ≤ widB s ∧ widB s ≤ 2 := by unfold widB; split <;> omega
theorem uN_nil : uN [] = 0 := rfl
theorem uN_cons (x : Nat × ByteArray) (xs : List (Nat × ByteArray)) : uN (x :: xs) = widB x.2 + uN xs := by simp [uN]
theorem uN_append (xs ys : List (Nat × ByteArray)) : uN (xs ++ ys) = uN xs + uN ys := by simp [uN]
theorem uN_bd : ∀ xs : List (Nat × ByteArray), (xs.length : Int) ≤ uN xs ∧ uN xs ≤ 2 * xs.length
  | [] => by simp [uN]
  | x :: xs => by
    have := uN_bd xs
    have := widB_bd x.2
    rw [uN_cons, List.length_cons]
    omega
theorem foldl_uw : ∀ (xs : List (Nat × ByteArray)) (acc : Int), 0 ≤ acc → acc + 2 * xs.length ≤ 10000000000 → xs.foldl (fun u x => IntKind.i64.wrap (u + widB x.2)) acc = acc + uN xs
  | [], acc, _, _ => by simp [uN]
  | x :: xs, acc, h0, h => by
    have := widB_bd x.2
    rw [List.length_cons] at h
    rw [List.foldl_cons, IntWalk.i64_in (acc + widB x.2) (by omega), foldl_uw xs _ (by omega) (by omega), uN_cons]
    omega
theorem uw_eq (xs : List (Nat × ByteArray)) (h : xs.length ≤ 1000000000) : uw xs = uN xs := by
  rw [uw, foldl_uw xs 0 (by omega) (by omega)]; omega
theorem seqF_len : ∀ (f : Nat) (s : ByteArray) (k : Nat), k + (seqF f s k).length ≤ s.size ∨ seqF f s k = []
  | 0, _, _ => .inr rfl
  | f + 1, s, k => by
    by_cases h : k < s.size
    · refine .inl ?_
      obtain ⟨h1, _, h3, _⟩ := char_facts s k h
      rw [seqF, if_pos h, List.length_cons]
      rcases seqF_len f s (k + rn (s.extract k s.size)) with h4 | h4
      · omega
      · rw [h4]; simp; omega
    · exact .inr (by rw [seqF, if_neg h])
theorem seqB_len (s : ByteArray) : (seqB s).length ≤ s.size := by
  rcases seqF_len s.size s 0 with h | h
  · unfold seqB; omega
  · unfold seqB; rw [h]; simp
theorem pre_len {s : ByteArray} {pre rest : List (Nat × ByteArray)} (h : seqB s = pre ++ rest) : pre.length ≤ s.size := by
  have := seqB_len s
  rw [h, List.length_append] at this
  omega

/-! ### what the reference's loops keep -/
theorem seqF_step (f : Nat) (s : ByteArray) (k : Nat) (h : k < s.size) (hf : s.size ≤ k + f) :
    seqF f s k = (k, s.extract k (k + rn (s.extract k s.size))) :: seqF (f - 1) s (k + rn (s.extract k s.size)) := by
  obtain ⟨f, rfl⟩ : ∃ f', f = f' + 1 := ⟨f - 1, by omega⟩
  rw [seqF, if_pos h, Nat.add_sub_cancel]

theorem ba_ext {a b : ByteArray} (h : a.data.toList = b.data.toList) : a = b := by
  cases a; cases b
  simpa using h
theorem tail_tail (s : ByteArray) (k n : Nat) (h : k + n ≤ s.size) : (s.extract k s.size).extract n (s.extract k s.size).size = s.extract (k + n) s.size := by
  apply ba_ext
  have hl : s.data.toList.length = s.size := (Lib.size_eq s).symm
  rw [extract_list, extract_list, extract_list, size_extract s k s.size (Nat.le_refl _), List.take_of_length_le (l := s.data.toList) (by omega), List.take_of_length_le (by rw [List.length_drop]; omega), List.drop_drop]

def UInv (s : ByteArray) (at_ : Int) (k f : Nat) (pre : List (Nat × ByteArray)) : Prop :=
  k ≤ s.size ∧ s.size ≤ k + f ∧ (k : Int) ≤ at_ ∧ seqB s = pre ++ seqF f s k ∧ endW pre = k ∧ AllLt at_ pre

section
variable {s : ByteArray} {at_ u : Int} {k f : Nat} {pre : List (Nat × ByteArray)}

theorem uinv_start (h : 0 ≤ at_) : UInv s at_ 0 s.size [] := ⟨by omega, by omega, by omega, rfl, rfl, allLt_nil _⟩
theorem unitS_of (h0 : 0 ≤ at_) (h1 : at_ ≤ s.size) {T : List (Nat × ByteArray)} (hT : takeA at_ (seqB s) = T) : unitS s at_ = if endW T = at_ then (uw T, 0) else (0, 60) := by
  rw [unitS, if_neg (by omega), hT]
theorem takeA_pre {pre rest : List (Nat × ByteArray)} (hp : AllLt at_ pre) (hr : takeA at_ rest = []) : takeA at_ (pre ++ rest) = pre := by
  unfold takeA at *
  rw [List.takeWhile_append_of_pos (fun y hy => decide_eq_true (hp y hy)), hr, List.append_nil]
theorem uinv_hit (hs : s.size ≤ 1000000000) (h : UInv s at_ k f pre) (hk : k < s.size) (he : (k : Int) = at_) : unitS s at_ = (uN pre, 0) := by
  obtain ⟨h1, h2, h3, h4, h5, h6⟩ := h
  have hp := pre_len h4
  have hT : takeA at_ (seqB s) = pre := by
    rw [h4]
    refine takeA_pre h6 ?_
    rw [seqF_step f s k hk h2]
    simp [takeA, he]
  rw [unitS_of (by omega) (by omega) hT, if_pos (by omega), uw_eq pre (by omega)]
theorem uinv_end (hs : s.size ≤ 1000000000) (h : UInv s at_ k f pre) (hk : ¬ k < s.size) (ha : at_ ≤ s.size) : unitS s at_ = (uN pre, 0) := by
  obtain ⟨h1, h2, h3, h4, h5, h6⟩ := h
  have hp := pre_len h4
  have hT : takeA at_ (seqB s) = pre := by
    rw [h4]
    refine takeA_pre h6 ?_
    rw [seqF_end f s k hk]; rfl
  rw [unitS_of (by omega) (by omega) hT, if_pos (by omega), uw_eq pre (by omega)]
theorem endW_one (hs : s.size ≤ 1000000000) (hk : k < s.size) (pre : List (Nat × ByteArray)) : endW (pre ++ [(k, s.extract k (k + rn (s.extract k s.size)))]) = (k + rn (s.extract k s.size) : Nat) := by
  obtain ⟨h1, h2, h3, h4, _, _⟩ := char_facts s k hk
  rw [endW_snoc, h4, IntWalk.wrap64_in _ (by simp only; omega)]
  simp
theorem uinv_pos (hs : s.size ≤ 1000000000) (h : UInv s at_ k f pre) (hk : k < s.size) (hl : (k : Int) < at_) (ha : at_ ≤ s.size) (hg : at_ < (k : Int) + rn (s.extract k s.size)) : unitS s at_ = (0, 60) := by
  obtain ⟨h1, h2, h3, h4, h5, h6⟩ := h
  have hT : takeA at_ (seqB s) = pre ++ [(k, s.extract k (k + rn (s.extract k s.size)))] := by
    rw [h4, seqF_step f s k hk h2, List.append_cons]
    refine takeA_pre (allLt_snoc h6 hl) ?_
    by_cases hk2 : k + rn (s.extract k s.size) < s.size
    · rw [seqF_step _ s _ hk2 (by have := (char_facts s k hk).1; omega)]
      simp only [takeA, List.takeWhile_cons]
      rw [decide_eq_false (by simp only [Int.natCast_add]; omega)]; rfl
    · rw [seqF_end _ s _ hk2]; rfl
  rw [unitS_of (by omega) ha hT, if_neg (by rw [endW_one hs hk]; omega)]
theorem uinv_step (hs : s.size ≤ 1000000000) (h : UInv s at_ k f pre) (hk : k < s.size) (hl : (k : Int) < at_) (hg : (k : Int) + rn (s.extract k s.size) ≤ at_) :
    UInv s at_ (k + rn (s.extract k s.size)) (f - 1) (pre ++ [(k, s.extract k (k + rn (s.extract k s.size)))]) := by
  obtain ⟨h1, h2, h3, h4, h5, h6⟩ := h
  obtain ⟨c1, c2, c3, c4, _, _⟩ := char_facts s k hk
  exact ⟨c3, by omega, by omega, by rw [h4, seqF_step f s k hk h2, List.append_cons], endW_one hs hk pre, allLt_snoc h6 hl⟩
theorem uN_one (hk : k < s.size) (pre : List (Nat × ByteArray)) : uN (pre ++ [(k, s.extract k (k + rn (s.extract k s.size)))]) = uN pre + unt (rp (s.extract k s.size)) := by
  rw [uN_append, uN_cons, uN_nil, (char_facts s k hk).2.2.2.2.1]; omega

def BInv (s : ByteArray) (u : Int) (k f : Nat) (pre : List (Nat × ByteArray)) : Prop :=
  k ≤ s.size ∧ s.size ≤ k + f ∧ uN pre ≤ u ∧ seqB s = pre ++ seqF f s k ∧ endW pre = k ∧ GoF u 0 pre
theorem binv_start (h : 0 ≤ u) : BInv s u 0 s.size [] := ⟨by omega, by omega, h, rfl, rfl, trivial⟩
theorem byteS_of (h0 : 0 ≤ u) {T : List (Nat × ByteArray)} (hT : takeU u 0 (seqB s) = T) : byteS s u = if uw T < u then (0, 1) else if u < uw T then (0, 60) else (endW T, 0) := by
  rw [byteS, if_neg (by omega), hT]
theorem binv_hit (hs : s.size ≤ 1000000000) (h : BInv s u k f pre) (he : uN pre = u) : byteS s u = ((k : Int), 0) := by
  obtain ⟨h1, h2, h3, h4, h5, h6⟩ := h
  have hp := pre_len h4
  have hu := uw_eq pre (by omega)
  have hb := uN_bd pre
  have hT : takeU u 0 (seqB s) = pre := by
    rw [h4]
    exact takeU_eq u 0 pre _ h6 (.inr (by rw [show pre.foldl _ 0 = uw pre from rfl]; omega))
  rw [byteS_of (by omega) hT, if_neg (by omega), if_neg (by omega), h5]
theorem binv_end (hs : s.size ≤ 1000000000) (h : BInv s u k f pre) (hk : ¬ k < s.size) (ha : u ≤ uN (seqB s)) : byteS s u = ((s.size : Int), 0) := by
  have h' := h
  obtain ⟨h1, h2, h3, h4, h5, h6⟩ := h
  rw [h4, seqF_end f s k hk, List.append_nil] at ha
  rw [binv_hit hs h' (by omega), show k = s.size by omega]
theorem binv_pos (hs : s.size ≤ 1000000000) (h : BInv s u k f pre) (hk : k < s.size) (hl : uN pre < u) (hg : u < uN pre + unt (rp (s.extract k s.size))) : byteS s u = (0, 60) := by
  obtain ⟨h1, h2, h3, h4, h5, h6⟩ := h
  have hp := pre_len h4
  have hu := uw_eq pre (by omega)
  have h4' : seqB s = (pre ++ [(k, s.extract k (k + rn (s.extract k s.size)))]) ++ seqF (f - 1) s (k + rn (s.extract k s.size)) := by rw [h4, seqF_step f s k hk h2, List.append_cons]
  have hp' := pre_len h4'
  have hu' := uw_eq (pre ++ [(k, s.extract k (k + rn (s.extract k s.size)))]) (by omega)
  rw [uN_one hk] at hu'
  have hb := uN_bd pre
  have hT : takeU u 0 (seqB s) = pre ++ [(k, s.extract k (k + rn (s.extract k s.size)))] := by
    rw [h4']
    exact takeU_eq u 0 _ _ (goF_snoc u _ 0 pre h6 (by rw [show pre.foldl _ 0 = uw pre from rfl]; omega)) (.inr (by rw [show List.foldl _ 0 (pre ++ [(k, s.extract k (k + rn (s.extract k s.size)))]) = uw (pre ++ [(k, s.extract k (k + rn (s.extract k s.size)))]) from rfl]; omega))
  rw [byteS_of (by omega) hT, if_neg (by omega), if_pos (by omega)]
theorem binv_step (hs : s.size ≤ 1000000000) (h : BInv s u k f pre) (hk : k < s.size) (hl : uN pre < u) (hg : uN pre + unt (rp (s.extract k s.size)) ≤ u) :
    BInv s u (k + rn (s.extract k s.size)) (f - 1) (pre ++ [(k, s.extract k (k + rn (s.extract k s.size)))]) := by
  obtain ⟨h1, h2, h3, h4, h5, h6⟩ := h
  have hp := pre_len h4
  have hu := uw_eq pre (by omega)
  obtain ⟨c1, c2, c3, c4, _, _⟩ := char_facts s k hk
  exact ⟨c3, by omega, by rw [uN_one hk]; exact hg, by rw [h4, seqF_step f s k hk h2, List.append_cons], endW_one hs hk pre, goF_snoc u _ 0 pre h6 (by rw [show pre.foldl _ 0 = uw pre from rfl]; omega)⟩
end
theorem goF_all (u : Int) : ∀ (xs : List (Nat × ByteArray)) (acc : Int), 0 ≤ acc → acc + 2 * xs.length ≤ 10000000000 → acc + uN xs < u → GoF u acc xs
  | [], _, _, _, _ => trivial
  | x :: xs, acc, h0, h1, h2 => by
    have hw := widB_bd x.2
    have hb := uN_bd xs
    rw [uN_cons] at h2
    rw [List.length_cons] at h1
    refine ⟨by omega, ?_⟩
    rw [IntWalk.i64_in (acc + widB x.2) (by omega)]
    exact goF_all u xs _ (by omega) (by omega) (by omega)
theorem byte_over {s : ByteArray} {u : Int} (hs : s.size ≤ 1000000000) (h : uN (seqB s) < u) : byteS s u = (0, 1) := by
  have hb := uN_bd (seqB s)
  have hl := seqB_len s
  have hT : takeU u 0 (seqB s) = seqB s := by
    have := takeU_eq u 0 (seqB s) [] (goF_all u (seqB s) 0 (by omega) (by omega) (by omega)) (.inl rfl)
    rwa [List.append_nil] at this
  rw [byteS_of (by omega) hT, uw_eq _ (by omega), if_pos h]
end Go.Proofs.YtffldjlgmbiplaaDoor
