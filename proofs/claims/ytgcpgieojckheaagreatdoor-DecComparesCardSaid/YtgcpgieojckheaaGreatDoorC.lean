/-
  Decimals, plainly: the order; noughts and points that are moved.
-/
import Derived.Test.YtgcpgieojckheaaGreatDoorB
namespace Go.Proofs.YtgcpgieojckheaaGreatDoor
open Go

/-- Held against one another: the other way about, and handed on. -/
structure Ordr {α : Type} (f : α → α → Int) : Prop where
  anti : ∀ a b, f a b = -(f b a)
  tr : ∀ a b c, f a b ≤ 0 → f b c ≤ 0 → f a c ≤ 0 ∧ (f a c = 0 → f a b = 0 ∧ f b c = 0)
theorem lexico {α : Type} (k : α → Int) (f : α → α → Int) (ha : ∀ a b, k a = k b → f a b = -(f b a))
    (ht : ∀ a b c, k a = k b → k b = k c → f a b ≤ 0 → f b c ≤ 0 → f a c ≤ 0 ∧ (f a c = 0 → f a b = 0 ∧ f b c = 0)) :
    Ordr (fun a b => if k a ≠ k b then cmpI (k a) (k b) else f a b) := by
  refine ⟨fun a b => ?_, fun a b c => ?_⟩
  · by_cases h : k a = k b
    · simp only [h, ne_eq, not_true, if_false]; exact ha a b h
    · have h' : ¬ k b = k a := fun e => h e.symm
      simp only [h, h', ne_eq, not_false_iff, if_true]
      unfold cmpI
      split <;> split <;> (try split) <;> omega
  · by_cases h1 : k a = k b
    · by_cases h2 : k b = k c
      · have h3 : k a = k c := h1.trans h2
        simp only [h1, h2, ne_eq, not_true, if_false]
        exact ht a b c h1 h2
      · have h3 : ¬ k a = k c := fun e => h2 (h1.symm.trans e)
        simp only [h1, h2, ne_eq, not_true, not_false_iff, if_false, if_true]
        unfold cmpI
        intro _ hb
        refine ⟨hb, fun e => ?_⟩
        split at e
        · omega
        · split at e <;> omega
    · by_cases h2 : k b = k c
      · have h3 : ¬ k a = k c := fun e => h1 (e.trans h2.symm)
        simp only [h1, ← h2, ne_eq, not_true, not_false_iff, if_false, if_true]
        unfold cmpI
        intro hb _
        refine ⟨hb, fun e => ?_⟩
        split at e
        · omega
        · split at e <;> omega
      · simp only [h1, h2, ne_eq, not_false_iff, if_true]
        unfold cmpI
        intro x y
        have g1 : k a < k b := by
          split at x
          · assumption
          · split at x <;> omega
        have g2 : k b < k c := by
          split at y
          · assumption
          · split at y <;> omega
        have h3 : ¬ k a = k c := by omega
        simp only [h3, not_false_iff, if_true]
        rw [if_pos (by omega : k a < k c)]
        exact ⟨by omega, fun e => by omega⟩
theorem lex_anti : ∀ a b : List UInt8, lex a b = -(lex b a)
  | [], [] => rfl
  | [], _ :: _ => rfl
  | _ :: _, [] => rfl
  | a :: as, b :: bs => by
    have := lex_anti as bs
    simp only [lex]
    split <;> split <;> omega
theorem lex_range : ∀ a b : List UInt8, lex a b = -1 ∨ lex a b = 0 ∨ lex a b = 1
  | [], [] => by simp [lex]
  | [], _ :: _ => by simp [lex]
  | _ :: _, [] => by simp [lex]
  | a :: as, b :: bs => by
    have := lex_range as bs
    simp only [lex]
    split
    · simp
    · split
      · simp
      · exact this
theorem lex_eq : ∀ a b : List UInt8, lex a b = 0 → a = b
  | [], [] => fun _ => rfl
  | [], _ :: _ => fun h => by simp [lex] at h
  | _ :: _, [] => fun h => by simp [lex] at h
  | a :: as, b :: bs => fun h => by
    simp only [lex] at h
    split at h
    · omega
    · split at h
      · omega
      · have e : a = b := UInt8.toNat_inj.1 (by omega)
        rw [e, lex_eq as bs h]
theorem lex_tr : ∀ a b c : List UInt8, lex a b ≤ 0 → lex b c ≤ 0 → lex a c ≤ 0 ∧ (lex a c = 0 → lex a b = 0 ∧ lex b c = 0)
  | [], [], c => fun _ h => ⟨h, fun e => ⟨rfl, e⟩⟩
  | [], _ :: _, [] => fun _ h => by simp [lex] at h
  | [], _ :: _, _ :: _ => fun _ _ => by simp [lex]
  | _ :: _, [], _ => fun h => by simp [lex] at h
  | _ :: _, _ :: _, [] => fun _ h => by simp [lex] at h
  | a :: as, b :: bs, c :: cs => fun h1 h2 => by
    have ih := lex_tr as bs cs
    have r1 := lex_range as bs
    have r2 := lex_range bs cs
    simp only [lex] at h1 h2 ⊢
    by_cases x1 : a.toNat < b.toNat
    · by_cases x2 : b.toNat < c.toNat
      · have x3 : a.toNat < c.toNat := by omega
        simp [x1, x3]
      · rw [if_neg x2] at h2
        by_cases x4 : c.toNat < b.toNat
        · rw [if_pos x4] at h2; omega
        · have x3 : a.toNat < c.toNat := by omega
          simp [x1, x3]
    · rw [if_neg x1] at h1
      by_cases x5 : b.toNat < a.toNat
      · rw [if_pos x5] at h1; omega
      · rw [if_neg x5] at h1
        by_cases x2 : b.toNat < c.toNat
        · have x3 : a.toNat < c.toNat := by omega
          simp [x2, x3]
        · rw [if_neg x2] at h2
          by_cases x4 : c.toNat < b.toNat
          · rw [if_pos x4] at h2; omega
          · rw [if_neg x4] at h2
            have y1 : ¬ a.toNat < c.toNat := by omega
            have y2 : ¬ c.toNat < a.toNat := by omega
            simp only [x1, x5, x2, x4, y1, y2, if_false]
            exact ih h1 h2
theorem sizes_ord : Ordr sizes := lexico topN (fun a b => lex a.digits b.digits) (fun _ _ _ => lex_anti _ _) (fun _ _ _ _ _ => lex_tr _ _ _)
theorem signN_range (n : Num) : signN n = -1 ∨ signN n = 0 ∨ signN n = 1 := by
  unfold signN; split
  · simp
  · split <;> simp
theorem cmp_ord : Ordr cmpN := by
  refine lexico signN (fun a b => signN a * sizes a b) (fun a b h => ?_) (fun a b c h1 h2 => ?_)
  · rw [sizes_ord.anti a b, ← h]; simp [Int.mul_neg]
  · have t1 := sizes_ord.tr a b c
    have t2 := sizes_ord.tr c b a
    have a1 := sizes_ord.anti a b
    have a2 := sizes_ord.anti b c
    have a3 := sizes_ord.anti a c
    simp only [← h1]
    rcases signN_range a with e | e | e <;> rw [e]
    · intro x y
      have := t2 (by omega) (by omega)
      exact ⟨by omega, fun z => by have := this.2 (by omega); omega⟩
    · intro _ _; simp
    · intro x y
      have := t1 (by omega) (by omega)
      exact ⟨by omega, fun z => by have := this.2 (by omega); omega⟩
theorem cmpN_self (a : Num) : cmpN a a = 0 := by have := cmp_ord.anti a a; omega
theorem cmpI_eq {a b : Int} (h : cmpI a b = 0) : a = b := by
  unfold cmpI at h
  split at h
  · omega
  · split at h <;> omega
theorem cmpN_eq {a b : Num} (ha : Canon a) (hb : Canon b) (h : cmpN a b = 0) : a = b := by
  unfold cmpN at h
  by_cases hs : signN a = signN b
  · rw [if_neg (by simpa using hs)] at h
    by_cases h0 : a.digits = []
    · have e : signN a = 0 := by unfold signN; rw [if_pos h0]
      have h1 : b.digits = [] := by
        rw [e] at hs
        unfold signN at hs
        by_cases g : b.digits = []
        · exact g
        · rw [if_neg g] at hs; split at hs <;> omega
      rw [Num.canon_zero ha h0, Num.canon_zero hb h1]
    · have e : signN a ≠ 0 := by unfold signN; rw [if_neg h0]; split <;> omega
      have hz : sizes a b = 0 := by
        rcases Int.mul_eq_zero.1 h with g | g
        · exact absurd g e
        · exact g
      have h1 : b.digits ≠ [] := by
        intro g
        rw [hs] at e
        unfold signN at e
        rw [if_pos g] at e
        exact e rfl
      unfold sizes at hz
      by_cases ht : topN a = topN b
      · rw [if_neg (by simpa using ht)] at hz
        have hd := lex_eq _ _ hz
        unfold topN at ht
        rw [hd] at ht
        have he : a.exp = b.exp := by omega
        unfold signN at hs
        rw [if_neg h0, if_neg h1] at hs
        have hn : a.neg = b.neg := by
          cases x : a.neg <;> cases y : b.neg <;> simp [x, y] at hs ⊢
        cases a; cases b; simp_all
      · rw [if_pos (by simpa using ht)] at hz
        exact absurd (cmpI_eq hz) ht
  · rw [if_pos (by simpa using hs)] at h
    exact absurd (cmpI_eq h) hs
/-- Two texts have the same own form just if they are held to be alike. -/
theorem alike_iff (s t : List UInt8) (h1 : (readR s).2 = 0) (h2 : (readR t).2 = 0) : ((cmpR s t).1 = 0) ↔ ((ownR s).1 = (ownR t).1) := by
  have c1 := canon_read s
  have c2 := canon_read t
  have e1 : (cmpR s t).1 = cmpN (readR s).1 (readR t).1 := by unfold cmpR; rw [if_neg (by simpa using h1), if_neg (by simpa using h2)]
  have e2 : (ownR s).1 = form (readR s).1 := by unfold ownR; rw [if_pos h1]
  have e3 : (ownR t).1 = form (readR t).1 := by unfold ownR; rw [if_pos h2]
  rw [e1, e2, e3]
  constructor
  · intro h; rw [cmpN_eq c1.1 c2.1 h]
  · intro h; rw [form_inj c1.1 c2.1 c1.2 c2.2 h]; exact cmpN_self _

/-! ### moved points -/
theorem trimR_app_nought (l : List UInt8) (k : Nat) : trimR (l ++ List.replicate k 48) = trimR l := by
  unfold trimR
  rw [List.reverse_append, List.reverse_replicate]
  induction k with
  | zero => simp
  | succ k ih => rw [List.replicate_succ, List.cons_append, List.dropWhile_cons, if_pos (by rfl)]; exact ih
theorem num_nought2 (l : List UInt8) : num (48 :: 48 :: l) = num l := by simp [num]
theorem digs_rep (k : Nat) : ∀ c ∈ List.replicate k (48 : UInt8), isDig c = true := fun c hc => by rw [(List.mem_replicate.1 hc).2]; decide
/-- Digits, a fraction of noughts (or none), and a power. -/
theorem value_moved (s : List UInt8) (k : Nat) (f : List UInt8) (e : List UInt8) (hs : s.head? = some 49) (hf : f = List.replicate k 48) :
    valueR ⟨false, s, f, false, e⟩ = ⟨false, trimR s, (num e : Int) + (s.length : Int) - ((trimR s).length : Int)⟩ := by
  have hne : trimR s ≠ [] := by
    obtain ⟨j, h1, _⟩ := trimR_split s
    intro h
    rw [h] at h1
    rw [h1] at hs
    cases j with
    | zero => simp at hs
    | succ j => simp [List.replicate_succ] at hs
  have hl := trimR_len s
  have hh : trimL (s ++ f) = s ++ f := trimL_of (by rw [List.head?_append, hs]; simp)
  subst hf
  unfold valueR powerR
  simp only [hh, trimR_app_nought, if_neg hne, List.length_append, List.length_replicate]
  simp
  omega
theorem read_value {l : List UInt8} {p : Pt} {n : Num} (h : parseR l = some p) (hv : valueR p = n) (hl : tooLarge n = false) : ownR l = (form n, 0) := by
  unfold ownR readR
  rw [h]
  simp only [hv, hl]
  rfl
theorem num_dig2 {l : List UInt8} (h : ∀ c ∈ l, isDig c = true) : ∀ c ∈ (48 :: 48 :: l), isDig c = true := fun c hc => by
  simp at hc
  rcases hc with rfl | hc
  · decide
  · exact h c hc
theorem own_moved (ds : List UInt8) (n e : Nat) (hd : ∀ c ∈ ds, isDig c = true) (hl : ds.length ≤ 150) (hn : n ≤ 40) (he : e ≤ 5000) :
    ∃ o, ownR ((49 :: ds) ++ [46, 48] ++ List.replicate n 48 ++ [101] ++ Lib.decDigits (e + n)) = (o, 0) ∧
      ownR ((49 :: ds) ++ List.replicate n 48 ++ [69, 43, 48, 48] ++ Lib.decDigits e) = (o, 0) ∧
      ownR ((49 :: ds) ++ [101] ++ Lib.decDigits (e + n)) = (o, 0) := by
  have hs : ∀ c ∈ (49 :: ds), isDig c = true := fun c hc => by
    simp at hc
    rcases hc with rfl | hc
    · decide
    · exact hd c hc
  generalize hS : 49 :: ds = s at *
  have hhead : s.head? = some 49 := by rw [← hS]; rfl
  have hlen : s.length ≤ 151 := by rw [← hS]; simp; omega
  have hne : s ≠ [] := by rw [← hS]; simp
  have hw : wholeOk s = true := wholeOk_of hne (by rw [hhead]; simp)
  have htl := trimR_len s
  refine ⟨form ⟨false, trimR s, ((e + n : Nat) : Int) + (s.length : Int) - ((trimR s).length : Int)⟩, ?_, ?_, ?_⟩
  · have hp : parseR (s ++ [46, 48] ++ List.replicate n 48 ++ [101] ++ Lib.decDigits (e + n)) = some ⟨false, s, 48 :: List.replicate n 48, false, Lib.decDigits (e + n)⟩ := by
      have ha : s ++ [46, 48] ++ List.replicate n 48 ++ [101] ++ Lib.decDigits (e + n) = s ++ (46 :: ((48 :: List.replicate n 48) ++ (101 :: Lib.decDigits (e + n)))) := by simp
      have hm := minusOf_dig (r := 46 :: ((48 :: List.replicate n 48) ++ (101 :: Lib.decDigits (e + n)))) hs hne
      have h1 := digs_app (r := 46 :: ((48 :: List.replicate n 48) ++ (101 :: Lib.decDigits (e + n)))) hs (by simp; decide)
      have h2 := digs_app (l := 48 :: List.replicate n 48) (r := 101 :: Lib.decDigits (e + n)) (digs_rep (n + 1)) (by simp; decide)
      rw [ha]
      unfold parseR
      simp only [hm, h1.1, h1.2, hw, if_true, fracOf, h2.1, h2.2]
      simp only [expOf]
      simp [signOf_dig (decDigits_dig _), digs_all (decDigits_dig _), decDigits_ne, past_dig (decDigits_dig _)]
    refine read_value hp ((value_moved s (n + 1) _ _ hhead rfl).trans (by rw [num_decDigits])) ?_
    unfold tooLarge; simp; omega
  · have hp : parseR (s ++ List.replicate n 48 ++ [69, 43, 48, 48] ++ Lib.decDigits e) = some ⟨false, s ++ List.replicate n 48, [], false, 48 :: 48 :: Lib.decDigits e⟩ := by
      have hs2 : ∀ c ∈ s ++ List.replicate n 48, isDig c = true := fun c hc => by
        rcases List.mem_append.1 hc with h | h
        · exact hs c h
        · exact digs_rep n c h
      have hne2 : s ++ List.replicate n 48 ≠ [] := by simp [hne]
      have hw2 : wholeOk (s ++ List.replicate n 48) = true := wholeOk_of hne2 (by rw [List.head?_append, hhead]; simp)
      have ha : s ++ List.replicate n 48 ++ [69, 43, 48, 48] ++ Lib.decDigits e = (s ++ List.replicate n 48) ++ (69 :: 43 :: (48 :: 48 :: Lib.decDigits e)) := by simp
      have hm := minusOf_dig (r := 69 :: 43 :: (48 :: 48 :: Lib.decDigits e)) hs2 hne2
      have h1 := digs_app (r := 69 :: 43 :: (48 :: 48 :: Lib.decDigits e)) hs2 (by simp; decide)
      have h3 := num_dig2 (decDigits_dig e)
      rw [ha]
      unfold parseR
      simp only [hm, h1.1, h1.2, hw2, if_true, fracOf]
      simp only [expOf, signOf]
      simp [digs_all h3, past_dig h3]
    have hv : valueR ⟨false, s ++ List.replicate n 48, [], false, 48 :: 48 :: Lib.decDigits e⟩ = ⟨false, trimR s, ((e + n : Nat) : Int) + (s.length : Int) - ((trimR s).length : Int)⟩ := by
      refine (value_moved (s ++ List.replicate n 48) 0 _ _ (by rw [List.head?_append, hhead]; simp) rfl).trans ?_
      rw [num_nought2, num_decDigits, trimR_app_nought]
      simp
      omega
    refine read_value hp hv ?_
    unfold tooLarge; simp; omega
  · have hp : parseR (s ++ [101] ++ Lib.decDigits (e + n)) = some ⟨false, s, [], false, Lib.decDigits (e + n)⟩ := by
      have ha : s ++ [101] ++ Lib.decDigits (e + n) = s ++ (101 :: Lib.decDigits (e + n)) := by simp
      have hm := minusOf_dig (r := 101 :: Lib.decDigits (e + n)) hs hne
      have h1 := digs_app (r := 101 :: Lib.decDigits (e + n)) hs (by simp; decide)
      rw [ha]
      unfold parseR
      simp only [hm, h1.1, h1.2, hw, if_true, fracOf]
      simp only [expOf]
      simp [signOf_dig (decDigits_dig _), digs_all (decDigits_dig _), decDigits_ne, past_dig (decDigits_dig _)]
    refine read_value hp ((value_moved s 0 _ _ hhead rfl).trans (by rw [num_decDigits])) ?_
    unfold tooLarge; simp; omega
end Go.Proofs.YtgcpgieojckheaaGreatDoor
