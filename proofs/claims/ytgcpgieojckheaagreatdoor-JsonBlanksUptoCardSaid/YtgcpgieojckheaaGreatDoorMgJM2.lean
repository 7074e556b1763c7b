/-
  A printed text, with blanks, read again.
-/
import Derived.Test.YtgcpgieojckheaaGreatDoorMgJM
namespace Go.Proofs.YtgcpgieojckheaaGreatDoor.Json
open Go.Proofs.YtgcpgieojckheaaGreatDoor

theorem skip_app {b : List UInt8} (h : b.all isBlank = true) (l : List UInt8) : skip (b ++ l) = skip l := by
  induction b with
  | nil => rfl
  | cons c b ih =>
    simp only [List.all_cons, Bool.and_eq_true] at h
    unfold skip at ih ⊢
    rw [List.cons_append, List.dropWhile_cons, if_pos h.1]
    exact ih h.2
theorem skip_mark {c : UInt8} (h : isBlank c = false) (l : List UInt8) : skip (c :: l) = c :: l := by
  unfold skip; rw [List.dropWhile_cons, if_neg (by rw [h]; decide)]
theorem value_app {b : List UInt8} (h : b.all isBlank = true) (d : Nat) (l : List UInt8) (n : Nat) : value d (b ++ l) n = value d l n := by
  rw [← value_skip, skip_app h, value_skip]
/-- Nothing of a number begins here. -/
def Ends (r : List UInt8) : Prop := ∀ c, r.head? = some c → isNumc c = false
theorem ends_app {b l : List UInt8} (h : b.all isBlank = true) (hl : Ends l) : Ends (b ++ l) := by
  cases b with
  | nil => exact hl
  | cons c b =>
    simp only [List.all_cons, Bool.and_eq_true] at h
    intro d hd
    simp at hd
    subst hd
    exact blank_numc _ h.1
theorem ends_mark {c : UInt8} (h : isNumc c = false) (l : List UInt8) : Ends (c :: l) := by
  intro d hd
  simp at hd
  subst hd; exact h
theorem span_all {p : UInt8 → Bool} {t r : List UInt8} (h : t.all p = true) (hr : ∀ c, r.head? = some c → p c = false) : (t ++ r).takeWhile p = t ∧ (t ++ r).dropWhile p = r := by
  induction t with
  | nil =>
    cases r with
    | nil => exact ⟨rfl, rfl⟩
    | cons c r =>
      have := hr c rfl
      simp [this]
  | cons c t ih =>
    simp only [List.all_cons, Bool.and_eq_true] at h
    have := ih h.2
    simp [h.1, this.1, this.2]
theorem number_text {t r : List UInt8} {n d : Nat} (h0 : (ownR t).2 = 0) (h1 : (ownR t).1 = t) (hr : Ends r) (hn : n < 65536) : value (d + 1) (t ++ r) n = .ok (.mk 4 t [] [], r, n + 1) := by
  obtain ⟨ha, hne⟩ := own_numc t h0 h1
  have hs := span_all ha hr
  have hv : number (t ++ r) (n + 1) = .ok (.mk 4 t [] [], r, n + 1) := by
    unfold number
    rw [hs.1, hs.2, if_pos h0, h1]
  cases t with
  | nil => exact absurd rfl hne
  | cons c t =>
    simp only [List.all_cons, Bool.and_eq_true] at ha
    obtain ⟨b1, b2, b3, b4, b5, b6, b7⟩ := numc_not c ha.1
    unfold value
    rw [if_neg (by omega), List.cons_append, skip_mark b1]
    rw [List.cons_append] at hv
    split
    · rename_i he; cases he; exact absurd rfl b2
    · rename_i he; cases he; exact absurd rfl b3
    · rename_i he; cases he; exact absurd rfl b4
    · rename_i he; cases he; exact absurd rfl b5
    · rename_i he; cases he; exact absurd rfl b6
    · rename_i he; cases he; exact absurd rfl b7
    · exact hv
theorem word_text {w r : List UInt8} {k n : Nat} : word w k (w ++ r) n = .ok (.mk k [] [] [], r, n) := by
  unfold word
  rw [if_pos (List.isPrefixOf_iff_prefix.2 (List.prefix_append _ _)), List.drop_left]
section
variable (g : Nat → List UInt8) (hg : ∀ n, (g n).all isBlank = true)
include hg
theorem textG_trail (j : J) (n : Nat) : (textG g j n).2.1.all isBlank = true := by
  obtain ⟨k, t, ns, ls⟩ := j
  unfold textG
  repeat' split
  all_goals first | rfl | exact hg _
theorem elems_ends (ls : List J) (bl : List UInt8) (n : Nat) (r : List UInt8) (hb : bl.all isBlank = true) : Ends (bl ++ ((elemsG g ls false n).1 ++ (g (elemsG g ls false n).2 ++ 93 :: r))) := by
  refine ends_app hb ?_
  cases ls with
  | nil => unfold elemsG; simp only [List.nil_append]; exact ends_app (hg _) (ends_mark numc_93 _)
  | cons j js =>
    unfold elemsG
    simp only [Bool.false_eq_true, if_false, List.append_assoc, List.cons_append]
    exact ends_app (hg _) (ends_mark numc_44 _)
theorem mems_ends (ls : List J) (ns : List (List UInt8)) (bl : List UInt8) (n : Nat) (r : List UInt8) (hb : bl.all isBlank = true) : Ends (bl ++ ((memsG g ns ls false n).1 ++ (g (memsG g ns ls false n).2 ++ 125 :: r))) := by
  refine ends_app hb ?_
  cases ls with
  | nil => unfold memsG; simp only [List.nil_append]; exact ends_app (hg _) (ends_mark numc_125 _)
  | cons j js =>
    unfold memsG
    simp only [Bool.false_eq_true, if_false, List.append_assoc, List.cons_append]
    exact ends_app (hg _) (ends_mark numc_44 _)
theorem first_text (j : J) (n : Nat) (hf : formJ j = true) (R : List UInt8) : ∃ c l, skip ((textG g j n).1 ++ R) = c :: l ∧ c ≠ 93 ∧ c ≠ 125 := by
  obtain ⟨k, t, ns, ls⟩ := j
  unfold textG
  unfold formJ at hf
  by_cases k1 : k = 1
  · subst k1; simp only [if_true]; exact ⟨110, _, skip_mark (by decide) _, by decide, by decide⟩
  · by_cases k2 : k = 2
    · subst k2; simp only [if_neg k1, if_true]; exact ⟨116, _, skip_mark (by decide) _, by decide, by decide⟩
    · by_cases k3 : k = 3
      · subst k3; simp only [if_neg k1, if_neg k2, if_true]; exact ⟨102, _, skip_mark (by decide) _, by decide, by decide⟩
      · by_cases k4 : k = 4
        · subst k4
          simp at hf
          obtain ⟨⟨⟨h0, h1⟩, rfl⟩, rfl⟩ := hf
          obtain ⟨ha, hne⟩ := own_numc t h0 h1
          simp only [if_neg k1, if_neg k2, if_neg k3, if_true]
          cases t with
          | nil => exact absurd rfl hne
          | cons c t =>
            simp only [List.all_cons, Bool.and_eq_true] at ha
            have hb := (numc_not c ha.1).1
            exact ⟨c, _, skip_mark hb _, fun e => by subst e; rw [numc_93] at ha; exact absurd ha.1 (by decide), fun e => by subst e; rw [numc_125] at ha; exact absurd ha.1 (by decide)⟩
        · by_cases k5 : k = 5
          · subst k5; simp only [if_neg k1, if_neg k2, if_neg k3, if_neg k4, if_true]; exact ⟨34, _, skip_mark (by decide) _, by decide, by decide⟩
          · simp only [if_neg k1, if_neg k2, if_neg k3, if_neg k4, if_neg k5]
            by_cases k7 : k = 7
            · simp only [if_pos k7, List.append_assoc, List.cons_append]
              exact ⟨123, _, by rw [skip_app (hg _), skip_mark (by decide)], by decide, by decide⟩
            · simp only [if_neg k7, List.append_assoc, List.cons_append]
              exact ⟨91, _, by rw [skip_app (hg _), skip_mark (by decide)], by decide, by decide⟩
mutual
theorem value_text : ∀ (j : J) (d n N : Nat) (r : List UInt8), formJ j = true → onceJ j = true → deepJ j ≤ d → N + countJ j ≤ 65536 → Ends r → value d ((textG g j n).1 ++ r) N = .ok (j, r, N + countJ j)
  | .mk k t ns ls, 0, n, N, r, _, _, hd, _, _ => by unfold deepJ at hd; omega
  | .mk k t ns ls, d + 1, n, N, r, hf, ho, hd, hc, hr => by
    unfold deepJ at hd
    unfold countJ at hc ⊢
    unfold formJ at hf
    unfold onceJ at ho
    unfold textG
    by_cases k1 : k = 1
    · subst k1
      simp at hf
      obtain ⟨⟨rfl, rfl⟩, rfl⟩ := hf
      simp only [if_true, countsJ]
      unfold value
      rw [if_neg (by omega)]
      exact word_text
    · by_cases k2 : k = 2
      · subst k2
        simp at hf
        obtain ⟨⟨rfl, rfl⟩, rfl⟩ := hf
        simp only [if_neg k1, if_true, countsJ]
        unfold value
        rw [if_neg (by omega)]
        exact word_text
      · by_cases k3 : k = 3
        · subst k3
          simp at hf
          obtain ⟨⟨rfl, rfl⟩, rfl⟩ := hf
          simp only [if_neg k1, if_neg k2, if_true, countsJ]
          unfold value
          rw [if_neg (by omega)]
          exact word_text
        · by_cases k4 : k = 4
          · subst k4
            simp at hf
            obtain ⟨⟨⟨h0, h1⟩, rfl⟩, rfl⟩ := hf
            simp only [if_neg k1, if_neg k2, if_neg k3, if_true, countsJ]
            exact number_text h0 h1 hr (by omega)
          · by_cases k5 : k = 5
            · subst k5
              simp at hf
              obtain ⟨⟨h0, rfl⟩, rfl⟩ := hf
              simp only [if_neg k1, if_neg k2, if_neg k3, if_neg k4, if_true, countsJ]
              have hq := quoted_quote t r h0
              unfold value
              rw [if_neg (by omega)]
              have e : quoteJ t ++ r = 34 :: (escs t ++ 34 :: r) := by unfold quoteJ; simp
              rw [e] at hq ⊢
              rw [skip_mark (by decide)]
              simp only
              rw [hq]
            · by_cases k6 : k = 6
              · subst k6
                simp at hf
                obtain ⟨⟨rfl, rfl⟩, hfs⟩ := hf
                simp only [if_neg k1, if_neg k2, if_neg k3, if_neg k4, if_neg k5, if_neg (show ¬ (6 = 7) by decide)]
                simp only [noTwice, Bool.true_and] at ho
                have hb0 := hg n
                have hb1 := hg (n + 1)
                have e := elems_text ls d (n + 2) (N + 1) r hfs ho (by omega) (by omega)
                generalize elemsG g ls true (n + 2) = p at e
                obtain ⟨m, m2⟩ := p
                simp only at e ⊢
                have e2 : (g n ++ 91 :: (g (n + 1) ++ m ++ g m2 ++ [93])) ++ r = g n ++ 91 :: (g (n + 1) ++ (m ++ (g m2 ++ 93 :: r))) := by simp
                rw [e2, value_app hb0]
                unfold value
                rw [if_neg (by omega), skip_mark (by decide)]
                simp only
                rw [skip_app hb1]
                rcases e with ⟨rfl, rfl⟩ | ⟨c, l, hl, hc93, hv⟩
                · rw [List.nil_append, skip_app (hg m2), skip_mark (by decide)]
                  rfl
                · rw [hl]
                  split
                  · rename_i he; cases he; exact absurd rfl hc93
                  · rw [hv _ (Nat.lt_succ_self _)]
                    simp only
                    congr 3
                    omega
              · by_cases k7 : k = 7
                · subst k7
                  simp at hf
                  obtain ⟨⟨⟨rfl, hlen⟩, hns⟩, hfs⟩ := hf
                  simp only [if_neg k1, if_neg k2, if_neg k3, if_neg k4, if_neg k5, if_true]
                  simp only [Bool.and_eq_true] at ho
                  have hb0 := hg n
                  have hb1 := hg (n + 1)
                  have e := mems_text ls ns [] d (n + 2) (N + 1) r hlen hns (fun _ _ h => by cases h) ho.1 hfs ho.2 (by omega) (by omega)
                  generalize memsG g ns ls true (n + 2) = p at e
                  obtain ⟨m, m2⟩ := p
                  simp only at e ⊢
                  have e2 : (g n ++ 123 :: (g (n + 1) ++ m ++ g m2 ++ [125])) ++ r = g n ++ 123 :: (g (n + 1) ++ (m ++ (g m2 ++ 125 :: r))) := by simp
                  rw [e2, value_app hb0]
                  unfold value
                  rw [if_neg (by omega), skip_mark (by decide)]
                  simp only
                  rw [skip_app hb1]
                  rcases e with ⟨rfl, rfl, rfl⟩ | ⟨c, l, hl, hc93, hv⟩
                  · rw [List.nil_append, skip_app (hg m2), skip_mark (by decide)]
                    rfl
                  · rw [hl]
                    split
                    · rename_i he; cases he; exact absurd rfl hc93
                    · rw [hv _ (Nat.lt_succ_self _)]
                      simp only
                      congr 3
                      omega
                · simp [k1, k2, k3, k4, k5, k6, k7] at hf
theorem elems_text : ∀ (ls : List J) (d n N : Nat) (r : List UInt8), formsJ ls = true → oncesJ ls = true → deepsJ ls ≤ d → N + countsJ ls ≤ 65536 →
    (ls = [] ∧ (elemsG g ls true n).1 = []) ∨ (∃ c l, skip ((elemsG g ls true n).1 ++ (g (elemsG g ls true n).2 ++ 93 :: r)) = c :: l ∧ c ≠ 93 ∧ ∀ f, (c :: l).length < f → items (value d) f (c :: l) N = .ok (ls, r, N + countsJ ls))
  | [], d, n, N, r, _, _, _, _ => .inl ⟨rfl, by unfold elemsG; rfl⟩
  | j :: js, d, n, N, r, hf, ho, hd, hc => by
    unfold formsJ at hf
    unfold oncesJ at ho
    unfold deepsJ at hd
    unfold countsJ at hc ⊢
    simp only [Bool.and_eq_true] at hf ho
    have ht := textG_trail g hg j n
    have hfirst := first_text g hg j n
    have hval := fun N r => value_text j d n N r hf.1 ho.1 (by omega)
    have hrest := elems_rest js (textG g j n).2.1 d (textG g j n).2.2 (N + countJ j) r ht hf.2 ho.2 (by omega) (by omega)
    have hends := elems_ends g hg js (textG g j n).2.1 (textG g j n).2.2 r ht
    unfold elemsG
    simp only [if_true]
    generalize textG g j n = p at *
    obtain ⟨a, b, n2⟩ := p
    simp only at *
    generalize elemsG g js false n2 = q at *
    obtain ⟨m, n3⟩ := q
    simp only at *
    right
    have e : [] ++ a ++ b ++ m ++ (g n3 ++ 93 :: r) = a ++ (b ++ (m ++ (g n3 ++ 93 :: r))) := by simp
    rw [e]
    obtain ⟨c, l, h1, h2, _⟩ := hfirst hf.1 (b ++ (m ++ (g n3 ++ 93 :: r)))
    refine ⟨c, l, h1, h2, fun f hlt => ?_⟩
    rw [items_step (value_uses d) f _ N hlt, ← h1, value_skip, hval N _ (by omega) hends]
    simp only
    rw [hrest]
    simp only [preJ, List.singleton_append]
    congr 3
    omega
theorem elems_rest : ∀ (ls : List J) (bl : List UInt8) (d n N : Nat) (r : List UInt8), bl.all isBlank = true → formsJ ls = true → oncesJ ls = true → deepsJ ls ≤ d → N + countsJ ls ≤ 65536 →
    itemsRest (value d) (bl ++ ((elemsG g ls false n).1 ++ (g (elemsG g ls false n).2 ++ 93 :: r))) N = .ok (ls, r, N + countsJ ls)
  | [], bl, d, n, N, r, hb, _, _, _, _ => by
    unfold itemsRest elemsG
    rw [skip_app hb, List.nil_append, skip_app (hg _), skip_mark (by decide)]
    rfl
  | j :: js, bl, d, n, N, r, hb, hf, ho, hd, hc => by
    unfold formsJ at hf
    unfold oncesJ at ho
    unfold deepsJ at hd
    unfold countsJ at hc ⊢
    simp only [Bool.and_eq_true] at hf ho
    have ht := textG_trail g hg j (n + 2)
    have hval := fun N r => value_text j d (n + 2) N r hf.1 ho.1 (by omega)
    have hrest := elems_rest js (textG g j (n + 2)).2.1 d (textG g j (n + 2)).2.2 (N + countJ j) r ht hf.2 ho.2 (by omega) (by omega)
    have hends := elems_ends g hg js (textG g j (n + 2)).2.1 (textG g j (n + 2)).2.2 r ht
    unfold elemsG
    simp only [Bool.false_eq_true, if_false]
    generalize textG g j (n + 2) = p at *
    obtain ⟨a, b, n2⟩ := p
    simp only at *
    generalize elemsG g js false n2 = q at *
    obtain ⟨m, n3⟩ := q
    simp only at *
    have e : bl ++ (g n ++ 44 :: g (n + 1) ++ a ++ b ++ m ++ (g n3 ++ 93 :: r)) = bl ++ (g n ++ 44 :: (g (n + 1) ++ (a ++ (b ++ (m ++ (g n3 ++ 93 :: r)))))) := by simp
    rw [e]
    unfold itemsRest
    rw [skip_app hb, skip_app (hg n), skip_mark (by decide)]
    simp only
    rw [items_step (value_uses d) _ _ N (Nat.lt_succ_self _), value_app (hg _), hval N _ (by omega) hends]
    simp only
    rw [hrest]
    simp only [preJ, List.singleton_append]
    congr 3
    omega
theorem mems_text : ∀ (ls : List J) (ns known : List (List UInt8)) (d n N : Nat) (r : List UInt8), ns.length = ls.length → (∀ s ∈ ns, Utf.validS ⟨s.toArray⟩ = true) → (∀ s ∈ ns, known.contains s = true → False) → noTwice ns = true → formsJ ls = true → oncesJ ls = true → deepsJ ls ≤ d → N + countsJ ls ≤ 65536 →
    (ls = [] ∧ ns = [] ∧ (memsG g ns ls true n).1 = []) ∨ (∃ c l, skip ((memsG g ns ls true n).1 ++ (g (memsG g ns ls true n).2 ++ 125 :: r)) = c :: l ∧ c ≠ 125 ∧ ∀ f, (c :: l).length < f → members (value d) f known (c :: l) N = .ok ((ns, ls), r, N + countsJ ls))
  | [], ns, known, d, n, N, r, hl, _, _, _, _, _, _, _ => .inl ⟨rfl, List.eq_nil_of_length_eq_zero hl, by unfold memsG; rfl⟩
  | j :: js, [], known, d, n, N, r, hl, _, _, _, _, _, _, _ => by simp at hl
  | j :: js, s :: ns, known, d, n, N, r, hl, hv, hk, hn, hf, ho, hd, hc => by
    unfold formsJ at hf
    unfold oncesJ at ho
    unfold deepsJ at hd
    unfold countsJ at hc ⊢
    unfold noTwice at hn
    simp only [Bool.and_eq_true] at hf ho hn
    have ht := textG_trail g hg j (n + 2)
    have hval := fun N r => value_text j d (n + 2) N r hf.1 ho.1 (by omega)
    have hrest := mems_rest js ns (s :: known) (textG g j (n + 2)).2.1 d (textG g j (n + 2)).2.2 (N + countJ j) r ht (by simpa using hl) (fun t h => hv t (List.mem_cons_of_mem _ h))
      (fun t h h2 => by
        simp only [List.contains_cons, Bool.or_eq_true, beq_iff_eq] at h2
        rcases h2 with h2 | h2
        · subst h2
          have : ns.contains t = true := List.contains_iff_mem.2 h
          rw [this] at hn; exact absurd hn.1 (by decide)
        · exact hk t (List.mem_cons_of_mem _ h) h2) hn.2 hf.2 ho.2 (by omega) (by omega)
    have hends := mems_ends g hg js ns (textG g j (n + 2)).2.1 (textG g j (n + 2)).2.2 r ht
    have hq := fun r => quoted_quote s r (hv s (by simp))
    have hks : known.contains s = false := Bool.eq_false_iff.2 fun h => hk s (by simp) h
    unfold memsG
    simp only [if_true, List.tail_cons, List.headD_cons]
    generalize textG g j (n + 2) = p at *
    obtain ⟨a, b, n2⟩ := p
    simp only at *
    generalize memsG g ns js false n2 = q at *
    obtain ⟨m, n3⟩ := q
    simp only at *
    right
    have e : [] ++ quoteJ s ++ g n ++ 58 :: (g (n + 1) ++ a ++ b ++ m) ++ (g n3 ++ 125 :: r) = quoteJ s ++ (g n ++ 58 :: (g (n + 1) ++ (a ++ (b ++ (m ++ (g n3 ++ 125 :: r)))))) := by simp
    rw [e]
    have e3 : ∀ R, skip (quoteJ s ++ R) = quoteJ s ++ R := fun R => skip_mark (c := 34) (by decide) _
    refine ⟨34, _, e3 _, by decide, fun f hlt => ?_⟩
    rw [members_step (value_uses d) f known _ N hlt]
    have e4 : member (value d) known (quoteJ s ++ (g n ++ 58 :: (g (n + 1) ++ (a ++ (b ++ (m ++ (g n3 ++ 125 :: r))))))) N = .ok ((s, j), b ++ (m ++ (g n3 ++ 125 :: r)), N + countJ j) := by
      unfold member
      rw [e3, hq]
      simp only
      rw [hks, skip_app (hg n), skip_mark (by decide)]
      simp only [Bool.false_eq_true, if_false]
      rw [value_app (hg _), hval N _ (by omega) hends]
    have e5 : (34 :: (escs s ++ [34]) ++ (g n ++ 58 :: (g (n + 1) ++ (a ++ (b ++ (m ++ (g n3 ++ 125 :: r))))))) = quoteJ s ++ (g n ++ 58 :: (g (n + 1) ++ (a ++ (b ++ (m ++ (g n3 ++ 125 :: r)))))) := rfl
    show (match member (value d) known (quoteJ s ++ (g n ++ 58 :: (g (n + 1) ++ (a ++ (b ++ (m ++ (g n3 ++ 125 :: r))))))) N with | .error e => Except.error e | .ok ((name, j), r, n2) => preM [name] [j] (membersRest (value d) (name :: known) r n2)) = _
    rw [e4]
    simp only
    rw [hrest]
    simp only [preM, List.singleton_append]
    congr 3
    omega
theorem mems_rest : ∀ (ls : List J) (ns known : List (List UInt8)) (bl : List UInt8) (d n N : Nat) (r : List UInt8), bl.all isBlank = true → ns.length = ls.length → (∀ s ∈ ns, Utf.validS ⟨s.toArray⟩ = true) → (∀ s ∈ ns, known.contains s = true → False) → noTwice ns = true → formsJ ls = true → oncesJ ls = true → deepsJ ls ≤ d → N + countsJ ls ≤ 65536 →
    membersRest (value d) known (bl ++ ((memsG g ns ls false n).1 ++ (g (memsG g ns ls false n).2 ++ 125 :: r))) N = .ok ((ns, ls), r, N + countsJ ls)
  | [], ns, known, bl, d, n, N, r, hb, hl, _, _, _, _, _, _, _ => by
    obtain rfl : ns = [] := List.eq_nil_of_length_eq_zero hl
    unfold membersRest memsG
    rw [skip_app hb, List.nil_append, skip_app (hg _), skip_mark (by decide)]
    rfl
  | j :: js, [], known, bl, d, n, N, r, hb, hl, _, _, _, _, _, _, _ => by simp at hl
  | j :: js, s :: ns, known, bl, d, n, N, r, hb, hl, hv, hk, hn, hf, ho, hd, hc => by
    unfold formsJ at hf
    unfold oncesJ at ho
    unfold deepsJ at hd
    unfold countsJ at hc ⊢
    unfold noTwice at hn
    simp only [Bool.and_eq_true] at hf ho hn
    have ht := textG_trail g hg j (n + 2 + 2)
    have hval := fun N r => value_text j d (n + 2 + 2) N r hf.1 ho.1 (by omega)
    have hrest := mems_rest js ns (s :: known) (textG g j (n + 2 + 2)).2.1 d (textG g j (n + 2 + 2)).2.2 (N + countJ j) r ht (by simpa using hl) (fun t h => hv t (List.mem_cons_of_mem _ h))
      (fun t h h2 => by
        simp only [List.contains_cons, Bool.or_eq_true, beq_iff_eq] at h2
        rcases h2 with h2 | h2
        · subst h2
          have : ns.contains t = true := List.contains_iff_mem.2 h
          rw [this] at hn; exact absurd hn.1 (by decide)
        · exact hk t (List.mem_cons_of_mem _ h) h2) hn.2 hf.2 ho.2 (by omega) (by omega)
    have hends := mems_ends g hg js ns (textG g j (n + 2 + 2)).2.1 (textG g j (n + 2 + 2)).2.2 r ht
    have hq := fun r => quoted_quote s r (hv s (by simp))
    have hks : known.contains s = false := Bool.eq_false_iff.2 fun h => hk s (by simp) h
    unfold memsG
    simp only [Bool.false_eq_true, if_false, List.tail_cons, List.headD_cons]
    generalize textG g j (n + 2 + 2) = p at *
    obtain ⟨a, b, n2⟩ := p
    simp only at *
    generalize memsG g ns js false n2 = q at *
    obtain ⟨m, n3⟩ := q
    simp only at *
    have e : bl ++ (g n ++ 44 :: g (n + 1) ++ quoteJ s ++ g (n + 2) ++ 58 :: (g (n + 2 + 1) ++ a ++ b ++ m) ++ (g n3 ++ 125 :: r)) = bl ++ (g n ++ 44 :: (g (n + 1) ++ (quoteJ s ++ (g (n + 2) ++ 58 :: (g (n + 2 + 1) ++ (a ++ (b ++ (m ++ (g n3 ++ 125 :: r))))))))) := by simp
    rw [e]
    have e3 : ∀ R, skip (quoteJ s ++ R) = quoteJ s ++ R := fun R => skip_mark (c := 34) (by decide) _
    unfold membersRest
    rw [skip_app hb, skip_app (hg n), skip_mark (by decide)]
    simp only
    rw [members_step (value_uses d) _ known _ N (Nat.lt_succ_self _)]
    have e4 : member (value d) known (g (n + 1) ++ (quoteJ s ++ (g (n + 2) ++ 58 :: (g (n + 2 + 1) ++ (a ++ (b ++ (m ++ (g n3 ++ 125 :: r)))))))) N = .ok ((s, j), b ++ (m ++ (g n3 ++ 125 :: r)), N + countJ j) := by
      unfold member
      rw [skip_app (hg _), e3, hq]
      simp only
      rw [hks, skip_app (hg _), skip_mark (by decide)]
      simp only [Bool.false_eq_true, if_false]
      rw [value_app (hg _), hval N _ (by omega) hends]
    rw [e4]
    simp only
    rw [hrest]
    simp only [preM, List.singleton_append]
    congr 3
    omega
end
end
end Go.Proofs.YtgcpgieojckheaaGreatDoor.Json
