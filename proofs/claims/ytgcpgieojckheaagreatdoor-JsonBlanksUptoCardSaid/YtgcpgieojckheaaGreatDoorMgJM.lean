/-
  What is plain of numbers' bytes, of low characters; printing, plainly; a printed text read again; what is read may be printed; blanks put in. No model in it.
-/
import Derived.Test.YtgcpgieojckheaaGreatDoorMgJW2
import Derived.Test.YtgcpgieojckheaaGreatDoorMgA
namespace Go.Proofs.YtgcpgieojckheaaGreatDoor.Json
open Go.Proofs.YtgcpgieojckheaaGreatDoor

theorem putB_low (c : UInt8) (h : c.toNat < 128) : (Utf.putB (c.toNat : Nat)).data.toList = [c] := by
  have h1 := Utf.putB_toList (c.toNat : Int)
  have h2 : Utf.putN (c.toNat : Int) = [c.toNat] := by
    unfold Utf.putN
    rw [if_neg (by omega), if_pos (by omega)]
    simp
  rw [h2] at h1
  cases hl : (Utf.putB (c.toNat : Int)).data.toList with
  | nil => rw [hl] at h1; cases h1
  | cons a r =>
    rw [hl] at h1
    simp only [List.map_cons, List.cons.injEq, List.map_eq_nil_iff] at h1
    rw [h1.2, UInt8.toNat_inj.1 h1.1]
theorem numc_dig {c : UInt8} (h : isDig c = true) : isNumc c = true := by unfold isNumc; rw [h]; rfl
theorem itoa_numc (n : Int) : ∀ c ∈ Lib.itoa n, isNumc c = true := by
  unfold Lib.itoa
  split
  · intro c hc
    rcases List.mem_cons.1 hc with rfl | hc
    · decide
    · exact numc_dig (decDigits_dig _ c hc)
  · intro c hc
    exact numc_dig (decDigits_dig _ c hc)
theorem form_numc {n : Num} (h : Canon n) : (form n).all isNumc = true ∧ form n ≠ [] := by
  unfold form wholeForm expForm
  refine ⟨?_, ?_⟩
  · rw [List.all_eq_true]
    intro c hc
    rcases List.mem_append.1 hc with hc | hc
    · split at hc
      · rw [List.mem_singleton.1 hc]; decide
      · rcases List.mem_append.1 hc with hc | hc
        · split at hc
          · rw [List.mem_singleton.1 hc]; decide
          · cases hc
        · exact numc_dig (h.dig c hc)
    · split at hc
      · cases hc
      · rcases List.mem_cons.1 hc with rfl | hc
        · decide
        · exact itoa_numc _ c hc
  · split
    · simp
    · rename_i hd
      intro he
      simp only [List.append_eq_nil_iff] at he
      exact hd he.1.2
theorem own_form (t : List UInt8) (h : (ownR t).2 = 0) : (readR t).2 = 0 ∧ (ownR t).1 = form (readR t).1 := by
  unfold ownR at h ⊢
  split at h
  · rename_i h0
    exact ⟨h0, by rw [if_pos h0]⟩
  · rename_i h0
    exact absurd h h0
theorem own_numc (t : List UInt8) (h : (ownR t).2 = 0) : (ownR t).1 = t → t.all isNumc = true ∧ t ≠ [] := by
  intro e
  have := form_numc (canon_read t).1
  rw [← (own_form t h).2, e] at this
  exact this
theorem own_again (t : List UInt8) (h : (ownR t).2 = 0) : (ownR (ownR t).1).2 = 0 ∧ (ownR (ownR t).1).1 = (ownR t).1 := by
  have := own_own t (own_form t h).1
  rw [this]
  exact ⟨rfl, rfl⟩
theorem all_u8 {p : UInt8 → Bool} (h : (List.range 256).all (fun n => p (UInt8.ofNat n)) = true) (c : UInt8) : p c = true := by
  have := List.all_eq_true.1 h c.toNat (List.mem_range.2 c.toNat_lt)
  simpa using this
theorem blank_numc (c : UInt8) (h : isBlank c = true) : isNumc c = false := by
  have := all_u8 (p := fun c => !isBlank c || !isNumc c) (by decide +kernel) c
  simpa [h] using this
theorem numc_44 : isNumc 44 = false := by decide
theorem numc_93 : isNumc 93 = false := by decide
theorem numc_125 : isNumc 125 = false := by decide
theorem numc_not (c : UInt8) (h : isNumc c = true) : isBlank c = false ∧ c ≠ 110 ∧ c ≠ 116 ∧ c ≠ 102 ∧ c ≠ 34 ∧ c ≠ 91 ∧ c ≠ 123 := by
  have := all_u8 (p := fun c => !isNumc c || (!isBlank c && (c != 110 && (c != 116 && (c != 102 && (c != 34 && (c != 91 && c != 123))))))) (by decide +kernel) c
  simpa [h, bne_iff_ne] using this
theorem isDig_rng {c : UInt8} (h : isDig c = true) : 48 ≤ c.toNat ∧ c.toNat ≤ 57 := by unfold isDig at h; simpa using h
/- printing, plainly -/
def hexd (n : Nat) : UInt8 := if n < 10 then UInt8.ofNat (48 + n) else UInt8.ofNat (87 + n)
def escC (c : UInt8) : List UInt8 :=
  if c = 34 then [92, 34] else if c = 92 then [92, 92] else if c = 8 then [92, 98] else if c = 12 then [92, 102] else if c = 10 then [92, 110] else if c = 13 then [92, 114] else if c = 9 then [92, 116]
  else if c.toNat < 32 then [92, 117, 48, 48, hexd (c.toNat / 16), hexd (c.toNat % 16)] else [c]
def escs (s : List UInt8) : List UInt8 := s.flatMap escC
def quoteJ (s : List UInt8) : List UInt8 := 34 :: (escs s ++ [34])
mutual
/-- A value's text, with blanks around its marks; g: the blanks, by their number. The text, what stands behind it, the next number. -/
def textG (g : Nat → List UInt8) : J → Nat → List UInt8 × List UInt8 × Nat
  | .mk k t ns ls, n =>
    if k = 1 then ([110, 117, 108, 108], [], n) else if k = 2 then ([116, 114, 117, 101], [], n) else if k = 3 then ([102, 97, 108, 115, 101], [], n) else if k = 4 then (t, [], n) else if k = 5 then (quoteJ t, [], n)
    else if k = 7 then
      match memsG g ns ls true (n + 2) with
      | (m, m2) => (g n ++ 123 :: (g (n + 1) ++ m ++ g m2 ++ [125]), g (m2 + 1), m2 + 2)
    else
      match elemsG g ls true (n + 2) with
      | (m, m2) => (g n ++ 91 :: (g (n + 1) ++ m ++ g m2 ++ [93]), g (m2 + 1), m2 + 2)
def elemsG (g : Nat → List UInt8) : List J → Bool → Nat → List UInt8 × Nat
  | [], _, n => ([], n)
  | j :: js, first, n =>
    let c : List UInt8 := if first then [] else g n ++ 44 :: g (n + 1)
    let n1 := if first then n else n + 2
    match textG g j n1 with
    | (a, b, n2) =>
      match elemsG g js false n2 with
      | (m, n3) => (c ++ a ++ b ++ m, n3)
def memsG (g : Nat → List UInt8) : List (List UInt8) → List J → Bool → Nat → List UInt8 × Nat
  | ns, j :: js, first, n =>
    let c : List UInt8 := if first then [] else g n ++ 44 :: g (n + 1)
    let n1 := if first then n else n + 2
    match textG g j (n1 + 2) with
    | (a, b, n2) =>
      match memsG g ns.tail js false n2 with
      | (m, n3) => (c ++ quoteJ (ns.headD []) ++ g n1 ++ 58 :: (g (n1 + 1) ++ a ++ b ++ m), n3)
  | _, [], _, n => ([], n)
end
mutual
def deepJ : J → Nat
  | .mk _ _ _ ls => deepsJ ls + 1
def deepsJ : List J → Nat
  | [] => 0
  | j :: js => max (deepJ j) (deepsJ js)
end
mutual
def countJ : J → Nat
  | .mk _ _ _ ls => countsJ ls + 1
def countsJ : List J → Nat
  | [] => 0
  | j :: js => countJ j + countsJ js
end
mutual
/-- May a value be, but for names that stand twice? -/
def formJ : J → Bool
  | .mk k t ns ls =>
    if k = 1 ∨ k = 2 ∨ k = 3 then t.isEmpty && ns.isEmpty && ls.isEmpty
    else if k = 4 then decide ((ownR t).2 = 0) && (ownR t).1 == t && ns.isEmpty && ls.isEmpty
    else if k = 5 then Utf.validS ⟨t.toArray⟩ && ns.isEmpty && ls.isEmpty
    else if k = 6 then t.isEmpty && ns.isEmpty && formsJ ls
    else if k = 7 then t.isEmpty && decide (ns.length = ls.length) && ns.all (fun s => Utf.validS ⟨s.toArray⟩) && formsJ ls
    else false
def formsJ : List J → Bool
  | [] => true
  | j :: js => formJ j && formsJ js
end
def noTwice : List (List UInt8) → Bool
  | [] => true
  | s :: r => !r.contains s && noTwice r
mutual
/-- Does no name stand twice? -/
def onceJ : J → Bool
  | .mk _ _ ns ls => noTwice ns && oncesJ ls
def oncesJ : List J → Bool
  | [] => true
  | j :: js => onceJ j && oncesJ js
end
theorem hexV_hexd (n : Nat) (h : n < 16) : hexV (hexd n) = some n := by
  have : ∀ n : Fin 16, hexV (hexd n.val) = some n.val := by decide
  exact this ⟨n, h⟩
set_option maxRecDepth 100000 in
theorem escR_esc (c : UInt8) (h : isPlain c = false) (r : List UInt8) : ∃ t, escC c = 92 :: t ∧ escR (t ++ r) = some ([c], r) := by
  unfold escC
  by_cases h1 : c = 34
  · subst h1; exact ⟨_, by rw [if_pos rfl], by simp [escR, meant]⟩
  · by_cases h2 : c = 92
    · subst h2; exact ⟨_, by rw [if_neg h1, if_pos rfl], by simp [escR, meant]⟩
    · rw [if_neg h1, if_neg h2]
      by_cases h3 : c = 8
      · subst h3; exact ⟨_, by rw [if_pos rfl], by simp [escR, meant]⟩
      · rw [if_neg h3]
        by_cases h4 : c = 12
        · subst h4; exact ⟨_, by rw [if_pos rfl], by simp [escR, meant]⟩
        · rw [if_neg h4]
          by_cases h5 : c = 10
          · subst h5; exact ⟨_, by rw [if_pos rfl], by simp [escR, meant]⟩
          · rw [if_neg h5]
            by_cases h6 : c = 13
            · subst h6; exact ⟨_, by rw [if_pos rfl], by simp [escR, meant]⟩
            · rw [if_neg h6]
              by_cases h7 : c = 9
              · subst h7; exact ⟨_, by rw [if_pos rfl], by simp [escR, meant]⟩
              · rw [if_neg h7]
                have hlt : c.toNat < 32 := by
                  unfold isPlain at h
                  simp only [Bool.and_eq_false_iff, decide_eq_false_iff_not, bne_eq_false_iff_eq] at h
                  rcases h with h | h | h
                  · omega
                  · exact absurd h h1
                  · exact absurd h h2
                refine ⟨_, by rw [if_pos hlt], ?_⟩
                have hu : unit4 (48 :: 48 :: hexd (c.toNat / 16) :: hexd (c.toNat % 16) :: r) = some (c.toNat, r) := by
                  unfold unit4
                  simp only [hexV_hexd _ (show c.toNat / 16 < 16 by omega), hexV_hexd _ (show c.toNat % 16 < 16 by omega)]
                  have : hexV 48 = some 0 := rfl
                  rw [this]
                  simp only
                  congr 2
                  omega
                have hp := putB_low c (by omega)
                show escR (117 :: (48 :: 48 :: hexd (c.toNat / 16) :: hexd (c.toNat % 16) :: r)) = _
                unfold escR
                simp only
                have hm : meant 117 = none := rfl
                rw [hm]
                simp only [if_true]
                unfold units
                rw [hu]
                simp only
                have hz : (Utf.putB (c.toNat : Nat)).size ≠ 0 := by
                  rw [Lib.size_eq, hp]; exact Nat.one_ne_zero
                rw [if_pos hz, hp]
theorem bodyA_escs : ∀ (s r : List UInt8), bodyA (escs s ++ 34 :: r) = some (s, r)
  | [], r => bodyA_quote r
  | c :: s, r => by
    have e : escs (c :: s) ++ 34 :: r = escC c ++ (escs s ++ 34 :: r) := by unfold escs; rw [List.flatMap_cons, List.append_assoc]
    rw [e]
    cases h : isPlain c with
    | true =>
      have hc : escC c = [c] := by
        have h' := h
        unfold isPlain at h'
        simp only [Bool.and_eq_true, decide_eq_true_eq, bne_iff_ne, ne_eq] at h'
        have n : ∀ k : UInt8, k.toNat < 32 → c ≠ k := fun k hk e => by subst e; omega
        unfold escC
        rw [if_neg h'.2.1, if_neg h'.2.2, if_neg (n 8 (by decide)), if_neg (n 12 (by decide)), if_neg (n 10 (by decide)), if_neg (n 13 (by decide)), if_neg (n 9 (by decide)), if_neg (by omega)]
      rw [hc, List.singleton_append, bodyA_one c _ h, bodyA_escs s r]; rfl
    | false =>
      obtain ⟨t, h1, h2⟩ := escR_esc c h (escs s ++ 34 :: r)
      rw [h1, List.cons_append, bodyA_esc, h2]
      simp only
      rw [bodyA_escs s r]; rfl
theorem quoted_quote (s r : List UInt8) (h : Utf.validS ⟨s.toArray⟩ = true) : quoted (quoteJ s ++ r) = some (s, r) := by
  have e : quoteJ s ++ r = 34 :: (escs s ++ 34 :: r) := by unfold quoteJ; simp
  rw [e, quoted_at, bodyA_escs]
  simp only
  rw [if_pos h]
end Go.Proofs.YtgcpgieojckheaaGreatDoor.Json
