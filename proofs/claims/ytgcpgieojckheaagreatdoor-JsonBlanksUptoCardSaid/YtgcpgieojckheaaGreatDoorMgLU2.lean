/-
  What is printed is read as it was; what is read may be printed, and is not long: plainly.
-/
import Derived.Test.YtgcpgieojckheaaGreatDoorMgLU
import Derived.Test.YtgcpgieojckheaaGreatDoorMgJM3
import Derived.Test.YtgcpgieojckheaaGreatDoorMgL
namespace Go.Proofs.YtgcpgieojckheaaGreatDoor.Json
open Go.Proofs.YtgcpgieojckheaaGreatDoor

theorem putB_len (n : Int) : (Utf.putB n).data.toList.length ≤ 4 := by
  have h := congrArg List.length (Utf.putB_toList n)
  rw [List.length_map] at h
  rw [h]
  unfold Utf.putN
  repeat' split
  all_goals simp
theorem items_code {v : Val} (hv : ∀ l n e, v l n = .error e → e ≠ 0) : ∀ (f : Nat) (l : List UInt8) (n : Nat) (e : Int), items v f l n = .error e → e ≠ 0
  | 0, l, n, e, h => by unfold items at h; cases h; decide
  | f + 1, l, n, e, h => by
    unfold items at h
    split at h
    · rename_i h0; cases h; exact hv _ _ _ h0
    · split at h
      · split at h
        · rename_i h3; cases h; exact items_code hv f _ _ _ h3
        · cases h
      · cases h
      · cases h; decide
theorem members_code {v : Val} (hv : ∀ l n e, v l n = .error e → e ≠ 0) : ∀ (f : Nat) (known : List (List UInt8)) (l : List UInt8) (n : Nat) (e : Int), members v f known l n = .error e → e ≠ 0
  | 0, known, l, n, e, h => by unfold members at h; cases h; decide
  | f + 1, known, l, n, e, h => by
    unfold members at h
    split at h
    · cases h; decide
    · split at h
      · cases h; decide
      · split at h
        · split at h
          · rename_i h2; cases h; exact hv _ _ _ h2
          · split at h
            · split at h
              · rename_i h4; cases h; exact members_code hv f _ _ _ _ h4
              · cases h
            · cases h
            · cases h; decide
        · cases h; decide
theorem value_code : ∀ (d : Nat) (l : List UInt8) (n : Nat) (e : Int), value d l n = .error e → e ≠ 0
  | 0, l, n, e, h => by unfold value at h; cases h; decide
  | d + 1, l, n, e, h => by
    have hv := value_code d
    have hwd : ∀ {w l : List UInt8} {k n : Nat} {e : Int}, word w k l n = .error e → e ≠ 0 := fun h => by
      unfold word at h
      split at h
      · cases h
      · cases h; decide
    unfold value at h
    split at h
    · cases h; decide
    · split at h
      · exact hwd h
      · exact hwd h
      · exact hwd h
      · split at h
        · cases h; decide
        · cases h
      · split at h
        · cases h
        · split at h
          · rename_i h4; cases h; exact items_code hv _ _ _ _ h4
          · cases h
      · split at h
        · cases h
        · split at h
          · rename_i h4; cases h; exact members_code hv _ _ _ _ _ h4
          · cases h
      · unfold number at h
        split at h
        · cases h
        · rename_i h0; cases h; exact h0
theorem out_ne (j : J) (h : formJ j = true) : outJ j ≠ [] := by
  obtain ⟨k, t, ns, ls⟩ := j
  unfold formJ at h
  by_cases k1 : k = 1 ∨ k = 2 ∨ k = 3
  · rcases k1 with rfl | rfl | rfl
    · rw [outJ_1]; simp
    · rw [outJ_2]; simp
    · rw [outJ_3]; simp
  · rw [if_neg k1] at h
    by_cases k4 : k = 4
    · subst k4
      rw [if_pos rfl] at h
      simp only [Bool.and_eq_true, decide_eq_true_eq, beq_iff_eq] at h
      rw [outJ_4]
      exact (own_numc t h.1.1.1 h.1.1.2).2
    · rw [if_neg k4] at h
      by_cases k5 : k = 5
      · subst k5; rw [outJ_5]; unfold quoteJ; simp
      · rw [if_neg k5] at h
        by_cases k6 : k = 6
        · subst k6; rw [outJ_6]; simp
        · rw [if_neg k6] at h
          by_cases k7 : k = 7
          · subst k7; rw [outJ_7]; simp
          · rw [if_neg k7] at h; cases h
/-- What the form says of the parts. -/
theorem form_parts {k : Nat} {t : List UInt8} {ns : List (List UInt8)} {ls : List J} (h : formJ (.mk k t ns ls) = true) : k ≤ 7 ∧ ns.length ≤ ls.length ∧ (k = 7 → ns.length = ls.length) ∧ formsJ ls = true := by
  unfold formJ at h
  by_cases k1 : k = 1 ∨ k = 2 ∨ k = 3
  · rw [if_pos k1] at h
    simp only [Bool.and_eq_true, List.isEmpty_iff] at h
    obtain ⟨⟨_, rfl⟩, rfl⟩ := h
    exact ⟨by omega, Nat.le_refl _, fun _ => rfl, by unfold formsJ; rfl⟩
  · rw [if_neg k1] at h
    by_cases k4 : k = 4
    · rw [if_pos k4] at h
      simp only [Bool.and_eq_true, List.isEmpty_iff] at h
      obtain ⟨⟨_, rfl⟩, rfl⟩ := h
      exact ⟨by omega, Nat.le_refl _, fun _ => rfl, by unfold formsJ; rfl⟩
    · rw [if_neg k4] at h
      by_cases k5 : k = 5
      · rw [if_pos k5] at h
        simp only [Bool.and_eq_true, List.isEmpty_iff] at h
        obtain ⟨⟨_, rfl⟩, rfl⟩ := h
        exact ⟨by omega, Nat.le_refl _, fun _ => rfl, by unfold formsJ; rfl⟩
      · rw [if_neg k5] at h
        by_cases k6 : k = 6
        · rw [if_pos k6] at h
          simp only [Bool.and_eq_true, List.isEmpty_iff] at h
          obtain ⟨⟨_, rfl⟩, h3⟩ := h
          exact ⟨by omega, by simp, fun e => absurd e (by omega), h3⟩
        · rw [if_neg k6] at h
          by_cases k7 : k = 7
          · rw [if_pos k7] at h
            simp only [Bool.and_eq_true, decide_eq_true_eq] at h
            exact ⟨by omega, by omega, fun _ => h.1.1.2, h.2⟩
          · rw [if_neg k7] at h; cases h
mutual
theorem ok_of : ∀ j : J, formJ j = true → longJ j → countJ j ≤ 65536 → okJ j
  | .mk k t ns ls, h, hl, hc => by
    obtain ⟨f1, f2, f3, f4⟩ := form_parts h
    unfold longJ at hl
    unfold countJ at hc
    have := cls ls
    unfold okJ
    exact ⟨f1, hl.1, hl.2.1, by omega, f3, oks_of ls f4 hl.2.2.2 (by omega)⟩
theorem oks_of : ∀ l : List J, formsJ l = true → longsJ l → countsJ l ≤ 65536 → oksJ l
  | [], _, _, _ => by unfold oksJ; trivial
  | j :: js, h, hl, hc => by
    unfold formsJ at h
    unfold longsJ at hl
    unfold countsJ at hc
    simp only [Bool.and_eq_true] at h
    unfold oksJ
    exact ⟨ok_of j h.1 hl.1 (by omega), oks_of js h.2 hl.2 (by omega)⟩
end
theorem check_ok (j : J) (hc : countJ j ≤ 2147483647) (hl : longJ j) (h : checkG j = 0) : okJ j ∧ outJ j ≠ [] := by
  obtain ⟨_, h2, h3, _⟩ := (check_zero j hc).1 h
  exact ⟨ok_of j h3 hl h2, out_ne j h3⟩
theorem out_parse (j : J) (hc : countJ j ≤ 2147483647) (h : checkG j = 0) (hl : (outJ j).length ≤ 262144) : parse (outJ j) = (j, 0) := by
  obtain ⟨h1, h2, h3, h4⟩ := (check_zero j hc).1 h
  have e := value_text noGap (fun _ => rfl) j 64 0 0 [] h3 h4 h1 (by omega) (by intro c hc; cases hc)
  rw [← out_text j 0 h3, List.append_nil] at e
  unfold parse
  rw [if_neg (by omega), e]
  rfl
theorem print_back (j : J) (hc : countJ j ≤ 2147483647) (h : (printO j).2 = 0) : parse (printO j).1 = (j, 0) := by
  unfold printO at h ⊢
  by_cases h0 : checkG j = 0
  · rw [if_pos h0] at h ⊢
    unfold printG at h ⊢
    by_cases hl : (outJ j).length ≤ 262144
    · rw [if_pos hl]; exact out_parse j hc h0 hl
    · rw [if_neg hl] at h; exact absurd h (by show ¬ (40 : Int) = 0; omega)
  · rw [if_neg h0] at h; exact absurd h h0
theorem print_len (j : J) : (printO j).1.length ≤ 262144 := by
  unfold printO
  split
  · unfold printG
    split
    · assumption
    · simp
  · simp
theorem print_code (j : J) (h0 : checkG j = 0) (h : (printO j).2 ≠ 0) : (printO j).2 = 40 := by
  unfold printO at h ⊢
  rw [if_pos h0] at h ⊢
  unfold printG at h ⊢
  split at h
  · exact absurd rfl h
  · rename_i hl; rw [if_neg hl]
theorem parse_value {l : List UInt8} {k : J} (h : parse l = (k, 0)) : ∃ r n, value 64 l 0 = .ok (k, r, n) := by
  unfold parse at h
  split at h
  · cases h
  · split at h
    · rename_i e he
      have hz := (value_code 64 l 0 e he)
      obtain ⟨_, h2⟩ := Prod.mk.inj h
      exact absurd h2 hz
    · rename_i j r n hv
      split at h
      · cases h; exact ⟨r, n, hv⟩
      · cases h
theorem parse_check {l : List UInt8} {k : J} (h : parse l = (k, 0)) : checkG k = 0 ∧ countJ k ≤ 65536 := by
  obtain ⟨r, n, hv⟩ := parse_value h
  obtain ⟨f1, f2, f3, f4, f5⟩ := value_fine 64 l 0 k r n hv
  exact ⟨(check_zero k (by omega)).2 ⟨f3, by omega, f1, f2⟩, by omega⟩
/- how long the texts of what is read are -/
theorem units_text (a : Nat) (r1 : List UInt8) {t r : List UInt8} (h : (match (generalizing := false) r1 with
      | 92 :: 117 :: r2 =>
        match unit4 r2 with
        | none => none
        | some (b, r3) => if Utf.pairQ a b then some ((Utf.putB (Utf.pairP a b)).data.toList, r3) else none
      | _ => none) = some (t, r)) : t.length ≤ 4 := by
  by_cases hq : ∃ r2, r1 = 92 :: 117 :: r2
  · obtain ⟨r2, rfl⟩ := hq
    simp only at h
    cases h3 : unit4 r2 with
    | none => rw [h3] at h; cases h
    | some p =>
      obtain ⟨b, r3⟩ := p
      rw [h3] at h
      simp only at h
      by_cases hb : Utf.pairQ a b = true
      · rw [if_pos hb] at h
        injection h with h
        injection h with h _
        subst h
        exact putB_len _
      · rw [if_neg hb] at h; cases h
  · have hn : ∀ r2, r1 ≠ 92 :: 117 :: r2 := fun r2 e => hq ⟨r2, e⟩
    split at h
    · exact absurd rfl (hn _)
    · cases h
theorem escR_text {l t r : List UInt8} (h : escR l = some (t, r)) : t.length ≤ 4 := by
  unfold escR at h
  split at h
  · cases h
  · rename_i c r0
    cases hm : meant c with
    | some b =>
      rw [hm] at h
      injection h with h
      injection h with h _
      subst h
      simp
    | none =>
      rw [hm] at h
      simp only at h
      by_cases hc : c = 117
      · rw [if_pos hc] at h
        unfold units at h
        cases h1 : unit4 r0 with
        | none => rw [h1] at h; cases h
        | some p =>
          obtain ⟨a, r1⟩ := p
          rw [h1] at h
          simp only at h
          by_cases h0 : (Utf.putB a).size ≠ 0
          · rw [if_pos h0] at h
            injection h with h
            injection h with h _
            subst h
            exact putB_len _
          · rw [if_neg h0] at h
            exact units_text a r1 h
      · rw [if_neg hc] at h; cases h
theorem body_text : ∀ (f : Nat) {l r t : List UInt8}, body f l = some (t, r) → t.length + 4 * r.length ≤ 4 * l.length
  | 0, l, r, t, h => by unfold body at h; cases h
  | f + 1, [], r, t, h => by unfold body at h; cases h
  | f + 1, c :: l, r, t, h => by
    unfold body at h
    split at h
    · cases h; simp only [List.length_nil, List.length_cons]; omega
    · split at h
      · split at h
        · cases h
        · rename_i t0 r2 he
          split at h
          · cases h
          · rename_i u r3 hb
            have h1 := escR_len he
            have h2 := escR_text he
            have h3 := body_text f hb
            cases h
            rw [List.length_append, List.length_cons]; omega
      · split at h
        · cases h
        · split at h
          · cases h
          · rename_i u r3 hb
            have h3 := body_text f hb
            cases h
            simp only [List.length_cons]; omega
theorem quoted_text {l t r : List UInt8} (h : quoted l = some (t, r)) : t.length ≤ 4 * l.length := by
  unfold quoted at h
  split at h
  · split at h
    · cases h
    · rename_i hb
      have := body_text _ hb
      split at h
      · cases h; simp only [List.length_cons]; omega
      · cases h
  · cases h
mutual
def shortJ : J → Prop
  | .mk _ t ns ls => t.length ≤ 1000000 ∧ (∀ n ∈ ns, n.length ≤ 1000000) ∧ shortsJ ls
def shortsJ : List J → Prop
  | [] => True
  | j :: js => shortJ j ∧ shortsJ js
end
mutual
theorem longJ_of : ∀ j : J, formJ j = true → countJ j ≤ 65536 → shortJ j → longJ j
  | .mk k t ns ls, h, hc, hs => by
    obtain ⟨f1, f2, f3, f4⟩ := form_parts h
    unfold countJ at hc
    unfold shortJ at hs
    have := cls ls
    unfold longJ
    exact ⟨hs.1, hs.2.1, by omega, longsJ_of ls f4 (by omega) hs.2.2⟩
theorem longsJ_of : ∀ l : List J, formsJ l = true → countsJ l ≤ 65536 → shortsJ l → longsJ l
  | [], _, _, _ => by unfold longsJ; trivial
  | j :: js, h, hc, hs => by
    unfold formsJ at h
    unfold countsJ at hc
    unfold shortsJ at hs
    simp only [Bool.and_eq_true] at h
    unfold longsJ
    exact ⟨longJ_of j h.1 (by omega) hs.1, longsJ_of js h.2 (by omega) hs.2⟩
end
theorem items_short {d : Nat} (hv : ∀ l n j r n2, l.length ≤ 250000 → value d l n = .ok (j, r, n2) → shortJ j) : ∀ (f : Nat) (l : List UInt8) (n : Nat) (js : List J) (r : List UInt8) (n2 : Nat), l.length ≤ 250000 → items (value d) f l n = .ok (js, r, n2) → shortsJ js
  | 0, l, n, js, r, n2, _, h => by unfold items at h; cases h
  | f + 1, l, n, js, r, n2, hl, h => by
    unfold items at h
    split at h
    · cases h
    · rename_i j r0 n0 h0
      have a1 := hv _ _ _ _ _ hl h0
      have l1 := value_uses d _ _ _ _ _ h0
      have l2 := skip_len r0
      split at h
      · rename_i hs
        rw [hs, List.length_cons] at l2
        split at h
        · cases h
        · rename_i h3
          have b1 := items_short hv f _ _ _ _ _ (by omega) h3
          cases h
          unfold shortsJ; exact ⟨a1, b1⟩
      · cases h
        unfold shortsJ shortsJ; exact ⟨a1, trivial⟩
      · cases h
theorem members_short {d : Nat} (hv : ∀ l n j r n2, l.length ≤ 250000 → value d l n = .ok (j, r, n2) → shortJ j) : ∀ (f : Nat) (known : List (List UInt8)) (l : List UInt8) (n : Nat) (ns : List (List UInt8)) (js : List J) (r : List UInt8) (n2 : Nat), l.length ≤ 250000 →
    members (value d) f known l n = .ok ((ns, js), r, n2) → shortsJ js ∧ ∀ n ∈ ns, n.length ≤ 1000000
  | 0, known, l, n, ns, js, r, n2, _, h => by unfold members at h; cases h
  | f + 1, known, l, n, ns, js, r, n2, hl, h => by
    unfold members at h
    split at h
    · cases h
    · rename_i name r0 hq
      have q1 := quoted_text hq
      have q2 := quoted_len hq
      have q3 := skip_len l
      split at h
      · cases h
      · have q4 := skip_len r0
        split at h
        · rename_i hs0
          rw [hs0, List.length_cons] at q4
          split at h
          · cases h
          · rename_i j r' n' h2
            have a1 := hv _ _ _ _ _ (by omega) h2
            have l1 := value_uses d _ _ _ _ _ h2
            have l2 := skip_len r'
            split at h
            · rename_i hs
              rw [hs, List.length_cons] at l2
              split at h
              · cases h
              · rename_i h4
                obtain ⟨b1, b2⟩ := members_short hv f _ _ _ _ _ _ _ (by omega) h4
                cases h
                refine ⟨by unfold shortsJ; exact ⟨a1, b1⟩, fun n hn => ?_⟩
                rcases List.mem_cons.1 hn with rfl | hn
                · omega
                · exact b2 n hn
            · cases h
              refine ⟨by unfold shortsJ shortsJ; exact ⟨a1, trivial⟩, fun n hn => ?_⟩
              rw [List.mem_singleton.1 hn]; omega
            · cases h
        · cases h
theorem value_short : ∀ (d : Nat) (l : List UInt8) (n : Nat) (j : J) (r : List UInt8) (n2 : Nat), l.length ≤ 250000 → value d l n = .ok (j, r, n2) → shortJ j
  | 0, l, n, j, r, n2, _, h => by unfold value at h; cases h
  | d + 1, l, n, j, r, n2, hl, h => by
    have hv := value_short d
    have leaf : ∀ (k : Nat) (t : List UInt8), t.length ≤ 1000000 → shortJ (.mk k t [] []) := fun k t ht => by
      unfold shortJ shortsJ; exact ⟨ht, fun n hn => by simp at hn, trivial⟩
    have hwd : ∀ {w l : List UInt8} {k n : Nat} {j : J} {r : List UInt8} {n2 : Nat}, word w k l n = .ok (j, r, n2) → shortJ j := fun h => by
      unfold word at h
      split at h
      · cases h; exact leaf _ _ (by simp)
      · cases h
    have q0 := skip_len l
    unfold value at h
    split at h
    · cases h
    · split at h
      · exact hwd h
      · exact hwd h
      · exact hwd h
      · rename_i hs
        rw [hs, List.length_cons] at q0
        split at h
        · cases h
        · rename_i h1
          have := quoted_text h1
          rw [List.length_cons] at this
          cases h
          exact leaf _ _ (by omega)
      · rename_i rr hs
        rw [hs, List.length_cons] at q0
        have q1 := skip_len rr
        split at h
        · cases h; exact leaf _ _ (by simp)
        · split at h
          · cases h
          · rename_i h4
            have := items_short hv _ _ _ _ _ _ (by omega) h4
            cases h
            unfold shortJ; exact ⟨by simp, fun n hn => by simp at hn, this⟩
      · rename_i rr hs
        rw [hs, List.length_cons] at q0
        have q1 := skip_len rr
        split at h
        · cases h; exact leaf _ _ (by simp)
        · split at h
          · cases h
          · rename_i h4
            have := members_short hv _ _ _ _ _ _ _ _ (by omega) h4
            cases h
            unfold shortJ; exact ⟨by simp, this.2, this.1⟩
      · unfold number at h
        split at h
        · cases h; exact leaf _ _ (own_len _)
        · cases h
theorem parse_long {l : List UInt8} {k : J} (hl : l.length ≤ 250000) (h : parse l = (k, 0)) : longJ k := by
  obtain ⟨r, n, hv⟩ := parse_value h
  obtain ⟨f1, f2, f3, f4, f5⟩ := value_fine 64 l 0 k r n hv
  exact longJ_of k f1 (by omega) (value_short 64 l 0 k r n hl hv)
end Go.Proofs.YtgcpgieojckheaaGreatDoor.Json
