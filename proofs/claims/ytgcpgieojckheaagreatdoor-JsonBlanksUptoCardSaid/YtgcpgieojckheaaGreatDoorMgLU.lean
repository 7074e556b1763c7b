/-
  Check, plainly: sizes, form, names; the printed text is the text without gaps.
-/
import Derived.Test.YtgcpgieojckheaaGreatDoorMgLR
import Derived.Test.YtgcpgieojckheaaGreatDoorMgJM4
namespace Go.Proofs.YtgcpgieojckheaaGreatDoor.Json
open Go.Proofs.YtgcpgieojckheaaGreatDoor

/-- Sizes: a visit that ends. -/
theorem dls (ls : List J) (h : ls.length ≠ 0) : 1 ≤ deepsJ ls := by
  cases ls with
  | nil => exact absurd rfl h
  | cons j js => cases j; unfold deepsJ deepJ; omega
theorem cls : ∀ ls : List J, ls.length ≤ countsJ ls := counts_len
mutual
theorem vis_ok (nest : Nat) : ∀ (j : J) (d : Nat) (st : Nat × Bool), d + deepJ j ≤ nest + 2 → st.1 + countJ j ≤ 2147483648 → visJ nest j d st = (true, (st.1 + countJ j - 1, st.2))
  | .mk k t ns ls, d, st, hd, hc => by
    unfold deepJ at hd
    unfold countJ at hc ⊢
    unfold visJ
    have h1 := cls ls
    by_cases h0 : ls.length = 0
    · rw [if_pos h0]
      obtain rfl := List.eq_nil_of_length_eq_zero h0
      unfold countsJ
      simp
    · have h2 := dls ls h0
      rw [if_neg h0, if_neg (by omega), if_neg (by omega), viss_ok nest ls d (st.1 + ls.length, st.2) (by omega) (by simp only; omega)]
      simp only
      congr 2; omega
theorem viss_ok (nest : Nat) : ∀ (ls : List J) (d : Nat) (st : Nat × Bool), d + deepsJ ls ≤ nest + 1 → st.1 + (countsJ ls - ls.length) ≤ 2147483647 → visJs nest ls d st = (true, (st.1 + (countsJ ls - ls.length), st.2))
  | [], d, st, _, _ => by unfold visJs countsJ; simp
  | j :: js, d, st, hd, hc => by
    unfold deepsJ at hd
    unfold countsJ at hc ⊢
    unfold visJs
    have h1 := cls js
    have h2 : 1 ≤ countJ j := by cases j; unfold countJ; omega
    simp only [List.length_cons] at hc ⊢
    rw [vis_ok nest j (d + 1) st (by omega) (by omega)]
    simp only
    rw [viss_ok nest js d (st.1 + countJ j - 1, st.2) (by omega) (by simp only; omega)]
    simp only
    congr 2; omega
end
mutual
theorem vis_deep (nest : Nat) : ∀ (j : J) (d : Nat) (st : Nat × Bool), d ≤ nest + 1 → nest + 2 < d + deepJ j → st.1 + countJ j ≤ 2147483648 → (visJ nest j d st).1 = false ∧ (visJ nest j d st).2.2 = true
  | .mk k t ns ls, d, st, hd, hd2, hc => by
    unfold deepJ at hd2
    unfold countJ at hc
    unfold visJ
    have h1 := cls ls
    by_cases h0 : ls.length = 0
    · obtain rfl := List.eq_nil_of_length_eq_zero h0
      unfold deepsJ at hd2; omega
    · rw [if_neg h0]
      by_cases h3 : nest < d
      · rw [if_pos h3]; exact ⟨rfl, rfl⟩
      · rw [if_neg h3, if_neg (by omega)]
        exact viss_deep nest ls d (st.1 + ls.length, st.2) (by omega) (by omega) (by simp only; omega)
theorem viss_deep (nest : Nat) : ∀ (ls : List J) (d : Nat) (st : Nat × Bool), d ≤ nest → nest + 1 < d + deepsJ ls → st.1 + (countsJ ls - ls.length) ≤ 2147483647 → (visJs nest ls d st).1 = false ∧ (visJs nest ls d st).2.2 = true
  | [], d, st, hd, hd2, _ => by unfold deepsJ at hd2; omega
  | j :: js, d, st, hd, hd2, hc => by
    unfold deepsJ at hd2
    unfold countsJ at hc
    unfold visJs
    have h1 := cls js
    have h2 : 1 ≤ countJ j := by cases j; unfold countJ; omega
    simp only [List.length_cons] at hc
    by_cases h3 : nest + 2 < (d + 1) + deepJ j
    · obtain ⟨e1, e2⟩ := vis_deep nest j (d + 1) st (by omega) h3 (by omega)
      generalize visJ nest j (d + 1) st = R at *
      obtain ⟨a, b⟩ := R
      simp only at e1 e2
      subst e1
      exact ⟨rfl, e2⟩
    · rw [vis_ok nest j (d + 1) st (by omega) (by omega)]
      simp only
      exact viss_deep nest js d (st.1 + countJ j - 1, st.2) hd (by omega) (by simp only; omega)
end
theorem size_plain (j : J) (h : countJ j ≤ 2147483647) : sizeG j = if 64 < deepJ j then 61 else if 65536 < countJ j then 40 else 0 := by
  have e1 : deepsJ [j] = deepJ j := by unfold deepsJ deepsJ; omega
  have e2 : countsJ [j] = countJ j := by unfold countsJ countsJ; omega
  have e3 : deepJ (.mk 0 [] [] [j]) = deepJ j + 1 := by rw [deepJ, e1]
  have e4 : countJ (.mk 0 [] [] [j]) = countJ j + 1 := by rw [countJ, e2]
  unfold sizeG
  by_cases hd : 64 < deepJ j
  · have := vis_deep 64 (.mk 0 [] [] [j]) 1 (0, false) (by omega) (by omega) (by rw [e4]; simp only; omega)
    rw [if_pos this.2, if_pos hd]
  · have := vis_ok 64 (.mk 0 [] [] [j]) 1 (0, false) (by omega) (by rw [e4]; simp only; omega)
    rw [this, e4]
    simp only [Bool.false_eq_true, if_false, if_neg hd]
    rw [show 0 + (countJ j + 1) - 1 = countJ j by omega]
theorem bound_plain (j : J) (h : countJ j ≤ 2147483647) (hd : deepJ j ≤ 65536) : boundG j = true := by
  have e1 : deepsJ [j] = deepJ j := by unfold deepsJ deepsJ; omega
  have e2 : countsJ [j] = countJ j := by unfold countsJ countsJ; omega
  have e3 : deepJ (.mk 0 [] [] [j]) = deepJ j + 1 := by rw [deepJ, e1]
  have e4 : countJ (.mk 0 [] [] [j]) = countJ j + 1 := by rw [countJ, e2]
  unfold boundG
  rw [vis_ok 65536 (.mk 0 [] [] [j]) 1 (0, false) (by omega) (by rw [e4]; simp only; omega)]
theorem fits_eq (k : Nat) (t : List UInt8) (ns : List (List UInt8)) (ls : List J) : fitsG (.mk k t ns ls) = if k = 1 ∨ k = 2 ∨ k = 3 then t.isEmpty && (ns.isEmpty && ls.isEmpty) else if k = 4 then canonG t && (ns.isEmpty && ls.isEmpty) else if k = 5 then Utf.validS ⟨t.toArray⟩ && (ns.isEmpty && ls.isEmpty)
      else if k = 6 then t.isEmpty && ns.isEmpty else if k = 7 then t.isEmpty && (decide (ns.length = ls.length) && ns.all fun n => Utf.validS ⟨n.toArray⟩) else false := rfl
mutual
theorem form_plain : ∀ j : J, formG j = formJ j
  | .mk k t ns ls => by
    unfold formG formJ
    rw [forms_plain ls, fits_eq]
    by_cases h1 : k = 1 ∨ k = 2 ∨ k = 3
    · rw [if_pos h1, if_pos h1]
      cases ls with
      | nil => unfold formsJ; simp
      | cons j js => simp
    · rw [if_neg h1, if_neg h1]
      by_cases h4 : k = 4
      · rw [if_pos h4, if_pos h4]
        unfold canonG
        have : ((ownR t).2 == 0) = decide ((ownR t).2 = 0) := by rw [Bool.eq_iff_iff]; simp
        rw [this]
        cases ls with
        | nil => unfold formsJ; simp [Bool.and_assoc]
        | cons j js => simp
      · rw [if_neg h4, if_neg h4]
        by_cases h5 : k = 5
        · rw [if_pos h5, if_pos h5]
          cases ls with
          | nil => unfold formsJ; simp
          | cons j js => simp
        · rw [if_neg h5, if_neg h5]
          by_cases h6 : k = 6
          · rw [if_pos h6, if_pos h6]
          · rw [if_neg h6, if_neg h6]
            by_cases h7 : k = 7
            · rw [if_pos h7, if_pos h7]
              simp [Bool.and_assoc]
            · rw [if_neg h7, if_neg h7]; rfl
theorem forms_plain : ∀ l : List J, formsG l = formsJ l
  | [] => by unfold formsG formsJ; rfl
  | j :: js => by unfold formsG formsJ; rw [form_plain j, forms_plain js]
end
theorem distN_plain : ∀ (ns known : List (List UInt8)), distN known ns = (ns.all (fun n => !known.contains n) && noTwice ns)
  | [], known => by unfold distN noTwice; rfl
  | n :: r, known => by
    unfold distN noTwice
    rw [distN_plain r, List.all_cons]
    rw [Bool.eq_iff_iff]
    simp only [Bool.and_eq_true, List.all_eq_true, Bool.not_eq_true', List.contains_eq_mem, decide_eq_false_iff_not, List.mem_append, List.mem_singleton]
    constructor
    · rintro ⟨h1, h2, h3⟩
      exact ⟨⟨h1, fun x hx hk => h2 x hx (.inl hk)⟩, fun hn => h2 n hn (.inr rfl), h3⟩
    · rintro ⟨⟨h1, h2⟩, h3, h4⟩
      refine ⟨h1, fun x hx hk => ?_, h4⟩
      rcases hk with hk | rfl
      · exact h2 x hx hk
      · exact h3 hx
mutual
theorem dist_plain : ∀ j : J, distG j = onceJ j
  | .mk k t ns ls => by
    unfold distG onceJ
    rw [distN_plain, dists_plain ls]
    have : (ns.all fun n => !([] : List (List UInt8)).contains n) = true := by rw [List.all_eq_true]; intro x _; rfl
    rw [this, Bool.true_and]
theorem dists_plain : ∀ l : List J, distsG l = oncesJ l
  | [] => by unfold distsG oncesJ; rfl
  | j :: js => by unfold distsG oncesJ; rw [dist_plain j, dists_plain js]
end
theorem check_plain (j : J) (h : countJ j ≤ 2147483647) : checkG j = if 64 < deepJ j then 61 else if 65536 < countJ j then 40 else if formJ j = false then 4 else if onceJ j = false then 6 else 0 := by
  unfold checkG
  rw [size_plain j h, form_plain, dist_plain]
  by_cases h1 : 64 < deepJ j
  · simp [h1]
  · by_cases h2 : 65536 < countJ j
    · simp [h1, h2]
    · simp [h1, h2]
theorem check_zero (j : J) (h : countJ j ≤ 2147483647) : checkG j = 0 ↔ deepJ j ≤ 64 ∧ countJ j ≤ 65536 ∧ formJ j = true ∧ onceJ j = true := by
  rw [check_plain j h]
  by_cases h1 : 64 < deepJ j
  · rw [if_pos h1]; constructor
    · intro h; cases h
    · intro h; omega
  · rw [if_neg h1]
    by_cases h2 : 65536 < countJ j
    · rw [if_pos h2]; constructor
      · intro h; cases h
      · intro h; omega
    · rw [if_neg h2]
      cases formJ j <;> cases onceJ j <;> simp <;> omega
/- the text of a value -/
mutual
theorem out_text : ∀ (j : J) (n : Nat), formJ j = true → outJ j = (textG noGap j n).1
  | .mk k t ns ls, n, h => by
    unfold formJ at h
    unfold outJ textG
    by_cases k1 : k = 1
    · rw [if_pos k1, if_pos k1]
    · by_cases k2 : k = 2
      · rw [if_neg k1, if_pos k2, if_neg k1, if_pos k2]
      · by_cases k3 : k = 3
        · rw [if_neg k1, if_neg k2, if_pos k3, if_neg k1, if_neg k2, if_pos k3]
        · by_cases k4 : k = 4
          · rw [if_neg k1, if_neg k2, if_neg k3, if_pos k4, if_neg k1, if_neg k2, if_neg k3, if_pos k4]
          · by_cases k5 : k = 5
            · rw [if_neg k1, if_neg k2, if_neg k3, if_neg k4, if_pos k5, if_neg k1, if_neg k2, if_neg k3, if_neg k4, if_pos k5]
            · rw [if_neg k1, if_neg k2, if_neg k3, if_neg k4, if_neg k5, if_neg k1, if_neg k2, if_neg k3, if_neg k4, if_neg k5]
              rw [if_neg (by omega), if_neg k4, if_neg k5] at h
              by_cases k6 : k = 6
              · rw [if_pos k6, if_neg (by omega)]
                rw [if_pos k6] at h
                simp only [Bool.and_eq_true] at h
                have := outs_elems ls 0 (n + 2) h.2
                rw [this]
                simp [noGap]
              · rw [if_neg k6] at h ⊢
                by_cases k7 : k = 7
                · rw [if_pos k7] at h ⊢
                  rw [if_pos k7]
                  simp only [Bool.and_eq_true, decide_eq_true_eq] at h
                  have := outs_mems ns ls 0 (n + 2) h.2
                  rw [List.drop_zero] at this
                  rw [this]
                  simp [noGap]
                · rw [if_neg k7] at h; cases h
theorem outs_elems : ∀ (ls : List J) (i n : Nat), formsJ ls = true → outL (fun _ => []) i (outsJ ls) = (elemsG noGap ls (decide (i = 0)) n).1
  | [], i, n, _ => by unfold outsJ outL elemsG; rfl
  | j :: js, i, n, h => by
    unfold formsJ at h
    simp only [Bool.and_eq_true] at h
    unfold outsJ outL elemsG
    have h2 : ∀ m, outL (fun _ => []) (i + 1) (outsJ js) = (elemsG noGap js false m).1 := fun m => by rw [outs_elems js (i + 1) m h.2]; simp
    by_cases hi : i = 0
    · simp only [hi, decide_true, if_true, List.nil_append]
      have e := noGap_trail j n
      have e0 := out_text j n h.1
      rw [e0, ← hi]
      cases hx : textG noGap j n with
      | mk a r =>
        obtain ⟨b, m⟩ := r
        rw [hx] at e
        simp only at e
        subst e
        rw [h2 m]
        simp
    · simp only [hi, decide_false, Bool.false_eq_true, if_false]
      have e := noGap_trail j (n + 2)
      have e0 := out_text j (n + 2) h.1
      rw [e0]
      cases hx : textG noGap j (n + 2) with
      | mk a r =>
        obtain ⟨b, m⟩ := r
        rw [hx] at e
        simp only at e
        subst e
        rw [h2 m]
        simp [noGap]
theorem outs_mems (ns0 : List (List UInt8)) : ∀ (ls : List J) (i n : Nat), formsJ ls = true → outL (fun i => quoteJ (ns0.getD i []) ++ [58]) i (outsJ ls) = (memsG noGap (ns0.drop i) ls (decide (i = 0)) n).1
  | [], i, n, _ => by unfold outsJ outL memsG; rfl
  | j :: js, i, n, h => by
    unfold formsJ at h
    simp only [Bool.and_eq_true] at h
    unfold outsJ outL memsG
    have e1 : (ns0.drop i).headD [] = ns0.getD i [] := by simp [List.head?_drop, List.headD_eq_head?_getD, List.getD]
    have e2 : (ns0.drop i).tail = ns0.drop (i + 1) := by simp
    rw [e1, e2]
    have h2 : ∀ m, outL (fun i => quoteJ (ns0.getD i []) ++ [58]) (i + 1) (outsJ js) = (memsG noGap (ns0.drop (i + 1)) js false m).1 := fun m => by rw [outs_mems ns0 js (i + 1) m h.2]; simp
    by_cases hi : i = 0
    · simp only [hi, decide_true, if_true, List.nil_append]
      have e := noGap_trail j (n + 2)
      have e0 := out_text j (n + 2) h.1
      rw [e0, ← hi]
      cases hx : textG noGap j (n + 2) with
      | mk a r =>
        obtain ⟨b, m⟩ := r
        rw [hx] at e
        simp only at e
        subst e
        rw [h2 m]
        simp [noGap]
    · simp only [hi, decide_false, Bool.false_eq_true, if_false]
      have e := noGap_trail j (n + 2 + 2)
      have e0 := out_text j (n + 2 + 2) h.1
      rw [e0]
      cases hx : textG noGap j (n + 2 + 2) with
      | mk a r =>
        obtain ⟨b, m⟩ := r
        rw [hx] at e
        simp only at e
        subst e
        rw [h2 m]
        simp [noGap]
end
end Go.Proofs.YtgcpgieojckheaaGreatDoor.Json
