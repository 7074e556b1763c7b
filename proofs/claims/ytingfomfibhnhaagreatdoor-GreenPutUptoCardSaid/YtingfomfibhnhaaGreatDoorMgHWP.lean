/-
  What is put, plainly.
-/
import Derived.Test.YtingfomfibhnhaaGreatDoorMgHW
import Derived.Test.YtingfomfibhnhaaGreatDoorMgHZ
namespace Go.Proofs.YtingfomfibhnhaaGreatDoor
open Go.RowKit Go.Shelf

theorem at_put : ∀ (l : List Int) (x m z : T), atT x l = some z → atT (putT x l m) l = some m
  | [], x, m, z, _ => by unfold putT atT; rfl
  | i :: l, .mk k t ks, m, z, h => by
    obtain ⟨j, rfl, hj, h2⟩ := atT_valid h
    have hj : j < ks.length := hj
    rw [putT_in k t ks j l m hj]
    have hj2 : j < (T.mk k t (ks.set j (putT (ks[j]'hj) l m))).kids.length := by show j < (ks.set _ _).length; rw [List.length_set]; exact hj
    rw [atT_in _ j l hj2]
    have e : (T.mk k t (ks.set j (putT (ks[j]'hj) l m))).kids[j]'hj2 = putT (ks[j]'hj) l m := by
      exact List.getElem_set_self ..
    rw [e]
    exact at_put l _ m z h2
theorem put_back : ∀ (l : List Int) (x m z : T), atT x l = some z → putT (putT x l m) l z = x
  | [], x, m, z, h => by
    have h : some x = some z := h
    cases h
    unfold putT; rfl
  | i :: l, .mk k t ks, m, z, h => by
    obtain ⟨j, rfl, hj, h2⟩ := atT_valid h
    have hj : j < ks.length := hj
    rw [putT_in k t ks j l m hj]
    have hj2 : j < (ks.set j (putT (ks[j]'hj) l m)).length := by rw [List.length_set]; exact hj
    rw [putT_in k t _ j l z hj2]
    have e : (ks.set j (putT (ks[j]'hj) l m))[j]'hj2 = putT (ks[j]'hj) l m := by rw [List.getElem_set_self]
    have hb : putT (putT (ks[j]'hj) l m) l z = ks[j]'hj := put_back l _ m z h2
    rw [e, hb, List.set_set, List.set_getElem_self]
theorem textL_set : ∀ (l : List T) (j : Nat) (_hj : j < l.length) (y : T), textL (l.set j y) = textL (l.take j) ++ (textT y ++ textL (l.drop (j + 1)))
  | x :: r, 0, _, y => by simp [textL]
  | x :: r, j + 1, hj, y => by
    rw [List.set_cons_succ, textL_cons, textL_set r j (by simpa using hj) y, List.take_succ_cons, textL_cons, List.drop_succ_cons, List.append_assoc]
theorem put_text : ∀ (l : List Int) (x m z : T), clearT x l → atT x l = some z → ∃ pre post, textT x = pre ++ (textT z ++ post) ∧ showT x l = (pre.length, z) ∧ textT (putT x l m) = pre ++ (textT m ++ post)
  | [], x, m, z, _, h => by
    have h : some x = some z := h
    cases h
    exact ⟨[], [], by simp, by unfold showT; rfl, by unfold putT; simp⟩
  | i :: l, .mk k t ks, m, z, hc, h => by
    obtain ⟨j, rfl, hj, h2⟩ := atT_valid h
    obtain ⟨h1, h3⟩ := hc
    have hj0 : j < ks.length := hj
    have h1 : k ≠ 2 := h1
    obtain ⟨pre, post, e1, e2, e3⟩ := put_text l _ m z (h3 _ (by rw [Int.toNat_natCast]; exact List.getElem?_eq_getElem hj)) h2
    refine ⟨textL (ks.take j) ++ pre, post ++ (textL (ks.drop (j + 1)) ++ (if k = 1 then t.2 else [])), ?_, ?_, ?_⟩
    · have hs := textL_split ks j _ (List.getElem?_eq_getElem hj0)
      rw [textT_mk t ks h1, hs]
      have e1 : textT (ks[j]'hj0) = pre ++ (textT z ++ post) := e1
      rw [e1]; simp [List.append_assoc]
    · rw [show_in (.mk k t ks) j l (show T.kind (.mk k t ks) ≠ 2 from h1) hj, e2, List.length_append]; rfl
    · rw [putT_in k t ks j l m hj0, textT_mk t _ h1, textL_set ks j hj0]
      have e3 : textT (putT (ks[j]'hj0) l m) = pre ++ (textT m ++ post) := e3
      rw [e3]; simp [List.append_assoc]
theorem shortsT_set : ∀ (l : List T) (j : Nat) (_hj : j < l.length) (y : T), shortsT l → shortT y → shortsT (l.set j y)
  | x :: r, 0, _, y, h, hy => by
    unfold shortsT at h
    rw [List.set_cons_zero]
    unfold shortsT
    exact ⟨hy, h.2⟩
  | x :: r, j + 1, hj, y, h, hy => by
    unfold shortsT at h
    rw [List.set_cons_succ]
    unfold shortsT
    exact ⟨h.1, shortsT_set r j (by simpa using hj) y h.2 hy⟩
theorem count_take_set : ∀ (l : List T) (j : Nat) (hj : j < l.length) (y : T), countTs (l.set j y) + countT (l[j]'hj) = countTs l + countT y
  | x :: r, 0, _, y => by simp [countTs]; omega
  | x :: r, j + 1, hj, y => by
    have := count_take_set r j (by simpa using hj) y
    rw [List.set_cons_succ]
    unfold countTs
    have e : (x :: r)[j + 1]'hj = r[j]'(by simpa using hj) := rfl
    rw [e]
    omega
theorem put_count : ∀ (l : List Int) (x m z : T), atT x l = some z → countT (putT x l m) ≤ countT x + countT m ∧ (shortT x → shortT m → shortT (putT x l m))
  | [], x, m, z, _ => by
    unfold putT
    exact ⟨by omega, fun _ h => h⟩
  | i :: l, .mk k t ks, m, z, h => by
    obtain ⟨j, rfl, hj, h2⟩ := atT_valid h
    have hj : j < ks.length := hj
    obtain ⟨h3, h4⟩ := put_count l _ m z h2
    rw [putT_in k t ks j l m hj, countT_mk, countT_mk]
    have h5 := count_take_set ks j hj (putT (ks[j]'hj) l m)
    have h3 : countT (putT (ks[j]'hj) l m) ≤ countT (ks[j]'hj) + countT m := h3
    refine ⟨by omega, fun hs hm => ?_⟩
    unfold shortT at hs ⊢
    exact ⟨hs.1, shortsT_set ks j hj _ hs.2 (h4 (shortsT_at ks j _ hs.2 (List.getElem?_eq_getElem hj)) hm)⟩
theorem at_take : ∀ (l : List Int) (x z : T) (i : Nat), atT x l = some z → ∃ y, atT x (l.take i) = some y
  | l, x, z, 0, _ => ⟨x, by rw [List.take_zero]; rfl⟩
  | [], x, z, i + 1, _ => ⟨x, by rw [List.take_nil]; rfl⟩
  | a :: l, x, z, i + 1, h => by
    obtain ⟨j, rfl, hj, h2⟩ := atT_valid h
    obtain ⟨y, hy⟩ := at_take l _ z i h2
    exact ⟨y, by rw [List.take_succ_cons, atT_in x j _ hj, hy]⟩
/-- No Missing stands at any of the path's beginnings: none is ahead on the path. -/
theorem clear_of : ∀ (l : List Int) (x z : T), atT x l = some z → (∀ i, i < l.length → ∀ y, atT x (l.take i) = some y → y.kind ≠ 2) → clearT x l
  | [], _, _, _, _ => trivial
  | a :: l, x, z, h, hk => by
    obtain ⟨j, rfl, hj, h2⟩ := atT_valid h
    refine ⟨hk 0 (by simp) x rfl, fun y hy => ?_⟩
    rw [Int.toNat_natCast, List.getElem?_eq_getElem hj] at hy
    cases hy
    exact clear_of l _ z h2 fun i hi y hy => hk (i + 1) (by simpa using hi) y (by rw [List.take_succ_cons, atT_in x j _ hj, hy])
/-- The law's facts. -/
theorem put_facts (x m z : T) (l : List Int) (hc : clearT x l) (ha : atT x l = some z) : ∃ (f : Nat) (pre post : List UInt8), f = pre.length ∧ fullA x l = (f, f + sizeT z, 0) ∧ textT x = pre ++ (textT z ++ post) ∧ textT (putT x l m) = pre ++ (textT m ++ post) := by
  obtain ⟨pre, post, e1, e2, e3⟩ := put_text l x m z hc ha
  refine ⟨pre.length, pre, post, rfl, ?_, e1, e3⟩
  rw [fullA_some ha]; unfold fullT; rw [e2]
end Go.Proofs.YtingfomfibhnhaaGreatDoor
