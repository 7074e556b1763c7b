/-
  Spans, plainly, in trees in which no Missing has Kids.
-/
import Derived.Test.YtingfomfibhnhaaGreatDoorMgHV
namespace Go.Proofs.YtingfomfibhnhaaGreatDoor
open Go.RowKit Go.Shelf

mutual
/-- No Missing has Kids; what is neither a Leaf nor Missing has a Token without a text. -/
def okM : T → Prop
  | .mk k t ks => (k = 2 → ks = []) ∧ (k ≠ 1 → k ≠ 2 → t.2 = []) ∧ okMs ks
def okMs : List T → Prop
  | [] => True
  | x :: r => okM x ∧ okMs r
end
theorem okMs_all : ∀ {l : List T}, (∀ x ∈ l, okM x) → okMs l
  | [], _ => by unfold okMs; trivial
  | x :: r, h => by unfold okMs; exact ⟨h x (by simp), okMs_all fun y hy => h y (by simp [hy])⟩
theorem okMs_at : ∀ {l : List T} (i : Nat) (hi : i < l.length), okMs l → okM (l[i]'hi)
  | x :: r, 0, _, h => by unfold okMs at h; exact h.1
  | x :: r, i + 1, hi, h => by unfold okMs at h; exact okMs_at i (by simpa using hi) h.2
mutual
theorem form_ok : ∀ x : T, formP x = true → okM x
  | .mk k t ks, h => by
    unfold formP at h
    unfold okM
    by_cases h1 : k = 1
    · subst h1
      rw [if_pos rfl, Bool.and_eq_true, List.all_eq_true] at h
      refine ⟨fun e => by omega, fun e => by omega, okMs_all fun x hx => ?_⟩
      have hx := h.2 x hx
      rw [Bool.and_eq_true, Bool.and_eq_true] at hx
      obtain ⟨⟨hk, hks⟩, _⟩ := hx
      obtain ⟨k2, t2, ks2⟩ := x
      simp only [T.kind, beq_iff_eq] at hk
      simp only [T.kids, List.isEmpty_iff] at hks
      subst hk hks
      unfold okM okMs
      exact ⟨fun e => by omega, fun e => by omega, trivial⟩
    · rw [if_neg h1] at h
      by_cases h2 : k = 2
      · subst h2
        rw [if_pos rfl, Bool.and_eq_true, List.isEmpty_iff] at h
        obtain ⟨_, rfl⟩ := h
        unfold okMs
        exact ⟨fun _ => rfl, fun _ e => by omega, trivial⟩
      · rw [if_neg h2] at h
        split at h
        · rw [Bool.and_eq_true] at h
          obtain ⟨he, hf⟩ := h
          unfold emptyT at he
          rw [beq_iff_eq] at he
          exact ⟨fun e => by omega, fun _ _ => by rw [he], forms_ok ks hf⟩
        · cases h
theorem forms_ok : ∀ l : List T, formPs l = true → okMs l
  | [], _ => by unfold okMs; trivial
  | x :: r, h => by
    unfold formPs at h
    rw [Bool.and_eq_true] at h
    unfold okMs
    exact ⟨form_ok x h.1, forms_ok r h.2⟩
end
theorem ok_kid {x : T} (h : okM x) {j : Nat} (hj : j < x.kids.length) : okM (x.kids[j]'hj) ∧ x.kind ≠ 2 := by
  obtain ⟨k, t, ks⟩ := x
  unfold okM at h
  refine ⟨okMs_at j hj h.2.2, fun e => ?_⟩
  have e : k = 2 := e
  have := h.1 e
  subst this
  exact absurd hj (by simp [T.kids])
theorem text_kid {x : T} {j : Nat} (hj : j < x.kids.length) (hk : x.kind ≠ 2) : ∃ post, textT x = textL (x.kids.take j) ++ (textT (x.kids[j]'hj) ++ post) := by
  obtain ⟨k, t, ks⟩ := x
  have hj : j < ks.length := hj
  have hk : k ≠ 2 := hk
  have h := textL_split ks j _ (List.getElem?_eq_getElem hj)
  show ∃ post, textT (.mk k t ks) = textL (ks.take j) ++ (textT (ks[j]'hj) ++ post)
  rw [textT_mk t ks hk]
  conv => arg 1; ext post; lhs; rw [h]
  exact ⟨_, by rw [List.append_assoc, List.append_assoc]⟩
/-- No Missing stands ahead on the path. -/
def clearT : T → List Int → Prop
  | _, [] => True
  | x, i :: l => x.kind ≠ 2 ∧ ∀ z, x.kids[i.toNat]? = some z → clearT z l
theorem ok_clear : ∀ (l : List Int) (x m : T), okM x → atT x l = some m → okM m ∧ clearT x l
  | [], x, m, h, ha => by
    have ha : some x = some m := ha
    cases ha
    exact ⟨h, trivial⟩
  | i :: l, x, m, h, ha => by
    obtain ⟨j, rfl, hj, ha2⟩ := atT_valid ha
    obtain ⟨h1, h2⟩ := ok_kid h hj
    obtain ⟨h3, h4⟩ := ok_clear l _ m h1 ha2
    refine ⟨h3, h2, fun z hz => ?_⟩
    rw [Int.toNat_natCast, List.getElem?_eq_getElem hj] at hz
    cases hz
    exact h4
theorem clear_at : ∀ (l : List Int) (x m : T), clearT x l → atT x l = some m → ∃ pre post, textT x = pre ++ (textT m ++ post) ∧ showT x l = (pre.length, m)
  | [], x, m, _, ha => by
    have ha : some x = some m := ha
    cases ha
    exact ⟨[], [], by simp, by unfold showT; rfl⟩
  | i :: l, x, m, h, ha => by
    obtain ⟨j, rfl, hj, ha2⟩ := atT_valid ha
    obtain ⟨h1, h2⟩ := h
    obtain ⟨pre, post, e1, e2⟩ := clear_at l _ m (h2 _ (by rw [Int.toNat_natCast, List.getElem?_eq_getElem hj])) ha2
    obtain ⟨post2, e3⟩ := text_kid hj h1
    refine ⟨textL (x.kids.take j) ++ pre, post ++ post2, ?_, ?_⟩
    · rw [e3, e1]; simp [List.append_assoc]
    · rw [show_in x j l h1 hj, e2, List.length_append]
theorem at_append : ∀ (l r : List Int) (x m : T), atT x l = some m → atT x (l ++ r) = atT m r
  | [], r, x, m, ha => by
    have ha : some x = some m := ha
    cases ha; rfl
  | i :: l, r, x, m, ha => by
    obtain ⟨j, rfl, hj, ha2⟩ := atT_valid ha
    rw [List.cons_append, atT_in x j _ hj]
    exact at_append l r _ m ha2
theorem show_append : ∀ (l r : List Int) (x m : T), clearT x l → atT x l = some m → showT x (l ++ r) = ((showT x l).1 + (showT m r).1, (showT m r).2)
  | [], r, x, m, _, ha => by
    have ha : some x = some m := ha
    cases ha
    rw [List.nil_append]
    conv => rhs; rw [show showT x [] = (0, x) by unfold showT; rfl]
    rw [Nat.zero_add]
  | i :: l, r, x, m, h, ha => by
    obtain ⟨j, rfl, hj, ha2⟩ := atT_valid ha
    obtain ⟨h1, h2⟩ := h
    rw [List.cons_append, show_in x j _ h1 hj, show_in x j _ h1 hj, show_append l r _ m (h2 _ (by rw [Int.toNat_natCast, List.getElem?_eq_getElem hj])) ha2]
    rw [Nat.add_assoc]
theorem own_fold (f : Nat) : ∀ (l : List Tok) (st : Option (Nat × Nat) × Nat), f ≤ st.2 → (∀ a b, st.1 = some (a, b) → f ≤ a ∧ a ≤ b ∧ b ≤ st.2) →
    f ≤ (l.foldl ownStep st).2 ∧ ∀ a b, (l.foldl ownStep st).1 = some (a, b) → f ≤ a ∧ a ≤ b ∧ b ≤ (l.foldl ownStep st).2
  | [], st, h1, h2 => ⟨h1, h2⟩
  | t :: l, st, h1, h2 => by
    rw [List.foldl_cons]
    refine own_fold f l (ownStep st t) ?_ ?_
    · unfold ownStep; split <;> simp <;> omega
    · intro a b hab
      unfold ownStep at hab ⊢
      split at hab <;> rename_i hc
      · rw [if_pos hc]
        obtain ⟨g1, g2, g3⟩ := h2 a b hab
        exact ⟨g1, g2, by show b ≤ st.2 + _; omega⟩
      · rw [if_neg hc]
        obtain ⟨so, sn⟩ := st
        simp only [Option.some.injEq, Prod.mk.injEq] at hab
        obtain ⟨rfl, rfl⟩ := hab
        cases so with
        | none => exact ⟨h1, by simp, by simp⟩
        | some s =>
          obtain ⟨g1, g2, g3⟩ := h2 s.1 s.2 rfl
          refine ⟨g1, ?_, by simp⟩
          simp only [Option.map_some, Option.getD_some] at g3 ⊢
          omega
theorem own_within (m : T) (f : Nat) : f ≤ (ownR f (leafToks m)).1 ∧ (ownR f (leafToks m)).1 ≤ (ownR f (leafToks m)).2 ∧ (ownR f (leafToks m)).2 ≤ f + sizeT m := by
  have he : ((leafToks m).foldl ownStep (none, f)).2 = f + sizeT m := by
    have := stepsO_end f (leavesT [] m)
    rw [lenL_all] at this
    exact this
  obtain ⟨h1, h2⟩ := own_fold f (leafToks m) (none, f) (Nat.le_refl _) (fun a b h => by cases h)
  unfold ownR
  rw [he] at h1 h2
  dsimp only
  generalize (leafToks m).foldl ownStep (none, f) = r at *
  obtain ⟨so, sn⟩ := r
  cases so with
  | none =>
    have he : sn = f + sizeT m := he
    simp [he]
  | some s =>
    obtain ⟨g1, g2, g3⟩ := h2 s.1 s.2 rfl
    exact ⟨g1, g2, g3⟩
/-- The law's facts. -/
theorem parts_facts (x m : T) (l : List Int) (hx : okM x) (ha : atT x l = some m) : ∃ (f : Nat) (pre post : List UInt8) (a b : Nat), f = pre.length ∧ textT x = pre ++ (textT m ++ post) ∧ fullA x l = (f, f + sizeT m, 0) ∧ ownA x l = (a, b, 0) ∧ f ≤ a ∧ a ≤ b ∧ b ≤ f + sizeT m ∧
    (∀ (i : Nat) (_hi : i < m.kids.length), fullA x (l ++ [(i : Int)]) = (f + (textL (m.kids.take i)).length, f + (textL (m.kids.take (i + 1))).length, 0)) ∧
    (m.kind = 2 → sizeT m = 0 ∧ m.kids = []) ∧ (m.kind ≠ 2 → (textL m.kids).length + m.tok.2.length = sizeT m) := by
  obtain ⟨hm, hc⟩ := ok_clear l x m hx ha
  obtain ⟨pre, post, e1, e2⟩ := clear_at l x m hc ha
  obtain ⟨o1, o2, o3⟩ := own_within m pre.length
  have hlen := congrArg List.length e1
  simp only [List.length_append] at hlen
  refine ⟨pre.length, pre, post, (ownR pre.length (leafToks m)).1, (ownR pre.length (leafToks m)).2, rfl, e1, ?_, ?_, o1, o2, o3, fun i hi => ?_, ?_, ?_⟩
  · rw [fullA_some ha]; unfold fullT; rw [e2]
  · rw [ownA_some ha]; unfold ownT; rw [e2]
  · have h2 := (ok_kid hm hi).2
    have ha2 : atT x (l ++ [(i : Int)]) = some (m.kids[i]'hi) := by rw [at_append l _ x m ha, atT_in m i [] hi]; rfl
    rw [fullA_some ha2]
    unfold fullT
    rw [show_append l _ x m hc ha, e2, show_in m i [] h2 hi]
    have ht : (textL (m.kids.take (i + 1))).length = (textL (m.kids.take i)).length + sizeT (m.kids[i]'hi) := by
      have hs := textL_split (m.kids.take (i + 1)) i (m.kids[i]'hi) (by rw [List.getElem?_take_of_lt (by omega), List.getElem?_eq_getElem hi])
      rw [hs, List.take_take, Nat.min_eq_left (by omega), List.length_append, List.length_append, List.drop_eq_nil_of_le (by rw [List.length_take]; exact Nat.min_le_left _ _)]
      show _ + (sizeT _ + (textL []).length) = _
      unfold textL
      rfl
    rw [ht]
    unfold showT
    simp [Nat.add_assoc]
  · intro h2
    obtain ⟨k, t, ks⟩ := m
    have h2 : k = 2 := h2
    subst h2
    unfold okM at hm
    exact ⟨size_miss t ks, hm.1 rfl⟩
  · intro h2
    obtain ⟨k, t, ks⟩ := m
    have h2 : k ≠ 2 := h2
    unfold okM at hm
    unfold sizeT
    rw [textT_mk t ks h2, List.length_append]
    by_cases h1 : k = 1
    · rw [if_pos h1]; rfl
    · rw [if_neg h1]
      have := hm.2.1 h1 h2
      show (textL ks).length + t.2.length = _
      rw [this]
end Go.Proofs.YtingfomfibhnhaaGreatDoor
