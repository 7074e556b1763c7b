/-
  Find, plainly: the outermost Leaf of a byte, by recursion.
-/
import Derived.Test.YtingfomfibhnhaaGreatDoorMgHF
import Derived.Test.YtingfomfibhnhaaGreatDoorMgHD
namespace Go.Proofs.YtingfomfibhnhaaGreatDoor
open Go.RowKit Go.Shelf

mutual
def findG : T → Nat → List Nat
  | .mk k _ ks, a => if k = 1 then [] else findGs ks 0 a
def findGs : List T → Nat → Nat → List Nat
  | [], _, _ => []
  | x :: r, i, a => if a < sizeT x then i :: findG x a else findGs r (i + 1) (a - sizeT x)
end
theorem findL_skip : ∀ (l rest : List (List Nat × T)) (e a : Nat), e + lenL l ≤ a → findL (l ++ rest) e a = findL rest (e + lenL l) a
  | [], rest, e, a, _ => rfl
  | x :: l, rest, e, a, h => by
    have hx : lenL (x :: l) = x.2.tok.2.length + lenL l := by simp [lenL, leafText]
    rw [hx] at h ⊢
    rw [List.cons_append]
    show findL (x :: (l ++ rest)) e a = _
    have hl : (leafText x).length = x.2.tok.2.length := rfl
    conv => lhs; unfold findL
    rw [if_neg (by rw [hl]; omega), hl, findL_skip l rest _ a (by omega), Nat.add_assoc]
theorem findL_some : ∀ (l rest : List (List Nat × T)) (e a : Nat), e ≤ a → a < e + lenL l → ∃ y ∈ l, findL (l ++ rest) e a = some y.1
  | [], _, e, a, h1, h2 => by
    have : lenL [] = 0 := rfl
    omega
  | x :: l, rest, e, a, h1, h2 => by
    have hx : lenL (x :: l) = x.2.tok.2.length + lenL l := by simp [lenL, leafText]
    rw [hx] at h2
    have hl : (leafText x).length = x.2.tok.2.length := rfl
    rw [List.cons_append]
    unfold findL
    by_cases h : a < e + x.2.tok.2.length
    · rw [if_pos (by rw [hl]; exact h)]
      exact ⟨x, by simp, rfl⟩
    · rw [if_neg (by rw [hl]; exact h), hl]
      obtain ⟨y, hy, e1⟩ := findL_some l rest (e + x.2.tok.2.length) a (by omega) (by omega)
      exact ⟨y, by simp [hy], e1⟩
theorem lenLs_all (p : List Nat) (i : Nat) (l : List T) : lenL (leavesL p i l) = (textL l).length := by unfold lenL; rw [leavesL_text]
theorem size_miss (t : Tok) (ks : List T) : sizeT (.mk 2 t ks) = 0 := by unfold sizeT textT; rw [if_pos rfl]; rfl
mutual
theorem find_in : ∀ (x : T) (p : List Nat) (rest : List (List Nat × T)) (e a : Nat), e ≤ a → a < e + sizeT x → ∃ r, findL (leavesT p x ++ rest) e a = some (p ++ r) ∧ r.take (outN x r) = findG x (a - e)
  | .mk k t ks, p, rest, e, a, h1, h2 => by
    by_cases k1 : k = 1
    · subst k1
      obtain ⟨y, hy, e1⟩ := findL_some (leavesT p (.mk 1 t ks)) rest e a h1 (by rw [lenL_all]; exact h2)
      obtain ⟨r, hr, _⟩ := leaves_at _ p y hy
      refine ⟨r, by rw [e1, hr], ?_⟩
      rw [outN_leaf _ r rfl, List.take_zero]
      unfold findG; rw [if_pos rfl]
    · by_cases k2 : k = 2
      · subst k2
        rw [size_miss] at h2; omega
      · have hs : sizeT (.mk k t ks) = (textL ks).length := by unfold sizeT; rw [textT_mk t ks k2, if_neg k1, List.append_nil]
        rw [hs] at h2
        have hL : leavesT p (.mk k t ks) = leavesL p 0 ks := by unfold leavesT; rw [if_neg k2, if_neg k1, List.append_nil]
        obtain ⟨j, hj, r, e1, e2⟩ := finds_in ks p 0 rest e a h1 h2
        rw [Nat.zero_add] at e1
        rw [hL]
        refine ⟨j :: r, e1, ?_⟩
        rw [outN_in _ j r (show T.kind (.mk k t ks) ≠ 1 from k1) (show j < (T.mk k t ks).kids.length from hj), Nat.add_comm, List.take_succ_cons]
        unfold findG
        rw [if_neg k1, e2, Nat.zero_add]
        rfl
theorem finds_in : ∀ (l : List T) (p : List Nat) (i : Nat) (rest : List (List Nat × T)) (e a : Nat), e ≤ a → a < e + (textL l).length →
    ∃ (j : Nat) (hj : j < l.length) (r : List Nat), findL (leavesL p i l ++ rest) e a = some (p ++ (i + j) :: r) ∧ findGs l i (a - e) = (i + j) :: r.take (outN (l[j]'hj) r)
  | [], p, i, rest, e, a, h1, h2 => by
    have : (textL []).length = 0 := by unfold textL; rfl
    omega
  | x :: l, p, i, rest, e, a, h1, h2 => by
    rw [textL_cons, List.length_append] at h2
    have hs : (textT x).length = sizeT x := rfl
    rw [hs] at h2
    rw [leavesL_cons, List.append_assoc]
    unfold findGs
    by_cases h : a < e + sizeT x
    · obtain ⟨r, e1, e2⟩ := find_in x (p ++ [i]) (leavesL p (i + 1) l ++ rest) e a h1 h
      refine ⟨0, by simp, r, by rw [e1]; simp, ?_⟩
      rw [if_pos (by omega), ← e2]
      rfl
    · obtain ⟨j, hj, r, e1, e2⟩ := finds_in l p (i + 1) rest (e + sizeT x) a (by omega) (by omega)
      refine ⟨j + 1, by simpa using hj, r, ?_, ?_⟩
      · rw [findL_skip _ _ _ _ (by rw [lenL_all]; omega), lenL_all, e1, show i + 1 + j = i + (j + 1) by omega]
      · rw [if_neg (by omega), show a - e - sizeT x = a - (e + sizeT x) by omega, e2, show i + 1 + j = i + (j + 1) by omega]
        rfl
end
theorem findP_in (x : T) (a : Nat) (h : a < sizeT x) : findP x (a : Int) = some (findG x a) := by
  unfold findP
  rw [if_neg (by omega), Int.toNat_natCast]
  obtain ⟨r, e1, e2⟩ := find_in x [] [] 0 a (by omega) (by omega)
  rw [List.append_nil, List.nil_append] at e1
  rw [e1, Option.map_some, e2, Nat.sub_zero]
theorem findP_neg (x : T) (a : Int) (h : a < 0) : findP x a = none := by unfold findP; rw [if_pos h]
theorem findP_far (x : T) (a : Nat) (h : sizeT x ≤ a) : findP x (a : Int) = none := by
  unfold findP
  rw [if_neg (by omega), Int.toNat_natCast, findL_miss _ _ _ (by rw [lenL_all]; omega)]
  rfl
mutual
/-- What is found: a Leaf, in whose full span the byte lies; and so it is found for each byte of it. -/
theorem findG_leaf : ∀ (x : T) (a : Nat), a < sizeT x → ∃ m, atT x (asInts (findG x a)) = some m ∧ m.kind = 1 ∧ (showT x (asInts (findG x a))).2 = m ∧ (showT x (asInts (findG x a))).1 ≤ a ∧ a < (showT x (asInts (findG x a))).1 + sizeT m ∧
    (∀ b, (showT x (asInts (findG x a))).1 ≤ b → b < (showT x (asInts (findG x a))).1 + sizeT m → findG x b = findG x a) ∧ (findG x a).length < countT x
  | .mk k t ks, a, h => by
    by_cases k1 : k = 1
    · subst k1
      have hG : ∀ b, findG (.mk 1 t ks) b = [] := fun b => by unfold findG; rw [if_pos rfl]
      rw [hG a]
      refine ⟨.mk 1 t ks, rfl, rfl, rfl, Nat.zero_le _, ?_, fun b _ _ => hG b, by rw [countT_mk]; simp; omega⟩
      show a < 0 + _
      omega
    · by_cases k2 : k = 2
      · subst k2
        rw [size_miss] at h; omega
      · have hs : sizeT (.mk k t ks) = (textL ks).length := by unfold sizeT; rw [textT_mk t ks k2, if_neg k1, List.append_nil]
        rw [hs] at h
        have hG : ∀ b, findG (.mk k t ks) b = findGs ks 0 b := fun b => by conv => lhs; unfold findG; rw [if_neg k1]
        obtain ⟨j, hj, r, e0, m, e1, e2, e3, e4, e5, e6, e7⟩ := findGs_leaf ks 0 a h
        rw [hG a, e0, Nat.zero_add]
        have hat : atT (.mk k t ks) (asInts (j :: r)) = atT (ks[j]'hj) (asInts r) := atT_in (.mk k t ks) j (asInts r) hj
        have hsh : showT (.mk k t ks) (asInts (j :: r)) = ((textL (ks.take j)).length + (showT (ks[j]'hj) (asInts r)).1, (showT (ks[j]'hj) (asInts r)).2) := show_in (.mk k t ks) j (asInts r) k2 hj
        rw [hat, hsh]
        refine ⟨m, e1, e2, e3, e4, e5, fun b h1 h2 => ?_, ?_⟩
        · rw [hG b, e6 b h1 h2, Nat.zero_add]
        · rw [countT_mk, List.length_cons]; omega
theorem findGs_leaf : ∀ (l : List T) (i a : Nat), a < (textL l).length → ∃ (j : Nat) (hj : j < l.length) (r : List Nat), findGs l i a = (i + j) :: r ∧ ∃ m, atT (l[j]'hj) (asInts r) = some m ∧ m.kind = 1 ∧ (showT (l[j]'hj) (asInts r)).2 = m ∧
    (textL (l.take j)).length + (showT (l[j]'hj) (asInts r)).1 ≤ a ∧ a < (textL (l.take j)).length + (showT (l[j]'hj) (asInts r)).1 + sizeT m ∧
    (∀ b, (textL (l.take j)).length + (showT (l[j]'hj) (asInts r)).1 ≤ b → b < (textL (l.take j)).length + (showT (l[j]'hj) (asInts r)).1 + sizeT m → findGs l i b = (i + j) :: r) ∧ r.length < countTs l
  | [], i, a, h => by
    have : (textL []).length = 0 := by unfold textL; rfl
    omega
  | x :: l, i, a, h => by
    rw [textL_cons, List.length_append] at h
    have hs : (textT x).length = sizeT x := rfl
    rw [hs] at h
    have hG : ∀ b, findGs (x :: l) i b = if b < sizeT x then i :: findG x b else findGs l (i + 1) (b - sizeT x) := fun b => by conv => lhs; unfold findGs
    have hc : countTs (x :: l) = countT x + countTs l := by conv => lhs; unfold countTs
    by_cases ha : a < sizeT x
    · obtain ⟨m, e1, e2, e3, e4, e5, e6, e7⟩ := findG_leaf x a ha
      have hle := (show_le _ _ _ e1).1
      rw [e3] at hle
      have ht : (textL ((x :: l).take 0)).length = 0 := by rw [List.take_zero]; unfold textL; rfl
      refine ⟨0, by simp, findG x a, by rw [hG, if_pos ha]; rfl, m, e1, e2, e3, by rw [ht]; show 0 + (showT x _).1 ≤ a; omega, by rw [ht]; show a < 0 + (showT x _).1 + sizeT m; omega, fun b h1 h2 => ?_, by rw [hc]; omega⟩
      rw [ht] at h1 h2
      have h1 : 0 + (showT x (asInts (findG x a))).1 ≤ b := h1
      have h2 : b < 0 + (showT x (asInts (findG x a))).1 + sizeT m := h2
      rw [hG, if_pos (by omega), e6 b (by omega) (by omega)]
      rfl
    · obtain ⟨j, hj, r, e0, m, e1, e2, e3, e4, e5, e6, e7⟩ := findGs_leaf l (i + 1) (a - sizeT x) (by omega)
      have ht : (textL ((x :: l).take (j + 1))).length = sizeT x + (textL (l.take j)).length := by rw [List.take_succ_cons, textL_cons, List.length_append]; rfl
      refine ⟨j + 1, by simpa using hj, r, by rw [hG, if_neg ha, e0]; congr 1; omega, m, e1, e2, e3, by rw [ht]; show _ + (showT (l[j]'hj) _).1 ≤ a; omega, by rw [ht]; show a < _ + (showT (l[j]'hj) _).1 + sizeT m; omega, fun b h1 h2 => ?_, by rw [hc]; omega⟩
      rw [ht] at h1 h2
      have h1 : sizeT x + (textL (l.take j)).length + (showT (l[j]'hj) (asInts r)).1 ≤ b := h1
      have h2 : b < sizeT x + (textL (l.take j)).length + (showT (l[j]'hj) (asInts r)).1 + sizeT m := h2
      rw [hG, if_neg (by omega), e6 (b - sizeT x) (by omega) (by omega)]
      congr 1; omega
end
/-- The law's facts: a byte of the text. -/
theorem found_facts (x : T) (a : Nat) (h : a < sizeT x) : ∃ (q : List Nat) (m : T) (f : Nat), findP x (a : Int) = some q ∧ q.length < countT x ∧ atT x (asInts q) = some m ∧ m.kind = 1 ∧ fullA x (asInts q) = (f, f + sizeT m, 0) ∧ f ≤ a ∧ a < f + sizeT m ∧ f + sizeT m ≤ sizeT x ∧
    findP x (f : Int) = some q ∧ findP x ((f + sizeT m - 1 : Nat) : Int) = some q ∧ findP x ((f + sizeT m : Nat) : Int) ≠ some q := by
  obtain ⟨m, e1, e2, e3, e4, e5, e6, e7⟩ := findG_leaf x a h
  obtain ⟨f, hf⟩ : ∃ f, (showT x (asInts (findG x a))).1 = f := ⟨_, rfl⟩
  have hle := (show_le _ _ _ e1).1
  rw [e3, hf] at hle
  rw [hf] at e4 e5 e6
  refine ⟨findG x a, m, f, findP_in x a h, e7, e1, e2, ?_, e4, e5, hle, ?_, ?_, ?_⟩
  · rw [fullA_some e1]; unfold fullT; rw [e3, hf]
  · rw [findP_in x f (by omega), e6 f (Nat.le_refl _) (by omega)]
  · rw [findP_in x _ (by omega), e6 _ (by omega) (by omega)]
  · intro hc
    rcases Nat.lt_or_ge (f + sizeT m) (sizeT x) with hb | hb
    · rw [findP_in x _ hb] at hc
      have hc := Option.some.inj hc
      obtain ⟨m2, g1, g2, g3, g4, g5, _⟩ := findG_leaf x _ hb
      rw [hc] at g1 g3 g4 g5
      rw [e1] at g1
      cases g1
      rw [hf] at g4 g5
      omega
    · rw [findP_far x _ hb] at hc; cases hc
end Go.Proofs.YtingfomfibhnhaaGreatDoor
