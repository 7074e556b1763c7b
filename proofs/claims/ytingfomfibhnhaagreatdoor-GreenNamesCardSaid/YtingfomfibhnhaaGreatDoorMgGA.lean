/-
  Lossless trees, plainly: a node's text, its Leaves, its spans, what stands at a path. No model in it.
-/
import Derived.Test.YtingfomfibhnhaaGreatDoorMgM
namespace Go.Proofs.YtingfomfibhnhaaGreatDoor

inductive T where
  | mk (k : Nat) (t : Tok) (ks : List T)
def T.kind : T → Nat | .mk k _ _ => k
def T.tok : T → Tok | .mk _ t _ => t
def T.kids : T → List T | .mk _ _ ks => ks
mutual
/-- A tree's Leaves, with their paths, as they are visited. -/
def leavesT (p : List Nat) : T → List (List Nat × T)
  | .mk k t ks => if k = 2 then [] else leavesL p 0 ks ++ (if k = 1 then [(p, .mk k t ks)] else [])
def leavesL (p : List Nat) : Nat → List T → List (List Nat × T)
  | _, [] => []
  | i, x :: r => leavesT (p ++ [i]) x ++ leavesL p (i + 1) r
end
mutual
def textT : T → List UInt8
  | .mk k t ks => if k = 2 then [] else textL ks ++ (if k = 1 then t.2 else [])
def textL : List T → List UInt8
  | [] => []
  | x :: r => textT x ++ textL r
end
def emptyT (t : Tok) : Bool := t == (0, [])
mutual
def toksT : T → List Tok
  | .mk k t ks => if k = 2 then [] else toksLT ks ++ (if k = 1 ∧ ¬ emptyT t then [t] else [])
def toksLT : List T → List Tok
  | [] => []
  | x :: r => toksT x ++ toksLT r
end
def leafText (x : List Nat × T) : List UInt8 := x.2.tok.2
def leafTok (x : List Nat × T) : List Tok := if emptyT x.2.tok then [] else [x.2.tok]
mutual
theorem leaves_text : ∀ (p : List Nat) (n : T), (leavesT p n).flatMap leafText = textT n
  | p, .mk k t ks => by
    unfold leavesT textT
    by_cases h2 : k = 2
    · rw [if_pos h2, if_pos h2]; rfl
    · rw [if_neg h2, if_neg h2, List.flatMap_append, leavesL_text p 0 ks]
      by_cases h1 : k = 1
      · rw [if_pos h1, if_pos h1]; simp [leafText, T.tok]
      · rw [if_neg h1, if_neg h1]; rfl
theorem leavesL_text : ∀ (p : List Nat) (i : Nat) (l : List T), (leavesL p i l).flatMap leafText = textL l
  | p, i, [] => by unfold leavesL textL; rfl
  | p, i, x :: r => by unfold leavesL textL; rw [List.flatMap_append, leaves_text (p ++ [i]) x, leavesL_text p (i + 1) r]
end
mutual
theorem leaves_toks : ∀ (p : List Nat) (n : T), (leavesT p n).flatMap leafTok = toksT n
  | p, .mk k t ks => by
    unfold leavesT toksT
    by_cases h2 : k = 2
    · rw [if_pos h2, if_pos h2]; rfl
    · rw [if_neg h2, if_neg h2, List.flatMap_append, leavesL_toks p 0 ks]
      by_cases h1 : k = 1
      · rw [if_pos h1]
        by_cases he : emptyT t
        · rw [if_neg (by simp [he])]; simp [leafTok, T.tok, he]
        · rw [if_pos ⟨h1, he⟩]; simp [leafTok, T.tok, he]
      · rw [if_neg h1, if_neg (by simp [h1])]; rfl
theorem leavesL_toks : ∀ (p : List Nat) (i : Nat) (l : List T), (leavesL p i l).flatMap leafTok = toksLT l
  | p, i, [] => by unfold leavesL toksLT; rfl
  | p, i, x :: r => by unfold leavesL toksLT; rw [List.flatMap_append, leaves_toks (p ++ [i]) x, leavesL_toks p (i + 1) r]
end
/-- What stands at a path. -/
def atT : T → List Int → Option T
  | n, [] => some n
  | n, i :: p => if i < 0 then none else match n.kids[i.toNat]? with
    | none => none
    | some x => atT x p
def sizeT (n : T) : Nat := (textT n).length
/-- Where what the text has of a path's node begins, and that. -/
def showT : T → List Int → Nat × T
  | n, [] => (0, n)
  | n, i :: p => if n.kind = 2 then (0, n) else match n.kids[i.toNat]? with
    | none => (0, n)
    | some x => ((textL (n.kids.take i.toNat)).length + (showT x p).1, (showT x p).2)
def aheadK (t : Tok) : Bool := t.1 == 1 || t.1 == 2
/-- The own span: of a row of tokens that begins at a byte. st: what is found so far. -/
def ownStep (st : Option (Nat × Nat) × Nat) (t : Tok) : Option (Nat × Nat) × Nat :=
  if emptyT t || aheadK t then (st.1, st.2 + t.2.length)
  else (some ((st.1.map (·.1)).getD st.2, st.2 + t.2.length), st.2 + t.2.length)
def ownR (from0 : Nat) (l : List Tok) : Nat × Nat :=
  let r := l.foldl ownStep (none, from0)
  r.1.getD (r.2, r.2)
def leafToks (n : T) : List Tok := (leavesT [] n).map (·.2.tok)
def fullT (n : T) (p : List Int) : Nat × Nat := ((showT n p).1, (showT n p).1 + sizeT (showT n p).2)
def ownT (n : T) (p : List Int) : Nat × Nat := ownR (showT n p).1 (leafToks (showT n p).2)
/-- The path to the outermost Leaf on a path. -/
def outerT : T → List Nat → List Nat
  | _, [] => []
  | n, i :: p => if n.kind = 1 then [] else match n.kids[i]? with
    | none => []
    | some x => i :: outerT x p
def findL : List (List Nat × T) → Nat → Nat → Option (List Nat)
  | [], _, _ => none
  | x :: r, e, a => if a < e + (leafText x).length then some x.1 else findL r (e + (leafText x).length) a
def findT (n : T) (a : Int) : Option (List Nat) :=
  if a < 0 then none else (findL (leavesT [] n) 0 a.toNat).map (outerT n)
/-- A node in a path's place. -/
def putT : T → List Int → T → T
  | _, [], m => m
  | .mk k t ks, i :: p, m => match ks[i.toNat]? with
    | none => .mk k t ks
    | some x => .mk k t (ks.set i.toNat (putT x p m))
mutual
/-- May it be, but for what the tokens' texts are? (As the program asks.) -/
def formP : T → Bool
  | .mk k t ks => if k = 1 then !aheadK t && ks.all (fun x => x.kind == 1 && x.kids.isEmpty && aheadK x.tok)
    else if k = 2 then t.1 == 0 && ks.isEmpty
    else if 3 ≤ k ∧ k ≤ 18 then emptyT t && formPs ks else false
def formPs : List T → Bool
  | [] => true
  | x :: r => formP x && formPs r
end
def isOne (t : Tok) : Bool := oneE t.2 == 0 && oneT t.2 == t
mutual
/-- The same, as the document asks. -/
def formR : T → Bool
  | .mk k t ks => if k = 2 then t.1 == 0 && ks.isEmpty
    else if k = 0 ∨ 18 < k then false
    else if k = 1 then (emptyT t || isOne t && !aheadK t) && ks.all (fun x => x.kind == 1 && x.kids.isEmpty && aheadK x.tok && isOne x.tok)
    else emptyT t && formRs ks
def formRs : List T → Bool
  | [] => true
  | x :: r => formR x && formRs r
end
def sameToks (n : T) : Bool := tokE (textT n) == 0 && toks (textT n) == toksT n
def checkT (n : T) : Int := if formP n && sameToks n then 0 else 4
def checkR (n : T) : Int := if formR n && sameToks n then 0 else 4
mutual
def sameT : T → T → Bool
  | .mk k t ks, .mk k2 t2 ks2 => k == k2 && (t == t2 && samesT ks ks2)
def samesT : List T → List T → Bool
  | [], [] => true
  | a :: r, b :: s => sameT a b && samesT r s
  | [], _ :: _ => false
  | _ :: _, [] => false
end
theorem all_mono {α : Type} {p q : α → Bool} : ∀ {l : List α}, (∀ x ∈ l, p x = true → q x = true) → l.all p = true → l.all q = true := by
  intro l h h2
  rw [List.all_eq_true] at h2 ⊢
  exact fun x hx => h x hx (h2 x hx)
theorem one_ahead (t : Tok) (h : emptyT t = true) : aheadK t = false := by
  unfold emptyT at h; rw [beq_iff_eq] at h; subst h; rfl
mutual
theorem formR_P : ∀ n : T, formR n = true → formP n = true
  | .mk k t ks, h => by
    unfold formR at h
    unfold formP
    by_cases h2 : k = 2
    · subst h2
      rw [if_pos rfl] at h
      rw [if_neg (by decide), if_pos rfl]; exact h
    · rw [if_neg h2] at h
      by_cases h0 : k = 0 ∨ 18 < k
      · rw [if_pos h0] at h; cases h
      · rw [if_neg h0] at h
        by_cases h1 : k = 1
        · rw [if_pos h1] at h ⊢
          rw [Bool.and_eq_true] at h ⊢
          refine ⟨?_, all_mono (fun x _ hx => by rw [Bool.and_eq_true] at hx; exact hx.1) h.2⟩
          have := h.1
          rw [Bool.or_eq_true] at this
          rcases this with e | e
          · rw [one_ahead t e]; rfl
          · rw [Bool.and_eq_true] at e; exact e.2
        · rw [if_neg h1] at h ⊢
          rw [if_neg h2, if_pos (by omega)]
          rw [Bool.and_eq_true] at h ⊢
          exact ⟨h.1, formRs_P ks h.2⟩
theorem formRs_P : ∀ l : List T, formRs l = true → formPs l = true
  | [], _ => by unfold formPs; rfl
  | x :: r, h => by
    unfold formRs at h; unfold formPs
    rw [Bool.and_eq_true] at h ⊢
    exact ⟨formR_P x h.1, formRs_P r h.2⟩
end
theorem toksL_at {x : T} : ∀ {l : List T}, x ∈ l → ∀ t ∈ toksT x, t ∈ toksLT l
  | y :: r, h, t, ht => by
    unfold toksLT
    rcases List.mem_cons.1 h with rfl | h
    · exact List.mem_append_left _ ht
    · exact List.mem_append_right _ (toksL_at h t ht)
mutual
theorem formP_R : ∀ n : T, formP n = true → (∀ t ∈ toksT n, isOne t = true) → formR n = true
  | .mk k t ks, h, ho => by
    unfold formP at h
    unfold formR
    unfold toksT at ho
    by_cases h1 : k = 1
    · subst h1
      rw [if_pos rfl] at h
      rw [if_neg (by decide), if_neg (by omega), if_pos rfl]
      rw [if_neg (by decide)] at ho
      rw [Bool.and_eq_true] at h ⊢
      refine ⟨?_, ?_⟩
      · by_cases he : emptyT t
        · rw [he]; rfl
        · rw [ho t (by rw [if_pos ⟨rfl, he⟩]; simp), h.1]; simp
      · refine all_mono (fun x hx hy => ?_) h.2
        rw [hy, Bool.true_and]
        rw [Bool.and_eq_true, Bool.and_eq_true] at hy
        obtain ⟨⟨hk, hks⟩, ha⟩ := hy
        refine ho _ (List.mem_append_left _ (toksL_at hx _ ?_))
        obtain ⟨k2, t2, ks2⟩ := x
        simp only [T.kind, beq_iff_eq] at hk
        subst hk
        unfold toksT
        rw [if_neg (by decide)]
        refine List.mem_append_right _ ?_
        have he : emptyT t2 = false := by
          cases e : emptyT t2 with
          | false => rfl
          | true => rw [show T.tok (.mk 1 t2 ks2) = t2 from rfl, one_ahead t2 e] at ha; cases ha
        rw [if_pos ⟨rfl, by simp [he]⟩]
        simp [T.tok]
    · rw [if_neg h1] at h
      by_cases h2 : k = 2
      · rw [if_pos h2] at h ⊢; exact h
      · rw [if_neg h2] at h ho
        rw [if_neg h2]
        by_cases h3 : 3 ≤ k ∧ k ≤ 18
        · rw [if_pos h3] at h
          rw [if_neg (by omega), if_neg h1]
          rw [Bool.and_eq_true] at h ⊢
          exact ⟨h.1, formPs_R ks h.2 (fun t ht => ho t (List.mem_append_left _ ht))⟩
        · rw [if_neg h3] at h; cases h
theorem formPs_R : ∀ l : List T, formPs l = true → (∀ t ∈ toksLT l, isOne t = true) → formRs l = true
  | [], _, _ => by unfold formRs; rfl
  | x :: r, h, ho => by
    unfold formPs at h; unfold formRs
    unfold toksLT at ho
    rw [Bool.and_eq_true] at h ⊢
    exact ⟨formP_R x h.1 (fun t ht => ho t (List.mem_append_left _ ht)), formPs_R r h.2 (fun t ht => ho t (List.mem_append_right _ ht))⟩
end
theorem toks_one {l : List UInt8} (hE : tokE l = 0) {t : Tok} (h : t ∈ toks l) : isOne t = true := by
  obtain ⟨i, hi, rfl⟩ := List.getElem_of_mem h
  obtain ⟨_, h1, h2, _⟩ := back_tok hE (List.getElem?_eq_getElem hi)
  unfold isOne
  simp_all
theorem check_eq (n : T) : checkT n = checkR n := by
  unfold checkT checkR
  cases hs : sameToks n with
  | false => simp
  | true =>
    have hR : formP n = formR n := by
      unfold sameToks at hs
      rw [Bool.and_eq_true, beq_iff_eq, beq_iff_eq] at hs
      cases hp : formP n with
      | true => exact (formP_R n hp (fun t ht => toks_one hs.1 (by rw [hs.2]; exact ht))).symm
      | false =>
        cases hr : formR n with
        | false => rfl
        | true => rw [formR_P n hr] at hp; cases hp
    rw [hR]
end Go.Proofs.YtingfomfibhnhaaGreatDoor
