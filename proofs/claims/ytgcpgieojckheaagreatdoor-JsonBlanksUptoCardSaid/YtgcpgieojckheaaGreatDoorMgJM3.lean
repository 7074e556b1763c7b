/-
  What is read may be printed.
-/
import Derived.Test.YtgcpgieojckheaaGreatDoorMgJM2
namespace Go.Proofs.YtgcpgieojckheaaGreatDoor.Json
open Go.Proofs.YtgcpgieojckheaaGreatDoor

/-- What is read may be. -/
def Fine (d n : Nat) (j : J) (n2 : Nat) : Prop := formJ j = true ∧ onceJ j = true ∧ deepJ j ≤ d ∧ n2 = n + countJ j ∧ n2 ≤ 65536
def Fines (d n : Nat) (js : List J) (n2 : Nat) : Prop := formsJ js = true ∧ oncesJ js = true ∧ deepsJ js ≤ d ∧ n2 = n + countsJ js ∧ (n ≤ 65536 → n2 ≤ 65536)
theorem quoted_valid {l t r : List UInt8} (h : quoted l = some (t, r)) : Utf.validS ⟨t.toArray⟩ = true := by
  unfold quoted at h
  split at h
  · split at h
    · cases h
    · split at h
      · rename_i hv; cases h; exact hv
      · cases h
  · cases h
theorem items_fine {d : Nat} (hv : ∀ l n j r n2, value d l n = .ok (j, r, n2) → Fine d n j n2) : ∀ (f : Nat) (l : List UInt8) (n : Nat) (js : List J) (r : List UInt8) (n2 : Nat), items (value d) f l n = .ok (js, r, n2) → Fines d n js n2 ∧ n2 ≤ 65536
  | 0, l, n, js, r, n2, h => by unfold items at h; cases h
  | f + 1, l, n, js, r, n2, h => by
    unfold items at h
    split at h
    · cases h
    · rename_i j r0 n0 h0
      obtain ⟨a1, a2, a3, a4, a5⟩ := hv _ _ _ _ _ h0
      split at h
      · split at h
        · cases h
        · rename_i js' r3 n3 h3
          obtain ⟨⟨b1, b2, b3, b4, b5⟩, b6⟩ := items_fine hv f _ _ _ _ _ h3
          cases h
          refine ⟨⟨?_, ?_, ?_, ?_, fun _ => b6⟩, b6⟩
          · unfold formsJ; rw [a1, b1]; rfl
          · unfold oncesJ; rw [a2, b2]; rfl
          · unfold deepsJ; omega
          · unfold countsJ; omega
      · cases h
        refine ⟨⟨?_, ?_, ?_, ?_, fun _ => a5⟩, a5⟩
        · unfold formsJ; rw [a1]; rfl
        · unfold oncesJ; rw [a2]; rfl
        · unfold deepsJ deepsJ; omega
        · unfold countsJ countsJ; omega
      · cases h
theorem members_fine {d : Nat} (hv : ∀ l n j r n2, value d l n = .ok (j, r, n2) → Fine d n j n2) : ∀ (f : Nat) (known : List (List UInt8)) (l : List UInt8) (n : Nat) (ns : List (List UInt8)) (js : List J) (r : List UInt8) (n2 : Nat), members (value d) f known l n = .ok ((ns, js), r, n2) →
    Fines d n js n2 ∧ n2 ≤ 65536 ∧ ns.length = js.length ∧ (ns.all fun s => Utf.validS ⟨s.toArray⟩) = true ∧ noTwice ns = true ∧ ∀ s ∈ ns, known.contains s = false
  | 0, known, l, n, ns, js, r, n2, h => by unfold members at h; cases h
  | f + 1, known, l, n, ns, js, r, n2, h => by
    unfold members at h
    split at h
    · cases h
    · rename_i name r0 hq
      have hval := quoted_valid hq
      split at h
      · cases h
      · rename_i hk
        have hk' : known.contains name = false := by simpa using hk
        split at h
        · split at h
          · cases h
          · rename_i j r' n' h2
            obtain ⟨a1, a2, a3, a4, a5⟩ := hv _ _ _ _ _ h2
            split at h
            · split at h
              · cases h
              · rename_i ns' js' r3 n3 h4
                obtain ⟨⟨b1, b2, b3, b4, b5⟩, b6, b7, b8, b9, b10⟩ := members_fine hv f _ _ _ _ _ _ _ h4
                cases h
                refine ⟨⟨?_, ?_, ?_, ?_, fun _ => b6⟩, b6, ?_, ?_, ?_, ?_⟩
                · unfold formsJ; rw [a1, b1]; rfl
                · unfold oncesJ; rw [a2, b2]; rfl
                · unfold deepsJ; omega
                · unfold countsJ; omega
                · simp [b7]
                · rw [List.all_cons, hval, b8]; rfl
                · unfold noTwice
                  rw [b9, Bool.and_true, Bool.not_eq_true']
                  rw [Bool.eq_false_iff]
                  intro hc
                  have := b10 name (List.contains_iff_mem.1 hc)
                  simp at this
                · intro s hs
                  rcases List.mem_cons.1 hs with rfl | hs
                  · exact hk'
                  · have := b10 s hs
                    rw [List.contains_cons, Bool.or_eq_false_iff] at this
                    exact this.2
            · cases h
              refine ⟨⟨?_, ?_, ?_, ?_, fun _ => a5⟩, a5, rfl, ?_, rfl, ?_⟩
              · unfold formsJ; rw [a1]; rfl
              · unfold oncesJ; rw [a2]; rfl
              · unfold deepsJ deepsJ; omega
              · unfold countsJ countsJ; omega
              · rw [List.all_cons, hval]; rfl
              · intro s hs
                rw [List.mem_singleton] at hs
                subst hs; exact hk'
            · cases h
        · cases h
theorem word_fine {w l : List UInt8} {k n d : Nat} {j : J} {r : List UInt8} {n2 : Nat} (hk : k = 1 ∨ k = 2 ∨ k = 3) (hn : n < 65536) (h : word w k l (n + 1) = .ok (j, r, n2)) : Fine (d + 1) n j n2 := by
  unfold word at h
  split at h
  · cases h
    refine ⟨?_, by simp [onceJ, noTwice, oncesJ], by simp [deepJ, deepsJ], by simp [countJ, countsJ], by omega⟩
    unfold formJ
    rw [if_pos hk]; rfl
  · cases h
theorem number_fine {l : List UInt8} {n d : Nat} {j : J} {r : List UInt8} {n2 : Nat} (hn : n < 65536) (h : number l (n + 1) = .ok (j, r, n2)) : Fine (d + 1) n j n2 := by
  unfold number at h
  split at h
  · rename_i h0
    obtain ⟨o1, o2⟩ := own_again _ h0
    cases h
    refine ⟨?_, by simp [onceJ, noTwice, oncesJ], by simp [deepJ, deepsJ], by simp [countJ, countsJ], by omega⟩
    unfold formJ
    rw [if_neg (by decide), if_pos rfl, o1, o2]
    simp
  · cases h
theorem value_fine : ∀ (d : Nat) (l : List UInt8) (n : Nat) (j : J) (r : List UInt8) (n2 : Nat), value d l n = .ok (j, r, n2) → Fine d n j n2
  | 0, l, n, j, r, n2, h => by unfold value at h; cases h
  | d + 1, l, n, j, r, n2, h => by
    have hv := value_fine d
    unfold value at h
    split at h
    · cases h
    · rename_i hn
      have hn' : n < 65536 := by omega
      split at h
      · exact word_fine (.inl rfl) hn' h
      · exact word_fine (.inr (.inl rfl)) hn' h
      · exact word_fine (.inr (.inr rfl)) hn' h
      · split at h
        · cases h
        · rename_i h1
          have := quoted_valid h1
          cases h
          refine ⟨?_, by simp [onceJ, noTwice, oncesJ], by simp [deepJ, deepsJ], by simp [countJ, countsJ], by omega⟩
          unfold formJ
          rw [if_neg (by decide), if_neg (by decide), if_pos rfl, this]; rfl
      · split at h
        · cases h
          exact ⟨by simp [formJ, formsJ], by simp [onceJ, noTwice, oncesJ], by simp [deepJ, deepsJ], by simp [countJ, countsJ], by omega⟩
        · split at h
          · cases h
          · rename_i h4
            obtain ⟨⟨b1, b2, b3, b4, b5⟩, b6⟩ := items_fine hv _ _ _ _ _ _ h4
            cases h
            refine ⟨by simp [formJ, b1], by simp [onceJ, noTwice, b2], by unfold deepJ; omega, by unfold countJ; omega, b6⟩
      · split at h
        · cases h
          exact ⟨by simp [formJ, formsJ], by simp [onceJ, noTwice, oncesJ], by simp [deepJ, deepsJ], by simp [countJ, countsJ], by omega⟩
        · split at h
          · cases h
          · rename_i h4
            obtain ⟨⟨b1, b2, b3, b4, b5⟩, b6, b7, b8, b9, _⟩ := members_fine hv _ _ _ _ _ _ _ _ h4
            cases h
            refine ⟨?_, by simp [onceJ, b9, b2], by unfold deepJ; omega, by unfold countJ; omega, b6⟩
            unfold formJ
            rw [if_neg (by decide), if_neg (by decide), if_neg (by decide), if_neg (by decide), if_pos rfl, b8, b1, decide_eq_true b7]; rfl
      · exact number_fine hn' h
end Go.Proofs.YtgcpgieojckheaaGreatDoor.Json
