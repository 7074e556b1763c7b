/-
  withinCharacter; lineAt by sort.Search.
-/
import Derived.Test.YtfhkahnajjbohaaDoorO
namespace Go.Proofs.YtfhkahnajjbohaaDoor
open Go.RowKit Go.Shelf

def contB (c : UInt8) : Bool := !Lib.runeStart c.toNat
/-- Is the byte one of a character, but not its first one? -/
def inB (s : ByteArray) (k : Nat) : Bool := decide (k < s.size) && contB (s.get! k)

theorem within_end (s : ByteArray) (k : Nat) (h : s.size ≤ k) (w : World) :
    Calls Tryd.prog 29 #[.string s, .int .i64 k] w fun e w' => e = .returned (.bool false) ∧ w = w' := by
  go_enter Tryd.func29, Tryd.ntmps29
  go_wp2
  go_ret
  exact ⟨rfl, rfl⟩

theorem within_in (s : ByteArray) (k : Nat) (h : k < s.size) (w : World) :
    Calls Tryd.prog 29 #[.string s, .int .i64 k] w fun e w' => e = .returned (.bool (contB (s.get! k))) ∧ w = w' := by
  rw [get!_lt s k h]
  have hR := Tryd.utf8_RuneStart (s[k].toNat : Int) w (by omega) (by have := s[k].toNat_lt; omega)
  have hc : contB s[k] = !Lib.runeStart s[k].toNat := rfl
  generalize Lib.runeStart (s[k].toNat : Int) = r at hR hc
  rw [hc]
  clear hc
  go_enter Tryd.func29, Tryd.ntmps29
  go_wp2_with fail
  refine hR.mono ?_
  rintro e w' ⟨rfl, hw⟩
  rw [hw]
  clear hR hw
  go_wp2
  go_ret
  exact ⟨rfl, rfl⟩

theorem within_any (s : ByteArray) (k : Nat) (w : World) :
    Calls Tryd.prog 29 #[.string s, .int .i64 k] w fun e w' => e = .returned (.bool (inB s k)) ∧ w = w' := by
  unfold inB
  by_cases h : k < s.size
  · rw [decide_eq_true h]; exact within_in s k h w
  · rw [decide_eq_false h]; exact within_end s k (by omega) w

theorem above_any (b X O : Nat) (s : ByteArray) (ls : List (Nat × Nat)) (w : World) (h : Ix w b s ls) (hX : w.cell? ⟨X, 0, none⟩ = some (.pointer (some ⟨b, 0, none⟩))) (off : Int) (hO : w.cell? ⟨O, 0, none⟩ = some (.int .i64 off))
    (n : Nat) (x : Nat × Nat) (hx : ls[n]? = some x) :
    Calls Tryd.prog 43 #[.int .i64 n, .pointer (some ⟨X, 0, none⟩), .pointer (some ⟨O, 0, none⟩)] w fun e w' => e = .returned (.bool (decide (off < (x.1 : Int)))) ∧ Below w.heap.size w w' := by
  obtain ⟨g, cap, h1, h2, h3, h4, h5, h6⟩ := h
  obtain ⟨c1, c2⟩ := h6 n x hx
  have hn : (n : Int) < ls.length := by have := (List.getElem?_eq_some_iff.1 hx).1; omega
  have hn0 : (0 : Int) ≤ n := by omega
  clear h6 h5 hx c2 h1
  generalize ls.length = m at *
  go_enter Tryd.func43, Tryd.ntmps43
  go_wp2
  go_quiet (fail)
  go_wp2
  go_ret
  exact ⟨rfl, below_drewN (Below.refl _ _) _⟩

/-- i is how many lines begin no later than at off. -/
def CutAt (ls : List (Nat × Nat)) (off : Int) (i : Nat) : Prop := i ≤ ls.length ∧ ∀ k x, ls[k]? = some x → (k < i ↔ (x.1 : Int) ≤ off)
def Rising (ls : List (Nat × Nat)) : Prop := ∀ (j k : Nat) (x y : Nat × Nat), j ≤ k → ls[j]? = some x → ls[k]? = some y → x.1 ≤ y.1
def SomeCut (ls : List (Nat × Nat)) (off : Int) (w : World) (e : Ending) (w' : World) : Prop := ∃ i : Nat, e = .returned (.int .i64 i) ∧ CutAt ls off i ∧ Below w.heap.size w w'

def Between (ls : List (Nat × Nat)) (off : Int) (i j : Nat) : Prop := i ≤ j ∧ j ≤ ls.length ∧ (∀ k x, ls[k]? = some x → k < i → (x.1 : Int) ≤ off) ∧ ∀ k x, ls[k]? = some x → j ≤ k → off < (x.1 : Int)
theorem Between.up {ls : List (Nat × Nat)} {off : Int} {i j h : Nat} {x : Nat × Nat} (hR : Rising ls) (hb : Between ls off i j) (h2 : h < j) (hx : ls[h]? = some x) (hle : (x.1 : Int) ≤ off) : Between ls off (h + 1) j :=
  ⟨h2, hb.2.1, fun k y hy hk => by have := hR k h y x (by omega) hy hx; omega, hb.2.2.2⟩
theorem Between.down {ls : List (Nat × Nat)} {off : Int} {i j h : Nat} {x : Nat × Nat} (hR : Rising ls) (hb : Between ls off i j) (h1 : i ≤ h) (h2 : h < j) (hx : ls[h]? = some x) (hle : off < (x.1 : Int)) : Between ls off i h :=
  ⟨h1, by have := hb.2.1; omega, hb.2.2.1, fun k y hy hk => by have := hR h k x y hk hx hy; omega⟩
theorem Between.cut {ls : List (Nat × Nat)} {off : Int} {i : Nat} (hb : Between ls off i i) : CutAt ls off i :=
  ⟨hb.2.1, fun k x hx => ⟨hb.2.2.1 k x hx, fun hle => by
    by_cases hk : k < i
    · exact hk
    · have := hb.2.2.2 k x hx (by omega); omega⟩⟩

theorem cut_one {ls : List (Nat × Nat)} {off : Int} {i j : Nat} (hi : CutAt ls off i) (hj : CutAt ls off j) : i = j := by
  obtain ⟨h1, h2⟩ := hi
  obtain ⟨h3, h4⟩ := hj
  rcases Nat.lt_trichotomy i j with h | h | h
  · have hx : ls[i]? = some ls[i] := List.getElem?_eq_getElem (by omega)
    have := (h4 i _ hx).1 h
    have := (h2 i _ hx).2 this
    omega
  · exact h
  · have hx : ls[j]? = some ls[j] := List.getElem?_eq_getElem (by omega)
    have := (h2 j _ hx).1 h
    have := (h4 j _ hx).2 this
    omega

set_option maxHeartbeats 1000000 in
theorem search_any (b X O : Nat) (s : ByteArray) (ls : List (Nat × Nat)) (w : World) (h : Ix w b s ls) (hl : ls.length ≤ 1000000000) (hR : Rising ls) (hX : w.cell? ⟨X, 0, none⟩ = some (.pointer (some ⟨b, 0, none⟩))) (off : Int) (hO : w.cell? ⟨O, 0, none⟩ = some (.int .i64 off)) (hXl : X < w.heap.size) (hOl : O < w.heap.size) :
    Calls Tryd.prog 42 #[.int .i64 ls.length, .func (.func 43) #[] #[.pointer (some ⟨X, 0, none⟩), .pointer (some ⟨O, 0, none⟩)]] w (SomeCut ls off w) := by
  have H := Lib.hid h
  have HR := Lib.hid hR
  have HX := Lib.hid hX
  have HO := Lib.hid hO
  clear h hR hX hO
  go_enter Tryd.func42, Tryd.ntmps42
  go_wp2
  go_loopw [5, 6, 7] (fun i j _ wr => ∃ a c : Nat, i = .int .i64 a ∧ j = .int .i64 c ∧ Between ls off a c ∧ Below w.heap.size w wr) (fun i j _ _ => (intOf j - intOf i).toNat)
  case atStart => exact ⟨0, ls.length, rfl, rfl, ⟨by omega, by omega, fun k x _ hk => by omega, fun k x hx hk => by have := (List.getElem?_eq_some_iff.1 hx).1; omega⟩, Below.refl _ _⟩
  case round =>
    obtain ⟨a, c, rfl, rfl, hb, hB⟩ := hrel
    have hac := hb.1
    have hcl := hb.2.1
    have HB := Lib.hid hb
    clear hb
    by_cases hlt : a < c
    · obtain ⟨hm, hmd⟩ : ∃ hm : Nat, hm = (a + c) / 2 := ⟨_, rfl⟩
      have hm1 : a ≤ hm := by omega
      have hm2 : hm < c := by omega
      obtain ⟨x, hx⟩ : ∃ x, ls[hm]? = some x := ⟨ls[hm], List.getElem?_eq_getElem (by omega)⟩
      have hzw := hB.size
      have hA := above_any b X O s ls wr (H.out.below (Nat.le_refl _) hB) ((hB.cell (p := ⟨X, 0, none⟩) hXl).trans HX.out) off ((hB.cell (p := ⟨O, 0, none⟩) hOl).trans HO.out) hm x hx
      have HM := Lib.hid hmd
      have HXX := Lib.hid hx
      clear hmd hx
      go_wp2_with fail
      rw [show ((a : Int) + c) / 2 = (hm : Int) by have := HM.out; omega]
      refine hA.mono ?_
      rintro e w2 ⟨rfl, hb2⟩
      clear hA
      have hB2 : Below w.heap.size w w2 := hB.trans (hb2.mono hzw)
      by_cases hlt2 : off < (x.1 : Int)
      · rw [decide_eq_true hlt2]
        go_wp2
        go_roundw
        case rel => exact ⟨a, hm, rfl, rfl, HB.out.down HR.out hm1 hm2 HXX.out hlt2, hB2⟩
        case measure => simp [intOf]; omega
      · rw [decide_eq_false hlt2]
        go_wp2
        go_roundw
        case rel => exact ⟨hm + 1, c, by go_num, rfl, HB.out.up HR.out hm2 HXX.out (by omega), hB2⟩
        case measure => simp [intOf]; omega
    · obtain rfl : a = c := by omega
      go_wp2
      go_ret
      exact ⟨a, rfl, HB.out.cut, hB⟩

theorem lineAt_any (b : Nat) (s : ByteArray) (ls : List (Nat × Nat)) (w : World) (h : Ix w b s ls) (hl : ls.length ≤ 1000000000) (hR : Rising ls) (off : Int) (i : Nat) (hi : CutAt ls off i) :
    Calls Tryd.prog 30 #[.pointer (some ⟨b, 0, none⟩), .int .i64 off] w fun e w' => e = .returned (.int .i64 ((i : Int) - 1)) ∧ Below w.heap.size w w' := by
  obtain ⟨W, hW⟩ : ∃ W, (w.alloc (.cells #[.pointer (some ⟨b, 0, none⟩)] 23)).alloc (.cells #[.int .i64 off] 3) = W := ⟨_, rfl⟩
  have hBW : Below w.heap.size w W := by rw [← hW]; exact ((Below.refl _ w).alloc (Nat.le_refl _) _).alloc (by simp) _
  have hsW : W.heap.size = w.heap.size + 1 + 1 := by rw [← hW]; simp
  have hS := search_any b w.heap.size (w.heap.size + 1) s ls W (h.below (Nat.le_refl _) hBW) hl hR (by rw [← hW]; simp) off (by rw [← hW]; simp) (by omega) (by omega)
  obtain ⟨g, cap, c1, c2, c3, c4, c5, c6⟩ := h.below (Nat.le_refl _) hBW
  have hcx : W.cell? ⟨w.heap.size, 0, none⟩ = some (.pointer (some ⟨b, 0, none⟩)) := by rw [← hW]; simp
  have hmf : ∀ (fn : Fn) (first cap : Array Value) (w : World), (Instr.makeFunc fn first cap).run Tryd.prog w = .ok (.func fn first cap) w := fun _ _ _ _ => rfl
  have hi1 := hi.1
  have HI := Lib.hid hi
  have HS := Lib.hid hsW
  clear c6 c5 c1 hR hsW hi h
  go_enter Tryd.func30, Tryd.ntmps30
  go_wp2_with fail
  refine hS.mono ?_
  rintro e w2 ⟨j, rfl, hj, hb2⟩
  clear hS
  obtain rfl : j = i := cut_one hj HI.out
  have HJ := Lib.hid hj
  clear hj
  go_wp2
  go_ret
  exact ⟨rfl, hBW.trans (hb2.mono hBW.size)⟩
end Go.Proofs.YtfhkahnajjbohaaDoor
