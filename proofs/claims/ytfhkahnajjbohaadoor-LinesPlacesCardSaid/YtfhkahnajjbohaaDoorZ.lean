/-
  The reference: Size, Valid.
-/
import Derived.Test.YtfhkahnajjbohaaDoorV
namespace Go.Proofs.YtfhkahnajjbohaaDoor
open Go.RowKit Go.Shelf

/-- The size that is told of byte i: a character's, or 0. -/
def SzOf (s : ByteArray) (i r : Nat) : Prop := (∃ v, Ch s i r v) ∨ (r = 0 ∧ ∀ n v, ¬ Ch s i n v)
def SzAns (s : ByteArray) (i : Nat) (w : World) (e : Ending) (w' : World) : Prop := ∃ r : Nat, e = .returned (.int .i64 r) ∧ SzOf s i r ∧ w = w'

set_option maxRecDepth 100000 in
set_option maxHeartbeats 1600000 in
theorem size_ascii (s : ByteArray) (i : Nat) (w : World) (hi : i < s.size) (h : bt s i < 128) :
    Calls Tryd.prog 27 #[.string s, .int .i64 i] w (SzAns s i w) := by
  have hs0 : s[i]'hi = s.get! i := (get!_lt s i hi).symm
  have hA : SzOf s i 1 := .inl ⟨1, .inl ⟨rfl, rfl, hi, h⟩⟩
  unfold bt at h
  generalize s.get! i = x0 at hs0 h
  have HA := Lib.hid hA
  clear hA
  go_enter Tryd.func27, Tryd.ntmps27
  go_wp2
  go_ret
  exact ⟨1, rfl, HA.out, rfl⟩
theorem no_ch (s : ByteArray) (i : Nat) (h : (128 ≤ bt s i ∧ bt s i < 194) ∨ 245 ≤ bt s i) : ∀ n v, ¬ Ch s i n v := by
  intro n v hc
  rcases hc with hc | hc | hc | hc <;> (try unfold K2 at hc) <;> (try unfold K3 at hc) <;> (try unfold K4 at hc) <;> omega
set_option maxRecDepth 100000 in
set_option maxHeartbeats 1600000 in
theorem size_none (s : ByteArray) (i : Nat) (w : World) (hi : i < s.size) (h : (128 ≤ bt s i ∧ bt s i < 194) ∨ 245 ≤ bt s i) :
    Calls Tryd.prog 27 #[.string s, .int .i64 i] w (SzAns s i w) := by
  have hs0 : s[i]'hi = s.get! i := (get!_lt s i hi).symm
  have hA : SzOf s i 0 := .inr ⟨rfl, no_ch s i h⟩
  unfold bt at h
  generalize s.get! i = x0 at hs0 h
  have HA := Lib.hid hA
  clear hA
  rcases h with ⟨h1, h2⟩ | h1
  all_goals
    go_enter Tryd.func27, Tryd.ntmps27
    go_wp2
    go_ret
    exact ⟨0, rfl, HA.out, rfl⟩
/-- How many bytes the first one asks. -/
def lead (b n : Nat) : Prop := (n = 2 ∧ 194 ≤ b ∧ b ≤ 223) ∨ (n = 3 ∧ 224 ≤ b ∧ b ≤ 239) ∨ (n = 4 ∧ 240 ≤ b ∧ b ≤ 244)
theorem lead_ch {s : ByteArray} {i n m v : Nat} (hl : lead (bt s i) n) (hc : Ch s i m v) : m = n ∧ i + n ≤ s.size ∧ ∀ j, 1 ≤ j → j < n → 128 ≤ bt s (i + j) ∧ bt s (i + j) < 192 := by
  have hf := hc.fits
  have hm : m = n := by
    unfold lead at hl
    rcases hc with hc | hc | hc | hc <;> (try unfold K2 at hc) <;> (try unfold K3 at hc) <;> (try unfold K4 at hc) <;> omega
  subst hm
  exact ⟨rfl, hf.2.2.1, fun j h1 h2 => hc.later (i + j) (by omega) (by omega)⟩
set_option maxRecDepth 100000 in
set_option maxHeartbeats 1600000 in
theorem size_short (s : ByteArray) (i n : Nat) (w : World) (hi : i < s.size) (hs : s.size ≤ 1000000000) (hl : lead (bt s i) n) (h : s.size < i + n) :
    Calls Tryd.prog 27 #[.string s, .int .i64 i] w (SzAns s i w) := by
  have hs0 : s[i]'hi = s.get! i := (get!_lt s i hi).symm
  have hA : SzOf s i 0 := .inr ⟨rfl, fun m v hc => by have := lead_ch hl hc; omega⟩
  unfold lead bt at hl
  generalize s.get! i = x0 at hs0 hl
  have HA := Lib.hid hA
  clear hA
  rcases hl with ⟨rfl, h1, h2⟩ | ⟨rfl, h1, h2⟩ | ⟨rfl, h1, h2⟩
  all_goals
    go_enter Tryd.func27, Tryd.ntmps27
    go_wp2
    go_ret
    exact ⟨0, rfl, HA.out, rfl⟩

def OkUp (s : ByteArray) (i k : Nat) : Prop := ∀ j, 1 ≤ j → j < k → 128 ≤ bt s (i + j) ∧ bt s (i + j) < 192
theorem OkUp.one (s : ByteArray) (i : Nat) : OkUp s i 1 := fun j h1 h2 => by omega
theorem OkUp.succ {s : ByteArray} {i k : Nat} (h : OkUp s i k) (h1 : 128 ≤ bt s (i + k)) (h2 : bt s (i + k) < 192) : OkUp s i (k + 1) := fun j a b => by
  rcases (by omega : j < k ∨ j = k) with hj | rfl
  · exact h j a hj
  · exact ⟨h1, h2⟩
/-- Behind the loop: which second byte is none. -/
def badSecond (a b : Nat) : Prop := (a = 224 ∧ b < 160) ∨ (a = 237 ∧ 159 < b) ∨ (a = 240 ∧ b < 144) ∨ (a = 244 ∧ 143 < b)
theorem OkUp.bad {s : ByteArray} {i : Nat} (hb : badSecond (bt s i) (bt s (i + 1))) : SzOf s i 0 := by
  refine .inr ⟨rfl, fun m v hc => ?_⟩
  unfold badSecond at hb
  rcases hc with hc | hc | hc | hc <;> (try unfold K2 at hc) <;> (try unfold K3 at hc) <;> (try unfold K4 at hc) <;> omega
theorem OkUp.good {s : ByteArray} {i n : Nat} (hl : lead (bt s i) n) (hz : i + n ≤ s.size) (h : OkUp s i n) (hb : ¬ badSecond (bt s i) (bt s (i + 1))) : SzOf s i n := by
  unfold badSecond at hb
  rcases hl with ⟨rfl, h1, h2⟩ | ⟨rfl, h1, h2⟩ | ⟨rfl, h1, h2⟩
  · have a1 := h 1 (by omega) (by omega)
    exact .inl ⟨1, .inr (.inl ⟨rfl, rfl, by unfold K2; omega⟩)⟩
  · have a1 := h 1 (by omega) (by omega)
    have a2 := h 2 (by omega) (by omega)
    exact .inl ⟨1, .inr (.inr (.inl ⟨rfl, rfl, by unfold K3; omega⟩))⟩
  · have a1 := h 1 (by omega) (by omega)
    have a2 := h 2 (by omega) (by omega)
    have a3 := h 3 (by omega) (by omega)
    exact .inl ⟨2, .inr (.inr (.inr ⟨rfl, rfl, by unfold K4; omega⟩))⟩
theorem OkUp.not {s : ByteArray} {i n k : Nat} (hl : lead (bt s i) n) (h1 : 1 ≤ k) (h2 : k < n) (hb : bt s (i + k) < 128 ∨ 191 < bt s (i + k)) : SzOf s i 0 := by
  refine .inr ⟨rfl, fun m v hc => ?_⟩
  have := (lead_ch hl hc).2.2 k h1 h2
  omega

set_option maxRecDepth 100000 in
set_option maxHeartbeats 4000000 in
theorem sz_2 (s : ByteArray) (i : Nat) (w : World) (hs : s.size ≤ 1000000000) (hl1 : 194 ≤ bt s i) (hl2 : bt s i ≤ 223) (h : i + 2 ≤ s.size) :
    Calls Tryd.prog 27 #[.string s, .int .i64 i] w (SzAns s i w) := by
  have hl : lead (bt s i) 2 := .inl ⟨rfl, hl1, hl2⟩
  have hi : i < s.size := by omega
  have hi1 : i + 1 < s.size := by omega
  have hs0 : s[i]'hi = s.get! i := (get!_lt s i hi).symm
  have hs1 : s[i + 1]'hi1 = s.get! (i + 1) := (get!_lt s (i + 1) hi1).symm
  have HN : Hid (∀ k, 1 ≤ k → k < 2 → (bt s (i + k) < 128 ∨ 191 < bt s (i + k)) → SzOf s i 0) := Lib.hid (fun k h1 h2 hb => OkUp.not hl h1 h2 hb)
  have HB : Hid (badSecond (bt s i) (bt s (i + 1)) → SzOf s i 0) := Lib.hid (fun hb => OkUp.bad hb)
  have HG : Hid (OkUp s i 2 → ¬ badSecond (bt s i) (bt s (i + 1)) → SzOf s i 2) := Lib.hid (fun hu hb => OkUp.good hl h hu hb)
  have e0 : bt s i = (s.get! i).toNat := rfl
  have e1 : bt s (i + 1) = (s.get! (i + 1)).toNat := rfl
  rw [e0, e1] at HB HG
  rw [e0] at hl1 hl2
  have E1 := Lib.hid e1
  clear hl e0 e1
  generalize s.get! i = x0 at *
  have hd0 : decide ((x0.toNat : Int) < 128) = false := by simp; omega
  have hd1 : decide ((x0.toNat : Int) ≤ 223) = true := by simp; omega
  go_enter Tryd.func27, Tryd.ntmps27
  go_wp2
  go_loop [7] (fun t => ∃ k : Nat, 1 ≤ k ∧ k ≤ 2 ∧ t = .int .i64 k ∧ Hid (OkUp s i k)) (fun t => 2 - (intOf t).toNat)
  case atStart => exact ⟨1, by omega, by omega, rfl, Lib.hid (OkUp.one s i)⟩
  case round =>
    obtain ⟨k, hk1, hk2, rfl, HU⟩ := hrel
    by_cases hk : k < 2
    · have hik : i + k < s.size := by omega
      have hsk : s[i + k]'hik = s.get! (i + k) := (get!_lt s (i + k) hik).symm
      have EK := Lib.hid (show bt s (i + k) = (s.get! (i + k)).toNat from rfl)
      clear hs1 E1 HB HG
      generalize s.get! (i + k) = xk at *
      by_cases hx : xk.toNat < 128 ∨ 191 < xk.toNat
      · have HZ : Hid (SzOf s i 0) := Lib.hid (HN.out k hk1 hk (by rw [EK.out]; exact hx))
        rcases hx with hx | hx
        all_goals
          go_wp2
          go_ret
          exact ⟨0, rfl, HZ.out, rfl⟩
      · obtain ⟨hx1, hx2⟩ : 128 ≤ xk.toNat ∧ xk.toNat ≤ 191 := by omega
        clear hx
        go_wp2
        go_round
        case rel => exact ⟨k + 1, by omega, by omega, by go_num, Lib.hid (HU.out.succ (by rw [EK.out]; exact hx1) (by rw [EK.out]; omega))⟩
        case measure => simp [intOf]; omega
    · obtain rfl : k = 2 := by omega
      generalize s.get! (i + 1) = x1 at *
      have HG2 := Lib.hid (HG.out HU.out)
      clear HU HG HN E1
      go_wp2
      all_goals
        go_ret
        first
        | exact ⟨0, rfl, HB.out (by unfold badSecond; omega), rfl⟩
        | exact ⟨2, rfl, HG2.out (by unfold badSecond; omega), rfl⟩

set_option maxRecDepth 100000 in
set_option maxHeartbeats 4000000 in
theorem sz_3 (s : ByteArray) (i : Nat) (w : World) (hs : s.size ≤ 1000000000) (hl1 : 224 ≤ bt s i) (hl2 : bt s i ≤ 239) (h : i + 3 ≤ s.size) :
    Calls Tryd.prog 27 #[.string s, .int .i64 i] w (SzAns s i w) := by
  have hl : lead (bt s i) 3 := .inr (.inl ⟨rfl, hl1, hl2⟩)
  have hi : i < s.size := by omega
  have hi1 : i + 1 < s.size := by omega
  have hs0 : s[i]'hi = s.get! i := (get!_lt s i hi).symm
  have hs1 : s[i + 1]'hi1 = s.get! (i + 1) := (get!_lt s (i + 1) hi1).symm
  have HN : Hid (∀ k, 1 ≤ k → k < 3 → (bt s (i + k) < 128 ∨ 191 < bt s (i + k)) → SzOf s i 0) := Lib.hid (fun k h1 h2 hb => OkUp.not hl h1 h2 hb)
  have HB : Hid (badSecond (bt s i) (bt s (i + 1)) → SzOf s i 0) := Lib.hid (fun hb => OkUp.bad hb)
  have HG : Hid (OkUp s i 3 → ¬ badSecond (bt s i) (bt s (i + 1)) → SzOf s i 3) := Lib.hid (fun hu hb => OkUp.good hl h hu hb)
  have e0 : bt s i = (s.get! i).toNat := rfl
  have e1 : bt s (i + 1) = (s.get! (i + 1)).toNat := rfl
  rw [e0, e1] at HB HG
  rw [e0] at hl1 hl2
  have E1 := Lib.hid e1
  clear hl e0 e1
  generalize s.get! i = x0 at *
  have hd0 : decide ((x0.toNat : Int) < 128) = false := by simp; omega
  have hd1 : decide ((x0.toNat : Int) ≤ 223) = false := by simp; omega
  have hd2 : decide ((x0.toNat : Int) ≤ 239) = true := by simp; omega
  go_enter Tryd.func27, Tryd.ntmps27
  go_wp2
  go_loop [7] (fun t => ∃ k : Nat, 1 ≤ k ∧ k ≤ 3 ∧ t = .int .i64 k ∧ Hid (OkUp s i k)) (fun t => 3 - (intOf t).toNat)
  case atStart => exact ⟨1, by omega, by omega, rfl, Lib.hid (OkUp.one s i)⟩
  case round =>
    obtain ⟨k, hk1, hk2, rfl, HU⟩ := hrel
    by_cases hk : k < 3
    · have hik : i + k < s.size := by omega
      have hsk : s[i + k]'hik = s.get! (i + k) := (get!_lt s (i + k) hik).symm
      have EK := Lib.hid (show bt s (i + k) = (s.get! (i + k)).toNat from rfl)
      clear hs1 E1 HB HG
      generalize s.get! (i + k) = xk at *
      by_cases hx : xk.toNat < 128 ∨ 191 < xk.toNat
      · have HZ : Hid (SzOf s i 0) := Lib.hid (HN.out k hk1 hk (by rw [EK.out]; exact hx))
        rcases hx with hx | hx
        all_goals
          go_wp2
          go_ret
          exact ⟨0, rfl, HZ.out, rfl⟩
      · obtain ⟨hx1, hx2⟩ : 128 ≤ xk.toNat ∧ xk.toNat ≤ 191 := by omega
        clear hx
        go_wp2
        go_round
        case rel => exact ⟨k + 1, by omega, by omega, by go_num, Lib.hid (HU.out.succ (by rw [EK.out]; exact hx1) (by rw [EK.out]; omega))⟩
        case measure => simp [intOf]; omega
    · obtain rfl : k = 3 := by omega
      generalize s.get! (i + 1) = x1 at *
      have HG2 := Lib.hid (HG.out HU.out)
      clear HU HG HN E1
      go_wp2
      all_goals
        go_ret
        first
        | exact ⟨0, rfl, HB.out (by unfold badSecond; omega), rfl⟩
        | exact ⟨3, rfl, HG2.out (by unfold badSecond; omega), rfl⟩

set_option maxRecDepth 100000 in
set_option maxHeartbeats 4000000 in
theorem sz_4 (s : ByteArray) (i : Nat) (w : World) (hs : s.size ≤ 1000000000) (hl1 : 240 ≤ bt s i) (hl2 : bt s i ≤ 244) (h : i + 4 ≤ s.size) :
    Calls Tryd.prog 27 #[.string s, .int .i64 i] w (SzAns s i w) := by
  have hl : lead (bt s i) 4 := .inr (.inr ⟨rfl, hl1, hl2⟩)
  have hi : i < s.size := by omega
  have hi1 : i + 1 < s.size := by omega
  have hs0 : s[i]'hi = s.get! i := (get!_lt s i hi).symm
  have hs1 : s[i + 1]'hi1 = s.get! (i + 1) := (get!_lt s (i + 1) hi1).symm
  have HN : Hid (∀ k, 1 ≤ k → k < 4 → (bt s (i + k) < 128 ∨ 191 < bt s (i + k)) → SzOf s i 0) := Lib.hid (fun k h1 h2 hb => OkUp.not hl h1 h2 hb)
  have HB : Hid (badSecond (bt s i) (bt s (i + 1)) → SzOf s i 0) := Lib.hid (fun hb => OkUp.bad hb)
  have HG : Hid (OkUp s i 4 → ¬ badSecond (bt s i) (bt s (i + 1)) → SzOf s i 4) := Lib.hid (fun hu hb => OkUp.good hl h hu hb)
  have e0 : bt s i = (s.get! i).toNat := rfl
  have e1 : bt s (i + 1) = (s.get! (i + 1)).toNat := rfl
  rw [e0, e1] at HB HG
  rw [e0] at hl1 hl2
  have E1 := Lib.hid e1
  clear hl e0 e1
  generalize s.get! i = x0 at *
  have hd0 : decide ((x0.toNat : Int) < 128) = false := by simp; omega
  have hd1 : decide ((x0.toNat : Int) ≤ 223) = false := by simp; omega
  have hd2 : decide ((x0.toNat : Int) ≤ 239) = false := by simp; omega
  have hd3 : decide ((x0.toNat : Int) ≤ 244) = true := by simp; omega
  go_enter Tryd.func27, Tryd.ntmps27
  go_wp2
  go_loop [7] (fun t => ∃ k : Nat, 1 ≤ k ∧ k ≤ 4 ∧ t = .int .i64 k ∧ Hid (OkUp s i k)) (fun t => 4 - (intOf t).toNat)
  case atStart => exact ⟨1, by omega, by omega, rfl, Lib.hid (OkUp.one s i)⟩
  case round =>
    obtain ⟨k, hk1, hk2, rfl, HU⟩ := hrel
    by_cases hk : k < 4
    · have hik : i + k < s.size := by omega
      have hsk : s[i + k]'hik = s.get! (i + k) := (get!_lt s (i + k) hik).symm
      have EK := Lib.hid (show bt s (i + k) = (s.get! (i + k)).toNat from rfl)
      clear hs1 E1 HB HG
      generalize s.get! (i + k) = xk at *
      by_cases hx : xk.toNat < 128 ∨ 191 < xk.toNat
      · have HZ : Hid (SzOf s i 0) := Lib.hid (HN.out k hk1 hk (by rw [EK.out]; exact hx))
        rcases hx with hx | hx
        all_goals
          go_wp2
          go_ret
          exact ⟨0, rfl, HZ.out, rfl⟩
      · obtain ⟨hx1, hx2⟩ : 128 ≤ xk.toNat ∧ xk.toNat ≤ 191 := by omega
        clear hx
        go_wp2
        go_round
        case rel => exact ⟨k + 1, by omega, by omega, by go_num, Lib.hid (HU.out.succ (by rw [EK.out]; exact hx1) (by rw [EK.out]; omega))⟩
        case measure => simp [intOf]; omega
    · obtain rfl : k = 4 := by omega
      generalize s.get! (i + 1) = x1 at *
      have HG2 := Lib.hid (HG.out HU.out)
      clear HU HG HN E1
      go_wp2
      all_goals
        go_ret
        first
        | exact ⟨0, rfl, HB.out (by unfold badSecond; omega), rfl⟩
        | exact ⟨4, rfl, HG2.out (by unfold badSecond; omega), rfl⟩

theorem size_any (s : ByteArray) (i : Nat) (w : World) (hi : i < s.size) (hs : s.size ≤ 1000000000) :
    Calls Tryd.prog 27 #[.string s, .int .i64 i] w (SzAns s i w) := by
  have hlt := bt_lt s i
  rcases (by omega : bt s i < 128 ∨ ((128 ≤ bt s i ∧ bt s i < 194) ∨ 245 ≤ bt s i) ∨ (194 ≤ bt s i ∧ bt s i ≤ 223) ∨ (224 ≤ bt s i ∧ bt s i ≤ 239) ∨ (240 ≤ bt s i ∧ bt s i ≤ 244)) with h | h | h | h | h
  · exact size_ascii s i w hi h
  · exact size_none s i w hi h
  · by_cases hz : i + 2 ≤ s.size
    · exact sz_2 s i w hs h.1 h.2 hz
    · exact size_short s i 2 w hi hs (.inl ⟨rfl, h⟩) (by omega)
  · by_cases hz : i + 3 ≤ s.size
    · exact sz_3 s i w hs h.1 h.2 hz
    · exact size_short s i 3 w hi hs (.inr (.inl ⟨rfl, h⟩)) (by omega)
  · by_cases hz : i + 4 ≤ s.size
    · exact sz_4 s i w hs h.1 h.2 hz
    · exact size_short s i 4 w hi hs (.inr (.inr ⟨rfl, h⟩)) (by omega)
theorem SzOf.one {s : ByteArray} {i r q : Nat} (h : SzOf s i r) (g : SzOf s i q) : r = q := by
  rcases h with ⟨v, h⟩ | ⟨rfl, h⟩ <;> rcases g with ⟨u, g⟩ | ⟨rfl, g⟩
  · exact (h.one g).1
  · exact absurd h (g _ _)
  · exact absurd g (h _ _)
  · rfl
theorem size_ch (s : ByteArray) (i n v : Nat) (w : World) (hi : i < s.size) (hs : s.size ≤ 1000000000) (h : Ch s i n v) :
    Calls Tryd.prog 27 #[.string s, .int .i64 i] w fun e w' => e = .returned (.int .i64 n) ∧ w = w' :=
  (size_any s i w hi hs).mono fun _ _ ⟨_, he, hr, hw⟩ => ⟨by rw [he, hr.one (.inl ⟨v, h⟩)], hw⟩
theorem size_no (s : ByteArray) (i : Nat) (w : World) (hi : i < s.size) (hs : s.size ≤ 1000000000) (h : ∀ n v, ¬ Ch s i n v) :
    Calls Tryd.prog 27 #[.string s, .int .i64 i] w fun e w' => e = .returned (.int .i64 0) ∧ w = w' :=
  (size_any s i w hi hs).mono fun _ _ ⟨_, he, hr, hw⟩ => ⟨by rw [he, hr.one (.inr ⟨rfl, h⟩)]; rfl, hw⟩
end Go.Proofs.YtfhkahnajjbohaaDoor
