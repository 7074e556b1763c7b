/-
  fill.
-/
import Derived.Test.YtbmcgmnmmnileaaJ
namespace Go.Proofs.Ytbmcgmnmmnileaa
open Go.RowKit Go.Shelf

/-- split, where the last piece begins. -/
theorem cut_last (w : World) (b : Nat) (t : T) (hA : At w b t) (ho : t.Ok) (hs : t.size ≤ 100000) :
    Calls Try.prog 29 #[.pointer (some ⟨b, 0, none⟩), .int .i64 ((t.size : Int) - t.last.size)] w fun e w' => ∃ (u : Value) (v : Option Addr) (lo : Option T) (h x : ByteArray), e = .returned (.agg #[u, .string h, .string x, .pointer v]) ∧ AtO w' u lo ∧ OkO lo ∧ t.text = textO lo ++ t.last.data.toList ∧ Below w.heap.size w w' := by
  have hl := T.last_size t ho
  have hB := T.Bd.last t ho
  rw [show (t.size : Int) - t.last.size = ((t.size - t.last.size : Nat) : Int) by omega]
  refine Calls.mono (split_some t w b _ hA ho (by omega) hs) ?_
  rintro e w' ⟨u, v, lo, ro, h, x, rfl, h1, h2, h3, h4, h5, h6, h7, h8⟩
  obtain ⟨a1, a2⟩ := h7 hB
  obtain ⟨pv, rfl⟩ := h2.ptr
  refine ⟨u, pv, lo, h, x, rfl, h1, h3, ?_, h8⟩
  obtain ⟨y, hy⟩ := T.last_text t
  have e1 : h.data.toList = [] := List.eq_nil_of_length_eq_zero (by rw [← Lib.size_eq]; exact a1)
  have e2 : x.data.toList = [] := List.eq_nil_of_length_eq_zero (by rw [← Lib.size_eq]; exact a2)
  rw [e1, e2, List.nil_append, List.nil_append] at h5
  have e3 := T.size_text t
  rw [hy, List.length_append, ← Lib.size_eq] at e3
  have e4 := h5.symm.trans hy
  have e5 := List.append_inj e4 (by omega)
  rw [h5, e5.2]
/-- split, where the first piece ends. -/
theorem cut_first (w : World) (b : Nat) (t : T) (hA : At w b t) (ho : t.Ok) (hs : t.size ≤ 100000) :
    Calls Try.prog 29 #[.pointer (some ⟨b, 0, none⟩), .int .i64 (t.first.size : Nat)] w fun e w' => ∃ (u : Option Addr) (v : Value) (ro : Option T) (h x : ByteArray), e = .returned (.agg #[.pointer u, .string h, .string x, v]) ∧ AtO w' v ro ∧ OkO ro ∧ t.text = t.first.data.toList ++ textO ro ∧ Below w.heap.size w w' := by
  have hl := T.first_size t ho
  have hB := T.Bd.first t ho
  refine Calls.mono (split_some t w b _ hA ho (by omega) hs) ?_
  rintro e w' ⟨u, v, lo, ro, h, x, rfl, h1, h2, h3, h4, h5, h6, h7, h8⟩
  obtain ⟨a1, a2⟩ := h7 hB
  obtain ⟨pu, rfl⟩ := h1.ptr
  refine ⟨pu, v, ro, h, x, rfl, h2, h4, ?_, h8⟩
  obtain ⟨y, hy⟩ := T.first_text t
  have e1 : h.data.toList = [] := List.eq_nil_of_length_eq_zero (by rw [← Lib.size_eq]; exact a1)
  have e2 : x.data.toList = [] := List.eq_nil_of_length_eq_zero (by rw [← Lib.size_eq]; exact a2)
  rw [e1, e2, List.nil_append, List.nil_append] at h5
  have e4 := h5.symm.trans hy
  have e6 : t.first.data.toList.length = t.first.size := (Lib.size_eq _).symm
  have e5 := List.append_inj e4 (by omega)
  rw [h5, e5.1]
theorem fld0 (u v : Option Addr) (h x : ByteArray) (w : World) : (Instr.field 61 (.agg #[.pointer u, .string h, .string x, .pointer v]) 0).run Try.prog w = .ok (.pointer u) w := by kernel_rfl
theorem fld3 (u v : Option Addr) (h x : ByteArray) (w : World) : (Instr.field 61 (.agg #[.pointer u, .string h, .string x, .pointer v]) 3).run Try.prog w = .ok (.pointer v) w := by kernel_rfl
theorem lastN_le (n : Nat) : lastN n ≤ 256 := by unfold lastN; split <;> omega

theorem firstO_le (o : Option T) (h : OkO o) : (firstO o).size ≤ (textO o).length := by
  cases o with
  | none => exact Nat.zero_le _
  | some t => show t.first.size ≤ t.text.length; rw [T.size_text]; exact (T.first_size t h).2
theorem lastO_le (o : Option T) (h : OkO o) : (lastO o).size ≤ (textO o).length := by
  cases o with
  | none => exact Nat.zero_le _
  | some t => show t.last.size ≤ t.text.length; rw [T.size_text]; exact (T.last_size t h).2
/-- What fill makes. -/
def Filled (w : World) (x : List UInt8) (e : Ending) (w' : World) : Prop :=
  ∃ z o, e = .returned z ∧ AtO w' z o ∧ OkO o ∧ textO o = x ∧ Below w.heap.size w w'

set_option maxRecDepth 100000 in
set_option maxHeartbeats 2000000 in
theorem fill_y_y (w : World) (bl : Nat) (tl : T) (s : ByteArray) (br : Nat) (tr : T) (hl : At w bl tl) (okl : tl.Ok) (hr : At w br tr) (okr : tr.Ok) (hs : (textO (some tl)).length + (s.size + (textO (some tr)).length) ≤ 70000) (hA : tl.last.size + s.size ≤ 256) (hB : lastN (tl.last.size + s.size) + tr.first.size ≤ 256) :
    Calls Try.prog 30 #[(.pointer (some ⟨bl, 0, none⟩)), .string s, (.pointer (some ⟨br, 0, none⟩))] w (Filled w (textO (some tl) ++ (s.data.toList ++ textO (some tr)))) := by
  have cl := fun w' => last_any w' (.pointer (some ⟨bl, 0, none⟩)) (some tl)
  have cf := fun w' => first_any w' (.pointer (some ⟨br, 0, none⟩)) (some tr)
  have cs := fun w' h => cut_last w' bl tl h okl (by have : (textO (some tl)).length = tl.size := T.size_text tl; omega)
  have lz := T.last_size tl okl
  obtain ⟨a0, _, _⟩ := hl.cells
  have HX : (textO (some tl)).length = tl.size := T.size_text tl
  have he := isEmpty_no lz.1
  have ct := fun w' h => cut_first w' br tr h okr (by have : (textO (some tr)).length = tr.size := T.size_text tr; omega)
  have fz := T.first_size tr okr
  have HY : (textO (some tr)).length = tr.size := T.size_text tr
  have hf := isEmpty_no fz.1
  have bs : s.size ≤ 70000 := by omega
  have Hl := Lib.hid hl
  replace cl : ∀ w', At w' bl tl → Calls Try.prog 43 #[.pointer (some ⟨bl, 0, none⟩)] w' fun e w1 => e = .returned (.string tl.last) ∧ w' = w1 := fun w' h => cl w' ⟨bl, rfl, h⟩
  obtain ⟨LP, hLP⟩ : ∃ x, tl.last = x := ⟨_, rfl⟩
  rw [hLP] at cl lz he hA
  simp only [hLP] at cs
  rw [hLP] at hB
  have Hr := Lib.hid hr
  replace cf : ∀ w', At w' br tr → Calls Try.prog 44 #[.pointer (some ⟨br, 0, none⟩)] w' fun e w1 => e = .returned (.string tr.first) ∧ w' = w1 := fun w' h => cf w' ⟨br, rfl, h⟩
  obtain ⟨FP, hFP⟩ : ∃ x, tr.first = x := ⟨_, rfl⟩
  rw [hFP] at cf fz hf hB
  simp only [hFP] at ct
  obtain ⟨s1, hs1⟩ : ∃ x, LP ++ s = x := ⟨_, rfl⟩
  have z1 : s1.size = LP.size + s.size := by rw [← hs1]; exact ByteArray.size_append
  have e1 : s1.data.toList = LP.data.toList ++ s.data.toList := by rw [← hs1]; simp
  rw [← z1] at hB
  have cn := fun w' => lastSize_any s1 w' (by omega)
  have kn := lastN_le s1.size
  obtain ⟨N, hN⟩ : ∃ x, lastN s1.size = x := ⟨_, rfl⟩
  rw [hN] at kn
  simp only [hN] at cn
  rw [hN] at hB
  obtain ⟨s2, hs2⟩ : ∃ x, s1 ++ FP = x := ⟨_, rfl⟩
  have z2 : s2.size = s1.size + FP.size := by rw [← hs2]; exact ByteArray.size_append
  have e2 : s2.data.toList = s1.data.toList ++ FP.data.toList := by rw [← hs2]; simp
  have cb := fun w' => build_any s2 w' (by omega)
  have Q1 := Lib.hid hLP
  have Q3 := Lib.hid e1
  have hsub : IntKind.i64.wrap ((tl.size : Int) - (LP.size : Int)) = (tl.size : Int) - (LP.size : Int) := IntWalk.i64_in _ (by omega)
  have hA' : (LP.size : Int) + (s.size : Int) ≤ 256 := by omega
  have HS := Lib.hid hs
  have HXX := Lib.hid HX
  have HYY := Lib.hid HY
  have Q2 := Lib.hid hFP
  have Q4 := Lib.hid e2
  have hB' : (N : Int) + (FP.size : Int) ≤ 256 := by omega
  clear hl hr hLP e1 HX hs hFP e2 HY
  have hfa := fld0
  have hfb := fld3
  go_enter Try.func30, Try.ntmps30
  go_wp2_with fail
  refine (cl w Hl.out).mono ?_
  rintro e w1 ⟨rfl, rfl⟩
  go_wp2_with fail
  refine (cs w Hl.out).mono ?_
  rintro e w1 ⟨u, v, lo, ha, xa, rfl, hu, ou, hx, hb1⟩
  obtain ⟨pu, rfl⟩ := hu.ptr
  have HU := Lib.hid hu
  have HXU := Lib.hid hx
  clear hu hx
  have hr1 := Lib.hid (Hr.out.below (Nat.le_refl _) hb1)
  go_wp2_with fail
  refine (cf _ hr1.out).mono ?_
  rintro e w2 ⟨rfl, rfl⟩
  go_wp2_with fail
  refine (cn _).mono ?_
  rintro e w2 ⟨rfl, rfl⟩
  go_wp2_with fail
  refine (ct _ hr1.out).mono ?_
  rintro e w2 ⟨u2, v2, ro, hb_, xb_, rfl, hv, ov, hy, hb2⟩
  obtain ⟨pv, rfl⟩ := hv.ptr
  have HV := Lib.hid hv
  have HYV := Lib.hid hy
  clear hv hy
  have hb12 := hb1.trans (hb2.mono hb1.size)
  go_wp2_with fail
  refine (cb _).mono ?_
  rintro e w3 ⟨z1_, o1, rfl, k1, k2, k3, hb3⟩
  obtain ⟨p1, rfl⟩ := k1.ptr
  have K1 := Lib.hid k1
  have K3 := Lib.hid k3
  clear k1 k3
  go_wp2_with fail
  have HLEN : Hid ((textO lo).length + ((textO o1).length + (textO ro).length) ≤ 70000 ∧ textO lo ++ (textO o1 ++ textO ro) = textO (some tl) ++ (s.data.toList ++ textO (some tr))) := Lib.hid (by
    have t0 : textO lo ++ (textO o1 ++ textO ro) = textO (some tl) ++ (s.data.toList ++ textO (some tr)) := by
      rw [K3.out]
      show _ = tl.text ++ (s.data.toList ++ tr.text)
      rw [HXU.out, HYV.out, Q4.out, Q3.out]
      simp only [List.append_assoc]
    refine ⟨?_, t0⟩
    have t1 := congrArg List.length t0
    have t2 := HS.out
    rw [List.length_append, List.length_append, List.length_append, List.length_append, ← Lib.size_eq] at t1
    omega)
  refine (join_any _ (.pointer pu) (.pointer p1) lo o1 ((HU.out.below (Nat.le_refl _) hb2).below (Nat.le_refl _) hb3) K1.out ou k2 (by have := HLEN.out.1; omega)).mono ?_
  rintro e w4 ⟨z2_, o2, rfl, l1, l2, l3, hb4⟩
  obtain ⟨p2, rfl⟩ := l1.ptr
  have L1 := Lib.hid l1
  have L3 := Lib.hid l3
  clear l1 l3
  go_wp2_with fail
  refine (join_any _ (.pointer p2) (.pointer pv) o2 ro L1.out ((HV.out.below (Nat.le_refl _) hb3).below (Nat.le_refl _) hb4) l2 ov (by have := HLEN.out.1; rw [L3.out, List.length_append]; omega)).mono ?_
  rintro e w5 ⟨z3_, o3, rfl, m1, m2, m3, hb5⟩
  obtain ⟨p3, rfl⟩ := m1.ptr
  have M1 := Lib.hid m1
  have M3 := Lib.hid m3
  clear m1 m3
  go_wp2
  go_ret
  refine ⟨_, o3, rfl, M1.out, m2, by rw [M3.out, L3.out, List.append_assoc]; exact HLEN.out.2, ?_⟩
  have g2 := hb12.size
  have g3 := hb3.size
  have g4 := hb4.size
  exact hb12.trans ((hb3.mono (by omega)).trans ((hb4.mono (by omega)).trans (hb5.mono (by omega))))

set_option maxRecDepth 100000 in
set_option maxHeartbeats 2000000 in
theorem fill_y_e (w : World) (bl : Nat) (tl : T) (s : ByteArray) (vr : Value) (or : Option T) (hl : At w bl tl) (okl : tl.Ok) (hr : AtO w vr or) (okr : OkO or) (hs : (textO (some tl)).length + (s.size + (textO or).length) ≤ 70000) (hA : tl.last.size + s.size ≤ 256) (hB : (firstO or).size = 0) :
    Calls Try.prog 30 #[(.pointer (some ⟨bl, 0, none⟩)), .string s, vr] w (Filled w (textO (some tl) ++ (s.data.toList ++ textO or))) := by
  have cl := fun w' => last_any w' (.pointer (some ⟨bl, 0, none⟩)) (some tl)
  have cf := fun w' => first_any w' vr or
  have cs := fun w' h => cut_last w' bl tl h okl (by have : (textO (some tl)).length = tl.size := T.size_text tl; omega)
  have lz := T.last_size tl okl
  obtain ⟨a0, _, _⟩ := hl.cells
  have HX : (textO (some tl)).length = tl.size := T.size_text tl
  have he := isEmpty_no lz.1
  have hf := isEmpty_yes hB
  obtain ⟨pr, rfl⟩ := hr.ptr
  have bs : s.size ≤ 70000 := by omega
  have bF : (firstO or).size ≤ 70000 := by have := firstO_le or okr; omega
  have Hl := Lib.hid hl
  replace cl : ∀ w', At w' bl tl → Calls Try.prog 43 #[.pointer (some ⟨bl, 0, none⟩)] w' fun e w1 => e = .returned (.string tl.last) ∧ w' = w1 := fun w' h => cl w' ⟨bl, rfl, h⟩
  obtain ⟨LP, hLP⟩ : ∃ x, tl.last = x := ⟨_, rfl⟩
  rw [hLP] at cl lz he hA
  simp only [hLP] at cs
  have Hr := Lib.hid hr
  obtain ⟨FP, hFP⟩ : ∃ x, firstO or = x := ⟨_, rfl⟩
  simp only [hFP] at cf hf hB bF
  obtain ⟨s1, hs1⟩ : ∃ x, LP ++ s = x := ⟨_, rfl⟩
  have z1 : s1.size = LP.size + s.size := by rw [← hs1]; exact ByteArray.size_append
  have e1 : s1.data.toList = LP.data.toList ++ s.data.toList := by rw [← hs1]; simp
  have cn := fun w' => lastSize_any s1 w' (by omega)
  have kn := lastN_le s1.size
  obtain ⟨N, hN⟩ : ∃ x, lastN s1.size = x := ⟨_, rfl⟩
  rw [hN] at kn
  simp only [hN] at cn
  have cb := fun w' => build_any s1 w' (by omega)
  have Q1 := Lib.hid hLP
  have Q3 := Lib.hid e1
  have hsub : IntKind.i64.wrap ((tl.size : Int) - (LP.size : Int)) = (tl.size : Int) - (LP.size : Int) := IntWalk.i64_in _ (by omega)
  have hA' : (LP.size : Int) + (s.size : Int) ≤ 256 := by omega
  have HS := Lib.hid hs
  have HXX := Lib.hid HX
  clear hl hr hLP e1 HX hs
  have hfa := fld0
  go_enter Try.func30, Try.ntmps30
  go_wp2_with fail
  refine (cl w Hl.out).mono ?_
  rintro e w1 ⟨rfl, rfl⟩
  go_wp2_with fail
  refine (cs w Hl.out).mono ?_
  rintro e w1 ⟨u, v, lo, ha, xa, rfl, hu, ou, hx, hb1⟩
  obtain ⟨pu, rfl⟩ := hu.ptr
  have HU := Lib.hid hu
  have HXU := Lib.hid hx
  clear hu hx
  have hr1 := Lib.hid (Hr.out.below (Nat.le_refl _) hb1)
  go_wp2_with fail
  refine (cf _ hr1.out).mono ?_
  rintro e w2 ⟨rfl, rfl⟩
  have hb2 := Below.refl w1.heap.size w1
  have hb12 := hb1.trans (hb2.mono hb1.size)
  go_wp2_with fail
  refine (cb _).mono ?_
  rintro e w3 ⟨z1_, o1, rfl, k1, k2, k3, hb3⟩
  obtain ⟨p1, rfl⟩ := k1.ptr
  have K1 := Lib.hid k1
  have K3 := Lib.hid k3
  clear k1 k3
  go_wp2_with fail
  have HLEN : Hid ((textO lo).length + ((textO o1).length + (textO or).length) ≤ 70000 ∧ textO lo ++ (textO o1 ++ textO or) = textO (some tl) ++ (s.data.toList ++ textO or)) := Lib.hid (by
    have t0 : textO lo ++ (textO o1 ++ textO or) = textO (some tl) ++ (s.data.toList ++ textO or) := by
      rw [K3.out]
      show _ = tl.text ++ _
      rw [HXU.out, Q3.out]
      simp only [List.append_assoc]
    refine ⟨?_, t0⟩
    have t1 := congrArg List.length t0
    have t2 := HS.out
    rw [List.length_append, List.length_append, List.length_append, List.length_append, ← Lib.size_eq] at t1
    omega)
  refine (join_any _ (.pointer pu) (.pointer p1) lo o1 ((HU.out.below (Nat.le_refl _) hb2).below (Nat.le_refl _) hb3) K1.out ou k2 (by have := HLEN.out.1; omega)).mono ?_
  rintro e w4 ⟨z2_, o2, rfl, l1, l2, l3, hb4⟩
  obtain ⟨p2, rfl⟩ := l1.ptr
  have L1 := Lib.hid l1
  have L3 := Lib.hid l3
  clear l1 l3
  go_wp2_with fail
  refine (join_any _ (.pointer p2) (.pointer pr) o2 or L1.out (((hr1.out.below (Nat.le_refl _) hb2).below (Nat.le_refl _) hb3).below (Nat.le_refl _) hb4) l2 okr (by have := HLEN.out.1; rw [L3.out, List.length_append]; omega)).mono ?_
  rintro e w5 ⟨z3_, o3, rfl, m1, m2, m3, hb5⟩
  obtain ⟨p3, rfl⟩ := m1.ptr
  have M1 := Lib.hid m1
  have M3 := Lib.hid m3
  clear m1 m3
  go_wp2
  go_ret
  refine ⟨_, o3, rfl, M1.out, m2, by rw [M3.out, L3.out, List.append_assoc]; exact HLEN.out.2, ?_⟩
  have g2 := hb12.size
  have g3 := hb3.size
  have g4 := hb4.size
  exact hb12.trans ((hb3.mono (by omega)).trans ((hb4.mono (by omega)).trans (hb5.mono (by omega))))

set_option maxRecDepth 100000 in
set_option maxHeartbeats 2000000 in
theorem fill_y_n (w : World) (bl : Nat) (tl : T) (s : ByteArray) (vr : Value) (or : Option T) (hl : At w bl tl) (okl : tl.Ok) (hr : AtO w vr or) (okr : OkO or) (hs : (textO (some tl)).length + (s.size + (textO or).length) ≤ 70000) (hA : tl.last.size + s.size ≤ 256) (hB0 : 0 < (firstO or).size) (hB : 256 < lastN (tl.last.size + s.size) + (firstO or).size) :
    Calls Try.prog 30 #[(.pointer (some ⟨bl, 0, none⟩)), .string s, vr] w (Filled w (textO (some tl) ++ (s.data.toList ++ textO or))) := by
  have cl := fun w' => last_any w' (.pointer (some ⟨bl, 0, none⟩)) (some tl)
  have cf := fun w' => first_any w' vr or
  have cs := fun w' h => cut_last w' bl tl h okl (by have : (textO (some tl)).length = tl.size := T.size_text tl; omega)
  have lz := T.last_size tl okl
  obtain ⟨a0, _, _⟩ := hl.cells
  have HX : (textO (some tl)).length = tl.size := T.size_text tl
  have he := isEmpty_no lz.1
  have hf := isEmpty_no hB0
  obtain ⟨pr, rfl⟩ := hr.ptr
  have bs : s.size ≤ 70000 := by omega
  have bF : (firstO or).size ≤ 70000 := by have := firstO_le or okr; omega
  have Hl := Lib.hid hl
  replace cl : ∀ w', At w' bl tl → Calls Try.prog 43 #[.pointer (some ⟨bl, 0, none⟩)] w' fun e w1 => e = .returned (.string tl.last) ∧ w' = w1 := fun w' h => cl w' ⟨bl, rfl, h⟩
  obtain ⟨LP, hLP⟩ : ∃ x, tl.last = x := ⟨_, rfl⟩
  rw [hLP] at cl lz he hA
  simp only [hLP] at cs
  rw [hLP] at hB
  have Hr := Lib.hid hr
  obtain ⟨FP, hFP⟩ : ∃ x, firstO or = x := ⟨_, rfl⟩
  simp only [hFP] at cf hf hB bF
  rw [hFP] at hB0
  obtain ⟨s1, hs1⟩ : ∃ x, LP ++ s = x := ⟨_, rfl⟩
  have z1 : s1.size = LP.size + s.size := by rw [← hs1]; exact ByteArray.size_append
  have e1 : s1.data.toList = LP.data.toList ++ s.data.toList := by rw [← hs1]; simp
  rw [← z1] at hB
  have cn := fun w' => lastSize_any s1 w' (by omega)
  have kn := lastN_le s1.size
  obtain ⟨N, hN⟩ : ∃ x, lastN s1.size = x := ⟨_, rfl⟩
  rw [hN] at kn
  simp only [hN] at cn
  rw [hN] at hB
  have cb := fun w' => build_any s1 w' (by omega)
  have Q1 := Lib.hid hLP
  have Q3 := Lib.hid e1
  have hsub : IntKind.i64.wrap ((tl.size : Int) - (LP.size : Int)) = (tl.size : Int) - (LP.size : Int) := IntWalk.i64_in _ (by omega)
  have hA' : (LP.size : Int) + (s.size : Int) ≤ 256 := by omega
  have HS := Lib.hid hs
  have HXX := Lib.hid HX
  have hB' : (256 : Int) < (N : Int) + (FP.size : Int) := by omega
  clear hl hr hLP e1 HX hs
  have hfa := fld0
  go_enter Try.func30, Try.ntmps30
  go_wp2_with fail
  refine (cl w Hl.out).mono ?_
  rintro e w1 ⟨rfl, rfl⟩
  go_wp2_with fail
  refine (cs w Hl.out).mono ?_
  rintro e w1 ⟨u, v, lo, ha, xa, rfl, hu, ou, hx, hb1⟩
  obtain ⟨pu, rfl⟩ := hu.ptr
  have HU := Lib.hid hu
  have HXU := Lib.hid hx
  clear hu hx
  have hr1 := Lib.hid (Hr.out.below (Nat.le_refl _) hb1)
  go_wp2_with fail
  refine (cf _ hr1.out).mono ?_
  rintro e w2 ⟨rfl, rfl⟩
  go_wp2_with fail
  refine (cn _).mono ?_
  rintro e w2 ⟨rfl, rfl⟩
  have hb2 := Below.refl w1.heap.size w1
  have hb12 := hb1.trans (hb2.mono hb1.size)
  go_wp2_with fail
  refine (cb _).mono ?_
  rintro e w3 ⟨z1_, o1, rfl, k1, k2, k3, hb3⟩
  obtain ⟨p1, rfl⟩ := k1.ptr
  have K1 := Lib.hid k1
  have K3 := Lib.hid k3
  clear k1 k3
  go_wp2_with fail
  have HLEN : Hid ((textO lo).length + ((textO o1).length + (textO or).length) ≤ 70000 ∧ textO lo ++ (textO o1 ++ textO or) = textO (some tl) ++ (s.data.toList ++ textO or)) := Lib.hid (by
    have t0 : textO lo ++ (textO o1 ++ textO or) = textO (some tl) ++ (s.data.toList ++ textO or) := by
      rw [K3.out]
      show _ = tl.text ++ _
      rw [HXU.out, Q3.out]
      simp only [List.append_assoc]
    refine ⟨?_, t0⟩
    have t1 := congrArg List.length t0
    have t2 := HS.out
    rw [List.length_append, List.length_append, List.length_append, List.length_append, ← Lib.size_eq] at t1
    omega)
  refine (join_any _ (.pointer pu) (.pointer p1) lo o1 ((HU.out.below (Nat.le_refl _) hb2).below (Nat.le_refl _) hb3) K1.out ou k2 (by have := HLEN.out.1; omega)).mono ?_
  rintro e w4 ⟨z2_, o2, rfl, l1, l2, l3, hb4⟩
  obtain ⟨p2, rfl⟩ := l1.ptr
  have L1 := Lib.hid l1
  have L3 := Lib.hid l3
  clear l1 l3
  go_wp2_with fail
  refine (join_any _ (.pointer p2) (.pointer pr) o2 or L1.out (((hr1.out.below (Nat.le_refl _) hb2).below (Nat.le_refl _) hb3).below (Nat.le_refl _) hb4) l2 okr (by have := HLEN.out.1; rw [L3.out, List.length_append]; omega)).mono ?_
  rintro e w5 ⟨z3_, o3, rfl, m1, m2, m3, hb5⟩
  obtain ⟨p3, rfl⟩ := m1.ptr
  have M1 := Lib.hid m1
  have M3 := Lib.hid m3
  clear m1 m3
  go_wp2
  go_ret
  refine ⟨_, o3, rfl, M1.out, m2, by rw [M3.out, L3.out, List.append_assoc]; exact HLEN.out.2, ?_⟩
  have g2 := hb12.size
  have g3 := hb3.size
  have g4 := hb4.size
  exact hb12.trans ((hb3.mono (by omega)).trans ((hb4.mono (by omega)).trans (hb5.mono (by omega))))

set_option maxRecDepth 100000 in
set_option maxHeartbeats 2000000 in
theorem fill_e_y (w : World) (vl : Value) (ol : Option T) (s : ByteArray) (br : Nat) (tr : T) (hl : AtO w vl ol) (okl : OkO ol) (hr : At w br tr) (okr : tr.Ok) (hs : (textO ol).length + (s.size + (textO (some tr)).length) ≤ 70000) (hA : (lastO ol).size = 0) (hB : lastN s.size + tr.first.size ≤ 256) :
    Calls Try.prog 30 #[vl, .string s, (.pointer (some ⟨br, 0, none⟩))] w (Filled w (textO ol ++ (s.data.toList ++ textO (some tr)))) := by
  have cl := fun w' => last_any w' vl ol
  have cf := fun w' => first_any w' (.pointer (some ⟨br, 0, none⟩)) (some tr)
  have he := isEmpty_yes hA
  have ct := fun w' h => cut_first w' br tr h okr (by have : (textO (some tr)).length = tr.size := T.size_text tr; omega)
  have fz := T.first_size tr okr
  have HY : (textO (some tr)).length = tr.size := T.size_text tr
  have hf := isEmpty_no fz.1
  obtain ⟨pl, rfl⟩ := hl.ptr
  have bs : s.size ≤ 70000 := by omega
  have bL : (lastO ol).size ≤ 70000 := by have := lastO_le ol okl; omega
  have Hl := Lib.hid hl
  obtain ⟨LP, hLP⟩ : ∃ x, lastO ol = x := ⟨_, rfl⟩
  simp only [hLP] at cl he hA bL
  have Hr := Lib.hid hr
  replace cf : ∀ w', At w' br tr → Calls Try.prog 44 #[.pointer (some ⟨br, 0, none⟩)] w' fun e w1 => e = .returned (.string tr.first) ∧ w' = w1 := fun w' h => cf w' ⟨br, rfl, h⟩
  obtain ⟨FP, hFP⟩ : ∃ x, tr.first = x := ⟨_, rfl⟩
  rw [hFP] at cf fz hf hB
  simp only [hFP] at ct
  have cn := fun w' => lastSize_any s w' (by omega)
  have kn := lastN_le s.size
  obtain ⟨N, hN⟩ : ∃ x, lastN s.size = x := ⟨_, rfl⟩
  rw [hN] at kn
  simp only [hN] at cn
  rw [hN] at hB
  obtain ⟨s2, hs2⟩ : ∃ x, s ++ FP = x := ⟨_, rfl⟩
  have z2 : s2.size = s.size + FP.size := by rw [← hs2]; exact ByteArray.size_append
  have e2 : s2.data.toList = s.data.toList ++ FP.data.toList := by rw [← hs2]; simp
  have cb := fun w' => build_any s2 w' (by omega)
  have HS := Lib.hid hs
  have HYY := Lib.hid HY
  have Q2 := Lib.hid hFP
  have Q4 := Lib.hid e2
  have hB' : (N : Int) + (FP.size : Int) ≤ 256 := by omega
  clear hl hr hs hFP e2 HY
  have hfb := fld3
  go_enter Try.func30, Try.ntmps30
  go_wp2_with fail
  refine (cl w Hl.out).mono ?_
  rintro e w1 ⟨rfl, rfl⟩
  have hb1 := Below.refl w.heap.size w
  have hr1 := Lib.hid Hr.out
  go_wp2_with fail
  refine (cf _ hr1.out).mono ?_
  rintro e w2 ⟨rfl, rfl⟩
  go_wp2_with fail
  refine (cn _).mono ?_
  rintro e w2 ⟨rfl, rfl⟩
  go_wp2_with fail
  refine (ct _ hr1.out).mono ?_
  rintro e w2 ⟨u2, v2, ro, hb_, xb_, rfl, hv, ov, hy, hb2⟩
  obtain ⟨pv, rfl⟩ := hv.ptr
  have HV := Lib.hid hv
  have HYV := Lib.hid hy
  clear hv hy
  have hb12 := hb1.trans (hb2.mono hb1.size)
  go_wp2_with fail
  refine (cb _).mono ?_
  rintro e w3 ⟨z1_, o1, rfl, k1, k2, k3, hb3⟩
  obtain ⟨p1, rfl⟩ := k1.ptr
  have K1 := Lib.hid k1
  have K3 := Lib.hid k3
  clear k1 k3
  go_wp2_with fail
  have HLEN : Hid ((textO ol).length + ((textO o1).length + (textO ro).length) ≤ 70000 ∧ textO ol ++ (textO o1 ++ textO ro) = textO ol ++ (s.data.toList ++ textO (some tr))) := Lib.hid (by
    have t0 : textO ol ++ (textO o1 ++ textO ro) = textO ol ++ (s.data.toList ++ textO (some tr)) := by
      rw [K3.out]
      show _ = _ ++ (_ ++ tr.text)
      rw [HYV.out, Q4.out]
      simp only [List.append_assoc]
    refine ⟨?_, t0⟩
    have t1 := congrArg List.length t0
    have t2 := HS.out
    rw [List.length_append, List.length_append, List.length_append, List.length_append, ← Lib.size_eq] at t1
    omega)
  refine (join_any _ (.pointer pl) (.pointer p1) ol o1 (((Hl.out.below (Nat.le_refl _) hb1).below (Nat.le_refl _) hb2).below (Nat.le_refl _) hb3) K1.out okl k2 (by have := HLEN.out.1; omega)).mono ?_
  rintro e w4 ⟨z2_, o2, rfl, l1, l2, l3, hb4⟩
  obtain ⟨p2, rfl⟩ := l1.ptr
  have L1 := Lib.hid l1
  have L3 := Lib.hid l3
  clear l1 l3
  go_wp2_with fail
  refine (join_any _ (.pointer p2) (.pointer pv) o2 ro L1.out ((HV.out.below (Nat.le_refl _) hb3).below (Nat.le_refl _) hb4) l2 ov (by have := HLEN.out.1; rw [L3.out, List.length_append]; omega)).mono ?_
  rintro e w5 ⟨z3_, o3, rfl, m1, m2, m3, hb5⟩
  obtain ⟨p3, rfl⟩ := m1.ptr
  have M1 := Lib.hid m1
  have M3 := Lib.hid m3
  clear m1 m3
  go_wp2
  go_ret
  refine ⟨_, o3, rfl, M1.out, m2, by rw [M3.out, L3.out, List.append_assoc]; exact HLEN.out.2, ?_⟩
  have g2 := hb12.size
  have g3 := hb3.size
  have g4 := hb4.size
  exact hb12.trans ((hb3.mono (by omega)).trans ((hb4.mono (by omega)).trans (hb5.mono (by omega))))

set_option maxRecDepth 100000 in
set_option maxHeartbeats 2000000 in
theorem fill_e_e (w : World) (vl : Value) (ol : Option T) (s : ByteArray) (vr : Value) (or : Option T) (hl : AtO w vl ol) (okl : OkO ol) (hr : AtO w vr or) (okr : OkO or) (hs : (textO ol).length + (s.size + (textO or).length) ≤ 70000) (hA : (lastO ol).size = 0) (hB : (firstO or).size = 0) :
    Calls Try.prog 30 #[vl, .string s, vr] w (Filled w (textO ol ++ (s.data.toList ++ textO or))) := by
  have cl := fun w' => last_any w' vl ol
  have cf := fun w' => first_any w' vr or
  have he := isEmpty_yes hA
  have hf := isEmpty_yes hB
  obtain ⟨pl, rfl⟩ := hl.ptr
  obtain ⟨pr, rfl⟩ := hr.ptr
  have bs : s.size ≤ 70000 := by omega
  have bL : (lastO ol).size ≤ 70000 := by have := lastO_le ol okl; omega
  have bF : (firstO or).size ≤ 70000 := by have := firstO_le or okr; omega
  have Hl := Lib.hid hl
  obtain ⟨LP, hLP⟩ : ∃ x, lastO ol = x := ⟨_, rfl⟩
  simp only [hLP] at cl he hA bL
  have Hr := Lib.hid hr
  obtain ⟨FP, hFP⟩ : ∃ x, firstO or = x := ⟨_, rfl⟩
  simp only [hFP] at cf hf hB bF
  have cn := fun w' => lastSize_any s w' (by omega)
  have kn := lastN_le s.size
  obtain ⟨N, hN⟩ : ∃ x, lastN s.size = x := ⟨_, rfl⟩
  rw [hN] at kn
  simp only [hN] at cn
  have cb := fun w' => build_any s w' (by omega)
  have HS := Lib.hid hs
  clear hl hr hs
  go_enter Try.func30, Try.ntmps30
  go_wp2_with fail
  refine (cl w Hl.out).mono ?_
  rintro e w1 ⟨rfl, rfl⟩
  have hb1 := Below.refl w.heap.size w
  have hr1 := Lib.hid Hr.out
  go_wp2_with fail
  refine (cf _ hr1.out).mono ?_
  rintro e w2 ⟨rfl, rfl⟩
  have hb2 := Below.refl w.heap.size w
  have hb12 := hb1.trans (hb2.mono hb1.size)
  go_wp2_with fail
  refine (cb _).mono ?_
  rintro e w3 ⟨z1_, o1, rfl, k1, k2, k3, hb3⟩
  obtain ⟨p1, rfl⟩ := k1.ptr
  have K1 := Lib.hid k1
  have K3 := Lib.hid k3
  clear k1 k3
  go_wp2_with fail
  have HLEN : Hid ((textO ol).length + ((textO o1).length + (textO or).length) ≤ 70000 ∧ textO ol ++ (textO o1 ++ textO or) = textO ol ++ (s.data.toList ++ textO or)) := Lib.hid (by
    have t0 : textO ol ++ (textO o1 ++ textO or) = textO ol ++ (s.data.toList ++ textO or) := by
      rw [K3.out]
    refine ⟨?_, t0⟩
    have t1 := congrArg List.length t0
    have t2 := HS.out
    rw [List.length_append, List.length_append, List.length_append, List.length_append, ← Lib.size_eq] at t1
    omega)
  refine (join_any _ (.pointer pl) (.pointer p1) ol o1 (((Hl.out.below (Nat.le_refl _) hb1).below (Nat.le_refl _) hb2).below (Nat.le_refl _) hb3) K1.out okl k2 (by have := HLEN.out.1; omega)).mono ?_
  rintro e w4 ⟨z2_, o2, rfl, l1, l2, l3, hb4⟩
  obtain ⟨p2, rfl⟩ := l1.ptr
  have L1 := Lib.hid l1
  have L3 := Lib.hid l3
  clear l1 l3
  go_wp2_with fail
  refine (join_any _ (.pointer p2) (.pointer pr) o2 or L1.out (((hr1.out.below (Nat.le_refl _) hb2).below (Nat.le_refl _) hb3).below (Nat.le_refl _) hb4) l2 okr (by have := HLEN.out.1; rw [L3.out, List.length_append]; omega)).mono ?_
  rintro e w5 ⟨z3_, o3, rfl, m1, m2, m3, hb5⟩
  obtain ⟨p3, rfl⟩ := m1.ptr
  have M1 := Lib.hid m1
  have M3 := Lib.hid m3
  clear m1 m3
  go_wp2
  go_ret
  refine ⟨_, o3, rfl, M1.out, m2, by rw [M3.out, L3.out, List.append_assoc]; exact HLEN.out.2, ?_⟩
  have g2 := hb12.size
  have g3 := hb3.size
  have g4 := hb4.size
  exact hb12.trans ((hb3.mono (by omega)).trans ((hb4.mono (by omega)).trans (hb5.mono (by omega))))

set_option maxRecDepth 100000 in
set_option maxHeartbeats 2000000 in
theorem fill_e_n (w : World) (vl : Value) (ol : Option T) (s : ByteArray) (vr : Value) (or : Option T) (hl : AtO w vl ol) (okl : OkO ol) (hr : AtO w vr or) (okr : OkO or) (hs : (textO ol).length + (s.size + (textO or).length) ≤ 70000) (hA : (lastO ol).size = 0) (hB0 : 0 < (firstO or).size) (hB : 256 < lastN s.size + (firstO or).size) :
    Calls Try.prog 30 #[vl, .string s, vr] w (Filled w (textO ol ++ (s.data.toList ++ textO or))) := by
  have cl := fun w' => last_any w' vl ol
  have cf := fun w' => first_any w' vr or
  have he := isEmpty_yes hA
  have hf := isEmpty_no hB0
  obtain ⟨pl, rfl⟩ := hl.ptr
  obtain ⟨pr, rfl⟩ := hr.ptr
  have bs : s.size ≤ 70000 := by omega
  have bL : (lastO ol).size ≤ 70000 := by have := lastO_le ol okl; omega
  have bF : (firstO or).size ≤ 70000 := by have := firstO_le or okr; omega
  have Hl := Lib.hid hl
  obtain ⟨LP, hLP⟩ : ∃ x, lastO ol = x := ⟨_, rfl⟩
  simp only [hLP] at cl he hA bL
  have Hr := Lib.hid hr
  obtain ⟨FP, hFP⟩ : ∃ x, firstO or = x := ⟨_, rfl⟩
  simp only [hFP] at cf hf hB bF
  rw [hFP] at hB0
  have cn := fun w' => lastSize_any s w' (by omega)
  have kn := lastN_le s.size
  obtain ⟨N, hN⟩ : ∃ x, lastN s.size = x := ⟨_, rfl⟩
  rw [hN] at kn
  simp only [hN] at cn
  rw [hN] at hB
  have cb := fun w' => build_any s w' (by omega)
  have HS := Lib.hid hs
  have hB' : (256 : Int) < (N : Int) + (FP.size : Int) := by omega
  clear hl hr hs
  go_enter Try.func30, Try.ntmps30
  go_wp2_with fail
  refine (cl w Hl.out).mono ?_
  rintro e w1 ⟨rfl, rfl⟩
  have hb1 := Below.refl w.heap.size w
  have hr1 := Lib.hid Hr.out
  go_wp2_with fail
  refine (cf _ hr1.out).mono ?_
  rintro e w2 ⟨rfl, rfl⟩
  go_wp2_with fail
  refine (cn _).mono ?_
  rintro e w2 ⟨rfl, rfl⟩
  have hb2 := Below.refl w.heap.size w
  have hb12 := hb1.trans (hb2.mono hb1.size)
  go_wp2_with fail
  refine (cb _).mono ?_
  rintro e w3 ⟨z1_, o1, rfl, k1, k2, k3, hb3⟩
  obtain ⟨p1, rfl⟩ := k1.ptr
  have K1 := Lib.hid k1
  have K3 := Lib.hid k3
  clear k1 k3
  go_wp2_with fail
  have HLEN : Hid ((textO ol).length + ((textO o1).length + (textO or).length) ≤ 70000 ∧ textO ol ++ (textO o1 ++ textO or) = textO ol ++ (s.data.toList ++ textO or)) := Lib.hid (by
    have t0 : textO ol ++ (textO o1 ++ textO or) = textO ol ++ (s.data.toList ++ textO or) := by
      rw [K3.out]
    refine ⟨?_, t0⟩
    have t1 := congrArg List.length t0
    have t2 := HS.out
    rw [List.length_append, List.length_append, List.length_append, List.length_append, ← Lib.size_eq] at t1
    omega)
  refine (join_any _ (.pointer pl) (.pointer p1) ol o1 (((Hl.out.below (Nat.le_refl _) hb1).below (Nat.le_refl _) hb2).below (Nat.le_refl _) hb3) K1.out okl k2 (by have := HLEN.out.1; omega)).mono ?_
  rintro e w4 ⟨z2_, o2, rfl, l1, l2, l3, hb4⟩
  obtain ⟨p2, rfl⟩ := l1.ptr
  have L1 := Lib.hid l1
  have L3 := Lib.hid l3
  clear l1 l3
  go_wp2_with fail
  refine (join_any _ (.pointer p2) (.pointer pr) o2 or L1.out (((hr1.out.below (Nat.le_refl _) hb2).below (Nat.le_refl _) hb3).below (Nat.le_refl _) hb4) l2 okr (by have := HLEN.out.1; rw [L3.out, List.length_append]; omega)).mono ?_
  rintro e w5 ⟨z3_, o3, rfl, m1, m2, m3, hb5⟩
  obtain ⟨p3, rfl⟩ := m1.ptr
  have M1 := Lib.hid m1
  have M3 := Lib.hid m3
  clear m1 m3
  go_wp2
  go_ret
  refine ⟨_, o3, rfl, M1.out, m2, by rw [M3.out, L3.out, List.append_assoc]; exact HLEN.out.2, ?_⟩
  have g2 := hb12.size
  have g3 := hb3.size
  have g4 := hb4.size
  exact hb12.trans ((hb3.mono (by omega)).trans ((hb4.mono (by omega)).trans (hb5.mono (by omega))))

set_option maxRecDepth 100000 in
set_option maxHeartbeats 2000000 in
theorem fill_n_y (w : World) (vl : Value) (ol : Option T) (s : ByteArray) (br : Nat) (tr : T) (hl : AtO w vl ol) (okl : OkO ol) (hr : At w br tr) (okr : tr.Ok) (hs : (textO ol).length + (s.size + (textO (some tr)).length) ≤ 70000) (hA0 : 0 < (lastO ol).size) (hA : 256 < (lastO ol).size + s.size) (hB : lastN s.size + tr.first.size ≤ 256) :
    Calls Try.prog 30 #[vl, .string s, (.pointer (some ⟨br, 0, none⟩))] w (Filled w (textO ol ++ (s.data.toList ++ textO (some tr)))) := by
  have cl := fun w' => last_any w' vl ol
  have cf := fun w' => first_any w' (.pointer (some ⟨br, 0, none⟩)) (some tr)
  have he := isEmpty_no hA0
  have hA' : (256 : Int) < ((lastO ol).size : Int) + (s.size : Int) := by omega
  have ct := fun w' h => cut_first w' br tr h okr (by have : (textO (some tr)).length = tr.size := T.size_text tr; omega)
  have fz := T.first_size tr okr
  have HY : (textO (some tr)).length = tr.size := T.size_text tr
  have hf := isEmpty_no fz.1
  obtain ⟨pl, rfl⟩ := hl.ptr
  have bs : s.size ≤ 70000 := by omega
  have bL : (lastO ol).size ≤ 70000 := by have := lastO_le ol okl; omega
  have Hl := Lib.hid hl
  obtain ⟨LP, hLP⟩ : ∃ x, lastO ol = x := ⟨_, rfl⟩
  simp only [hLP] at cl he hA bL
  rw [hLP] at hA' hA0
  have Hr := Lib.hid hr
  replace cf : ∀ w', At w' br tr → Calls Try.prog 44 #[.pointer (some ⟨br, 0, none⟩)] w' fun e w1 => e = .returned (.string tr.first) ∧ w' = w1 := fun w' h => cf w' ⟨br, rfl, h⟩
  obtain ⟨FP, hFP⟩ : ∃ x, tr.first = x := ⟨_, rfl⟩
  rw [hFP] at cf fz hf hB
  simp only [hFP] at ct
  have cn := fun w' => lastSize_any s w' (by omega)
  have kn := lastN_le s.size
  obtain ⟨N, hN⟩ : ∃ x, lastN s.size = x := ⟨_, rfl⟩
  rw [hN] at kn
  simp only [hN] at cn
  rw [hN] at hB
  obtain ⟨s2, hs2⟩ : ∃ x, s ++ FP = x := ⟨_, rfl⟩
  have z2 : s2.size = s.size + FP.size := by rw [← hs2]; exact ByteArray.size_append
  have e2 : s2.data.toList = s.data.toList ++ FP.data.toList := by rw [← hs2]; simp
  have cb := fun w' => build_any s2 w' (by omega)
  have HS := Lib.hid hs
  have HYY := Lib.hid HY
  have Q2 := Lib.hid hFP
  have Q4 := Lib.hid e2
  have hB' : (N : Int) + (FP.size : Int) ≤ 256 := by omega
  clear hl hr hs hFP e2 HY
  have hfb := fld3
  go_enter Try.func30, Try.ntmps30
  go_wp2_with fail
  refine (cl w Hl.out).mono ?_
  rintro e w1 ⟨rfl, rfl⟩
  have hb1 := Below.refl w.heap.size w
  have hr1 := Lib.hid Hr.out
  go_wp2_with fail
  refine (cf _ hr1.out).mono ?_
  rintro e w2 ⟨rfl, rfl⟩
  go_wp2_with fail
  refine (cn _).mono ?_
  rintro e w2 ⟨rfl, rfl⟩
  go_wp2_with fail
  refine (ct _ hr1.out).mono ?_
  rintro e w2 ⟨u2, v2, ro, hb_, xb_, rfl, hv, ov, hy, hb2⟩
  obtain ⟨pv, rfl⟩ := hv.ptr
  have HV := Lib.hid hv
  have HYV := Lib.hid hy
  clear hv hy
  have hb12 := hb1.trans (hb2.mono hb1.size)
  go_wp2_with fail
  refine (cb _).mono ?_
  rintro e w3 ⟨z1_, o1, rfl, k1, k2, k3, hb3⟩
  obtain ⟨p1, rfl⟩ := k1.ptr
  have K1 := Lib.hid k1
  have K3 := Lib.hid k3
  clear k1 k3
  go_wp2_with fail
  have HLEN : Hid ((textO ol).length + ((textO o1).length + (textO ro).length) ≤ 70000 ∧ textO ol ++ (textO o1 ++ textO ro) = textO ol ++ (s.data.toList ++ textO (some tr))) := Lib.hid (by
    have t0 : textO ol ++ (textO o1 ++ textO ro) = textO ol ++ (s.data.toList ++ textO (some tr)) := by
      rw [K3.out]
      show _ = _ ++ (_ ++ tr.text)
      rw [HYV.out, Q4.out]
      simp only [List.append_assoc]
    refine ⟨?_, t0⟩
    have t1 := congrArg List.length t0
    have t2 := HS.out
    rw [List.length_append, List.length_append, List.length_append, List.length_append, ← Lib.size_eq] at t1
    omega)
  refine (join_any _ (.pointer pl) (.pointer p1) ol o1 (((Hl.out.below (Nat.le_refl _) hb1).below (Nat.le_refl _) hb2).below (Nat.le_refl _) hb3) K1.out okl k2 (by have := HLEN.out.1; omega)).mono ?_
  rintro e w4 ⟨z2_, o2, rfl, l1, l2, l3, hb4⟩
  obtain ⟨p2, rfl⟩ := l1.ptr
  have L1 := Lib.hid l1
  have L3 := Lib.hid l3
  clear l1 l3
  go_wp2_with fail
  refine (join_any _ (.pointer p2) (.pointer pv) o2 ro L1.out ((HV.out.below (Nat.le_refl _) hb3).below (Nat.le_refl _) hb4) l2 ov (by have := HLEN.out.1; rw [L3.out, List.length_append]; omega)).mono ?_
  rintro e w5 ⟨z3_, o3, rfl, m1, m2, m3, hb5⟩
  obtain ⟨p3, rfl⟩ := m1.ptr
  have M1 := Lib.hid m1
  have M3 := Lib.hid m3
  clear m1 m3
  go_wp2
  go_ret
  refine ⟨_, o3, rfl, M1.out, m2, by rw [M3.out, L3.out, List.append_assoc]; exact HLEN.out.2, ?_⟩
  have g2 := hb12.size
  have g3 := hb3.size
  have g4 := hb4.size
  exact hb12.trans ((hb3.mono (by omega)).trans ((hb4.mono (by omega)).trans (hb5.mono (by omega))))

set_option maxRecDepth 100000 in
set_option maxHeartbeats 2000000 in
theorem fill_n_e (w : World) (vl : Value) (ol : Option T) (s : ByteArray) (vr : Value) (or : Option T) (hl : AtO w vl ol) (okl : OkO ol) (hr : AtO w vr or) (okr : OkO or) (hs : (textO ol).length + (s.size + (textO or).length) ≤ 70000) (hA0 : 0 < (lastO ol).size) (hA : 256 < (lastO ol).size + s.size) (hB : (firstO or).size = 0) :
    Calls Try.prog 30 #[vl, .string s, vr] w (Filled w (textO ol ++ (s.data.toList ++ textO or))) := by
  have cl := fun w' => last_any w' vl ol
  have cf := fun w' => first_any w' vr or
  have he := isEmpty_no hA0
  have hA' : (256 : Int) < ((lastO ol).size : Int) + (s.size : Int) := by omega
  have hf := isEmpty_yes hB
  obtain ⟨pl, rfl⟩ := hl.ptr
  obtain ⟨pr, rfl⟩ := hr.ptr
  have bs : s.size ≤ 70000 := by omega
  have bL : (lastO ol).size ≤ 70000 := by have := lastO_le ol okl; omega
  have bF : (firstO or).size ≤ 70000 := by have := firstO_le or okr; omega
  have Hl := Lib.hid hl
  obtain ⟨LP, hLP⟩ : ∃ x, lastO ol = x := ⟨_, rfl⟩
  simp only [hLP] at cl he hA bL
  rw [hLP] at hA' hA0
  have Hr := Lib.hid hr
  obtain ⟨FP, hFP⟩ : ∃ x, firstO or = x := ⟨_, rfl⟩
  simp only [hFP] at cf hf hB bF
  have cn := fun w' => lastSize_any s w' (by omega)
  have kn := lastN_le s.size
  obtain ⟨N, hN⟩ : ∃ x, lastN s.size = x := ⟨_, rfl⟩
  rw [hN] at kn
  simp only [hN] at cn
  have cb := fun w' => build_any s w' (by omega)
  have HS := Lib.hid hs
  clear hl hr hs
  go_enter Try.func30, Try.ntmps30
  go_wp2_with fail
  refine (cl w Hl.out).mono ?_
  rintro e w1 ⟨rfl, rfl⟩
  have hb1 := Below.refl w.heap.size w
  have hr1 := Lib.hid Hr.out
  go_wp2_with fail
  refine (cf _ hr1.out).mono ?_
  rintro e w2 ⟨rfl, rfl⟩
  have hb2 := Below.refl w.heap.size w
  have hb12 := hb1.trans (hb2.mono hb1.size)
  go_wp2_with fail
  refine (cb _).mono ?_
  rintro e w3 ⟨z1_, o1, rfl, k1, k2, k3, hb3⟩
  obtain ⟨p1, rfl⟩ := k1.ptr
  have K1 := Lib.hid k1
  have K3 := Lib.hid k3
  clear k1 k3
  go_wp2_with fail
  have HLEN : Hid ((textO ol).length + ((textO o1).length + (textO or).length) ≤ 70000 ∧ textO ol ++ (textO o1 ++ textO or) = textO ol ++ (s.data.toList ++ textO or)) := Lib.hid (by
    have t0 : textO ol ++ (textO o1 ++ textO or) = textO ol ++ (s.data.toList ++ textO or) := by
      rw [K3.out]
    refine ⟨?_, t0⟩
    have t1 := congrArg List.length t0
    have t2 := HS.out
    rw [List.length_append, List.length_append, List.length_append, List.length_append, ← Lib.size_eq] at t1
    omega)
  refine (join_any _ (.pointer pl) (.pointer p1) ol o1 (((Hl.out.below (Nat.le_refl _) hb1).below (Nat.le_refl _) hb2).below (Nat.le_refl _) hb3) K1.out okl k2 (by have := HLEN.out.1; omega)).mono ?_
  rintro e w4 ⟨z2_, o2, rfl, l1, l2, l3, hb4⟩
  obtain ⟨p2, rfl⟩ := l1.ptr
  have L1 := Lib.hid l1
  have L3 := Lib.hid l3
  clear l1 l3
  go_wp2_with fail
  refine (join_any _ (.pointer p2) (.pointer pr) o2 or L1.out (((hr1.out.below (Nat.le_refl _) hb2).below (Nat.le_refl _) hb3).below (Nat.le_refl _) hb4) l2 okr (by have := HLEN.out.1; rw [L3.out, List.length_append]; omega)).mono ?_
  rintro e w5 ⟨z3_, o3, rfl, m1, m2, m3, hb5⟩
  obtain ⟨p3, rfl⟩ := m1.ptr
  have M1 := Lib.hid m1
  have M3 := Lib.hid m3
  clear m1 m3
  go_wp2
  go_ret
  refine ⟨_, o3, rfl, M1.out, m2, by rw [M3.out, L3.out, List.append_assoc]; exact HLEN.out.2, ?_⟩
  have g2 := hb12.size
  have g3 := hb3.size
  have g4 := hb4.size
  exact hb12.trans ((hb3.mono (by omega)).trans ((hb4.mono (by omega)).trans (hb5.mono (by omega))))

set_option maxRecDepth 100000 in
set_option maxHeartbeats 2000000 in
theorem fill_n_n (w : World) (vl : Value) (ol : Option T) (s : ByteArray) (vr : Value) (or : Option T) (hl : AtO w vl ol) (okl : OkO ol) (hr : AtO w vr or) (okr : OkO or) (hs : (textO ol).length + (s.size + (textO or).length) ≤ 70000) (hA0 : 0 < (lastO ol).size) (hA : 256 < (lastO ol).size + s.size) (hB0 : 0 < (firstO or).size) (hB : 256 < lastN s.size + (firstO or).size) :
    Calls Try.prog 30 #[vl, .string s, vr] w (Filled w (textO ol ++ (s.data.toList ++ textO or))) := by
  have cl := fun w' => last_any w' vl ol
  have cf := fun w' => first_any w' vr or
  have he := isEmpty_no hA0
  have hA' : (256 : Int) < ((lastO ol).size : Int) + (s.size : Int) := by omega
  have hf := isEmpty_no hB0
  obtain ⟨pl, rfl⟩ := hl.ptr
  obtain ⟨pr, rfl⟩ := hr.ptr
  have bs : s.size ≤ 70000 := by omega
  have bL : (lastO ol).size ≤ 70000 := by have := lastO_le ol okl; omega
  have bF : (firstO or).size ≤ 70000 := by have := firstO_le or okr; omega
  have Hl := Lib.hid hl
  obtain ⟨LP, hLP⟩ : ∃ x, lastO ol = x := ⟨_, rfl⟩
  simp only [hLP] at cl he hA bL
  rw [hLP] at hA' hA0
  have Hr := Lib.hid hr
  obtain ⟨FP, hFP⟩ : ∃ x, firstO or = x := ⟨_, rfl⟩
  simp only [hFP] at cf hf hB bF
  rw [hFP] at hB0
  have cn := fun w' => lastSize_any s w' (by omega)
  have kn := lastN_le s.size
  obtain ⟨N, hN⟩ : ∃ x, lastN s.size = x := ⟨_, rfl⟩
  rw [hN] at kn
  simp only [hN] at cn
  rw [hN] at hB
  have cb := fun w' => build_any s w' (by omega)
  have HS := Lib.hid hs
  have hB' : (256 : Int) < (N : Int) + (FP.size : Int) := by omega
  clear hl hr hs
  go_enter Try.func30, Try.ntmps30
  go_wp2_with fail
  refine (cl w Hl.out).mono ?_
  rintro e w1 ⟨rfl, rfl⟩
  have hb1 := Below.refl w.heap.size w
  have hr1 := Lib.hid Hr.out
  go_wp2_with fail
  refine (cf _ hr1.out).mono ?_
  rintro e w2 ⟨rfl, rfl⟩
  go_wp2_with fail
  refine (cn _).mono ?_
  rintro e w2 ⟨rfl, rfl⟩
  have hb2 := Below.refl w.heap.size w
  have hb12 := hb1.trans (hb2.mono hb1.size)
  go_wp2_with fail
  refine (cb _).mono ?_
  rintro e w3 ⟨z1_, o1, rfl, k1, k2, k3, hb3⟩
  obtain ⟨p1, rfl⟩ := k1.ptr
  have K1 := Lib.hid k1
  have K3 := Lib.hid k3
  clear k1 k3
  go_wp2_with fail
  have HLEN : Hid ((textO ol).length + ((textO o1).length + (textO or).length) ≤ 70000 ∧ textO ol ++ (textO o1 ++ textO or) = textO ol ++ (s.data.toList ++ textO or)) := Lib.hid (by
    have t0 : textO ol ++ (textO o1 ++ textO or) = textO ol ++ (s.data.toList ++ textO or) := by
      rw [K3.out]
    refine ⟨?_, t0⟩
    have t1 := congrArg List.length t0
    have t2 := HS.out
    rw [List.length_append, List.length_append, List.length_append, List.length_append, ← Lib.size_eq] at t1
    omega)
  refine (join_any _ (.pointer pl) (.pointer p1) ol o1 (((Hl.out.below (Nat.le_refl _) hb1).below (Nat.le_refl _) hb2).below (Nat.le_refl _) hb3) K1.out okl k2 (by have := HLEN.out.1; omega)).mono ?_
  rintro e w4 ⟨z2_, o2, rfl, l1, l2, l3, hb4⟩
  obtain ⟨p2, rfl⟩ := l1.ptr
  have L1 := Lib.hid l1
  have L3 := Lib.hid l3
  clear l1 l3
  go_wp2_with fail
  refine (join_any _ (.pointer p2) (.pointer pr) o2 or L1.out (((hr1.out.below (Nat.le_refl _) hb2).below (Nat.le_refl _) hb3).below (Nat.le_refl _) hb4) l2 okr (by have := HLEN.out.1; rw [L3.out, List.length_append]; omega)).mono ?_
  rintro e w5 ⟨z3_, o3, rfl, m1, m2, m3, hb5⟩
  obtain ⟨p3, rfl⟩ := m1.ptr
  have M1 := Lib.hid m1
  have M3 := Lib.hid m3
  clear m1 m3
  go_wp2
  go_ret
  refine ⟨_, o3, rfl, M1.out, m2, by rw [M3.out, L3.out, List.append_assoc]; exact HLEN.out.2, ?_⟩
  have g2 := hb12.size
  have g3 := hb3.size
  have g4 := hb4.size
  exact hb12.trans ((hb3.mono (by omega)).trans ((hb4.mono (by omega)).trans (hb5.mono (by omega))))

/-- fill. -/
theorem fill_any (w : World) (vl vr : Value) (ol or : Option T) (s : ByteArray) (hl : AtO w vl ol) (okl : OkO ol) (hr : AtO w vr or) (okr : OkO or) (hs : (textO ol).length + (s.size + (textO or).length) ≤ 70000) :
    Calls Try.prog 30 #[vl, .string s, vr] w (Filled w (textO ol ++ (s.data.toList ++ textO or))) := by
  by_cases a0 : (lastO ol).size = 0
  · by_cases b0 : (firstO or).size = 0
    · exact fill_e_e w vl ol s vr or hl okl hr okr hs a0 b0
    · by_cases b1 : lastN s.size + (firstO or).size ≤ 256
      · cases or with
        | none => exact absurd rfl b0
        | some tr =>
          obtain ⟨br, rfl, hr⟩ := hr
          exact fill_e_y w vl ol s br tr hl okl hr okr hs a0 b1
      · exact fill_e_n w vl ol s vr or hl okl hr okr hs a0 (by omega) (by omega)
  · by_cases a1 : (lastO ol).size + s.size ≤ 256
    · cases ol with
      | none => exact absurd rfl a0
      | some tl =>
        obtain ⟨bl, rfl, hl⟩ := hl
        by_cases b0 : (firstO or).size = 0
        · exact fill_y_e w bl tl s vr or hl okl hr okr hs a1 b0
        · by_cases b1 : lastN (tl.last.size + s.size) + (firstO or).size ≤ 256
          · cases or with
            | none => exact absurd rfl b0
            | some tr =>
              obtain ⟨br, rfl, hr⟩ := hr
              exact fill_y_y w bl tl s br tr hl okl hr okr hs a1 b1
          · exact fill_y_n w bl tl s vr or hl okl hr okr hs a1 (by omega) (by omega)
    · by_cases b0 : (firstO or).size = 0
      · exact fill_n_e w vl ol s vr or hl okl hr okr hs (by omega) (by omega) b0
      · by_cases b1 : lastN s.size + (firstO or).size ≤ 256
        · cases or with
          | none => exact absurd rfl b0
          | some tr =>
            obtain ⟨br, rfl, hr⟩ := hr
            exact fill_n_y w vl ol s br tr hl okl hr okr hs (by omega) (by omega) b1
        · exact fill_n_n w vl ol s vr or hl okl hr okr hs (by omega) (by omega) (by omega) (by omega)
end Go.Proofs.Ytbmcgmnmmnileaa
