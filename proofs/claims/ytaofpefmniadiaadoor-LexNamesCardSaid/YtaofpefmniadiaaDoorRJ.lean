/-
  LexNames: Apart.
-/
import Derived.Test.YtaofpefmniadiaaDoorRI
import Derived.Deep.DrawnRows
namespace Go.Proofs.YtaofpefmniadiaaDoor
open Go.RowKit
attribute [local go_sem ↓] Go.wp_at_zero Go.wp_at_succ

theorem lit2 (w : World) (ka kb : Nat) (A B : ByteArray) : ToksAt w.heap.size (w.alloc (.cells #[.int .u8 ka, .string A, .int .u8 kb, .string B] 32)) (.slice (some ⟨w.heap.size, 0, none⟩) 2 2) [(ka, A.data.toList), (kb, B.data.toList)] := by
  have h := World.ownsRow_lit (base := w.heap.size) (e := 32) (size := 2) w #[.int .u8 ka, .string A, .int .u8 kb, .string B] 2 (Nat.le_refl _) (by decide) rfl
  have e : ([(ka, A.data.toList), (kb, B.data.toList)] : List Tok).flatMap tokC = [.int .u8 ka, .string A, .int .u8 kb, .string B] := by
    show [Value.int .u8 ka, bl A.data.toList, .int .u8 kb, bl B.data.toList] = _
    unfold bl; rw [← ba_of A rfl, ← ba_of B rfl]
  unfold ToksAt; rw [e]; exact h
theorem gcall2 {w0 w w' : World} {n : Nat} (h : Below n w0 w) (hb : Below w.heap.size w w') (hn : n ≤ w0.heap.size) : Below n w0 w' := h.trans (hb.mono (Nat.le_trans hn h.size))
set_option maxRecDepth 100000 in
set_option maxHeartbeats 8000000 in
theorem apart_any (ka kb : Nat) (A B : ByteArray) (w : World) (hz : A.size + B.size ≤ 1000) (hE : Env w) (hv : valB (A ++ B).data.toList = true) : Calls Tryd.prog 12 #[.agg #[.int .u8 ka, .string A], .agg #[.int .u8 kb, .string B]] w (BoolEnd (decide (toks (A ++ B).data.toList = [(ka, A.data.toList), (kb, B.data.toList)])) w) := by
  have hs : (A ++ B).size ≤ 1000 := by rw [Utf.size_append]; exact hz
  have c1 := fun W (hW : Env W) => Utf.valid_any (A ++ B) W (by omega) hW.1
  rw [val_eq, hv] at c1
  have c2 := fun W (hW : Env W) => divide_any (A ++ B) W (by omega) hW
  have hfew : (toks (A ++ B).data.toList).length ≤ 1000 := by have := toks_len (A ++ B).data.toList; rw [← Lib.size_eq] at this; omega
  have c3 := fun W B1 B2 v1 v2 (h1 : ToksAt B1 W v1 (toks (A ++ B).data.toList)) (h2 : ToksAt B2 W v2 [(ka, A.data.toList), (kb, B.data.toList)]) => equal_any B1 B2 v1 v2 _ _ W h1 h2 (by omega) (by simp)
  have HE := Lib.hid hE
  clear hE hv
  generalize decide (toks (A ++ B).data.toList = [(ka, A.data.toList), (kb, B.data.toList)]) = R at *
  generalize toks (A ++ B).data.toList = E at *
  go_enter Tryd.func12, Tryd.ntmps12
  go_wp2_with fail
  obtain ⟨n, hn⟩ : ∃ n, w.heap.size = n := ⟨_, rfl⟩
  have hBW : Below w.heap.size w ((w.alloc (.cells #[.int .u8 ka, .string A] 32)).alloc (.cells #[.int .u8 kb, .string B] 32)) := galloc2 (galloc2 (Below.refl _ _) (Nat.le_refl _) _) (by simp) _
  have hzW : w.heap.size + 1 < ((w.alloc (.cells #[.int .u8 ka, .string A] 32)).alloc (.cells #[.int .u8 kb, .string B] 32)).heap.size := by simp
  have k0 : ((w.alloc (.cells #[.int .u8 ka, .string A] 32)).alloc (.cells #[.int .u8 kb, .string B] 32)).cell? ⟨w.heap.size, 0, none⟩ = some (.int .u8 ka) := by simp
  have k1 : ((w.alloc (.cells #[.int .u8 ka, .string A] 32)).alloc (.cells #[.int .u8 kb, .string B] 32)).cell? ⟨w.heap.size, 1, none⟩ = some (.string A) := by simp
  have k2 : ((w.alloc (.cells #[.int .u8 ka, .string A] 32)).alloc (.cells #[.int .u8 kb, .string B] 32)).cell? ⟨w.heap.size + 1, 0, none⟩ = some (.int .u8 kb) := by simp
  have k3 : ((w.alloc (.cells #[.int .u8 ka, .string A] 32)).alloc (.cells #[.int .u8 kb, .string B] 32)).cell? ⟨w.heap.size + 1, 1, none⟩ = some (.string B) := by simp
  generalize ((w.alloc (.cells #[.int .u8 ka, .string A] 32)).alloc (.cells #[.int .u8 kb, .string B] 32)) = W0 at *
  generalize hsz : (A ++ B) = T at *
  rw [hn] at k0 k1 k2 k3 hzW
  simp only [hn]
  have HN := Lib.hid hn
  clear hn hsz
  have H5 : Hid (5 ≤ n) := Lib.hid (by have := HE.out.size; have := HN.out; omega)
  rw [HN.out] at hBW
  have HL : Hid (n ≤ w.heap.size) := Lib.hid (Nat.le_of_eq HN.out.symm)
  have hz0 : n < W0.heap.size := by omega
  go_region_held3 (fun u => u.cell? ⟨n, 0, none⟩ = some (.int .u8 ka) ∧ u.cell? ⟨n, 1, none⟩ = some (.string A) ∧ u.cell? ⟨n + 1, 0, none⟩ = some (.int .u8 kb) ∧ u.cell? ⟨n + 1, 1, none⟩ = some (.string B)) (first | exact ⟨k0, k1, k2, k3⟩ | exact ⟨p0, p1, p2, p3⟩ | exact ⟨q0, q1, q2, q3⟩ | exact ⟨r0, r1, r2, r3⟩ | go_keep) (first | (go_at_call 18; (with_reducible refine Calls.mono (c1 _ (HE.out.below (n := n) (by (first | exact hBW | exact hBW.drew | exact galloc2 hBW (Nat.le_trans HL.out hBW.size) _ | exact (galloc2 hBW (Nat.le_trans HL.out hBW.size) _).drew | exact galloc2 hBW.drew (Nat.le_trans HL.out hBW.size) _ | exact (galloc2 hBW.drew (Nat.le_trans HL.out hBW.size) _).drew)) H5.out)) ?_); rintro e w1 ⟨rfl, hb1⟩; have G1 : Below n w w1 := gcall2 hBW.drew hb1 HL.out; have z1 : n + 1 < w1.heap.size := Nat.lt_of_lt_of_le hzW hb1.size; have z0 : n < w1.heap.size := (by omega); have p0 := (hb1.cell (p := ⟨n, 0, none⟩) hz0).trans k0; have p1 := (hb1.cell (p := ⟨n, 1, none⟩) hz0).trans k1; have p2 := (hb1.cell (p := ⟨n + 1, 0, none⟩) hzW).trans k2; have p3 := (hb1.cell (p := ⟨n + 1, 1, none⟩) hzW).trans k3) | (go_at_call 19; (with_reducible refine Calls.mono (c2 _ (HE.out.below (n := n) (by (first | exact G1 | exact G1.drew | exact galloc2 G1 (Nat.le_trans HL.out G1.size) _ | exact (galloc2 G1 (Nat.le_trans HL.out G1.size) _).drew | exact galloc2 G1.drew (Nat.le_trans HL.out G1.size) _ | exact (galloc2 G1.drew (Nat.le_trans HL.out G1.size) _).drew)) H5.out)) ?_); rintro e w2 ⟨v, rfl, hT2, hb2⟩; have R2 : ToksAt w1.heap.size w2 (.slice (some ⟨w1.heap.size, 0, none⟩) 2 2) [(ka, A.data.toList), (kb, B.data.toList)] := (by first | exact (lit2 w1 ka kb A B).below hb2 | exact (lit2 w1.drew ka kb A B).below hb2); have D2 : Below w1.heap.size w1 w2 := gcall2 (by first | exact Below.refl _ _ | exact (Below.refl _ _).drew | exact galloc2 (Below.refl _ _) (Nat.le_refl _) _ | exact (galloc2 (Below.refl _ _) (Nat.le_refl _) _).drew | exact galloc2 (Below.refl _ _).drew (Nat.le_refl _) _ | exact (galloc2 (Below.refl _ _).drew (Nat.le_refl _) _).drew) hb2 (Nat.le_refl _); have G2 : Below n w w2 := gcall2 G1 D2 HL.out; have q0 := (D2.cell (p := ⟨n, 0, none⟩) z0).trans p0; have q1 := (D2.cell (p := ⟨n, 1, none⟩) z0).trans p1; have q2 := (D2.cell (p := ⟨n + 1, 0, none⟩) z1).trans p2; have q3 := (D2.cell (p := ⟨n + 1, 1, none⟩) z1).trans p3) | (go_at_call 19; (with_reducible refine Calls.mono (c2 _ (HE.out.below (n := n) (by (first | exact G1 | exact G1.drew | exact galloc2 G1 (Nat.le_trans HL.out G1.size) _ | exact (galloc2 G1 (Nat.le_trans HL.out G1.size) _).drew | exact galloc2 G1.drew (Nat.le_trans HL.out G1.size) _ | exact (galloc2 G1.drew (Nat.le_trans HL.out G1.size) _).drew)) H5.out)) ?_); rintro e w2 ⟨v, rfl, hT2, hb2⟩; have D2 : Below w1.heap.size w1 w2 := gcall2 (by first | exact Below.refl _ _ | exact (Below.refl _ _).drew | exact galloc2 (Below.refl _ _) (Nat.le_refl _) _ | exact (galloc2 (Below.refl _ _) (Nat.le_refl _) _).drew | exact galloc2 (Below.refl _ _).drew (Nat.le_refl _) _ | exact (galloc2 (Below.refl _ _).drew (Nat.le_refl _) _).drew) hb2 (Nat.le_refl _); have G2 : Below n w w2 := gcall2 G1 D2 HL.out; have q0 := (D2.cell (p := ⟨n, 0, none⟩) z0).trans p0; have q1 := (D2.cell (p := ⟨n, 1, none⟩) z0).trans p1; have q2 := (D2.cell (p := ⟨n + 1, 0, none⟩) z1).trans p2; have q3 := (D2.cell (p := ⟨n + 1, 1, none⟩) z1).trans p3) | (go_at_call 21; (with_reducible refine Calls.mono (c3 _ _ _ _ _ (hT2.below (by first | exact Below.refl _ _ | exact (Below.refl _ _).drew | exact galloc2 (Below.refl _ _) (Nat.le_refl _) _ | exact (galloc2 (Below.refl _ _) (Nat.le_refl _) _).drew | exact galloc2 (Below.refl _ _).drew (Nat.le_refl _) _ | exact (galloc2 (Below.refl _ _).drew (Nat.le_refl _) _).drew)) (R2.below (by first | exact Below.refl _ _ | exact (Below.refl _ _).drew | exact galloc2 (Below.refl _ _) (Nat.le_refl _) _ | exact (galloc2 (Below.refl _ _) (Nat.le_refl _) _).drew | exact galloc2 (Below.refl _ _).drew (Nat.le_refl _) _ | exact (galloc2 (Below.refl _ _).drew (Nat.le_refl _) _).drew))) ?_); rintro e w3 ⟨rfl, hb3⟩; have G3 : Below n w w3 := gcall2 (by (first | exact G2 | exact G2.drew | exact galloc2 G2 (Nat.le_trans HL.out G2.size) _ | exact (galloc2 G2 (Nat.le_trans HL.out G2.size) _).drew | exact galloc2 G2.drew (Nat.le_trans HL.out G2.size) _ | exact (galloc2 G2.drew (Nat.le_trans HL.out G2.size) _).drew)) hb3 HL.out; have D3 : Below w2.heap.size w2 w3 := gcall2 (by first | exact Below.refl _ _ | exact (Below.refl _ _).drew | exact galloc2 (Below.refl _ _) (Nat.le_refl _) _ | exact (galloc2 (Below.refl _ _) (Nat.le_refl _) _).drew | exact galloc2 (Below.refl _ _).drew (Nat.le_refl _) _ | exact (galloc2 (Below.refl _ _).drew (Nat.le_refl _) _).drew) hb3 (Nat.le_refl _); have y0 : n < w2.heap.size := Nat.lt_of_lt_of_le z0 D2.size; have y1 : n + 1 < w2.heap.size := Nat.lt_of_lt_of_le z1 D2.size; have r0 := (D3.cell (p := ⟨n, 0, none⟩) y0).trans q0; have r1 := (D3.cell (p := ⟨n, 1, none⟩) y0).trans q1; have r2 := (D3.cell (p := ⟨n + 1, 0, none⟩) y1).trans q2; have r3 := (D3.cell (p := ⟨n + 1, 1, none⟩) y1).trans q3) | (go_at_call 21; (with_reducible refine Calls.mono (c3 _ _ _ _ _ (hT2.below (by first | exact Below.refl _ _ | exact (Below.refl _ _).drew | exact galloc2 (Below.refl _ _) (Nat.le_refl _) _ | exact (galloc2 (Below.refl _ _) (Nat.le_refl _) _).drew | exact galloc2 (Below.refl _ _).drew (Nat.le_refl _) _ | exact (galloc2 (Below.refl _ _).drew (Nat.le_refl _) _).drew)) (by first | exact lit2 w2 ka kb A B | exact lit2 w2.drew ka kb A B)) ?_); rintro e w3 ⟨rfl, hb3⟩; have G3 : Below n w w3 := gcall2 (by (first | exact G2 | exact G2.drew | exact galloc2 G2 (Nat.le_trans HL.out G2.size) _ | exact (galloc2 G2 (Nat.le_trans HL.out G2.size) _).drew | exact galloc2 G2.drew (Nat.le_trans HL.out G2.size) _ | exact (galloc2 G2.drew (Nat.le_trans HL.out G2.size) _).drew)) hb3 HL.out; have D3 : Below w2.heap.size w2 w3 := gcall2 (by first | exact Below.refl _ _ | exact (Below.refl _ _).drew | exact galloc2 (Below.refl _ _) (Nat.le_refl _) _ | exact (galloc2 (Below.refl _ _) (Nat.le_refl _) _).drew | exact galloc2 (Below.refl _ _).drew (Nat.le_refl _) _ | exact (galloc2 (Below.refl _ _).drew (Nat.le_refl _) _).drew) hb3 (Nat.le_refl _); have y0 : n < w2.heap.size := Nat.lt_of_lt_of_le z0 D2.size; have y1 : n + 1 < w2.heap.size := Nat.lt_of_lt_of_le z1 D2.size; have r0 := (D3.cell (p := ⟨n, 0, none⟩) y0).trans q0; have r1 := (D3.cell (p := ⟨n, 1, none⟩) y0).trans q1; have r2 := (D3.cell (p := ⟨n + 1, 0, none⟩) y1).trans q2; have r3 := (D3.cell (p := ⟨n + 1, 1, none⟩) y1).trans q3))
  all_goals
    have HG3 := Lib.hid G3
    clear hb1 hb2 hb3 p0 p1 p2 p3 q0 q1 q2 q3 r0 r1 r2 r3 hT2
    go_wp2_with fail
    go_ret
    exact ⟨rfl, by rw [HN.out]; exact HG3.out⟩
theorem apart_lit (ka kb : Nat) (A B : ByteArray) (R : Bool) (w : World) (hz : A.size + B.size ≤ 1000) (hE : Env w) (hv : valB (A ++ B).data.toList = true) (hr : decide (toks (A ++ B).data.toList = [(ka, A.data.toList), (kb, B.data.toList)]) = R) : Calls Tryd.prog 12 #[.agg #[.int .u8 ka, .string A], .agg #[.int .u8 kb, .string B]] w (BoolEnd R w) := hr ▸ apart_any ka kb A B w hz hE hv
theorem ap1 (w : World) (hE : Env w) : Calls Tryd.prog 12 #[.agg #[.int .u8 8, .string ⟨#[45]⟩], .agg #[.int .u8 8, .string ⟨#[62]⟩]] w (BoolEnd false w) := apart_lit 8 8 ⟨#[45]⟩ ⟨#[62]⟩ false w (by decide) hE (by decide +kernel) (by decide +kernel)
theorem ap2 (w : World) (hE : Env w) : Calls Tryd.prog 12 #[.agg #[.int .u8 8, .string ⟨#[45]⟩], .agg #[.int .u8 4, .string ⟨#[97]⟩]] w (BoolEnd true w) := apart_lit 8 4 ⟨#[45]⟩ ⟨#[97]⟩ true w (by decide) hE (by decide +kernel) (by decide +kernel)
theorem ap3 (w : World) (hE : Env w) : Calls Tryd.prog 12 #[.agg #[.int .u8 8, .string ⟨#[62]⟩], .agg #[.int .u8 8, .string ⟨#[45]⟩]] w (BoolEnd true w) := apart_lit 8 8 ⟨#[62]⟩ ⟨#[45]⟩ true w (by decide) hE (by decide +kernel) (by decide +kernel)
theorem ap4 (w : World) (hE : Env w) : Calls Tryd.prog 12 #[.agg #[.int .u8 4, .string ⟨#[97]⟩], .agg #[.int .u8 4, .string ⟨#[97]⟩]] w (BoolEnd false w) := apart_lit 4 4 ⟨#[97]⟩ ⟨#[97]⟩ false w (by decide) hE (by decide +kernel) (by decide +kernel)
theorem ap5 (w : World) (hE : Env w) : Calls Tryd.prog 12 #[.agg #[.int .u8 8, .string ⟨#[45]⟩], .agg #[.int .u8 9, .string ⟨#[97]⟩]] w (BoolEnd false w) := apart_lit 8 9 ⟨#[45]⟩ ⟨#[97]⟩ false w (by decide) hE (by decide +kernel) (by decide +kernel)
end Go.Proofs.YtaofpefmniadiaaDoor
