/-
  An Array's element that cannot be read.
-/
import Derived.Test.YtgcpgieojckheaaGreatDoorMgJV
namespace Go.Proofs.YtgcpgieojckheaaGreatDoor.Json
open Go.RowKit Go.Shelf

theorem bad_of {W : World} {b : Nat} {s : ByteArray} {x y : Nat} {c : Int} {e : Ending} {w' : World} (h : ValEnd W b s x y (.error c) e w') : e = .panicked [{ v := .iface 23 (.int .i64 c), recovered := false }] ∧ But b W w' := h
theorem bp_bad {W : World} {b : Nat} {c : Int} {w1 : World} (h : But b W w1) (t : Array Value) : bodyPost Tryz.prog Tryz.f183 (Bad c b W) (Exit.panic [{ v := .iface 23 (.int .i64 c), recovered := false }]) { tmps := t, defers := [] } w1 := ⟨rfl, rfl, h⟩
/-- A call that cannot return: the walk behind it goes on under 'False'. -/
theorem calls_or {P : Program} {f : Nat} {args : Array Value} {w : World} {Q0 Q : Ending → World → Prop} (h : Calls P f args w Q0) (h1 : ∀ e w', Q0 e w' → Q e w') (_h2 : Hid False → Calls P f args w Q) : Calls P f args w Q := h.mono h1
set_option maxRecDepth 100000 in
set_option maxHeartbeats 16000000 in
theorem arr_bad (W : World) (b P J B : Nat) (js : List Json.J) (w : World) (s : ByteArray) (x y z : Nat) (c : Int)
    (hL : LstAt W b P J B 6 [] js w) (hP : PAt w b s x y z) (hT : TabsJ w) (hb8 : 8 ≤ b) (hbW : b < W.heap.size) (h8 : 8 ≤ w.heap.size) (hn : js.length < 1000000)
    (hV : ∀ w, PAt w b s x y z → TabsJ w → Calls Tryz.prog 93 #[.pointer (some ⟨b, 0, none⟩)] w (ValEnd w b s x y (.error c))) :
    Calls Tryz.prog 183 #[.pointer (some ⟨J, 0, none⟩), .pointer (some ⟨P, 0, none⟩)] w (Bad c b W) := by
  obtain ⟨j, hj0⟩ : ∃ j, Json.J.zero = j := ⟨_, rfl⟩
  obtain ⟨r, hr0⟩ : ∃ r, ([] : List UInt8) = r := ⟨_, rfl⟩
  obtain ⟨n2, hn0⟩ : ∃ n2, 0 = n2 := ⟨_, rfl⟩
  clear hj0 hr0 hn0
  have fake : Hid False → ∀ w, Calls Tryz.prog 93 #[.pointer (some ⟨b, 0, none⟩)] w (ValEnd w b s x y (.ok (j, r, n2))) := fun h => h.out.elim
  obtain ⟨hbut, hWP, hPJ, hJB, hBw, hhP, nv, lv, xs, hhJ, hown1, hown2, hjs⟩ := hL
  have cP : w.cell? ⟨P, 0, none⟩ = some (.pointer (some ⟨b, 0, none⟩)) := by rw [Lib.cell_of_heap hhP]; rfl
  have cJ : w.cell? ⟨J, 3, none⟩ = some lv := by rw [Lib.cell_of_heap hhJ]; rfl
  have fJ : w.frozen? ⟨J, 3, none⟩ = false := Lib.frozen_of_heap hhJ 3
  obtain ⟨i47, hi, hz0, hz1, hz2⟩ := info_parts info47
  obtain ⟨po, co, rfl⟩ := LstAt.form hown2
  have hblt := hP.lt
  have hJlt : J < w.heap.size := by omega
  have hPlt : P < w.heap.size := by omega
  have hbB0 : b < B := by omega
  have hPb : P ≠ b := fun e => by rw [e] at hhP; rw [hP] at hhP; cases hhP
  have hJb : J ≠ b := fun e => by rw [e] at hhJ; rw [hP] at hhJ; cases hhJ
  have hP8 : TabsJ w := hT
  obtain ⟨o, ho⟩ : ∃ o, Obj.cells #[.int .u8 0, .string ⟨#[]⟩, .slice none 0 0, .slice none 0 0] 47 = o := ⟨_, rfl⟩
  have hbA : Below w.heap.size w w.drew := (Below.refl w.heap.size w).drew
  have hbB : Below w.heap.size w ((w.alloc o).drew) := ((Below.refl w.heap.size w).alloc (Nat.le_refl _) o).drew
  have hJA : J < w.drew.heap.size := hJlt
  have hJB2 : J < ((w.alloc o).drew).heap.size := Nat.lt_of_lt_of_le hJlt hbB.size
  have hPA : P < w.drew.heap.size := hPlt
  have hPB2 : P < ((w.alloc o).drew).heap.size := Nat.lt_of_lt_of_le hPlt hbB.size
  have dJA : w.drew.cell? ⟨J, 3, none⟩ = some (.slice po js.length co) := (hbA.cell (p := ⟨J, 3, none⟩) hJlt).trans cJ
  have dJB : ((w.alloc o).drew).cell? ⟨J, 3, none⟩ = some (.slice po js.length co) := (hbB.cell (p := ⟨J, 3, none⟩) hJlt).trans cJ
  have dPB : ((w.alloc o).drew).cell? ⟨P, 0, none⟩ = some (.pointer (some ⟨b, 0, none⟩)) := (hbB.cell (p := ⟨P, 0, none⟩) hPlt).trans cP
  have Wf1 : ∀ {w1}, But b w.drew w1 → (w1.alloc o).ownsRow B 47 4 (.slice po js.length co) js.length xs := fun h => own_but hown2 (((But.of hbA).trans h).trans (But.of (galloc (Below.refl _ _) o))) (by omega)
  have Wf2 : ∀ {w1}, But b ((w.alloc o).drew) w1 → w1.ownsRow B 47 4 (.slice po js.length co) js.length xs := fun h => own_but hown2 ((But.of hbB).trans h) (by omega)
  have hxl : xs.length = js.length * 4 := hown2.1
  have hJrow : some J ≠ (Value.slice po js.length co).ownBlock := fun e => by have := (hown2.lt J e.symm).1; omega
  have Jf1 : ∀ {w1}, But b w.drew w1 → JFar J #[.int .u8 6, .string ⟨#[]⟩, nv, .slice po js.length co] (Value.slice po js.length co).ownBlock (w1.alloc o) := fun h => ⟨((((But.of hbA).trans h).trans (But.of (galloc (Below.refl _ _) o))).block J hJlt hJb).trans hhJ, hJrow⟩
  have Jf2 : ∀ {w1}, But b ((w.alloc o).drew) w1 → JFar J #[.int .u8 6, .string ⟨#[]⟩, nv, .slice po js.length co] (Value.slice po js.length co).ownBlock w1 := fun h => ⟨(((But.of hbB).trans h).block J hJlt hJb).trans hhJ, hJrow⟩
  have Nf1 : ∀ w1 : World, ∀ (j : Nat) u, zeroL[j]? = some u → (w1.alloc o).cell? ((⟨w1.heap.size, 0, none⟩ : Addr).add j) = some u := fun w1 => zero_news (by rw [← ho]; exact heap_alloc_new w1 _)
  have Nf2 : ∀ {w1}, But b ((w.alloc o).drew) w1 → ∀ (j : Nat) u, zeroL[j]? = some u → w1.cell? ((⟨w.heap.size, 0, none⟩ : Addr).add j) = some u := fun h => zero_news ((h.block w.heap.size (by simp) (by omega)).trans (by rw [← ho]; exact heap_alloc_new w _))
  have Sf1 : ∀ {w1}, But b w.drew w1 → B ≤ (w1.alloc o).heap.size := fun h => by have := h.size; simp at this ⊢; omega
  have Sf2 : ∀ {w1}, But b ((w.alloc o).drew) w1 → B ≤ w1.heap.size := fun h => by have := h.size; simp at this ⊢; omega
  have Ff1 : ∀ {w1}, But b w.drew w1 → But b W w1 := fun h => hbut.trans ((But.of hbA).trans h)
  have Ff2 : ∀ {w1}, But b ((w.alloc o).drew) w1 → But b W w1 := fun h => hbut.trans ((But.of hbB).trans h)
  have Bf1 : ∀ {w1}, But b w.drew w1 → But b w (w1.alloc o) := fun h => ((But.of hbA).trans h).trans (But.of (galloc (Below.refl _ _) o))
  have Bf2 : ∀ {w1}, But b ((w.alloc o).drew) w1 → But b w w1 := fun h => (But.of hbB).trans h
  have Ef1 : ∀ {w1 : World} {four}, But b w.drew w1 → JAt (fun g => w.drew.heap.size ≤ g) w1 j four → JAt (fun g => w.heap.size ≤ g) (w1.alloc o) j four := fun {w1} {_} _ h => JAt.world ⟨by simp, fun i hi _ => (galloc (Below.refl w1.heap.size w1) o).block i hi⟩ j _ h
  have Ef2 : ∀ {w1 : World} {four}, But b ((w.alloc o).drew) w1 → JAt (fun g => ((w.alloc o).drew).heap.size ≤ g) w1 j four → JAt (fun g => w.heap.size ≤ g) w1 j four := fun _ h => JAt.mono (fun i _ hi => by simp at hi; omega) j _ h
  have HHP := Lib.hid hhP
  have HHJ := Lib.hid hhJ
  have HJS := Lib.hid hjs
  have HO2 := Lib.hid hown2
  have HO1 := Lib.hid hown1
  have HB := Lib.hid hbut
  have HBA := Lib.hid hbA
  have HBB := Lib.hid hbB
  have HP := Lib.hid hP
  have HPA := Lib.hid (hP.below hbA)
  have HPB := Lib.hid (hP.below hbB)
  have HTA : Hid (TabsJ w.drew) := Lib.hid (hT.but (But.of hbA) hb8 h8)
  have HTB : Hid (TabsJ ((w.alloc o).drew)) := Lib.hid (hT.but (But.of hbB) hb8 h8)
  clear hbut hjs hown1 hown2 hP hT hP8 hbA hbB
  go_enter Tryz.func183, Tryz.ntmps183
  go_wp2_with fail
  have hm1 : js.length + 1 ≤ maxLen := by unfold maxLen; omega
  have hm2 : (js.length + 1) * 72 ≤ 140737488355328 := by omega
  have hidx : (js.length : Int) < (js.length : Int) + 1 := by omega
  go_region_law (first
    | (refine step_append_lies _ (by rfl) _ _ _ (by rfl) B 47 i47 (.agg #[.int .u8 0, .string ⟨#[]⟩, .slice none 0 0, .slice none 0 0]) 4 72 u45 hi hz0 hz1 hz2 rfl (by decide) (.slice po js.length co) js.length xs (by rfl) HW.out ⟨w1.heap.size, 0, none⟩ 1 1 zeroL (by rfl) rfl HN.out zero_one (by decide) hm1 hm2 HS.out _ rfl ?_; intro g1 cap1 w2 hown3 hgrow hat hlt1; obtain ⟨d0, d1, d2, d3, df⟩ := own_four hown3 hxl; have hne1 := own_far hown3 hJB; have cJ2 := cell_grown hgrow HO3.out; have fJ2 := froz_grown hgrow HO3.out; have HM := Lib.hid (Mid.mk' HB.out hWP hPJ hJB hBw hbW HHP.out HHJ.out HO1.out HO2.out HJS.out HBX.out HPX.out HJX.out hgrow hown3 hat))
    | (refine step_append_lies _ (by rfl) _ _ _ (by rfl) B 47 i47 (.agg #[.int .u8 0, .string ⟨#[]⟩, .slice none 0 0, .slice none 0 0]) 4 72 u45 hi hz0 hz1 hz2 rfl (by decide) (.slice po js.length co) js.length xs (by rfl) HW.out ⟨w.heap.size, 0, none⟩ 1 1 zeroL (by rfl) rfl HN.out zero_one (by decide) hm1 hm2 HS.out _ rfl ?_; intro g1 cap1 w2 hown3 hgrow hat hlt1; obtain ⟨d0, d1, d2, d3, df⟩ := own_four hown3 hxl; have hne1 := own_far hown3 hJB; have cJ2 := cell_grown hgrow HO3.out; have fJ2 := froz_grown hgrow HO3.out; have HM := Lib.hid (Mid.mk' HB.out hWP hPJ hJB hBw hbW HHP.out HHJ.out HO1.out HO2.out HJS.out HBX.out HPX.out HJX.out hgrow hown3 hat))
    | (go_simp; go_at_call 93; with_reducible (refine calls_or (hV w.drew HPA.out HTA.out) ?_ ?_); (· intro e w1 he; obtain ⟨rfl, hb1⟩ := bad_of he; exact bp_bad (Ff1 hb1) _); intro HF; with_reducible (refine Calls.mono (fake HF w.drew) ?_); intro e w1 he; obtain ⟨k, kd, tx, pc, nc, cc, pd, nd, cd, hxk, hks, hr, rfl, hjv, hP1, hb1⟩ := val_ok he; have cJ1 := cell_but hb1 hJA hJb dJA; have HW := Lib.hid (Wf1 hb1); have HO3 := Lib.hid (Jf1 hb1); have cJ1b := cellJ HO3.out;  have HN := Lib.hid (Nf1 w1); have HS := Lib.hid (Sf1 hb1); have HBX := Lib.hid (Bf1 hb1); have HPX : Hid (PAt (w1.alloc o) b s k y n2) := Lib.hid (hP1.below (galloc (Below.refl _ _) o)); have HJX := Lib.hid (Ef1 hb1 hjv))
    | (go_simp; (try rw [ho]); go_at_call 93; with_reducible (refine calls_or (hV ((w.alloc o).drew) HPB.out HTB.out) ?_ ?_); (· intro e w1 he; obtain ⟨rfl, hb1⟩ := bad_of he; exact bp_bad (Ff2 hb1) _); intro HF; with_reducible (refine Calls.mono (fake HF ((w.alloc o).drew)) ?_); intro e w1 he; obtain ⟨k, kd, tx, pc, nc, cc, pd, nd, cd, hxk, hks, hr, rfl, hjv, hP1, hb1⟩ := val_ok he; have cJ1 := cell_but hb1 hJB2 hJb dJB; have HW := Lib.hid (Wf2 hb1); have HO3 := Lib.hid (Jf2 hb1);  have HN := Lib.hid (Nf2 hb1); have HS := Lib.hid (Sf2 hb1); have HBX := Lib.hid (Bf2 hb1); have HPX := Lib.hid hP1; have HJX := Lib.hid (Ef2 hb1 hjv)))
  all_goals exact HF.out.elim
end Go.Proofs.YtgcpgieojckheaaGreatDoor.Json
