/-
  The law JsonReads.
-/
import Derived.Test.YtgcpgieojckheaaGreatDoorMgKJ
namespace Go.Proofs.YtgcpgieojckheaaGreatDoor.Json
open Go.RowKit Go.Shelf

theorem fine_big_list {js : List J} (h : ∀ j ∈ js, bigJ j) : bigsJ js := by
  induction js with
  | nil => unfold bigsJ; trivial
  | cons j r ih => unfold bigsJ; exact ⟨h j (by simp), ih (fun x hx => h x (by simp [hx]))⟩
mutual
theorem form_big : ∀ j : J, formJ j = true → countJ j ≤ 65536 → bigJ j
  | .mk k t ns ls, h, hc => by
    unfold countJ at hc
    have hl : ls.length ≤ countsJ ls := counts_len ls
    have hn : ns.length ≤ ls.length := by
      unfold formJ at h
      split at h
      · simp only [Bool.and_eq_true, List.isEmpty_iff] at h
        rw [h.1.2]; simp
      · split at h
        · simp only [Bool.and_eq_true, List.isEmpty_iff] at h
          rw [h.1.2]; simp
        · split at h
          · simp only [Bool.and_eq_true, List.isEmpty_iff] at h
            rw [h.1.2]; simp
          · split at h
            · simp only [Bool.and_eq_true, List.isEmpty_iff] at h
              rw [h.1.2]; simp
            · split at h
              · simp only [Bool.and_eq_true, List.isEmpty_iff, decide_eq_true_eq] at h
                omega
              · cases h
    have hf : formsJ ls = true := by
      unfold formJ at h
      split at h
      · simp only [Bool.and_eq_true, List.isEmpty_iff] at h
        rw [h.2]; unfold formsJ; rfl
      · split at h
        · simp only [Bool.and_eq_true, List.isEmpty_iff] at h
          rw [h.2]; unfold formsJ; rfl
        · split at h
          · simp only [Bool.and_eq_true, List.isEmpty_iff] at h
            rw [h.2]; unfold formsJ; rfl
          · split at h
            · simp only [Bool.and_eq_true] at h; exact h.2
            · split at h
              · simp only [Bool.and_eq_true] at h; exact h.2
              · cases h
    unfold bigJ
    exact ⟨by omega, by omega, forms_big ls hf (by omega)⟩
theorem forms_big : ∀ l : List J, formsJ l = true → countsJ l ≤ 65536 → bigsJ l
  | [], _, _ => by unfold bigsJ; trivial
  | j :: js, h, hc => by
    unfold formsJ at h
    unfold countsJ at hc
    simp only [Bool.and_eq_true] at h
    unfold bigsJ
    exact ⟨form_big j h.1 (by omega), forms_big js h.2 (by omega)⟩
theorem counts_len : ∀ l : List J, l.length ≤ countsJ l
  | [] => by simp
  | j :: js => by
    have := counts_len js
    unfold countsJ
    have h1 : 1 ≤ countJ j := by cases j; unfold countJ; omega
    simp only [List.length_cons]; omega
end
theorem parse_big (l : List UInt8) : bigJ (parse l).1 := by
  unfold parse
  split
  · unfold J.zero bigJ bigsJ; simp
  · cases hv : value 64 l 0 with
    | error e => show bigJ J.zero; unfold J.zero bigJ bigsJ; simp
    | ok p =>
      obtain ⟨j, r, n⟩ := p
      have hf := value_fine 64 l 0 j r n hv
      simp only
      split
      · exact form_big j hf.1 (by have h1 := hf.2.2.2.1; have h2 := hf.2.2.2.2; omega)
      · unfold J.zero bigJ bigsJ; simp
theorem TabsJ.below {W w : World} (h : TabsJ W) (hb : Below W.heap.size W w) (h8 : 8 ≤ W.heap.size) : TabsJ w := h.but (But.of (b := W.heap.size) hb) h8 h8
set_option maxHeartbeats 8000000 in
set_option maxRecDepth 100000 in
theorem reads_walk (s : ByteArray) (W : World) (hT : TabsJ W) (h8 : 8 ≤ W.heap.size) :
    Calls Tryz.prog 10 #[.string s] W fun e w' => e = .returned (.bool true) ∧ Below W.heap.size W w' := by
  by_cases hs : 4000 < s.size
  · have hs' : (4000 : Int) < (s.size : Int) := by omega
    clear hT
    go_enter Tryz.func10, Tryz.ntmps10
    go_wp2
    go_ret
    exact ⟨rfl, Below.refl _ _⟩
  · have hs' : ¬ (4000 : Int) < (s.size : Int) := by omega
    have hp := parse_any W s hT h8 (by omega)
    have HQ := Lib.hid (fun (w : World) (h : 8 ≤ w.heap.size) => rparse_any w s h (by omega))
    have HBIG := Lib.hid (parse_big s.data.toList)
    obtain ⟨O, hO⟩ : ∃ O, parse s.data.toList = O := ⟨_, rfl⟩
    rw [hO] at hp
    have HO := Lib.hid hO
    obtain ⟨j, k⟩ := O
    clear hT hO
    go_enter Tryz.func10, Tryz.ntmps10
    go_wp2_with fail
    refine hp.mono ?_
    rintro e w1 ⟨v, rfl, hv, hb1⟩
    obtain ⟨kd, tx, pc, nc, cc, pd, nd, cd, rfl, hj⟩ := jval_four hv
    obtain ⟨w2, hw2⟩ : ∃ w2, w1.alloc (.cells #[.int .u8 kd, .string tx, .slice pc nc cc, .slice pd nd cd] 47) = w2 := ⟨_, rfl⟩
    have hb2 : Below w1.heap.size w1 w2 := by rw [← hw2]; exact galloc (Below.refl _ _) _
    have hV2 : w2.heap[w1.heap.size]? = some (.cells #[.int .u8 kd, .string tx, .slice pc nc cc, .slice pd nd cd] 47 (0, 0)) := by rw [← hw2]; exact World.alloc_heap_new w1 _
    obtain ⟨V, hVe⟩ : ∃ V, w1.heap.size = V := ⟨_, rfl⟩
    rw [hVe] at hV2
    have hq := HQ.out w2 (by have := hb1.size; have := hb2.size; omega)
    rw [HO.out] at hq
    have HW2 := Lib.hid hw2
    have HVe := Lib.hid hVe
    have HV2 := Lib.hid hV2
    have HJ2 := Lib.hid (hj.any.below hb2)
    have HB2 := Lib.hid (gcall hb1 hb2)
    clear hp hv hj hb1 hw2 hb2 hV2 hVe
    go_wp2_with fail
    rw [HW2.out, HVe.out]
    refine hq.mono ?_
    rintro e w3 ⟨v, rfl, hv, hb3⟩
    obtain ⟨kd2, tx2, pc2, nc2, cc2, pd2, nd2, cd2, rfl, hj2⟩ := jval_four hv
    obtain ⟨w4, hw4⟩ : ∃ w4, w3.alloc (.cells #[.int .u8 kd2, .string tx2, .slice pc2 nc2 cc2, .slice pd2 nd2 cd2] 47) = w4 := ⟨_, rfl⟩
    have hb4 : Below w3.heap.size w3 w4 := by rw [← hw4]; exact galloc (Below.refl _ _) _
    have hV4 : w4.heap[w3.heap.size]? = some (.cells #[.int .u8 kd2, .string tx2, .slice pc2 nc2 cc2, .slice pd2 nd2 cd2] 47 (0, 0)) := by rw [← hw4]; exact World.alloc_heap_new w3 _
    have hV3 := ((gcall hb3 hb4).block V (Array.getElem?_eq_some_iff.1 HV2.out).1).trans HV2.out
    have hcall := same_any j j (by have := HBIG.out; rw [HO.out] at this; exact this) w4 _ _ (HJ2.out.below (gcall hb3 hb4)) (hj2.any.below hb4)
    rw [sameJ_self] at hcall
    obtain ⟨v0, v1, v2, v3⟩ : w4.cell? ⟨V, 0, none⟩ = some (.int .u8 kd) ∧ w4.cell? ⟨V, 1, none⟩ = some (.string tx) ∧ w4.cell? ⟨V, 2, none⟩ = some (.slice pc nc cc) ∧ w4.cell? ⟨V, 3, none⟩ = some (.slice pd nd cd) :=
      ⟨by rw [cellH hV3]; rfl, by rw [cellH hV3]; rfl, by rw [cellH hV3]; rfl, by rw [cellH hV3]; rfl⟩
    obtain ⟨U, hUe⟩ : ∃ U, w3.heap.size = U := ⟨_, rfl⟩
    rw [hUe] at hV4
    obtain ⟨u0, u1, u2, u3⟩ : w4.cell? ⟨U, 0, none⟩ = some (.int .u8 kd2) ∧ w4.cell? ⟨U, 1, none⟩ = some (.string tx2) ∧ w4.cell? ⟨U, 2, none⟩ = some (.slice pc2 nc2 cc2) ∧ w4.cell? ⟨U, 3, none⟩ = some (.slice pd2 nd2 cd2) :=
      ⟨by rw [cellH hV4]; rfl, by rw [cellH hV4]; rfl, by rw [cellH hV4]; rfl, by rw [cellH hV4]; rfl⟩
    have HB4 := Lib.hid (gcall HB2.out (gcall hb3 hb4))
    have ek : (k == k) = true := by simp
    clear hq hv hj2 hb3 hb4 hV4 hV3 HW2 HVe
    go_wp2_with fail
    refine hcall.mono ?_
    rintro e w5 ⟨rfl, hb5⟩
    have HB5 := Lib.hid (gcall HB4.out hb5)
    clear hb5 hcall
    go_wp2
    go_ret
    exact ⟨rfl, HB5.out⟩
end Go.Proofs.YtgcpgieojckheaaGreatDoor.Json
