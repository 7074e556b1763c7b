/-
  The document's Text of a tree.
-/
import Derived.Test.YtingfomfibhnhaaGreatDoorMgHC
import Derived.Test.YtingfomfibhnhaaGreatDoorMgGZ
namespace Go.Proofs.YtingfomfibhnhaaGreatDoor
open Go.RowKit Go.Shelf

theorem bytes_join (l r : List UInt8) : (⟨l.toArray⟩ : ByteArray) ++ ⟨r.toArray⟩ = ⟨(l ++ r).toArray⟩ := by
  apply Utf.ba_ext
  simp
theorem textL_take {l : List T} {i : Nat} (hi : i < l.length) : textL (l.take (i + 1)) = textL (l.take i) ++ textT (l[i]'hi) := by
  have hs := textL_split (l.take (i + 1)) i (l[i]'hi) (by rw [List.getElem?_take_of_lt (by omega), List.getElem?_eq_getElem hi])
  rw [hs, List.take_take, Nat.min_eq_left (by omega), List.drop_eq_nil_of_le (by rw [List.length_take]; exact Nat.min_le_left _ _)]
  unfold textL
  rw [List.append_nil]
theorem textL_le (l : List T) (i : Nat) : (textL (l.take i)).length ≤ (textL l).length := by
  induction l generalizing i with
  | nil => simp
  | cons x r ih =>
    cases i with
    | zero => simp [textL]
    | succ i =>
      rw [List.take_succ_cons, textL_cons, textL_cons, List.length_append, List.length_append]
      have := ih i
      omega
set_option maxRecDepth 100000 in
set_option maxHeartbeats 8000000 in
theorem greft_one (x : T) (W : World) (p : Option Addr) (c : Nat) (hx : NAt AnyB W x (cellsN x p c)) (hc : x.kids.length ≤ 1000000000) (hz : sizeT x ≤ 1000000000)
    (HREC : Hid (∀ (i : Nat) y, x.kids[i]? = some y → sizeT y ≤ 1000000000 → ∀ (w : World) (p : Option Addr) (c : Nat), NAt AnyB w y (cellsN y p c) → Calls Tryz.prog 23 #[aggN y p c] w (BytesEnd (textT y) w))) :
    Calls Tryz.prog 23 #[aggN x p c] W (BytesEnd (textT x) W) := by
  obtain ⟨w1, hw1⟩ : ∃ w, W.alloc (.cells #[.int .u8 x.kind, .int .u8 x.tok.1, .string ⟨x.tok.2.toArray⟩, .slice p x.kids.length c] 27) = w := ⟨_, rfl⟩
  have n1 : w1.heap[W.heap.size]? = some (boxN x p c) := by rw [← hw1]; exact World.alloc_heap_new W _
  have b1 : Below W.heap.size W w1 := by rw [← hw1]; exact galloc (Below.refl _ _) _
  obtain ⟨c0, c1, c2, c3⟩ := box4 n1
  have HB1 := Lib.hid b1
  have HN1 := Lib.hid n1
  have HX := Lib.hid (hx.below b1)
  obtain ⟨R, hR⟩ : ∃ R : ByteArray, (⟨(textT x).toArray⟩ : ByteArray) = R := ⟨_, rfl⟩
  have HR := Lib.hid hR
  unfold BytesEnd
  rw [hR]
  clear n1 b1 hx hR
  by_cases hk2 : x.kind = 2
  · have hk3 : ((x.kind : Int) == 2) = true := by rw [hk2]; rfl
    have hr : R = ⟨#[]⟩ := by
      rw [← HR.out]
      obtain ⟨k, t, ks⟩ := x
      have hk2 : k = 2 := hk2
      subst hk2
      unfold textT; rw [if_pos rfl]
    subst hr
    clear hk2 HR
    go_enter Tryz.func23, Tryz.ntmps23
    go_wp2_with fail
    go_ret
    exact ⟨rfl, HB1.out⟩
  · have hk3 : ((x.kind : Int) == 2) = false := beq_eq_false_iff_ne.2 (by omega)
    have htx : textT x = textL x.kids ++ (if x.kind = 1 then x.tok.2 else []) := by
      obtain ⟨k, t, ks⟩ := x
      exact textT_mk t ks hk2
    have hzl : (textL x.kids).length + (if x.kind = 1 then x.tok.2 else []).length ≤ 1000000000 := by
      have := congrArg List.length htx
      rw [List.length_append] at this
      have hz2 : (textT x).length ≤ 1000000000 := hz
      omega
    have HTX := Lib.hid htx
    have HZL := Lib.hid hzl
    have HI0 : Hid (Below W.heap.size W w1 ∧ w1.heap[W.heap.size]? = some (boxN x p c) ∧ NAt AnyB w1 x (cellsN x p c)) := Lib.hid ⟨HB1.out, HN1.out, HX.out⟩
    have HO0 : (⟨#[]⟩ : ByteArray) = ⟨(textL (x.kids.take 0)).toArray⟩ := by rw [List.take_zero]; unfold textL; rfl
    have HO := Lib.hid HO0
    clear hk2 htx hzl hz HB1 HN1 HX HO0
    go_enter Tryz.func23, Tryz.ntmps23
    go_wp2_with fail
    go_loopw [3, 4] (fun ov iv wr => ∃ (i : Nat) (O : ByteArray), i ≤ x.kids.length ∧ iv = .int .i64 i ∧ ov = .string O ∧ Hid (O = ⟨(textL (x.kids.take i)).toArray⟩) ∧ Hid (Below W.heap.size W wr ∧ wr.heap[W.heap.size]? = some (boxN x p c) ∧ NAt AnyB wr x (cellsN x p c))) (fun _ iv _ => x.kids.length - (intOf iv).toNat)
    case atStart => exact ⟨0, _, by omega, rfl, rfl, HO, HI0⟩
    case round =>
      clear HI0 HO c0 c1 c2 c3
      obtain ⟨i, O, hi, rfl, rfl, HO, HI⟩ := hrel
      obtain ⟨c0, c1, c2, c3⟩ := box4 HI.out.2.1
      rcases Nat.lt_or_ge i x.kids.length with hlt | hge
      · have hlt' : (i : Int) < (x.kids.length : Int) := by omega
        have hwi : IntKind.i64.wrap ((i : Int) + 1) = ((i + 1 : Nat) : Int) := by rw [IntWalk.i64_in _ (by omega)]; omega
        obtain ⟨g1, o1, p1, c1', rfl, ⟨k0, k1, k2, k3⟩, hx1⟩ := node_kid HI.out.2.2 i hlt
        have ht := textL_take hlt
        have hle := textL_le x.kids (i + 1)
        have hlen : (textL (x.kids.take i)).length + (textT (x.kids[i]'hlt)).length ≤ 1000000000 := by
          have := congrArg List.length ht
          rw [List.length_append] at this
          have := HZL.out
          omega
        have hcall := HREC.out i _ (List.getElem?_eq_getElem hlt) (by show (textT _).length ≤ _; omega) wr p1 c1' hx1
        unfold BytesEnd at hcall
        obtain ⟨S, hS⟩ : ∃ S : ByteArray, (⟨(textT (x.kids[i]'hlt)).toArray⟩ : ByteArray) = S := ⟨_, rfl⟩
        rw [hS] at hcall
        have hOS : O.size + S.size ≤ 1000000000 := by rw [HO.out, ← hS, Lib.size_eq, Lib.size_eq]; simpa using hlen
        have hov : ¬ 9223372036854775807 < O.size + S.size := by omega
        obtain ⟨O2, hO2⟩ : ∃ Z : ByteArray, O ++ S = Z := ⟨_, rfl⟩
        have HO2 : Hid (O2 = ⟨(textL (x.kids.take (i + 1))).toArray⟩) := Lib.hid (by rw [← hO2, HO.out, ← hS, ht, bytes_join])
        clear hS ht hle hlen hOS hx1
        generalize x.kids[i]'hlt = y at *
        go_wp2_with fail
        refine hcall.mono ?_
        rintro e w5 ⟨rfl, h5⟩
        have HI5 : Hid (Below W.heap.size W w5 ∧ w5.heap[W.heap.size]? = some (boxN x (some ⟨g1, o1, none⟩) c) ∧ NAt AnyB w5 x (cellsN x (some ⟨g1, o1, none⟩) c)) := Lib.hid ⟨HI.out.1.trans (h5.mono HI.out.1.size), (h5.block _ (Array.getElem?_eq_some_iff.1 HI.out.2.1).1).trans HI.out.2.1, HI.out.2.2.below h5⟩
        clear h5 hcall HI HO HREC
        go_wp2
        exact ⟨⟨i + 1, O2, by omega, rfl, rfl, HO2, HI5⟩, by simp [intOf]; omega⟩
      · obtain rfl : i = x.kids.length := by omega
        have hlt' : ¬ (x.kids.length : Int) < (x.kids.length : Int) := by omega
        have hO := HO.out
        rw [List.take_length] at hO
        by_cases hk1 : x.kind = 1
        · have hk4 : ((x.kind : Int) == 1) = true := by rw [hk1]; rfl
          have hz2 := HZL.out
          rw [if_pos hk1] at hz2
          have hOS : O.size + (⟨x.tok.2.toArray⟩ : ByteArray).size ≤ 1000000000 := by rw [hO, Lib.size_eq, Lib.size_eq]; simpa using hz2
          have hOR : O ++ (⟨x.tok.2.toArray⟩ : ByteArray) = R := by rw [hO, bytes_join, ← HR.out, HTX.out, if_pos hk1]
          have hov : ¬ 9223372036854775807 < O.size + (⟨x.tok.2.toArray⟩ : ByteArray).size := by omega
          have HE := Lib.hid HI.out.1
          clear hz2 hOS hO HI HO HR HTX HREC hk1
          go_wp2
          go_ret
          exact ⟨rfl, HE.out⟩
        · have hk4 : ((x.kind : Int) == 1) = false := beq_eq_false_iff_ne.2 (by omega)
          have hOR : O = R := by rw [hO, ← HR.out, HTX.out, if_neg hk1, List.append_nil]
          have HE := Lib.hid HI.out.1
          subst hOR
          clear hO HI HO HR HTX HREC hk1
          go_wp2
          go_ret
          exact ⟨rfl, HE.out⟩
theorem size_kid {x : T} (hk : x.kind ≠ 2) {i : Nat} {y : T} (h : x.kids[i]? = some y) : sizeT y ≤ sizeT x := by have := text_len x i y hk h; omega
theorem greft_deep : ∀ (n : Nat) (x : T), countT x ≤ n → n ≤ 1000000000 → sizeT x ≤ 1000000000 → ∀ (W : World) (p : Option Addr) (c : Nat), NAt AnyB W x (cellsN x p c) → Calls Tryz.prog 23 #[aggN x p c] W (BytesEnd (textT x) W)
  | 0, .mk k t ks, hc, _, _, _, _, _, _ => by rw [countT_mk] at hc; omega
  | n + 1, .mk k t ks, hc, hn, hz, W, p, c, h => by
    rw [countT_mk] at hc
    have hl := counts_len ks
    refine greft_one (.mk k t ks) W p c h (by show ks.length ≤ _; omega) hz (Lib.hid fun i y hy hzy w p c h1 => greft_deep n y ?_ (by omega) hzy w p c h1)
    have := counts_at ks i y hy
    omega
theorem greft_any (x : T) (W : World) (p : Option Addr) (c : Nat) (hx : NAt AnyB W x (cellsN x p c)) (hc : countT x ≤ 1000000) (hz : sizeT x ≤ 1000000000) : Calls Tryz.prog 23 #[aggN x p c] W (BytesEnd (textT x) W) :=
  greft_deep _ x (Nat.le_refl _) (by omega) hz W p c hx
end Go.Proofs.YtingfomfibhnhaaGreatDoor
