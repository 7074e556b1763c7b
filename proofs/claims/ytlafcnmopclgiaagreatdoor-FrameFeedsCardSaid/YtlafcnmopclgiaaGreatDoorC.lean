/-
  begun: how many bytes at the end may be the beginning of a mark.
-/
import Derived.Test.YtlafcnmopclgiaaGreatDoorB
import Derived.Test.YtlafcnmopclgiaaGreatDoorShelf
namespace Go.Proofs.YtlafcnmopclgiaaGreatDoor
open Go.RowKit Go.Shelf

def nums (l : List UInt8) : List Int := l.map fun c => (c.toNat : Int)
theorem bytesOf_nums (l : List UInt8) : Lib.bytesOf (nums l) = l := by
  unfold Lib.bytesOf nums
  rw [List.map_map]
  conv => rhs; rw [← List.map_id l]
  refine List.map_congr_left fun c _ => ?_
  simp
theorem nums_len (l : List UInt8) : (nums l).length = l.length := by unfold nums; simp
theorem nums_get (l : List UInt8) (i : Nat) : (nums l).getD i 0 = ((l.getD i 0).toNat : Int) := by
  unfold nums
  rw [List.getD_eq_getElem?_getD, List.getElem?_map, List.getD_eq_getElem?_getD]
  cases l[i]? <;> simp
theorem nums_byte (l : List UInt8) : ∀ x ∈ nums l, 0 ≤ x ∧ x < 256 := by
  intro x hx
  unfold nums at hx
  obtain ⟨c, _, rfl⟩ := List.mem_map.1 hx
  have := c.toNat_lt
  omega
theorem bytesIn_below {w w' : World} {p : Option Addr} {n : Nat} {xs : List Int} (h : Lib.BytesIn w p n xs) (hb : Below w.heap.size w w') : Lib.BytesIn w' p n xs := by
  intro hn
  obtain ⟨b, o, h1, h2⟩ := h hn
  refine ⟨b, o, h1, fun i hi => ?_⟩
  have := h2 i hi
  have hlt := World.block_lt_of_cell? w _ this
  rw [World.cell?_of_block (hb.block _ hlt)]; exact this
theorem bytesIn_conv (w : World) (s : ByteArray) : Lib.BytesIn (Lib.bytesWorld w 5 s) (some ⟨w.heap.size, 0, none⟩) s.size (nums s.data.toList) := by
  intro _
  refine ⟨_, _, rfl, fun i hi => ?_⟩
  rw [Nat.zero_add, nums_get]
  exact Lib.bytesWorld_cell w 5 s i hi
set_option maxHeartbeats 1000000 in
theorem begun_any (w : World) (p : Option Addr) (l : List UInt8) (c : Nat) (hc : l.length ≤ c) (hz : l.length ≤ 1000000000) (hr : Lib.BytesIn w p l.length (nums l)) :
    Calls Tryz.prog 44 #[.slice p l.length c] w fun e w' => e = .returned (.int .i64 (begun l)) ∧ Below w.heap.size w w' := by
  have hcv := fun (wx : World) s => Lib.run_convert_string_bytes (P := Tryz.prog) wx 9 30 5 s Tryz.underlying9 Tryz.underlying30 Tryz.underlying5
  have hmin : min (l.length : Int) 14 = ((min l.length 14 : Nat) : Int) := by omega
  have HV : Hid (begunF l (min l.length 14) = begun l) := rfl
  generalize begun l = V at *
  generalize hM : min l.length 14 = M at *
  have hM14 : M ≤ 14 := by omega
  have HR := Lib.hid hr
  clear hr hM
  go_enter Tryz.func44, Tryz.ntmps44
  go_wp2_with fail
  go_loopw [3] (fun s wr => ∃ k : Nat, s = .int .i64 k ∧ k ≤ M ∧ Hid (begunF l k = V) ∧ Hid (Below w.heap.size w wr)) (fun s _ => (intOf s).toNat)
  case atStart => exact ⟨M, rfl, Nat.le_refl _, HV, Lib.hid (Below.refl _ _)⟩
  case round =>
    obtain ⟨k, rfl, hk, HK, HB⟩ := hrel
    have hk15 : (k : Int) ≤ 15 := by omega
    have hcv2 := hcv wr ((⟨#[67, 111, 110, 116, 101, 110, 116, 45, 76, 101, 110, 103, 116, 104, 58]⟩ : ByteArray).extract 0 k)
    have hsz : ((⟨#[67, 111, 110, 116, 101, 110, 116, 45, 76, 101, 110, 103, 116, 104, 58]⟩ : ByteArray).extract 0 k).size = k := by
      rw [ByteArray.size_extract]; show min k 15 - 0 = k; omega
    have hda : ((⟨#[67, 111, 110, 116, 101, 110, 116, 45, 76, 101, 110, 103, 116, 104, 58]⟩ : ByteArray).extract 0 k).data.toList = mark.take k := by
      rw [Lib.extract_from_zero]; rfl
    have hin := bytesIn_conv wr ((⟨#[67, 111, 110, 116, 101, 110, 116, 45, 76, 101, 110, 103, 116, 104, 58]⟩ : ByteArray).extract 0 k)
    have hb2 := bytesWorld_below wr 5 ((⟨#[67, 111, 110, 116, 101, 110, 116, 45, 76, 101, 110, 103, 116, 104, 58]⟩ : ByteArray).extract 0 k)
    rw [hda] at hin
    have hsf := Tryz.bytes_HasSuffix_all p (some ⟨wr.heap.size, 0, none⟩) l.length c k (grownCap wr k 0 5) (nums l) (nums (mark.take k)) (Lib.bytesWorld wr 5 ((⟨#[67, 111, 110, 116, 101, 110, 116, 45, 76, 101, 110, 103, 116, 104, 58]⟩ : ByteArray).extract 0 k)) (nums_len l)
      (by rw [nums_len, List.length_take]; show min k 15 = k; omega) hc (by omega) (bytesIn_below (bytesIn_below HR.out HB.out) (by
        have := hb2
        exact ⟨this.os, this.tape, this.output, this.size, fun j hj => this.block j hj⟩)) (by rw [hsz] at hin; exact hin)
    rw [bytesOf_nums, bytesOf_nums] at hsf
    rw [hsz] at hcv2
    have HIT : Hid (Lib.hasSuffix l (mark.take k) = true → begunF l k = k) := Lib.hid fun h => by
      cases k with
      | zero => rfl
      | succ k => unfold begunF; rw [if_pos h]
    have HMI : Hid (Lib.hasSuffix l (mark.take k) = false → ∃ j, k = j + 1 ∧ begunF l k = begunF l j) := Lib.hid fun h => by
      cases k with
      | zero => rw [List.take_zero] at h; unfold Lib.hasSuffix at h; simp at h
      | succ k => exact ⟨k, rfl, by rw [begunF, if_neg (by rw [h]; decide)]⟩
    have HB2 := Lib.hid (HB.out.trans (hb2.mono HB.out.size))
    clear hb2 hin hsz hda hcv
    generalize hS : ((⟨#[67, 111, 110, 116, 101, 110, 116, 45, 76, 101, 110, 103, 116, 104, 58]⟩ : ByteArray).extract 0 k) = S at *
    generalize Lib.bytesWorld wr 5 S = w2 at *
    generalize Lib.hasSuffix l (mark.take k) = Y at *
    cases Y with
    | true =>
      go_wp2_with fail
      refine hsf.mono ?_
      rintro e w' ⟨rfl, rfl⟩
      go_wp2_with fail
      go_ret
      exact ⟨by rw [← HK.out, HIT.out (by trivial)]; rfl, HB2.out⟩
    | false =>
      go_wp2_with fail
      refine hsf.mono ?_
      rintro e w' ⟨rfl, rfl⟩
      go_wp2_with fail
      obtain ⟨j, rfl, hj⟩ := HMI.out (by trivial)
      exact ⟨⟨j, by rw [show (((j + 1 : Nat) : Int) - 1) = (j : Int) by omega], by omega, Lib.hid (hj.symm.trans HK.out), HB2⟩, by simp [intOf]⟩
end Go.Proofs.YtlafcnmopclgiaaGreatDoor
