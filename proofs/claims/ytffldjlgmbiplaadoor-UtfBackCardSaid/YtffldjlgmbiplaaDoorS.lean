/-
  The walk of the law UtfBack, by cases.
-/
import Derived.Test.YtffldjlgmbiplaaDoorR
namespace Go.Proofs.YtffldjlgmbiplaaDoor
open Go.RowKit

set_option maxRecDepth 100000 in
set_option maxHeartbeats 1600000 in
theorem back_ok_ok_none (s : ByteArray) (n p : Int) (w : World) (hT : Lib.Utf8Tabs 0 1 w) (h : s.size ≤ 3000) (hu : (unitS s n).2 = 0) (hv : (byteS s n).2 = 0) (hp : isPt p = false) :
    Calls Tryd.prog 6 #[.string s, .int .i64 n, .int .i64 p] w fun e w' => e = .returned (.bool true) ∧ Below w.heap.size w w' := by
  have h2 := tabs_size hT
  have cw := works_any
  have h3 : ¬ (3000 : Int) < s.size := by omega
  have c14 := fun w hT => unit_any s n w (by omega) hT
  have c15 := fun w hT => byte_any s n w (by omega) hT
  have c15u := fun w hT => byte_any s (unitS s n).1 w (by omega) hT
  simp only [unit_back (s := s) (by omega) hu] at c15u
  simp only [hu] at c14
  have c14b := fun w hT => unit_any s (byteS s n).1 w (by omega) hT
  simp only [byte_back (s := s) (by omega) hv] at c14b
  simp only [hv] at c15
  clear hu hv
  generalize (unitS s n).1 = u at *
  generalize (byteS s n).1 = b at *
  have c10 := put_any p
  rw [show putB p = ⟨#[]⟩ by simp [putB, hp]] at c10
  clear hp
  clear h
  go_enter Tryd.func6, Tryd.ntmps6
  go_wp2_with fail
  refine (cw _ hT).mono ?_
  rintro e w1 ⟨rfl, hb1⟩
  go_wp2_with fail
  refine (c14 _ (tabs_below hT hb1 h2)).mono ?_
  rintro e w2 ⟨rfl, hb2'⟩
  have hb2 := hb1.trans (hb2'.mono hb1.size)
  go_wp2_with fail
  refine (c15u _ (tabs_below hT hb2 h2)).mono ?_
  rintro e w3 ⟨rfl, hb3'⟩
  have hb3 := hb2.trans (hb3'.mono hb2.size)
  go_wp2_with fail
  refine (c15 _ (tabs_below hT hb3 h2)).mono ?_
  rintro e w4 ⟨rfl, hb4'⟩
  have hb4 := hb3.trans (hb4'.mono hb3.size)
  go_wp2_with fail
  refine (c14b _ (tabs_below hT hb4 h2)).mono ?_
  rintro e w5 ⟨rfl, hb5'⟩
  have hb5 := hb4.trans (hb5'.mono hb4.size)
  go_wp2_with fail
  refine (c10 _).mono ?_
  rintro e w' ⟨rfl, rfl⟩
  go_wp2
  go_ret
  exact ⟨rfl, hb5⟩
set_option maxRecDepth 100000 in
set_option maxHeartbeats 1600000 in
theorem back_ok_ok_low (s : ByteArray) (n p : Int) (w : World) (hT : Lib.Utf8Tabs 0 1 w) (h : s.size ≤ 3000) (hu : (unitS s n).2 = 0) (hv : (byteS s n).2 = 0) (hp : isPt p = true) (hq : ¬ 65536 ≤ p) :
    Calls Tryd.prog 6 #[.string s, .int .i64 n, .int .i64 p] w fun e w' => e = .returned (.bool true) ∧ Below w.heap.size w w' := by
  have h2 := tabs_size hT
  have cw := works_any
  have h3 : ¬ (3000 : Int) < s.size := by omega
  have c14 := fun w hT => unit_any s n w (by omega) hT
  have c15 := fun w hT => byte_any s n w (by omega) hT
  have c15u := fun w hT => byte_any s (unitS s n).1 w (by omega) hT
  simp only [unit_back (s := s) (by omega) hu] at c15u
  simp only [hu] at c14
  have c14b := fun w hT => unit_any s (byteS s n).1 w (by omega) hT
  simp only [byte_back (s := s) (by omega) hv] at c14b
  simp only [hv] at c15
  clear hu hv
  generalize (unitS s n).1 = u at *
  generalize (byteS s n).1 = b at *
  have c10 := put_any p
  obtain ⟨r1, r2, r3, r4, _⟩ := put_rune p hp
  have hpt := of_decide_eq_true hp
  have c9 := fun w hT => rune_any (putB p ++ s) w hT
  have ra := rune_append (putB p) s (by omega) (by omega)
  simp only [ra.1, ra.2, r1, r2] at c9
  have c11 := halves_any p
  have c12 := pair_any (halfH p) (halfL p)
  have pq := put_pair p hp
  rw [decide_eq_false hq] at pq
  simp only [pq.1] at c12
  have c18 := fun w hT => valid_any (putB p) w (by omega) hT
  simp only [put_valid p hp] at c18
  have c13 := fun w hT => len_any (putB p) w (by omega) hT
  simp only [put_units p hp, if_neg hq] at c13
  have hne := isEmpty_no (s := putB p) (by omega)
  clear ra r1 r2 pq hp hq hpt
  generalize putB p = t at *
  generalize halfH p = x at *
  generalize halfL p = y at *
  generalize pairP x y = q at *
  clear h
  go_enter Tryd.func6, Tryd.ntmps6
  go_wp2_with fail
  refine (cw _ hT).mono ?_
  rintro e w1 ⟨rfl, hb1⟩
  go_wp2_with fail
  refine (c14 _ (tabs_below hT hb1 h2)).mono ?_
  rintro e w2 ⟨rfl, hb2'⟩
  have hb2 := hb1.trans (hb2'.mono hb1.size)
  go_wp2_with fail
  refine (c15u _ (tabs_below hT hb2 h2)).mono ?_
  rintro e w3 ⟨rfl, hb3'⟩
  have hb3 := hb2.trans (hb3'.mono hb2.size)
  go_wp2_with fail
  refine (c15 _ (tabs_below hT hb3 h2)).mono ?_
  rintro e w4 ⟨rfl, hb4'⟩
  have hb4 := hb3.trans (hb4'.mono hb3.size)
  go_wp2_with fail
  refine (c14b _ (tabs_below hT hb4 h2)).mono ?_
  rintro e w5 ⟨rfl, hb5'⟩
  have hb5 := hb4.trans (hb5'.mono hb4.size)
  go_wp2_with fail
  refine (c10 _).mono ?_
  rintro e w' ⟨rfl, rfl⟩
  go_wp2_with fail
  refine (c9 _ (tabs_below hT hb5 h2)).mono ?_
  rintro e w6 ⟨rfl, hb6'⟩
  have hb6 := hb5.trans (hb6'.mono hb5.size)
  go_wp2_with fail
  refine (c11 _).mono ?_
  rintro e w' ⟨rfl, rfl⟩
  go_wp2_with fail
  refine (c12 _).mono ?_
  rintro e w' ⟨rfl, rfl⟩
  go_wp2_with fail
  refine (c18 _ (tabs_below hT hb6 h2)).mono ?_
  rintro e w7 ⟨rfl, hb7'⟩
  have hb7 := hb6.trans (hb7'.mono hb6.size)
  go_wp2_with fail
  refine (c13 _ (tabs_below hT hb7 h2)).mono ?_
  rintro e w8 ⟨rfl, hb8'⟩
  have hb8 := hb7.trans (hb8'.mono hb7.size)
  go_wp2
  go_ret
  exact ⟨rfl, hb8⟩
set_option maxRecDepth 100000 in
set_option maxHeartbeats 1600000 in
theorem back_ok_ok_high (s : ByteArray) (n p : Int) (w : World) (hT : Lib.Utf8Tabs 0 1 w) (h : s.size ≤ 3000) (hu : (unitS s n).2 = 0) (hv : (byteS s n).2 = 0) (hp : isPt p = true) (hq : 65536 ≤ p) :
    Calls Tryd.prog 6 #[.string s, .int .i64 n, .int .i64 p] w fun e w' => e = .returned (.bool true) ∧ Below w.heap.size w w' := by
  have h2 := tabs_size hT
  have cw := works_any
  have h3 : ¬ (3000 : Int) < s.size := by omega
  have c14 := fun w hT => unit_any s n w (by omega) hT
  have c15 := fun w hT => byte_any s n w (by omega) hT
  have c15u := fun w hT => byte_any s (unitS s n).1 w (by omega) hT
  simp only [unit_back (s := s) (by omega) hu] at c15u
  simp only [hu] at c14
  have c14b := fun w hT => unit_any s (byteS s n).1 w (by omega) hT
  simp only [byte_back (s := s) (by omega) hv] at c14b
  simp only [hv] at c15
  clear hu hv
  generalize (unitS s n).1 = u at *
  generalize (byteS s n).1 = b at *
  have c10 := put_any p
  obtain ⟨r1, r2, r3, r4, _⟩ := put_rune p hp
  have hpt := of_decide_eq_true hp
  have c9 := fun w hT => rune_any (putB p ++ s) w hT
  have ra := rune_append (putB p) s (by omega) (by omega)
  simp only [ra.1, ra.2, r1, r2] at c9
  have c11 := halves_any p
  have c12 := pair_any (halfH p) (halfL p)
  have pq := put_pair p hp
  rw [decide_eq_true hq] at pq
  simp only [pq.1, pq.2 hq] at c12
  have c18 := fun w hT => valid_any (putB p) w (by omega) hT
  simp only [put_valid p hp] at c18
  have c13 := fun w hT => len_any (putB p) w (by omega) hT
  simp only [put_units p hp, if_pos hq] at c13
  have hne := isEmpty_no (s := putB p) (by omega)
  clear ra r1 r2 pq hp hq hpt
  generalize putB p = t at *
  generalize halfH p = x at *
  generalize halfL p = y at *
  clear h
  go_enter Tryd.func6, Tryd.ntmps6
  go_wp2_with fail
  refine (cw _ hT).mono ?_
  rintro e w1 ⟨rfl, hb1⟩
  go_wp2_with fail
  refine (c14 _ (tabs_below hT hb1 h2)).mono ?_
  rintro e w2 ⟨rfl, hb2'⟩
  have hb2 := hb1.trans (hb2'.mono hb1.size)
  go_wp2_with fail
  refine (c15u _ (tabs_below hT hb2 h2)).mono ?_
  rintro e w3 ⟨rfl, hb3'⟩
  have hb3 := hb2.trans (hb3'.mono hb2.size)
  go_wp2_with fail
  refine (c15 _ (tabs_below hT hb3 h2)).mono ?_
  rintro e w4 ⟨rfl, hb4'⟩
  have hb4 := hb3.trans (hb4'.mono hb3.size)
  go_wp2_with fail
  refine (c14b _ (tabs_below hT hb4 h2)).mono ?_
  rintro e w5 ⟨rfl, hb5'⟩
  have hb5 := hb4.trans (hb5'.mono hb4.size)
  go_wp2_with fail
  refine (c10 _).mono ?_
  rintro e w' ⟨rfl, rfl⟩
  go_wp2_with fail
  refine (c9 _ (tabs_below hT hb5 h2)).mono ?_
  rintro e w6 ⟨rfl, hb6'⟩
  have hb6 := hb5.trans (hb6'.mono hb5.size)
  go_wp2_with fail
  refine (c11 _).mono ?_
  rintro e w' ⟨rfl, rfl⟩
  go_wp2_with fail
  refine (c12 _).mono ?_
  rintro e w' ⟨rfl, rfl⟩
  go_wp2_with fail
  refine (c18 _ (tabs_below hT hb6 h2)).mono ?_
  rintro e w7 ⟨rfl, hb7'⟩
  have hb7 := hb6.trans (hb7'.mono hb6.size)
  go_wp2_with fail
  refine (c13 _ (tabs_below hT hb7 h2)).mono ?_
  rintro e w8 ⟨rfl, hb8'⟩
  have hb8 := hb7.trans (hb8'.mono hb7.size)
  go_wp2
  go_ret
  exact ⟨rfl, hb8⟩
set_option maxRecDepth 100000 in
set_option maxHeartbeats 1600000 in
theorem back_ok_no_none (s : ByteArray) (n p : Int) (w : World) (hT : Lib.Utf8Tabs 0 1 w) (h : s.size ≤ 3000) (hu : (unitS s n).2 = 0) (hv : ¬ (byteS s n).2 = 0) (hp : isPt p = false) :
    Calls Tryd.prog 6 #[.string s, .int .i64 n, .int .i64 p] w fun e w' => e = .returned (.bool true) ∧ Below w.heap.size w w' := by
  have h2 := tabs_size hT
  have cw := works_any
  have h3 : ¬ (3000 : Int) < s.size := by omega
  have c14 := fun w hT => unit_any s n w (by omega) hT
  have c15 := fun w hT => byte_any s n w (by omega) hT
  have c15u := fun w hT => byte_any s (unitS s n).1 w (by omega) hT
  simp only [unit_back (s := s) (by omega) hu] at c15u
  simp only [hu] at c14
  have hbv : ((byteS s n).2 == 0) = false := beq_eq_false_iff_ne.2 hv
  generalize (byteS s n).2 = e2 at c15 hbv
  clear hu hv
  generalize (unitS s n).1 = u at *
  generalize (byteS s n).1 = b at *
  have c10 := put_any p
  rw [show putB p = ⟨#[]⟩ by simp [putB, hp]] at c10
  clear hp
  clear h
  go_enter Tryd.func6, Tryd.ntmps6
  go_wp2_with fail
  refine (cw _ hT).mono ?_
  rintro e w1 ⟨rfl, hb1⟩
  go_wp2_with fail
  refine (c14 _ (tabs_below hT hb1 h2)).mono ?_
  rintro e w2 ⟨rfl, hb2'⟩
  have hb2 := hb1.trans (hb2'.mono hb1.size)
  go_wp2_with fail
  refine (c15u _ (tabs_below hT hb2 h2)).mono ?_
  rintro e w3 ⟨rfl, hb3'⟩
  have hb3 := hb2.trans (hb3'.mono hb2.size)
  go_wp2_with fail
  refine (c15 _ (tabs_below hT hb3 h2)).mono ?_
  rintro e w4 ⟨rfl, hb4'⟩
  have hb4 := hb3.trans (hb4'.mono hb3.size)
  go_wp2_with fail
  refine (c10 _).mono ?_
  rintro e w' ⟨rfl, rfl⟩
  go_wp2
  go_ret
  exact ⟨rfl, hb4⟩
set_option maxRecDepth 100000 in
set_option maxHeartbeats 1600000 in
theorem back_ok_no_low (s : ByteArray) (n p : Int) (w : World) (hT : Lib.Utf8Tabs 0 1 w) (h : s.size ≤ 3000) (hu : (unitS s n).2 = 0) (hv : ¬ (byteS s n).2 = 0) (hp : isPt p = true) (hq : ¬ 65536 ≤ p) :
    Calls Tryd.prog 6 #[.string s, .int .i64 n, .int .i64 p] w fun e w' => e = .returned (.bool true) ∧ Below w.heap.size w w' := by
  have h2 := tabs_size hT
  have cw := works_any
  have h3 : ¬ (3000 : Int) < s.size := by omega
  have c14 := fun w hT => unit_any s n w (by omega) hT
  have c15 := fun w hT => byte_any s n w (by omega) hT
  have c15u := fun w hT => byte_any s (unitS s n).1 w (by omega) hT
  simp only [unit_back (s := s) (by omega) hu] at c15u
  simp only [hu] at c14
  have hbv : ((byteS s n).2 == 0) = false := beq_eq_false_iff_ne.2 hv
  generalize (byteS s n).2 = e2 at c15 hbv
  clear hu hv
  generalize (unitS s n).1 = u at *
  generalize (byteS s n).1 = b at *
  have c10 := put_any p
  obtain ⟨r1, r2, r3, r4, _⟩ := put_rune p hp
  have hpt := of_decide_eq_true hp
  have c9 := fun w hT => rune_any (putB p ++ s) w hT
  have ra := rune_append (putB p) s (by omega) (by omega)
  simp only [ra.1, ra.2, r1, r2] at c9
  have c11 := halves_any p
  have c12 := pair_any (halfH p) (halfL p)
  have pq := put_pair p hp
  rw [decide_eq_false hq] at pq
  simp only [pq.1] at c12
  have c18 := fun w hT => valid_any (putB p) w (by omega) hT
  simp only [put_valid p hp] at c18
  have c13 := fun w hT => len_any (putB p) w (by omega) hT
  simp only [put_units p hp, if_neg hq] at c13
  have hne := isEmpty_no (s := putB p) (by omega)
  clear ra r1 r2 pq hp hq hpt
  generalize putB p = t at *
  generalize halfH p = x at *
  generalize halfL p = y at *
  generalize pairP x y = q at *
  clear h
  go_enter Tryd.func6, Tryd.ntmps6
  go_wp2_with fail
  refine (cw _ hT).mono ?_
  rintro e w1 ⟨rfl, hb1⟩
  go_wp2_with fail
  refine (c14 _ (tabs_below hT hb1 h2)).mono ?_
  rintro e w2 ⟨rfl, hb2'⟩
  have hb2 := hb1.trans (hb2'.mono hb1.size)
  go_wp2_with fail
  refine (c15u _ (tabs_below hT hb2 h2)).mono ?_
  rintro e w3 ⟨rfl, hb3'⟩
  have hb3 := hb2.trans (hb3'.mono hb2.size)
  go_wp2_with fail
  refine (c15 _ (tabs_below hT hb3 h2)).mono ?_
  rintro e w4 ⟨rfl, hb4'⟩
  have hb4 := hb3.trans (hb4'.mono hb3.size)
  go_wp2_with fail
  refine (c10 _).mono ?_
  rintro e w' ⟨rfl, rfl⟩
  go_wp2_with fail
  refine (c9 _ (tabs_below hT hb4 h2)).mono ?_
  rintro e w5 ⟨rfl, hb5'⟩
  have hb5 := hb4.trans (hb5'.mono hb4.size)
  go_wp2_with fail
  refine (c11 _).mono ?_
  rintro e w' ⟨rfl, rfl⟩
  go_wp2_with fail
  refine (c12 _).mono ?_
  rintro e w' ⟨rfl, rfl⟩
  go_wp2_with fail
  refine (c18 _ (tabs_below hT hb5 h2)).mono ?_
  rintro e w6 ⟨rfl, hb6'⟩
  have hb6 := hb5.trans (hb6'.mono hb5.size)
  go_wp2_with fail
  refine (c13 _ (tabs_below hT hb6 h2)).mono ?_
  rintro e w7 ⟨rfl, hb7'⟩
  have hb7 := hb6.trans (hb7'.mono hb6.size)
  go_wp2
  go_ret
  exact ⟨rfl, hb7⟩
set_option maxRecDepth 100000 in
set_option maxHeartbeats 1600000 in
theorem back_ok_no_high (s : ByteArray) (n p : Int) (w : World) (hT : Lib.Utf8Tabs 0 1 w) (h : s.size ≤ 3000) (hu : (unitS s n).2 = 0) (hv : ¬ (byteS s n).2 = 0) (hp : isPt p = true) (hq : 65536 ≤ p) :
    Calls Tryd.prog 6 #[.string s, .int .i64 n, .int .i64 p] w fun e w' => e = .returned (.bool true) ∧ Below w.heap.size w w' := by
  have h2 := tabs_size hT
  have cw := works_any
  have h3 : ¬ (3000 : Int) < s.size := by omega
  have c14 := fun w hT => unit_any s n w (by omega) hT
  have c15 := fun w hT => byte_any s n w (by omega) hT
  have c15u := fun w hT => byte_any s (unitS s n).1 w (by omega) hT
  simp only [unit_back (s := s) (by omega) hu] at c15u
  simp only [hu] at c14
  have hbv : ((byteS s n).2 == 0) = false := beq_eq_false_iff_ne.2 hv
  generalize (byteS s n).2 = e2 at c15 hbv
  clear hu hv
  generalize (unitS s n).1 = u at *
  generalize (byteS s n).1 = b at *
  have c10 := put_any p
  obtain ⟨r1, r2, r3, r4, _⟩ := put_rune p hp
  have hpt := of_decide_eq_true hp
  have c9 := fun w hT => rune_any (putB p ++ s) w hT
  have ra := rune_append (putB p) s (by omega) (by omega)
  simp only [ra.1, ra.2, r1, r2] at c9
  have c11 := halves_any p
  have c12 := pair_any (halfH p) (halfL p)
  have pq := put_pair p hp
  rw [decide_eq_true hq] at pq
  simp only [pq.1, pq.2 hq] at c12
  have c18 := fun w hT => valid_any (putB p) w (by omega) hT
  simp only [put_valid p hp] at c18
  have c13 := fun w hT => len_any (putB p) w (by omega) hT
  simp only [put_units p hp, if_pos hq] at c13
  have hne := isEmpty_no (s := putB p) (by omega)
  clear ra r1 r2 pq hp hq hpt
  generalize putB p = t at *
  generalize halfH p = x at *
  generalize halfL p = y at *
  clear h
  go_enter Tryd.func6, Tryd.ntmps6
  go_wp2_with fail
  refine (cw _ hT).mono ?_
  rintro e w1 ⟨rfl, hb1⟩
  go_wp2_with fail
  refine (c14 _ (tabs_below hT hb1 h2)).mono ?_
  rintro e w2 ⟨rfl, hb2'⟩
  have hb2 := hb1.trans (hb2'.mono hb1.size)
  go_wp2_with fail
  refine (c15u _ (tabs_below hT hb2 h2)).mono ?_
  rintro e w3 ⟨rfl, hb3'⟩
  have hb3 := hb2.trans (hb3'.mono hb2.size)
  go_wp2_with fail
  refine (c15 _ (tabs_below hT hb3 h2)).mono ?_
  rintro e w4 ⟨rfl, hb4'⟩
  have hb4 := hb3.trans (hb4'.mono hb3.size)
  go_wp2_with fail
  refine (c10 _).mono ?_
  rintro e w' ⟨rfl, rfl⟩
  go_wp2_with fail
  refine (c9 _ (tabs_below hT hb4 h2)).mono ?_
  rintro e w5 ⟨rfl, hb5'⟩
  have hb5 := hb4.trans (hb5'.mono hb4.size)
  go_wp2_with fail
  refine (c11 _).mono ?_
  rintro e w' ⟨rfl, rfl⟩
  go_wp2_with fail
  refine (c12 _).mono ?_
  rintro e w' ⟨rfl, rfl⟩
  go_wp2_with fail
  refine (c18 _ (tabs_below hT hb5 h2)).mono ?_
  rintro e w6 ⟨rfl, hb6'⟩
  have hb6 := hb5.trans (hb6'.mono hb5.size)
  go_wp2_with fail
  refine (c13 _ (tabs_below hT hb6 h2)).mono ?_
  rintro e w7 ⟨rfl, hb7'⟩
  have hb7 := hb6.trans (hb7'.mono hb6.size)
  go_wp2
  go_ret
  exact ⟨rfl, hb7⟩
set_option maxRecDepth 100000 in
set_option maxHeartbeats 1600000 in
theorem back_no_ok_none (s : ByteArray) (n p : Int) (w : World) (hT : Lib.Utf8Tabs 0 1 w) (h : s.size ≤ 3000) (hu : ¬ (unitS s n).2 = 0) (hv : (byteS s n).2 = 0) (hp : isPt p = false) :
    Calls Tryd.prog 6 #[.string s, .int .i64 n, .int .i64 p] w fun e w' => e = .returned (.bool true) ∧ Below w.heap.size w w' := by
  have h2 := tabs_size hT
  have cw := works_any
  have h3 : ¬ (3000 : Int) < s.size := by omega
  have c14 := fun w hT => unit_any s n w (by omega) hT
  have c15 := fun w hT => byte_any s n w (by omega) hT
  have c14b := fun w hT => unit_any s (byteS s n).1 w (by omega) hT
  simp only [byte_back (s := s) (by omega) hv] at c14b
  simp only [hv] at c15
  have hbu : ((unitS s n).2 == 0) = false := beq_eq_false_iff_ne.2 hu
  generalize (unitS s n).2 = e1 at c14 hbu
  clear hu hv
  generalize (unitS s n).1 = u at *
  generalize (byteS s n).1 = b at *
  have c10 := put_any p
  rw [show putB p = ⟨#[]⟩ by simp [putB, hp]] at c10
  clear hp
  clear h
  go_enter Tryd.func6, Tryd.ntmps6
  go_wp2_with fail
  refine (cw _ hT).mono ?_
  rintro e w1 ⟨rfl, hb1⟩
  go_wp2_with fail
  refine (c14 _ (tabs_below hT hb1 h2)).mono ?_
  rintro e w2 ⟨rfl, hb2'⟩
  have hb2 := hb1.trans (hb2'.mono hb1.size)
  go_wp2_with fail
  refine (c15 _ (tabs_below hT hb2 h2)).mono ?_
  rintro e w3 ⟨rfl, hb3'⟩
  have hb3 := hb2.trans (hb3'.mono hb2.size)
  go_wp2_with fail
  refine (c14b _ (tabs_below hT hb3 h2)).mono ?_
  rintro e w4 ⟨rfl, hb4'⟩
  have hb4 := hb3.trans (hb4'.mono hb3.size)
  go_wp2_with fail
  refine (c10 _).mono ?_
  rintro e w' ⟨rfl, rfl⟩
  go_wp2
  go_ret
  exact ⟨rfl, hb4⟩
set_option maxRecDepth 100000 in
set_option maxHeartbeats 1600000 in
theorem back_no_ok_low (s : ByteArray) (n p : Int) (w : World) (hT : Lib.Utf8Tabs 0 1 w) (h : s.size ≤ 3000) (hu : ¬ (unitS s n).2 = 0) (hv : (byteS s n).2 = 0) (hp : isPt p = true) (hq : ¬ 65536 ≤ p) :
    Calls Tryd.prog 6 #[.string s, .int .i64 n, .int .i64 p] w fun e w' => e = .returned (.bool true) ∧ Below w.heap.size w w' := by
  have h2 := tabs_size hT
  have cw := works_any
  have h3 : ¬ (3000 : Int) < s.size := by omega
  have c14 := fun w hT => unit_any s n w (by omega) hT
  have c15 := fun w hT => byte_any s n w (by omega) hT
  have c14b := fun w hT => unit_any s (byteS s n).1 w (by omega) hT
  simp only [byte_back (s := s) (by omega) hv] at c14b
  simp only [hv] at c15
  have hbu : ((unitS s n).2 == 0) = false := beq_eq_false_iff_ne.2 hu
  generalize (unitS s n).2 = e1 at c14 hbu
  clear hu hv
  generalize (unitS s n).1 = u at *
  generalize (byteS s n).1 = b at *
  have c10 := put_any p
  obtain ⟨r1, r2, r3, r4, _⟩ := put_rune p hp
  have hpt := of_decide_eq_true hp
  have c9 := fun w hT => rune_any (putB p ++ s) w hT
  have ra := rune_append (putB p) s (by omega) (by omega)
  simp only [ra.1, ra.2, r1, r2] at c9
  have c11 := halves_any p
  have c12 := pair_any (halfH p) (halfL p)
  have pq := put_pair p hp
  rw [decide_eq_false hq] at pq
  simp only [pq.1] at c12
  have c18 := fun w hT => valid_any (putB p) w (by omega) hT
  simp only [put_valid p hp] at c18
  have c13 := fun w hT => len_any (putB p) w (by omega) hT
  simp only [put_units p hp, if_neg hq] at c13
  have hne := isEmpty_no (s := putB p) (by omega)
  clear ra r1 r2 pq hp hq hpt
  generalize putB p = t at *
  generalize halfH p = x at *
  generalize halfL p = y at *
  generalize pairP x y = q at *
  clear h
  go_enter Tryd.func6, Tryd.ntmps6
  go_wp2_with fail
  refine (cw _ hT).mono ?_
  rintro e w1 ⟨rfl, hb1⟩
  go_wp2_with fail
  refine (c14 _ (tabs_below hT hb1 h2)).mono ?_
  rintro e w2 ⟨rfl, hb2'⟩
  have hb2 := hb1.trans (hb2'.mono hb1.size)
  go_wp2_with fail
  refine (c15 _ (tabs_below hT hb2 h2)).mono ?_
  rintro e w3 ⟨rfl, hb3'⟩
  have hb3 := hb2.trans (hb3'.mono hb2.size)
  go_wp2_with fail
  refine (c14b _ (tabs_below hT hb3 h2)).mono ?_
  rintro e w4 ⟨rfl, hb4'⟩
  have hb4 := hb3.trans (hb4'.mono hb3.size)
  go_wp2_with fail
  refine (c10 _).mono ?_
  rintro e w' ⟨rfl, rfl⟩
  go_wp2_with fail
  refine (c9 _ (tabs_below hT hb4 h2)).mono ?_
  rintro e w5 ⟨rfl, hb5'⟩
  have hb5 := hb4.trans (hb5'.mono hb4.size)
  go_wp2_with fail
  refine (c11 _).mono ?_
  rintro e w' ⟨rfl, rfl⟩
  go_wp2_with fail
  refine (c12 _).mono ?_
  rintro e w' ⟨rfl, rfl⟩
  go_wp2_with fail
  refine (c18 _ (tabs_below hT hb5 h2)).mono ?_
  rintro e w6 ⟨rfl, hb6'⟩
  have hb6 := hb5.trans (hb6'.mono hb5.size)
  go_wp2_with fail
  refine (c13 _ (tabs_below hT hb6 h2)).mono ?_
  rintro e w7 ⟨rfl, hb7'⟩
  have hb7 := hb6.trans (hb7'.mono hb6.size)
  go_wp2
  go_ret
  exact ⟨rfl, hb7⟩
set_option maxRecDepth 100000 in
set_option maxHeartbeats 1600000 in
theorem back_no_ok_high (s : ByteArray) (n p : Int) (w : World) (hT : Lib.Utf8Tabs 0 1 w) (h : s.size ≤ 3000) (hu : ¬ (unitS s n).2 = 0) (hv : (byteS s n).2 = 0) (hp : isPt p = true) (hq : 65536 ≤ p) :
    Calls Tryd.prog 6 #[.string s, .int .i64 n, .int .i64 p] w fun e w' => e = .returned (.bool true) ∧ Below w.heap.size w w' := by
  have h2 := tabs_size hT
  have cw := works_any
  have h3 : ¬ (3000 : Int) < s.size := by omega
  have c14 := fun w hT => unit_any s n w (by omega) hT
  have c15 := fun w hT => byte_any s n w (by omega) hT
  have c14b := fun w hT => unit_any s (byteS s n).1 w (by omega) hT
  simp only [byte_back (s := s) (by omega) hv] at c14b
  simp only [hv] at c15
  have hbu : ((unitS s n).2 == 0) = false := beq_eq_false_iff_ne.2 hu
  generalize (unitS s n).2 = e1 at c14 hbu
  clear hu hv
  generalize (unitS s n).1 = u at *
  generalize (byteS s n).1 = b at *
  have c10 := put_any p
  obtain ⟨r1, r2, r3, r4, _⟩ := put_rune p hp
  have hpt := of_decide_eq_true hp
  have c9 := fun w hT => rune_any (putB p ++ s) w hT
  have ra := rune_append (putB p) s (by omega) (by omega)
  simp only [ra.1, ra.2, r1, r2] at c9
  have c11 := halves_any p
  have c12 := pair_any (halfH p) (halfL p)
  have pq := put_pair p hp
  rw [decide_eq_true hq] at pq
  simp only [pq.1, pq.2 hq] at c12
  have c18 := fun w hT => valid_any (putB p) w (by omega) hT
  simp only [put_valid p hp] at c18
  have c13 := fun w hT => len_any (putB p) w (by omega) hT
  simp only [put_units p hp, if_pos hq] at c13
  have hne := isEmpty_no (s := putB p) (by omega)
  clear ra r1 r2 pq hp hq hpt
  generalize putB p = t at *
  generalize halfH p = x at *
  generalize halfL p = y at *
  clear h
  go_enter Tryd.func6, Tryd.ntmps6
  go_wp2_with fail
  refine (cw _ hT).mono ?_
  rintro e w1 ⟨rfl, hb1⟩
  go_wp2_with fail
  refine (c14 _ (tabs_below hT hb1 h2)).mono ?_
  rintro e w2 ⟨rfl, hb2'⟩
  have hb2 := hb1.trans (hb2'.mono hb1.size)
  go_wp2_with fail
  refine (c15 _ (tabs_below hT hb2 h2)).mono ?_
  rintro e w3 ⟨rfl, hb3'⟩
  have hb3 := hb2.trans (hb3'.mono hb2.size)
  go_wp2_with fail
  refine (c14b _ (tabs_below hT hb3 h2)).mono ?_
  rintro e w4 ⟨rfl, hb4'⟩
  have hb4 := hb3.trans (hb4'.mono hb3.size)
  go_wp2_with fail
  refine (c10 _).mono ?_
  rintro e w' ⟨rfl, rfl⟩
  go_wp2_with fail
  refine (c9 _ (tabs_below hT hb4 h2)).mono ?_
  rintro e w5 ⟨rfl, hb5'⟩
  have hb5 := hb4.trans (hb5'.mono hb4.size)
  go_wp2_with fail
  refine (c11 _).mono ?_
  rintro e w' ⟨rfl, rfl⟩
  go_wp2_with fail
  refine (c12 _).mono ?_
  rintro e w' ⟨rfl, rfl⟩
  go_wp2_with fail
  refine (c18 _ (tabs_below hT hb5 h2)).mono ?_
  rintro e w6 ⟨rfl, hb6'⟩
  have hb6 := hb5.trans (hb6'.mono hb5.size)
  go_wp2_with fail
  refine (c13 _ (tabs_below hT hb6 h2)).mono ?_
  rintro e w7 ⟨rfl, hb7'⟩
  have hb7 := hb6.trans (hb7'.mono hb6.size)
  go_wp2
  go_ret
  exact ⟨rfl, hb7⟩
set_option maxRecDepth 100000 in
set_option maxHeartbeats 1600000 in
theorem back_no_no_none (s : ByteArray) (n p : Int) (w : World) (hT : Lib.Utf8Tabs 0 1 w) (h : s.size ≤ 3000) (hu : ¬ (unitS s n).2 = 0) (hv : ¬ (byteS s n).2 = 0) (hp : isPt p = false) :
    Calls Tryd.prog 6 #[.string s, .int .i64 n, .int .i64 p] w fun e w' => e = .returned (.bool true) ∧ Below w.heap.size w w' := by
  have h2 := tabs_size hT
  have cw := works_any
  have h3 : ¬ (3000 : Int) < s.size := by omega
  have c14 := fun w hT => unit_any s n w (by omega) hT
  have c15 := fun w hT => byte_any s n w (by omega) hT
  have hbu : ((unitS s n).2 == 0) = false := beq_eq_false_iff_ne.2 hu
  generalize (unitS s n).2 = e1 at c14 hbu
  have hbv : ((byteS s n).2 == 0) = false := beq_eq_false_iff_ne.2 hv
  generalize (byteS s n).2 = e2 at c15 hbv
  clear hu hv
  generalize (unitS s n).1 = u at *
  generalize (byteS s n).1 = b at *
  have c10 := put_any p
  rw [show putB p = ⟨#[]⟩ by simp [putB, hp]] at c10
  clear hp
  clear h
  go_enter Tryd.func6, Tryd.ntmps6
  go_wp2_with fail
  refine (cw _ hT).mono ?_
  rintro e w1 ⟨rfl, hb1⟩
  go_wp2_with fail
  refine (c14 _ (tabs_below hT hb1 h2)).mono ?_
  rintro e w2 ⟨rfl, hb2'⟩
  have hb2 := hb1.trans (hb2'.mono hb1.size)
  go_wp2_with fail
  refine (c15 _ (tabs_below hT hb2 h2)).mono ?_
  rintro e w3 ⟨rfl, hb3'⟩
  have hb3 := hb2.trans (hb3'.mono hb2.size)
  go_wp2_with fail
  refine (c10 _).mono ?_
  rintro e w' ⟨rfl, rfl⟩
  go_wp2
  go_ret
  exact ⟨rfl, hb3⟩
set_option maxRecDepth 100000 in
set_option maxHeartbeats 1600000 in
theorem back_no_no_low (s : ByteArray) (n p : Int) (w : World) (hT : Lib.Utf8Tabs 0 1 w) (h : s.size ≤ 3000) (hu : ¬ (unitS s n).2 = 0) (hv : ¬ (byteS s n).2 = 0) (hp : isPt p = true) (hq : ¬ 65536 ≤ p) :
    Calls Tryd.prog 6 #[.string s, .int .i64 n, .int .i64 p] w fun e w' => e = .returned (.bool true) ∧ Below w.heap.size w w' := by
  have h2 := tabs_size hT
  have cw := works_any
  have h3 : ¬ (3000 : Int) < s.size := by omega
  have c14 := fun w hT => unit_any s n w (by omega) hT
  have c15 := fun w hT => byte_any s n w (by omega) hT
  have hbu : ((unitS s n).2 == 0) = false := beq_eq_false_iff_ne.2 hu
  generalize (unitS s n).2 = e1 at c14 hbu
  have hbv : ((byteS s n).2 == 0) = false := beq_eq_false_iff_ne.2 hv
  generalize (byteS s n).2 = e2 at c15 hbv
  clear hu hv
  generalize (unitS s n).1 = u at *
  generalize (byteS s n).1 = b at *
  have c10 := put_any p
  obtain ⟨r1, r2, r3, r4, _⟩ := put_rune p hp
  have hpt := of_decide_eq_true hp
  have c9 := fun w hT => rune_any (putB p ++ s) w hT
  have ra := rune_append (putB p) s (by omega) (by omega)
  simp only [ra.1, ra.2, r1, r2] at c9
  have c11 := halves_any p
  have c12 := pair_any (halfH p) (halfL p)
  have pq := put_pair p hp
  rw [decide_eq_false hq] at pq
  simp only [pq.1] at c12
  have c18 := fun w hT => valid_any (putB p) w (by omega) hT
  simp only [put_valid p hp] at c18
  have c13 := fun w hT => len_any (putB p) w (by omega) hT
  simp only [put_units p hp, if_neg hq] at c13
  have hne := isEmpty_no (s := putB p) (by omega)
  clear ra r1 r2 pq hp hq hpt
  generalize putB p = t at *
  generalize halfH p = x at *
  generalize halfL p = y at *
  generalize pairP x y = q at *
  clear h
  go_enter Tryd.func6, Tryd.ntmps6
  go_wp2_with fail
  refine (cw _ hT).mono ?_
  rintro e w1 ⟨rfl, hb1⟩
  go_wp2_with fail
  refine (c14 _ (tabs_below hT hb1 h2)).mono ?_
  rintro e w2 ⟨rfl, hb2'⟩
  have hb2 := hb1.trans (hb2'.mono hb1.size)
  go_wp2_with fail
  refine (c15 _ (tabs_below hT hb2 h2)).mono ?_
  rintro e w3 ⟨rfl, hb3'⟩
  have hb3 := hb2.trans (hb3'.mono hb2.size)
  go_wp2_with fail
  refine (c10 _).mono ?_
  rintro e w' ⟨rfl, rfl⟩
  go_wp2_with fail
  refine (c9 _ (tabs_below hT hb3 h2)).mono ?_
  rintro e w4 ⟨rfl, hb4'⟩
  have hb4 := hb3.trans (hb4'.mono hb3.size)
  go_wp2_with fail
  refine (c11 _).mono ?_
  rintro e w' ⟨rfl, rfl⟩
  go_wp2_with fail
  refine (c12 _).mono ?_
  rintro e w' ⟨rfl, rfl⟩
  go_wp2_with fail
  refine (c18 _ (tabs_below hT hb4 h2)).mono ?_
  rintro e w5 ⟨rfl, hb5'⟩
  have hb5 := hb4.trans (hb5'.mono hb4.size)
  go_wp2_with fail
  refine (c13 _ (tabs_below hT hb5 h2)).mono ?_
  rintro e w6 ⟨rfl, hb6'⟩
  have hb6 := hb5.trans (hb6'.mono hb5.size)
  go_wp2
  go_ret
  exact ⟨rfl, hb6⟩
set_option maxRecDepth 100000 in
set_option maxHeartbeats 1600000 in
theorem back_no_no_high (s : ByteArray) (n p : Int) (w : World) (hT : Lib.Utf8Tabs 0 1 w) (h : s.size ≤ 3000) (hu : ¬ (unitS s n).2 = 0) (hv : ¬ (byteS s n).2 = 0) (hp : isPt p = true) (hq : 65536 ≤ p) :
    Calls Tryd.prog 6 #[.string s, .int .i64 n, .int .i64 p] w fun e w' => e = .returned (.bool true) ∧ Below w.heap.size w w' := by
  have h2 := tabs_size hT
  have cw := works_any
  have h3 : ¬ (3000 : Int) < s.size := by omega
  have c14 := fun w hT => unit_any s n w (by omega) hT
  have c15 := fun w hT => byte_any s n w (by omega) hT
  have hbu : ((unitS s n).2 == 0) = false := beq_eq_false_iff_ne.2 hu
  generalize (unitS s n).2 = e1 at c14 hbu
  have hbv : ((byteS s n).2 == 0) = false := beq_eq_false_iff_ne.2 hv
  generalize (byteS s n).2 = e2 at c15 hbv
  clear hu hv
  generalize (unitS s n).1 = u at *
  generalize (byteS s n).1 = b at *
  have c10 := put_any p
  obtain ⟨r1, r2, r3, r4, _⟩ := put_rune p hp
  have hpt := of_decide_eq_true hp
  have c9 := fun w hT => rune_any (putB p ++ s) w hT
  have ra := rune_append (putB p) s (by omega) (by omega)
  simp only [ra.1, ra.2, r1, r2] at c9
  have c11 := halves_any p
  have c12 := pair_any (halfH p) (halfL p)
  have pq := put_pair p hp
  rw [decide_eq_true hq] at pq
  simp only [pq.1, pq.2 hq] at c12
  have c18 := fun w hT => valid_any (putB p) w (by omega) hT
  simp only [put_valid p hp] at c18
  have c13 := fun w hT => len_any (putB p) w (by omega) hT
  simp only [put_units p hp, if_pos hq] at c13
  have hne := isEmpty_no (s := putB p) (by omega)
  clear ra r1 r2 pq hp hq hpt
  generalize putB p = t at *
  generalize halfH p = x at *
  generalize halfL p = y at *
  clear h
  go_enter Tryd.func6, Tryd.ntmps6
  go_wp2_with fail
  refine (cw _ hT).mono ?_
  rintro e w1 ⟨rfl, hb1⟩
  go_wp2_with fail
  refine (c14 _ (tabs_below hT hb1 h2)).mono ?_
  rintro e w2 ⟨rfl, hb2'⟩
  have hb2 := hb1.trans (hb2'.mono hb1.size)
  go_wp2_with fail
  refine (c15 _ (tabs_below hT hb2 h2)).mono ?_
  rintro e w3 ⟨rfl, hb3'⟩
  have hb3 := hb2.trans (hb3'.mono hb2.size)
  go_wp2_with fail
  refine (c10 _).mono ?_
  rintro e w' ⟨rfl, rfl⟩
  go_wp2_with fail
  refine (c9 _ (tabs_below hT hb3 h2)).mono ?_
  rintro e w4 ⟨rfl, hb4'⟩
  have hb4 := hb3.trans (hb4'.mono hb3.size)
  go_wp2_with fail
  refine (c11 _).mono ?_
  rintro e w' ⟨rfl, rfl⟩
  go_wp2_with fail
  refine (c12 _).mono ?_
  rintro e w' ⟨rfl, rfl⟩
  go_wp2_with fail
  refine (c18 _ (tabs_below hT hb4 h2)).mono ?_
  rintro e w5 ⟨rfl, hb5'⟩
  have hb5 := hb4.trans (hb5'.mono hb4.size)
  go_wp2_with fail
  refine (c13 _ (tabs_below hT hb5 h2)).mono ?_
  rintro e w6 ⟨rfl, hb6'⟩
  have hb6 := hb5.trans (hb6'.mono hb5.size)
  go_wp2
  go_ret
  exact ⟨rfl, hb6⟩
theorem utfBack_walk (s : ByteArray) (n p : Int) (w : World) (hT : Lib.Utf8Tabs 0 1 w) :
    Calls Tryd.prog 6 #[.string s, .int .i64 n, .int .i64 p] w fun e w' => e = .returned (.bool true) ∧ Below w.heap.size w w' := by
  by_cases h : 3000 < s.size
  · exact back_long s n p w hT h
  · have h' : s.size ≤ 3000 := by omega
    by_cases hu : (unitS s n).2 = 0
    · by_cases hv : (byteS s n).2 = 0
      · cases hp : isPt p
        · exact back_ok_ok_none s n p w hT h' hu hv hp
        · by_cases hq : 65536 ≤ p
          · exact back_ok_ok_high s n p w hT h' hu hv hp hq
          · exact back_ok_ok_low s n p w hT h' hu hv hp hq
      · cases hp : isPt p
        · exact back_ok_no_none s n p w hT h' hu hv hp
        · by_cases hq : 65536 ≤ p
          · exact back_ok_no_high s n p w hT h' hu hv hp hq
          · exact back_ok_no_low s n p w hT h' hu hv hp hq
    · by_cases hv : (byteS s n).2 = 0
      · cases hp : isPt p
        · exact back_no_ok_none s n p w hT h' hu hv hp
        · by_cases hq : 65536 ≤ p
          · exact back_no_ok_high s n p w hT h' hu hv hp hq
          · exact back_no_ok_low s n p w hT h' hu hv hp hq
      · cases hp : isPt p
        · exact back_no_no_none s n p w hT h' hu hv hp
        · by_cases hq : 65536 ≤ p
          · exact back_no_no_high s n p w hT h' hu hv hp hq
          · exact back_no_no_low s n p w hT h' hu hv hp hq
end Go.Proofs.YtffldjlgmbiplaaDoor
