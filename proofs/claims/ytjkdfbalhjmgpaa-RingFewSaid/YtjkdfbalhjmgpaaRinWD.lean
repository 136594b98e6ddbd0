/-
  Walks of the statements of layer 13: a slot that was set is told, until one a whole ring later is set.
-/
import Derived.Test.YtjkdfbalhjmgpaaRinWA
set_option linter.unusedSimpArgs false
set_option linter.unusedVariables false
namespace Go.Proofs.Ytjkdfbalhjmgpaa
open IP
theorem rFull_one : ∀ (n p : Nat) (x : Int × Int), p < n → x.1 ≠ -1 → (rFull ((rNew n).set p x)).length = 1
  | 0, p, x, h, _ => by omega
  | n + 1, 0, x, _, hx => by
    have e : (rNew (n + 1)).set 0 x = x :: rNew n := rfl
    have e2 : rFull (rNew n) = [] := by
      unfold rFull rNew
      rw [List.filter_eq_nil_iff]
      intro a ha
      rw [(List.mem_replicate.1 ha).2]
      simp
    have e3 : rFull (x :: rNew n) = x :: rFull (rNew n) := by unfold rFull; rw [List.filter_cons_of_pos (by simp [hx])]
    rw [e, e3, e2]
    rfl
  | n + 1, p + 1, x, h, hx => by
    have e : (rNew (n + 1)).set (p + 1) x = (-1, 0) :: (rNew n).set p x := rfl
    have e3 : rFull ((-1, 0) :: (rNew n).set p x) = rFull ((rNew n).set p x) := by unfold rFull; rw [List.filter_cons_of_neg (by simp)]
    rw [e, e3]
    exact rFull_one n p x (by omega) hx
/-- Two sets, a whole ring apart. -/
theorem rFew {s t : Int} {n : Nat} (hm : rMay s n = true) (ht : 0 ≤ t ∧ t ≤ 65535) (hu : t + s * n ≤ 1099511627776) :
    ∃ La Lb : List (Int × Int), (setL s (rNew n) t 5 = La ∧ setE s (rNew n) t 5 = 0) ∧ (setL s La (t + s * n) 6 = Lb ∧ setE s La (t + s * n) 6 = 0) ∧ La.length = n ∧ Lb.length = n ∧
      rGet s La t = some 5 ∧ rGet s Lb t = none ∧ rGet s Lb (t + s * n) = some 6 ∧ ∀ S, rLive s Lb S → S.length = 1 := by
  obtain ⟨m1, m2, m3, m4⟩ := rMay_iff.1 hm
  have r0 := rNew_right hm
  have l0 : (rNew n).length = n := List.length_replicate
  have hsn : 0 < s * n := Int.mul_pos (by omega) (by omega)
  have t1 : rTm t = true := rTm_iff.2 (by omega)
  have t2 : rTm (t + s * n) = true := rTm_iff.2 (by omega)
  obtain ⟨La, hLa⟩ : ∃ La, rSet s (rNew n) t 5 = some La := ⟨_, if_pos ⟨⟨r0, t1⟩, by decide⟩⟩
  obtain ⟨ra, la⟩ := rSet_right hLa
  obtain ⟨Lb, hLb⟩ : ∃ Lb, rSet s La (t + s * n) 6 = some Lb := ⟨_, if_pos ⟨⟨ra, t2⟩, by decide⟩⟩
  obtain ⟨rb, lb⟩ := rSet_right hLb
  obtain ⟨a0, a1, a2, a3, a4⟩ := rAt_facts (s := s) m1 ht.1
  obtain ⟨b0, b1, b2, b3, b4⟩ := rAt_facts (s := s) (t := t + s * n) m1 (by omega)
  have hq : (t + s * n) / s = t / s + n := by rw [Int.add_mul_ediv_left _ _ (by omega)]
  have hpl : rPl s n (rAt s (t + s * n)) = rPl s n (rAt s t) := by
    rw [rPl_at m1 (by omega), rPl_at m1 ht.1]
    unfold rPl
    rw [hq, Int.add_emod_right]
  have hne : rAt s (t + s * n) ≠ rAt s t := by
    rw [a4, b4, hq, Int.mul_add]
    omega
  have eLa : La = (rNew n).set (rPl s n (rAt s t)).toNat (rAt s t, 5) := by
    have h : some La = some _ := hLa.symm.trans (if_pos ⟨⟨r0, t1⟩, by decide⟩)
    rw [l0] at h
    exact Option.some.inj h
  have eLb : Lb = (rNew n).set (rPl s n (rAt s t)).toNat (rAt s (t + s * n), 6) := by
    have h : some Lb = some _ := hLb.symm.trans (if_pos ⟨⟨ra, t2⟩, by decide⟩)
    rw [la, l0, hpl] at h
    have h2 := Option.some.inj h
    rw [h2, eLa, List.set_set]
  obtain ⟨p0, p1, p2⟩ := rPl_facts (s := s) (t := rAt s t) (n := n) m1 a0 (by omega)
  refine ⟨La, Lb, ⟨by unfold setL; rw [hLa]; rfl, by unfold setE; rw [hLa]; rfl⟩, ⟨by unfold setL; rw [hLb]; rfl, by unfold setE; rw [hLb]; rfl⟩, la.trans l0, lb.trans (la.trans l0), rSet_get hLa, ?_, rSet_get hLb, fun S hS => ?_⟩
  · rw [rGet_yes ⟨rb, t1⟩]
    unfold rVal
    rw [lb, la, l0, eLb, List.getElem?_set, if_pos rfl, if_pos (by rw [l0]; exact p2)]
    exact if_neg hne
  · obtain ⟨h1, _⟩ := hS.yes rb
    rw [h1.length_eq, eLb]
    exact rFull_one n _ _ p2 (by show rAt s (t + s * n) ≠ -1; omega)
namespace IW
open Go.RowKit IP
set_option maxRecDepth 100000 in
set_option maxHeartbeats 4000000 in
theorem ringFew_c (x y z : Nat) (hx : x ≤ 255) (hy : y ≤ 255) (hz : z ≤ 65535) (w : World) :
    Calls Try.prog 8 #[.int .u8 (x : Int), .int .u8 (y : Int), .int .u16 (z : Int)] w fun e w' => e = .returned (.bool true) ∧ Below w.heap.size w w' := by
  have AL := Lib.hid (alive_c w)
  go_enter Try.func8, Try.ntmps8
  go_wp2_with fail
  refine AL.out.mono ?_; rintro _ w1 ⟨rfl, hb1⟩
  have B1 := Lib.hid hb1
  clear hb1
  go_wp2_with fail
  obtain ⟨W, hW⟩ : ∃ W : Int, 1 + (x : Int) % 60 = W := ⟨_, rfl⟩
  obtain ⟨N, hN⟩ : ∃ N : Nat, 1 + (y : Int) % 50 = (N : Int) := ⟨1 + y % 50, by omega⟩
  have W0 : 1 ≤ W ∧ W ≤ 60 := by omega
  have N0 : 1 ≤ N ∧ N ≤ 50 := by omega
  rw [hW, hN]
  clear hW hN
  have hm : rMay W N = true := rMay_iff.2 (by omega)
  obtain ⟨P, hP⟩ : ∃ P : Int, W * (N : Int) = P := ⟨_, rfl⟩
  have P0 : 0 ≤ P ∧ P ≤ 3000 := by
    rw [← hP]
    exact ⟨Int.mul_nonneg (by omega) (by omega), Int.le_trans (Int.mul_le_mul W0.2 (show (N : Int) ≤ 50 by omega) (by omega) (by omega)) (by decide)⟩
  obtain ⟨La, Lb, ⟨s1, s2⟩, ⟨t1, t2⟩, la, lb, g1, g2, g3, LV⟩ := rFew (s := W) (t := z) (n := N) hm (by omega) (by rw [hP]; omega)
  rw [hP] at t1 t2 g3
  have NW := new_c W N w1
  rw [show newL W N = rNew N from if_pos hm, show newS W N = W from if_pos hm, show newE W N = 0 from if_pos hm, show (rNew N).length = N from List.length_replicate] at NW
  have S1 := fun (v : Value) (X : World) (h : RgOut X v (rNew N)) => set_c W z 5 v (rNew N) (by rw [show (rNew N).length = N from List.length_replicate]; omega) X h
  rw [s1, s2, show (rNew N).length = N from List.length_replicate] at S1
  have S2 := fun (v : Value) (X : World) (h : RgOut X v La) => set_c W ((z : Int) + P) 6 v La (by rw [la]; omega) X h
  rw [t1, t2, la] at S2
  have G1 := fun (v : Value) (X : World) (h : RgOut X v La) => get_c W z v La (by rw [la]; omega) X h
  have G2 := fun (v : Value) (X : World) (h : RgOut X v Lb) => get_c W z v Lb (by rw [lb]; omega) X h
  have G3 := fun (v : Value) (X : World) (h : RgOut X v Lb) => get_c W ((z : Int) + P) v Lb (by rw [lb]; omega) X h
  have LI := fun (v : Value) (X : World) (h : RgOut X v Lb) => live_c W v Lb (by rw [lb]; omega) X h
  rw [g1, show (nuC (some 5)).toArray = #[.bool false, .int .i64 5] from rfl] at G1
  rw [g2, show (nuC none).toArray = #[.bool true, .int .i64 0] from rfl] at G2
  rw [g3, show (nuC (some 6)).toArray = #[.bool false, .int .i64 6] from rfl] at G3
  have S1 := Lib.hid S1; have S2 := Lib.hid S2; have G1 := Lib.hid G1; have G2 := Lib.hid G2; have G3 := Lib.hid G3; have LI := Lib.hid LI; have LV := Lib.hid LV
  have FN := field_null
  clear s1 s2 t1 t2 la lb g1 g2 g3 hm
  refine NW.mono ?_; rintro _ w2 ⟨A1, c1, rfl, h1, hb1⟩
  obtain ⟨⟨k0, k1⟩, hb2⟩ := ring_new w2 W A1 N c1
  obtain ⟨w3, hw3⟩ : ∃ w3, w2.alloc (.cells #[.int .i64 W, .slice A1 N c1] 24) = w3 := ⟨_, rfl⟩
  rw [hw3] at k0 k1 hb2
  have HW3 := Lib.hid hw3
  have B3 := Lib.hid (bnext (bnext B1.out hb1) hb2)
  have SET1 := Lib.hid (S1.out _ w3 (h1.out.below hb2))
  clear hw3 hb1 hb2 h1 NW
  go_wp2_with fail
  rw [HW3.out]
  refine SET1.out.mono ?_; rintro _ w4 ⟨A3, c3, rfl, h3, hb3⟩
  obtain ⟨⟨k0, k1⟩, hb4⟩ := ring_new w4 W A3 N c3
  obtain ⟨w5, hw5⟩ : ∃ w5, w4.alloc (.cells #[.int .i64 W, .slice A3 N c3] 24) = w5 := ⟨_, rfl⟩
  rw [hw5] at k0 k1 hb4
  have HW5 := Lib.hid hw5
  have B5 := Lib.hid (bnext (bnext B3.out hb3) hb4)
  have OUT5 := Lib.hid (h3.out.below hb4)
  have SET2 := Lib.hid (S2.out _ w5 OUT5.out)
  clear hw5 hb3 hb4 h3
  go_wp2_with fail
  rw [HW5.out]
  refine SET2.out.mono ?_; rintro _ w6 ⟨A5, c5, rfl, h5, hb5⟩
  have k0 := cellb hb5 k0; have k1 := cellb hb5 k1
  have j0 := cellb (alloc_below w6 (.cells #[.int .i64 W, .slice A5 N c5] 24)) k0
  have j1 := cellb (alloc_below w6 (.cells #[.int .i64 W, .slice A5 N c5] 24)) k1
  obtain ⟨⟨q0, q1⟩, hb6⟩ := ring_new w6 W A5 N c5
  obtain ⟨w7, hw7⟩ : ∃ w7, w6.alloc (.cells #[.int .i64 W, .slice A5 N c5] 24) = w7 := ⟨_, rfl⟩
  rw [hw7] at q0 q1 hb6
  have HW7 := Lib.hid hw7
  have B7 := Lib.hid (bnext (bnext B5.out hb5) hb6)
  have OUT7 := Lib.hid (h5.out.below hb6)
  have GET1 := Lib.hid (G1.out _ w7 (OUT5.out.below (bnext hb5 hb6)))
  clear hw7 hb5 hb6 h5
  go_wp2_with fail
  rw [HW7.out]
  clear j0 j1
  refine GET1.out.mono ?_; rintro _ w8 ⟨rfl, hb8⟩
  have q0 := cellb hb8 q0; have q1 := cellb hb8 q1
  have B8 := Lib.hid (bnext B7.out hb8)
  have OUT8 := Lib.hid (OUT7.out.below hb8)
  have GET2 := Lib.hid (G2.out _ w8 OUT8.out)
  clear hb8 k0 k1
  go_wp2_with fail
  refine GET2.out.mono ?_; rintro _ w9 ⟨rfl, hb9⟩
  have q0 := cellb hb9 q0; have q1 := cellb hb9 q1
  have B9 := Lib.hid (bnext B8.out hb9)
  have OUT9 := Lib.hid (OUT8.out.below hb9)
  have GET3 := Lib.hid (G3.out _ w9 OUT9.out)
  clear hb9
  go_wp2_with fail
  refine GET3.out.mono ?_; rintro _ w10 ⟨rfl, hb10⟩
  have q0 := cellb hb10 q0; have q1 := cellb hb10 q1
  have B10 := Lib.hid (bnext B9.out hb10)
  have LIV := Lib.hid (LI.out _ w10 (OUT9.out.below hb10))
  clear hb10
  go_wp2_with fail
  refine LIV.out.mono ?_; rintro _ w11 ⟨u, S, rfl, hu, hS, hb11⟩
  have B11 := Lib.hid (bnext B10.out hb11)
  obtain ⟨A9, c9, rfl, -, -⟩ := id hu
  rw [LV.out S hS]
  clear hu hS hb11
  go_wp2
  go_ret
  exact ⟨by simp, B11.out⟩
end IW
end Go.Proofs.Ytjkdfbalhjmgpaa
