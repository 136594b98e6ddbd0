/-
  Contracts of the document's own functions of layers 8 and 10: SameRungs, Single, Reach.
-/
import Derived.Test.YtodlgbihdehmbaaGreatDoorRetLaidP
set_option linter.unusedSimpArgs false
set_option linter.unusedVariables false
namespace Go.Proofs.YtodlgbihdehmbaaGreatDoor.RR
open Go.RowKit
set_option maxRecDepth 100000 in
set_option maxHeartbeats 2000000 in
theorem sameRungs_c (v1 v2 : Value) (l1 l2 : List (Int × Int)) (h1 : l1.length ≤ 100000) (h2 : l2.length ≤ 100000) (w : World) (f1 : RgOut w v1 l1) (f2 : RgOut w v2 l2) :
    Calls Tryz.prog 24 #[v1, v2] w fun e w' => e = .returned (.bool (decide (l1 = l2))) ∧ Below w.heap.size w w' := by
  obtain ⟨A1, c1, rfl, hc1, x1⟩ := f1
  obtain ⟨A2, c2, rfl, hc2, x2⟩ := f2
  obtain ⟨n1, hn1⟩ : ∃ n, l1.length = n := ⟨_, rfl⟩
  obtain ⟨n2, hn2⟩ : ∃ n, l2.length = n := ⟨_, rfl⟩
  rw [hn1] at h1 hc1 ⊢
  rw [hn2] at h2 hc2 ⊢
  by_cases hne : n1 = n2
  · subst hne
    have X1 := Lib.hid x1; have X2 := Lib.hid x2; have N1 := Lib.hid hn1; have N2 := Lib.hid hn2
    clear x1 x2 hn1 hn2
    go_enter Tryz.func24, Tryz.ntmps24
    go_wp2
    go_loopw [5] (fun i wr => ∃ k : Nat, k ≤ n1 ∧ i = .int .i64 k ∧ Hid ((∀ j, j < k → l1[j]? = l2[j]?) ∧ Below w.heap.size w wr)) (fun i _ => n1 - (intOf i).toNat)
    case atStart => exact ⟨0, Nat.zero_le _, rfl, fun j h => absurd h (Nat.not_lt_zero j), Below.refl _ _⟩
    case round =>
      obtain ⟨k, hk, rfl, HI⟩ := hrel
      by_cases hlt : k < n1
      · have hl1 : k < l1.length := by rw [N1.out]; exact hlt
        have hl2 : k < l2.length := by rw [N2.out]; exact hlt
        obtain ⟨b1, o1, rfl, a1⟩ := X1.out (by intro h; rw [h] at hl1; exact absurd hl1 (Nat.not_lt_zero _))
        obtain ⟨b2, o2, rfl, a2⟩ := X2.out (by intro h; rw [h] at hl2; exact absurd hl2 (Nat.not_lt_zero _))
        obtain ⟨y1, y2⟩ := (a1.below HI.out.2) k _ (List.getElem?_eq_getElem hl1)
        obtain ⟨z1, z2⟩ := (a2.below HI.out.2) k _ (List.getElem?_eq_getElem hl2)
        have e1 : l1[k]? = some l1[k] := List.getElem?_eq_getElem hl1
        have e2 : l2[k]? = some l2[k] := List.getElem?_eq_getElem hl2
        obtain ⟨⟨p1, p2⟩, hp⟩ : ∃ p, l1[k] = p := ⟨_, rfl⟩
        obtain ⟨⟨q1, q2⟩, hq⟩ : ∃ q, l2[k] = q := ⟨_, rfl⟩
        rw [hp] at e1 y1 y2
        rw [hq] at e2 z1 z2
        have E1 := Lib.hid e1; have E2 := Lib.hid e2
        clear e1 e2 a1 a2 hp hq
        by_cases hpq1 : p1 = q1
        · subst hpq1
          by_cases hpq2 : p2 = q2
          · subst hpq2
            have SE := Lib.hid (show l1[k]? = l2[k]? by rw [E1.out, E2.out])
            go_wp2
            go_region
            go_wp2
            go_roundw
            case rel =>
              refine ⟨k + 1, by omega, by go_num, fun j hj => ?_, (Below.drew HI.out.2)⟩
              by_cases he : j = k
              · rw [he, SE.out]
              · exact HI.out.1 j (by omega)
            case measure => simp [intOf]; omega
          · have hd : decide (l1 = l2) = false := by
              rw [decide_eq_false_iff_not]
              intro h
              have h3 := E1.out
              rw [h, E2.out] at h3
              injection h3 with h3
              injection h3 with h3 h4
              exact hpq2 h4.symm
            have HD := Lib.hid hd
            clear hd
            go_wp2
            go_region
            go_wp2
            go_ret
            exact ⟨congrArg (fun z => Ending.returned (.bool z)) HD.out.symm, (Below.drew HI.out.2)⟩
        · have hd : decide (l1 = l2) = false := by
            rw [decide_eq_false_iff_not]
            intro h
            have h3 := E1.out
            rw [h, E2.out] at h3
            injection h3 with h3
            injection h3 with h3 h4
            exact hpq1 h3.symm
          have HD := Lib.hid hd
          clear hd
          go_wp2
          go_region
          go_wp2
          go_ret
          exact ⟨congrArg (fun z => Ending.returned (.bool z)) HD.out.symm, (Below.drew HI.out.2)⟩
      · obtain rfl : k = n1 := by omega
        have hd : decide (l1 = l2) = true := by
          rw [decide_eq_true_eq]
          refine List.ext_getElem? fun j => ?_
          rcases Nat.lt_or_ge j k with hj | hj
          · exact HI.out.1 j hj
          · rw [List.getElem?_eq_none (by rw [N1.out]; exact hj), List.getElem?_eq_none (by rw [N2.out]; exact hj)]
        have HD := Lib.hid hd
        clear hd
        go_wp2
        go_ret
        exact ⟨congrArg (fun z => Ending.returned (.bool z)) HD.out.symm, HI.out.2⟩
  · have hd : decide (l1 = l2) = false := by
      rw [decide_eq_false_iff_not]
      intro h
      rw [h, hn2] at hn1
      exact hne hn1.symm
    have hni : ¬ (n1 : Int) = (n2 : Int) := by omega
    have HD := Lib.hid hd
    clear hd hne x1 x2 hn1 hn2
    go_enter Tryz.func24, Tryz.ntmps24
    go_wp2
    go_ret
    exact ⟨congrArg (fun z => Ending.returned (.bool z)) HD.out.symm, Below.refl _ _⟩
theorem rgOk_yes {x y : Int} (h1 : 1 ≤ x) (h2 : x ≤ 86400) (h3 : 1 ≤ y) (h4 : y ≤ 400) : rgOk (x, y) = true := decide_eq_true ⟨h1, h2, h3, h4⟩
theorem rgOk_no {x y : Int} (h : ¬ (1 ≤ x ∧ x ≤ 86400 ∧ 1 ≤ y ∧ y ≤ 400)) : rgOk (x, y) = false := decide_eq_false h
set_option maxRecDepth 100000 in
set_option maxHeartbeats 1000000 in
theorem single_c (x y : Int) (w : World) : Calls Tryz.prog 69 #[.agg #[.int .i64 x, .int .i64 y]] w fun e w' => e = .returned (.bool (rgOk (x, y))) ∧ Below w.heap.size w w' := by
  obtain ⟨d, hd⟩ : ∃ d, rgOk (x, y) = d := ⟨_, rfl⟩
  rw [hd]
  have HD := Lib.hid hd
  clear hd
  by_cases h0 : 1 ≤ x
  · by_cases h1 : x ≤ 86400
    · by_cases h2 : 1 ≤ y
      · by_cases h3 : y ≤ 400
        · obtain rfl : d = true := by rw [← HD.out]; exact rgOk_yes h0 h1 h2 h3
          go_enter Tryz.func69, Tryz.ntmps69
          go_wp2
          go_ret
          exact ⟨rfl, alloc_below _ _⟩
        · obtain rfl : d = false := by rw [← HD.out]; exact rgOk_no (by omega)
          go_enter Tryz.func69, Tryz.ntmps69
          go_wp2
          go_ret
          exact ⟨rfl, alloc_below _ _⟩
      · obtain rfl : d = false := by rw [← HD.out]; exact rgOk_no (by omega)
        go_enter Tryz.func69, Tryz.ntmps69
        go_wp2
        go_ret
        exact ⟨rfl, alloc_below _ _⟩
    · obtain rfl : d = false := by rw [← HD.out]; exact rgOk_no (by omega)
      go_enter Tryz.func69, Tryz.ntmps69
      go_wp2
      go_ret
      exact ⟨rfl, alloc_below _ _⟩
  · obtain rfl : d = false := by rw [← HD.out]; exact rgOk_no (by omega)
    go_enter Tryz.func69, Tryz.ntmps69
    go_wp2
    go_ret
    exact ⟨rfl, alloc_below _ _⟩
set_option maxRecDepth 100000 in
set_option maxHeartbeats 1000000 in
theorem reach_c (x y : Int) (w : World) : Calls Tryz.prog 70 #[.agg #[.int .i64 x, .int .i64 y]] w fun e w' => e = .returned (.int .i64 (rgReach (x, y))) ∧ Below w.heap.size w w' := by
  have hs := fun W => single_c x y W
  obtain ⟨d, hd⟩ : ∃ d, rgOk (x, y) = d := ⟨_, rfl⟩
  obtain ⟨r, hr⟩ : ∃ r, rgReach (x, y) = r := ⟨_, rfl⟩
  have hr2 := hr
  unfold rgReach at hr2
  rw [hd] at hs hr2
  rw [hr]
  have HS := Lib.hid hs
  cases d
  · have e : r = 0 := hr2.symm
    subst e
    clear hs hr hr2 hd
    go_enter Tryz.func70, Tryz.ntmps70
    go_wp2_with fail
    refine (HS.out _).mono ?_; rintro e w1 ⟨rfl, hb1⟩
    go_wp2
    go_ret
    exact ⟨rfl, bnext (alloc_below _ _) hb1⟩
  · have e : x * y = r := hr2
    have hok := of_decide_eq_true hd
    have hxy0 : 0 ≤ x * y := Int.mul_nonneg (by omega) (by omega)
    have hxy1 : x * y ≤ 86400 * 400 := Int.mul_le_mul (by omega) (by omega) (by omega) (by omega)
    rw [e] at hxy0 hxy1
    clear hs hr hr2 hd hok
    go_enter Tryz.func70, Tryz.ntmps70
    go_wp2_with fail
    refine (HS.out _).mono ?_; rintro e w1 ⟨rfl, hb1⟩
    have hlt1 := hb1.size
    obtain ⟨kc, kf⟩ : (∀ o, w1.cell? ⟨w.heap.size, o, none⟩ = (w.alloc (.cells #[.int .i64 x, .int .i64 y] 49)).cell? ⟨w.heap.size, o, none⟩) ∧ True := ⟨fun o => hb1.cell (by simp), trivial⟩
    have c0 : w1.cell? ⟨w.heap.size, 0, none⟩ = some (.int .i64 x) := by rw [kc]; simp [go_sem]
    have c1 : w1.cell? ⟨w.heap.size, 1, none⟩ = some (.int .i64 y) := by rw [kc]; simp [go_sem]
    have HB := Lib.hid (bnext (alloc_below w (.cells #[.int .i64 x, .int .i64 y] 49)) hb1)
    clear hb1 kc
    go_wp2
    go_ret
    exact ⟨rfl, HB.out⟩
end Go.Proofs.YtodlgbihdehmbaaGreatDoor.RR
