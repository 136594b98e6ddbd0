/-
  Contracts of the document's own functions of layer 8 (isobarref08): SameList.
-/
import Derived.Test.YtabbpgnenmpacaaDoorSegRefCM
import Derived.Test.YtabbpgnenmpacaaDoorLaidM
set_option linter.unusedSimpArgs false
set_option linter.unusedVariables false
namespace Go.Proofs.YtabbpgnenmpacaaDoor.SR
open Go.RowKit
set_option maxRecDepth 100000 in
set_option maxHeartbeats 2000000 in
theorem sameList_c (v1 v2 : Value) (l1 l2 : List PR) (h1 : l1.length ≤ 100000) (h2 : l2.length ≤ 100000) (g1 : ∀ p ∈ l1, Bytes p.path ∧ p.rungs.length ≤ 100000) (g2 : ∀ p ∈ l2, Bytes p.path ∧ p.rungs.length ≤ 100000) (w : World) (f1 : RsOut w v1 l1) (f2 : RsOut w v2 l2) :
    Calls Tryd.prog 19 #[v1, v2] w fun e w' => e = .returned (.bool (decide (l1 = l2))) ∧ Below w.heap.size w w' := by
  obtain ⟨A1, c1, rfl, hc1, x1⟩ := f1
  obtain ⟨A2, c2, rfl, hc2, x2⟩ := f2
  obtain ⟨n1, hn1⟩ : ∃ n, l1.length = n := ⟨_, rfl⟩
  obtain ⟨n2, hn2⟩ : ∃ n, l2.length = n := ⟨_, rfl⟩
  rw [hn1] at h1 hc1 ⊢
  rw [hn2] at h2 hc2 ⊢
  by_cases hne : n1 = n2
  · subst hne
    have X1 := Lib.hid x1; have X2 := Lib.hid x2; have N1 := Lib.hid hn1; have N2 := Lib.hid hn2; have G1 := Lib.hid g1; have G2 := Lib.hid g2
    clear x1 x2 hn1 hn2 g1 g2
    go_enter Tryd.func19, Tryd.ntmps19
    go_wp2
    go_loopw [5] (fun i wr => ∃ k : Nat, k ≤ n1 ∧ i = .int .i64 k ∧ Hid ((∀ j, j < k → l1[j]? = l2[j]?) ∧ Below w.heap.size w wr)) (fun i _ => n1 - (intOf i).toNat)
    case atStart => exact ⟨0, Nat.zero_le _, rfl, fun j h => absurd h (Nat.not_lt_zero j), Below.refl _ _⟩
    case round =>
      obtain ⟨k, hk, rfl, HI⟩ := hrel
      by_cases hlt : k < n1
      · have hl1 : k < l1.length := by rw [N1.out]; exact hlt
        have hl2 : k < l2.length := by rw [N2.out]; exact hlt
        obtain ⟨b1, o1, rfl, a1⟩ := X1.out (by intro h; rw [h] at hl1; exact absurd hl1 (Nat.not_lt_zero _))
        obtain ⟨b2, o2, rfl, a2⟩ := X2.out (by intro h; rw [h] at hl2; exact absurd hl2 (Nat.not_lt_zero _))
        obtain ⟨u1, q1, y1⟩ := (a1.below HI.out.2) k _ (List.getElem?_eq_getElem hl1)
        obtain ⟨u2, q2, y2⟩ := (a2.below HI.out.2) k _ (List.getElem?_eq_getElem hl2)
        have e1 : l1[k]? = some l1[k] := List.getElem?_eq_getElem hl1
        have e2 : l2[k]? = some l2[k] := List.getElem?_eq_getElem hl2
        have m1 := G1.out _ (List.getElem_mem hl1)
        have m2 := G2.out _ (List.getElem_mem hl2)
        generalize l1[k] = p at *
        generalize l2[k] = q at *
        obtain ⟨B1, d1, hB1, _, _⟩ := id q1
        obtain ⟨B2, d2, hB2, _, _⟩ := id q2
        obtain ⟨s1, hs1⟩ : ∃ n, p.rungs.length = n := ⟨_, rfl⟩
        obtain ⟨s2, hs2⟩ : ∃ n, q.rungs.length = n := ⟨_, rfl⟩
        rw [hs1] at hB1
        rw [hs2] at hB2
        have SM := fun (x : Laid wr) => same_c (.agg (rcC u1 p).toArray) (.agg (rcC u2 q).toArray) p q m1.1 m2.1 m1.2 m2.2 x.W ⟨u1, rfl, q1.below x.h⟩ ⟨u2, rfl, q2.below x.h⟩
        subst hB1 hB2
        obtain ⟨y10, y11, y12, y13, y14, y15, y16, y17, y18⟩ := nine (b := b1) (o := o1 + k * 9) (fun j x h => y1 j x h)
        obtain ⟨y20, y21, y22, y23, y24, y25, y26, y27, y28⟩ := nine (b := b2) (o := o2 + k * 9) (fun j x h => y2 j x h)
        have Y10 : ∀ x : Laid wr, x.W.cell? ⟨b1, o1 + k * 9, none⟩ = some (.int .i64 p.kind) := fun x => cellb x.h y10
        have Y11 : ∀ x : Laid wr, x.W.cell? ⟨b1, o1 + k * 9 + 1, none⟩ = some (.string (strB p.path)) := fun x => cellb x.h y11
        have Y12 : ∀ x : Laid wr, x.W.cell? ⟨b1, o1 + k * 9 + 2, none⟩ = some (.int .i64 p.method) := fun x => cellb x.h y12
        have Y13 : ∀ x : Laid wr, x.W.cell? ⟨b1, o1 + k * 9 + 3, none⟩ = some (.int .i64 p.factor) := fun x => cellb x.h y13
        have Y14 : ∀ x : Laid wr, x.W.cell? ⟨b1, o1 + k * 9 + 4, none⟩ = some (.slice B1 s1 d1) := fun x => cellb x.h y14
        have Y15 : ∀ x : Laid wr, x.W.cell? ⟨b1, o1 + k * 9 + 5, none⟩ = some (.int .i64 p.rung) := fun x => cellb x.h y15
        have Y16 : ∀ x : Laid wr, x.W.cell? ⟨b1, o1 + k * 9 + 6, none⟩ = some (.int .i64 p.time) := fun x => cellb x.h y16
        have Y17 : ∀ x : Laid wr, x.W.cell? ⟨b1, o1 + k * 9 + 7, none⟩ = some (.int .i64 p.now) := fun x => cellb x.h y17
        have Y18 : ∀ x : Laid wr, x.W.cell? ⟨b1, o1 + k * 9 + 8, none⟩ = some (.int .i64 p.value) := fun x => cellb x.h y18
        have Y20 : ∀ x : Laid wr, x.W.cell? ⟨b2, o2 + k * 9, none⟩ = some (.int .i64 q.kind) := fun x => cellb x.h y20
        have Y21 : ∀ x : Laid wr, x.W.cell? ⟨b2, o2 + k * 9 + 1, none⟩ = some (.string (strB q.path)) := fun x => cellb x.h y21
        have Y22 : ∀ x : Laid wr, x.W.cell? ⟨b2, o2 + k * 9 + 2, none⟩ = some (.int .i64 q.method) := fun x => cellb x.h y22
        have Y23 : ∀ x : Laid wr, x.W.cell? ⟨b2, o2 + k * 9 + 3, none⟩ = some (.int .i64 q.factor) := fun x => cellb x.h y23
        have Y24 : ∀ x : Laid wr, x.W.cell? ⟨b2, o2 + k * 9 + 4, none⟩ = some (.slice B2 s2 d2) := fun x => cellb x.h y24
        have Y25 : ∀ x : Laid wr, x.W.cell? ⟨b2, o2 + k * 9 + 5, none⟩ = some (.int .i64 q.rung) := fun x => cellb x.h y25
        have Y26 : ∀ x : Laid wr, x.W.cell? ⟨b2, o2 + k * 9 + 6, none⟩ = some (.int .i64 q.time) := fun x => cellb x.h y26
        have Y27 : ∀ x : Laid wr, x.W.cell? ⟨b2, o2 + k * 9 + 7, none⟩ = some (.int .i64 q.now) := fun x => cellb x.h y27
        have Y28 : ∀ x : Laid wr, x.W.cell? ⟨b2, o2 + k * 9 + 8, none⟩ = some (.int .i64 q.value) := fun x => cellb x.h y28
        change (∀ x : Laid wr, Calls Tryd.prog 18 #[.agg #[.int .i64 p.kind, .string (strB p.path), .int .i64 p.method, .int .i64 p.factor, .slice B1 s1 d1, .int .i64 p.rung, .int .i64 p.time, .int .i64 p.now, .int .i64 p.value], .agg #[.int .i64 q.kind, .string (strB q.path), .int .i64 q.method, .int .i64 q.factor, .slice B2 s2 d2, .int .i64 q.rung, .int .i64 q.time, .int .i64 q.now, .int .i64 q.value]] x.W fun e w' => e = .returned (.bool (decide (p = q))) ∧ Below x.W.heap.size x.W w') at SM
        have E1 := Lib.hid e1; have E2 := Lib.hid e2
        clear e1 e2 a1 a2 q1 q2 hs1 hs2 m1 m2 y1 y2 y10 y11 y12 y13 y14 y15 y16 y17 y18 y20 y21 y22 y23 y24 y25 y26 y27 y28
        by_cases hpq : p = q
        · rw [decide_eq_true hpq] at SM
          have HPQ := Lib.hid hpq; have HS := Lib.hid SM
          clear hpq SM
          go_wp2
          refine wp_region_laid (by kernel_rfl) (by kernel_rfl) ?_
          repeat (quiet_step ((go_at_call 18; exact Calls.laid (HS.out _))))
          refine wpQuiet_nil ?_
          intro _ hw'
          obtain ⟨pq, hw''⟩ := hw'
          subst hw''
          go_wp2
          go_roundw
          case rel =>
            refine ⟨k + 1, by omega, by go_num, fun j hj => ?_, CR.below_next HI.out.2 pq.h⟩
            by_cases he : j = k
            · rw [he, E1.out, E2.out, HPQ.out]
            · exact HI.out.1 j (by omega)
          case measure => simp [intOf]; omega
        · rw [decide_eq_false hpq] at SM
          have hd : decide (l1 = l2) = false := by
            rw [decide_eq_false_iff_not]
            intro h
            have h3 := E1.out
            rw [h, E2.out] at h3
            exact hpq (Option.some.inj h3).symm
          have HD := Lib.hid hd; have HS := Lib.hid SM
          clear hpq hd SM
          go_wp2
          refine wp_region_laid (by kernel_rfl) (by kernel_rfl) ?_
          repeat (quiet_step ((go_at_call 18; exact Calls.laid (HS.out _))))
          refine wpQuiet_nil ?_
          intro _ hw'
          obtain ⟨pq, hw''⟩ := hw'
          subst hw''
          go_wp2
          go_ret
          exact ⟨congrArg (fun z => Ending.returned (.bool z)) HD.out.symm, CR.below_next HI.out.2 pq.h⟩
      · obtain rfl : k = n1 := by omega
        have hd : decide (l1 = l2) = true := by
          rw [decide_eq_true_eq]
          refine List.ext_getElem? fun j => ?_
          rcases Nat.lt_or_ge j k with hj | hj
          · exact HI.out.1 j hj
          · rw [List.getElem?_eq_none (by rw [N1.out]; exact hj), List.getElem?_eq_none (by rw [N2.out]; exact hj)]
        have HD := Lib.hid hd
        clear hd
        go_wp2
        go_ret
        exact ⟨congrArg (fun z => Ending.returned (.bool z)) HD.out.symm, HI.out.2⟩
  · have hd : decide (l1 = l2) = false := by
      rw [decide_eq_false_iff_not]
      intro h
      rw [h, hn2] at hn1
      exact hne hn1.symm
    have hni : ¬ (n1 : Int) = (n2 : Int) := by omega
    have HD := Lib.hid hd
    clear hd hne x1 x2 hn1 hn2 g1 g2
    go_enter Tryd.func19, Tryd.ntmps19
    go_wp2
    go_ret
    exact ⟨congrArg (fun z => Ending.returned (.bool z)) HD.out.symm, Below.refl _ _⟩
end Go.Proofs.YtabbpgnenmpacaaDoor.SR
