/-
  Contracts of the document's own functions of layer 7 (isobarref07): Same.
-/
import Derived.Test.YthkplnljfknphaaDoorFrmRow
import Derived.BigRegion
import Derived.Deep.QuietTactic
import Derived.BigQuiet
set_option linter.unusedSimpArgs false
set_option linter.unusedVariables false
namespace Go.Proofs.YthkplnljfknphaaDoor
open Go.RowKit
/-- A world that has grown out of another. -/
structure Laid (w : World) where
  W : World
  h : Below w.heap.size w W
instance (w : World) : Inhabited (Laid w) := ⟨⟨w, Below.refl _ _⟩⟩
theorem wp_region_laid {P : Program} {id : Nat} {Q : Exit → Act → World → Prop} {a : Act} {w : World} {l : List Oper} (hm : P.follows .mixedOrders = true) (hB : Region.lexB .any l.toArray = true)
    (h : wpQuiet P l.toArray (fun w' => ∃ p : Laid w, w' = p.W) (fun a' => ∀ w', (∃ p : Laid w, w' = p.W) → Q .normal a' w') l a) : (Code.region id l.toArray true).wp P Q a w :=
  wp_region_quiet (C := fun w' => ∃ p : Laid w, w' = p.W) hm hB ⟨⟨w.drew, (Below.refl _ _).drew⟩, rfl⟩ (by simpa using h)
theorem Calls.laid {P : Program} {f : FuncId} {args : Array Value} {w : World} {p : Laid w} {v : Value} (h : Calls P f args p.W fun e w' => e = .returned v ∧ Below p.W.heap.size p.W w') : Calls P f args p.W fun e w'' => e = .returned v ∧ ∃ p : Laid w, w'' = p.W :=
  h.mono fun _ _ ⟨he, hb⟩ => ⟨he, ⟨_, CR.below_next p.h hb⟩, rfl⟩
namespace FR
set_option maxRecDepth 100000 in
set_option maxHeartbeats 2000000 in
theorem same_c (v1 v2 : Value) (l1 l2 : List (List Nat)) (h1 : l1.length ≤ 100000) (h2 : l2.length ≤ 100000) (g1 : ∀ p ∈ l1, p.length ≤ 100000) (g2 : ∀ p ∈ l2, p.length ≤ 100000) (w : World) (f1 : BsOut w v1 l1) (f2 : BsOut w v2 l2) :
    Calls Tryd.prog 18 #[v1, v2] w fun e w' => e = .returned (.bool (decide (l1 = l2))) ∧ Below w.heap.size w w' := by
  obtain ⟨A1, c1, rfl, hc1, x1⟩ := f1
  obtain ⟨A2, c2, rfl, hc2, x2⟩ := f2
  obtain ⟨n1, hn1⟩ : ∃ n, l1.length = n := ⟨_, rfl⟩
  obtain ⟨n2, hn2⟩ : ∃ n, l2.length = n := ⟨_, rfl⟩
  rw [hn1] at h1 hc1 ⊢
  rw [hn2] at h2 hc2 ⊢
  by_cases hne : n1 = n2
  · subst hne
    have X1 := Lib.hid x1; have X2 := Lib.hid x2; have N1 := Lib.hid hn1; have N2 := Lib.hid hn2; have G1 := Lib.hid g1; have G2 := Lib.hid g2
    clear x1 x2 hn1 hn2 g1 g2
    go_enter Tryd.func18, Tryd.ntmps18
    go_wp2
    go_loopw [5] (fun i wr => ∃ k : Nat, k ≤ n1 ∧ i = .int .i64 k ∧ Hid ((∀ j, j < k → l1[j]? = l2[j]?) ∧ Below w.heap.size w wr)) (fun i _ => n1 - (intOf i).toNat)
    case atStart => exact ⟨0, Nat.zero_le _, rfl, fun j h => absurd h (Nat.not_lt_zero j), Below.refl _ _⟩
    case round =>
      obtain ⟨k, hk, rfl, HI⟩ := hrel
      by_cases hlt : k < n1
      · have hl1 : k < l1.length := by rw [N1.out]; exact hlt
        have hl2 : k < l2.length := by rw [N2.out]; exact hlt
        obtain ⟨b1, o1, rfl, a1⟩ := X1.out (by intro h; rw [h] at hl1; exact absurd hl1 (Nat.not_lt_zero _))
        obtain ⟨b2, o2, rfl, a2⟩ := X2.out (by intro h; rw [h] at hl2; exact absurd hl2 (Nat.not_lt_zero _))
        obtain ⟨u1, y1, q1⟩ := (a1.below HI.out.2) k _ (List.getElem?_eq_getElem hl1)
        obtain ⟨u2, y2, q2⟩ := (a2.below HI.out.2) k _ (List.getElem?_eq_getElem hl2)
        have e1 : l1[k]? = some l1[k] := List.getElem?_eq_getElem hl1
        have e2 : l2[k]? = some l2[k] := List.getElem?_eq_getElem hl2
        have m1 := G1.out _ (List.getElem_mem hl1)
        have m2 := G2.out _ (List.getElem_mem hl2)
        generalize l1[k] = p at *
        generalize l2[k] = q at *
        have SM := fun (x : Laid wr) => CR.same_c u1 u2 p q m1 m2 x.W (q1.below x.h) (q2.below x.h)
        obtain ⟨B1, d1, rfl, _, _⟩ := id q1
        obtain ⟨B2, d2, rfl, _, _⟩ := id q2
        obtain ⟨s1, hs1⟩ : ∃ n, p.length = n := ⟨_, rfl⟩
        obtain ⟨s2, hs2⟩ : ∃ n, q.length = n := ⟨_, rfl⟩
        rw [hs1] at y1 SM
        rw [hs2] at y2 SM
        have Y1 : ∀ x : Laid wr, x.W.cell? ⟨b1, o1 + k, none⟩ = some (.slice B1 s1 d1) := fun x => (x.h.cell (World.block_lt_of_cell? wr _ y1)).trans y1
        have Y2 : ∀ x : Laid wr, x.W.cell? ⟨b2, o2 + k, none⟩ = some (.slice B2 s2 d2) := fun x => (x.h.cell (World.block_lt_of_cell? wr _ y2)).trans y2
        have E1 := Lib.hid e1; have E2 := Lib.hid e2
        clear e1 e2 a1 a2 q1 q2 hs1 hs2 m1 m2 y1 y2
        by_cases hpq : p = q
        · rw [decide_eq_true hpq] at SM
          have HPQ := Lib.hid hpq; have HS := Lib.hid SM
          clear hpq SM
          go_wp2
          refine wp_region_laid (by kernel_rfl) (by kernel_rfl) ?_
          repeat (quiet_step ((go_at_call 12; exact Calls.laid (HS.out _))))
          refine wpQuiet_nil ?_
          intro _ hw'
          obtain ⟨pq, hw''⟩ := hw'
          subst hw''
          go_wp2
          go_roundw
          case rel =>
            refine ⟨k + 1, by omega, by go_num, fun j hj => ?_, CR.below_next HI.out.2 pq.h⟩
            by_cases he : j = k
            · rw [he, E1.out, E2.out, HPQ.out]
            · exact HI.out.1 j (by omega)
          case measure => simp [intOf]; omega
        · rw [decide_eq_false hpq] at SM
          have hd : decide (l1 = l2) = false := by
            rw [decide_eq_false_iff_not]
            intro h
            have h3 := E1.out
            rw [h, E2.out] at h3
            exact hpq (Option.some.inj h3).symm
          have HD := Lib.hid hd; have HS := Lib.hid SM
          clear hpq hd SM
          go_wp2
          refine wp_region_laid (by kernel_rfl) (by kernel_rfl) ?_
          repeat (quiet_step ((go_at_call 12; exact Calls.laid (HS.out _))))
          refine wpQuiet_nil ?_
          intro _ hw'
          obtain ⟨pq, hw''⟩ := hw'
          subst hw''
          go_wp2
          go_ret
          exact ⟨congrArg (fun z => Ending.returned (.bool z)) HD.out.symm, CR.below_next HI.out.2 pq.h⟩
      · obtain rfl : k = n1 := by omega
        have hd : decide (l1 = l2) = true := by
          rw [decide_eq_true_eq]
          refine List.ext_getElem? fun j => ?_
          rcases Nat.lt_or_ge j k with hj | hj
          · exact HI.out.1 j hj
          · rw [List.getElem?_eq_none (by rw [N1.out]; exact hj), List.getElem?_eq_none (by rw [N2.out]; exact hj)]
        have HD := Lib.hid hd
        clear hd
        go_wp2
        go_ret
        exact ⟨congrArg (fun z => Ending.returned (.bool z)) HD.out.symm, HI.out.2⟩
  · have hd : decide (l1 = l2) = false := by
      rw [decide_eq_false_iff_not]
      intro h
      rw [h, hn2] at hn1
      exact hne hn1.symm
    have hni : ¬ (n1 : Int) = (n2 : Int) := by omega
    have HD := Lib.hid hd
    clear hd hne x1 x2 hn1 hn2 g1 g2
    go_enter Tryd.func18, Tryd.ntmps18
    go_wp2
    go_ret
    exact ⟨congrArg (fun z => Ending.returned (.bool z)) HD.out.symm, Below.refl _ _⟩
end FR
end Go.Proofs.YthkplnljfknphaaDoor
