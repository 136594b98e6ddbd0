/-
  Contracts of the document's own functions of layer 8 (isobarref08): Same, of two records.
-/
import Derived.Test.YtabbpgnenmpacaaDoorSegRefBM
import Derived.Laws.Cover1
set_option linter.unusedSimpArgs false
set_option linter.unusedVariables false
namespace Go.Proofs.YtabbpgnenmpacaaDoor.SR
open Go.RowKit
open CR (below_next own_ge u8_wrap)
theorem alloc_cell (w : World) (C : List Value) (t : TypeId) (j : Nat) (x : Value) (h : C[j]? = some x) : (w.alloc (.cells C.toArray t)).cell? ⟨w.heap.size, j, none⟩ = some x := by
  have hh : (w.alloc (.cells C.toArray t)).heap[w.heap.size]? = some (.cells C.toArray t) := by
    show (w.heap.push _)[w.heap.size]? = _
    exact Array.getElem?_push_size
  rw [cell_of_row _ _ _ _ _ _ hh]
  simpa using h
/-- Two variables that a call has made for its arguments. -/
theorem box2 {w w3 : World} {C1 C2 : List Value} {t : TypeId} (hb : Below ((w.alloc (.cells C1.toArray t)).alloc (.cells C2.toArray t)).heap.size ((w.alloc (.cells C1.toArray t)).alloc (.cells C2.toArray t)) w3) :
    (∀ (j : Nat) (x : Value), C1[j]? = some x → w3.cell? ⟨w.heap.size, j, none⟩ = some x) ∧ (∀ (j : Nat) (x : Value), C2[j]? = some x → w3.cell? ⟨w.heap.size + 1, j, none⟩ = some x) := by
  refine ⟨fun j x h => cellb hb (cellb ((Below.refl _ _).alloc (Nat.le_refl _) _) (alloc_cell w C1 t j x h)), fun j x h => cellb hb ?_⟩
  have := alloc_cell (w.alloc (.cells C1.toArray t)) C2 t j x h
  have e : (w.alloc (.cells C1.toArray t)).heap.size = w.heap.size + 1 := by simp
  rwa [e] at this
set_option maxRecDepth 100000 in
set_option maxHeartbeats 4000000 in
theorem same_c (va vb : Value) (a b : PR) (ha : Bytes a.path) (hb : Bytes b.path) (h1 : a.rungs.length ≤ 100000) (h2 : b.rungs.length ≤ 100000) (w : World) (fa : RcOut w va a) (fb : RcOut w vb b) :
    Calls Tryd.prog 18 #[va, vb] w fun e w' => e = .returned (.bool (decide (a = b))) ∧ Below w.heap.size w w' := by
  obtain ⟨d, hd⟩ : ∃ d, decide (a = b) = d := ⟨_, rfl⟩
  rw [hd]
  obtain ⟨k1, p1, m1, f1, l1, g1, t1, n1, v1⟩ := a
  obtain ⟨k2, p2, m2, f2, l2, g2, t2, n2, v2⟩ := b
  obtain ⟨u1, rfl, r1⟩ := fa
  obtain ⟨u2, rfl, r2⟩ := fb
  have SR := fun (W : World) (hB : Below w.heap.size w W) => sameRungs_c u1 u2 l1 l2 h1 h2 W (r1.below hB) (r2.below hB)
  obtain ⟨A1, c1, rfl, _, _⟩ := r1
  obtain ⟨A2, c2, rfl, _, _⟩ := r2
  have hss := strB_eq ha hb
  obtain ⟨s1, hs1⟩ : ∃ s, strB p1 = s := ⟨_, rfl⟩
  obtain ⟨s2, hs2⟩ : ∃ s, strB p2 = s := ⟨_, rfl⟩
  change (((strB p1).toList == (strB p2).toList) = decide (p1 = p2)) at hss
  rw [hs1, hs2] at hss
  change Calls Tryd.prog 18 #[.agg #[.int .i64 k1, .string (strB p1), .int .i64 m1, .int .i64 f1, .slice A1 l1.length c1, .int .i64 g1, .int .i64 t1, .int .i64 n1, .int .i64 v1], .agg #[.int .i64 k2, .string (strB p2), .int .i64 m2, .int .i64 f2, .slice A2 l2.length c2, .int .i64 g2, .int .i64 t2, .int .i64 n2, .int .i64 v2]] w _
  rw [hs1, hs2]
  obtain ⟨N1, hN1⟩ : ∃ n, l1.length = n := ⟨_, rfl⟩
  obtain ⟨N2, hN2⟩ : ∃ n, l2.length = n := ⟨_, rfl⟩
  change (∀ (W : World) (hB : Below w.heap.size w W), Calls Tryd.prog 37 #[.slice A1 l1.length c1, .slice A2 l2.length c2] W fun e w' => e = .returned (.bool (decide (l1 = l2))) ∧ Below W.heap.size W w') at SR
  rw [hN1, hN2] at SR ⊢
  have SRH := Lib.hid SR; have HS := Lib.hid hss; have HS1 := Lib.hid hs1; have HS2 := Lib.hid hs2
  clear SR hss hs1 hs2 hN1 hN2 h1 h2 ha hb
  by_cases heq : k1 = k2
  · subst heq
    by_cases heq : p1 = p2
    · subst heq
      obtain rfl : s1 = s2 := by rw [← HS1.out, ← HS2.out]
      have hq : (s1.toList == s1.toList) = true := beq_self_eq_true _
      by_cases heq : m1 = m2
      · subst heq
        by_cases heq : f1 = f2
        · subst heq
          by_cases heq : l1 = l2
          · subst heq
            rw [decide_eq_true rfl] at SRH
            by_cases heq : g1 = g2
            · subst heq
              by_cases heq : t1 = t2
              · subst heq
                by_cases heq : n1 = n2
                · subst heq
                  by_cases heq : v1 = v2
                  · subst heq
                    rw [decide_eq_true rfl] at hd
                    subst hd
                    go_enter Tryd.func18, Tryd.ntmps18
                    go_wp2_with fail
                    refine (SRH.out _ (((Below.refl _ _).alloc (Nat.le_refl _) _).alloc (by simp) _)).mono ?_; rintro _ w3 ⟨rfl, hb3⟩
                    obtain ⟨q1, q2⟩ := box2 (C1 := [.int .i64 k1, .string s1, .int .i64 m1, .int .i64 f1, .slice A1 N1 c1, .int .i64 g1, .int .i64 t1, .int .i64 n1, .int .i64 v1]) (C2 := [.int .i64 k1, .string s1, .int .i64 m1, .int .i64 f1, .slice A2 N2 c2, .int .i64 g1, .int .i64 t1, .int .i64 n1, .int .i64 v1]) hb3
                    have x5 := q1 5 _ rfl; have x6 := q1 6 _ rfl; have x7 := q1 7 _ rfl; have x8 := q1 8 _ rfl
                    have y5 := q2 5 _ rfl; have y6 := q2 6 _ rfl; have y7 := q2 7 _ rfl; have y8 := q2 8 _ rfl
                    have B3 := Lib.hid (show Below w.heap.size w w3 from Below.trans (((Below.refl _ _).alloc (Nat.le_refl _) _).alloc (by simp) _) (hb3.mono (by simp; omega)))
                    clear hb3 q1 q2
                    go_wp2
                    go_ret
                    exact ⟨rfl, B3.out⟩
                  · have hne := heq
                    clear heq
                    rw [decide_eq_false (fun h => hne (congrArg PR.value h))] at hd
                    subst hd
                    go_enter Tryd.func18, Tryd.ntmps18
                    go_wp2_with fail
                    refine (SRH.out _ (((Below.refl _ _).alloc (Nat.le_refl _) _).alloc (by simp) _)).mono ?_; rintro _ w3 ⟨rfl, hb3⟩
                    obtain ⟨q1, q2⟩ := box2 (C1 := [.int .i64 k1, .string s1, .int .i64 m1, .int .i64 f1, .slice A1 N1 c1, .int .i64 g1, .int .i64 t1, .int .i64 n1, .int .i64 v1]) (C2 := [.int .i64 k1, .string s1, .int .i64 m1, .int .i64 f1, .slice A2 N2 c2, .int .i64 g1, .int .i64 t1, .int .i64 n1, .int .i64 v2]) hb3
                    have x5 := q1 5 _ rfl; have x6 := q1 6 _ rfl; have x7 := q1 7 _ rfl; have x8 := q1 8 _ rfl
                    have y5 := q2 5 _ rfl; have y6 := q2 6 _ rfl; have y7 := q2 7 _ rfl; have y8 := q2 8 _ rfl
                    have B3 := Lib.hid (show Below w.heap.size w w3 from Below.trans (((Below.refl _ _).alloc (Nat.le_refl _) _).alloc (by simp) _) (hb3.mono (by simp; omega)))
                    clear hb3 q1 q2
                    go_wp2
                    go_ret
                    exact ⟨by simp [hne], B3.out⟩
                · have hne := heq
                  clear heq
                  rw [decide_eq_false (fun h => hne (congrArg PR.now h))] at hd
                  subst hd
                  go_enter Tryd.func18, Tryd.ntmps18
                  go_wp2_with fail
                  refine (SRH.out _ (((Below.refl _ _).alloc (Nat.le_refl _) _).alloc (by simp) _)).mono ?_; rintro _ w3 ⟨rfl, hb3⟩
                  obtain ⟨q1, q2⟩ := box2 (C1 := [.int .i64 k1, .string s1, .int .i64 m1, .int .i64 f1, .slice A1 N1 c1, .int .i64 g1, .int .i64 t1, .int .i64 n1, .int .i64 v1]) (C2 := [.int .i64 k1, .string s1, .int .i64 m1, .int .i64 f1, .slice A2 N2 c2, .int .i64 g1, .int .i64 t1, .int .i64 n2, .int .i64 v2]) hb3
                  have x5 := q1 5 _ rfl; have x6 := q1 6 _ rfl; have x7 := q1 7 _ rfl; have x8 := q1 8 _ rfl
                  have y5 := q2 5 _ rfl; have y6 := q2 6 _ rfl; have y7 := q2 7 _ rfl; have y8 := q2 8 _ rfl
                  have B3 := Lib.hid (show Below w.heap.size w w3 from Below.trans (((Below.refl _ _).alloc (Nat.le_refl _) _).alloc (by simp) _) (hb3.mono (by simp; omega)))
                  clear hb3 q1 q2
                  go_wp2
                  go_ret
                  exact ⟨rfl, B3.out⟩
              · have hne := heq
                clear heq
                rw [decide_eq_false (fun h => hne (congrArg PR.time h))] at hd
                subst hd
                go_enter Tryd.func18, Tryd.ntmps18
                go_wp2_with fail
                refine (SRH.out _ (((Below.refl _ _).alloc (Nat.le_refl _) _).alloc (by simp) _)).mono ?_; rintro _ w3 ⟨rfl, hb3⟩
                obtain ⟨q1, q2⟩ := box2 (C1 := [.int .i64 k1, .string s1, .int .i64 m1, .int .i64 f1, .slice A1 N1 c1, .int .i64 g1, .int .i64 t1, .int .i64 n1, .int .i64 v1]) (C2 := [.int .i64 k1, .string s1, .int .i64 m1, .int .i64 f1, .slice A2 N2 c2, .int .i64 g1, .int .i64 t2, .int .i64 n2, .int .i64 v2]) hb3
                have x5 := q1 5 _ rfl; have x6 := q1 6 _ rfl; have x7 := q1 7 _ rfl; have x8 := q1 8 _ rfl
                have y5 := q2 5 _ rfl; have y6 := q2 6 _ rfl; have y7 := q2 7 _ rfl; have y8 := q2 8 _ rfl
                have B3 := Lib.hid (show Below w.heap.size w w3 from Below.trans (((Below.refl _ _).alloc (Nat.le_refl _) _).alloc (by simp) _) (hb3.mono (by simp; omega)))
                clear hb3 q1 q2
                go_wp2
                go_ret
                exact ⟨rfl, B3.out⟩
            · have hne := heq
              clear heq
              rw [decide_eq_false (fun h => hne (congrArg PR.rung h))] at hd
              subst hd
              go_enter Tryd.func18, Tryd.ntmps18
              go_wp2_with fail
              refine (SRH.out _ (((Below.refl _ _).alloc (Nat.le_refl _) _).alloc (by simp) _)).mono ?_; rintro _ w3 ⟨rfl, hb3⟩
              obtain ⟨q1, q2⟩ := box2 (C1 := [.int .i64 k1, .string s1, .int .i64 m1, .int .i64 f1, .slice A1 N1 c1, .int .i64 g1, .int .i64 t1, .int .i64 n1, .int .i64 v1]) (C2 := [.int .i64 k1, .string s1, .int .i64 m1, .int .i64 f1, .slice A2 N2 c2, .int .i64 g2, .int .i64 t2, .int .i64 n2, .int .i64 v2]) hb3
              have x5 := q1 5 _ rfl; have x6 := q1 6 _ rfl; have x7 := q1 7 _ rfl; have x8 := q1 8 _ rfl
              have y5 := q2 5 _ rfl; have y6 := q2 6 _ rfl; have y7 := q2 7 _ rfl; have y8 := q2 8 _ rfl
              have B3 := Lib.hid (show Below w.heap.size w w3 from Below.trans (((Below.refl _ _).alloc (Nat.le_refl _) _).alloc (by simp) _) (hb3.mono (by simp; omega)))
              clear hb3 q1 q2
              go_wp2
              go_ret
              exact ⟨rfl, B3.out⟩
          · have hne := heq
            clear heq
            rw [decide_eq_false (fun h => hne (congrArg PR.rungs h))] at hd
            subst hd
            rw [decide_eq_false hne] at SRH
            go_enter Tryd.func18, Tryd.ntmps18
            go_wp2_with fail
            refine (SRH.out _ (((Below.refl _ _).alloc (Nat.le_refl _) _).alloc (by simp) _)).mono ?_; rintro _ w3 ⟨rfl, hb3⟩
            obtain ⟨q1, q2⟩ := box2 (C1 := [.int .i64 k1, .string s1, .int .i64 m1, .int .i64 f1, .slice A1 N1 c1, .int .i64 g1, .int .i64 t1, .int .i64 n1, .int .i64 v1]) (C2 := [.int .i64 k1, .string s1, .int .i64 m1, .int .i64 f1, .slice A2 N2 c2, .int .i64 g2, .int .i64 t2, .int .i64 n2, .int .i64 v2]) hb3
            have x5 := q1 5 _ rfl; have x6 := q1 6 _ rfl; have x7 := q1 7 _ rfl; have x8 := q1 8 _ rfl
            have y5 := q2 5 _ rfl; have y6 := q2 6 _ rfl; have y7 := q2 7 _ rfl; have y8 := q2 8 _ rfl
            have B3 := Lib.hid (show Below w.heap.size w w3 from Below.trans (((Below.refl _ _).alloc (Nat.le_refl _) _).alloc (by simp) _) (hb3.mono (by simp; omega)))
            clear hb3 q1 q2
            go_wp2
            go_ret
            exact ⟨rfl, B3.out⟩
        · have hne := heq
          clear heq
          rw [decide_eq_false (fun h => hne (congrArg PR.factor h))] at hd
          subst hd
          go_enter Tryd.func18, Tryd.ntmps18
          go_wp2
          go_ret
          exact ⟨rfl, ((Below.refl _ _).alloc (Nat.le_refl _) _).alloc (by simp) _⟩
      · have hne := heq
        clear heq
        rw [decide_eq_false (fun h => hne (congrArg PR.method h))] at hd
        subst hd
        go_enter Tryd.func18, Tryd.ntmps18
        go_wp2
        go_ret
        exact ⟨rfl, ((Below.refl _ _).alloc (Nat.le_refl _) _).alloc (by simp) _⟩
    · have hne := heq
      clear heq
      rw [decide_eq_false (fun h => hne (congrArg PR.path h))] at hd
      subst hd
      have hq : (s1.toList == s2.toList) = false := by rw [HS.out]; exact decide_eq_false hne
      go_enter Tryd.func18, Tryd.ntmps18
      go_wp2
      go_ret
      exact ⟨rfl, ((Below.refl _ _).alloc (Nat.le_refl _) _).alloc (by simp) _⟩
  · have hne := heq
    clear heq
    rw [decide_eq_false (fun h => hne (congrArg PR.kind h))] at hd
    subst hd
    go_enter Tryd.func18, Tryd.ntmps18
    go_wp2
    go_ret
    exact ⟨rfl, ((Below.refl _ _).alloc (Nat.le_refl _) _).alloc (by simp) _⟩
end Go.Proofs.YtabbpgnenmpacaaDoor.SR
