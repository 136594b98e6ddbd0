/-
  Contracts of the program's functions of layer 8: Right.
-/
import Derived.Test.YtabbpgnenmpacaaDoorSegPB
set_option linter.unusedSimpArgs false
set_option linter.unusedVariables false
namespace Go.Proofs.YtabbpgnenmpacaaDoor.SP
open Go.RowKit
open CR (below_next own_ge u8_wrap)
open SR (strB_size)
theorem right_one_is (p : List Nat) (m f : Int) (l : List (Int × Int)) (g t nw v : Int) : rRight ⟨1, p, m, f, l, g, t, nw, v⟩ = (hdOk p m f l && decide (g = 0 ∧ t = 0 ∧ nw = 0 ∧ v = 0)) := by
  show (decide ((⟨1, p, m, f, l, g, t, nw, v⟩ : PR) = ⟨1, p, m, f, l, 0, 0, 0, 0⟩) && hdOk p m f l) = _
  rw [Bool.and_comm]
  congr 1
  rw [decide_eq_decide]
  simp only [PR.mk.injEq, true_and]
theorem right_two_is (p : List Nat) (m f : Int) (l : List (Int × Int)) (g t nw v : Int) : rRight ⟨2, p, m, f, l, g, t, nw, v⟩ = (tmOk t && tmOk nw && decide (v ≠ -9223372036854775808) && hdNone ⟨2, p, m, f, l, g, t, nw, v⟩ && decide (g = 0)) := by
  show (decide ((⟨2, p, m, f, l, g, t, nw, v⟩ : PR) = ⟨2, [], 0, 0, [], 0, t, nw, v⟩) && (tmOk t && tmOk nw && decide (v ≠ -9223372036854775808))) = _
  have e : decide ((⟨2, p, m, f, l, g, t, nw, v⟩ : PR) = ⟨2, [], 0, 0, [], 0, t, nw, v⟩) = (hdNone ⟨2, p, m, f, l, g, t, nw, v⟩ && decide (g = 0)) := by
    unfold hdNone
    rw [Bool.eq_iff_iff]
    simp only [PR.mk.injEq, true_and, and_true, Bool.and_eq_true, decide_eq_true_eq]
    constructor
    · rintro ⟨a, b, c, d, e⟩; exact ⟨⟨⟨⟨a, b⟩, c⟩, d⟩, e⟩
    · rintro ⟨⟨⟨⟨a, b⟩, c⟩, d⟩, e⟩; exact ⟨a, b, c, d, e⟩
  rw [e]
  cases tmOk t <;> cases tmOk nw <;> cases decide (v ≠ -9223372036854775808) <;> simp
theorem right_three_is (p : List Nat) (m f : Int) (l : List (Int × Int)) (g t nw v : Int) : rRight ⟨3, p, m, f, l, g, t, nw, v⟩ = (decide (0 ≤ g ∧ g ≤ 3) && tmOk t && decide (v ≠ -9223372036854775808) && hdNone ⟨3, p, m, f, l, g, t, nw, v⟩ && decide (nw = 0)) := by
  show (decide ((⟨3, p, m, f, l, g, t, nw, v⟩ : PR) = ⟨3, [], 0, 0, [], g, t, 0, v⟩) && (decide (0 ≤ g ∧ g ≤ 3) && tmOk t && decide (v ≠ -9223372036854775808))) = _
  have e : decide ((⟨3, p, m, f, l, g, t, nw, v⟩ : PR) = ⟨3, [], 0, 0, [], g, t, 0, v⟩) = (hdNone ⟨3, p, m, f, l, g, t, nw, v⟩ && decide (nw = 0)) := by
    unfold hdNone
    rw [Bool.eq_iff_iff]
    simp only [PR.mk.injEq, true_and, and_true, Bool.and_eq_true, decide_eq_true_eq]
    constructor
    · rintro ⟨a, b, c, d, e⟩; exact ⟨⟨⟨⟨a, b⟩, c⟩, d⟩, e⟩
    · rintro ⟨⟨⟨⟨a, b⟩, c⟩, d⟩, e⟩; exact ⟨a, b, c, d, e⟩
  rw [e]
  cases tmOk t <;> cases decide (0 ≤ g ∧ g ≤ 3) <;> cases decide (v ≠ -9223372036854775808) <;> simp
set_option maxRecDepth 100000 in
set_option maxHeartbeats 4000000 in
theorem right_c (v : Value) (r : PR) (hp : Bytes r.path) (hl : r.rungs.length ≤ 100000) (w : World) (h : RcOut w v r) :
    Calls Tryd.prog 12 #[v] w fun e w' => e = .returned (.bool (rRight r)) ∧ Below w.heap.size w w' := by
  obtain ⟨u, rfl, hro⟩ := h
  obtain ⟨A, c, rfl, _, _⟩ := id hro
  have HR0 := fun (W : World) (hB : Below w.heap.size w W) => headRight_c (.agg (rcC (.slice A r.rungs.length c) r).toArray) r hl W ⟨_, rfl, hro.below hB⟩
  have HE0 := fun (W : World) (hB : Below w.heap.size w W) => headEmpty_c (.agg (rcC (.slice A r.rungs.length c) r).toArray) r hp W ⟨_, rfl, hro.below hB⟩
  obtain ⟨d, hd⟩ : ∃ d, rRight r = d := ⟨_, rfl⟩
  rw [hd]
  obtain ⟨k, p, m, f, l, g, t, nw, v0⟩ := r
  obtain ⟨hk, hhk⟩ : ∃ x, hdOk p m f l = x := ⟨_, rfl⟩
  obtain ⟨he, hhe⟩ : ∃ x, hdNone ⟨k, p, m, f, l, g, t, nw, v0⟩ = x := ⟨_, rfl⟩
  change ∀ (W : World), Below w.heap.size w W → Calls Tryd.prog 28 #[.agg #[.int .i64 k, .string (strB p), .int .i64 m, .int .i64 f, .slice A l.length c, .int .i64 g, .int .i64 t, .int .i64 nw, .int .i64 v0]] W fun e w' => e = .returned (.bool (hdOk p m f l)) ∧ Below W.heap.size W w' at HR0
  change ∀ (W : World), Below w.heap.size w W → Calls Tryd.prog 31 #[.agg #[.int .i64 k, .string (strB p), .int .i64 m, .int .i64 f, .slice A l.length c, .int .i64 g, .int .i64 t, .int .i64 nw, .int .i64 v0]] W fun e w' => e = .returned (.bool (hdNone ⟨k, p, m, f, l, g, t, nw, v0⟩)) ∧ Below W.heap.size W w' at HE0
  change Calls Tryd.prog 12 #[.agg #[.int .i64 k, .string (strB p), .int .i64 m, .int .i64 f, .slice A l.length c, .int .i64 g, .int .i64 t, .int .i64 nw, .int .i64 v0]] w _
  have hd1 := right_one_is p m f l g t nw v0
  have hd2 := right_two_is p m f l g t nw v0
  have hd3 := right_three_is p m f l g t nw v0
  rw [hhk] at HR0 hd1
  rw [hhe] at HE0
  obtain ⟨s, hs⟩ : ∃ s, strB p = s := ⟨_, rfl⟩
  obtain ⟨n, hn⟩ : ∃ n, l.length = n := ⟨_, rfl⟩
  rw [hs, hn] at HR0 HE0 ⊢
  have HR := Lib.hid HR0; have HE := Lib.hid HE0
  have HH := Lib.hid (holds_alloc w [.int .i64 k, .string s, .int .i64 m, .int .i64 f, .slice A n c, .int .i64 g, .int .i64 t, .int .i64 nw, .int .i64 v0] 24)
  have TM := Lib.hid (fun (x : Int) (W : World) => timeRight_c x W)
  have VR := Lib.hid (fun (W : World) => valueRight_c v0 W)
  by_cases k1 : k = 1
  · subst k1
    rw [hd] at hd1
    have HDF := Lib.hid (show ¬ (hk = true ∧ g = 0 ∧ t = 0 ∧ nw = 0 ∧ v0 = 0) → d = false from fun h => by
      rw [hd1, Bool.and_eq_false_iff, decide_eq_false_iff_not]
      cases hk with
      | false => exact Or.inl rfl
      | true => exact Or.inr (fun h2 => h ⟨rfl, h2⟩))
    have HDT := Lib.hid (show (hk = true ∧ g = 0 ∧ t = 0 ∧ nw = 0 ∧ v0 = 0) → d = true from fun h => by rw [hd1, h.1, decide_eq_true h.2]; rfl)
    clear HR0 HE0 hro hd hd1 hd2 hd3 hs hn hhk hhe hp hl TM VR HE
    cases hk with
    | false =>
      have e := HDF.out (fun h => by cases h.1)
      subst e
      clear HDF HDT
      go_enter Tryd.func12, Tryd.ntmps12
      go_wp2_with fail
      refine (HR.out _ ((Below.refl _ _).alloc (Nat.le_refl _) _)).mono ?_; rintro _ w1 ⟨rfl, hb1⟩
      have B1 := Lib.hid (show Below w.heap.size w w1 from Below.trans ((Below.refl _ _).alloc (Nat.le_refl _) _) (hb1.mono (by simp)))
      clear hb1
      go_wp2
      go_ret
      exact ⟨rfl, B1.out⟩
    | true =>
      go_enter Tryd.func12, Tryd.ntmps12
      go_wp2_with fail
      refine (HR.out _ ((Below.refl _ _).alloc (Nat.le_refl _) _)).mono ?_; rintro _ w1 ⟨rfl, hb1⟩
      obtain ⟨r0, r1, r2, r3, r4, r5, r6, r7, r8⟩ := (HH.out.below hb1 : Holds w1 w.heap.size _).nine
      have B1 := Lib.hid (show Below w.heap.size w w1 from Below.trans ((Below.refl _ _).alloc (Nat.le_refl _) _) (hb1.mono (by simp)))
      clear hb1
      by_cases hv : v0 = 0
      · have hq : (v0 == 0) = true := by rw [hv]; rfl
        go_wp2
        all_goals first
          | (have e := HDF.out (by omega); subst e; go_ret; exact ⟨rfl, B1.out⟩)
          | (have e := HDT.out ⟨by simp, by omega, by omega, by omega, by omega⟩; subst e; go_ret; exact ⟨rfl, B1.out⟩)
      · have hq : (v0 == 0) = false := beq_false_of_ne hv
        have e := HDF.out (fun h => hv h.2.2.2.2)
        subst e
        go_wp2
        all_goals (go_ret; exact ⟨rfl, B1.out⟩)
  · by_cases k2 : k = 2
    case pos =>
      subst k2
      rw [hhe] at hd2
      rw [hd] at hd2
      obtain ⟨a, ha⟩ : ∃ x, tmOk t = x := ⟨_, rfl⟩
      obtain ⟨b, hb⟩ : ∃ x, tmOk nw = x := ⟨_, rfl⟩
      obtain ⟨cc, hcc⟩ : ∃ x, decide (v0 ≠ -9223372036854775808) = x := ⟨_, rfl⟩
      have TT := Lib.hid (fun (W : World) => TM.out t W)
      have TN := Lib.hid (fun (W : World) => TM.out nw W)
      rw [ha] at TT hd2
      rw [hb] at TN hd2
      rw [hcc] at VR hd2
      have HDF := Lib.hid (show ¬ (a = true ∧ b = true ∧ cc = true ∧ he = true ∧ g = 0) → d = false from fun h => by
        rw [hd2]
        cases a <;> cases b <;> cases cc <;> cases he <;> simp at h ⊢
        exact h)
      have HDT := Lib.hid (show (a = true ∧ b = true ∧ cc = true ∧ he = true ∧ g = 0) → d = true from fun h => by rw [hd2, h.1, h.2.1, h.2.2.1, h.2.2.2.1, decide_eq_true h.2.2.2.2]; rfl)
      clear HR0 HE0 hro hd hd1 hd2 hd3 hs hn hhk hhe hp hl TM HR ha hb hcc k1
      go_enter Tryd.func12, Tryd.ntmps12
      go_wp2_with fail
      refine (TT.out _).mono ?_; rintro _ w1 ⟨rfl, rfl⟩
      cases a with
      | false =>
        have e := HDF.out (by simp)
        subst e
        clear HDF HDT
        go_wp2
        go_ret
        exact ⟨rfl, ((Below.refl _ _).alloc (Nat.le_refl _) _)⟩
      | true =>
        go_wp2_with fail
        refine (TN.out _).mono ?_; rintro _ w1 ⟨rfl, rfl⟩
        cases b with
        | false =>
          have e := HDF.out (by simp)
          subst e
          clear HDF HDT
          go_wp2
          go_ret
          exact ⟨rfl, ((Below.refl _ _).alloc (Nat.le_refl _) _)⟩
        | true =>
          go_wp2_with fail
          refine (VR.out _).mono ?_; rintro _ w1 ⟨rfl, rfl⟩
          cases cc with
          | false =>
            have e := HDF.out (by simp)
            subst e
            clear HDF HDT
            go_wp2
            go_ret
            exact ⟨rfl, ((Below.refl _ _).alloc (Nat.le_refl _) _)⟩
          | true =>
            go_wp2_with fail
            refine (HE.out _ ((Below.refl _ _).alloc (Nat.le_refl _) _)).mono ?_; rintro _ w1 ⟨rfl, hb1⟩
            obtain ⟨r0, r1, r2, r3, r4, r5, r6, r7, r8⟩ := (HH.out.below hb1 : Holds w1 w.heap.size _).nine
            have B1 := Lib.hid (show Below w.heap.size w w1 from Below.trans ((Below.refl _ _).alloc (Nat.le_refl _) _) (hb1.mono (by simp)))
            clear hb1
            cases he with
            | false =>
              have e := HDF.out (by simp)
              subst e
              clear HDF HDT
              go_wp2
              go_ret
              exact ⟨rfl, B1.out⟩
            | true =>
              by_cases hg : g = 0
              · have hq : (g == 0) = true := by rw [hg]; rfl
                have e := HDT.out ⟨by simp, by simp, by simp, by simp, hg⟩
                subst e
                clear HDF HDT hg
                go_wp2
                go_ret
                exact ⟨rfl, B1.out⟩
              · have hq : (g == 0) = false := beq_false_of_ne hg
                have e := HDF.out (fun h => hg h.2.2.2.2)
                subst e
                clear HDF HDT
                go_wp2
                go_ret
                exact ⟨rfl, B1.out⟩
    · by_cases k3 : k = 3
      case pos =>
        subst k3
        rw [hhe] at hd3
        rw [hd] at hd3
        obtain ⟨a, ha⟩ : ∃ x, tmOk t = x := ⟨_, rfl⟩
        obtain ⟨cc, hcc⟩ : ∃ x, decide (v0 ≠ -9223372036854775808) = x := ⟨_, rfl⟩
        have TT := Lib.hid (fun (W : World) => TM.out t W)
        rw [ha] at TT hd3
        rw [hcc] at VR hd3
        have HDF := Lib.hid (show ¬ ((0 ≤ g ∧ g ≤ 3) ∧ a = true ∧ cc = true ∧ he = true ∧ nw = 0) → d = false from fun h => by
          rw [hd3]
          by_cases hg : 0 ≤ g ∧ g ≤ 3
          · cases a <;> cases cc <;> cases he <;> simp [hg] at h ⊢
            exact h
          · rw [decide_eq_false hg]; rfl)
        have HDT := Lib.hid (show ((0 ≤ g ∧ g ≤ 3) ∧ a = true ∧ cc = true ∧ he = true ∧ nw = 0) → d = true from fun h => by rw [hd3, decide_eq_true h.1, h.2.1, h.2.2.1, h.2.2.2.1, decide_eq_true h.2.2.2.2]; rfl)
        clear HR0 HE0 hro hd hd1 hd2 hd3 hs hn hhk hhe hp hl TM HR ha hcc k1 k2
        by_cases g1 : 0 ≤ g
        case neg =>
          have e := HDF.out (fun h => g1 h.1.1)
          subst e
          clear HDF HDT
          go_enter Tryd.func12, Tryd.ntmps12
          go_wp2
          go_ret
          exact ⟨rfl, ((Below.refl _ _).alloc (Nat.le_refl _) _)⟩
        by_cases g2 : g ≤ 3
        case neg =>
          have e := HDF.out (fun h => g2 h.1.2)
          subst e
          clear HDF HDT
          go_enter Tryd.func12, Tryd.ntmps12
          go_wp2
          go_ret
          exact ⟨rfl, ((Below.refl _ _).alloc (Nat.le_refl _) _)⟩
        have g3 : g < 4 := by omega
        go_enter Tryd.func12, Tryd.ntmps12
        go_wp2_with fail
        refine (TT.out _).mono ?_; rintro _ w1 ⟨rfl, rfl⟩
        cases a with
        | false =>
          have e := HDF.out (by simp)
          subst e
          clear HDF HDT
          go_wp2
          go_ret
          exact ⟨rfl, ((Below.refl _ _).alloc (Nat.le_refl _) _)⟩
        | true =>
          go_wp2_with fail
          refine (VR.out _).mono ?_; rintro _ w1 ⟨rfl, rfl⟩
          cases cc with
          | false =>
            have e := HDF.out (by simp)
            subst e
            clear HDF HDT
            go_wp2
            go_ret
            exact ⟨rfl, ((Below.refl _ _).alloc (Nat.le_refl _) _)⟩
          | true =>
            go_wp2_with fail
            refine (HE.out _ ((Below.refl _ _).alloc (Nat.le_refl _) _)).mono ?_; rintro _ w1 ⟨rfl, hb1⟩
            obtain ⟨r0, r1, r2, r3, r4, r5, r6, r7, r8⟩ := (HH.out.below hb1 : Holds w1 w.heap.size _).nine
            have B1 := Lib.hid (show Below w.heap.size w w1 from Below.trans ((Below.refl _ _).alloc (Nat.le_refl _) _) (hb1.mono (by simp)))
            clear hb1
            cases he with
            | false =>
              have e := HDF.out (by simp)
              subst e
              clear HDF HDT
              go_wp2
              go_ret
              exact ⟨rfl, B1.out⟩
            | true =>
              by_cases hg : nw = 0
              · have hq : (nw == 0) = true := by rw [hg]; rfl
                have e := HDT.out ⟨⟨g1, g2⟩, by simp, by simp, by simp, hg⟩
                subst e
                clear HDF HDT hg
                go_wp2
                go_ret
                exact ⟨rfl, B1.out⟩
              · have hq : (nw == 0) = false := beq_false_of_ne hg
                have e := HDF.out (fun h => hg h.2.2.2.2)
                subst e
                clear HDF HDT
                go_wp2
                go_ret
                exact ⟨rfl, B1.out⟩
      · have e : d = false := by
          rw [← hd]
          unfold rRight
          rw [if_neg k1, if_neg k2, if_neg k3]
        subst e
        clear HR0 HE0 hro hd hd1 hd2 hd3 hs hn hhk hhe hp hl TM VR HE HR HH
        go_enter Tryd.func12, Tryd.ntmps12
        go_wp2
        go_ret
        exact ⟨rfl, (Below.refl _ _).alloc (Nat.le_refl _) _⟩
end Go.Proofs.YtabbpgnenmpacaaDoor.SP
