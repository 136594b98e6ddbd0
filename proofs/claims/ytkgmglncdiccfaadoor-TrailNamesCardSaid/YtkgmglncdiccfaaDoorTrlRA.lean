/-
  Contracts of the document's own functions of layer 15: class, has.
-/
import Derived.Test.YtkgmglncdiccfaaDoorGlbRA
set_option linter.unusedSimpArgs false
set_option linter.unusedVariables false
namespace Go.Proofs.YtkgmglncdiccfaaDoor
theorem drop_getD (s : List Nat) (k j : Nat) : (s.drop k).getD j 0 = s.getD (k + j) 0 := by
  rw [List.getD_eq_getElem?_getD, List.getD_eq_getElem?_getD, List.getElem?_drop]
/-- What stands from a place on. -/
theorem drop_cons {s : List Nat} {k : Nat} (h : k < s.length) : s.drop k = s.getD k 0 :: s.drop (k + 1) := by
  rw [List.drop_eq_getElem_cons h, List.getD_eq_getElem?_getD, List.getElem?_eq_getElem h]
  rfl
theorem mem_at (s : List Nat) (k : Nat) (hk : k < s.length) : gMem (s.drop k) =
    if isB (s.getD k 0) = true then
      if k + 3 ≤ s.length ∧ s.getD (k + 1) 0 = 45 ∧ isB (s.getD (k + 2) 0) = true then if s.getD k 0 ≤ s.getD (k + 2) 0 then some ((s.getD k 0, s.getD (k + 2) 0), 3) else none
      else some ((s.getD k 0, s.getD k 0), 1)
    else none := by
  unfold gMem
  rw [drop_getD, drop_getD, drop_getD, List.length_drop, Nat.add_zero]
  by_cases h : k + 3 ≤ s.length
  · have h2 : 3 ≤ s.length - k := by omega
    simp only [h, h2]
  · have h2 : ¬ 3 ≤ s.length - k := by omega
    simp only [h, h2, false_and, if_false]
theorem cls_step {s : List Nat} {k j : Nat} {m : Nat × Nat} (hk : k < s.length) (h93 : s.getD k 0 ≠ 93) (hm : gMem (s.drop k) = some (m, j)) : gCls (s.drop k) = (gCls (s.drop (k + j))).map fun x => (m :: x.1, j + x.2) := by
  have e := drop_cons hk
  rw [e] at hm ⊢
  rw [gCls_yes h93 hm, ← e, List.drop_drop]
theorem cls_no {s : List Nat} {k : Nat} (hk : k < s.length) (h93 : s.getD k 0 ≠ 93) (hm : gMem (s.drop k) = none) : gCls (s.drop k) = none := by
  have e := drop_cons hk
  rw [e] at hm ⊢
  exact gCls_no h93 hm
theorem cls_end {s : List Nat} {k : Nat} (hk : k < s.length) (h93 : s.getD k 0 = 93) : gCls (s.drop k) = some ([], 0) := by
  rw [drop_cons hk, h93]
  exact gCls_end _
/-- Where a class ends whose first member stands at a place. -/
def clsV (s : List Nat) (a : Nat) : Int := match gCls (s.drop a) with | none => -1 | some (rs, n) => if rs.isEmpty = true then -1 else ((a + n + 1 : Nat) : Int)
/-- The members that were read. -/
structure ClI (s : List Nat) (a k : Nat) (pre : List (Nat × Nat)) : Prop where
  rd : gCls (s.drop a) = (gCls (s.drop k)).map fun x => (pre ++ x.1, (k - a) + x.2)
  no : pre = [] ↔ k = a
  le : a ≤ k
theorem ClI.start (s : List Nat) (a : Nat) : ClI s a a [] := ⟨by rw [Nat.sub_self]; cases gCls (s.drop a) with | none => rfl | some x => obtain ⟨x1, x2⟩ := x; simp, by simp, Nat.le_refl _⟩
theorem ClI.step {s : List Nat} {a k j : Nat} {pre : List (Nat × Nat)} {m : Nat × Nat} (h : ClI s a k pre) (hk : k < s.length) (h93 : s.getD k 0 ≠ 93) (hm : gMem (s.drop k) = some (m, j)) (hj : 1 ≤ j) : ClI s a (k + j) (pre ++ [m]) := by
  have hle := h.le
  refine ⟨?_, by simp; omega, by omega⟩
  rw [h.rd, cls_step hk h93 hm]
  cases gCls (s.drop (k + j)) with
  | none => rfl
  | some x =>
    obtain ⟨x1, x2⟩ := x
    simp
    omega
theorem ClI.none {s : List Nat} {a k : Nat} {pre : List (Nat × Nat)} (h : ClI s a k pre) (hn : gCls (s.drop k) = none) : clsV s a = -1 := by
  unfold clsV
  rw [h.rd, hn]
  rfl
theorem ClI.ends {s : List Nat} {a k : Nat} {pre : List (Nat × Nat)} (h : ClI s a k pre) (hk : k < s.length) (h93 : s.getD k 0 = 93) : clsV s a = if k = a then -1 else ((k + 1 : Nat) : Int) := by
  unfold clsV
  rw [h.rd, cls_end hk h93]
  have hle := h.le
  by_cases e : k = a
  · have := h.no.2 e
    subst this
    rw [if_pos e]
    rfl
  · have hne : pre ≠ [] := fun e2 => e (h.no.1 e2)
    rw [if_neg e]
    show (if (pre ++ []).isEmpty = true then -1 else ((a + (k - a + 0) + 1 : Nat) : Int)) = _
    rw [List.append_nil, if_neg (by simpa using hne), show a + (k - a + 0) + 1 = k + 1 by omega]
theorem ClI.past {s : List Nat} {a k : Nat} {pre : List (Nat × Nat)} (h : ClI s a k pre) (hk : s.length ≤ k) : clsV s a = -1 := h.none (by rw [List.drop_eq_nil_of_le hk]; exact gCls_nil)
namespace GR
open Go.RowKit
set_option maxRecDepth 100000 in
set_option maxHeartbeats 4000000 in
theorem class_c (p : ByteArray) (a : Nat) (hp : p.size ≤ 128) (ha : a ≤ p.size) (w : World) : Calls Tryd.prog 28 #[.string p, .int .i64 (a : Nat)] w fun e w' => e = .returned (.int .i64 (clsV (bs p) a)) ∧ Below w.heap.size w w' := by
  obtain ⟨d, hd⟩ : ∃ d, clsV (bs p) a = d := ⟨_, rfl⟩
  rw [hd]
  have HD := Lib.hid hd
  have BY := Lib.hid (fun (c : Nat) (hc : c < 256) (W : World) => byte_c c hc W)
  have hl := bs_length p
  have HL := Lib.hid hl
  have hw2 : IntKind.i64.wrap ((p.size : Int) - 2) = (p.size : Int) - 2 := by rw [IntKind.wrap_i64]; omega
  clear hd hl
  go_enter Tryd.func28, Tryd.ntmps28
  go_wp2
  go_loopw [1] (fun v1 wr => ∃ k : Nat, v1 = .int .i64 (k : Nat) ∧ k ≤ p.size ∧ Hid (∃ pre, ClI (bs p) a k pre) ∧ Hid (Below w.heap.size w wr)) (fun v1 _ => p.size - (intOf v1).toNat)
  case atStart => exact ⟨a, rfl, ha, ⟨[], ClI.start _ _⟩, Below.refl _ _⟩
  case round =>
    obtain ⟨k, rfl, hk, HI, HB⟩ := hrel
    by_cases hlt : k < p.size
    · obtain ⟨c, hcb, x0, hc⟩ := bs_get hlt
      have hki : (k : Int) < (p.size : Int) := by omega
      have hkn : ¬ (p.size : Int) ≤ (k : Int) := by omega
      have HC := Lib.hid hcb
      clear hcb
      by_cases h93 : c = 93
      · subst h93
        as_aux_lemma =>
          have HE := Lib.hid (show d = if k = a then -1 else ((k + 1 : Nat) : Int) by
            obtain ⟨pre, hi⟩ := HI.out
            rw [← HD.out]; exact hi.ends (by rw [HL.out]; exact hlt) HC.out)
          by_cases hka : k = a
          · subst hka
            have HE2 := Lib.hid (show -1 = d by rw [HE.out, if_pos rfl])
            go_wp2
            go_ret
            exact ⟨congrArg (fun z => Ending.returned (.int .i64 z)) HE2.out, HB.out⟩
          · have hka2 : ((k : Int) == (a : Int)) = false := beq_false_of_ne (by omega)
            have hka3 : ¬ (k : Int) = (a : Int) := by omega
            have hw1 : IntKind.i64.wrap ((k : Int) + 1) = ((k + 1 : Nat) : Int) := by rw [IntKind.wrap_i64]; omega
            have HE2 := Lib.hid (show ((k + 1 : Nat) : Int) = d by rw [HE.out, if_neg hka])
            go_wp2
            go_ret
            exact ⟨congrArg (fun z => Ending.returned (.int .i64 z)) HE2.out, HB.out⟩
      · have i93 : ¬ (c : Int) = 93 := by omega
        have b93 : ((c : Int) != 93) = true := bne_iff_ne.2 i93
        have HM := Lib.hid (mem_at (bs p) k (by rw [HL.out]; exact hlt))
        have BC := Lib.hid (BY.out c hc wr)
        cases hB : isB c with
        | false =>
          as_aux_lemma =>
            rw [hB] at BC
            have HE := Lib.hid (show -1 = d by
              obtain ⟨pre, hi⟩ := HI.out
              rw [← HD.out]
              refine (hi.none (cls_no (by rw [HL.out]; exact hlt) (by rw [HC.out]; exact h93) ?_)).symm
              rw [HM.out, HC.out, hB]
              rfl)
            clear hB
            go_wp2_with fail
            refine BC.out.mono ?_; rintro _ w2 ⟨rfl, hw2⟩; obtain rfl := hw2.symm
            go_wp2
            go_ret
            exact ⟨congrArg (fun z => Ending.returned (.int .i64 z)) HE.out, HB.out⟩
        | true =>
          rw [hB] at BC
          have hw1 : IntKind.i64.wrap ((k : Int) + 1) = ((k + 1 : Nat) : Int) := by rw [IntKind.wrap_i64]; omega
          have hwp2 : IntKind.i64.wrap ((k : Int) + 2) = ((k + 2 : Nat) : Int) := by rw [IntKind.wrap_i64]; omega
          have HONE := Lib.hid (fun (hx : ¬ (k + 3 ≤ (bs p).length ∧ (bs p).getD (k + 1) 0 = 45 ∧ isB ((bs p).getD (k + 2) 0) = true)) => show ∃ pre, ClI (bs p) a (k + 1) pre by
            obtain ⟨pre, hi⟩ := HI.out
            refine ⟨_, hi.step (by rw [HL.out]; exact hlt) (by rw [HC.out]; exact h93) (m := (c, c)) (j := 1) ?_ (Nat.le_refl _)⟩
            rw [HM.out, HC.out, hB, if_pos rfl, if_neg hx])
          by_cases h3 : k + 3 ≤ p.size
          · have h3i : (k : Int) < (p.size : Int) - 2 := by omega
            obtain ⟨c1, hcb1, x1, hc1⟩ := bs_get (show k + 1 < p.size by omega)
            have HC1 := Lib.hid hcb1
            have hk1 : ((k + 1 : Nat) : Int) < (p.size : Int) := by omega
            clear hcb1
            by_cases h45 : c1 = 45
            · subst h45
              obtain ⟨c2, hcb2, x2, hc2⟩ := bs_get (show k + 2 < p.size by omega)
              have HC2 := Lib.hid hcb2
              have hk2 : ((k + 2 : Nat) : Int) < (p.size : Int) := by omega
              have BC2 := Lib.hid (BY.out c2 hc2 wr)
              clear hcb2
              cases hB2 : isB c2 with
              | false =>
                as_aux_lemma =>
                  rw [hB2] at BC2
                  have HN := Lib.hid (HONE.out (fun hx => by rw [HC2.out, hB2] at hx; exact absurd hx.2.2 (by decide)))
                  clear hB hB2
                  go_wp2_with fail
                  refine BC.out.mono ?_; rintro _ w2 ⟨rfl, hw2⟩; obtain rfl := hw2.symm
                  go_wp2_with fail
                  refine BC2.out.mono ?_; rintro _ w2 ⟨rfl, hw2⟩; obtain rfl := hw2.symm
                  go_wp2
                  go_roundw
                  case rel => exact ⟨k + 1, rfl, by omega, HN.out, HB.out⟩
                  case measure => simp [intOf]; omega
              | true =>
                rw [hB2] at BC2
                have hm3 : (k + 3 ≤ (bs p).length ∧ (bs p).getD (k + 1) 0 = 45 ∧ isB ((bs p).getD (k + 2) 0) = true) := ⟨by rw [HL.out]; exact h3, HC1.out, by rw [HC2.out]; exact hB2⟩
                by_cases hfall : c2 < c
                · as_aux_lemma =>
                    have hfi : (c2 : Int) < (c : Int) := by omega
                    have HE := Lib.hid (show -1 = d by
                      obtain ⟨pre, hi⟩ := HI.out
                      rw [← HD.out]
                      refine (hi.none (cls_no (by rw [HL.out]; exact hlt) (by rw [HC.out]; exact h93) ?_)).symm
                      rw [HM.out, HC.out, hB, if_pos rfl, if_pos hm3, HC2.out, if_neg (by omega)])
                    clear hB hB2 hm3
                    go_wp2_with fail
                    refine BC.out.mono ?_; rintro _ w2 ⟨rfl, hw2⟩; obtain rfl := hw2.symm
                    go_wp2_with fail
                    refine BC2.out.mono ?_; rintro _ w2 ⟨rfl, hw2⟩; obtain rfl := hw2.symm
                    go_wp2
                    go_region
                    go_wp2
                    go_ret
                    exact ⟨congrArg (fun z => Ending.returned (.int .i64 z)) HE.out, HB.out.drew⟩
                · as_aux_lemma =>
                    have hfi : ¬ (c2 : Int) < (c : Int) := by omega
                    have HN := Lib.hid (show ∃ pre, ClI (bs p) a (k + 3) pre by
                      obtain ⟨pre, hi⟩ := HI.out
                      refine ⟨_, hi.step (by rw [HL.out]; exact hlt) (by rw [HC.out]; exact h93) (m := (c, c2)) (j := 3) ?_ (by decide)⟩
                      rw [HM.out, HC.out, hB, if_pos rfl, if_pos hm3, HC2.out, if_pos (by omega)])
                    have hwp3 : IntKind.i64.wrap (((k + 2 : Nat) : Int) + 1) = ((k + 3 : Nat) : Int) := by rw [IntKind.wrap_i64]; omega
                    clear hB hB2 hm3
                    go_wp2_with fail
                    refine BC.out.mono ?_; rintro _ w2 ⟨rfl, hw2⟩; obtain rfl := hw2.symm
                    go_wp2_with fail
                    refine BC2.out.mono ?_; rintro _ w2 ⟨rfl, hw2⟩; obtain rfl := hw2.symm
                    go_wp2
                    go_region
                    go_wp2
                    go_roundw
                    case rel => exact ⟨k + 3, rfl, by omega, HN.out, HB.out.drew⟩
                    case measure => simp [intOf]; omega
            · as_aux_lemma =>
                have i45 : ¬ (c1 : Int) = 45 := by omega
                have b45 : ((c1 : Int) == 45) = false := beq_false_of_ne i45
                have HN := Lib.hid (HONE.out (fun hx => by rw [HC1.out] at hx; exact h45 hx.2.1))
                clear hB
                go_wp2_with fail
                refine BC.out.mono ?_; rintro _ w2 ⟨rfl, hw2⟩; obtain rfl := hw2.symm
                go_wp2
                go_roundw
                case rel => exact ⟨k + 1, rfl, by omega, HN.out, HB.out⟩
                case measure => simp [intOf]; omega
          · as_aux_lemma =>
              have h3i : ¬ (k : Int) < (p.size : Int) - 2 := by omega
              have HN := Lib.hid (HONE.out (fun hx => by rw [HL.out] at hx; exact h3 hx.1))
              clear hB
              go_wp2_with fail
              refine BC.out.mono ?_; rintro _ w2 ⟨rfl, hw2⟩; obtain rfl := hw2.symm
              go_wp2
              go_roundw
              case rel => exact ⟨k + 1, rfl, by omega, HN.out, HB.out⟩
              case measure => simp [intOf]; omega
    · as_aux_lemma =>
        obtain rfl : k = p.size := by omega
        have HE := Lib.hid (show -1 = d by
          obtain ⟨pre, hi⟩ := HI.out
          rw [← HD.out]
          exact (hi.past (by rw [HL.out]; exact Nat.le_refl _)).symm)
        go_wp2
        go_ret
        exact ⟨congrArg (fun z => Ending.returned (.int .i64 z)) HE.out, HB.out⟩
end GR
end Go.Proofs.YtkgmglncdiccfaaDoor
