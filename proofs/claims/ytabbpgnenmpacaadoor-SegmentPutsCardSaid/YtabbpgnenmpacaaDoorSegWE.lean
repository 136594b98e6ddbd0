/-
  The statements of layer 8, walked: a record that is put, framed and right.
-/
import Derived.Test.YtabbpgnenmpacaaDoorSegWB
import Derived.Test.YtabbpgnenmpacaaDoorSegPM
import Derived.Test.YtabbpgnenmpacaaDoorSegRefG
import Derived.Test.YtabbpgnenmpacaaDoorSegPN
import Derived.Deep.RegionHeldLaw
set_option linter.unusedSimpArgs false
set_option linter.unusedVariables false
namespace Go.Proofs.YtabbpgnenmpacaaDoor.SW
open Go Go.RowKit
open CR (below_next own_ge)
open SP (rc_plain)
/-- A call of isobar/segment.Right, at a step of a region that draws. -/
theorem step_right {ops : Array Oper} {o : Oper} {a : Act} {K : Act → World → Prop} {Q : Exit → Act → World → Prop} {E : Prop} {W : World} (hw : Region.wanted o (yielded ops a.tmps) = true) (x0 : Operand) (u0 : Value) (T : Array TypeId) (v : Value) (R : World → Prop)
    (ho : o.op = .call { callee := .value (.func 12), args := #[x0], argTypes := T }) (hx0 : a.eval x0 = u0)
    (hcall : Calls Tryd.prog 12 #[u0] W fun e w' => e = .returned v ∧ R w')
    (h : ∀ w', R w' → K (a.put o.dst v) w') : if Region.wanted o (yielded ops a.tmps) = true then Oper.wp Tryd.prog o a W K Q else E := by
  rw [if_pos hw]
  have e : (execOp a.eval o).run Tryd.prog W = .ok (.enter 12 #[u0]) W := by
    have hf : a.eval (.func 12) = .func (.func 12) #[] #[] := rfl
    have hb1 : (Tryd.f12.name == "runtime.NumGoroutine") = false := by kernel_rfl
    have hb2 : Tryd.f12.body.isNone = false := by kernel_rfl
    have hnm : ¬ Tryd.f12.name = "runtime.NumGoroutine" := fun h => by rw [h] at hb1; simp at hb1
    have hbd : ¬ Tryd.f12.body = none := fun h => by rw [h] at hb2; simp at hb2
    unfold execOp
    simp [ho, resolve, Deferred.ofValue, invoke, callFunc, hx0, hf, go_sem, hnm, hbd]
    first
      | exact hx0
      | (unfold Act.eval at hx0; exact hx0)
      | (simp [Act.eval] at hx0; exact hx0)
      | (simp [Act.eval, go_sem] at hx0; exact hx0)
  unfold Oper.wp
  rw [e, Oper.upon_enter]
  refine hcall.mono ?_
  rintro _ w' ⟨rfl, h2⟩
  exact h w' h2
/-- A call of isobar/isobarref08.Right, at a step of a region that draws. -/
theorem step_rightR {ops : Array Oper} {o : Oper} {a : Act} {K : Act → World → Prop} {Q : Exit → Act → World → Prop} {E : Prop} {W : World} (hw : Region.wanted o (yielded ops a.tmps) = true) (x0 : Operand) (u0 : Value) (T : Array TypeId) (v : Value) (R : World → Prop)
    (ho : o.op = .call { callee := .value (.func 13), args := #[x0], argTypes := T }) (hx0 : a.eval x0 = u0)
    (hcall : Calls Tryd.prog 13 #[u0] W fun e w' => e = .returned v ∧ R w')
    (h : ∀ w', R w' → K (a.put o.dst v) w') : if Region.wanted o (yielded ops a.tmps) = true then Oper.wp Tryd.prog o a W K Q else E := by
  rw [if_pos hw]
  have e : (execOp a.eval o).run Tryd.prog W = .ok (.enter 13 #[u0]) W := by
    have hf : a.eval (.func 13) = .func (.func 13) #[] #[] := rfl
    have hb1 : (Tryd.f13.name == "runtime.NumGoroutine") = false := by kernel_rfl
    have hb2 : Tryd.f13.body.isNone = false := by kernel_rfl
    have hnm : ¬ Tryd.f13.name = "runtime.NumGoroutine" := fun h => by rw [h] at hb1; simp at hb1
    have hbd : ¬ Tryd.f13.body = none := fun h => by rw [h] at hb2; simp at hb2
    unfold execOp
    simp [ho, resolve, Deferred.ofValue, invoke, callFunc, hx0, hf, go_sem, hnm, hbd]
    first
      | exact hx0
      | (unfold Act.eval at hx0; exact hx0)
      | (simp [Act.eval] at hx0; exact hx0)
      | (simp [Act.eval, go_sem] at hx0; exact hx0)
  unfold Oper.wp
  rw [e, Oper.upon_enter]
  refine hcall.mono ?_
  rintro _ w' ⟨rfl, h2⟩
  exact h w' h2
/-- A call of isobar/isobarref05.Same, at a step of a region that draws. -/
theorem step_same {ops : Array Oper} {o : Oper} {a : Act} {K : Act → World → Prop} {Q : Exit → Act → World → Prop} {E : Prop} {W : World} (hw : Region.wanted o (yielded ops a.tmps) = true) (x0 x1 : Operand) (u0 u1 : Value) (T : Array TypeId) (v : Value) (R : World → Prop)
    (ho : o.op = .call { callee := .value (.func 14), args := #[x0, x1], argTypes := T }) (hx0 : a.eval x0 = u0) (hx1 : a.eval x1 = u1)
    (hcall : Calls Tryd.prog 14 #[u0, u1] W fun e w' => e = .returned v ∧ R w')
    (h : ∀ w', R w' → K (a.put o.dst v) w') : if Region.wanted o (yielded ops a.tmps) = true then Oper.wp Tryd.prog o a W K Q else E := by
  rw [if_pos hw]
  have e : (execOp a.eval o).run Tryd.prog W = .ok (.enter 14 #[u0, u1]) W := by
    have hf : a.eval (.func 14) = .func (.func 14) #[] #[] := rfl
    have hb1 : (Tryd.f14.name == "runtime.NumGoroutine") = false := by kernel_rfl
    have hb2 : Tryd.f14.body.isNone = false := by kernel_rfl
    have hnm : ¬ Tryd.f14.name = "runtime.NumGoroutine" := fun h => by rw [h] at hb1; simp at hb1
    have hbd : ¬ Tryd.f14.body = none := fun h => by rw [h] at hb2; simp at hb2
    unfold execOp
    simp [ho, resolve, Deferred.ofValue, invoke, callFunc, hx0, hx1, hf, go_sem, hnm, hbd]
    first
      | exact ⟨hx0, hx1⟩
      | (unfold Act.eval at hx0 hx1; exact ⟨hx0, hx1⟩)
      | (simp [Act.eval] at hx0 hx1; exact ⟨hx0, hx1⟩)
      | (simp [Act.eval, go_sem] at hx0 hx1; exact ⟨hx0, hx1⟩)
  unfold Oper.wp
  rw [e, Oper.upon_enter]
  refine hcall.mono ?_
  rintro _ w' ⟨rfl, h2⟩
  exact h w' h2
theorem not_great {r : PR} (h : tooGreat r = false) : r.rungs.length ≤ 1000 ∧ r.path.length ≤ 1000 := by
  unfold tooGreat at h
  rw [Bool.or_eq_false_iff, decide_eq_false_iff_not, decide_eq_false_iff_not] at h
  omega
theorem rPut_len (r : PR) : (rPut r).1.length ≤ 296 := by
  unfold rPut
  by_cases h : rRight r = true
  · rw [if_pos h]; exact (rBytes_len h).2
  · rw [if_neg h]; exact Nat.zero_le _
theorem rFrame_len (r : PR) : (rFrame r).1.length ≤ 302 := by
  rcases SP.rFrame_two r with ⟨h, e⟩ | ⟨_, e⟩
  · have := (rBytes_len h).2
    rw [e, rFrm_length]; omega
  · rw [e]; exact Nat.zero_le _
set_option maxRecDepth 100000 in
set_option maxHeartbeats 10000000 in
theorem puts_tail (A : Option Addr) (c : Nat) (r : PR) (hp : Bytes r.path) (w : World) (hG : G w) (fr : RgOut w (.slice A r.rungs.length c) r.rungs) (hg : tooGreat r = false) :
    Calls Tryd.prog 3 #[.agg #[.int .i64 r.kind, .string (strB r.path), .int .i64 r.method, .int .i64 r.factor, .slice A r.rungs.length c, .int .i64 r.rung, .int .i64 r.time, .int .i64 r.now, .int .i64 r.value]] w fun e w' => e = .returned (.bool true) ∧ Below w.heap.size w w' := by
  have HG := Lib.hid hG
  have hng := not_great hg
  have AL := Lib.hid alive_c
  have l1 := rPut_len r; have l2 := rFrame_len r
  have GR := Lib.hid (fun (W : World) (h : RgOut W (.slice A r.rungs.length c) r.rungs) => great_c (.agg #[.int .i64 r.kind, .string (strB r.path), .int .i64 r.method, .int .i64 r.factor, .slice A r.rungs.length c, .int .i64 r.rung, .int .i64 r.time, .int .i64 r.now, .int .i64 r.value]) r W (rc_mk h))
  have PP := Lib.hid (fun W (h : RgOut W (.slice A r.rungs.length c) r.rungs) => SP.put_c (.agg #[.int .i64 r.kind, .string (strB r.path), .int .i64 r.method, .int .i64 r.factor, .slice A r.rungs.length c, .int .i64 r.rung, .int .i64 r.time, .int .i64 r.now, .int .i64 r.value]) r hp (by omega) W (rc_mk h))
  have PF := Lib.hid (fun W (g : G W) (h : RgOut W (.slice A r.rungs.length c) r.rungs) => SP.frame_c (.agg #[.int .i64 r.kind, .string (strB r.path), .int .i64 r.method, .int .i64 r.factor, .slice A r.rungs.length c, .int .i64 r.rung, .int .i64 r.time, .int .i64 r.now, .int .i64 r.value]) r hp (by omega) W g (rc_mk h))
  have PR' := Lib.hid (fun W (h : RgOut W (.slice A r.rungs.length c) r.rungs) => SP.right_c (.agg #[.int .i64 r.kind, .string (strB r.path), .int .i64 r.method, .int .i64 r.factor, .slice A r.rungs.length c, .int .i64 r.rung, .int .i64 r.time, .int .i64 r.now, .int .i64 r.value]) r hp (by omega) W (rc_mk h))
  have RP := Lib.hid (fun W (h : RgOut W (.slice A r.rungs.length c) r.rungs) => SR.put_c (.agg #[.int .i64 r.kind, .string (strB r.path), .int .i64 r.method, .int .i64 r.factor, .slice A r.rungs.length c, .int .i64 r.rung, .int .i64 r.time, .int .i64 r.now, .int .i64 r.value]) r hp (by omega) W (rc_mk h))
  have RF := Lib.hid (fun W (h : RgOut W (.slice A r.rungs.length c) r.rungs) => SR.frame_c (.agg #[.int .i64 r.kind, .string (strB r.path), .int .i64 r.method, .int .i64 r.factor, .slice A r.rungs.length c, .int .i64 r.rung, .int .i64 r.time, .int .i64 r.now, .int .i64 r.value]) r hp (by omega) W (rc_mk h))
  have RR' := Lib.hid (fun W (h : RgOut W (.slice A r.rungs.length c) r.rungs) => SR.right_c (.agg #[.int .i64 r.kind, .string (strB r.path), .int .i64 r.method, .int .i64 r.factor, .slice A r.rungs.length c, .int .i64 r.rung, .int .i64 r.time, .int .i64 r.now, .int .i64 r.value]) r hp (by omega) W (rc_mk h))
  have S1 := fun v1 v2 w f1 f2 => CR.same_c v1 v2 (rPut r).1 (rPut r).1 (by omega) (by omega) w f1 f2
  have S2 := fun v1 v2 w f1 f2 => CR.same_c v1 v2 (rFrame r).1 (rFrame r).1 (by omega) (by omega) w f1 f2
  rw [decide_eq_true rfl] at S1 S2
  have H1 := Lib.hid S1; have H2 := Lib.hid S2
  rw [hg] at GR
  obtain ⟨⟨P, x⟩, hP⟩ : ∃ x, rPut r = x := ⟨_, rfl⟩
  obtain ⟨⟨F, y⟩, hF⟩ : ∃ x, rFrame r = x := ⟨_, rfl⟩
  obtain ⟨d, hd⟩ : ∃ x, rRight r = x := ⟨_, rfl⟩
  rw [hP] at PP RP H1
  rw [hF] at PF RF H2
  rw [hd] at PR' RR'
  have FR := Lib.hid fr
  obtain ⟨nr, hnr⟩ : ∃ n, r.rungs.length = n := ⟨_, rfl⟩
  rw [hnr] at GR PP PF PR' RP RF RR' FR ⊢
  have HH := Lib.hid (holds_alloc w [.int .i64 r.kind, .string (strB r.path), .int .i64 r.method, .int .i64 r.factor, .slice A nr c, .int .i64 r.rung, .int .i64 r.time, .int .i64 r.now, .int .i64 r.value] 24)
  have hxx : (x == x) = true := beq_self_eq_true _
  have hyy : (y == y) = true := beq_self_eq_true _
  have hdd : (d == d) = true := beq_self_eq_true _
  clear l1 l2 S1 S2 hP hF hd hnr hng fr hg hp hG
  go_enter Tryd.func3, Tryd.ntmps3
  go_wp2_with fail
  refine (AL.out _).mono ?_; rintro _ w1 ⟨rfl, hb1⟩
  have B1 := Lib.hid (show Below w.heap.size w w1 from (alloc_below w _).trans (hb1.mono (by simp)))
  have H1b := Lib.hid (HH.out.below hb1 : Holds w1 w.heap.size _)
  obtain ⟨r0, r1, r2, r3, r4, r5, r6, r7, r8⟩ := Holds.nine H1b.out
  clear hb1
  go_wp2_with fail
  refine (GR.out _ (FR.out.below B1.out)).mono ?_; rintro _ w2 ⟨rfl, hb2⟩
  have B2 := Lib.hid (below_next B1.out hb2); have H2b := Lib.hid (H1b.out.below hb2 : Holds w2 w.heap.size _)
  clear hb2 r0 r1 r2 r3 r4 r5 r6 r7 r8
  obtain ⟨r0, r1, r2, r3, r4, r5, r6, r7, r8⟩ := Holds.nine H2b.out
  go_wp2_with fail
  refine (PP.out _ (FR.out.below B2.out)).mono ?_; rintro _ w3 ⟨v3, rfl, hn3, hb3⟩
  have O3 := Lib.hid hn3.out; have B3 := Lib.hid (below_next B2.out hb3); have H3b := Lib.hid (H2b.out.below hb3 : Holds w3 w.heap.size _)
  clear hn3 hb3 r0 r1 r2 r3 r4 r5 r6 r7 r8
  obtain ⟨r0, r1, r2, r3, r4, r5, r6, r7, r8⟩ := Holds.nine H3b.out
  go_wp2_with fail
  refine (RP.out _ (FR.out.below B3.out)).mono ?_; rintro _ w4 ⟨v4, rfl, hn4, hb4⟩
  have O4 := Lib.hid hn4.out; have O34 := Lib.hid (O3.out.below hb4); have B4 := Lib.hid (below_next B3.out hb4); have H4b := Lib.hid (H3b.out.below hb4 : Holds w4 w.heap.size _)
  clear hn4 hb4 r0 r1 r2 r3 r4 r5 r6 r7 r8
  obtain ⟨r0, r1, r2, r3, r4, r5, r6, r7, r8⟩ := Holds.nine H4b.out
  go_wp2_with fail
  refine (PF.out _ (HG.out.below B4.out) (FR.out.below B4.out)).mono ?_; rintro _ w5 ⟨v5, rfl, hn5, hb5⟩
  have O5 := Lib.hid hn5.out; have O35 := Lib.hid (O34.out.below hb5); have O45 := Lib.hid (O4.out.below hb5); have B5 := Lib.hid (below_next B4.out hb5); have H5b := Lib.hid (H4b.out.below hb5 : Holds w5 w.heap.size _)
  clear hn5 hb5 r0 r1 r2 r3 r4 r5 r6 r7 r8
  obtain ⟨r0, r1, r2, r3, r4, r5, r6, r7, r8⟩ := Holds.nine H5b.out
  go_wp2_with fail
  refine (RF.out _ (FR.out.below B5.out)).mono ?_; rintro _ w6 ⟨v6, rfl, hn6, hb6⟩
  have O6 := Lib.hid hn6.out; have O36 := Lib.hid (O35.out.below hb6); have O46 := Lib.hid (O45.out.below hb6); have O56 := Lib.hid (O5.out.below hb6); have B6 := Lib.hid (below_next B5.out hb6); have H6b := Lib.hid (H5b.out.below hb6 : Holds w6 w.heap.size _)
  clear hn6 hb6 r0 r1 r2 r3 r4 r5 r6 r7 r8
  obtain ⟨r0, r1, r2, r3, r4, r5, r6, r7, r8⟩ := Holds.nine H6b.out
  have hz := Below.drew (Below.refl w6.heap.size w6)
  go_wp2_with fail
  go_region_held_law (fun y => y.cell? ⟨w.heap.size, 0, none⟩ = some (.int .i64 r.kind) ∧ y.cell? ⟨w.heap.size, 1, none⟩ = some (.string (strB r.path)) ∧ y.cell? ⟨w.heap.size, 2, none⟩ = some (.int .i64 r.method) ∧ y.cell? ⟨w.heap.size, 3, none⟩ = some (.int .i64 r.factor) ∧ y.cell? ⟨w.heap.size, 4, none⟩ = some (.slice A nr c) ∧ y.cell? ⟨w.heap.size, 5, none⟩ = some (.int .i64 r.rung) ∧ y.cell? ⟨w.heap.size, 6, none⟩ = some (.int .i64 r.time) ∧ y.cell? ⟨w.heap.size, 7, none⟩ = some (.int .i64 r.now) ∧ y.cell? ⟨w.heap.size, 8, none⟩ = some (.int .i64 r.value))
    (exact Holds.nine (H6b.out.below hz))
    (first
      | (refine step_right (by rfl) (.tmp 35) _ _ (.bool d) (fun w' => Below w6.heap.size w6 w') rfl rfl ((PR'.out _ ((FR.out.below B6.out).below hz)).mono (by rintro _ w9 ⟨rfl, hb9⟩; exact ⟨rfl, below_next hz hb9⟩)) ?_; intro w9 hz; simp only [Act.put, List.getElem_toArray, List.getElem_cons_zero, List.getElem_cons_succ, List.setIfInBounds_toArray, List.set_cons_zero, List.set_cons_succ])
      | (refine step_rightR (by rfl) (.tmp 37) _ _ (.bool d) (fun w' => Below w6.heap.size w6 w') rfl rfl ((RR'.out _ ((FR.out.below B6.out).below hz)).mono (by rintro _ w9 ⟨rfl, hb9⟩; exact ⟨rfl, below_next hz hb9⟩)) ?_; intro w9 hz; simp only [Act.put, List.getElem_toArray, List.getElem_cons_zero, List.getElem_cons_succ, List.setIfInBounds_toArray, List.set_cons_zero, List.set_cons_succ])
      | (refine step_same (by rfl) (.tmp 41) (.tmp 42) _ _ _ (.bool true) (fun w' => Below w6.heap.size w6 w') rfl rfl rfl ((H1.out _ _ _ (O36.out.below hz) (O46.out.below hz)).mono (by rintro _ w9 ⟨rfl, hb9⟩; exact ⟨rfl, below_next hz hb9⟩)) ?_; intro w9 hz; simp only [Act.put, List.getElem_toArray, List.getElem_cons_zero, List.getElem_cons_succ, List.setIfInBounds_toArray, List.set_cons_zero, List.set_cons_succ])
      | (refine step_same (by rfl) (.tmp 51) (.tmp 52) _ _ _ (.bool true) (fun w' => Below w6.heap.size w6 w') rfl rfl rfl ((H2.out _ _ _ (O56.out.below hz) (O6.out.below hz)).mono (by rintro _ w9 ⟨rfl, hb9⟩; exact ⟨rfl, below_next hz hb9⟩)) ?_; intro w9 hz; simp only [Act.put, List.getElem_toArray, List.getElem_cons_zero, List.getElem_cons_succ, List.setIfInBounds_toArray, List.set_cons_zero, List.set_cons_succ]))
  all_goals go_wp2
  all_goals go_ret
  all_goals exact ⟨rfl, below_next B6.out hz⟩
set_option maxRecDepth 100000 in
set_option maxHeartbeats 2000000 in
theorem segmentPuts_c (vr : Value) (r : PR) (hp : Bytes r.path) (w : World) (hG : G w) (fr : RcOut w vr r) :
    Calls Tryd.prog 3 #[vr] w fun e w' => e = .returned (.bool true) ∧ Below w.heap.size w w' := by
  obtain ⟨u, rfl, hu⟩ := fr
  obtain ⟨A, c, rfl, _, _⟩ := id hu
  change Calls Tryd.prog 3 #[.agg #[.int .i64 r.kind, .string (strB r.path), .int .i64 r.method, .int .i64 r.factor, .slice A r.rungs.length c, .int .i64 r.rung, .int .i64 r.time, .int .i64 r.now, .int .i64 r.value]] w _
  by_cases hg : tooGreat r = false
  · exact puts_tail A c r hp w hG hu hg
  · have hg2 : tooGreat r = true := by simpa using hg
    have AL := Lib.hid alive_c
    have GR := Lib.hid (fun (W : World) (h : RgOut W (.slice A r.rungs.length c) r.rungs) => great_c (.agg #[.int .i64 r.kind, .string (strB r.path), .int .i64 r.method, .int .i64 r.factor, .slice A r.rungs.length c, .int .i64 r.rung, .int .i64 r.time, .int .i64 r.now, .int .i64 r.value]) r W (rc_mk h))
    rw [hg2] at GR
    have FR := Lib.hid hu
    obtain ⟨nr, hnr⟩ : ∃ n, r.rungs.length = n := ⟨_, rfl⟩
    rw [hnr] at GR FR ⊢
    have HH := Lib.hid (holds_alloc w [.int .i64 r.kind, .string (strB r.path), .int .i64 r.method, .int .i64 r.factor, .slice A nr c, .int .i64 r.rung, .int .i64 r.time, .int .i64 r.now, .int .i64 r.value] 24)
    clear hg hg2 hu hnr hp hG
    go_enter Tryd.func3, Tryd.ntmps3
    go_wp2_with fail
    refine (AL.out _).mono ?_; rintro _ w1 ⟨rfl, hb1⟩
    have B1 := Lib.hid (show Below w.heap.size w w1 from (alloc_below w _).trans (hb1.mono (by simp)))
    obtain ⟨r0, r1, r2, r3, r4, r5, r6, r7, r8⟩ := Holds.nine (HH.out.below hb1 : Holds w1 w.heap.size _)
    clear hb1
    go_wp2_with fail
    refine (GR.out _ (FR.out.below B1.out)).mono ?_; rintro _ w2 ⟨rfl, hb2⟩
    have B2 := Lib.hid (below_next B1.out hb2)
    clear hb2 r0 r1 r2 r3 r4 r5 r6 r7 r8
    go_wp2
    go_ret
    exact ⟨rfl, B2.out⟩
end Go.Proofs.YtabbpgnenmpacaaDoor.SW
