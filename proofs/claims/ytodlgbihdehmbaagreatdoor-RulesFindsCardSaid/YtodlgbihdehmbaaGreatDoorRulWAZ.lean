/-
  Walks of layer 12's laws: the fixed fact; methods' names (RulesNames).
-/
import Derived.Test.YtodlgbihdehmbaaGreatDoorRulPIZ
import Derived.Test.YtodlgbihdehmbaaGreatDoorRulPJZ
import Derived.Test.YtodlgbihdehmbaaGreatDoorRetRGZ
set_option linter.unusedSimpArgs false
set_option linter.unusedVariables false
namespace Go.Proofs.YtodlgbihdehmbaaGreatDoor
open Go.RowKit Cf Cf.KR Cf.KP
def fixT : ByteArray := ⟨#[91, 97, 108, 108, 93, 10, 112, 97, 116, 116, 101, 114, 110, 32, 61, 32, 46, 42, 10, 114, 101, 116, 101, 110, 116, 105, 111, 110, 115, 32, 61, 32, 54, 48, 115, 58, 49, 104, 10]⟩
def fixU : ByteArray := ⟨#[91, 120, 93, 10, 112, 97, 116, 116, 101, 114, 110, 32, 61, 32, 97, 10]⟩
set_option maxRecDepth 100000 in
theorem fixA : storesV (bs fixT) = ([([97, 108, 108], [46, 42], [(60, 60)])], 0) := by decide +kernel
set_option maxRecDepth 100000 in
theorem fixB : storesV (bs fixU) = ([], 7) := by decide +kernel
set_option maxRecDepth 100000 in
theorem fixC : findV [([97, 108, 108], [46, 42], [(60, 60)])] [] (bs ⟨#[97, 46, 98]⟩) = (([(60, 60)], 1, 500000), 0) := by decide +kernel
theorem lit_rung (w : World) (x y : Int) : RgOut (w.alloc (.cells #[.int .i64 x, .int .i64 y] 49)) (.slice (some ⟨w.heap.size, 0, none⟩) 1 1) [(x, y)] := by
  refine ⟨_, _, rfl, Nat.le_refl _, fun _ => ⟨_, 0, rfl, fun k g hk => ?_⟩⟩
  match k, hk with
  | 0, hk =>
    obtain rfl : (x, y) = g := by simpa using hk
    exact ⟨cell_of_row _ _ 0 _ _ (0, 0) (heap_alloc_new w _), cell_of_row _ _ 1 _ _ (0, 0) (heap_alloc_new w _)⟩
  | k + 1, hk => simp at hk
theorem fix_fit : RuFit [([97, 108, 108], [46, 42], [(60, 60)])] [] := by
  refine ⟨fun s h => ?_, fun f h => ?_, by decide, by decide⟩
  · obtain rfl := List.mem_singleton.1 h
    exact ⟨by decide, by decide⟩
  · cases h
namespace LW
open LP
set_option maxRecDepth 100000 in
set_option maxHeartbeats 2000000 in
theorem alive_c (w : World) (g : G w) : Calls Tryz.prog 7 #[] w fun e w' => e = .returned (.bool true) ∧ Below w.heap.size w w' := by
  have p1 := stores_p fixT w g
  rw [fixA] at p1
  have p2 := fun (W : World) (h : G W) => stores_p fixU W h
  rw [fixB] at p2
  have P1 := Lib.hid p1; have P2 := Lib.hid p2
  have FD := Lib.hid (fun (v : Value) (W : World) (h : StOut W v [([97, 108, 108], [46, 42], [(60, 60)])]) => find_p v (.slice none 0 0) [([97, 108, 108], [46, 42], [(60, 60)])] [] ⟨#[97, 46, 98]⟩ fix_fit (by decide) W h (FoOut.nil W))
  rw [fixC] at FD
  have GG := Lib.hid g
  simp only [fixT, fixU] at P1 P2
  clear p1 p2 g
  go_enter Tryz.func7, Tryz.ntmps7
  go_wp2_with fail
  refine P1.out.mono ?_; rintro _ w1 ⟨v1, rfl, h1, hb1⟩
  have F1 := Lib.hid (FD.out v1 w1 h1)
  obtain ⟨A1, c1, rfl, -, -⟩ := id h1
  have B1 := Lib.hid hb1
  simp only [List.length_cons, List.length_nil, Nat.zero_add] at F1
  clear h1 hb1 FD P1
  go_wp2_with fail
  refine F1.out.mono ?_; rintro _ w2 ⟨v2, rfl, ⟨A2, c2, rfl, h2⟩, hb2⟩
  have hb3 := alloc_below w2 (.cells #[.slice A2 1 c2, .int .i64 1, .int .i64 500000] 41)
  have v0 : (w2.alloc (.cells #[.slice A2 1 c2, .int .i64 1, .int .i64 500000] 41)).cell? ⟨w2.heap.size, 0, none⟩ = some (.slice A2 1 c2) := cell_of_row _ _ 0 _ _ (0, 0) (heap_alloc_new w2 _)
  have v1 : (w2.alloc (.cells #[.slice A2 1 c2, .int .i64 1, .int .i64 500000] 41)).cell? ⟨w2.heap.size, 1, none⟩ = some (.int .i64 1) := cell_of_row _ _ 1 _ _ (0, 0) (heap_alloc_new w2 _)
  have v2 : (w2.alloc (.cells #[.slice A2 1 c2, .int .i64 1, .int .i64 500000] 41)).cell? ⟨w2.heap.size, 2, none⟩ = some (.int .i64 500000) := cell_of_row _ _ 2 _ _ (0, 0) (heap_alloc_new w2 _)
  have B3 := Lib.hid (bnext B1.out (bnext hb2 hb3))
  have H2 := Lib.hid (h2.below hb3)
  have P3 := Lib.hid (P2.out _ (GG.out.below B3.out))
  clear hb2 hb3 h2 F1 P2
  go_wp2_with fail
  refine P3.out.mono ?_; rintro _ w4 ⟨v4, rfl, h4, hb4⟩
  obtain ⟨A4, c4, rfl, -, -⟩ := id h4
  have v0 := cellb hb4 v0
  have v1 := cellb hb4 v1
  have v2 := cellb hb4 v2
  have hb5 := alloc_below w4 (.cells #[.int .i64 60, .int .i64 60] 49)
  have SR := Lib.hid (RR.sameRungs_c (.slice A2 1 c2) (.slice (some ⟨w4.heap.size, 0, none⟩) 1 1) [(60, 60)] [(60, 60)] (by decide) (by decide) (w4.alloc (.cells #[.int .i64 60, .int .i64 60] 49)) (H2.out.below (bnext hb4 hb5)) (lit_rung w4 60 60))
  rw [show decide ([((60 : Int), (60 : Int))] = [(60, 60)]) = true from rfl] at SR
  have B5 := Lib.hid (bnext B3.out (bnext hb4 hb5))
  clear hb4 h4 hb5
  go_wp2_with (go_at_call 24; refine SR.out.mono ?_; rintro _ w6 ⟨rfl, hb6⟩)
  go_ret
  exact ⟨rfl, bnext B5.out hb6⟩
theorem beq_str (a b : ByteArray) : (a.toList == b.toList) = decide (bs a = bs b) := by
  have h := toList_str (bs_small a) b
  rw [str_bs] at h
  exact h
set_option maxRecDepth 100000 in
set_option maxHeartbeats 2000000 in
theorem rulesNames_c (a b : Int) (w : World) (g : G w) (t : Mt w) : Calls Tryz.prog 6 #[.int .i64 a, .int .i64 b] w fun e w' => e = .returned (.bool true) ∧ Below w.heap.size w w' := by
  have AL := Lib.hid (alive_c w g)
  have NA := fun (m : Int) (W : World) (h : Mt W) => name_p m W h
  have ME := fun (W : World) (h : Mt W) => method_p (str (mName a)) W h
  rw [bs_str (mName_byt a)] at ME
  have T := Lib.hid t
  have INJ := Lib.hid (show str (mName a) = str (mName b) → str (mName a) ≠ ⟨#[]⟩ → a = b from fun h hn => by
    have e : mName a = mName b := by have := congrArg bs h; rwa [bs_str (mName_byt a), bs_str (mName_byt b)] at this
    exact mName_inj e (fun h0 => hn (by rw [h0]; rfl)))
  have NA1 := Lib.hid (NA a); have NA2 := Lib.hid (NA b)
  obtain ⟨X, hX⟩ : ∃ X, str (mName a) = X := ⟨_, rfl⟩
  obtain ⟨Y, hY⟩ : ∃ Y, str (mName b) = Y := ⟨_, rfl⟩
  rw [hX] at ME NA1 INJ
  rw [hY] at NA2 INJ
  have BY : (X.toList == Y.toList) = true ↔ X = Y := by
    rw [beq_str, decide_eq_true_eq]
    exact ⟨fun h => by rw [← str_bs X, ← str_bs Y, h], fun h => by rw [h]⟩
  have B0 : X.toList.isEmpty = true ↔ X = ⟨#[]⟩ := by
    rw [bs_nil_iff]
    exact ⟨fun h => by rw [← str_bs X, h]; rfl, fun h => by rw [h]; rfl⟩
  have FIN := Lib.hid (show a ≠ b → X.toList.isEmpty = false → (X.toList == Y.toList) = false from fun hab h0 => by
    rw [Bool.eq_false_iff] at h0 ⊢
    exact fun h => hab (INJ.out (BY.1 h) (fun e => h0 (B0.2 e))))
  clear NA t g BY B0 INJ hX hY
  have haa : (a != a) = false := by simp
  by_cases hr : 1 ≤ a ∧ a ≤ 5
  · rw [mNum_near hr] at ME
    have ME2 := Lib.hid ME
    obtain ⟨r1, r2⟩ := hr
    clear ME
    cases hbb : (a == b) with
    | true =>
      go_enter Tryz.func6, Tryz.ntmps6
      go_wp2_with (first
      | (go_at_call 7; refine AL.out.mono ?_; rintro _ w1 ⟨rfl, hb1⟩; have T1 := Lib.hid (T.out.below hb1))
      | (go_at_call_of 16 (a); refine (NA1.out _ T1.out).mono ?_; rintro _ w2 ⟨rfl, rfl⟩)
      | (go_at_call_of 16 (b); refine (NA2.out _ T1.out).mono ?_; rintro _ w3 ⟨rfl, rfl⟩)
      | (go_at_call 12; refine (ME2.out _ T1.out).mono ?_; rintro _ w4 ⟨rfl, hb4⟩))
      go_ret
      exact ⟨rfl, bnext hb1 hb4⟩
    | false =>
      have hab : a ≠ b := by intro e; rw [e] at hbb; simp at hbb
      cases h0 : X.toList.isEmpty with
      | true =>
        go_enter Tryz.func6, Tryz.ntmps6
        go_wp2_with (first
      | (go_at_call 7; refine AL.out.mono ?_; rintro _ w1 ⟨rfl, hb1⟩; have T1 := Lib.hid (T.out.below hb1))
      | (go_at_call_of 16 (a); refine (NA1.out _ T1.out).mono ?_; rintro _ w2 ⟨rfl, rfl⟩)
      | (go_at_call_of 16 (b); refine (NA2.out _ T1.out).mono ?_; rintro _ w3 ⟨rfl, rfl⟩)
      | (go_at_call 12; refine (ME2.out _ T1.out).mono ?_; rintro _ w4 ⟨rfl, hb4⟩))
        go_ret
        exact ⟨rfl, bnext hb1 hb4⟩
      | false =>
        have h1 := FIN.out hab h0
        clear hab
        go_enter Tryz.func6, Tryz.ntmps6
        go_wp2_with (first
      | (go_at_call 7; refine AL.out.mono ?_; rintro _ w1 ⟨rfl, hb1⟩; have T1 := Lib.hid (T.out.below hb1))
      | (go_at_call_of 16 (a); refine (NA1.out _ T1.out).mono ?_; rintro _ w2 ⟨rfl, rfl⟩)
      | (go_at_call_of 16 (b); refine (NA2.out _ T1.out).mono ?_; rintro _ w3 ⟨rfl, rfl⟩)
      | (go_at_call 12; refine (ME2.out _ T1.out).mono ?_; rintro _ w4 ⟨rfl, hb4⟩))
        go_ret
        exact ⟨rfl, bnext hb1 hb4⟩
  · rw [mNum_far (by omega)] at ME
    have ME2 := Lib.hid ME
    clear ME
    have hbb2 : True := trivial
    cases hbb : (a == b) with
    | true =>
      by_cases r1 : 1 ≤ a
      · have r2 : ¬ a ≤ 5 := by omega
        go_enter Tryz.func6, Tryz.ntmps6
        go_wp2_with (first
      | (go_at_call 7; refine AL.out.mono ?_; rintro _ w1 ⟨rfl, hb1⟩; have T1 := Lib.hid (T.out.below hb1))
      | (go_at_call_of 16 (a); refine (NA1.out _ T1.out).mono ?_; rintro _ w2 ⟨rfl, rfl⟩)
      | (go_at_call_of 16 (b); refine (NA2.out _ T1.out).mono ?_; rintro _ w3 ⟨rfl, rfl⟩)
      | (go_at_call 12; refine (ME2.out _ T1.out).mono ?_; rintro _ w4 ⟨rfl, hb4⟩))
        go_ret
        exact ⟨rfl, bnext hb1 hb4⟩
      · clear hr
        go_enter Tryz.func6, Tryz.ntmps6
        go_wp2_with (first
      | (go_at_call 7; refine AL.out.mono ?_; rintro _ w1 ⟨rfl, hb1⟩; have T1 := Lib.hid (T.out.below hb1))
      | (go_at_call_of 16 (a); refine (NA1.out _ T1.out).mono ?_; rintro _ w2 ⟨rfl, rfl⟩)
      | (go_at_call_of 16 (b); refine (NA2.out _ T1.out).mono ?_; rintro _ w3 ⟨rfl, rfl⟩)
      | (go_at_call 12; refine (ME2.out _ T1.out).mono ?_; rintro _ w4 ⟨rfl, hb4⟩))
        go_ret
        exact ⟨rfl, bnext hb1 hb4⟩
    | false =>
      have hab : a ≠ b := by intro e; rw [e] at hbb; simp at hbb
      cases h0 : X.toList.isEmpty with
      | true =>
        by_cases r1 : 1 ≤ a
        · have r2 : ¬ a ≤ 5 := by omega
          go_enter Tryz.func6, Tryz.ntmps6
          go_wp2_with (first
      | (go_at_call 7; refine AL.out.mono ?_; rintro _ w1 ⟨rfl, hb1⟩; have T1 := Lib.hid (T.out.below hb1))
      | (go_at_call_of 16 (a); refine (NA1.out _ T1.out).mono ?_; rintro _ w2 ⟨rfl, rfl⟩)
      | (go_at_call_of 16 (b); refine (NA2.out _ T1.out).mono ?_; rintro _ w3 ⟨rfl, rfl⟩)
      | (go_at_call 12; refine (ME2.out _ T1.out).mono ?_; rintro _ w4 ⟨rfl, hb4⟩))
          go_ret
          exact ⟨rfl, bnext hb1 hb4⟩
        · clear hr
          go_enter Tryz.func6, Tryz.ntmps6
          go_wp2_with (first
      | (go_at_call 7; refine AL.out.mono ?_; rintro _ w1 ⟨rfl, hb1⟩; have T1 := Lib.hid (T.out.below hb1))
      | (go_at_call_of 16 (a); refine (NA1.out _ T1.out).mono ?_; rintro _ w2 ⟨rfl, rfl⟩)
      | (go_at_call_of 16 (b); refine (NA2.out _ T1.out).mono ?_; rintro _ w3 ⟨rfl, rfl⟩)
      | (go_at_call 12; refine (ME2.out _ T1.out).mono ?_; rintro _ w4 ⟨rfl, hb4⟩))
          go_ret
          exact ⟨rfl, bnext hb1 hb4⟩
      | false =>
        have h1 := FIN.out hab h0
        clear hab
        by_cases r1 : 1 ≤ a
        · have r2 : ¬ a ≤ 5 := by omega
          go_enter Tryz.func6, Tryz.ntmps6
          go_wp2_with (first
      | (go_at_call 7; refine AL.out.mono ?_; rintro _ w1 ⟨rfl, hb1⟩; have T1 := Lib.hid (T.out.below hb1))
      | (go_at_call_of 16 (a); refine (NA1.out _ T1.out).mono ?_; rintro _ w2 ⟨rfl, rfl⟩)
      | (go_at_call_of 16 (b); refine (NA2.out _ T1.out).mono ?_; rintro _ w3 ⟨rfl, rfl⟩)
      | (go_at_call 12; refine (ME2.out _ T1.out).mono ?_; rintro _ w4 ⟨rfl, hb4⟩))
          go_ret
          exact ⟨rfl, bnext hb1 hb4⟩
        · clear hr
          go_enter Tryz.func6, Tryz.ntmps6
          go_wp2_with (first
      | (go_at_call 7; refine AL.out.mono ?_; rintro _ w1 ⟨rfl, hb1⟩; have T1 := Lib.hid (T.out.below hb1))
      | (go_at_call_of 16 (a); refine (NA1.out _ T1.out).mono ?_; rintro _ w2 ⟨rfl, rfl⟩)
      | (go_at_call_of 16 (b); refine (NA2.out _ T1.out).mono ?_; rintro _ w3 ⟨rfl, rfl⟩)
      | (go_at_call 12; refine (ME2.out _ T1.out).mono ?_; rintro _ w4 ⟨rfl, hb4⟩))
          go_ret
          exact ⟨rfl, bnext hb1 hb4⟩
end LW
end Go.Proofs.YtodlgbihdehmbaaGreatDoor
