/-
  Check, of the program and of the document's own (layer 5), told more closely: what it answers lies in new memory.
-/
import Derived.Test.YtabbpgnenmpacaaDoorFrmRow
import Derived.Test.YtabbpgnenmpacaaDoorCrcP
set_option linter.unusedSimpArgs false
set_option linter.unusedVariables false
namespace Go.Proofs.YtabbpgnenmpacaaDoor.CR
open Go.RowKit
set_option maxRecDepth 100000 in
set_option maxHeartbeats 4000000 in
theorem check_n (v : Value) (l : List Nat) (hl : l.length ≤ 90000) (hb : Bytes l) (w : World) (h : ByOut w v l) :
    Calls Tryd.prog 43 #[v] w fun e w' => ∃ v', e = .returned (.tuple #[v', .int .i64 (cChk l).2]) ∧ ByFrom w.heap.size w' v' (cChk l).1 ∧ Below w.heap.size w w' := by
  have hF := h
  obtain ⟨A, c, rfl, hc, hx⟩ := h
  obtain ⟨n, hln⟩ : ∃ n, l.length = n := ⟨_, rfl⟩
  rw [hln] at hl hc hF ⊢
  by_cases h4 : n < 4
  · have hk : cChk l = ([], 9) := by unfold cChk; rw [if_pos (by rw [hln]; exact h4)]
    rw [hk]
    have h4i : (n : Int) < 4 := by omega
    clear hk hx hF
    go_enter Tryd.func43, Tryd.ntmps43
    go_wp2
    exact bodyPost_ret (v := .tuple #[.slice none 0 0, .int .i64 9]) (by simp [results, Tryd.results43, go_sem]) rfl ⟨.slice none 0 0, rfl, ByFrom.none _ _, Below.refl _ _⟩
  · obtain ⟨m, hm⟩ : ∃ m, n - 4 = m := ⟨_, rfl⟩
    have hnm : (n : Int) - 4 = (m : Int) := by omega
    have hmn : m ≤ n := by omega
    have hmc : (m : Int) ≤ (c : Int) := by omega
    have h4i : ¬ (n : Int) < 4 := by omega
    have ht : (l.take m).length = m := by rw [List.length_take]; omega
    have hput : (cPut (l.take m)).length = m + 4 := by unfold cPut; rw [List.length_append, le4_length, ht]
    have C := Lib.hid (copy_c (.slice A m c) (l.take m) (by rw [ht]; omega) w (ByOut.take hF hmn) 0 (Nat.zero_le _))
    have PT := Lib.hid (fun (v1 : Value) (w1 : World) (h1 : ByOut w1 v1 (l.take m)) => put_c v1 (l.take m) (by rw [ht]; omega) (Bytes.take hb m) w1 h1)
    have SM := Lib.hid (fun (v2 : Value) (w2 : World) (h1 : ByOut w2 v2 (cPut (l.take m))) (h2 : ByOut w2 (.slice A n c) l) => same_c v2 (.slice A n c) (cPut (l.take m)) l (by rw [hput]; omega) (by rw [hln]; omega) w2 h1 h2)
    have hk : cChk l = if cPut (l.take m) = l then (l.take m, 0) else ([], 8) := by unfold cChk; rw [if_neg (by rw [hln]; omega), hln, hm]
    have HK := Lib.hid hk; have HF := Lib.hid hF
    clear hk hF hx hput ht hln hm
    by_cases hq : cPut (l.take m) = l
    · have hk2 : cChk l = (l.take m, 0) := by rw [HK.out, if_pos hq]
      rw [hk2]
      rw [decide_eq_true hq] at SM
      clear hk2 hq
      generalize l.take m = a at *
      go_enter Tryd.func43, Tryd.ntmps43
      go_wp2_with fail
      refine C.out.mono ?_; rintro _ w1 ⟨v1, rfl, hn1, hb1⟩
      have F1 := Lib.hid (ByFrom.of hn1); have O1 := Lib.hid hn1.out; have B1 := Lib.hid hb1
      clear hn1 hb1
      go_wp2_with fail
      refine (PT.out _ _ O1.out).mono ?_; rintro _ w2 ⟨v2, rfl, hn2, hb2⟩
      have O2 := Lib.hid hn2.out; have B2 := Lib.hid (below_next B1.out hb2); have O12 := Lib.hid (F1.out.below hb2)
      clear hn2 hb2
      go_wp2_with fail
      refine (SM.out _ _ O2.out (HF.out.below B2.out)).mono ?_; rintro _ w3 ⟨rfl, hb3⟩
      have B3 := Lib.hid (below_next B2.out hb3); have O13 := Lib.hid (O12.out.below hb3)
      clear hb3
      go_wp2
      exact bodyPost_ret (v := .tuple #[v1, .int .i64 0]) (by simp [results, Tryd.results43, go_sem]) rfl ⟨v1, rfl, O13.out, B3.out⟩
    · have hk2 : cChk l = ([], 8) := by rw [HK.out, if_neg hq]
      rw [hk2]
      rw [decide_eq_false hq] at SM
      clear hk2 hq
      generalize l.take m = a at *
      go_enter Tryd.func43, Tryd.ntmps43
      go_wp2_with fail
      refine C.out.mono ?_; rintro _ w1 ⟨v1, rfl, hn1, hb1⟩
      have F1 := Lib.hid (ByFrom.of hn1); have O1 := Lib.hid hn1.out; have B1 := Lib.hid hb1
      clear hn1 hb1
      go_wp2_with fail
      refine (PT.out _ _ O1.out).mono ?_; rintro _ w2 ⟨v2, rfl, hn2, hb2⟩
      have O2 := Lib.hid hn2.out; have B2 := Lib.hid (below_next B1.out hb2); have O12 := Lib.hid (F1.out.below hb2)
      clear hn2 hb2
      go_wp2_with fail
      refine (SM.out _ _ O2.out (HF.out.below B2.out)).mono ?_; rintro _ w3 ⟨rfl, hb3⟩
      have B3 := Lib.hid (below_next B2.out hb3)
      clear hb3
      go_wp2
      exact bodyPost_ret (v := .tuple #[.slice none 0 0, .int .i64 8]) (by simp [results, Tryd.results43, go_sem]) rfl ⟨.slice none 0 0, rfl, ByFrom.none _ _, B3.out⟩
end Go.Proofs.YtabbpgnenmpacaaDoor.CR
namespace Go.Proofs.YtabbpgnenmpacaaDoor.CP
open Go.RowKit
open CR (below_next own_ge u8_wrap)
set_option maxRecDepth 100000 in
set_option maxHeartbeats 4000000 in
theorem check_n (v : Value) (l : List Nat) (hl : l.length ≤ 90000) (hb : Bytes l) (w : World) (g : G w) (h : ByOut w v l) :
    Calls Tryd.prog 50 #[v] w fun e w' => ∃ v', e = .returned (.tuple #[v', .int .i64 (cChk l).2]) ∧ ByFrom w.heap.size w' v' (cChk l).1 ∧ Below w.heap.size w w' := by
  have hF := h
  obtain ⟨A, c, rfl, hc, hx⟩ := h
  obtain ⟨n, hln⟩ : ∃ n, l.length = n := ⟨_, rfl⟩
  rw [hln] at hl hc hF ⊢
  by_cases h4 : n < 4
  · have hk : cChk l = ([], 9) := by unfold cChk; rw [if_pos (by rw [hln]; exact h4)]
    rw [hk]
    have h4i : (n : Int) < 4 := by omega
    clear hk hx hF
    go_enter Tryd.func50, Tryd.ntmps50
    go_wp2
    exact bodyPost_ret (v := .tuple #[.slice none 0 0, .int .i64 9]) (by simp [results, Tryd.results50, go_sem]) rfl ⟨.slice none 0 0, rfl, ByFrom.none _ _, Below.refl _ _⟩
  · obtain ⟨m, hm⟩ : ∃ m, n - 4 = m := ⟨_, rfl⟩
    have hnm : (n : Int) - 4 = (m : Int) := by omega
    have hmn : m ≤ n := by omega
    have hmc : (m : Int) ≤ (c : Int) := by omega
    have h4i : ¬ (n : Int) < 4 := by omega
    have ht : (l.take m).length = m := by rw [List.length_take]; omega
    have hput : (cPut (l.take m)).length = m + 4 := by unfold cPut; rw [List.length_append, le4_length, ht]
    have hbt := CR.Bytes.take hb m
    have PT := Lib.hid (put_c (.slice A m c) (l.take m) (by rw [ht]; omega) hbt w g (CR.ByOut.take hF hmn))
    have EQ := Lib.hid (fun (v1 : Value) (w1 : World) (h1 : ByOut w1 v1 (cPut (l.take m))) (h2 : ByOut w1 (.slice A n c) l) => equal_c v1 (.slice A n c) (cPut (l.take m)) l (cPut_bytes hbt) hb w1 h1 h2)
    have hk : cChk l = if cPut (l.take m) = l then (l.take m, 0) else ([], 8) := by unfold cChk; rw [if_neg (by rw [hln]; omega), hln, hm]
    have hcut : ∀ (w' : World) (A1 : Option Addr) (c1 : Nat), ByFrom w.heap.size w' (.slice A1 (m + 4) c1) (cPut (l.take m)) → ByFrom w.heap.size w' (.slice A1 m m) (l.take m) := by
      intro w' A1 c1 h
      have h2 := h.take (m := m) (c' := m) (by omega) (Nat.le_refl _)
      have e : (cPut (l.take m)).take m = l.take m := by unfold cPut; rw [List.take_append_of_le_length (by omega), List.take_of_length_le (by omega)]
      rw [e] at h2
      exact h2
    have HK := Lib.hid hk; have HF := Lib.hid hF; have HP := Lib.hid hput; have HC := Lib.hid hcut
    clear hk hF hx hput ht hln hm g hcut hbt
    by_cases hq : cPut (l.take m) = l
    · have hk2 : cChk l = (l.take m, 0) := by rw [HK.out, if_pos hq]
      rw [hk2]
      rw [decide_eq_true hq] at EQ
      clear hk2 hq
      generalize l.take m = a at *
      go_enter Tryd.func50, Tryd.ntmps50
      go_wp2_with fail
      refine PT.out.mono ?_; rintro _ w1 ⟨v1, rfl, hn1, hb1⟩
      obtain ⟨A1, c1, hv1, hc1, _⟩ := hn1.out
      rw [HP.out] at hv1 hc1
      subst hv1
      have hc1i : (m : Int) + 4 ≤ (c1 : Int) := by omega
      have F1 := Lib.hid (ByFrom.of hn1); have O1 := Lib.hid hn1.out; have B1 := Lib.hid hb1
      clear hn1 hb1
      go_wp2_with fail
      refine (EQ.out _ _ O1.out (HF.out.below B1.out)).mono ?_; rintro _ w2 ⟨rfl, rfl⟩
      have O2 := Lib.hid (HC.out _ _ _ F1.out)
      go_wp2
      exact bodyPost_ret (v := .tuple #[.slice A1 m m, .int .i64 0]) (by simp [results, Tryd.results50, go_sem]) rfl ⟨.slice A1 m m, rfl, O2.out, B1.out⟩
    · have hk2 : cChk l = ([], 8) := by rw [HK.out, if_neg hq]
      rw [hk2]
      rw [decide_eq_false hq] at EQ
      clear hk2 hq
      generalize l.take m = a at *
      go_enter Tryd.func50, Tryd.ntmps50
      go_wp2_with fail
      refine PT.out.mono ?_; rintro _ w1 ⟨v1, rfl, hn1, hb1⟩
      have F1 := Lib.hid (ByFrom.of hn1); have O1 := Lib.hid hn1.out; have B1 := Lib.hid hb1
      clear hn1 hb1
      go_wp2_with fail
      refine (EQ.out _ _ O1.out (HF.out.below B1.out)).mono ?_; rintro _ w2 ⟨rfl, rfl⟩
      go_wp2
      exact bodyPost_ret (v := .tuple #[.slice none 0 0, .int .i64 8]) (by simp [results, Tryd.results50, go_sem]) rfl ⟨.slice none 0 0, rfl, ByFrom.none _ _, B1.out⟩
end Go.Proofs.YtabbpgnenmpacaaDoor.CP
