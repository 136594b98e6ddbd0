/-
  Check, of the program and of the document's own (layer 5), told more closely: what it answers lies in new memory.
-/
import Derived.Test.YtabbpgnenmpacaaDoorFrmRowM
import Derived.Test.YtabbpgnenmpacaaDoorCrcPM
set_option linter.unusedSimpArgs false
set_option linter.unusedVariables false
namespace Go.Proofs.YtabbpgnenmpacaaDoor.CR
open Go.RowKit
set_option maxRecDepth 100000 in
set_option maxHeartbeats 4000000 in
theorem check_n (v : Value) (l : List Nat) (hl : l.length ≤ 90000) (hb : Bytes l) (w : World) (h : ByOut w v l) :
    Calls Tryd.prog 43 #[v] w fun e w' => ∃ v', e = .returned (.tuple #[v', .int .i64 (cChk l).2]) ∧ ByFrom w.heap.size w' v' (cChk l).1 ∧ Below w.heap.size w w' := by
  have hF := h
  obtain ⟨A, c, rfl, hc, hx⟩ := h
  obtain ⟨n, hln⟩ : ∃ n, l.length = n := ⟨_, rfl⟩
  rw [hln] at hl hc hF ⊢
  by_cases h4 : n < 4
  · have hk : cChk l = ([], 9) := by unfold cChk; rw [if_pos (by rw [hln]; exact h4)]
    rw [hk]
    have h4i : (n : Int) < 4 := by omega
    clear hk hx hF
    go_enter Tryd.func43, Tryd.ntmps43
    go_wp2
    exact bodyPost_ret (v := .tuple #[.slice none 0 0, .int .i64 9]) (by simp [results, Tryd.results43, go_sem]) rfl ⟨.slice none 0 0, rfl, ByFrom.none _ _, Below.refl _ _⟩
  · obtain ⟨m, hm⟩ : ∃ m, n - 4 = m := ⟨_, rfl⟩
    have hnm : (n : Int) - 4 = (m : Int) := by omega
    have hmn : m ≤ n := by omega
    have hmc : (m : Int) ≤ (c : Int) := by omega
    have h4i : ¬ (n : Int) < 4 := by omega
    have ht : (l.take m).length = m := by rw [List.length_take]; omega
    have hput : (cPut (l.take m)).length = m + 4 := by unfold cPut; rw [List.length_append, le4_length, ht]
    have C := Lib.hid (copy_c (.slice A m c) (l.take m) (by rw [ht]; omega) w (ByOut.take hF hmn) 0 (Nat.zero_le _))
    have PT := Lib.hid (fun (v1 : Value) (w1 : World) (h1 : ByOut w1 v1 (l.take m)) => put_c v1 (l.take m) (by rw [ht]; omega) (Bytes.take hb m) w1 h1)
    have SM := Lib.hid (fun (v2 : Value) (w2 : World) (h1 : ByOut w2 v2 (cPut (l.take m))) (h2 : ByOut w2 (.slice A n c) l) => same_c v2 (.slice A n c) (cPut (l.take m)) l (by rw [hput]; omega) (by rw [hln]; omega) w2 h1 h2)
    have hk : cChk l = if cPut (l.take m) = l then (l.take m, 0) else ([], 8) := by unfold cChk; rw [if_neg (by rw [hln]; omega), hln, hm]
    have HK := Lib.hid hk; have HF := Lib.hid hF
    clear hk hF hx hput ht hln hm
    by_cases hq : cPut (l.take m) = l
    · have hk2 : cChk l = (l.take m, 0) := by rw [HK.out, if_pos hq]
      rw [hk2]
      rw [decide_eq_true hq] at SM
      clear hk2 hq
      generalize l.take m = a at *
      go_enter Tryd.func43, Tryd.ntmps43
      go_wp2_with fail
      refine C.out.mono ?_; rintro _ w1 ⟨v1, rfl, hn1, hb1⟩
      have F1 := Lib.hid (ByFrom.of hn1); have O1 := Lib.hid hn1.out; have B1 := Lib.hid hb1
      clear hn1 hb1
      go_wp2_with fail
      refine (PT.out _ _ O1.out).mono ?_; rintro _ w2 ⟨v2, rfl, hn2, hb2⟩
      have O2 := Lib.hid hn2.out; have B2 := Lib.hid (below_next B1.out hb2); have O12 := Lib.hid (F1.out.below hb2)
      clear hn2 hb2
      go_wp2_with fail
      refine (SM.out _ _ O2.out (HF.out.below B2.out)).mono ?_; rintro _ w3 ⟨rfl, hb3⟩
      have B3 := Lib.hid (below_next B2.out hb3); have O13 := Lib.hid (O12.out.below hb3)
      clear hb3
      go_wp2
      exact bodyPost_ret (v := .tuple #[v1, .int .i64 0]) (by simp [results, Tryd.results43, go_sem]) rfl ⟨v1, rfl, O13.out, B3.out⟩
    · have hk2 : cChk l = ([], 8) := by rw [HK.out, if_neg hq]
      rw [hk2]
      rw [decide_eq_false hq] at SM
      clear hk2 hq
      generalize l.take m = a at *
      go_enter Tryd.func43, Tryd.ntmps43
      go_wp2_with fail
      refine C.out.mono ?_; rintro _ w1 ⟨v1, rfl, hn1, hb1⟩
      have F1 := Lib.hid (ByFrom.of hn1); have O1 := Lib.hid hn1.out; have B1 := Lib.hid hb1
      clear hn1 hb1
      go_wp2_with fail
      refine (PT.out _ _ O1.out).mono ?_; rintro _ w2 ⟨v2, rfl, hn2, hb2⟩
      have O2 := Lib.hid hn2.out; have B2 := Lib.hid (below_next B1.out hb2); have O12 := Lib.hid (F1.out.below hb2)
      clear hn2 hb2
      go_wp2_with fail
      refine (SM.out _ _ O2.out (HF.out.below B2.out)).mono ?_; rintro _ w3 ⟨rfl, hb3⟩
      have B3 := Lib.hid (below_next B2.out hb3)
      clear hb3
      go_wp2
      exact bodyPost_ret (v := .tuple #[.slice none 0 0, .int .i64 8]) (by simp [results, Tryd.results43, go_sem]) rfl ⟨.slice none 0 0, rfl, ByFrom.none _ _, B3.out⟩
end Go.Proofs.YtabbpgnenmpacaaDoor.CR
namespace Go.Proofs.YtabbpgnenmpacaaDoor.CP
open Go.RowKit
open CR (below_next own_ge u8_wrap)
set_option maxRecDepth 100000 in
set_option maxHeartbeats 4000000 in
theorem check_n (v : Value) (l : List Nat) (hl : l.length ≤ 90000) (hb : Bytes l) (w : World) (g : G w) (h : ByOut w v l) :
    Calls Tryd.prog 50 #[v] w fun e w' => ∃ v', e = .returned (.tuple #[v', .int .i64 (cChk l).2]) ∧ ByFrom w.heap.size w' v' (cChk l).1 ∧ Below w.heap.size w w' := by
  have hF := h
  obtain ⟨A, c, rfl, hc, hx⟩ := h
  obtain ⟨n, hln⟩ : ∃ n, l.length = n := ⟨_, rfl⟩
  rw [hln] at hl hc hF ⊢
  by_cases h4 : n < 4
  · have hk : cChk l = ([], 9) := by unfold cChk; rw [if_pos (by rw [hln]; exact h4)]
    rw [hk]
    have h4i : (n : Int) < 4 := by omega
    clear hk hx hF
    go_enter Tryd.func50, Tryd.ntmps50
    go_wp2
    exact bodyPost_ret (v := .tuple #[.slice none 0 0, .int .i64 9]) (by simp [results, Tryd.results50, go_sem]) rfl ⟨.slice none 0 0, rfl, ByFrom.none _ _, Below.refl _ _⟩
  · obtain ⟨m, hm⟩ : ∃ m, n - 4 = m := ⟨_, rfl⟩
    have hnm : (n : Int) - 4 = (m : Int) := by omega
    have hmn : m ≤ n := by omega
    have hmc : (m : Int) ≤ (c : Int) := by omega
    have h4i : ¬ (n : Int) < 4 := by omega
    have ht : (l.take m).length = m := by rw [List.length_take]; omega
    have hput : (cPut (l.take m)).length = m + 4 := by unfold cPut; rw [List.length_append, le4_length, ht]
    have hbt := CR.Bytes.take hb m
    have PT := Lib.hid (put_c (.slice A m c) (l.take m) (by rw [ht]; omega) hbt w g (CR.ByOut.take hF hmn))
    have EQ := Lib.hid (fun (v1 : Value) (w1 : World) (h1 : ByOut w1 v1 (cPut (l.take m))) (h2 : ByOut w1 (.slice A n c) l) => equal_c v1 (.slice A n c) (cPut (l.take m)) l (cPut_bytes hbt) hb w1 h1 h2)
    have hk : cChk l = if cPut (l.take m) = l then (l.take m, 0) else ([], 8) := by unfold cChk; rw [if_neg (by rw [hln]; omega), hln, hm]
    have hcut : ∀ (w' : World) (A1 : Option Addr) (c1 : Nat), ByFrom w.heap.size w' (.slice A1 (m + 4) c1) (cPut (l.take m)) → ByFrom w.heap.size w' (.slice A1 m m) (l.take m) := by
      intro w' A1 c1 h
      have h2 := h.take (m := m) (c' := m) (by omega) (Nat.le_refl _)
      have e : (cPut (l.take m)).take m = l.take m := by unfold cPut; rw [List.take_append_of_le_length (by omega), List.take_of_length_le (by omega)]
      rw [e] at h2
      exact h2
    have HK := Lib.hid hk; have HF := Lib.hid hF; have HP := Lib.hid hput; have HC := Lib.hid hcut
    clear hk hF hx hput ht hln hm g hcut hbt
    by_cases hq : cPut (l.take m) = l
    · have hk2 : cChk l = (l.take m, 0) := by rw [HK.out, if_pos hq]
      rw [hk2]
      rw [decide_eq_true hq] at EQ
      clear hk2 hq
      generalize l.take m = a at *
      go_enter Tryd.func50, Tryd.ntmps50
      go_wp2_with fail
      refine PT.out.mono ?_; rintro _ w1 ⟨v1, rfl, hn1, hb1⟩
      obtain ⟨A1, c1, hv1, hc1, _⟩ := hn1.out
      rw [HP.out] at hv1 hc1
      subst hv1
      have hc1i : (m : Int) + 4 ≤ (c1 : Int) := by omega
      have F1 := Lib.hid (ByFrom.of hn1); have O1 := Lib.hid hn1.out; have B1 := Lib.hid hb1
      clear hn1 hb1
      go_wp2_with fail
      refine (EQ.out _ _ O1.out (HF.out.below B1.out)).mono ?_; rintro _ w2 ⟨rfl, rfl⟩
      have O2 := Lib.hid (HC.out _ _ _ F1.out)
      go_wp2
      exact bodyPost_ret (v := .tuple #[.slice A1 m m, .int .i64 0]) (by simp [results, Tryd.results50, go_sem]) rfl ⟨.slice A1 m m, rfl, O2.out, B1.out⟩
    · have hk2 : cChk l = ([], 8) := by rw [HK.out, if_neg hq]
      rw [hk2]
      rw [decide_eq_false hq] at EQ
      clear hk2 hq
      generalize l.take m = a at *
      go_enter Tryd.func50, Tryd.ntmps50
      go_wp2_with fail
      refine PT.out.mono ?_; rintro _ w1 ⟨v1, rfl, hn1, hb1⟩
      have F1 := Lib.hid (ByFrom.of hn1); have O1 := Lib.hid hn1.out; have B1 := Lib.hid hb1
      clear hn1 hb1
      go_wp2_with fail
      refine (EQ.out _ _ O1.out (HF.out.below B1.out)).mono ?_; rintro _ w2 ⟨rfl, rfl⟩
      go_wp2
      exact bodyPost_ret (v := .tuple #[.slice none 0 0, .int .i64 8]) (by simp [results, Tryd.results50, go_sem]) rfl ⟨.slice none 0 0, rfl, ByFrom.none _ _, B1.out⟩
end Go.Proofs.YtabbpgnenmpacaaDoor.CP
/-
  Contracts of the program's functions of layer 7: Put, Take.
-/
set_option linter.unusedSimpArgs false
set_option linter.unusedVariables false
namespace Go.Proofs.YtabbpgnenmpacaaDoor.FP
open Go.RowKit
open CR (below_next own_ge u8_wrap)
/-- Two bytes, the second one shifted by eight, put together. -/
theorem or_bytes (a b : Nat) (ha : a < 256) (hb : b < 256) : bits .or .i64 (a : Int) ((b : Int) * 256) = ((a + 256 * b : Nat) : Int) := by
  have e : ((b : Int) * 256) = ((256 * b : Nat) : Int) := by omega
  have h2 := Nat.two_pow_add_eq_or_of_lt (i := 8) (b := a) ha b
  have h3 : a ||| 256 * b = a + 256 * b := by
    rw [Nat.or_comm]
    have e8 : (2 : Nat) ^ 8 * b = 256 * b := rfl
    rw [e8] at h2
    omega
  rw [e]
  show IntKind.i64.wrap ((BitVec.ofInt 64 (a : Int) ||| BitVec.ofInt 64 ((256 * b : Nat) : Int)).toNat : Int) = _
  rw [BitVec.toNat_or, BitVec.ofInt_natCast, BitVec.ofInt_natCast, BitVec.toNat_ofNat, BitVec.toNat_ofNat, Nat.mod_eq_of_lt (by omega), Nat.mod_eq_of_lt (by omega), h3]
  rw [IntKind.wrap_i64]
  omega
set_option maxRecDepth 100000 in
set_option maxHeartbeats 2000000 in
theorem put_c (v : Value) (l : List Nat) (hb : Bytes l) (w : World) (hG : G w) (h : ByOut w v l) :
    Calls Tryd.prog 26 #[v] w fun e w' => ∃ v', e = .returned (.tuple #[v', .int .i64 (fPut l).2]) ∧ ByNew w.heap.size w' v' (fPut l).1 ∧ Below w.heap.size w w' := by
  have HG := Lib.hid hG
  clear hG
  obtain ⟨A, c, rfl, hc, hx⟩ := h
  have hR := reads_by hx
  obtain ⟨n, hln⟩ : ∃ n, l.length = n := ⟨_, rfl⟩
  rw [hln] at hc hR ⊢
  by_cases h0 : n = 0
  · have hk : fPut l = ([], 1) := by unfold fPut; rw [if_pos (by omega)]
    rw [hk]
    subst h0
    clear hk hx hR hln hb
    go_enter Tryd.func26, Tryd.ntmps26
    go_wp2
    exact bodyPost_ret (v := .tuple #[.slice none 0 0, .int .i64 1]) (by simp [results, Tryd.results26, go_sem]) rfl ⟨.slice none 0 0, rfl, ByNew.none _ _, Below.refl _ _⟩
  · have h0i : ¬ (n : Int) = 0 := by omega
    by_cases h5 : 512 < n
    · have hk : fPut l = ([], 12) := by unfold fPut; rw [if_neg (by omega), if_pos (by omega)]
      rw [hk]
      have h5i : (512 : Int) < (n : Int) := by omega
      clear hk hx hR hln hb h5 h0
      go_enter Tryd.func26, Tryd.ntmps26
      go_wp2
      exact bodyPost_ret (v := .tuple #[.slice none 0 0, .int .i64 12]) (by simp [results, Tryd.results26, go_sem]) rfl ⟨.slice none 0 0, rfl, ByNew.none _ _, Below.refl _ _⟩
    · have hk : fPut l = (fFrm l, 0) := by unfold fPut; rw [if_neg (by omega), if_neg (by omega)]
      rw [hk]
      have h5i : ¬ (512 : Int) < (n : Int) := by omega
      have PT := Lib.hid (fun (v1 : Value) (w1 : World) (g1 : G w1) (h1 : ByOut w1 v1 (fBody l)) => CP.put_c v1 (fBody l) (by unfold fBody; simp; omega) (fBody_bytes hb) w1 g1 h1)
      have hbd : ∀ (w' : World) (v' : Value) (B : Nat), w'.ownsRow B 5 1 v' (2 + n) ([.int .u8 ((n : Int) % 256), .int .u8 ((n : Int) / 256)] ++ bys l) → ByOut w' v' (fBody l) := by
        intro w' v' B h
        refine ByNew.out (B := B) ?_
        unfold ByNew fBody
        rw [List.length_cons, List.length_cons, hln, show n + 1 + 1 = 2 + n from by omega]
        have e0 : (n : Int) % 256 = ((n % 256 : Nat) : Int) := by omega
        have e1 : (n : Int) / 256 = ((n / 256 % 256 : Nat) : Int) := by omega
        rw [e0, e1] at h
        exact h
      have HBD := Lib.hid hbd; have HR := Lib.hid hR
      obtain ⟨i0, hi0, hz0, hz1, hz2⟩ := info_parts (P := Tryd.prog) (e := 5) (z := .int .u8 0) (size := 1) (bytes := 1) (by kernel_rfl)
      clear hk hx hR hln hb hbd
      have hnn : n ≤ 512 := by omega
      clear h5 h0
      go_enter Tryd.func26, Tryd.ntmps26
      have hwr : IntKind.u8.wrap ((n : Int) / 256) = (n : Int) / 256 := by rw [u8_wrap]; omega
      go_wp2_with first
        | (at_make; refine wpList_make_own _ rfl _ _ 27 rfl w.heap.size 5 i0 (.int .u8 0) 1 Tryd.underlying27 hi0 hz0 hz1 .i64 .i64 _ (2 + n) rfl rfl (by omega) (by rw [hz2]; omega) (by unfold maxLen; omega) (Nat.le_refl _) ?_; intro w0 hown0 hgrow0; generalize (Value.slice (some (⟨w.heap.size, 0, none⟩ : Addr)) 0 (2 + n)) = v0 at hown0 ⊢)
        | (at_builtin; refine wpList_append_any _ rfl (.tmp 15) (.tmp 23) _ rfl w.heap.size 5 i0 (.int .u8 0) 1 1 Tryd.underlying27 hi0 hz0 hz1 hz2 rfl (by decide) v0 0 [] rfl (World.ownsRow.alloc hown0 _) _ (some ⟨w0.heap.size, 0, none⟩) 2 2 [.int .u8 ((n : Int) % 256), .int .u8 ((n : Int) / 256)] rfl (Reads.of_own (World.ownsRow_lit (base := 0) (e := 5) (size := 1) w0 #[.int .u8 ((n : Int) % 256), .int .u8 ((n : Int) / 256)] 2 (Nat.zero_le _) (by decide) rfl)) (by simp [Value.oneCell']) (by simp only [maxLen]; omega) (by omega) (by have := hgrow0.size; simp; omega) ?_; intro v1 w1 hown1 hg1 hat1; have hb1 : Below w.heap.size w w1 := Below.grown ((Below.grown (Below.refl _ _) hgrow0 (Nat.le_refl _) (by intro g hg; cases hg)).alloc hgrow0.size _) hg1 (by have := hgrow0.size; simp; omega) (own_ge hown0))
        | (at_builtin; refine wpList_append_any _ rfl (.tmp 25) (.tmp 26) _ rfl w.heap.size 5 i0 (.int .u8 0) 1 1 Tryd.underlying27 hi0 hz0 hz1 hz2 rfl (by decide) v1 (0 + 2) ([] ++ [.int .u8 ((n : Int) % 256), .int .u8 ((n : Int) / 256)]) rfl hown1 w.heap.size A n c (bys l) rfl (HR.out.below hb1) (bys_one _) (by simp only [maxLen]; omega) (by omega) hb1.size ?_; intro v2 w2 hown2 hg2 hat2)
      have hb2 : Below w.heap.size w w2 := Below.grown hb1 hg2 hb1.size (own_ge hown1)
      rw [Nat.zero_add, List.nil_append] at hown2
      have O1 := Lib.hid (HBD.out _ _ _ hown2); have B1 := Lib.hid hb2
      clear hown0 hgrow0 hown1 hg1 hat1 hb1 hown2 hg2 hat2 hb2
      go_wp2_with fail
      refine (PT.out _ _ (HG.out.below B1.out) O1.out).mono ?_; rintro _ w4 ⟨v4, rfl, hn4, hb4⟩
      have N4 := Lib.hid (hn4.mono B1.out.size); have B4 := Lib.hid (below_next B1.out hb4)
      clear hn4 hb4
      go_wp2
      exact bodyPost_ret (v := .tuple #[v4, .int .i64 0]) (by simp [results, Tryd.results26, go_sem]) rfl ⟨v4, rfl, N4.out, B4.out⟩
set_option maxRecDepth 100000 in
set_option maxHeartbeats 2000000 in
theorem take_c (v : Value) (l : List Nat) (hb : Bytes l) (w : World) (hG : G w) (h : ByOut w v l) :
    Calls Tryd.prog 42 #[v] w fun e w' => ∃ v', e = .returned (.tuple #[v', .int .i64 ((fTake l).2.1 : Nat), .int .i64 (fTake l).2.2]) ∧ ByFrom w.heap.size w' v' (fTake l).1 ∧ Below w.heap.size w w' := by
  have HG := Lib.hid hG
  clear hG
  have hF := h
  obtain ⟨A, c, rfl, hc, hx⟩ := h
  obtain ⟨n, hln⟩ : ∃ n, l.length = n := ⟨_, rfl⟩
  rw [hln] at hc hF ⊢
  by_cases h2 : n < 2
  · have hk : fTake l = ([], 0, 9) := by unfold fTake; rw [if_pos (by omega)]
    rw [hk]
    have h2i : (n : Int) < 2 := by omega
    clear hk hx hF hln hb
    go_enter Tryd.func42, Tryd.ntmps42
    go_wp2
    exact bodyPost_ret (v := .tuple #[.slice none 0 0, .int .i64 0, .int .i64 9]) (by simp [results, Tryd.results42, go_sem]) rfl ⟨.slice none 0 0, rfl, ByFrom.none _ _, Below.refl _ _⟩
  · have h2i : ¬ (n : Int) < 2 := by omega
    obtain ⟨b, off, rfl, ha⟩ := hx (by intro e; rw [e] at hln; simp at hln; omega)
    have g0 : 0 < l.length := by omega
    have g1 : 1 < l.length := by omega
    have c0 := ha 0 _ (List.getElem?_eq_getElem g0)
    have c1 := ha 1 _ (List.getElem?_eq_getElem g1)
    have x0 : l[0] < 256 := hb _ (List.getElem_mem g0)
    have x1 : l[1] < 256 := hb _ (List.getElem_mem g1)
    have hL : fLen l = l[0] + 256 * l[1] := by unfold fLen; rw [List.getD_eq_getElem?_getD, List.getD_eq_getElem?_getD, List.getElem?_eq_getElem g0, List.getElem?_eq_getElem g1]; rfl
    have hT : fTake l = if fLen l < 1 ∨ 512 < fLen l then ([], 0, 7) else if n < fLen l + 6 then ([], 0, 9) else if (cChk (l.take (fLen l + 6))).2 = 0 then ((cChk (l.take (fLen l + 6))).1.drop 2, fLen l + 6, 0) else ([], 0, 8) := by
      unfold fTake
      rw [if_neg (by omega), hln]
    generalize l[0] = y0 at *
    generalize l[1] = y1 at *
    rw [Nat.add_zero] at c0
    generalize fLen l = m at *
    have hE : bits .or .i64 (y0 : Int) ((y1 : Int) * 256) = (m : Int) := by rw [or_bytes y0 y1 x0 x1]; omega
    have hm : m < 65536 := by omega
    obtain ⟨T, hTT⟩ : ∃ T, fTake l = T := ⟨_, rfl⟩
    rw [hTT] at hT ⊢
    clear hTT
    have HF := Lib.hid hF; have HB := Lib.hid hb; have HT := Lib.hid hT; have HL := Lib.hid hln
    have hn1 : (1 : Int) < (n : Int) := by omega
    have hn0 : (0 : Int) < (n : Int) := by omega
    clear hx ha hF hb hT hln hL g0 g1 h2
    go_enter Tryd.func42, Tryd.ntmps42
    go_wp2
    go_region
    try simp only [hE]
    by_cases h1 : m < 1
    · have hk : T = ([], 0, 7) := by rw [HT.out, if_pos (Or.inl h1)]
      subst hk
      have h1i : (m : Int) = 0 := by omega
      clear h1 hE
      go_wp2
      exact bodyPost_ret (v := .tuple #[.slice none 0 0, .int .i64 0, .int .i64 7]) (by simp [results, Tryd.results42, go_sem]) rfl ⟨.slice none 0 0, rfl, ByFrom.none _ _, (Below.refl _ _).drew⟩
    · have h1i : ¬ (m : Int) = 0 := by omega
      by_cases h5 : 512 < m
      · have hk : T = ([], 0, 7) := by rw [HT.out, if_pos (Or.inr h5)]
        subst hk
        have h5i : (512 : Int) < (m : Int) := by omega
        clear h1 h5 hE
        go_wp2
        exact bodyPost_ret (v := .tuple #[.slice none 0 0, .int .i64 0, .int .i64 7]) (by simp [results, Tryd.results42, go_sem]) rfl ⟨.slice none 0 0, rfl, ByFrom.none _ _, (Below.refl _ _).drew⟩
      · have h5i : ¬ (512 : Int) < (m : Int) := by omega
        by_cases h6 : n < m + 6
        · have hk : T = ([], 0, 9) := by rw [HT.out, if_neg (by omega), if_pos h6]
          subst hk
          have h6i : (n : Int) < 2 + (m : Int) + 4 := by omega
          clear h1 h5 hE h6
          go_wp2
          exact bodyPost_ret (v := .tuple #[.slice none 0 0, .int .i64 0, .int .i64 9]) (by simp [results, Tryd.results42, go_sem]) rfl ⟨.slice none 0 0, rfl, ByFrom.none _ _, (Below.refl _ _).drew⟩
        · have h6i : ¬ (n : Int) < 2 + (m : Int) + 4 := by omega
          have hk : T = if (cChk (l.take (m + 6))).2 = 0 then ((cChk (l.take (m + 6))).1.drop 2, m + 6, 0) else ([], 0, 8) := by rw [HT.out, if_neg (by omega), if_neg h6]
          have htl : (l.take (m + 6)).length = m + 6 := by rw [List.length_take, HL.out]; omega
          have h2k := cChk_two (l.take (m + 6)) (by omega)
          rw [htl] at h2k
          have CK := Lib.hid (CP.check_n (.slice (some ⟨b, off, none⟩) (m + 6) c) (l.take (m + 6)) (by omega) (HB.out.takes _) w.drew HG.out.drew ((CR.ByOut.take HF.out (show m + 6 ≤ n by omega)).below (Below.refl _ _).drew))
          obtain ⟨q, hq⟩ : ∃ q, m + 6 = q := ⟨_, rfl⟩
          have hqi : 2 + (m : Int) + 4 = (q : Int) := by omega
          rw [hq] at hk h2k CK htl
          generalize l.take q = a at *
          rcases h2k with ⟨e1, e2, e3⟩ | ⟨e1, e2, e3⟩
          · have hal : (cChk a).1.length = m + 2 := by rw [e3, List.length_take, htl]; omega
            rw [if_pos e1] at hk
            subst hk
            rw [e1] at CK
            have hqc : q ≤ c := by omega
            have hqc2 : (q : Int) ≤ (c : Int) := by omega
            have HZ := Lib.hid hal
            clear e1 e2 e3 h1 h5 h6 hE htl hal hc
            go_wp2_with fail
            refine CK.out.mono ?_; rintro _ w2 ⟨v2, rfl, ho2, hb2⟩
            obtain ⟨A2, c2, hv2, hc2, _⟩ := id ho2
            rw [HZ.out] at hv2 hc2
            subst hv2
            obtain ⟨b2, off2, rfl, ho3⟩ := ByFrom.drop ho2 (show 2 < m + 2 by omega)
            have O3 := Lib.hid ho3; have B2 := Lib.hid (show Below w.heap.size w w2 from Below.trans (Below.refl _ _).drew hb2)
            clear ho2 ho3 hb2
            go_wp2
            exact bodyPost_ret (v := .tuple #[.slice (some ⟨b2, off2 + 2, none⟩) m (c2 - 2), .int .i64 (q : Nat), .int .i64 0]) (by simp [results, Tryd.results42, go_sem]) rfl ⟨_, rfl, O3.out, B2.out⟩
          · rw [if_neg (by rw [e1]; decide)] at hk
            subst hk
            rw [e1, e3] at CK
            have hqc2 : (q : Int) ≤ (c : Int) := by omega
            clear e1 e2 e3 h1 h5 h6 hE htl hc
            go_wp2_with fail
            refine CK.out.mono ?_; rintro _ w2 ⟨v2, rfl, ho2, hb2⟩
            have B2 := Lib.hid (show Below w.heap.size w w2 from Below.trans (Below.refl _ _).drew hb2)
            clear ho2 hb2
            go_wp2
            exact bodyPost_ret (v := .tuple #[.slice none 0 0, .int .i64 0, .int .i64 8]) (by simp [results, Tryd.results42, go_sem]) rfl ⟨.slice none 0 0, rfl, ByFrom.none _ _, B2.out⟩
end Go.Proofs.YtabbpgnenmpacaaDoor.FP
