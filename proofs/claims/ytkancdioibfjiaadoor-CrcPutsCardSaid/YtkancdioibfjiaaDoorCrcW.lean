/-
  The statements of layer 5, walked, the first part: the fixed fact, sums, bytes with their sum.
-/
import Derived.Test.YtkancdioibfjiaaDoorCrcP
import Derived.Lib.SlBytesConst
set_option linter.unusedSimpArgs false
set_option linter.unusedVariables false
namespace Go.Proofs.YtkancdioibfjiaaDoor.CW
open Go.RowKit
open CR (below_next)
theorem great_c (A : Option Addr) (n c : Nat) (w : World) : Calls Tryd.prog 7 #[.slice A n c] w fun e w' => e = .returned (.bool (decide ((5000 : Int) < (n : Int)))) ∧ w = w' := by
  go_enter Tryd.func7, Tryd.ntmps7
  go_wp2
  go_ret
  exact ⟨rfl, rfl⟩
theorem lit_out (w : World) (vs : List Nat) (c : Nat) (fz : Nat × Nat) (h : vs.length ≤ c) : ByOut (w.alloc (.cells (vs.map fun (n : Nat) => Value.int .u8 (n : Int)).toArray 5 fz)) (.slice (some ⟨w.heap.size, 0, none⟩) vs.length c) vs := by
  refine ⟨_, c, rfl, h, fun _ => ⟨w.heap.size, 0, rfl, fun i n hi => ?_⟩⟩
  have hh : (w.alloc (.cells (vs.map fun (n : Nat) => Value.int .u8 (n : Int)).toArray 5 fz)).heap[w.heap.size]? = some (.cells (vs.map fun (n : Nat) => Value.int .u8 (n : Int)).toArray 5 fz) := by
    generalize (vs.map fun (n : Nat) => Value.int .u8 (n : Int)).toArray = cs
    show (w.heap.push (.cells cs 5 fz))[w.heap.size]? = _
    exact Array.getElem?_push_size
  rw [cell_of_row _ _ _ _ _ _ hh]
  simp [hi]
theorem str_ab {w : World} {A : Option Addr} {c : Nat} (h : ByOut w (.slice A 2 c) [97, 98]) : (convert 22 9 (.slice A 2 c)).run Tryd.prog w = .ok (.string ⟨#[97, 98]⟩) w := by
  obtain ⟨A', c', hv, hc, hx⟩ := h
  injection hv with h1 h2 h3
  subst h1 h3
  obtain ⟨b, off, rfl, hf⟩ := hx (by simp)
  refine run_convert_bytes_back w 22 9 5 ⟨b, off, none⟩ c [97, 98] Tryd.underlying22 Tryd.underlying5 Tryd.underlying9 (fun j hj => ?_)
  have e : (⟨b, off, none⟩ : Addr).add j = ⟨b, off + j, none⟩ := by unfold Addr.add; split <;> simp_all
  rw [e]
  rcases j with _ | _ | j
  · exact hf 0 97 rfl
  · exact hf 1 98 rfl
  · simp at hj; omega
set_option maxRecDepth 100000 in
set_option maxHeartbeats 2000000 in
theorem alive_c (w : World) (hG : G w) : Calls Tryd.prog 6 #[] w fun e w' => e = .returned (.bool true) ∧ Below w.heap.size w w' := by
  have HG := Lib.hid hG
  have hb2 : Bytes [97, 98] := by unfold Bytes; decide
  have hb9 : Bytes [49, 50, 51, 52, 53, 54, 55, 56, 57] := by unfold Bytes; decide
  have hbp : Bytes (cPut [97, 98]) := by unfold Bytes; decide +kernel
  have s9 : cSum [49, 50, 51, 52, 53, 54, 55, 56, 57] = 3808858755 := by decide +kernel
  have s0 : cSum [] = 0 := by decide +kernel
  have P := Lib.hid (fun v w k h => CP.put_c v [97, 98] (by decide) hb2 w k h)
  have K := Lib.hid (fun v w k h => CP.check_c v (cPut [97, 98]) (by decide +kernel) hbp w k h)
  rw [cChk_put] at K
  have S9 := Lib.hid (fun v w k h => CP.sum_c v [49, 50, 51, 52, 53, 54, 55, 56, 57] (by decide) hb9 w k h)
  rw [s9] at S9
  have S0 := Lib.hid (fun v w k h => CP.sum_c v [] (by decide) (by unfold Bytes; decide) w k h)
  rw [s0] at S0
  clear hG
  have kc := fun (w : World) (C : Array Value) (n c : Nat) => Lib.run_convert_bytes_const (P := Tryd.prog) w 22 5 C n c Tryd.underlying22 Tryd.underlying5
  go_enter Tryd.func6, Tryd.ntmps6
  go_wp2_with fail
  refine (P.out _ _ (HG.out.alloc _) (lit_out w [97, 98] 2 (2, 3) (Nat.le_refl _))).mono ?_; rintro _ w1 ⟨v1, rfl, hn1, hb1⟩
  have O1 := Lib.hid hn1.out; have B1 := Lib.hid (Below.trans ((Below.refl _ _).alloc (Nat.le_refl _) _) (hb1.mono (by simp)))
  clear hn1 hb1
  go_wp2_with fail
  refine (K.out _ _ (HG.out.below B1.out) O1.out).mono ?_; rintro _ w2 ⟨v2, rfl, ho2, hb2⟩
  have O2 := Lib.hid ho2; have B2 := Lib.hid (below_next B1.out hb2)
  clear ho2 hb2
  go_wp2_with fail
  refine (S9.out _ _ ((HG.out.below B2.out).alloc _) (lit_out w2 [49, 50, 51, 52, 53, 54, 55, 56, 57] 9 (9, 10) (Nat.le_refl _))).mono ?_; rintro _ w3 ⟨rfl, hb3⟩
  have b3 : Below w2.heap.size w2 w3 := Below.trans ((Below.refl _ _).alloc (Nat.le_refl _) _) (hb3.mono (by simp))
  have O3 := Lib.hid (O2.out.below b3); have B3 := Lib.hid (below_next B2.out b3)
  clear hb3 b3
  go_wp2_with fail
  refine (S0.out (.slice none 0 0) w3 (HG.out.below B3.out) ⟨none, 0, rfl, Nat.le_refl _, fun h => absurd rfl h⟩).mono ?_; rintro _ w4 ⟨rfl, hb4⟩
  have o4 := O3.out.below hb4
  have B4 := Lib.hid (below_next B3.out hb4)
  clear hb4
  obtain ⟨A, c, hv, hc, hx⟩ := o4
  have hstr := str_ab (w := w4) (A := A) (c := c) ⟨A, c, rfl, hc, hx⟩
  have hv' : v2 = .slice A 2 c := hv
  subst hv'
  clear hx hc hv
  go_wp2
  go_ret
  exact ⟨rfl, B4.out⟩
theorem xor_two (m r : Nat) : m ^^^ (m ^^^ r) = r := by rw [← Nat.xor_assoc, Nat.xor_self, Nat.zero_xor]
theorem cNot_is (s : Nat) : cNot s = 4294967295 ^^^ s := rfl
theorem cNot_two (r : Nat) : cNot (cNot r) = r := by rw [cNot_is, cNot_is]; exact xor_two _ _
theorem cSum_two (a b : List Nat) : cNot (cRun (cNot (cSum a)) b) = cSum (a ++ b) := by
  unfold cSum
  rw [cNot_two, cRun_app]
theorem Bytes.app {a b : List Nat} (ha : Bytes a) (hb : Bytes b) : Bytes (a ++ b) := fun x hx => (List.mem_append.1 hx).elim (ha x) (hb x)
set_option maxRecDepth 100000 in
set_option maxHeartbeats 2000000 in
theorem crcSums_c (va vb : Value) (a b : List Nat) (ha : Bytes a) (hb : Bytes b) (w : World) (hG : G w) (ga : ByOut w va a) (gb : ByOut w vb b) :
    Calls Tryd.prog 3 #[va, vb] w fun e w' => e = .returned (.bool true) ∧ Below w.heap.size w w' := by
  have HG := Lib.hid hG
  clear hG
  have GA := Lib.hid ga; have GB := Lib.hid gb
  obtain ⟨A1, c1, rfl, hc1, x1⟩ := ga
  obtain ⟨A2, c2, rfl, hc2, x2⟩ := gb
  obtain ⟨n1, hn1⟩ : ∃ n, a.length = n := ⟨_, rfl⟩
  obtain ⟨n2, hn2⟩ : ∃ n, b.length = n := ⟨_, rfl⟩
  have hr2 := reads_by x2
  rw [hn2] at hr2
  rw [hn1] at hc1 GA ⊢
  rw [hn2] at hc2 GB ⊢
  have AL := Lib.hid alive_c
  by_cases h1 : 5000 < n1
  · have t1 : decide ((5000 : Int) < (n1 : Int)) = true := decide_eq_true (by omega)
    have G1 := great_c A1 n1 c1
    rw [t1] at G1
    have G := Lib.hid G1
    clear G1 t1 x1 x2 hr2
    go_enter Tryd.func3, Tryd.ntmps3
    go_wp2_with fail
    refine (AL.out _ HG.out).mono ?_; rintro _ w1 ⟨rfl, hb1⟩
    go_wp2_with fail
    refine (G.out _).mono ?_; rintro _ w2 ⟨rfl, rfl⟩
    go_wp2
    go_ret
    exact ⟨rfl, hb1⟩
  · have t1 : decide ((5000 : Int) < (n1 : Int)) = false := decide_eq_false (by omega)
    have G1 := great_c A1 n1 c1
    rw [t1] at G1
    have GG1 := Lib.hid G1
    by_cases h2 : 5000 < n2
    · have t2 : decide ((5000 : Int) < (n2 : Int)) = true := decide_eq_true (by omega)
      have G2 := great_c A2 n2 c2
      rw [t2] at G2
      have GG2 := Lib.hid G2
      clear G1 G2 t1 t2 x1 x2 hr2
      go_enter Tryd.func3, Tryd.ntmps3
      go_wp2_with fail
      refine (AL.out _ HG.out).mono ?_; rintro _ w1 ⟨rfl, hb1⟩
      go_wp2_with fail
      refine (GG1.out _).mono ?_; rintro _ w2 ⟨rfl, rfl⟩
      go_wp2_with fail
      refine (GG2.out _).mono ?_; rintro _ w2 ⟨rfl, rfl⟩
      go_wp2
      go_ret
      exact ⟨rfl, hb1⟩
    · have t2 : decide ((5000 : Int) < (n2 : Int)) = false := decide_eq_false (by omega)
      have G2 := great_c A2 n2 c2
      rw [t2] at G2
      have GG2 := Lib.hid G2
      have hs := cSum_lt ha
      have CC := Lib.hid (fun w h => CR.copy_c (.slice A1 n1 c1) a (by omega) w h 0 (Nat.zero_le _))
      have PS := Lib.hid (fun w k h => CP.sum_c (.slice A1 n1 c1) a (by omega) ha w k h)
      have RS := Lib.hid (fun w h => CR.sum_c (.slice A1 n1 c1) a (by omega) ha w h)
      have UP := fun w k h => CP.upd_c (cSum a) hs (.slice A2 n2 c2) b (by omega) hb w k h
      rw [cSum_two] at UP
      have UPH := Lib.hid UP
      have RB := Lib.hid (fun v w h => CR.sum_c v (a ++ b) (by rw [List.length_append]; omega) (Bytes.app ha hb) w h)
      have hown : ∀ (w' : World) (v' : Value) (B : Nat), w'.ownsRow B 5 1 v' (n1 + n2) (bys a ++ bys b) → ByOut w' v' (a ++ b) := by
        intro w' v' B h
        have : ByNew B w' v' (a ++ b) := by unfold ByNew; rw [List.length_append, hn1, hn2, bys_app]; exact h
        exact this.out
      have HOWN := Lib.hid hown; have HR2 := Lib.hid hr2; have N1 := Lib.hid hn1
      generalize ((cSum a : Nat) : Int) = s at *
      generalize ((cSum (a ++ b) : Nat) : Int) = t at *
      obtain ⟨i0, hi0, hz0, hz1, hz2⟩ := info_parts (P := Tryd.prog) (e := 5) (z := .int .u8 0) (size := 1) (bytes := 1) (by kernel_rfl)
      clear G1 G2 t1 t2 x1 x2 hr2 hown hn1 hn2 UP hs ha hb
      go_enter Tryd.func3, Tryd.ntmps3
      go_wp2_with fail
      refine (AL.out _ HG.out).mono ?_; rintro _ w1 ⟨rfl, hb1⟩
      have B1 := Lib.hid hb1
      clear hb1
      go_wp2_with fail
      refine (GG1.out _).mono ?_; rintro _ w2 ⟨rfl, rfl⟩
      go_wp2_with fail
      refine (GG2.out _).mono ?_; rintro _ w2 ⟨rfl, rfl⟩
      go_wp2_with fail
      refine (CC.out _ (GA.out.below B1.out)).mono ?_; rintro _ w3 ⟨v3, rfl, hn3, hb3⟩
      have hown3 : w3.ownsRow w1.heap.size 5 1 v3 n1 (bys a) := by unfold ByNew at hn3; rw [N1.out] at hn3; exact hn3
      have OWN := Lib.hid hown3; have B3 := Lib.hid (below_next B1.out hb3); have B23 := Lib.hid hb3
      clear hown3 hn3 hb3
      go_wp2_with (at_builtin; refine wpList_append_any _ rfl (.tmp 15) (.tmp 16) _ rfl w1.heap.size 5 i0 (.int .u8 0) 1 1 Tryd.underlying22 hi0 hz0 hz1 hz2 rfl (by decide) v3 n1 (bys a) rfl OWN.out w.heap.size A2 n2 c2 (bys b) rfl (HR2.out.below B3.out) (bys_one _) (by simp only [maxLen]; omega) (by omega) B23.out.size ?_; intro v4 w4 hown4 hg4 hat4)
      have hb4 : Below w.heap.size w w4 := Below.grown B3.out hg4 B3.out.size (fun g hg => Nat.le_trans B1.out.size (CR.own_ge OWN.out g hg))
      have O4 := Lib.hid (HOWN.out _ _ _ hown4); have B4 := Lib.hid hb4
      clear hown4 hg4 hat4 hb4
      go_wp2_with fail
      refine (PS.out _ (HG.out.below B4.out) (GA.out.below B4.out)).mono ?_; rintro _ w5 ⟨rfl, hb5⟩
      have B5 := Lib.hid (below_next B4.out hb5); have O5 := Lib.hid (O4.out.below hb5)
      clear hb5
      go_wp2_with fail
      refine (RS.out _ (GA.out.below B5.out)).mono ?_; rintro _ w6 ⟨rfl, rfl⟩
      go_wp2_with fail
      refine (PS.out _ (HG.out.below B5.out) (GA.out.below B5.out)).mono ?_; rintro _ w7 ⟨rfl, hb7⟩
      have B7 := Lib.hid (below_next B5.out hb7); have O7 := Lib.hid (O5.out.below hb7)
      clear hb7
      go_wp2_with fail
      refine (UPH.out _ (HG.out.below B7.out) (GB.out.below B7.out)).mono ?_; rintro _ w8 ⟨rfl, hb8⟩
      have B8 := Lib.hid (below_next B7.out hb8); have O8 := Lib.hid (O7.out.below hb8)
      clear hb8
      go_wp2_with fail
      refine (RB.out _ _ O8.out).mono ?_; rintro _ w9 ⟨rfl, rfl⟩
      go_wp2
      go_ret
      exact ⟨rfl, B8.out⟩
set_option maxRecDepth 100000 in
set_option maxHeartbeats 2000000 in
theorem crcPuts_c (v : Value) (b : List Nat) (hb : Bytes b) (w : World) (hG : G w) (g : ByOut w v b) :
    Calls Tryd.prog 4 #[v] w fun e w' => e = .returned (.bool true) ∧ Below w.heap.size w w' := by
  have HG := Lib.hid hG
  clear hG
  have G := Lib.hid g
  obtain ⟨A, c, rfl, hc, x⟩ := g
  obtain ⟨n, hn⟩ : ∃ n, b.length = n := ⟨_, rfl⟩
  rw [hn] at hc G ⊢
  have AL := Lib.hid alive_c
  have GR := great_c A n c
  by_cases h1 : 5000 < n
  · rw [decide_eq_true (show (5000 : Int) < (n : Int) by omega)] at GR
    have G1 := Lib.hid GR
    clear GR x
    go_enter Tryd.func4, Tryd.ntmps4
    go_wp2_with fail
    refine (AL.out _ HG.out).mono ?_; rintro _ w1 ⟨rfl, hb1⟩
    go_wp2_with fail
    refine (G1.out _).mono ?_; rintro _ w2 ⟨rfl, rfl⟩
    go_wp2
    go_ret
    exact ⟨rfl, hb1⟩
  · rw [decide_eq_false (show ¬ (5000 : Int) < (n : Int) by omega)] at GR
    have hpl : (cPut b).length = n + 4 := by unfold cPut; rw [List.length_append, le4_length, hn]
    have hk1 : (cChk b).1.length ≤ 5000 := by
      unfold cChk
      split
      · simp
      · split
        · rw [List.length_take]; omega
        · simp
    have G1 := Lib.hid GR
    have CC := Lib.hid (fun w h => CR.copy_c (.slice A n c) b (by omega) w h 0 (Nat.zero_le _))
    have PP := Lib.hid (fun v w k h => CP.put_c v b (by omega) hb w k h)
    have PK := Lib.hid (fun v w k h => CP.check_c v b (by omega) hb w k h)
    have RP := Lib.hid (fun w h => CR.put_c (.slice A n c) b (by omega) hb w h)
    have RK := Lib.hid (fun w h => CR.check_c (.slice A n c) b (by omega) hb w h)
    have S1 := fun v1 v2 w f1 f2 => CR.same_c v1 v2 (cPut b) (cPut b) (by omega) (by omega) w f1 f2
    have S2 := fun v1 v2 w f1 f2 => CR.same_c v1 v2 (cChk b).1 (cChk b).1 (by omega) (by omega) w f1 f2
    have S3 := fun v1 v2 w f1 f2 => CR.same_c v1 v2 b b (by omega) (by omega) w f1 f2
    rw [decide_eq_true rfl] at S1 S2 S3
    have H1 := Lib.hid S1; have H2 := Lib.hid S2; have H3 := Lib.hid S3
    generalize (cChk b).2 = er at *
    clear GR x hpl hk1 S1 S2 S3 hn hb
    go_enter Tryd.func4, Tryd.ntmps4
    go_wp2_with fail
    refine (AL.out _ HG.out).mono ?_; rintro _ w1 ⟨rfl, hb1⟩
    have B1 := Lib.hid hb1
    clear hb1
    go_wp2_with fail
    refine (G1.out _).mono ?_; rintro _ w2 ⟨rfl, rfl⟩
    go_wp2_with fail
    refine (CC.out _ (G.out.below B1.out)).mono ?_; rintro _ w3 ⟨v3, rfl, hn3, hb3⟩
    have OW3 := Lib.hid hn3.out; have B3 := Lib.hid (below_next B1.out hb3)
    clear hn3 hb3
    go_wp2_with fail
    refine (PP.out _ _ (HG.out.below B3.out) OW3.out).mono ?_; rintro _ w4 ⟨v4, rfl, hn4, hb4⟩
    have P4 := Lib.hid hn4.out; have OW4 := Lib.hid (OW3.out.below hb4); have B4 := Lib.hid (below_next B3.out hb4)
    clear hn4 hb4
    go_wp2_with fail
    refine (PK.out _ _ (HG.out.below B4.out) OW4.out).mono ?_; rintro _ w5 ⟨v5, rfl, hn5, hb5⟩
    have K5 := Lib.hid hn5; have P5 := Lib.hid (P4.out.below hb5); have OW5 := Lib.hid (OW4.out.below hb5); have B5 := Lib.hid (below_next B4.out hb5)
    clear hn5 hb5
    go_wp2_with fail
    refine (RK.out _ (G.out.below B5.out)).mono ?_; rintro _ w6 ⟨v6, rfl, hn6, hb6⟩
    have D6 := Lib.hid hn6; have K6 := Lib.hid (K5.out.below hb6); have P6 := Lib.hid (P5.out.below hb6); have OW6 := Lib.hid (OW5.out.below hb6); have B6 := Lib.hid (below_next B5.out hb6)
    clear hn6 hb6
    go_wp2_with fail
    refine (RP.out _ (G.out.below B6.out)).mono ?_; rintro _ w7 ⟨v7, rfl, hn7, hb7⟩
    have R7 := Lib.hid hn7.out; have D7 := Lib.hid (D6.out.below hb7); have K7 := Lib.hid (K6.out.below hb7); have P7 := Lib.hid (P6.out.below hb7); have OW7 := Lib.hid (OW6.out.below hb7); have B7 := Lib.hid (below_next B6.out hb7)
    clear hn7 hb7
    go_wp2_with fail
    refine (H1.out _ _ _ P7.out R7.out).mono ?_; rintro _ w8 ⟨rfl, hb8⟩
    have D8 := Lib.hid (D7.out.below hb8); have K8 := Lib.hid (K7.out.below hb8); have OW8 := Lib.hid (OW7.out.below hb8); have B8 := Lib.hid (below_next B7.out hb8)
    clear hb8
    go_wp2_with fail
    refine (H2.out _ _ _ K8.out D8.out).mono ?_; rintro _ w9 ⟨rfl, hb9⟩
    have OW9 := Lib.hid (OW8.out.below hb9); have B9 := Lib.hid (below_next B8.out hb9)
    clear hb9
    go_wp2_with fail
    refine (H3.out _ _ _ OW9.out (G.out.below B9.out)).mono ?_; rintro _ w10 ⟨rfl, hb10⟩
    go_wp2
    go_ret
    exact ⟨rfl, below_next B9.out hb10⟩
end Go.Proofs.YtkancdioibfjiaaDoor.CW
