/-
  Contracts of the library's stable sort at floats, the fourth part: a single item behind a row, merged in place.
-/
import Derived.Test.YtcppcfjejalggaaFloPU
set_option linter.unusedSimpArgs false
set_option linter.unusedVariables false
namespace Go.Proofs.Ytcppcfjejalggaa.LP
open Go.RowKit Go.Shelf Go.Lib Go.Sort
/-- What one round of the search in the first row reads: the middle item, and the single one. -/
theorem mid_facts2 {w0 W : World} {blk off n : Nat} {P R T : List Fl} {x : Fl} (S : SL w0 blk off (P ++ (R ++ x :: T)) W) (HR : Told w0 blk off n) (hl : P.length + 1 + R.length + T.length = n) (t : Nat) (ht : t < R.length) (aN hN : Nat) (ha : aN = P.length + R.length) (hh : hN = P.length + t) :
    W.cell? ⟨blk, off + hN, none⟩ = some (encF (R[t])) ∧ W.cell? ⟨blk, off + aN, none⟩ = some (encF x) := by
  have e1 : P ++ (R ++ x :: T) = (P ++ R.take t) ++ R[t] :: (R.drop (t + 1) ++ x :: T) := by
    conv => lhs; rw [← List.take_append_drop t R, List.drop_eq_getElem_cons ht]
    simp only [List.append_assoc, List.cons_append, List.nil_append]
  have e2 : P ++ (R ++ x :: T) = (P ++ R) ++ x :: T := by simp
  have hlen : (P ++ (R ++ x :: T)).length = n := by simp; omega
  constructor
  · have h := S
    have hl2 := hlen
    rw [e1] at h hl2
    exact h.cell HR hl2 hN (by simp; omega)
  · have h := S
    have hl2 := hlen
    rw [e2] at h hl2
    exact h.cell HR hl2 aN (by simp; omega)
set_option maxRecDepth 100000 in
set_option maxHeartbeats 4000000 in
theorem sym_last (w0 : World) (blk off cap n : Nat) (P Q T l : List Fl) (x : Fl) (a m b : Int) (R : Told w0 blk off n) (hn : n ≤ 1000) (hl : P.length + 1 + Q.length + T.length = n) (up : ST.Up rkF Q)
    (h2 : 2 ≤ Q.length) (ha : a = P.length) (hm : m = a + Q.length) (hb : b = m + 1) (hr : P ++ (ST.mg rkF Q [x] ++ T) = l) (W : World) (S : SL w0 blk off (P ++ (Q ++ x :: T)) W) :
    Calls Try.prog 71 #[.slice (some ⟨blk, off, none⟩) n cap, .int .i64 a, .int .i64 m, .int .i64 b, .func (.func 17) #[] #[]] W fun e w' => e = .returned (.tuple #[]) ∧ SL w0 blk off l w' := by
  have ha0 : 0 ≤ a := by omega
  have hbn : b ≤ n := by omega
  have hmb : m ≤ b := by omega
  have ham : a ≤ m := by omega
  have HR := Lib.hid R; have HU := Lib.hid up; have S0 := Lib.hid S; have HL := Lib.hid hl; have HA := Lib.hid ha; have HQ := Lib.hid (show (m - a = Q.length) from by omega)
  have hcl0 := oneF.cells
  simp only [Value.cells] at hcl0
  have hst := oneF.store Try.prog
  have mixed := lays20.mixed
  have eg := enters_of Try.func17 (by kernel_rfl) rfl
  have hma : (m - a == 1) = false := by rw [beq_eq_false_iff_ne]; omega
  have hbm : b - m = 1 := by omega
  have HM := Lib.hid hm; have HRR := Lib.hid hr
  clear R up S hl ha hb hm hr h2
  go_enter Try.func71, Try.ntmps71
  go_wp2
  go_loopw [14, 15, 16] (fun e u v wr => ∃ i j : Int, a ≤ i ∧ i ≤ j ∧ j ≤ m ∧ e = .int .i64 i ∧ u = .int .i64 j ∧ Hid (SL w0 blk off (P ++ (Q ++ x :: T)) wr ∧ (∀ y ∈ Q.take (i - a).toNat, rkF y ≤ rkF x) ∧ (∀ y ∈ Q.drop (j - a).toNat, rkF x < rkF y))) (fun e u _ _ => (intOf u - intOf e).toNat)
  case atStart =>
    refine ⟨a, m, by omega, by omega, by omega, rfl, rfl, S0.out, fun y hy => ?_, fun y hy => ?_⟩
    · rw [show (a - a).toNat = 0 from by omega] at hy; cases hy
    · rw [show (m - a).toNat = Q.length from by have := HQ.out; omega, List.drop_length] at hy; cases hy
  case round =>
    obtain ⟨i, j, hi, hij, hj, rfl, rfl, HS⟩ := hrel
    by_cases hlt : i < j
    · obtain ⟨h, hh⟩ : ∃ h : Int, (i + j) / 2 = h := ⟨_, rfl⟩
      have h1 : i ≤ h := by omega
      have h2 : h < j := by omega
      obtain ⟨tt, htt⟩ : ∃ t : Nat, t = (h - a).toNat := ⟨_, rfl⟩
      have htl : tt < Q.length := by have := HQ.out; omega
      obtain ⟨hN, hhN⟩ : ∃ q, q = P.length + tt := ⟨_, rfl⟩
      obtain ⟨aN, haN⟩ : ∃ q, q = P.length + Q.length := ⟨_, rfl⟩
      have ea : h.toNat = hN := by have := HA.out; omega
      have pa : 0 ≤ h := by omega
      have ba : h < (n : Int) := by omega
      have eb : m.toNat = aN := by have := HA.out; have := HQ.out; omega
      have pb : 0 ≤ m := by omega
      have bb : m < (n : Int) := by omega
      have l1 := fun k os => (mid_facts2 (HS.out.1.grown k os) HR.out HL.out tt htl aN hN haN hhN).1
      have l2 := fun k os => (mid_facts2 (HS.out.1.grown k os) HR.out HL.out tt htl aN hN haN hhN).2
      have UT := Lib.hid (fun (z : Fl) (hz : rkF (Q[tt]) ≤ rkF z) => up_take' HU.out htl hz)
      have UD := Lib.hid (fun (z : Fl) (hz : rkF z < rkF (Q[tt])) => up_drop' HU.out htl hz)
      have hcf := cf_neg x (Q[tt])
      have HTT := Lib.hid htt
      generalize Q[tt] = y at *
      have hc := fun k os => cmp_g x y (grow (wr.drewN k) os)
      clear htt htl hhN haN HL
      by_cases hv : cfF x y < 0
      · have hd : decide (cfF x y < 0) = true := decide_eq_true hv
        have HV := Lib.hid (hcf.1 hv)
        clear hcf
        go_wp2_with fail
        go_quiet_grown (exact Calls.grown_of (hc _ _))
        have S2 := Lib.hid (HS.out.1.grown nq osq)
        have HF := Lib.hid HS.out.2
        clear l1 l2 hc HS
        generalize grow (wr.drewN nq) osq = w2 at S2 ⊢
        clear nq osq ea eb
        go_wp2
        go_roundw
        case rel =>
          refine ⟨i, h, hi, h1, by omega, rfl, rfl, S2.out, HF.out.1, fun z hz => ?_⟩
          rw [← HTT.out] at hz
          exact UD.out x HV.out z hz
        case measure => simp [intOf]; omega
      · have hd : decide (cfF x y < 0) = false := decide_eq_false hv
        have HV := Lib.hid (show rkF y ≤ rkF x from by rw [hcf] at hv; omega)
        clear hcf
        go_wp2_with fail
        go_quiet_grown (exact Calls.grown_of (hc _ _))
        have S2 := Lib.hid (HS.out.1.grown nq osq)
        have HF := Lib.hid HS.out.2
        clear l1 l2 hc HS
        generalize grow (wr.drewN nq) osq = w2 at S2 ⊢
        clear nq osq ea eb
        go_wp2
        go_roundw
        case rel =>
          refine ⟨h + 1, j, by omega, by omega, hj, rfl, rfl, S2.out, fun z hz => ?_, HF.out.2⟩
          rw [show (h + 1 - a).toNat = tt + 1 from by have := HTT.out; omega] at hz
          exact UT.out x HV.out z hz
        case measure => simp [intOf]; omega
    · obtain rfl : i = j := by omega
      obtain ⟨p, hp⟩ : ∃ p : Nat, (i - a).toNat = p := ⟨_, rfl⟩
      obtain ⟨hs, hu, hd⟩ := HS.out
      rw [hp] at hu hd
      have hpl : p ≤ Q.length := by have := HQ.out; omega
      obtain ⟨q, hq⟩ : ∃ q : Nat, q = Q.length - p := ⟨_, rfl⟩
      have hmg : ST.mg rkF Q [x] = Q.take p ++ x :: Q.drop p := by
        conv => lhs; rw [← List.take_append_drop p Q]
        exact ST.mg_back rkF x _ _ (fun y hy => by have := hu y hy; omega) hd
      have e0 : P ++ (Q ++ x :: T) = fwSt (P ++ Q.take p) (Q.drop p) T x q := by
        rw [fw_end _ _ _ _ _ (by rw [List.length_drop]; exact hq)]
        conv => lhs; rw [← List.take_append_drop p Q]
        simp only [List.append_assoc]
      have e1 : P ++ (ST.mg rkF Q [x] ++ T) = fwSt (P ++ Q.take p) (Q.drop p) T x 0 := by
        rw [fw_zero, hmg]
        simp
      have hst2 := fun s (h : s < q) => fw_step (P ++ Q.take p) (Q.drop p) T x s (by rw [List.length_drop]; omega)
      have hln := fun s => (fw_len (P ++ Q.take p) (Q.drop p) T x s).trans (show _ = n from by have := HL.out; rw [List.length_append, List.length_take, List.length_drop]; omega)
      have E1 := Lib.hid (HRR.out.symm.trans e1)
      rw [e0] at hs
      have ip : i = a + p := by omega
      have iq : m = i + q := by have := HQ.out; omega
      have hpp : (P ++ Q.take p).length = P.length + p := by rw [List.length_append, List.length_take]; omega
      rw [hpp] at hst2
      have E := Lib.hid hs; have STP := Lib.hid hst2; have LN := Lib.hid hln
      clear hs hu hd HS hmg e0 e1 hst2 hln hp hpl HU HQ S0 HRR hq hpp
      generalize fwSt (P ++ Q.take p) (Q.drop p) T x = st at *
      have IP := Lib.hid ip; have IQ := Lib.hid iq
      clear ip iq hij hlt
      go_wp2
      go_loopw [17] (fun e wr => ∃ s : Nat, ∃ k : Int, s ≤ q ∧ k = i + s ∧ e = .int .i64 k ∧ Hid (SL w0 blk off (st s) wr)) (fun e _ => (intOf e - i).toNat)
      case atStart => exact ⟨q, m, Nat.le_refl _, IQ.out, rfl, E⟩
      case round =>
        clear E
        obtain ⟨s, k, hsp, hk, rfl, HS⟩ := hrel
        by_cases hlt : 0 < s
        · obtain ⟨r, rfl⟩ : ∃ r, s = r + 1 := ⟨s - 1, by omega⟩
          obtain ⟨A, C, y, g1, g2, g3⟩ := STP.out r (by omega)
          have hs := HS.out
          have hln := LN.out (r + 1)
          rw [g2] at hs hln
          have hki : i < k := by omega
          have hkm : k ≤ m := by have := IQ.out; omega
          obtain ⟨iN, hiN⟩ : ∃ q, q = P.length + p + r := ⟨_, rfl⟩
          obtain ⟨jN, hjN⟩ : ∃ q, q = P.length + p + r + 1 := ⟨_, rfl⟩
          have ea : (k - 1).toNat = iN := by have := HA.out; have := IP.out; omega
          have pa : 0 ≤ k - 1 := by omega
          have ba : k - 1 < (n : Int) := by omega
          have ra : IntKind.i64.wrap (k - 1) = k - 1 := by rw [IntKind.wrap_i64]; omega
          have eb : k.toNat = jN := by have := HA.out; have := IP.out; omega
          have pb : 0 ≤ k := by omega
          have bb : k < (n : Int) := by omega
          have c1 := hs.cell HR.out hln iN (by omega)
          have f1 := hs.froz HR.out hln iN (by omega)
          have e2 : A ++ y :: ([] ++ x :: C) = (A ++ [y]) ++ x :: C := by simp
          have hs2 := hs
          have hln2 := hln
          rw [e2] at hs2 hln2
          have c2 := hs2.cell HR.out hln2 jN (by simp; omega)
          have f2 := hs2.froz HR.out hln2 jN (by simp; omega)
          have hA : A.length + 2 + C.length = n := by rw [← hln]; simp; omega
          obtain ⟨u, c3⟩ := hs.second HR.out hln jN iN (by omega) (by omega) (encF y)
          have s3 := hs.swap' HR.out iN jN (by omega) (by simp; omega)
          rw [← g1] at s3
          have S3 := Lib.hid s3
          have HK := Lib.hid hk
          clear hs hs2 hln hln2 e2 g1 g2 g3 hiN hjN s3 HS hk hA
          go_wp2_with fail
          go_big_region_o
          clear c1 c2 c3 f1 f2
          generalize ((wr.setCell ⟨blk, off + jN, none⟩ (encF y)).setCell ⟨blk, off + iN, none⟩ (encF x)).drew = w3 at S3 ⊢
          clear ea eb ra
          go_wp2
          go_roundw
          case rel => exact ⟨r, k - 1, by omega, by have := HK.out; omega, rfl, S3⟩
          case measure => simp [intOf]; omega
        · obtain rfl : s = 0 := by omega
          have hki : ¬ i < k := by omega
          have HK := Lib.hid hk
          clear hk
          go_wp2
          first | go_end0 | refine bodyPost_ret (results_none rfl _ _ _) rfl ?_ | ((try simp only [Exit.inBlock, Exit.then]); refine bodyPost_ret (results_none rfl _ _ _) rfl ?_)
          exact ⟨rfl, by rw [E1.out]; exact HS.out⟩
end Go.Proofs.Ytcppcfjejalggaa.LP
