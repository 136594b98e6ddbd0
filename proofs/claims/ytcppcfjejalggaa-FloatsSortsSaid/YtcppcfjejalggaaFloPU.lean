/-
  Contracts of the library's stable sort at floats, the third part: two neighbouring rows merged in place, of which one has a single item.
-/
import Derived.Test.YtcppcfjejalggaaFloPT
import Derived.Shelf.SlSortCmp.QuietGrown
set_option linter.unusedSimpArgs false
set_option linter.unusedVariables false
namespace Go.Proofs.Ytcppcfjejalggaa.LP
open Go.RowKit Go.Shelf Go.Lib Go.Sort
theorem SL.grown {w0 W : World} {blk off : Nat} {l : List Fl} (h : SL w0 blk off l W) (n : Nat) (os : Array Obj) : SL w0 blk off l (grow (W.drewN n) os) := SW.grown h n os
theorem cmp_g (x y : Fl) (w : World) : Calls Try.prog 17 #[encF x, encF y] w fun e w' => e = .returned (.int .i64 (cfF x y)) ∧ ∃ q os', w' = grow (w.drewN q) os' := by
  refine (cmp_x x.1 y.1 x.2 y.2 w).mono ?_
  rintro e w' ⟨h, o, rfl⟩
  exact ⟨h, 0, #[o], by rw [alloc_eq_grow]; rfl⟩
theorem up_take {R : List Fl} (h : ST.Up rkF R) {t : Nat} (ht : t < R.length) {x : Fl} (hx : rkF (R[t]) < rkF x) : ∀ y ∈ R.take (t + 1), rkF y < rkF x := by
  intro y hy
  obtain ⟨j, hj, rfl⟩ := List.getElem_of_mem hy
  rw [List.length_take] at hj
  rw [List.getElem_take]
  rcases Nat.lt_or_ge j t with hl | hl
  · have := List.pairwise_iff_getElem.1 h j t (by omega) ht hl; omega
  · have : j = t := by omega
    subst this; exact hx
theorem up_drop {R : List Fl} (h : ST.Up rkF R) {t : Nat} (ht : t < R.length) {x : Fl} (hx : rkF x ≤ rkF (R[t])) : ∀ y ∈ R.drop t, rkF x ≤ rkF y := by
  intro y hy
  obtain ⟨j, hj, rfl⟩ := List.getElem_of_mem hy
  rw [List.length_drop] at hj
  rw [List.getElem_drop]
  rcases Nat.eq_zero_or_pos j with h0 | h0
  · subst h0; exact hx
  · have := List.pairwise_iff_getElem.1 h t (t + j) ht (by omega) (by omega); omega
theorem up_take' {R : List Fl} (h : ST.Up rkF R) {t : Nat} (ht : t < R.length) {x : Fl} (hx : rkF (R[t]) ≤ rkF x) : ∀ y ∈ R.take (t + 1), rkF y ≤ rkF x := by
  intro y hy
  obtain ⟨j, hj, rfl⟩ := List.getElem_of_mem hy
  rw [List.length_take] at hj
  rw [List.getElem_take]
  rcases Nat.lt_or_ge j t with hl | hl
  · have := List.pairwise_iff_getElem.1 h j t (by omega) ht hl; omega
  · have : j = t := by omega
    subst this; exact hx
theorem up_drop' {R : List Fl} (h : ST.Up rkF R) {t : Nat} (ht : t < R.length) {x : Fl} (hx : rkF x < rkF (R[t])) : ∀ y ∈ R.drop t, rkF x < rkF y := by
  intro y hy
  obtain ⟨j, hj, rfl⟩ := List.getElem_of_mem hy
  rw [List.length_drop] at hj
  rw [List.getElem_drop]
  rcases Nat.eq_zero_or_pos j with h0 | h0
  · subst h0; exact hx
  · have := List.pairwise_iff_getElem.1 h t (t + j) ht (by omega) (by omega); omega
/-- Where an item stands that moves forward through a row. -/
def fwSt (P U T : List Fl) (x : Fl) (s : Nat) : List Fl := P ++ (U.take s ++ x :: (U.drop s ++ T))
theorem fw_zero (P U T : List Fl) (x : Fl) : fwSt P U T x 0 = P ++ x :: (U ++ T) := by simp [fwSt]
theorem fw_end (P U T : List Fl) (x : Fl) (s : Nat) (h : s = U.length) : fwSt P U T x s = P ++ (U ++ x :: T) := by subst h; simp [fwSt]
theorem fw_len (P U T : List Fl) (x : Fl) (s : Nat) : (fwSt P U T x s).length = P.length + 1 + U.length + T.length := by
  unfold fwSt
  simp only [List.length_append, List.length_take, List.length_drop, List.length_cons]
  omega
theorem fw_step (P U T : List Fl) (x : Fl) (s : Nat) (h : s < U.length) : ∃ A C y, fwSt P U T x s = A ++ x :: ([] ++ y :: C) ∧ fwSt P U T x (s + 1) = A ++ y :: ([] ++ x :: C) ∧ P.length + s = A.length := by
  refine ⟨P ++ U.take s, U.drop (s + 1) ++ T, U[s], ?_, ?_, ?_⟩
  · unfold fwSt
    rw [List.drop_eq_getElem_cons h]
    simp only [List.append_assoc, List.cons_append, List.nil_append]
  · unfold fwSt
    rw [List.take_succ_eq_append_getElem h]
    simp only [List.append_assoc, List.cons_append, List.nil_append]
  · simp; omega
/-- What one round of the search in the second row reads: the middle item, and the single one. -/
theorem mid_facts {w0 W : World} {blk off n : Nat} {P R T : List Fl} {x : Fl} (S : SL w0 blk off (P ++ x :: (R ++ T)) W) (HR : Told w0 blk off n) (hl : P.length + 1 + R.length + T.length = n) (t : Nat) (ht : t < R.length) (aN hN : Nat) (ha : aN = P.length) (hh : hN = P.length + 1 + t) :
    W.cell? ⟨blk, off + hN, none⟩ = some (encF (R[t])) ∧ W.cell? ⟨blk, off + aN, none⟩ = some (encF x) := by
  have e1 : P ++ x :: (R ++ T) = (P ++ x :: R.take t) ++ R[t] :: (R.drop (t + 1) ++ T) := by
    conv => lhs; rw [← List.take_append_drop t R, List.drop_eq_getElem_cons ht]
    simp only [List.append_assoc, List.cons_append, List.nil_append]
  have hlen : (P ++ x :: (R ++ T)).length = n := by simp; omega
  constructor
  · have h := S
    have hl2 := hlen
    rw [e1] at h hl2
    exact h.cell HR hl2 hN (by simp; omega)
  · exact S.cell HR hlen aN ha
set_option maxRecDepth 100000 in
set_option maxHeartbeats 4000000 in
theorem sym_one (w0 : World) (blk off cap n : Nat) (P Q T l : List Fl) (x : Fl) (a m b : Int) (R : Told w0 blk off n) (hn : n ≤ 1000) (hl : P.length + 1 + Q.length + T.length = n) (up : ST.Up rkF Q)
    (ha : a = P.length) (hm : m = a + 1) (hb : b = m + Q.length) (hr : P ++ (ST.mg rkF [x] Q ++ T) = l) (W : World) (S : SL w0 blk off (P ++ x :: (Q ++ T)) W) :
    Calls Try.prog 71 #[.slice (some ⟨blk, off, none⟩) n cap, .int .i64 a, .int .i64 m, .int .i64 b, .func (.func 17) #[] #[]] W fun e w' => e = .returned (.tuple #[]) ∧ SL w0 blk off l w' := by
  have ha0 : 0 ≤ a := by omega
  have hbn : b ≤ n := by omega
  have hmb : m ≤ b := by omega
  have HR := Lib.hid R; have HU := Lib.hid up; have S0 := Lib.hid S; have HL := Lib.hid hl; have HA := Lib.hid ha; have HQ := Lib.hid (show (b - m = Q.length) from by omega)
  have hcl0 := oneF.cells
  simp only [Value.cells] at hcl0
  have hst := oneF.store Try.prog
  have mixed := lays20.mixed
  have eg := enters_of Try.func17 (by kernel_rfl) rfl
  have hma : m - a = 1 := by omega
  have HM := Lib.hid hm; have HRR := Lib.hid hr
  clear R up S hl ha hb hm hr
  go_enter Try.func71, Try.ntmps71
  go_wp2
  go_loopw [10, 11, 12] (fun e u v wr => ∃ i j : Int, m ≤ i ∧ i ≤ j ∧ j ≤ b ∧ e = .int .i64 i ∧ u = .int .i64 j ∧ Hid (SL w0 blk off (P ++ x :: (Q ++ T)) wr ∧ (∀ y ∈ Q.take (i - m).toNat, rkF y < rkF x) ∧ (∀ y ∈ Q.drop (j - m).toNat, rkF x ≤ rkF y))) (fun e u _ _ => (intOf u - intOf e).toNat)
  case atStart =>
    refine ⟨m, b, by omega, by omega, by omega, rfl, rfl, S0.out, fun y hy => ?_, fun y hy => ?_⟩
    · rw [show (m - m).toNat = 0 from by omega] at hy; cases hy
    · rw [show (b - m).toNat = Q.length from by have := HQ.out; omega, List.drop_length] at hy; cases hy
  case round =>
    obtain ⟨i, j, hi, hij, hj, rfl, rfl, HS⟩ := hrel
    by_cases hlt : i < j
    · obtain ⟨h, hh⟩ : ∃ h : Int, (i + j) / 2 = h := ⟨_, rfl⟩
      have h1 : i ≤ h := by omega
      have h2 : h < j := by omega
      obtain ⟨tt, htt⟩ : ∃ t : Nat, t = (h - m).toNat := ⟨_, rfl⟩
      have htl : tt < Q.length := by have := HQ.out; omega
      obtain ⟨hN, hhN⟩ : ∃ q, q = P.length + 1 + tt := ⟨_, rfl⟩
      obtain ⟨aN, haN⟩ : ∃ q, q = P.length := ⟨_, rfl⟩
      have ea : h.toNat = hN := by have := HA.out; omega
      have pa : 0 ≤ h := by omega
      have ba : h < (n : Int) := by omega
      have eb : a.toNat = aN := by have := HA.out; omega
      have bb : a < (n : Int) := by omega
      have l1 := fun k os => (mid_facts (HS.out.1.grown k os) HR.out HL.out tt htl aN hN haN hhN).1
      have l2 := fun k os => (mid_facts (HS.out.1.grown k os) HR.out HL.out tt htl aN hN haN hhN).2
      have UT := Lib.hid (fun (z : Fl) (hz : rkF (Q[tt]) < rkF z) => up_take HU.out htl hz)
      have UD := Lib.hid (fun (z : Fl) (hz : rkF z ≤ rkF (Q[tt])) => up_drop HU.out htl hz)
      have hcf := cf_neg (Q[tt]) x
      have HTT := Lib.hid htt
      generalize Q[tt] = y at *
      have hc := fun k os => cmp_g y x (grow (wr.drewN k) os)
      clear htt htl hhN haN HL
      by_cases hv : cfF y x < 0
      · have hd : decide (cfF y x < 0) = true := decide_eq_true hv
        have HV := Lib.hid (hcf.1 hv)
        clear hcf
        go_wp2_with fail
        go_quiet_grown (exact Calls.grown_of (hc _ _))
        have S2 := Lib.hid (HS.out.1.grown nq osq)
        have HF := Lib.hid HS.out.2
        clear l1 l2 hc HS
        generalize grow (wr.drewN nq) osq = w2 at S2 ⊢
        clear nq osq ea eb
        go_wp2
        go_roundw
        case rel =>
          refine ⟨h + 1, j, by omega, by omega, hj, rfl, rfl, S2.out, fun z hz => ?_, HF.out.2⟩
          rw [show (h + 1 - m).toNat = tt + 1 from by have := HTT.out; omega] at hz
          exact UT.out x HV.out z hz
        case measure => simp [intOf]; omega
      · have hd : decide (cfF y x < 0) = false := decide_eq_false hv
        have HV := Lib.hid (show rkF x ≤ rkF y from by rw [hcf] at hv; omega)
        clear hcf
        go_wp2_with fail
        go_quiet_grown (exact Calls.grown_of (hc _ _))
        have S2 := Lib.hid (HS.out.1.grown nq osq)
        have HF := Lib.hid HS.out.2
        clear l1 l2 hc HS
        generalize grow (wr.drewN nq) osq = w2 at S2 ⊢
        clear nq osq ea eb
        go_wp2
        go_roundw
        case rel =>
          refine ⟨i, h, hi, h1, by omega, rfl, rfl, S2.out, HF.out.1, fun z hz => ?_⟩
          rw [← HTT.out] at hz
          exact UD.out x HV.out z hz
        case measure => simp [intOf]; omega
    · obtain rfl : i = j := by omega
      obtain ⟨p, hp⟩ : ∃ p : Nat, (i - m).toNat = p := ⟨_, rfl⟩
      obtain ⟨hs, hu, hd⟩ := HS.out
      rw [hp] at hu hd
      have hpl : p ≤ Q.length := by have := HQ.out; omega
      have hmg : ST.mg rkF [x] Q = Q.take p ++ x :: Q.drop p := by
        conv => lhs; rw [← List.take_append_drop p Q]
        exact ST.mg_front rkF x _ _ hu (fun y hy => by have := hd y hy; omega)
      have e0 : P ++ x :: (Q ++ T) = fwSt P (Q.take p) (Q.drop p ++ T) x 0 := by
        rw [fw_zero, ← List.append_assoc (Q.take p), List.take_append_drop]
      have e1 : P ++ (ST.mg rkF [x] Q ++ T) = fwSt P (Q.take p) (Q.drop p ++ T) x p := by
        rw [fw_end _ _ _ _ _ (by rw [List.length_take]; omega), hmg]
        simp
      have hst2 := fun s (h : s < p) => fw_step P (Q.take p) (Q.drop p ++ T) x s (by rw [List.length_take]; omega)
      have hln := fun s => (fw_len P (Q.take p) (Q.drop p ++ T) x s).trans (show _ = n from by have := HL.out; rw [List.length_take, List.length_append, List.length_drop]; omega)
      have E1 := Lib.hid (HRR.out.symm.trans e1)
      rw [e0] at hs
      have ip : i - 1 = a + p := by have := HM.out; omega
      have E := Lib.hid hs; have STP := Lib.hid hst2; have LN := Lib.hid hln
      clear hs hu hd HS hmg e0 e1 hst2 hln hp hpl HU HQ S0 HRR
      generalize fwSt P (Q.take p) (Q.drop p ++ T) x = st at *
      have IP := Lib.hid ip
      clear ip hij hlt
      go_wp2
      go_loopw [13] (fun e wr => ∃ s : Nat, ∃ k : Int, s ≤ p ∧ k = a + s ∧ e = .int .i64 k ∧ Hid (SL w0 blk off (st s) wr)) (fun e _ => (i - intOf e).toNat)
      case atStart => exact ⟨0, a, Nat.zero_le _, by omega, rfl, E⟩
      case round =>
        clear E
        obtain ⟨s, k, hsp, hk, rfl, HS⟩ := hrel
        by_cases hlt : s < p
        · obtain ⟨A, C, y, g1, g2, g3⟩ := STP.out s hlt
          have hs := HS.out
          have hln := LN.out s
          rw [g1] at hs hln
          have hki : k < i - 1 := by have := IP.out; omega
          obtain ⟨iN, hiN⟩ : ∃ q, q = P.length + s := ⟨_, rfl⟩
          obtain ⟨jN, hjN⟩ : ∃ q, q = P.length + s + 1 := ⟨_, rfl⟩
          have ea : k.toNat = iN := by have := HA.out; omega
          have pa : 0 ≤ k := by omega
          have ba : k < (n : Int) := by omega
          have eb : (k + 1).toNat = jN := by have := HA.out; omega
          have pb : 0 ≤ k + 1 := by omega
          have bb : k + 1 < (n : Int) := by omega
          have rb : IntKind.i64.wrap (k + 1) = k + 1 := by rw [IntKind.wrap_i64]; omega
          have c1 := hs.cell HR.out hln iN (by omega)
          have f1 := hs.froz HR.out hln iN (by omega)
          have e2 : A ++ x :: ([] ++ y :: C) = (A ++ [x]) ++ y :: C := by simp
          have hs2 := hs
          have hln2 := hln
          rw [e2] at hs2 hln2
          have c2 := hs2.cell HR.out hln2 jN (by simp; omega)
          have f2 := hs2.froz HR.out hln2 jN (by simp; omega)
          obtain ⟨u, c3⟩ := hs.second HR.out hln iN jN (by omega) (by omega) (encF y)
          have s3 := hs.swap HR.out iN jN (by omega) (by simp; omega)
          rw [← g2] at s3
          have S3 := Lib.hid s3
          have HK := Lib.hid hk
          clear hs hs2 hln hln2 e2 g1 g2 g3 hiN hjN s3 HS hk
          go_wp2_with fail
          go_big_region_o
          clear c1 c2 c3 f1 f2
          generalize ((wr.setCell ⟨blk, off + iN, none⟩ (encF y)).setCell ⟨blk, off + jN, none⟩ (encF x)).drew = w3 at S3 ⊢
          clear ea eb rb
          go_wp2
          go_roundw
          case rel => exact ⟨s + 1, k + 1, by omega, by have := HK.out; omega, rfl, S3⟩
          case measure => simp [intOf]; omega
        · obtain rfl : s = p := by omega
          have hki : ¬ k < i - 1 := by have := IP.out; omega
          have HK := Lib.hid hk
          clear hk
          go_wp2
          first | go_end0 | refine bodyPost_ret (results_none rfl _ _ _) rfl ?_ | ((try simp only [Exit.inBlock, Exit.then]); refine bodyPost_ret (results_none rfl _ _ _) rfl ?_)
          exact ⟨rfl, by rw [E1.out]; exact HS.out⟩
end Go.Proofs.Ytcppcfjejalggaa.LP
