/-
  Contracts of the program's functions of layer 12: may rules be?
-/
import Derived.Test.YtodlgbihdehmbaaGreatDoorRulPFP
import Derived.Test.YtodlgbihdehmbaaGreatDoorNdlPlcP
import Derived.Lib.Hide
import Derived.WalkSmall
import Derived.Carry
import Derived.WalkKit
import Derived.Laws.BitsAllLaws
import Derived.Test.YtodlgbihdehmbaaGreatDoorDecMathP
import Derived.StillTailTactics
import Derived.Deep.QuietTactic
import Derived.BigQuiet
import Derived.Deep.Cut
import Derived.Deep.RegionHeld3
import Derived.Test.YtodlgbihdehmbaaGreatDoorNdlPJP
import Derived.Test.YtodlgbihdehmbaaGreatDoorMemRowP
import Derived.Lib.SliceRun
import Derived.Laws.EntriesVeiled
set_option linter.unusedSimpArgs false
set_option linter.unusedVariables false
namespace Go.Proofs.YtodlgbihdehmbaaGreatDoor
/-- How long what is asked of rules may be. -/
structure RuFit (ss : List Sto) (fs : List Fol) : Prop where
  st : ∀ s ∈ ss, s.2.1.length ≤ 9223372036854775807 ∧ s.2.2.length ≤ 100000
  fo : ∀ f ∈ fs, f.2.1.length ≤ 9223372036854775807
  ns : ss.length ≤ 9223372036854775807
  nf : fs.length ≤ 9223372036854775807
theorem rightR_long {ss : List Sto} {fs : List Fol} (h : 16 < ss.length ∨ 16 < fs.length) : rightR ss fs = false := by
  rw [Bool.eq_false_iff]
  intro e
  have := (rightR_iff.1 e).1
  omega
theorem rightR_sto {ss : List Sto} {fs : List Fol} {k : Nat} {s : Sto} (hk : ss[k]? = some s) (h : stoOk s = false) : rightR ss fs = false := by
  rw [Bool.eq_false_iff]
  intro e
  have := List.all_eq_true.1 (rightR_iff.1 e).2.1 s (List.mem_of_getElem? hk)
  rw [h] at this; cases this
theorem rightR_fol {ss : List Sto} {fs : List Fol} {k : Nat} {s : Fol} (hk : fs[k]? = some s) (h : folOk s = false) : rightR ss fs = false := by
  rw [Bool.eq_false_iff]
  intro e
  have := List.all_eq_true.1 (rightR_iff.1 e).2.2 s (List.mem_of_getElem? hk)
  rw [h] at this; cases this
theorem rightR_all {ss : List Sto} {fs : List Fol} {n q : Nat} (hn : ss.length = n) (hq : fs.length = q) (h1 : n ≤ 16) (h2 : q ≤ 16) (hs : ∀ (j : Nat) (s : Sto), j < n → ss[j]? = some s → stoOk s = true) (hf : ∀ (j : Nat) (s : Fol), j < q → fs[j]? = some s → folOk s = true) : rightR ss fs = true := by
  refine rightR_iff.2 ⟨⟨by omega, by omega⟩, List.all_eq_true.2 fun s h => ?_, List.all_eq_true.2 fun s h => ?_⟩
  · obtain ⟨j, hj⟩ := List.getElem?_of_mem h
    exact hs j s (by rw [← hn]; exact (List.getElem?_eq_some_iff.1 hj).1) hj
  · obtain ⟨j, hj⟩ := List.getElem?_of_mem h
    exact hf j s (by rw [← hq]; exact (List.getElem?_eq_some_iff.1 hj).1) hj
namespace LP
open Go.RowKit Cf Cf.KR Cf.KP
set_option maxRecDepth 100000 in
set_option maxHeartbeats 4000000 in
theorem right_p (vs vf : Value) (ss : List Sto) (fs : List Fol) (fit : RuFit ss fs) (w : World) (hs : StOut w vs ss) (hf : FoOut w vf fs) :
    Calls Tryz.prog 21 #[.agg #[vs, vf]] w fun e w' => e = .returned (.bool (rightR ss fs)) ∧ Below w.heap.size w w' := by
  obtain ⟨A, c, rfl, hc, hx⟩ := id hs
  obtain ⟨A2, c2, rfl, hc2, hx2⟩ := id hf
  have nS := fit.ns
  have nF := fit.nf
  obtain ⟨n, hn⟩ : ∃ n, ss.length = n := ⟨_, rfl⟩
  obtain ⟨q, hq⟩ : ∃ q, fs.length = q := ⟨_, rfl⟩
  rw [hn] at hc nS
  rw [hq] at hc2 nF
  rw [hn, hq]
  obtain ⟨d, hd⟩ : ∃ d, rightR ss fs = d := ⟨_, rfl⟩
  have LONG := @rightR_long ss fs
  have BADS := fun (k : Nat) (s : Sto) => @rightR_sto ss fs k s
  have BADF := fun (k : Nat) (s : Fol) => @rightR_fol ss fs k s
  have GOOD := fun (h1 : n ≤ 16) (h2 : q ≤ 16) => rightR_all (ss := ss) (fs := fs) hn hq h1 h2
  rw [hn, hq] at LONG
  rw [hd] at LONG BADS BADF GOOD ⊢
  obtain ⟨k0, k1, -, -⟩ := two_new w (.slice A n c) (.slice A2 q c2) 37
  obtain ⟨wb, hwb⟩ : ∃ wb, w.alloc (.cells #[.slice A n c, .slice A2 q c2] 37) = wb := ⟨_, rfl⟩
  have hbw := alloc_below w (.cells #[.slice A n c, .slice A2 q c2] 37)
  rw [hwb] at k0 k1 hbw
  have LG := Lib.hid LONG; have BS := Lib.hid BADS; have BF := Lib.hid BADF; have GD := Lib.hid GOOD; have HX := Lib.hid hx; have HX2 := Lib.hid hx2; have HN := Lib.hid hn; have HQ := Lib.hid hq; have HBW := Lib.hid hbw; have FIT := Lib.hid fit
  have K0 := Lib.hid k0; have K1 := Lib.hid k1
  clear LONG BADS BADF GOOD hx hx2 hn hq hd hbw fit hs hf
  by_cases h1 : 16 < n
  · have h1i : (16 : Int) < (n : Int) := by omega
    have HE := Lib.hid (LG.out (.inl h1))
    go_enter Tryz.func21, Tryz.ntmps21
    go_wp2
    (try rw [hwb])
    go_ret
    exact ⟨ret_b HE.out.symm, HBW.out⟩
  · have h1i : ¬ (16 : Int) < (n : Int) := by omega
    by_cases h2 : 16 < q
    · have h2i : (16 : Int) < (q : Int) := by omega
      have HE := Lib.hid (LG.out (.inr h2))
      go_enter Tryz.func21, Tryz.ntmps21
      go_wp2
      (try rw [hwb])
      go_ret
      exact ⟨ret_b HE.out.symm, HBW.out⟩
    · have h2i : ¬ (16 : Int) < (q : Int) := by omega
      go_enter Tryz.func21, Tryz.ntmps21
      go_wp2
      (try rw [hwb])
      go_loopw [20] (fun i wr => ∃ k : Nat, i = .int .i64 (k : Nat) ∧ k ≤ n ∧ Hid ((∀ (j : Nat) (s : Sto), j < k → ss[j]? = some s → stoOk s = true) ∧ Below wb.heap.size wb wr)) (fun i _ => n - (intOf i).toNat)
      case atStart => exact ⟨0, rfl, Nat.zero_le _, fun j x hj => absurd hj (Nat.not_lt_zero j), Below.refl _ _⟩
      case round =>
        obtain ⟨k, rfl, hk, HI⟩ := hrel
        have k0 := cellb HI.out.2 K0.out
        have k1 := cellb HI.out.2 K1.out
        have HW := Lib.hid (bnext HBW.out HI.out.2)
        by_cases hlt : k < n
        · have hkl : k < ss.length := by rw [HN.out]; exact hlt
          obtain ⟨bb, off, rfl, ha⟩ := HX.out (by intro e; rw [e] at hkl; exact absurd hkl (Nat.not_lt_zero _))
          have hp := List.getElem?_eq_getElem hkl
          obtain ⟨⟨nm, pt, rg⟩, hxx⟩ : ∃ x, ss[k] = x := ⟨_, rfl⟩
          rw [hxx] at hp
          obtain ⟨⟨hB1, hB2⟩, u, c0, c1, c2', hrg⟩ := (ha.below HW.out) k (nm, pt, rg) hp
          have hfit := FIT.out.st (nm, pt, rg) (List.mem_of_getElem? hp)
          simp only at hB1 hB2 c0 c1 hrg hfit
          obtain ⟨A4, c4, rfl, -, -⟩ := id hrg
          have TG := fun (W : World) (h : Below wr.heap.size wr W) => RP.together_c (.slice A4 rg.length c4) rg hfit.2 W (hrg.below h)
          have IP := fun (W : World) => isPattern_p (str pt) (by rw [str_size]; exact hfit.1) W
          rw [bs_str hB2] at IP
          have NO := fun (h : stoOk (nm, pt, rg) = false) => BS.out k (nm, pt, rg) hp h
          have YES := fun (h : stoOk (nm, pt, rg) = true) => (show ∀ (j : Nat) (s : Sto), j < k + 1 → ss[j]? = some s → stoOk s = true from fun j y hj hy => by
            by_cases e : j = k
            · rw [e, hp] at hy
              obtain rfl := Option.some.inj hy
              exact h
            · exact HI.out.1 j y (by omega) hy)
          have hok : stoOk (nm, pt, rg) = (decide ((Nd.ndComp pt).2 = 0) && tog rg) := rfl
          rw [hok] at NO YES
          obtain ⟨g1, hg1⟩ : ∃ g1, decide ((Nd.ndComp pt).2 = 0) = g1 := ⟨_, rfl⟩
          obtain ⟨g2, hg2⟩ : ∃ g2, tog rg = g2 := ⟨_, rfl⟩
          rw [hg1] at IP NO YES
          rw [hg2] at TG NO YES
          have T2 := Lib.hid TG; have P2 := Lib.hid IP; have N2 := Lib.hid NO; have Y2 := Lib.hid YES
          generalize rg.length = m at *
          generalize str nm = X at *
          generalize str pt = Y at *
          clear TG IP NO YES hok hg1 hg2 hp hxx ha hkl hfit hrg hB1 hB2
          have BOX := Lib.hid (alloc_below wr (.cells #[.string X, .string Y, .slice A4 m c4] 47))
          have V := three_new wr (.string X) (.string Y) (.slice A4 m c4) 47
          have HV := Lib.hid V
          have BIN := Lib.hid (fun (W : World) (h : Below wr.heap.size wr W) => (HI.out.2.trans (h.mono HI.out.2.size)))
          clear V HI
          cases g1
          · have HE := Lib.hid (N2.out rfl)
            go_wp2_with (go_at_call 44; refine (P2.out _).mono ?_; rintro _ w2 ⟨rfl, hb2⟩)
            go_ret
            exact ⟨ret_b HE.out.symm, bnext (bnext HW.out BOX.out) hb2⟩
          · cases g2
            · have HE := Lib.hid (N2.out rfl)
              go_wp2_with (first
                | (go_at_call 44; refine (P2.out _).mono ?_; rintro _ w2 ⟨rfl, hb2⟩; have BB2 := Lib.hid (bnext BOX.out hb2); have v2 := cellb hb2 HV.out.2.2)
                | (go_at_call 45; refine (T2.out _ BB2.out).mono ?_; rintro _ w3 ⟨rfl, hb3⟩))
              go_ret
              exact ⟨ret_b HE.out.symm, bnext (bnext HW.out BB2.out) hb3⟩
            · go_wp2_with (first
                | (go_at_call 44; refine (P2.out _).mono ?_; rintro _ w2 ⟨rfl, hb2⟩; have BB2 := Lib.hid (bnext BOX.out hb2); have v2 := cellb hb2 HV.out.2.2)
                | (go_at_call 45; refine (T2.out _ BB2.out).mono ?_; rintro _ w3 ⟨rfl, hb3⟩))
              go_roundw
              case rel => exact ⟨k + 1, by go_num, by omega, Y2.out rfl, BIN.out _ (bnext BB2.out hb3)⟩
              case measure => simp [intOf]; omega
        · obtain rfl : n = k := by omega
          have ALLS := Lib.hid HI.out.1
          have HI2 := Lib.hid HI.out.2
          clear HI
          go_wp2
          go_loopw [38] (fun i wx => ∃ k : Nat, i = .int .i64 (k : Nat) ∧ k ≤ q ∧ Hid ((∀ (j : Nat) (s : Fol), j < k → fs[j]? = some s → folOk s = true) ∧ Below wb.heap.size wb wx)) (fun i _ => q - (intOf i).toNat)
          case atStart => exact ⟨0, rfl, Nat.zero_le _, fun j x hj => absurd hj (Nat.not_lt_zero j), HI2.out⟩
          case round =>
            clear k0 k1 HW HI2
            obtain ⟨k, rfl, hk, HI⟩ := hrel
            have k0 := cellb HI.out.2 K0.out
            have k1 := cellb HI.out.2 K1.out
            have HW := Lib.hid (bnext HBW.out HI.out.2)
            by_cases hlt : k < q
            · have hkl : k < fs.length := by rw [HQ.out]; exact hlt
              obtain ⟨bb, off, rfl, ha⟩ := HX2.out (by intro e; rw [e] at hkl; exact absurd hkl (Nat.not_lt_zero _))
              have hp := List.getElem?_eq_getElem hkl
              obtain ⟨⟨nm, pt, fa, me⟩, hxx⟩ : ∃ x, fs[k] = x := ⟨_, rfl⟩
              rw [hxx] at hp
              obtain ⟨⟨hB1, hB2⟩, c0, c1, c2', c3⟩ := (ha.below HW.out) k (nm, pt, fa, me) hp
              have hfit := FIT.out.fo (nm, pt, fa, me) (List.mem_of_getElem? hp)
              simp only at hB1 hB2 c0 c1 c2' c3 hfit
              have IP := fun (W : World) => isPattern_p (str pt) (by rw [str_size]; exact hfit) W
              rw [bs_str hB2] at IP
              have IFA := fun (W : World) => isFactor_p fa W
              have IME := fun (W : World) => isMethod_p me W
              have NO := fun (h : folOk (nm, pt, fa, me) = false) => BF.out k (nm, pt, fa, me) hp h
              have YES := fun (h : folOk (nm, pt, fa, me) = true) => (show ∀ (j : Nat) (s : Fol), j < k + 1 → fs[j]? = some s → folOk s = true from fun j y hj hy => by
                by_cases e : j = k
                · rw [e, hp] at hy
                  obtain rfl := Option.some.inj hy
                  exact h
                · exact HI.out.1 j y (by omega) hy)
              have hok : folOk (nm, pt, fa, me) = (decide ((Nd.ndComp pt).2 = 0) && (decide (0 ≤ fa ∧ fa ≤ 1000000) && decide (1 ≤ me ∧ me ≤ 5))) := by
                unfold folOk
                simp only
                congr 1
                rw [Bool.eq_iff_iff]
                simp only [Bool.and_eq_true, decide_eq_true_eq]
                omega
              rw [hok] at NO YES
              obtain ⟨g1, hg1⟩ : ∃ g1, decide ((Nd.ndComp pt).2 = 0) = g1 := ⟨_, rfl⟩
              obtain ⟨g2, hg2⟩ : ∃ g2, decide (0 ≤ fa ∧ fa ≤ 1000000) = g2 := ⟨_, rfl⟩
              obtain ⟨g3, hg3⟩ : ∃ g3, decide (1 ≤ me ∧ me ≤ 5) = g3 := ⟨_, rfl⟩
              rw [hg1] at IP NO YES
              rw [hg2] at IFA NO YES
              rw [hg3] at IME NO YES
              have F2 := Lib.hid IFA; have M2 := Lib.hid IME; have P2 := Lib.hid IP; have N2 := Lib.hid NO; have Y2 := Lib.hid YES
              generalize str nm = X at *
              generalize str pt = Y at *
              clear IFA IME IP NO YES hok hg1 hg2 hg3 hp hxx ha hkl hfit hB1 hB2
              have BOX := Lib.hid (alloc_below wr (.cells #[.string X, .string Y, .int .i64 fa, .int .i64 me] 74))
              have HV := Lib.hid (show (wr.alloc (.cells #[.string X, .string Y, .int .i64 fa, .int .i64 me] 74)).cell? ⟨wr.heap.size, 2, none⟩ = some (.int .i64 fa) ∧ (wr.alloc (.cells #[.string X, .string Y, .int .i64 fa, .int .i64 me] 74)).cell? ⟨wr.heap.size, 3, none⟩ = some (.int .i64 me) from
                ⟨cell_of_row _ _ 2 _ _ (0, 0) (heap_alloc_new wr _), cell_of_row _ _ 3 _ _ (0, 0) (heap_alloc_new wr _)⟩)
              have BIN := Lib.hid (fun (W : World) (h : Below wr.heap.size wr W) => (HI.out.2.trans (h.mono HI.out.2.size)))
              clear HI
              cases g1
              · have HE := Lib.hid (N2.out rfl)
                go_wp2_with (go_at_call 44; refine (P2.out _).mono ?_; rintro _ w2 ⟨rfl, hb2⟩)
                go_ret
                exact ⟨ret_b HE.out.symm, bnext (bnext HW.out BOX.out) hb2⟩
              · cases g2
                · have HE := Lib.hid (N2.out rfl)
                  go_wp2_with (first
                    | (go_at_call 44; refine (P2.out _).mono ?_; rintro _ w2 ⟨rfl, hb2⟩; have BB2 := Lib.hid (bnext BOX.out hb2); have v2 := cellb hb2 HV.out.1; have v3 := cellb hb2 HV.out.2)
                    | (go_at_call 46; refine (F2.out _).mono ?_; rintro _ w3 ⟨rfl, rfl⟩))
                  go_ret
                  exact ⟨ret_b HE.out.symm, bnext HW.out BB2.out⟩
                · cases g3
                  · have HE := Lib.hid (N2.out rfl)
                    go_wp2_with (first
                      | (go_at_call 44; refine (P2.out _).mono ?_; rintro _ w2 ⟨rfl, hb2⟩; have BB2 := Lib.hid (bnext BOX.out hb2); have v2 := cellb hb2 HV.out.1; have v3 := cellb hb2 HV.out.2)
                      | (go_at_call 46; refine (F2.out _).mono ?_; rintro _ w3 ⟨rfl, rfl⟩)
                      | (go_at_call 35; refine (M2.out _).mono ?_; rintro _ w4 ⟨rfl, rfl⟩))
                    go_ret
                    exact ⟨ret_b HE.out.symm, bnext HW.out BB2.out⟩
                  · go_wp2_with (first
                      | (go_at_call 44; refine (P2.out _).mono ?_; rintro _ w2 ⟨rfl, hb2⟩; have BB2 := Lib.hid (bnext BOX.out hb2); have v2 := cellb hb2 HV.out.1; have v3 := cellb hb2 HV.out.2)
                      | (go_at_call 46; refine (F2.out _).mono ?_; rintro _ w3 ⟨rfl, rfl⟩)
                      | (go_at_call 35; refine (M2.out _).mono ?_; rintro _ w4 ⟨rfl, rfl⟩))
                    go_roundw
                    case rel => exact ⟨k + 1, by go_num, by omega, Y2.out rfl, BIN.out _ BB2.out⟩
                    case measure => simp [intOf]; omega
            · obtain rfl : q = k := by omega
              have HE := Lib.hid (GD.out (by omega) (by omega) ALLS.out HI.out.1)
              go_wp2
              go_ret
              exact ⟨ret_b HE.out.symm, HW.out⟩
end LP
end Go.Proofs.YtodlgbihdehmbaaGreatDoor
/-
  Contracts of the program's own functions of layer 9: reach.
-/
set_option linter.unusedSimpArgs false
set_option linter.unusedVariables false
namespace Go.Proofs.YtodlgbihdehmbaaGreatDoor.Nd.NP
open Go.RowKit
theorem ints_info : (Tryz.prog.info? 3).map (fun i => (i.zero, i.size, i.bytes)) = some (some (.int .i64 0), 1, 8) := by kernel_rfl
theorem plc_one (x : Int) : ∀ u ∈ ([.int .i64 x] : List Value), u.oneCell' = true := by
  intro u hu
  rw [List.mem_singleton.1 hu]
  rfl
/-- A row with the places from a to q. -/
def ndUp (row : List Nat) (a q : Nat) : List Nat := row ++ List.range' a (q - a + 1)
theorem ndUp_start (row : List Nat) (a : Nat) : ndUp row a a = row ++ [a] := by unfold ndUp; rw [Nat.sub_self]; rfl
theorem ndUp_next (row : List Nat) {a q : Nat} (h : a ≤ q) : ndUp row a (q + 1) = ndUp row a q ++ [q + 1] := by
  unfold ndUp
  rw [show q + 1 - a + 1 = (q - a + 1) + 1 from by omega, List.range'_concat, List.append_assoc, Nat.one_mul, show a + (q - a + 1) = q + 1 from by omega]
theorem ndUp_length (row : List Nat) (a q : Nat) : (ndUp row a q).length = row.length + (q - a + 1) := by unfold ndUp; rw [List.length_append, List.length_range']
theorem ndUp_end (is : List NI) {row : List Nat} {a : Nat} (h : ¬ (row ≠ [] ∧ a ≤ row.getD (row.length - 1) 0)) : ndReach is row a = ndUp row a (ndEnd is a) := by
  unfold ndReach ndUp ndEnd
  rw [if_neg h, show a + nStars (is.drop a) - a + 1 = nStars (is.drop a) + 1 from by omega]
set_option maxRecDepth 100000 in
set_option maxHeartbeats 2000000 in
theorem reach_c (B : Nat) (v u : Value) (row : List Nat) (is : List NI) (a : Nat) (hr : row.length ≤ 1001) (hi : is.length ≤ 1000) (ha : a ≤ is.length) (hplc : ∀ q ∈ row, q ≤ is.length) (w : World) (hB : B ≤ w.heap.size)
    (hv : PlNew B w v row) (hu : ItLow B w u is) :
    Calls Tryz.prog 90 #[v, u, .int .i64 (a : Nat)] w fun e w' => ∃ v', e = .returned v' ∧ Rch B w v w' v' (ndReach is row a) := by
  obtain ⟨i0, hi0, hz0, hzz1, hzz2⟩ := info_parts ints_info
  have HV := Lib.hid hv; have HU := Lib.hid hu
  obtain ⟨AV, cv, hve, hcv, hgv⟩ := hv.form
  obtain ⟨AU, cu, hue, hcu, hgu⟩ := hu
  obtain ⟨n, hn⟩ : ∃ n, row.length = n := ⟨_, rfl⟩
  obtain ⟨m, hm⟩ : ∃ m, is.length = m := ⟨_, rfl⟩
  have HN := Lib.hid hn; have HM := Lib.hid hm
  subst hve hue
  by_cases hc : row ≠ [] ∧ a ≤ row.getD (row.length - 1) 0
  · have HR := Lib.hid (show ndReach is row a = row from if_pos hc)
    obtain ⟨R, hR⟩ : ∃ R, ndReach is row a = R := ⟨_, rfl⟩
    rw [hR] at HR ⊢
    rw [hn] at HV hr hcv ⊢
    rw [hm] at HU hi ha hcu ⊢
    obtain ⟨g, rfl⟩ := hgv hc.1
    have hn0 : 0 < n := by rw [← HN.out]; exact List.length_pos_iff.2 hc.1
    have hcl := (HV.out).cellAt (k := n - 1) (by rw [HN.out]; omega)
    have hle := hc.2
    rw [HN.out] at hle
    have HQ := Lib.hid (hplc (row.getD (n - 1) 0) (by rw [List.getD_eq_getElem?_getD, List.getElem?_eq_getElem (by rw [HN.out]; omega)]; exact List.getElem_mem _))
    obtain ⟨x, hx⟩ : ∃ x, row.getD (n - 1) 0 = x := ⟨_, rfl⟩
    rw [hx] at hcl hle HQ
    have hxm : x ≤ m := by rw [← HM.out]; exact HQ.out
    have hw1 : IntKind.i64.wrap ((n : Int) - 1) = ((n - 1 : Nat) : Int) := by
      rw [IntKind.wrap_i64]; omega
    clear hc hx hplc hR hgv hgu hv hn hm
    go_enter Tryz.func90, Tryz.ntmps90
    go_wp2
    go_ret
    exact ⟨_, rfl, HR.out ▸ Rch.start HV.out⟩
  · obtain ⟨E, hE⟩ : ∃ E, ndEnd is a = E := ⟨_, rfl⟩
    have HE := Lib.hid hE
    have HR := Lib.hid (show ndReach is row a = ndUp row a E from hE ▸ ndUp_end is hc)
    obtain ⟨R, hR⟩ : ∃ R, ndReach is row a = R := ⟨_, rfl⟩
    rw [hR] at HR ⊢
    have HE1 := Lib.hid (show a ≤ E from hE ▸ ndEnd_ge is a)
    have HEM := Lib.hid (show E ≤ m from hE ▸ hm ▸ ndEnd_le ha)
    rw [hn] at HV hr hcv ⊢
    rw [hm] at HU hi ha hcu ⊢
    have HOW := Lib.hid (show w.ownsRow B 3 1 (.slice AV n cv) n (plcs row) by have := HV.out; unfold PlNew at this; rwa [HN.out] at this)
    by_cases hn0 : 0 < n
    · have hne : row ≠ [] := by intro e; rw [e] at hn; simp at hn; omega
      obtain ⟨g, rfl⟩ := hgv hne
      have hcl := (HV.out).cellAt (k := n - 1) (by rw [HN.out]; omega)
      have hle : ¬ a ≤ row.getD (n - 1) 0 := fun e => hc ⟨hne, by rw [hn]; exact e⟩
      have HQ := Lib.hid (hplc (row.getD (n - 1) 0) (by rw [List.getD_eq_getElem?_getD, List.getElem?_eq_getElem (by rw [HN.out]; omega)]; exact List.getElem_mem _))
      obtain ⟨x, hx⟩ : ∃ x, row.getD (n - 1) 0 = x := ⟨_, rfl⟩
      rw [hx] at hcl hle HQ
      have hxm : x ≤ m := by rw [← HM.out]; exact HQ.out
      have hw1 : IntKind.i64.wrap ((n : Int) - 1) = ((n - 1 : Nat) : Int) := by
        rw [IntKind.wrap_i64]; omega
      clear hc hx hplc hR hgv hgu hv hn hm hne hE
      go_enter Tryz.func90, Tryz.ntmps90
      have HBS := Lib.hid (show B ≤ (w.alloc (.cells #[.int .i64 (a : Nat)] 3)).heap.size by simp; omega)
      go_wp2_with ((at_builtin; refine wpList_append_any _ rfl (.tmp 22) (.tmp 24) _ rfl B 3 i0 (.int .i64 0) 1 8 Tryz.underlying143 hi0 hz0 hzz1 hzz2 rfl (by decide) (.slice (some ⟨g, 0, none⟩) n cv) n (plcs row) rfl (World.ownsRow.alloc HOW.out _) _ (some ⟨w.heap.size, 0, none⟩) 1 1 [.int .i64 ((a : Nat))] rfl (Reads.of_own (World.ownsRow_lit (base := 0) (e := 3) (size := 1) w #[.int .i64 ((a : Nat))] 1 (Nat.zero_le _) (by decide) rfl)) (plc_one _) (by simp only [maxLen]; omega) (by omega) HBS.out ?_; intro v3 w3 hown3 hg3 hat3))
      have r1 := Rch.push (x := a) (Rch.start HV.out) hg3 (by rw [HN.out]; exact hown3) hat3
      rw [← ndUp_start] at r1
      have HR1 := Lib.hid r1
      clear hown3 hg3 hat3 r1 HBS
      go_loopw [0, 2] (fun rv av wr => ∃ (q : Nat) (vr : Value), rv = vr ∧ av = .int .i64 (q : Nat) ∧ a ≤ q ∧ q ≤ E ∧ Hid (Rch B w (.slice (some ⟨g, 0, none⟩) n cv) wr vr (ndUp row a q))) (fun _ av _ => m - (intOf av).toNat)
      case atStart => exact ⟨a, _, rfl, rfl, Nat.le_refl _, HE1.out, HR1.out⟩
      case round =>
        obtain ⟨q, vr, rfl, rfl, hq1, hq2, HI⟩ := hrel
        have hln := ndUp_length row a q
        rw [HN.out] at hln
        have hqm : q ≤ m := Nat.le_trans hq2 HEM.out
        have IT := Lib.hid (HU.out.below (HI.out.low HV.out hB))
        by_cases hlt : q < E
        · obtain ⟨hq3, hq4, hq5⟩ := ndEnd_inner (is := is) (q - a) a q (by omega) (by rw [HE.out]; exact hlt)
          have hq6 : q < m := by rw [← HM.out]; exact hq3
          obtain ⟨A2, c2, hv2, hc2, hx2⟩ := IT.out
          injection hv2 with e1 e2 e3
          subst e1 e3
          obtain ⟨b, off, rfl, _, hat⟩ := hx2 (by intro h; rw [h] at hq3; exact absurd hq3 (Nat.not_lt_zero _))
          obtain ⟨_, _, _, _, y4⟩ := hat.five hq3
          rw [hq4] at y4
          obtain ⟨ln, hlen⟩ : ∃ ln, (ndUp row a q).length = ln := ⟨_, rfl⟩
          have hl1000 : ln ≤ 2001 := by omega
          have how : wr.ownsRow B 3 1 u0 ln (plcs (ndUp row a q)) := by have := HI.out.new; unfold PlNew at this; rwa [hlen] at this
          have HOW2 := Lib.hid how; have HL := Lib.hid hlen
          have HBS := Lib.hid (show B ≤ (wr.alloc (.cells #[.int .i64 ((q : Int) + 1)] 3)).heap.size by have := (HI.out.low HV.out hB).size; simp; omega)
          clear hq3 hq4 hq5 hx2 hat hlen how hln e2 IT
          go_wp2_with ((at_builtin; refine wpList_append_any _ rfl (.tmp 39) (.tmp 41) _ rfl B 3 i0 (.int .i64 0) 1 8 Tryz.underlying143 hi0 hz0 hzz1 hzz2 rfl (by decide) u0 ln (plcs (ndUp row a q)) rfl (World.ownsRow.alloc HOW2.out _) _ (some ⟨wr.heap.size, 0, none⟩) 1 1 [.int .i64 ((q : Int) + 1)] rfl (Reads.of_own (World.ownsRow_lit (base := 0) (e := 3) (size := 1) wr #[.int .i64 ((q : Int) + 1)] 1 (Nat.zero_le _) (by decide) rfl)) (plc_one _) (by simp only [maxLen]; omega) (by omega) HBS.out ?_; intro v3 w3 hown3 hg3 hat3))
          have r1 := Rch.push (x := q + 1) HI.out hg3 (by rw [HL.out]; exact hown3) hat3
          rw [← ndUp_next row hq1] at r1
          have HR2 := Lib.hid r1
          clear hown3 hg3 hat3 r1 HBS
          go_wp2
          go_roundw
          case rel => exact ⟨q + 1, _, rfl, by go_num, by omega, by omega, HR2.out⟩
          case measure => simp [intOf]; omega
        · obtain rfl : E = q := by omega
          have HQ2 := Lib.hid hq1
          by_cases hqe : E = m
          · subst hqe
            clear hln hlt
            go_wp2
            go_ret
            exact ⟨_, rfl, HR.out ▸ HI.out⟩
          · have hq6 : E < m := by omega
            have hq3 : E < is.length := by rw [HM.out]; exact hq6
            obtain ⟨A2, c2, hv2, hc2, hx2⟩ := IT.out
            injection hv2 with e1 e2 e3
            subst e1 e3
            obtain ⟨b, off, rfl, _, hat⟩ := hx2 (by intro h; rw [h] at hq3; exact absurd hq3 (Nat.not_lt_zero _))
            obtain ⟨_, _, _, _, y4⟩ := hat.five hq3
            have hst : (is.getD E NI.zero).star = false := by
              cases hs : (is.getD E NI.zero).star with
              | false => rfl
              | true =>
                have h1 := ndEnd_star hq3 hs
                have h2 := ndEnd_ge is (E + 1)
                have h3 := ndEnd_mid (is := is) hq1 (by rw [HE.out]; exact Nat.le_refl _)
                have h4 := HE.out
                omega
            rw [hst] at y4
            clear hln hlt hq3 hx2 hat hst e2 IT
            go_wp2
            go_ret
            exact ⟨_, rfl, HR.out ▸ HI.out⟩

    · obtain rfl : n = 0 := by omega
      clear hc hplc hR hgv hgu hv hn hm hE
      go_enter Tryz.func90, Tryz.ntmps90
      have HBS := Lib.hid (show B ≤ (w.alloc (.cells #[.int .i64 (a : Nat)] 3)).heap.size by simp; omega)
      go_wp2_with ((at_builtin; refine wpList_append_any _ rfl (.tmp 22) (.tmp 24) _ rfl B 3 i0 (.int .i64 0) 1 8 Tryz.underlying143 hi0 hz0 hzz1 hzz2 rfl (by decide) (.slice AV 0 cv) 0 (plcs row) rfl (World.ownsRow.alloc HOW.out _) _ (some ⟨w.heap.size, 0, none⟩) 1 1 [.int .i64 ((a : Nat))] rfl (Reads.of_own (World.ownsRow_lit (base := 0) (e := 3) (size := 1) w #[.int .i64 ((a : Nat))] 1 (Nat.zero_le _) (by decide) rfl)) (plc_one _) (by simp only [maxLen]; omega) (by omega) HBS.out ?_; intro v3 w3 hown3 hg3 hat3))
      have r1 := Rch.push (x := a) (Rch.start HV.out) hg3 (by rw [HN.out]; exact hown3) hat3
      rw [← ndUp_start] at r1
      have HR1 := Lib.hid r1
      clear hown3 hg3 hat3 r1 HBS
      go_loopw [0, 2] (fun rv av wr => ∃ (q : Nat) (vr : Value), rv = vr ∧ av = .int .i64 (q : Nat) ∧ a ≤ q ∧ q ≤ E ∧ Hid (Rch B w (.slice AV 0 cv) wr vr (ndUp row a q))) (fun _ av _ => m - (intOf av).toNat)
      case atStart => exact ⟨a, _, rfl, rfl, Nat.le_refl _, HE1.out, HR1.out⟩
      case round =>
        obtain ⟨q, vr, rfl, rfl, hq1, hq2, HI⟩ := hrel
        have hln := ndUp_length row a q
        rw [HN.out] at hln
        have hqm : q ≤ m := Nat.le_trans hq2 HEM.out
        have IT := Lib.hid (HU.out.below (HI.out.low HV.out hB))
        by_cases hlt : q < E
        · obtain ⟨hq3, hq4, hq5⟩ := ndEnd_inner (is := is) (q - a) a q (by omega) (by rw [HE.out]; exact hlt)
          have hq6 : q < m := by rw [← HM.out]; exact hq3
          obtain ⟨A2, c2, hv2, hc2, hx2⟩ := IT.out
          injection hv2 with e1 e2 e3
          subst e1 e3
          obtain ⟨b, off, rfl, _, hat⟩ := hx2 (by intro h; rw [h] at hq3; exact absurd hq3 (Nat.not_lt_zero _))
          obtain ⟨_, _, _, _, y4⟩ := hat.five hq3
          rw [hq4] at y4
          obtain ⟨ln, hlen⟩ : ∃ ln, (ndUp row a q).length = ln := ⟨_, rfl⟩
          have hl1000 : ln ≤ 2001 := by omega
          have how : wr.ownsRow B 3 1 u0 ln (plcs (ndUp row a q)) := by have := HI.out.new; unfold PlNew at this; rwa [hlen] at this
          have HOW2 := Lib.hid how; have HL := Lib.hid hlen
          have HBS := Lib.hid (show B ≤ (wr.alloc (.cells #[.int .i64 ((q : Int) + 1)] 3)).heap.size by have := (HI.out.low HV.out hB).size; simp; omega)
          clear hq3 hq4 hq5 hx2 hat hlen how hln e2 IT
          go_wp2_with ((at_builtin; refine wpList_append_any _ rfl (.tmp 39) (.tmp 41) _ rfl B 3 i0 (.int .i64 0) 1 8 Tryz.underlying143 hi0 hz0 hzz1 hzz2 rfl (by decide) u0 ln (plcs (ndUp row a q)) rfl (World.ownsRow.alloc HOW2.out _) _ (some ⟨wr.heap.size, 0, none⟩) 1 1 [.int .i64 ((q : Int) + 1)] rfl (Reads.of_own (World.ownsRow_lit (base := 0) (e := 3) (size := 1) wr #[.int .i64 ((q : Int) + 1)] 1 (Nat.zero_le _) (by decide) rfl)) (plc_one _) (by simp only [maxLen]; omega) (by omega) HBS.out ?_; intro v3 w3 hown3 hg3 hat3))
          have r1 := Rch.push (x := q + 1) HI.out hg3 (by rw [HL.out]; exact hown3) hat3
          rw [← ndUp_next row hq1] at r1
          have HR2 := Lib.hid r1
          clear hown3 hg3 hat3 r1 HBS
          go_wp2
          go_roundw
          case rel => exact ⟨q + 1, _, rfl, by go_num, by omega, by omega, HR2.out⟩
          case measure => simp [intOf]; omega
        · obtain rfl : E = q := by omega
          have HQ2 := Lib.hid hq1
          by_cases hqe : E = m
          · subst hqe
            clear hln hlt
            go_wp2
            go_ret
            exact ⟨_, rfl, HR.out ▸ HI.out⟩
          · have hq6 : E < m := by omega
            have hq3 : E < is.length := by rw [HM.out]; exact hq6
            obtain ⟨A2, c2, hv2, hc2, hx2⟩ := IT.out
            injection hv2 with e1 e2 e3
            subst e1 e3
            obtain ⟨b, off, rfl, _, hat⟩ := hx2 (by intro h; rw [h] at hq3; exact absurd hq3 (Nat.not_lt_zero _))
            obtain ⟨_, _, _, _, y4⟩ := hat.five hq3
            have hst : (is.getD E NI.zero).star = false := by
              cases hs : (is.getD E NI.zero).star with
              | false => rfl
              | true =>
                have h1 := ndEnd_star hq3 hs
                have h2 := ndEnd_ge is (E + 1)
                have h3 := ndEnd_mid (is := is) hq1 (by rw [HE.out]; exact Nat.le_refl _)
                have h4 := HE.out
                omega
            rw [hst] at y4
            clear hln hlt hq3 hx2 hat hst e2 IT
            go_wp2
            go_ret
            exact ⟨_, rfl, HR.out ▸ HI.out⟩

end Go.Proofs.YtodlgbihdehmbaaGreatDoor.Nd.NP
/-
  Contracts of the program's own functions of layer 9: Fits, through.
-/
set_option linter.unusedSimpArgs false
set_option linter.unusedVariables false
namespace Go.Proofs.YtodlgbihdehmbaaGreatDoor.Nd.NP
open Go.RowKit
set_option maxRecDepth 100000 in
set_option maxHeartbeats 1000000 in
theorem fits_c (i : NI) (hi : i.ok) (b : Nat) (hb : b < 256) (w : World) :
    Calls Tryz.prog 125 #[.agg #[.int .u64 (i.s0 : Nat), .int .u64 (i.s1 : Nat), .int .u64 (i.s2 : Nat), .int .u64 (i.s3 : Nat), .bool i.star], .int .u8 (b : Nat)] w fun e w' => e = .returned (.bool (ndFits i b)) ∧ Below w.heap.size w w' := by
  obtain ⟨d, hd⟩ : ∃ d, ndFits i b = d := ⟨_, rfl⟩
  rw [hd]
  obtain ⟨s0, s1, s2, s3, st⟩ := i
  have h6 : b / 64 = 0 ∨ b / 64 = 1 ∨ b / 64 = 2 ∨ b / 64 = 3 := by omega
  rcases h6 with h | h | h | h
  · have e : ndFits ⟨s0, s1, s2, s3, st⟩ b = s0.testBit (b % 64) := by unfold ndFits; rw [h]; rfl
    rw [e, ← fit_bit s0 (b % 64) hi.1] at hd
    have HD := Lib.hid hd
    clear hd e hi
    go_enter Tryz.func125, Tryz.ntmps125
    go_wp2
    go_ret
    exact ⟨by rw [HD.out]; rfl, (Below.refl _ _).alloc (Nat.le_refl _) _⟩
  · have e : ndFits ⟨s0, s1, s2, s3, st⟩ b = s1.testBit (b % 64) := by unfold ndFits; rw [h]; rfl
    rw [e, ← fit_bit s1 (b % 64) hi.2.1] at hd
    have HD := Lib.hid hd
    clear hd e hi
    go_enter Tryz.func125, Tryz.ntmps125
    go_wp2
    go_ret
    exact ⟨by rw [HD.out]; rfl, (Below.refl _ _).alloc (Nat.le_refl _) _⟩
  · have e : ndFits ⟨s0, s1, s2, s3, st⟩ b = s2.testBit (b % 64) := by unfold ndFits; rw [h]; rfl
    rw [e, ← fit_bit s2 (b % 64) hi.2.2.1] at hd
    have HD := Lib.hid hd
    clear hd e hi
    go_enter Tryz.func125, Tryz.ntmps125
    go_wp2
    go_ret
    exact ⟨by rw [HD.out]; rfl, (Below.refl _ _).alloc (Nat.le_refl _) _⟩
  · have e : ndFits ⟨s0, s1, s2, s3, st⟩ b = s3.testBit (b % 64) := by unfold ndFits; rw [h]; rfl
    rw [e, ← fit_bit s3 (b % 64) hi.2.2.2] at hd
    have HD := Lib.hid hd
    clear hd e hi
    go_enter Tryz.func125, Tryz.ntmps125
    go_wp2
    go_ret
    exact ⟨by rw [HD.out]; rfl, (Below.refl _ _).alloc (Nat.le_refl _) _⟩
set_option maxRecDepth 100000 in
set_option maxHeartbeats 1000000 in
theorem through_c (B : Nat) (v u : Value) (row : List Nat) (is : List NI) (hr : row.length ≤ 2001) (hi : is.length ≤ 1000) (w : World) (hv : PlNew B w v row) (hu : ItLow B w u is) :
    Calls Tryz.prog 91 #[v, u] w fun e w' => e = .returned (.bool (ndThrough is row)) ∧ w' = w := by
  have HV := Lib.hid hv
  obtain ⟨AV, cv, hve, hcv, hgv⟩ := hv.form
  obtain ⟨AU, cu, hue, hcu, hgu⟩ := hu
  subst hve hue
  obtain ⟨d, hd⟩ : ∃ d, ndThrough is row = d := ⟨_, rfl⟩
  rw [hd]
  obtain ⟨n, hn⟩ : ∃ n, row.length = n := ⟨_, rfl⟩
  obtain ⟨m, hm⟩ : ∃ m, is.length = m := ⟨_, rfl⟩
  rw [hn] at HV hr hcv ⊢
  rw [hm] at hi hcu ⊢
  by_cases h0 : 0 < n
  · have hne : row ≠ [] := by intro e; rw [e] at hn; simp at hn; omega
    obtain ⟨g, rfl⟩ := hgv hne
    have hcl := (HV.out).cellAt (k := n - 1) (by omega)
    obtain ⟨x, hx⟩ : ∃ x, row.getD (n - 1) 0 = x := ⟨_, rfl⟩
    rw [hx] at hcl
    have hw1 : IntKind.i64.wrap ((n : Int) - 1) = ((n - 1 : Nat) : Int) := by
      rw [IntKind.wrap_i64]; omega
    have he : d = decide ((x : Int) = (m : Int)) := by
      rw [← hd]
      unfold ndThrough
      rw [decide_eq_true hne, Bool.true_and, hn, hx, hm, decide_eq_decide]
      omega
    have HE := Lib.hid he
    clear hd he hn hm hx hgv hgu hne hv
    go_enter Tryz.func91, Tryz.ntmps91
    by_cases hxm : (x : Int) = (m : Int)
    · go_wp2
      go_ret
      exact ⟨by rw [HE.out, decide_eq_true hxm]; rfl, rfl⟩
    · go_wp2
      go_ret
      exact ⟨by rw [HE.out, decide_eq_false hxm]; exact congrArg (fun z => Ending.returned (.bool z)) (beq_false_of_ne hxm), rfl⟩
  · obtain rfl : n = 0 := by omega
    have he : d = false := by
      rw [← hd]
      unfold ndThrough
      rw [List.eq_nil_of_length_eq_zero hn]
      rfl
    subst he
    clear hd hn hm hgv hgu hv
    go_enter Tryz.func91, Tryz.ntmps91
    go_wp2
    go_ret
    exact ⟨rfl, rfl⟩
end Go.Proofs.YtodlgbihdehmbaaGreatDoor.Nd.NP
/-
  Contracts of the program's own functions of layer 9: step.
-/
set_option linter.unusedSimpArgs false
set_option linter.unusedVariables false
namespace Go.Proofs.YtodlgbihdehmbaaGreatDoor.Nd.NP
open Go.RowKit
/-- What step's loop keeps: behind k places of the row. -/
structure StpI (is : List NI) (b : Nat) (row next : List Nat) (k d : Nat) (L : List Nat) : Prop where
  eq : L = ndGo is b next (row.take k)
  inv : RowI is L d
  top : ∀ q ∈ L, q ≤ is.length
  low : ∀ a ∈ row.drop k, d ≤ a
theorem RowI.len {is : List NI} {L : List Nat} {d : Nat} (h : RowI is L d) (ht : ∀ q ∈ L, q ≤ is.length) : L.length ≤ is.length + 1 := by
  rcases rise_length L 0 h.rise (fun q hq => ⟨Nat.zero_le _, ht q hq⟩) with h | rfl
  · omega
  · exact Nat.zero_le _
theorem StpI.start {is : List NI} {b : Nat} {row next : List Nat} (hn : RowI is next 0) (ht : ∀ q ∈ next, q ≤ is.length) : StpI is b row next 0 0 next := ⟨by rw [List.take_zero]; rfl, hn, ht, fun a _ => Nat.zero_le _⟩
theorem StpI.next {is : List NI} {b : Nat} {row next L : List Nat} {k d : Nat} (h : StpI is b row next k d L) (hr : row.Pairwise (· < ·)) (hb : ∀ a ∈ row, a ≤ is.length) (hk : k < row.length) :
    ∃ d', StpI is b row next (k + 1) d' (ndPut is b L (row.getD k 0)) := by
  obtain ⟨x, hx⟩ : ∃ x, row.getD k 0 = x := ⟨_, rfl⟩
  have e : row[k] = x := by rw [← hx, List.getD_eq_getElem?_getD, List.getElem?_eq_getElem hk]; rfl
  have ed : row.drop k = x :: row.drop (k + 1) := by rw [← e]; exact List.drop_eq_getElem_cons hk
  have et : row.take (k + 1) = row.take k ++ [x] := by rw [List.take_add_one, List.getElem?_eq_getElem hk, e]; rfl
  have hdx := h.low x (by rw [ed]; exact List.mem_cons_self)
  have hp : (x :: row.drop (k + 1)).Pairwise (· < ·) := by rw [← ed]; exact hr.sublist (List.drop_sublist _ _)
  rw [List.pairwise_cons] at hp
  have heq : ndPut is b L x = ndGo is b next (row.take (k + 1)) := by
    rw [et, h.eq]
    unfold ndGo
    rw [List.foldl_append]
    rfl
  have hxl : x ≤ is.length := hb x (by rw [← e]; exact List.getElem_mem hk)
  rw [hx]
  by_cases hc : x = is.length ∨ ndFits (is.getD x NI.zero) b = false
  · have e2 : ndPut is b L x = L := if_pos hc
    exact ⟨d, heq, by rw [e2]; exact h.inv, fun q hq => h.top q (by rw [e2] at hq; exact hq), fun a ha => h.low a (by rw [ed]; exact List.mem_cons_of_mem _ ha)⟩
  · have e2 : ndPut is b L x = ndReach is L (ndDest is x) := if_neg hc
    have hd := dest_le is x
    have hlt : x < is.length := by
      rcases Nat.lt_or_ge x is.length with h | h
      · exact h
      · exact absurd (.inl (by omega)) hc
    have hj : RowI is L (ndDest is x) := h.inv.mono (by omega)
    refine ⟨ndDest is x, heq, by rw [e2]; exact reach_rise hj, fun q hq => ?_, fun a ha => by have := hp.1 a ha; omega⟩
    rw [e2, reach_mem hj] at hq
    rcases hq with hq | hq
    · exact h.top q hq
    · have := ndEnd_le (is := is) (a := ndDest is x) (by omega)
      omega
theorem item_form (i : NI) : ∃ s0 s1 s2 s3 st, i = ⟨s0, s1, s2, s3, st⟩ := ⟨i.s0, i.s1, i.s2, i.s3, i.star, rfl⟩
set_option maxRecDepth 100000 in
set_option maxHeartbeats 2000000 in
theorem step_c (B : Nat) (v x u : Value) (next row : List Nat) (is : List NI) (b : Nat) (hb : b < 256) (hi : is.length ≤ 1000) (hok : ∀ i ∈ is, i.ok) (hn : RowI is next 0) (hnt : ∀ q ∈ next, q ≤ is.length)
    (hr : row.Pairwise (· < ·)) (hrt : ∀ a ∈ row, a ≤ is.length) (w : World) (hB : B ≤ w.heap.size) (hv : PlNew B w v next) (hx : PlNew B w x row) (hap : Apart v x) (hu : ItLow B w u is) :
    Calls Tryz.prog 92 #[v, x, u, .int .u8 (b : Nat)] w fun e w' => ∃ v', e = .returned v' ∧ Rch B w v w' v' (ndGo is b next row) := by
  have hrl : row.length ≤ is.length + 1 := by
    rcases rise_length row 0 hr (fun q hq => ⟨Nat.zero_le _, hrt q hq⟩) with h | rfl
    · omega
    · exact Nat.zero_le _
  have HV := Lib.hid hv; have HX := Lib.hid hx; have HU := Lib.hid hu; have HA := Lib.hid hap; have HOK := Lib.hid hok
  have HR := Lib.hid hr; have HRT := Lib.hid hrt
  have H0 := Lib.hid (StpI.start (b := b) (row := row) hn hnt)
  obtain ⟨AX, cx, hxe, hcx, hgx⟩ := hx.form
  obtain ⟨AU, cu, hue, hcu, hgu⟩ := hu
  obtain ⟨n, hnn⟩ : ∃ n, row.length = n := ⟨_, rfl⟩
  obtain ⟨m, hm⟩ : ∃ m, is.length = m := ⟨_, rfl⟩
  have HN := Lib.hid hnn; have HM := Lib.hid hm; have HGX := Lib.hid hgx
  have HS0 := Lib.hid (Rch.start hv)
  subst hxe hue
  rw [hnn] at hrl hcx HX HA ⊢
  rw [hm] at hi hcu hrl HU ⊢
  clear hv hx hap hn hnt hr hrt hok hgx hgu hnn hm
  go_enter Tryz.func92, Tryz.ntmps92
  go_wp2
  go_loopw [0, 10, 13] (fun rv _ kv wr => ∃ (k d : Nat) (L : List Nat) (vr : Value), rv = vr ∧ kv = .int .i64 (k : Nat) ∧ k ≤ n ∧ Hid (StpI is b row next k d L) ∧ Hid (Rch B w v wr vr L)) (fun _ _ kv _ => n - (intOf kv).toNat)
  case atStart => exact ⟨0, 0, next, _, rfl, rfl, Nat.zero_le _, H0.out, HS0.out⟩
  case round =>
    obtain ⟨k, d, L, vr, rfl, rfl, hk, HI, HC⟩ := hrel
    have hlow := HC.out.low HV.out hB
    have IT := Lib.hid (HU.out.below hlow)
    obtain ⟨hx2, ha2⟩ := HC.out.other HX.out HA.out
    have hLl := RowI.len HI.out.inv HI.out.top
    rw [HM.out] at hLl
    by_cases hlt : k < n
    · obtain ⟨d', hn'⟩ := HI.out.next HR.out HRT.out (by rw [HN.out]; exact hlt)
      have hne : row ≠ [] := by intro e; have := HN.out; rw [e] at this; simp at this; omega
      obtain ⟨g, rfl⟩ := HGX.out hne
      have hcl := hx2.cellAt (k := k) (by rw [HN.out]; exact hlt)
      obtain ⟨y, hy⟩ : ∃ y, row.getD k 0 = y := ⟨_, rfl⟩
      have hym : y ≤ m := by
        rw [← HM.out, ← hy, List.getD_eq_getElem?_getD, List.getElem?_eq_getElem (by rw [HN.out]; exact hlt)]
        exact HRT.out _ (List.getElem_mem _)
      rw [hy] at hcl hn'
      have HNX := Lib.hid hn'
      clear hn' hy hne hx2
      obtain ⟨ln, hln⟩ : ∃ ln, L.length = ln := ⟨_, rfl⟩
      rw [hln] at hLl
      by_cases hye : y = m
      · have e2 : ndPut is b L y = L := if_pos (.inl (by rw [hye, HM.out]))
        rw [e2] at HNX
        clear e2 hlow ha2
        go_wp2
        go_roundw
        case rel => exact ⟨k + 1, d', L, _, rfl, by go_num, by omega, HNX.out, HC.out⟩
        case measure => simp [intOf]; omega
      · have hym2 : y < m := by omega
        have hy3 : y < is.length := by rw [HM.out]; exact hym2
        obtain ⟨A2, c2, hv2, hc2, hx2⟩ := IT.out
        injection hv2 with e1 e2 e3
        subst e1 e3
        obtain ⟨bb, off, rfl, _, hat⟩ := hx2 (by intro h; rw [h] at hy3; exact absurd hy3 (Nat.not_lt_zero _))
        obtain ⟨y0, y1, y2, y3, y4⟩ := hat.five hy3
        obtain ⟨it, hit⟩ : ∃ it, is.getD y NI.zero = it := ⟨_, rfl⟩
        have hok : it.ok := HOK.out it (by rw [← hit, List.getD_eq_getElem?_getD, List.getElem?_eq_getElem hy3]; exact List.getElem_mem _)
        have FC := Lib.hid (fun w => fits_c it hok b hb w)
        have HIT := Lib.hid hit
        rw [hit] at y0 y1 y2 y3 y4
        obtain ⟨s0, s1, s2, s3, st, rfl⟩ := item_form it
        clear hit hok hat hx2 e2 hlow IT
        cases hf : ndFits ⟨s0, s1, s2, s3, st⟩ b with
        | false =>
          have e2 : ndPut is b L y = L := if_pos (.inr (by rw [HIT.out]; exact hf))
          rw [e2] at HNX
          rw [hf] at FC
          clear e2 hf
          go_wp2_with fail
          refine (FC.out _).mono ?_; rintro _ w2 ⟨rfl, hb2⟩
          have HC2 := Lib.hid (HC.out.below hb2)
          clear hb2
          go_wp2
          go_roundw
          case rel => exact ⟨k + 1, d', L, _, rfl, by go_num, by omega, HNX.out, HC2.out⟩
          case measure => simp [intOf]; omega
        | true =>
          cases st with
          | true =>
            have e2 : ndPut is b L y = ndReach is L y := (if_neg (by rw [HIT.out, hf, HM.out]; simp; omega)).trans (by unfold ndDest; rw [HIT.out]; rfl)
            rw [e2] at HNX
            rw [hf] at FC
            have RC := Lib.hid (fun (w2 : World) (h : Rch B w v w2 u0 L) => reach_c B u0 (.slice (some ⟨bb, off, none⟩) m cu) L is y (by omega) (by rw [HM.out]; exact hi) (by rw [HM.out]; omega) HI.out.top w2 (Nat.le_trans hB h.keep.size) h.new (HU.out.below (h.low HV.out hB)))
            clear e2 hf
            go_wp2_with fail
            refine (FC.out _).mono ?_; rintro _ w2 ⟨rfl, hb2⟩
            have HC2 := Lib.hid (HC.out.below hb2)
            have y5 := cell_keep hb2 y4
            clear hb2 y0 y1 y2 y3 y4
            go_wp2_with fail
            refine (RC.out _ HC2.out).mono ?_; rintro _ w3 ⟨v3, rfl, hr3⟩
            have HC3 := Lib.hid (HC2.out.next hr3)
            clear hr3
            go_wp2
            go_roundw
            case rel => exact ⟨k + 1, d', _, _, rfl, by go_num, by omega, HNX.out, HC3.out⟩
            case measure => simp [intOf]; omega
          | false =>
            have e2 : ndPut is b L y = ndReach is L (y + 1) := (if_neg (by rw [HIT.out, hf, HM.out]; simp; omega)).trans (by unfold ndDest; rw [HIT.out]; rfl)
            rw [e2] at HNX
            rw [hf] at FC
            have RC := Lib.hid (fun (w2 : World) (h : Rch B w v w2 u0 L) => reach_c B u0 (.slice (some ⟨bb, off, none⟩) m cu) L is (y + 1) (by omega) (by rw [HM.out]; exact hi) (by rw [HM.out]; omega) HI.out.top w2 (Nat.le_trans hB h.keep.size) h.new (HU.out.below (h.low HV.out hB)))
            clear e2 hf
            go_wp2_with fail
            refine (FC.out _).mono ?_; rintro _ w2 ⟨rfl, hb2⟩
            have HC2 := Lib.hid (HC.out.below hb2)
            have y5 := cell_keep hb2 y4
            clear hb2 y0 y1 y2 y3 y4
            go_wp2_with fail
            refine (RC.out _ HC2.out).mono ?_; rintro _ w3 ⟨v3, rfl, hr3⟩
            have HC3 := Lib.hid (HC2.out.next hr3)
            clear hr3
            go_wp2
            go_roundw
            case rel => exact ⟨k + 1, d', _, _, rfl, by go_num, by omega, HNX.out, HC3.out⟩
            case measure => simp [intOf]; omega
    · obtain rfl : k = n := by omega
      have hge := HI.out.eq
      rw [List.take_of_length_le (by rw [HN.out]; exact Nat.le_refl _)] at hge
      have HGE := Lib.hid hge
      clear hge hlow ha2 hx2
      go_wp2
      go_ret
      exact ⟨_, rfl, HGE.out ▸ HC.out⟩
end Go.Proofs.YtodlgbihdehmbaaGreatDoor.Nd.NP
/-
  Contracts of the program's own functions of layer 9: Found.
-/
set_option linter.unusedSimpArgs false
set_option linter.unusedVariables false
namespace Go.Proofs.YtodlgbihdehmbaaGreatDoor.Nd.NP
open Go.RowKit
theorem itLow_mono {B B' : Nat} {w : World} {v : Value} {l : List NI} (h : ItLow B w v l) (hB : B ≤ B') : ItLow B' w v l := by
  obtain ⟨A, cap, hv, hc, hx⟩ := h
  refine ⟨A, cap, hv, hc, fun hn => ?_⟩
  obtain ⟨b, off, hA, hlt, hf⟩ := hx hn
  exact ⟨b, off, hA, by omega, hf⟩
/-- A world of the call: the needle's cells stand. -/
structure FndW (w : World) (st fin : Bool) (u : Value) (is : List NI) (wr : World) : Prop where
  low : Below w.heap.size w wr
  size : w.heap.size + 1 ≤ wr.heap.size
  b0 : wr.cell? ⟨w.heap.size, 0, none⟩ = some (.bool st)
  b1 : wr.cell? ⟨w.heap.size, 1, none⟩ = some (.bool fin)
  b2 : wr.cell? ⟨w.heap.size, 2, none⟩ = some u
  it : ItLow (w.heap.size + 1) wr u is
theorem FndW.next {w : World} {st fin : Bool} {u : Value} {is : List NI} {wr w' : World} (h : FndW w st fin u is wr) (hb : Below (w.heap.size + 1) wr w') : FndW w st fin u is w' :=
  ⟨h.low.trans (hb.mono (Nat.le_succ _)), Nat.le_trans h.size hb.size, (hb.cell (p := ⟨_, _, _⟩) (Nat.lt_succ_self _)).trans h.b0, (hb.cell (p := ⟨_, _, _⟩) (Nat.lt_succ_self _)).trans h.b1, (hb.cell (p := ⟨_, _, _⟩) (Nat.lt_succ_self _)).trans h.b2, h.it.below hb⟩
theorem FndW.first {w : World} {st fin : Bool} {u : Value} {is : List NI} (hu : ItOut w u is) (T : TypeId) : FndW w st fin u is (w.alloc (.cells #[.bool st, .bool fin, u] T)) := by
  have hb : Below w.heap.size w (w.alloc (.cells #[.bool st, .bool fin, u] T)) := (Below.refl _ _).alloc (Nat.le_refl _) _
  exact ⟨hb, by simp, by simp, by simp, by simp, itLow_mono ((hu.low (Nat.le_refl _)).below hb) (Nat.le_succ _)⟩
/-- The rows of Found's loop. -/
structure FndI (B : Nat) (st fin : Bool) (is : List NI) (t : List Nat) (k : Nat) (wr : World) (vr vs : Value) : Prop where
  row : PlNew B wr vr (ndRow is st t k)
  spare : ∃ l, PlNew B wr vs l
  apart : Apart vr vs
  no : fin = false → ∀ j, j < k → ndThrough is (ndRow is st t j) = false
theorem apart_nil (v : Value) : Apart v (.slice none 0 0) := fun g _ h => by cases h
theorem rowR (is : List NI) (st : Bool) (t : List Nat) (k : Nat) : (ndRow is st t k).Pairwise (· < ·) := (ndRow_is _ _ _ k).1
theorem rowT (is : List NI) (st : Bool) (t : List Nat) (k : Nat) : ∀ a ∈ ndRow is st t k, a ≤ is.length := fun a h => ndRow_le h
theorem rowL (is : List NI) (st : Bool) (t : List Nat) (k : Nat) : (ndRow is st t k).length ≤ is.length + 1 := by
  rcases rise_length _ 0 (rowR is st t k) (fun q hq => ⟨Nat.zero_le _, rowT is st t k q hq⟩) with h | h
  · omega
  · rw [h]; exact Nat.zero_le _
theorem bs_get {s : ByteArray} {k : Nat} (h : k < s.size) : ∃ c, (bs s).getD k 0 = c ∧ (s[k]'h).toNat = c ∧ c < 256 := ⟨_, rfl, at_byte h, by have := byte_le s k; unfold byteAt at this; omega⟩
theorem first_inv (is : List NI) : RowI is (ndReach is [] 0) 0 := reach_rise (RowI.nil is 0)
theorem first_top (is : List NI) : ∀ q ∈ ndReach is [] 0, q ≤ is.length := fun q hq => by
  have := row_first.1 hq
  have := ndEnd_le (Nat.zero_le is.length)
  omega
theorem rch_first {B : Nat} {w w' : World} {v' : Value} {l : List Nat} (h : Rch B w (.slice none 0 0) w' v' l) (hB : B ≤ w.heap.size) : Below B w w' := h.low (PlNew.nil B w) hB
theorem FndW.drew {w : World} {st fin : Bool} {u : Value} {is : List NI} {wr : World} (h : FndW w st fin u is wr) : FndW w st fin u is wr.drew := ⟨h.low.drew, h.size, h.b0, h.b1, h.b2, h.it⟩
theorem apart_cut {v : Value} {A : Option Addr} {n c : Nat} (h : Apart v (.slice A n c)) : Apart (.slice A 0 c) v := fun g h1 h2 => by
  cases A with
  | none => cases h1
  | some a => exact h g h2 h1
theorem FndI.next {B : Nat} {st fin : Bool} {is : List NI} {t : List Nat} {k b : Nat} {wr w' : World} {vr vs v v' : Value} {next : List Nat} (hI : FndI B st fin is t k wr vr vs) (hb : t.getD k 0 = b) (hn : next = if st = true then [] else ndReach is [] 0)
    {w4 : World} (hrow : PlNew B w4 vr (ndRow is st t k)) (ha : Apart v vr) (hr : Rch B w4 v w' v' (ndGo is b next (ndRow is st t k))) (hno : fin = false → ndThrough is (ndRow is st t k) = false) : FndI B st fin is t (k + 1) w' v' vr := by
  obtain ⟨h1, h2⟩ := hr.other hrow ha
  refine ⟨?_, ⟨_, h1⟩, h2, fun hf j hj => ?_⟩
  · have e : ndRow is st t (k + 1) = ndGo is b next (ndRow is st t k) := by rw [hn, ← hb]; rfl
    rw [e]
    exact hr.new
  · rcases Nat.lt_or_ge j k with h | h
    · exact hI.no hf j h
    · obtain rfl : j = k := by omega
      exact hno hf
theorem found_mid {st : Bool} {is : List NI} {t : List Nat} {k : Nat} (hk : k ≤ t.length) (h : ndThrough is (ndRow is st t k) = true) : ndFound ⟨st, false, is⟩ t = true :=
  (ndFound_any rfl).2 ⟨k, hk, (through_row is st t k).symm.trans h⟩
theorem found_end {B : Nat} {st fin : Bool} {is : List NI} {t : List Nat} {wr : World} {vr vs : Value} (h : FndI B st fin is t t.length wr vr vs) : ndThrough is (ndRow is st t t.length) = ndFound ⟨st, fin, is⟩ t := by
  cases fin with
  | true => rw [ndFound_fin rfl]; exact through_row is st t _
  | false =>
    rw [Bool.eq_iff_iff]
    constructor
    · exact found_mid (Nat.le_refl _)
    · intro h1
      obtain ⟨k, h2, h3⟩ := (ndFound_any rfl).1 h1
      rw [← through_row] at h3
      rcases Nat.lt_or_ge k t.length with h4 | h4
      · have h5 := h.no rfl k h4
        have h6 : ndThrough is (ndRow is st t k) = true := h3
        rw [h5] at h6
        cases h6
      · obtain rfl : k = t.length := by omega
        exact h3
set_option maxRecDepth 100000 in
set_option maxHeartbeats 4000000 in
theorem found_c (st fin : Bool) (u : Value) (is : List NI) (s : ByteArray) (hs : s.size ≤ 100000) (hi : is.length ≤ 1000) (hok : ∀ i ∈ is, i.ok) (w : World) (hu : ItOut w u is) :
    Calls Tryz.prog 65 #[.agg #[.bool st, .bool fin, u], .string s] w fun e w' => e = .returned (.bool (ndFound ⟨st, fin, is⟩ (bs s))) ∧ Below w.heap.size w w' := by
  obtain ⟨d, hd⟩ : ∃ d, ndFound ⟨st, fin, is⟩ (bs s) = d := ⟨_, rfl⟩
  rw [hd]
  have HD := Lib.hid hd; have HOK := Lib.hid hok; have HLI := Lib.hid hi
  have HW1 := Lib.hid (FndW.first (st := st) (fin := fin) hu 67)
  obtain ⟨AU, cu, hue, hcu, _⟩ := hu
  obtain ⟨m, hm⟩ : ∃ m, is.length = m := ⟨_, rfl⟩
  rw [hm] at hue hcu
  subst hue
  have RC0 := Lib.hid (fun (wr : World) (h : FndW w st fin (.slice AU m cu) is wr) (v : Value) (hv : PlNew (w.heap.size + 1) wr v []) => reach_c (w.heap.size + 1) v (.slice AU m cu) [] is 0 (Nat.zero_le _) hi (Nat.zero_le _) (fun q hq => by cases hq) wr h.size hv h.it)
  have TC := Lib.hid (fun (wr : World) (h : FndW w st fin (.slice AU m cu) is wr) (v : Value) (k : Nat) (hv : PlNew (w.heap.size + 1) wr v (ndRow is st (bs s) k)) => through_c (w.heap.size + 1) v (.slice AU m cu) (ndRow is st (bs s) k) is (by have := rowL is st (bs s) k; omega) hi wr hv h.it)
  have SC := Lib.hid (fun (wr : World) (h : FndW w st fin (.slice AU m cu) is wr) (v x : Value) (next : List Nat) (k b : Nat) (hb : b < 256) (hn : RowI is next 0) (hnt : ∀ q ∈ next, q ≤ is.length) (hv : PlNew (w.heap.size + 1) wr v next) (hx : PlNew (w.heap.size + 1) wr x (ndRow is st (bs s) k)) (ha : Apart v x) => step_c (w.heap.size + 1) v x (.slice AU m cu) next (ndRow is st (bs s) k) is b hb hi hok hn hnt (rowR _ _ _ _) (rowT _ _ _ _) wr h.size hv hx ha h.it)
  clear hd hok hi hm
  go_enter Tryz.func65, Tryz.ntmps65
  obtain ⟨c0, c1, c2⟩ : (w.alloc (.cells #[.bool st, .bool fin, .slice AU m cu] 67)).cell? ⟨w.heap.size, 0, none⟩ = some (.bool st) ∧ (w.alloc (.cells #[.bool st, .bool fin, .slice AU m cu] 67)).cell? ⟨w.heap.size, 1, none⟩ = some (.bool fin) ∧ (w.alloc (.cells #[.bool st, .bool fin, .slice AU m cu] 67)).cell? ⟨w.heap.size, 2, none⟩ = some (.slice AU m cu) := ⟨HW1.out.b0, HW1.out.b1, HW1.out.b2⟩
  clear c0 c1 c2
  go_wp2_with fail
  refine (RC0.out _ HW1.out _ (PlNew.nil _ _)).mono ?_; rintro _ w2 ⟨v2, rfl, hr2⟩
  have HW2 := Lib.hid (HW1.out.next (rch_first hr2 HW1.out.size))
  have HI2 := Lib.hid (show FndI (w.heap.size + 1) st fin is (bs s) 0 w2 v2 (.slice none 0 0) from ⟨hr2.new, ⟨[], PlNew.nil _ _⟩, apart_nil _, fun _ j hj => absurd hj (Nat.not_lt_zero _)⟩)
  clear hr2 HW1
  go_wp2
  go_loopw [5, 6, 7, 8, 14] (fun rv sv _ _ kv wr => ∃ (k : Nat), kv = .int .i64 (k : Nat) ∧ k ≤ s.size ∧ wr.cell? ⟨w.heap.size, 0, none⟩ = some (.bool st) ∧ wr.cell? ⟨w.heap.size, 1, none⟩ = some (.bool fin) ∧ wr.cell? ⟨w.heap.size, 2, none⟩ = some (.slice AU m cu) ∧ Hid (FndI (w.heap.size + 1) st fin is (bs s) k wr rv sv) ∧ Hid (FndW w st fin (.slice AU m cu) is wr)) (fun _ _ _ _ kv _ => s.size - (intOf kv).toNat)
  case atStart => exact ⟨0, rfl, Nat.zero_le _, HW2.out.b0, HW2.out.b1, HW2.out.b2, HI2.out, HW2.out⟩
  case round =>
    obtain ⟨k, rfl, hk, c0, c1, c2, HI, HW⟩ := hrel
    by_cases hlt : k < s.size
    · obtain ⟨b, hb1, hb2, hb3⟩ := bs_get hlt
      have HB1 := Lib.hid hb1
      obtain ⟨ls, hsp⟩ := HI.out.spare
      obtain ⟨AS, cs, rfl, hcs, hgs⟩ := hsp.form
      obtain ⟨n, hn⟩ : ∃ n, ls.length = n := ⟨_, rfl⟩
      rw [hn] at hsp hcs HI ⊢
      have HSP := Lib.hid hsp.cut
      clear hb1 hn hsp hgs
      cases fin with
      | true =>
        have AP := Lib.hid (apart_cut HI.out.apart)
        cases st with
        | true =>
          have NX := Lib.hid (fun (w' : World) (v' : Value) (hr : Rch (w.heap.size + 1) wr.drew (.slice AS 0 cs) w' v' (ndGo is b [] (ndRow is true (bs s) k))) => FndI.next (w4 := wr.drew) HI.out HB1.out rfl HI.out.row AP.out hr (fun h => by cases h))
          go_upto_region 11 with (fail)
          go_region_held3 (fun y => y.cell? ⟨w.heap.size, 2, none⟩ = some (.slice AU m cu))
            (first | go_keep)
            (first
              | (go_at_call 92; refine (SC.out _ HW.out.drew _ _ [] k b hb3 (RowI.nil _ _) (fun q hq => by cases hq) HSP.out HI.out.row AP.out).mono ?_; rintro e w5 ⟨v5, rfl, hr5⟩; have hl5 : Below (w.heap.size + 1) wr.drew w5 := hr5.low HSP.out HW.out.size; have q2 : w5.cell? ⟨w.heap.size, 2, none⟩ = some (.slice AU m cu) := (HW.out.drew.next hl5).b2))
          have HW5 := Lib.hid (HW.out.drew.next hl5)
          have HI5 := Lib.hid (NX.out _ _ hr5)
          clear hr5 hl5
          go_wp2
          go_roundw
          case rel => exact ⟨k + 1, by go_num, by omega, HW5.out.b0, HW5.out.b1, HW5.out.b2, HI5.out, HW5.out⟩
          case measure => simp [intOf]; omega
        | false =>
          go_upto_region 11 with (first | (go_at_call 90; refine (RC0.out _ HW.out _ HSP.out).mono ?_; rintro e w4 ⟨v4, rfl, hr4⟩; have hl4 : Below (w.heap.size + 1) wr w4 := hr4.low HSP.out HW.out.size; have c3 : w4.cell? ⟨w.heap.size, 2, none⟩ = some (.slice AU m cu) := (HW.out.next hl4).b2))
          obtain ⟨ho4, ha4⟩ := hr4.other HI.out.row AP.out
          have HW4 := Lib.hid (HW.out.next hl4)
          have HN4 := Lib.hid hr4.new
          have HO4 := Lib.hid ho4; have HA4 := Lib.hid ha4
          have NX := Lib.hid (fun (w' : World) (v' : Value) (hr : Rch (w.heap.size + 1) w4.drew v4 w' v' (ndGo is b (ndReach is [] 0) (ndRow is false (bs s) k))) => FndI.next (w4 := w4.drew) HI.out HB1.out rfl HO4.out HA4.out hr (fun h => by cases h))
          clear hr4 hl4 ho4 ha4
          go_region_held3 (fun y => y.cell? ⟨w.heap.size, 2, none⟩ = some (.slice AU m cu))
            (first | go_keep)
            (first
              | (go_at_call 92; refine (SC.out _ HW4.out.drew _ _ (ndReach is [] 0) k b hb3 (first_inv is) (first_top is) HN4.out HO4.out HA4.out).mono ?_; rintro e w5 ⟨v5, rfl, hr5⟩; have hl5 : Below (w.heap.size + 1) w4.drew w5 := hr5.low HN4.out HW4.out.size; have q2 : w5.cell? ⟨w.heap.size, 2, none⟩ = some (.slice AU m cu) := (HW4.out.drew.next hl5).b2))
          have HW5 := Lib.hid (HW4.out.drew.next hl5)
          have HI5 := Lib.hid (NX.out _ _ hr5)
          clear hr5 hl5
          go_wp2
          go_roundw
          case rel => exact ⟨k + 1, by go_num, by omega, HW5.out.b0, HW5.out.b1, HW5.out.b2, HI5.out, HW5.out⟩
          case measure => simp [intOf]; omega
      | false =>
        have AP := Lib.hid (apart_cut HI.out.apart)
        cases hth : ndThrough is (ndRow is st (bs s) k) with
        | true =>
          have HT1 := Lib.hid (found_mid (by rw [bs_length]; exact hk) hth)
          rw [HD.out] at HT1
          have HTH := Lib.hid hth
          clear hth
          go_wp2_with fail
          refine (TC.out _ HW.out _ k HI.out.row).mono ?_; rintro _ w3 ⟨rfl, rfl⟩
          rw [HTH.out]
          go_wp2
          go_ret
          exact ⟨by rw [HT1.out]; rfl, HW.out.low⟩
        | false =>
          have HTH := Lib.hid hth
          clear hth
          cases st with
          | true =>
            have NX := Lib.hid (fun (w' : World) (v' : Value) (hr : Rch (w.heap.size + 1) wr.drew (.slice AS 0 cs) w' v' (ndGo is b [] (ndRow is true (bs s) k))) => FndI.next (w4 := wr.drew) HI.out HB1.out rfl HI.out.row AP.out hr (fun _ => HTH.out))
            go_upto_region 11 with (first | (go_at_call 91; refine (TC.out _ HW.out _ k HI.out.row).mono ?_; rintro e w3 ⟨rfl, hw3⟩; obtain rfl := hw3.symm; rw [HTH.out]))
            go_region_held3 (fun y => y.cell? ⟨w.heap.size, 2, none⟩ = some (.slice AU m cu))
              (first | go_keep)
              (first
                | (go_at_call 92; refine (SC.out _ HW.out.drew _ _ [] k b hb3 (RowI.nil _ _) (fun q hq => by cases hq) HSP.out HI.out.row AP.out).mono ?_; rintro e w5 ⟨v5, rfl, hr5⟩; have hl5 : Below (w.heap.size + 1) wr.drew w5 := hr5.low HSP.out HW.out.size; have q2 : w5.cell? ⟨w.heap.size, 2, none⟩ = some (.slice AU m cu) := (HW.out.drew.next hl5).b2))
            have HW5 := Lib.hid (HW.out.drew.next hl5)
            have HI5 := Lib.hid (NX.out _ _ hr5)
            clear hr5 hl5
            go_wp2
            go_roundw
            case rel => exact ⟨k + 1, by go_num, by omega, HW5.out.b0, HW5.out.b1, HW5.out.b2, HI5.out, HW5.out⟩
            case measure => simp [intOf]; omega
          | false =>
            go_upto_region 11 with (first | (go_at_call 91; refine (TC.out _ HW.out _ k HI.out.row).mono ?_; rintro e w3 ⟨rfl, hw3⟩; obtain rfl := hw3.symm; rw [HTH.out]) | (go_at_call 90; refine (RC0.out _ HW.out _ HSP.out).mono ?_; rintro e w4 ⟨v4, rfl, hr4⟩; have hl4 : Below (w.heap.size + 1) wr w4 := hr4.low HSP.out HW.out.size; have c3 : w4.cell? ⟨w.heap.size, 2, none⟩ = some (.slice AU m cu) := (HW.out.next hl4).b2))
            obtain ⟨ho4, ha4⟩ := hr4.other HI.out.row AP.out
            have HW4 := Lib.hid (HW.out.next hl4)
            have HN4 := Lib.hid hr4.new
            have HO4 := Lib.hid ho4; have HA4 := Lib.hid ha4
            have NX := Lib.hid (fun (w' : World) (v' : Value) (hr : Rch (w.heap.size + 1) w4.drew v4 w' v' (ndGo is b (ndReach is [] 0) (ndRow is false (bs s) k))) => FndI.next (w4 := w4.drew) HI.out HB1.out rfl HO4.out HA4.out hr (fun _ => HTH.out))
            clear hr4 hl4 ho4 ha4
            go_region_held3 (fun y => y.cell? ⟨w.heap.size, 2, none⟩ = some (.slice AU m cu))
              (first | go_keep)
              (first
                | (go_at_call 92; refine (SC.out _ HW4.out.drew _ _ (ndReach is [] 0) k b hb3 (first_inv is) (first_top is) HN4.out HO4.out HA4.out).mono ?_; rintro e w5 ⟨v5, rfl, hr5⟩; have hl5 : Below (w.heap.size + 1) w4.drew w5 := hr5.low HN4.out HW4.out.size; have q2 : w5.cell? ⟨w.heap.size, 2, none⟩ = some (.slice AU m cu) := (HW4.out.drew.next hl5).b2))
            have HW5 := Lib.hid (HW4.out.drew.next hl5)
            have HI5 := Lib.hid (NX.out _ _ hr5)
            clear hr5 hl5
            go_wp2
            go_roundw
            case rel => exact ⟨k + 1, by go_num, by omega, HW5.out.b0, HW5.out.b1, HW5.out.b2, HI5.out, HW5.out⟩
            case measure => simp [intOf]; omega
    · obtain rfl : k = s.size := by omega
      have he : ndThrough is (ndRow is st (bs s) s.size) = d := by
        have h := HI.out
        rw [← bs_length] at h ⊢
        rw [found_end h]
        exact HD.out
      have HE := Lib.hid he
      clear he
      go_wp2_with fail
      refine (TC.out _ HW.out _ s.size HI.out.row).mono ?_; rintro _ w3 ⟨rfl, rfl⟩
      rw [HE.out]
      go_wp2
      go_ret
      exact ⟨rfl, HW.out.low⟩
end Go.Proofs.YtodlgbihdehmbaaGreatDoor.Nd.NP
/-
  Contracts of the program's own functions of layer 9: Match.
-/
set_option linter.unusedSimpArgs false
set_option linter.unusedVariables false
namespace Go.Proofs.YtodlgbihdehmbaaGreatDoor.Nd.NP
open Go.RowKit
theorem comp_err (p : List Nat) : (ndComp p).2 = 0 ∨ (ndComp p).2 = 10 ∨ (ndComp p).2 = 12 := by
  unfold ndComp
  split
  · exact .inr (.inr rfl)
  · split
    · exact .inr (.inl rfl)
    · exact .inl rfl
set_option maxRecDepth 100000 in
set_option maxHeartbeats 4000000 in
theorem match_c (p s : ByteArray) (hp : p.size ≤ 9223372036854775807) (hs : s.size ≤ 100000) (w : World) :
    Calls Tryz.prog 37 #[.string p, .string s] w fun e w' => e = .returned (.tuple #[.bool (ndMatch (bs p) (bs s)).1, .int .i64 (ndMatch (bs p) (bs s)).2]) ∧ Below w.heap.size w w' := by
  have CC := Lib.hid (fun W => compile_c p hp W)
  obtain ⟨⟨nst, nfin, is⟩, E, hN⟩ : ∃ N E, ndComp (bs p) = (N, E) := ⟨_, _, rfl⟩
  have hE := comp_err (bs p)
  have hm : ndMatch (bs p) (bs s) = if E = 0 then (ndFound ⟨nst, nfin, is⟩ (bs s), 0) else (false, E) := by unfold ndMatch; rw [hN]
  rw [hN] at CC hE
  rw [hm]
  have hE2 : E = 0 ∨ E = 10 ∨ E = 12 := hE
  clear hE hm hN
  go_enter Tryz.func37, Tryz.ntmps37
  go_wp2_with fail
  refine (CC.out _).mono ?_; rintro _ w1 ⟨v, rfl, ⟨u, rfl, hu⟩, hok, hlen, hb1⟩
  have hu2 : ItOut w1 u is := hu
  have hok2 : ∀ i ∈ is, i.ok := hok
  have hlen2 : is.length ≤ 64 := hlen
  obtain ⟨A, cap, hv, hcap, hx⟩ := id hu2
  subst hv
  have HU := Lib.hid hu2; have HOK := Lib.hid hok2; have HB1 := Lib.hid hb1; have HLN := Lib.hid hlen2
  clear hu hu2 hok hok2 hlen hlen2 hb1 hx
  obtain ⟨n, hn⟩ : ∃ n, is.length = n := ⟨_, rfl⟩
  have FC := Lib.hid (fun (W : World) (h : Below w1.heap.size w1 W) => found_c nst nfin (.slice A is.length cap) is s hs (Nat.le_trans HLN.out (by decide)) HOK.out W (HU.out.below h))
  rw [hn] at hcap FC HU ⊢
  clear hn
  go_upto_region 2 with (refine wpList_put rfl 67 _ _ rfl w1.heap.size [.bool nst, .bool nfin, .slice A n cap] rfl rfl (DVar.alloc _ _) (by kernel_rfl) (by simp [Value.oneCell']) ?_; intro y1 hq; obtain ⟨t0, t1, t2⟩ := hq.at_.three)
  have hb2 : Below w1.heap.size w1 y1 := hq.below (Nat.le_refl _) (alloc_below _ _)
  have HB2 := Lib.hid hb2; have HB3 := Lib.hid (bnext HB1.out hb2)
  clear hq hb2
  rcases hE2 with rfl | rfl | rfl
  · go_wp2_with fail
    refine (FC.out _ HB2.out).mono ?_; rintro _ w2 ⟨rfl, hb⟩
    have HB4 := Lib.hid (bnext HB3.out hb)
    clear hb
    go_wp2
    go_ret2
    exact ⟨rfl, HB4.out⟩
  · go_wp2
    go_ret2
    exact ⟨rfl, HB3.out⟩
  · go_wp2
    go_ret2
    exact ⟨rfl, HB3.out⟩
end Go.Proofs.YtodlgbihdehmbaaGreatDoor.Nd.NP
/-
  Contracts of the program's functions of layer 12: copies of archives, what a path's bytes hold, the first store, the first fold.
-/
set_option linter.unusedSimpArgs false
set_option linter.unusedVariables false
namespace Go.Proofs.YtodlgbihdehmbaaGreatDoor
open Go.RowKit Cf Cf.KR Cf.KP
theorem rg_reads {w : World} {A : Option Addr} {c : Nat} {l : List (Int × Int)} (h : RgOut w (.slice A l.length c) l) : Reads w w.heap.size 2 A l.length (rgC l) := by
  obtain ⟨A', c', hv, hc, hx⟩ := h
  obtain rfl : A = A' := by injection hv
  have hl : (rgC l).length = l.length * 2 := flat2_length _ (fun _ => rfl) l
  refine ⟨hl, fun h0 => ?_⟩
  obtain ⟨b, off, rfl, ha⟩ := hx (List.length_pos_iff.1 h0)
  have hlt : b < w.heap.size := World.block_lt_of_cell? w _ (ha 0 _ (List.getElem?_eq_getElem h0)).1
  refine ⟨⟨b, off, none⟩, rfl, hlt, fun j u hj => ?_⟩
  have hjl := (List.getElem?_eq_some_iff.1 hj).1
  have hk : j / 2 < l.length := by omega
  obtain ⟨c0, c1⟩ := ha (j / 2) _ (List.getElem?_eq_getElem hk)
  obtain ⟨e0, e1⟩ := rgC_at l (j / 2) _ (List.getElem?_eq_getElem hk)
  have ea : (⟨b, off, none⟩ : Addr).add j = ⟨b, off + j, none⟩ := by unfold Addr.add; split <;> simp_all
  rw [ea]
  rcases Nat.mod_two_eq_zero_or_one j with h2 | h2
  · have ej : j / 2 * 2 = j := by omega
    rw [ej] at c0 e0
    rw [c0, ← e0, hj]
  · have ej : j / 2 * 2 + 1 = j := by omega
    rw [ej] at e1
    rw [Nat.add_assoc, ej] at c1
    rw [c1, ← e1, hj]
theorem rgC_one (l : List (Int × Int)) : ∀ u ∈ rgC l, u.oneCell' = true := by
  intro u hu
  unfold rgC at hu
  rw [List.mem_flatMap] at hu
  obtain ⟨g, _, h⟩ := hu
  simp at h
  rcases h with rfl | rfl <;> rfl
namespace LP
set_option maxRecDepth 100000 in
set_option maxHeartbeats 2000000 in
theorem clone_p (v : Value) (l : List (Int × Int)) (hl : l.length ≤ 100000) (w : World) (f : RgOut w v l) :
    Calls Tryz.prog 40 #[v] w fun e w' => ∃ A c, e = .returned (.slice A l.length c) ∧ RgNew w.heap.size w' (.slice A l.length c) l ∧ Below w.heap.size w w' := by
  have hnil : ∀ (n c : Nat) (w : World), (binOp .eql 39 (.slice none n c) (.slice none 0 0)).run Tryz.prog w = .ok (.bool true) w := fun n c w => Lib.run_eql_slice_nil w 39 49 none n c 0 0 Tryz.underlying39
  have hsome : ∀ (ad : Addr) (n c : Nat) (w : World), (binOp .eql 39 (.slice (some ad) n c) (.slice none 0 0)).run Tryz.prog w = .ok (.bool false) w := fun ad n c w => Lib.run_eql_slice_nil w 39 49 (some ad) n c 0 0 Tryz.underlying39
  obtain ⟨A, c, rfl, hc, hx⟩ := id f
  have hr := rg_reads f
  have h1 := rgC_one l
  rcases A with _ | ad
  · have h0 : l = [] := by
      by_cases h : l = []
      · exact h
      · obtain ⟨b, off, h2, _⟩ := hx h
        cases h2
    subst h0
    clear hr h1 f hx
    go_enter Tryz.func40, Tryz.ntmps40
    go_wp2
    go_ret
    exact ⟨none, 0, rfl, RgNew.nil _ _, Below.refl _ _⟩
  · obtain ⟨i0, hi0, hz0, hz1, hz2⟩ := info_parts rung_info
    have HR := Lib.hid hr
    have H1 := Lib.hid h1
    obtain ⟨n, hn⟩ : ∃ n, l.length = n := ⟨_, rfl⟩
    have FIN := Lib.hid (show ∀ (w3 : World) (v1 : Value), w3.ownsRow w.heap.size 49 2 v1 n (rgC l) → ∃ A c, v1 = .slice A n c ∧ RgNew w.heap.size w3 (.slice A n c) l from fun w3 v1 h => by
      obtain ⟨A1, c1, rfl, _, _⟩ := own_form h
      refine ⟨A1, c1, rfl, ?_⟩
      unfold RgNew
      rw [hn]; exact h)
    rw [hn] at HR hc hl ⊢
    clear hr h1 hx f hn
    go_enter Tryz.func40, Tryz.ntmps40
    go_wp2_with (at_builtin; refine wpList_append_any _ rfl (.tmp 5) (.tmp 6) _ rfl w.heap.size 49 i0 (.agg #[.int .i64 0, .int .i64 0]) 2 16 Tryz.underlying39 hi0 hz0 hz1 hz2 rfl (by decide) (.slice (some ⟨w.heap.size, 0, none⟩) 0 0) 0 [] rfl (World.ownsRow_made _ _ _ (Nat.le_refl _) (by decide) rfl) w.heap.size (some ad) n c (rgC l) rfl (HR.out.alloc (Nat.le_refl _) _) H1.out (by simp only [maxLen]; omega) (by omega) (by simp) ?_; intro v1 w3 hown1 hg1 hat1)
    go_ret
    obtain ⟨A1, c1, rfl, hN⟩ := FIN.out _ _ (by simpa using hown1)
    exact ⟨A1, c1, rfl, hN, Below.grown ((Below.refl _ _).alloc (Nat.le_refl _) _) hg1 (by simp) (by intro g hg; simp [Value.ownBlock] at hg; omega)⟩
theorem eg_1 : ∀ args w, (callFunc 36 args).run Tryz.prog w = .ok (.enter 36 args) w := enters_of Tryz.func36 (by kernel_rfl) rfl
theorem eg_2 : ∀ args w, (callFunc 39 args).run Tryz.prog w = .ok (.enter 39 args) w := enters_of Tryz.func39 (by kernel_rfl) rfl
theorem eg_3 : ∀ args w, (callFunc 42 args).run Tryz.prog w = .ok (.enter 42 args) w := enters_of Tryz.func42 (by kernel_rfl) rfl
/-- The path, and the function that holds it. -/
structure Holder (w : World) (bf bp : Nat) (path : ByteArray) : Prop where
  pth : w.cell? ⟨bp, 0, none⟩ = some (.string path)
  fn : w.cell? ⟨bf, 0, none⟩ = some (.func (.func 36) #[] #[.pointer (some ⟨bp, 0, none⟩)])
theorem Holder.below {w w' : World} {bf bp : Nat} {path : ByteArray} (h : Holder w bf bp path) (hb : Below w.heap.size w w') : Holder w' bf bp path := ⟨cellb hb h.pth, cellb hb h.fn⟩
theorem find1_p (p path : ByteArray) (hp : p.size ≤ 9223372036854775807) (hs : path.size ≤ 100000) (bp : Nat) (w : World) (hb : w.cell? ⟨bp, 0, none⟩ = some (.string path)) :
    Calls Tryz.prog 36 #[.string p, .pointer (some ⟨bp, 0, none⟩)] w fun e w' => e = .returned (.bool (Nd.ndMatch (bs p) (bs path)).1) ∧ Below w.heap.size w w' := by
  have MC := Lib.hid (Nd.NP.match_c p path hp hs w)
  obtain ⟨⟨d, E⟩, hd⟩ : ∃ d, Nd.ndMatch (bs p) (bs path) = d := ⟨_, rfl⟩
  rw [hd] at MC ⊢
  clear hd
  go_enter Tryz.func36, Tryz.ntmps36
  go_wp2_with (go_at_call 37; refine MC.out.mono ?_; rintro _ w2 ⟨rfl, hb2⟩)
  go_ret
  exact ⟨rfl, hb2⟩
set_option maxRecDepth 100000 in
theorem find2_p (a p path : ByteArray) (A : Option Addr) (n c : Nat) (hp : p.size ≤ 9223372036854775807) (hs : path.size ≤ 100000) (bf bp : Nat) (w : World) (hh : Holder w bf bp path) :
    Calls Tryz.prog 39 #[.agg #[.string a, .string p, .slice A n c], .pointer (some ⟨bf, 0, none⟩)] w fun e w' => e = .returned (.bool (Nd.ndMatch (bs p) (bs path)).1) ∧ Below w.heap.size w w' := by
  have eg := eg_1
  have BOX := Lib.hid (alloc_below w (.cells #[.string a, .string p, .slice A n c] 47))
  have hh2 := hh.below BOX.out
  have F1 := Lib.hid (find1_p p path hp hs bp _ hh2.pth)
  have hfn := hh2.fn
  generalize (Nd.ndMatch (bs p) (bs path)).1 = d at *
  clear hh hh2
  go_enter Tryz.func39, Tryz.ntmps39
  go_wp2_with (go_at_fn 36; refine F1.out.mono ?_; rintro _ w2 ⟨rfl, hb2⟩)
  go_ret
  exact ⟨rfl, bnext BOX.out hb2⟩
set_option maxRecDepth 100000 in
theorem find3_p (a p path : ByteArray) (fa me : Int) (hp : p.size ≤ 9223372036854775807) (hs : path.size ≤ 100000) (bf bp : Nat) (w : World) (hh : Holder w bf bp path) :
    Calls Tryz.prog 42 #[.agg #[.string a, .string p, .int .i64 fa, .int .i64 me], .pointer (some ⟨bf, 0, none⟩)] w fun e w' => e = .returned (.bool (Nd.ndMatch (bs p) (bs path)).1) ∧ Below w.heap.size w w' := by
  have eg := eg_1
  have BOX := Lib.hid (alloc_below w (.cells #[.string a, .string p, .int .i64 fa, .int .i64 me] 74))
  have hh2 := hh.below BOX.out
  have F1 := Lib.hid (find1_p p path hp hs bp _ hh2.pth)
  have hfn := hh2.fn
  generalize (Nd.ndMatch (bs p) (bs path)).1 = d at *
  clear hh hh2
  go_enter Tryz.func42, Tryz.ntmps42
  go_wp2_with (go_at_fn 36; refine F1.out.mono ?_; rintro _ w2 ⟨rfl, hb2⟩)
  go_ret
  exact ⟨rfl, bnext BOX.out hb2⟩
theorem find_at {α : Type} {f : α → Bool} {L : List α} {k : Nat} {x : α} (hk : L[k]? = some x) (hx : f x = true) (h : ∀ (j : Nat) (y : α), j < k → L[j]? = some y → f y = false) : L.find? f = some x := by
  rw [List.find?_eq_some_iff_getElem]
  obtain ⟨hlt, e⟩ := List.getElem?_eq_some_iff.1 hk
  refine ⟨hx, k, hlt, e, fun j hj => ?_⟩
  have := h j _ hj (List.getElem?_eq_getElem (by omega))
  simpa using this
theorem find_no {α : Type} {f : α → Bool} {L : List α} {n : Nat} (hn : L.length = n) (h : ∀ (j : Nat) (y : α), j < n → L[j]? = some y → f y = false) : L.find? f = none := by
  rw [List.find?_eq_none]
  intro x hx
  obtain ⟨j, hj⟩ := List.getElem?_of_mem hx
  have := h j x (by rw [← hn]; exact (List.getElem?_eq_some_iff.1 hj).1) hj
  simp [this]
set_option maxRecDepth 100000 in
set_option maxHeartbeats 1000000 in
theorem indexS_p (v : Value) (ss : List Sto) (path : ByteArray) (hs : path.size ≤ 100000) (hS : ∀ s ∈ ss, s.2.1.length ≤ 9223372036854775807) (hl : ss.length ≤ 100000) (bf bp : Nat) (w : World) (hh : Holder w bf bp path) (f : StOut w v ss) :
    Calls Tryz.prog 38 #[v, .func (.func 39) #[] #[.pointer (some ⟨bf, 0, none⟩)]] w fun e w' => ∃ i : Int, e = .returned (.int .i64 i) ∧ ((∃ (k : Nat) (s : Sto), i = (k : Int) ∧ ss[k]? = some s ∧ ss.find? (stoHit (bs path)) = some s) ∨ (i = -1 ∧ ss.find? (stoHit (bs path)) = none)) ∧ Below w.heap.size w w' := by
  have eg := eg_2
  obtain ⟨A, c, rfl, hc, hx⟩ := f
  obtain ⟨n, hn⟩ : ∃ n, ss.length = n := ⟨_, rfl⟩
  rw [hn] at hl hc
  rw [hn]
  have HX := Lib.hid hx; have HN := Lib.hid hn; have HS := Lib.hid hS; have HH := Lib.hid hh
  clear hx hn hS hh
  go_enter Tryz.func38, Tryz.ntmps38
  go_wp2
  go_loopw [8] (fun i wr => ∃ k : Nat, i = .int .i64 (k : Nat) ∧ k ≤ n ∧ Hid ((∀ (j : Nat) (x : Sto), j < k → ss[j]? = some x → stoHit (bs path) x = false) ∧ Below w.heap.size w wr)) (fun i _ => n - (intOf i).toNat)
  case atStart => exact ⟨0, rfl, Nat.zero_le _, fun j x hj => absurd hj (Nat.not_lt_zero j), Below.refl _ _⟩
  case round =>
    obtain ⟨k, rfl, hk, HI⟩ := hrel
    by_cases hlt : k < n
    · have hkl : k < ss.length := by rw [HN.out]; exact hlt
      obtain ⟨bb, off, rfl, ha⟩ := HX.out (by intro e; rw [e] at hkl; exact absurd hkl (Nat.not_lt_zero _))
      have hp := List.getElem?_eq_getElem hkl
      obtain ⟨⟨nm, pt, rg⟩, hxx⟩ : ∃ x, ss[k] = x := ⟨_, rfl⟩
      rw [hxx] at hp
      obtain ⟨⟨hB1, hB2⟩, u, c0, c1, c2, hrg⟩ := (ha.below HI.out.2) k (nm, pt, rg) hp
      have hfit := HS.out (nm, pt, rg) (List.mem_of_getElem? hp)
      simp only at hB1 hB2 c0 c1 hrg hfit
      obtain ⟨A4, c4, rfl, -, -⟩ := id hrg
      have CL := find2_p (str nm) (str pt) path A4 rg.length c4 (by rw [str_size]; exact hfit) hs bf bp wr (HH.out.below HI.out.2)
      rw [bs_str hB2] at CL
      have HP := Lib.hid hp
      obtain ⟨d, hd⟩ : ∃ d, (Nd.ndMatch pt (bs path)).1 = d := ⟨_, rfl⟩
      rw [hd] at CL
      have HD := Lib.hid (show stoHit (bs path) (nm, pt, rg) = d from hd)
      have CL2 := Lib.hid CL
      generalize str nm = X at *
      generalize str pt = Y at *
      generalize rg.length = m at *
      clear CL hp hxx ha hkl hrg hd hB1 hB2 hfit
      cases d
      · have NEXT := Lib.hid (show ∀ (j : Nat) (y : Sto), j < k + 1 → ss[j]? = some y → stoHit (bs path) y = false from fun j y hj hy => by
          by_cases e : j = k
          · rw [e, HP.out] at hy
            obtain rfl := Option.some.inj hy
            exact HD.out
          · exact HI.out.1 j y (by omega) hy)
        go_wp2_with (go_at_fn 39; refine (CL2.out).mono ?_; rintro e w' ⟨rfl, hb1⟩)
        go_roundw
        case rel => exact ⟨k + 1, by go_num, by omega, NEXT.out, bnext HI.out.2 hb1⟩
        case measure => simp [intOf]; omega
      · have HE := Lib.hid (find_at HP.out HD.out HI.out.1)
        go_wp2_with (go_at_fn 39; refine (CL2.out).mono ?_; rintro e w' ⟨rfl, hb1⟩)
        go_ret
        exact ⟨_, rfl, Or.inl ⟨k, _, rfl, HP.out, HE.out⟩, bnext HI.out.2 hb1⟩
    · obtain rfl : k = n := by omega
      have HE := Lib.hid (find_no (f := stoHit (bs path)) HN.out HI.out.1)
      go_wp2
      go_ret
      exact ⟨_, rfl, Or.inr ⟨rfl, HE.out⟩, HI.out.2⟩
set_option maxRecDepth 100000 in
set_option maxHeartbeats 1000000 in
theorem indexF_p (v : Value) (ss : List Fol) (path : ByteArray) (hs : path.size ≤ 100000) (hS : ∀ s ∈ ss, s.2.1.length ≤ 9223372036854775807) (hl : ss.length ≤ 100000) (bf bp : Nat) (w : World) (hh : Holder w bf bp path) (f : FoOut w v ss) :
    Calls Tryz.prog 41 #[v, .func (.func 42) #[] #[.pointer (some ⟨bf, 0, none⟩)]] w fun e w' => ∃ i : Int, e = .returned (.int .i64 i) ∧ ((∃ (k : Nat) (s : Fol), i = (k : Int) ∧ ss[k]? = some s ∧ ss.find? (folHit (bs path)) = some s) ∨ (i = -1 ∧ ss.find? (folHit (bs path)) = none)) ∧ Below w.heap.size w w' := by
  have eg := eg_3
  obtain ⟨A, c, rfl, hc, hx⟩ := f
  obtain ⟨n, hn⟩ : ∃ n, ss.length = n := ⟨_, rfl⟩
  rw [hn] at hl hc
  rw [hn]
  have HX := Lib.hid hx; have HN := Lib.hid hn; have HS := Lib.hid hS; have HH := Lib.hid hh
  clear hx hn hS hh
  go_enter Tryz.func41, Tryz.ntmps41
  go_wp2
  go_loopw [8] (fun i wr => ∃ k : Nat, i = .int .i64 (k : Nat) ∧ k ≤ n ∧ Hid ((∀ (j : Nat) (x : Fol), j < k → ss[j]? = some x → folHit (bs path) x = false) ∧ Below w.heap.size w wr)) (fun i _ => n - (intOf i).toNat)
  case atStart => exact ⟨0, rfl, Nat.zero_le _, fun j x hj => absurd hj (Nat.not_lt_zero j), Below.refl _ _⟩
  case round =>
    obtain ⟨k, rfl, hk, HI⟩ := hrel
    by_cases hlt : k < n
    · have hkl : k < ss.length := by rw [HN.out]; exact hlt
      obtain ⟨bb, off, rfl, ha⟩ := HX.out (by intro e; rw [e] at hkl; exact absurd hkl (Nat.not_lt_zero _))
      have hp := List.getElem?_eq_getElem hkl
      obtain ⟨⟨nm, pt, fa, me⟩, hxx⟩ : ∃ x, ss[k] = x := ⟨_, rfl⟩
      rw [hxx] at hp
      obtain ⟨⟨hB1, hB2⟩, c0, c1, c2, c3⟩ := (ha.below HI.out.2) k (nm, pt, fa, me) hp
      have hfit := HS.out (nm, pt, fa, me) (List.mem_of_getElem? hp)
      simp only at hB1 hB2 c0 c1 c2 c3 hfit
      have CL := find3_p (str nm) (str pt) path fa me (by rw [str_size]; exact hfit) hs bf bp wr (HH.out.below HI.out.2)
      rw [bs_str hB2] at CL
      have HP := Lib.hid hp
      obtain ⟨d, hd⟩ : ∃ d, (Nd.ndMatch pt (bs path)).1 = d := ⟨_, rfl⟩
      rw [hd] at CL
      have HD := Lib.hid (show folHit (bs path) (nm, pt, fa, me) = d from hd)
      have CL2 := Lib.hid CL
      generalize str nm = X at *
      generalize str pt = Y at *
      clear CL hp hxx ha hkl hd hB1 hB2 hfit
      cases d
      · have NEXT := Lib.hid (show ∀ (j : Nat) (y : Fol), j < k + 1 → ss[j]? = some y → folHit (bs path) y = false from fun j y hj hy => by
          by_cases e : j = k
          · rw [e, HP.out] at hy
            obtain rfl := Option.some.inj hy
            exact HD.out
          · exact HI.out.1 j y (by omega) hy)
        go_wp2_with (go_at_fn 42; refine (CL2.out).mono ?_; rintro e w' ⟨rfl, hb1⟩)
        go_roundw
        case rel => exact ⟨k + 1, by go_num, by omega, NEXT.out, bnext HI.out.2 hb1⟩
        case measure => simp [intOf]; omega
      · have HE := Lib.hid (find_at HP.out HD.out HI.out.1)
        go_wp2_with (go_at_fn 42; refine (CL2.out).mono ?_; rintro e w' ⟨rfl, hb1⟩)
        go_ret
        exact ⟨_, rfl, Or.inl ⟨k, _, rfl, HP.out, HE.out⟩, bnext HI.out.2 hb1⟩
    · obtain rfl : k = n := by omega
      have HE := Lib.hid (find_no (f := folHit (bs path)) HN.out HI.out.1)
      go_wp2
      go_ret
      exact ⟨_, rfl, Or.inr ⟨rfl, HE.out⟩, HI.out.2⟩
end LP
end Go.Proofs.YtodlgbihdehmbaaGreatDoor
/-
  Contracts of the program's functions of layer 12: how a metric is kept (Find).
-/
set_option linter.unusedSimpArgs false
set_option linter.unusedVariables false
namespace Go.Proofs.YtodlgbihdehmbaaGreatDoor
open Go.RowKit Cf Cf.KR Cf.KP
/-- How a metric is kept, as a value. -/
def SchOut (w : World) (v : Value) (S : Sch) : Prop := ∃ A c, v = .agg #[.slice A S.1.length c, .int .i64 S.2.1, .int .i64 S.2.2] ∧ RgOut w (.slice A S.1.length c) S.1
theorem SchOut.none (w : World) : SchOut w (.agg #[.slice none 0 0, .int .i64 0, .int .i64 0]) Sch.none := ⟨Option.none, 0, rfl, RgOut.nil _⟩
theorem pick_none {ss : List Sto} {fs : List Fol} {t : List Nat} (h : ss.find? (stoHit t) = none) : pickV ss fs t = (Sch.none, 15) := by unfold pickV; rw [h]
theorem pick_one {ss : List Sto} {fs : List Fol} {t : List Nat} {s : Sto} (h : ss.find? (stoHit t) = some s) (h2 : fs.find? (folHit t) = none) : pickV ss fs t = ((s.2.2, 1, 500000), 0) := by unfold pickV foldOf; rw [h, h2]
theorem pick_two {ss : List Sto} {fs : List Fol} {t : List Nat} {s : Sto} {f : Fol} (h : ss.find? (stoHit t) = some s) (h2 : fs.find? (folHit t) = some f) : pickV ss fs t = ((s.2.2, f.2.2.2, f.2.2.1), 0) := by unfold pickV foldOf; rw [h, h2]
namespace LP
theorem ret_find {v : Value} {a b : Int} (h : a = b) : Ending.returned (.tuple #[v, .int .i64 a]) = .returned (.tuple #[v, .int .i64 b]) := by rw [h]
theorem below_put1 {B b o : Nat} {a w : World} (h : Below B a w) (hB : B ≤ b) (x : Value) : Below B a (w.setCell ⟨b, o, none⟩ x) := h.setCell (p := ⟨b, o, none⟩) hB x
set_option maxRecDepth 100000 in
set_option maxHeartbeats 4000000 in
theorem find_p (vs vf : Value) (ss : List Sto) (fs : List Fol) (path : ByteArray) (fit : RuFit ss fs) (hp : path.size ≤ 100000) (w : World) (hs : StOut w vs ss) (hf : FoOut w vf fs) :
    Calls Tryz.prog 19 #[.agg #[vs, vf], .string path] w fun e w' => ∃ v, e = .returned (.tuple #[v, .int .i64 (findV ss fs (bs path)).2]) ∧ SchOut w' v (findV ss fs (bs path)).1 ∧ Below w.heap.size w w' := by
  have RT := fun (W : World) (h : Below w.heap.size w W) => right_p vs vf ss fs fit W (hs.below h) (hf.below h)
  have IXS := fun (hl : ss.length ≤ 100000) (bf bp : Nat) (W : World) (hh : Holder W bf bp path) (h : Below w.heap.size w W) => indexS_p vs ss path hp (fun s h => (fit.st s h).1) hl bf bp W hh (hs.below h)
  have IXF := fun (hl : fs.length ≤ 100000) (bf bp : Nat) (W : World) (hh : Holder W bf bp path) (h : Below w.heap.size w W) => indexF_p vf fs path hp fit.fo hl bf bp W hh (hf.below h)
  have FD : findV ss fs (bs path) = if rightR ss fs = true then pickV ss fs (bs path) else (Sch.none, 1) := rfl
  have SMALL : rightR ss fs = true → ss.length ≤ 16 ∧ fs.length ≤ 16 := fun h => (rightR_iff.1 h).1
  have PN := @pick_none ss fs (bs path)
  have P1 := fun (s : Sto) => @pick_one ss fs (bs path) s
  have P2 := fun (s : Sto) (f : Fol) => @pick_two ss fs (bs path) s f
  obtain ⟨A, c, rfl, hc, hx⟩ := id hs
  obtain ⟨A2, c2, rfl, hc2, hx2⟩ := id hf
  obtain ⟨n, hn⟩ : ∃ n, ss.length = n := ⟨_, rfl⟩
  obtain ⟨q, hq⟩ : ∃ q, fs.length = q := ⟨_, rfl⟩
  rw [hn] at hc IXS SMALL RT
  rw [hq] at hc2 IXF SMALL RT
  rw [hn, hq]
  obtain ⟨d, hd⟩ : ∃ d, rightR ss fs = d := ⟨_, rfl⟩
  rw [hd] at RT FD SMALL
  obtain ⟨S, hS⟩ : ∃ S, findV ss fs (bs path) = S := ⟨_, rfl⟩
  rw [hS] at FD ⊢
  -- the three variables
  obtain ⟨k0, k1, -, -⟩ := two_new w (.slice A n c) (.slice A2 q c2) 37
  obtain ⟨wb, hwb⟩ : ∃ wb, w.alloc (.cells #[.slice A n c, .slice A2 q c2] 37) = wb := ⟨_, rfl⟩
  have hbw := alloc_below w (.cells #[.slice A n c, .slice A2 q c2] 37)
  have zb : wb.heap.size = w.heap.size + 1 := by rw [← hwb]; simp
  rw [hwb] at k0 k1 hbw
  have kp : (wb.alloc (.cells #[.string path] 9)).cell? ⟨w.heap.size + 1, 0, none⟩ = some (.string path) := by rw [← zb]; exact cell_of_row _ _ 0 _ _ (0, 0) (heap_alloc_new wb _)
  have hbp := alloc_below wb (.cells #[.string path] 9)
  obtain ⟨wp, hwp⟩ : ∃ wp, wb.alloc (.cells #[.string path] 9) = wp := ⟨_, rfl⟩
  have zp : wp.heap.size = w.heap.size + 2 := by rw [← hwp]; simp [zb]
  rw [hwp] at kp hbp
  have d3 : DVar (wp.alloc (.cells #[.slice none 0 0, .int .i64 0, .int .i64 0] 41)) wp.heap.size 3 := DVar.alloc _ _
  have hbs := alloc_below wp (.cells #[.slice none 0 0, .int .i64 0, .int .i64 0] 41)
  obtain ⟨w2, hw2⟩ : ∃ w2, wp.alloc (.cells #[.slice none 0 0, .int .i64 0, .int .i64 0] 41) = w2 := ⟨_, rfl⟩
  have z2 : w2.heap.size = w.heap.size + 3 := by rw [← hw2]; simp [zp]
  rw [hw2] at d3 hbs
  have k0 := cellb (bnext hbp hbs) k0
  have k1 := cellb (bnext hbp hbs) k1
  have kp := cellb hbs kp
  have HB2 := Lib.hid (bnext hbw (bnext hbp hbs))
  have RT2 := Lib.hid (RT w2 HB2.out)
  have XS := Lib.hid IXS; have XF := Lib.hid IXF; have HX := Lib.hid hx; have HX2 := Lib.hid hx2; have HN := Lib.hid hn; have HQ := Lib.hid hq; have HFD := Lib.hid FD; have HPN := Lib.hid PN; have HP1 := Lib.hid P1; have HP2 := Lib.hid P2; have HSM := Lib.hid SMALL; have Z2 := Lib.hid z2; have ZP := Lib.hid zp; have ZB := Lib.hid zb; have FIT := Lib.hid fit
  have D3 := Lib.hid d3
  clear RT IXS IXF hx hx2 hn hq FD PN P1 P2 SMALL hbw hbp hbs z2 zp zb d3 hd hS hs hf fit
  go_enter Tryz.func19, Tryz.ntmps19
  go_wp2_with fail
  (try rw [hwb]); (try rw [hwp]); (try rw [hw2])
  refine RT2.out.mono ?_; rintro _ w3 ⟨rfl, hb3⟩
  have k0 := cellb hb3 k0
  have k1 := cellb hb3 k1
  have kp := cellb hb3 kp
  have D4 := D3.out.below hb3
  cases d
  · have SV := Lib.hid (HFD.out.trans (if_neg (by decide)))
    obtain ⟨x0, p0⟩ := D4.c 0 (by decide); obtain ⟨x1, p1⟩ := D4.c 1 (by decide); obtain ⟨x2, p2⟩ := D4.c 2 (by decide)
    have f0 := D4.f 0 (by decide); have f1 := D4.f 1 (by decide); have f2 := D4.f 2 (by decide)
    go_wp2
    have q0 : ((((w3.setCell ⟨wp.heap.size, 0, none⟩ (.slice none 0 0)).setCell ⟨wp.heap.size, 1, none⟩ (.int .i64 0)).setCell ⟨wp.heap.size, 2, none⟩ (.int .i64 0))).cell? ⟨wp.heap.size, 0, none⟩ = some (.slice none 0 0) := by go_simp
    have q1 : ((((w3.setCell ⟨wp.heap.size, 0, none⟩ (.slice none 0 0)).setCell ⟨wp.heap.size, 1, none⟩ (.int .i64 0)).setCell ⟨wp.heap.size, 2, none⟩ (.int .i64 0))).cell? ⟨wp.heap.size, 1, none⟩ = some (.int .i64 0) := by go_simp
    have q2 : ((((w3.setCell ⟨wp.heap.size, 0, none⟩ (.slice none 0 0)).setCell ⟨wp.heap.size, 1, none⟩ (.int .i64 0)).setCell ⟨wp.heap.size, 2, none⟩ (.int .i64 0))).cell? ⟨wp.heap.size, 2, none⟩ = some (.int .i64 0) := by go_simp
    exact bodyPost_ret (v := .tuple #[.agg #[.slice none 0 0, .int .i64 0, .int .i64 0], .int .i64 1]) (by simp [results, Tryz.results19, go_sem, q0, q1, q2]) rfl ⟨_, ret_find (by rw [SV.out]), by rw [SV.out]; exact SchOut.none _, below_puts3 (bnext HB2.out hb3) (by have := ZP.out; omega) _ _ _⟩
  · have SV := Lib.hid (HFD.out.trans (if_pos rfl))
    obtain ⟨n16, q16⟩ := HSM.out rfl
    have hb4 := alloc_below w3 (.cells #[.func (.func 36) #[] #[.pointer (some ⟨wb.heap.size, 0, none⟩)]] 84)
    have fn4 : (w3.alloc (.cells #[.func (.func 36) #[] #[.pointer (some ⟨wb.heap.size, 0, none⟩)]] 84)).cell? ⟨w3.heap.size, 0, none⟩ = some (.func (.func 36) #[] #[.pointer (some ⟨wb.heap.size, 0, none⟩)]) := cell_of_row _ _ 0 _ _ (0, 0) (heap_alloc_new w3 _)
    have HOLD := Lib.hid (show Holder (w3.alloc (.cells #[.func (.func 36) #[] #[.pointer (some ⟨wb.heap.size, 0, none⟩)]] 84)) w3.heap.size wb.heap.size path from ⟨cellb hb4 (by rw [ZB.out]; exact kp), fn4⟩)
    have HB4 := Lib.hid (bnext HB2.out (bnext hb3 hb4))
    have z3 := hb3.size
    have k0 := cellb hb4 k0
    have k1 := cellb hb4 k1
    clear fn4
    go_wp2_with fail
    refine (XS.out (by omega) w3.heap.size wb.heap.size _ HOLD.out HB4.out).mono ?_; rintro _ w5 ⟨i, rfl, hi, hb5⟩
    have k0 := cellb hb5 k0
    have k1 := cellb hb5 k1
    have H5 := Lib.hid (HOLD.out.below hb5)
    have HB5 := Lib.hid (bnext HB4.out hb5)
    have D5 := D4.below (bnext hb4 hb5)
    have ge5 : w.heap.size + 3 ≤ w5.heap.size := by have := Z2.out; have := hb5.size; have := hb4.size; omega
    have LTP : wp.heap.size + 1 ≤ w5.heap.size := by have := ZP.out; omega
    have GEP := Lib.hid (show w.heap.size ≤ wp.heap.size from by have := ZP.out; omega)
    clear D4 hb4 HOLD RT2 XS
    rcases hi with ⟨k, ⟨nm, pt, rg⟩, rfl, hk, hfnd⟩ | ⟨rfl, hfnd⟩
    · have hkn : k < n := by rw [← HN.out]; exact (List.getElem?_eq_some_iff.1 hk).1
      obtain ⟨bb, off, rfl, ha⟩ := HX.out (by rintro rfl; simp at hk)
      obtain ⟨-, u, -, -, c3, hrg⟩ := (ha.below HB5.out) k (nm, pt, rg) hk
      have hrl := (FIT.out.st (nm, pt, rg) (List.mem_of_getElem? hk)).2
      simp only at c3 hrg hrl
      obtain ⟨A4, c4, rfl, -, -⟩ := id hrg
      have CL := Lib.hid (clone_p (.slice A4 rg.length c4) rg hrl w5 hrg)
      have P1 := Lib.hid (fun h => HP1.out (nm, pt, rg) hfnd h)
      have P2 := Lib.hid (fun f h => HP2.out (nm, pt, rg) f hfnd h)
      simp only at P1 P2
      obtain ⟨m, hm⟩ : ∃ m, rg.length = m := ⟨_, rfl⟩
      rw [hm] at CL c3
      have HM := Lib.hid hm
      clear hk hfnd ha hrg hrl hm HPN HP1 HP2
      go_wp2_with fail
      refine CL.out.mono ?_; rintro _ w6 ⟨A6, c6, rfl, hn6, hb6⟩
      have k0 := cellb hb6 k0
      have k1 := cellb hb6 k1
      have hb7 := alloc_below w6 (.cells #[.slice A6 m c6, .int .i64 1, .int .i64 500000] 41)
      have D7 : DVar (w6.alloc (.cells #[.slice A6 m c6, .int .i64 1, .int .i64 500000] 41)) w6.heap.size 3 := DVar.alloc _ _
      have v0 : (w6.alloc (.cells #[.slice A6 m c6, .int .i64 1, .int .i64 500000] 41)).cell? ⟨w6.heap.size, 0, none⟩ = some (.slice A6 m c6) := cell_of_row _ _ 0 _ _ (0, 0) (heap_alloc_new w6 _)
      have v1 : (w6.alloc (.cells #[.slice A6 m c6, .int .i64 1, .int .i64 500000] 41)).cell? ⟨w6.heap.size, 1, none⟩ = some (.int .i64 1) := cell_of_row _ _ 1 _ _ (0, 0) (heap_alloc_new w6 _)
      have v2 : (w6.alloc (.cells #[.slice A6 m c6, .int .i64 1, .int .i64 500000] 41)).cell? ⟨w6.heap.size, 2, none⟩ = some (.int .i64 500000) := cell_of_row _ _ 2 _ _ (0, 0) (heap_alloc_new w6 _)
      have H7 := Lib.hid (H5.out.below (bnext hb6 hb7))
      have HB7 := Lib.hid (bnext HB5.out (bnext hb6 hb7))
      have k0 := cellb hb7 k0
      have k1 := cellb hb7 k1
      have D8 := D5.below (bnext hb6 hb7)
      have N6 := Lib.hid hn6
      have z6 := hb6.size
      clear H5 CL hn6 D5
      go_wp2_with fail
      refine (XF.out (by omega) w3.heap.size wb.heap.size _ H7.out HB7.out).mono ?_; rintro _ w8 ⟨i, rfl, hi, hb8⟩
      have k0 := cellb hb8 k0
      have k1 := cellb hb8 k1
      have D9 := D8.below hb8
      have DV := D7.below hb8
      have v0 := cellb hb8 v0
      have v1 := cellb hb8 v1
      have v2 := cellb hb8 v2
      have HB8 := Lib.hid (bnext HB7.out hb8)
      have z8 := hb8.size
      have z7 : (w6.alloc (.cells #[.slice A6 m c6, .int .i64 1, .int .i64 500000] 41)).heap.size = w6.heap.size + 1 := by simp
      -- the copied archives, whatever is stored in the two variables
      have KEEP := Lib.hid (show ∀ (W : World), (∀ g, g ≠ wp.heap.size → g ≠ w6.heap.size → W.heap[g]? = w8.heap[g]?) → RgOut W (.slice A6 m c6) rg from fun W hW => by
        have h := (N6.out.below (bnext hb7 hb8))
        refine (h.keep fun g hg hl ho => hW g (by omega) ?_).out
        have := (own_lt (by have h2 := N6.out; unfold RgNew at h2; exact h2) ho).2
        omega)
      have OUT := Lib.hid (show ∀ (W : World) (me fa : Int), S.1 = (rg, me, fa) → (∀ g, g ≠ wp.heap.size → g ≠ w6.heap.size → W.heap[g]? = w8.heap[g]?) → SchOut W (.agg #[.slice A6 m c6, .int .i64 me, .int .i64 fa]) S.1 from fun W me fa hS hW => by
        rw [hS]
        exact ⟨A6, c6, by rw [HM.out], by have := KEEP.out W hW; simp only; rw [HM.out]; exact this⟩)
      have nep : wp.heap.size ≠ w6.heap.size := by omega
      obtain ⟨x0, p0⟩ := D9.c 0 (by decide); obtain ⟨x1, p1⟩ := D9.c 1 (by decide); obtain ⟨x2, p2⟩ := D9.c 2 (by decide)
      have f0 := D9.f 0 (by decide); have f1 := D9.f 1 (by decide); have f2 := D9.f 2 (by decide)
      have g0 := DV.f 0 (by decide); have g1 := DV.f 1 (by decide); have g2 := DV.f 2 (by decide)
      clear D7 D8 D9 DV KEEP N6 hb7 hb8 H7
      rcases hi with ⟨j, ⟨nf, pf, fa, me⟩, rfl, hj, hfnd⟩ | ⟨rfl, hfnd⟩
      · have hjq : j < q := by rw [← HQ.out]; exact (List.getElem?_eq_some_iff.1 hj).1
        obtain ⟨b2, off2, rfl, ha⟩ := HX2.out (by rintro rfl; simp at hj)
        obtain ⟨-, -, -, e2, e3⟩ := (ha.below HB8.out) j (nf, pf, fa, me) hj
        have SS := Lib.hid (SV.out.trans (P2.out (nf, pf, fa, me) hfnd))
        simp only at e2 e3
        clear hj hfnd ha P1 P2
        go_wp2_with fail
        go_region
        have u0 : ((w8.setCell ⟨w6.heap.size, 1, none⟩ (.int .i64 me)).setCell ⟨w6.heap.size, 2, none⟩ (.int .i64 fa)).drew.cell? ⟨w6.heap.size, 0, none⟩ = some (.slice A6 m c6) := by go_simp
        have u1 : ((w8.setCell ⟨w6.heap.size, 1, none⟩ (.int .i64 me)).setCell ⟨w6.heap.size, 2, none⟩ (.int .i64 fa)).drew.cell? ⟨w6.heap.size, 1, none⟩ = some (.int .i64 me) := by go_simp
        have u2 : ((w8.setCell ⟨w6.heap.size, 1, none⟩ (.int .i64 me)).setCell ⟨w6.heap.size, 2, none⟩ (.int .i64 fa)).drew.cell? ⟨w6.heap.size, 2, none⟩ = some (.int .i64 fa) := by go_simp
        have p0' : ((w8.setCell ⟨w6.heap.size, 1, none⟩ (.int .i64 me)).setCell ⟨w6.heap.size, 2, none⟩ (.int .i64 fa)).drew.cell? ⟨wp.heap.size, 0, none⟩ = some x0 := by go_simp
        have p1' : ((w8.setCell ⟨w6.heap.size, 1, none⟩ (.int .i64 me)).setCell ⟨w6.heap.size, 2, none⟩ (.int .i64 fa)).drew.cell? ⟨wp.heap.size, 1, none⟩ = some x1 := by go_simp
        have p2' : ((w8.setCell ⟨w6.heap.size, 1, none⟩ (.int .i64 me)).setCell ⟨w6.heap.size, 2, none⟩ (.int .i64 fa)).drew.cell? ⟨wp.heap.size, 2, none⟩ = some x2 := by go_simp
        have f0' : ((w8.setCell ⟨w6.heap.size, 1, none⟩ (.int .i64 me)).setCell ⟨w6.heap.size, 2, none⟩ (.int .i64 fa)).drew.frozen? ⟨wp.heap.size, 0, none⟩ = false := by go_simp
        have f1' : ((w8.setCell ⟨w6.heap.size, 1, none⟩ (.int .i64 me)).setCell ⟨w6.heap.size, 2, none⟩ (.int .i64 fa)).drew.frozen? ⟨wp.heap.size, 1, none⟩ = false := by go_simp
        have f2' : ((w8.setCell ⟨w6.heap.size, 1, none⟩ (.int .i64 me)).setCell ⟨w6.heap.size, 2, none⟩ (.int .i64 fa)).drew.frozen? ⟨wp.heap.size, 2, none⟩ = false := by go_simp
        have hbz : Below w.heap.size w ((w8.setCell ⟨w6.heap.size, 1, none⟩ (.int .i64 me)).setCell ⟨w6.heap.size, 2, none⟩ (.int .i64 fa)).drew := (below_put1 (below_put1 HB8.out (by omega) _) (by omega) _).drew
        have hkz : ∀ g, g ≠ w6.heap.size → ((w8.setCell ⟨w6.heap.size, 1, none⟩ (.int .i64 me)).setCell ⟨w6.heap.size, 2, none⟩ (.int .i64 fa)).drew.heap[g]? = w8.heap[g]? := fun g hg => (Below.heap_setCell _ _ _ g hg).trans (Below.heap_setCell _ _ _ g hg)
        generalize ((w8.setCell ⟨w6.heap.size, 1, none⟩ (.int .i64 me)).setCell ⟨w6.heap.size, 2, none⟩ (.int .i64 fa)).drew = wz at *
        have PUT := Lib.hid (fun x y z => below_puts3 hbz GEP.out x y z)
        have HKZ := Lib.hid hkz
        clear p0 p1 p2 f0 f1 f2 v0 v1 v2 g0 g1 g2 e2 e3 hbz hkz k0 k1
        go_wp2
        have q0 : ((((wz.setCell ⟨wp.heap.size, 0, none⟩ (.slice A6 m c6)).setCell ⟨wp.heap.size, 1, none⟩ (.int .i64 me)).setCell ⟨wp.heap.size, 2, none⟩ (.int .i64 fa))).cell? ⟨wp.heap.size, 0, none⟩ = some (.slice A6 m c6) := by go_simp
        have q1 : ((((wz.setCell ⟨wp.heap.size, 0, none⟩ (.slice A6 m c6)).setCell ⟨wp.heap.size, 1, none⟩ (.int .i64 me)).setCell ⟨wp.heap.size, 2, none⟩ (.int .i64 fa))).cell? ⟨wp.heap.size, 1, none⟩ = some (.int .i64 me) := by go_simp
        have q2 : ((((wz.setCell ⟨wp.heap.size, 0, none⟩ (.slice A6 m c6)).setCell ⟨wp.heap.size, 1, none⟩ (.int .i64 me)).setCell ⟨wp.heap.size, 2, none⟩ (.int .i64 fa))).cell? ⟨wp.heap.size, 2, none⟩ = some (.int .i64 fa) := by go_simp
        exact bodyPost_ret (v := .tuple #[.agg #[.slice A6 m c6, .int .i64 me, .int .i64 fa], .int .i64 0]) (by simp [results, Tryz.results19, go_sem, q0, q1, q2]) rfl ⟨_, ret_find (by rw [SS.out]), OUT.out _ me fa (by rw [SS.out]) (fun g h1 h2 => (Below.heap_setCell _ _ _ g h1).trans ((Below.heap_setCell _ _ _ g h1).trans ((Below.heap_setCell _ _ _ g h1).trans (HKZ.out g h2)))), PUT.out _ _ _⟩
      · have SS := Lib.hid (SV.out.trans (P1.out hfnd))
        have PUT := Lib.hid (fun x y z => below_puts3 HB8.out GEP.out x y z)
        clear hfnd P1 P2
        go_wp2
        have q0 : ((((w8.setCell ⟨wp.heap.size, 0, none⟩ (.slice A6 m c6)).setCell ⟨wp.heap.size, 1, none⟩ (.int .i64 1)).setCell ⟨wp.heap.size, 2, none⟩ (.int .i64 500000))).cell? ⟨wp.heap.size, 0, none⟩ = some (.slice A6 m c6) := by go_simp
        have q1 : ((((w8.setCell ⟨wp.heap.size, 0, none⟩ (.slice A6 m c6)).setCell ⟨wp.heap.size, 1, none⟩ (.int .i64 1)).setCell ⟨wp.heap.size, 2, none⟩ (.int .i64 500000))).cell? ⟨wp.heap.size, 1, none⟩ = some (.int .i64 1) := by go_simp
        have q2 : ((((w8.setCell ⟨wp.heap.size, 0, none⟩ (.slice A6 m c6)).setCell ⟨wp.heap.size, 1, none⟩ (.int .i64 1)).setCell ⟨wp.heap.size, 2, none⟩ (.int .i64 500000))).cell? ⟨wp.heap.size, 2, none⟩ = some (.int .i64 500000) := by go_simp
        exact bodyPost_ret (v := .tuple #[.agg #[.slice A6 m c6, .int .i64 1, .int .i64 500000], .int .i64 0]) (by simp [results, Tryz.results19, go_sem, q0, q1, q2]) rfl ⟨_, ret_find (by rw [SS.out]), OUT.out _ 1 500000 (by rw [SS.out]) (fun g h1 h2 => (Below.heap_setCell _ _ _ g h1).trans ((Below.heap_setCell _ _ _ g h1).trans (Below.heap_setCell _ _ _ g h1))), PUT.out _ _ _⟩
    · have SS := Lib.hid (SV.out.trans (HPN.out hfnd))
      obtain ⟨x0, p0⟩ := D5.c 0 (by decide); obtain ⟨x1, p1⟩ := D5.c 1 (by decide); obtain ⟨x2, p2⟩ := D5.c 2 (by decide)
      have f0 := D5.f 0 (by decide); have f1 := D5.f 1 (by decide); have f2 := D5.f 2 (by decide)
      have PUT := Lib.hid (fun x y z => below_puts3 HB5.out GEP.out x y z)
      clear D5 hfnd HPN HP1 HP2
      go_wp2
      have q0 : ((((w5.setCell ⟨wp.heap.size, 0, none⟩ (.slice none 0 0)).setCell ⟨wp.heap.size, 1, none⟩ (.int .i64 0)).setCell ⟨wp.heap.size, 2, none⟩ (.int .i64 0))).cell? ⟨wp.heap.size, 0, none⟩ = some (.slice none 0 0) := by go_simp
      have q1 : ((((w5.setCell ⟨wp.heap.size, 0, none⟩ (.slice none 0 0)).setCell ⟨wp.heap.size, 1, none⟩ (.int .i64 0)).setCell ⟨wp.heap.size, 2, none⟩ (.int .i64 0))).cell? ⟨wp.heap.size, 1, none⟩ = some (.int .i64 0) := by go_simp
      have q2 : ((((w5.setCell ⟨wp.heap.size, 0, none⟩ (.slice none 0 0)).setCell ⟨wp.heap.size, 1, none⟩ (.int .i64 0)).setCell ⟨wp.heap.size, 2, none⟩ (.int .i64 0))).cell? ⟨wp.heap.size, 2, none⟩ = some (.int .i64 0) := by go_simp
      exact bodyPost_ret (v := .tuple #[.agg #[.slice none 0 0, .int .i64 0, .int .i64 0], .int .i64 15]) (by simp [results, Tryz.results19, go_sem, q0, q1, q2]) rfl ⟨_, ret_find (by rw [SS.out]), by rw [SS.out]; exact SchOut.none _, PUT.out _ _ _⟩
end LP
end Go.Proofs.YtodlgbihdehmbaaGreatDoor
