/-
  Contracts of the program's functions of layer 10: numbers, amounts, spans.
-/
import Derived.Test.YtjbacbbbhedmlaaDoorRetPA
import Derived.Test.YtjbacbbbhedmlaaDoorRetRB
import Derived.Test.YtjbacbbbhedmlaaDoorRetRE
set_option linter.unusedSimpArgs false
set_option linter.unusedVariables false
namespace Go.Proofs.YtjbacbbbhedmlaaDoor.RP
open Go.RowKit RR
set_option maxRecDepth 100000 in
set_option maxHeartbeats 1000000 in
theorem number_c (s : ByteArray) (hs : s.size ≤ 9223372036854775807) (w : World) :
    Calls Tryd.prog 43 #[.string s] w fun e w' => e = .returned (.tuple #[.int .i64 (if allD (bs s) = true then capV (bs s) else 0 : Nat), .bool (allD (bs s) && !(bs s).isEmpty)]) ∧ w = w' := by
  obtain ⟨z, hz⟩ : ∃ z, s.toList.isEmpty = z := ⟨_, rfl⟩
  have HZ := Lib.hid (show (bs s).isEmpty = z from by
    rw [← hz, ByteArray.toList_eq]
    simp [bs])
  obtain ⟨A, hA⟩ : ∃ A, (if allD (bs s) = true then capV (bs s) else 0 : Nat) = A := ⟨_, rfl⟩
  obtain ⟨d, hd⟩ : ∃ d, (allD (bs s) && !(bs s).isEmpty) = d := ⟨_, rfl⟩
  rw [hA, hd]
  have HA := Lib.hid hA; have HD := Lib.hid hd
  clear hA hd
  go_enter Tryd.func43, Tryd.ntmps43
  go_wp2
  go_loop [4, 8] (fun n i => ∃ (k : Nat) (N : Int), k ≤ s.size ∧ i = .int .i64 k ∧ n = .int .i64 N ∧ 0 ≤ N ∧ N ≤ 1099511627777 ∧ Hid (N = (capV ((bs s).take k) : Nat) ∧ ∀ j, j < k → isD (byteAt (bs s) j) = true)) (fun _ i => s.size - (intOf i).toNat)
  case atStart => exact ⟨0, 0, Nat.zero_le _, rfl, rfl, by omega, by omega, rfl, fun j h => absurd h (Nat.not_lt_zero j)⟩
  case round =>
    obtain ⟨k, N, hk, rfl, rfl, hN0, hN1, HI⟩ := hrel
    by_cases hlt : k < s.size
    · obtain ⟨c, hc⟩ : ∃ c, byteAt (bs s) k = c := ⟨_, rfl⟩
      have hb : (s[k]'hlt).toNat = c := (at_byte hlt).trans hc
      have hc1 : c ≤ 255 := by rw [← hc]; exact byte_le s k
      have hlt' : k < (bs s).length := by rw [bs_length]; exact hlt
      have HC := Lib.hid hc
      have STOP := Lib.hid (show isD c = false → A = 0 ∧ d = false from fun h => by
        have hn := allD_no hlt' (by rw [hc]; exact h)
        rw [← HA.out, ← HD.out, hn]
        exact ⟨rfl, rfl⟩)
      have hv := capV_snoc ((bs s).take k) c
      rw [← hc, ← take_snoc hlt', hc] at hv
      have HV := Lib.hid hv
      clear hc hlt' hv
      by_cases h1 : 48 ≤ c
      · by_cases h2 : c ≤ 57
        · have hdc := Lib.hid (show isD (c : Int) = true by simp [isD]; omega)
          obtain ⟨M, hM⟩ : ∃ M, min (N * 10 + ((c : Int) - 48)) 1099511627777 = M := ⟨_, rfl⟩
          have hM0 : 0 ≤ M := by omega
          have hM1 : M ≤ 1099511627777 := by omega
          have HMV := Lib.hid (show M = (capV ((bs s).take (k + 1)) : Nat) by
            rw [HV.out]
            have := HI.out.1
            omega)
          go_wp2
          refine ⟨⟨k + 1, M, by omega, by go_num, ?_, hM0, hM1, HMV.out, fun j hj => ?_⟩, by simp [intOf]; omega⟩
          · congr 1
            rw [← hM]
            split <;> omega
          · by_cases he : j = k
            · rw [he, HC.out]; exact hdc.out
            · exact HI.out.2 j (by omega)
        · obtain ⟨rfl, rfl⟩ := STOP.out (by simp [isD]; omega)
          go_wp2
          go_ret2
          exact ⟨rfl, rfl⟩
      · obtain ⟨rfl, rfl⟩ := STOP.out (by simp [isD]; omega)
        go_wp2
        go_ret2
        exact ⟨rfl, rfl⟩
    · obtain rfl : k = s.size := by omega
      have hall : allD (bs s) = true := allD_yes fun j hj => HI.out.2 j (by rw [bs_length] at hj; exact hj)
      have hT : (bs s).take s.size = bs s := by rw [← bs_length, List.take_length]
      have EA := Lib.hid (show N = (A : Int) by rw [← HA.out, if_pos hall, HI.out.1, hT])
      have ED := Lib.hid (show (!z) = d by rw [← HD.out, hall, HZ.out]; rfl)
      clear hall hT
      go_wp2
      go_ret2
      exact ⟨ret_ib EA.out ED.out, rfl⟩
/-- What the program says of an amount. -/
def amP (l : List Nat) : Int × Bool × Bool := match amt l with
  | none => (0, false, false)
  | some (n, s) => ((min n 1099511627777 : Nat), s, true)
theorem ret_ibb {a b : Int} {x y p q : Bool} (h : a = b) (k : x = y) (j : p = q) : Ending.returned (.tuple #[.int .i64 a, .bool x, .bool p]) = .returned (.tuple #[.int .i64 b, .bool y, .bool q]) := by rw [h, k, j]
theorem t40 (u : Nat) : Int.tdiv (1099511627776 : Int) (u : Int) = ((1099511627776 / u : Nat) : Int) := by
  rw [Int.tdiv_eq_ediv_of_nonneg (by decide)]; exact q40 u
theorem far_cap {v u : Nat} (hu : 0 < u) (h : 1099511627776 / u < min v 1099511627777) : min (v * u) 1099511627777 = 1099511627777 := by
  have := span_far hu h; omega
theorem near_cap {v u : Nat} (hu : 0 < u) (h : ¬ 1099511627776 / u < min v 1099511627777) : min v 1099511627777 * u = min (v * u) 1099511627777 ∧ min v 1099511627777 * u ≤ 1099511627776 := by
  obtain ⟨h1, h2⟩ := span_near hu h
  rw [h1]; omega
set_option maxRecDepth 100000 in
set_option maxHeartbeats 2000000 in
theorem amount_c (s : ByteArray) (hs : s.size ≤ 9223372036854775807) (w : World) (g : G w) :
    Calls Tryd.prog 25 #[.string s] w fun e w' => e = .returned (.tuple #[.int .i64 (amP (bs s)).1, .bool (amP (bs s)).2.1, .bool (amP (bs s)).2.2]) ∧ Below w.heap.size w w' := by
  obtain ⟨z, hz⟩ : ∃ z, s.toList.isEmpty = z := ⟨_, rfl⟩
  have HZ := Lib.hid (show z = true ↔ bs s = [] from by rw [← hz]; exact bs_nil_iff s)
  obtain ⟨⟨x1, x2, x3⟩, hX⟩ : ∃ X, amP (bs s) = X := ⟨_, rfl⟩
  have hV : amP (bs s) = match amt (bs s) with
    | none => (0, false, false)
    | some (n, s) => ((min n 1099511627777 : Nat), s, true) := rfl
  rw [hX] at hV ⊢
  have hnone : amt (bs s) = none → x1 = 0 ∧ x2 = false ∧ x3 = false := fun h => by
    rw [h] at hV
    injection hV with h1 h2
    injection h2 with h2 h3
    exact ⟨h1, h2, h3⟩
  have hsome : ∀ n b, amt (bs s) = some (n, b) → x1 = ((min n 1099511627777 : Nat) : Int) ∧ x2 = b ∧ x3 = true := fun n b h => by
    rw [h] at hV
    injection hV with h1 h2
    injection h2 with h2 h3
    exact ⟨h1, h2, h3⟩
  have HN := Lib.hid hnone; have HS := Lib.hid hsome
  clear hV hX hnone hsome
  have nw := fun W => number_c s hs W
  cases z
  · have hne : bs s ≠ [] := fun e => by have := HZ.out.2 e; cases this
    have hp : 0 < s.size := by rw [← bs_length]; exact List.length_pos_iff.2 hne
    have hl : s.size - 1 < s.size := by omega
    obtain ⟨c, hc⟩ : ∃ c, byteAt (bs s) (s.size - 1) = c := ⟨_, rfl⟩
    have hb : (s[s.size - 1]'hl).toNat = c := (at_byte hl).trans hc
    have hc1 : c ≤ 255 := by rw [← hc]; exact byte_le s _
    have hlast : lastB (bs s) = c := by unfold lastB; rw [bs_length, hc]
    have hq1 : (s.size : Int) - 1 = ((s.size - 1 : Nat) : Int) := by omega
    have hin := str_init s
    have hbb : bs (str (bs s).dropLast) = (bs s).dropLast := bs_str (fun c hc => bs_small s c (List.dropLast_subset _ hc))
    have hsz : (str (bs s).dropLast).size ≤ 9223372036854775807 := by rw [str_size, List.length_dropLast, bs_length]; omega
    have nd := fun W => number_c (str (bs s).dropLast) hsz W
    rw [hbb] at nd
    have uw := unitOf_c c hc1 w g
    by_cases hu : un c = 0
    · rw [hu] at uw
      have hA : amt (bs s) = if allD (bs s) = true ∧ bs s ≠ [] then some (val (bs s), false) else none := by
        unfold amt; rw [hlast, if_neg (by rw [hu]; simp)]
      obtain ⟨o, ho⟩ : ∃ o, (allD (bs s) && !(bs s).isEmpty) = o := ⟨_, rfl⟩
      obtain ⟨m, hm⟩ : ∃ m, (if allD (bs s) = true then capV (bs s) else 0 : Nat) = m := ⟨_, rfl⟩
      have hie : (bs s).isEmpty = false := by simpa using hne
      have NONE := Lib.hid (show o = false → x1 = 0 ∧ x2 = false ∧ x3 = false from fun h => HN.out (by
        rw [hA, if_neg]
        rintro ⟨h1, -⟩
        rw [← ho, h1, hie] at h; cases h))
      obtain ⟨v, hv⟩ : ∃ v, val (bs s) = v := ⟨_, rfl⟩
      have SOME := Lib.hid (show o = true → x1 = ((min (v * 1) 1099511627777 : Nat) : Int) ∧ x2 = false ∧ x3 = true from fun h => by
        rw [← ho, Bool.and_eq_true] at h
        rw [Nat.mul_one, ← hv]
        exact HS.out _ _ (by rw [hA, if_pos ⟨h.1, hne⟩]))
      have HMV := Lib.hid (show o = true → min v 1099511627777 = m from fun h => by
        rw [← ho, Bool.and_eq_true] at h
        rw [← hm, if_pos h.1, ← hv]; rfl)
      rw [ho, hm] at nw
      have hm1 : m ≤ 1099511627777 := by rw [← hm]; split; exact capV_le _; omega
      have UP := Lib.hid (show 0 < 1 by decide)
      have UW := Lib.hid uw; have NW := Lib.hid nw
      generalize s.size - 1 = k at *
      clear uw nw nd ho hm hv hA hie hne hbb hsz hin hlast hc HN HS g HZ hu
      go_enter Tryd.func25, Tryd.ntmps25
      go_wp2_with fail
      refine UW.out.mono ?_; rintro _ w1 ⟨rfl, hb1⟩
      have BEL := Lib.hid hb1
      clear hb1 UW
      simp only [if_true, ne_eq, not_true_eq_false, decide_false]
      go_wp2_with fail
      refine (NW.out _).mono ?_; rintro _ w2 ⟨rfl, rfl⟩
      clear NW
      cases o
      · obtain ⟨e1, e2, e3⟩ := NONE.out rfl
        subst e1 e2 e3
        go_wp2
        refine bodyPost_ret (results_tmp3 rfl _ _ _) rfl ?_
        exact ⟨rfl, BEL.out⟩
      · obtain ⟨e1, e2, e3⟩ := SOME.out rfl
        subst e2 e3
        have hmv := HMV.out rfl
        rw [Nat.mul_one, hmv] at e1
        subst e1
        clear hmv
        by_cases hf : 1099511627776 < m
        · have hm2 : m = 1099511627777 := by omega
          have E1 := Lib.hid (show (1099511627777 : Int) = (m : Int) by omega)
          have hfi : (1099511627776 : Int) < (m : Int) := by omega
          clear hm2 hf
          go_wp2
          refine bodyPost_ret (results_tmp3 rfl _ _ _) rfl ?_
          exact ⟨ret_ibb E1.out rfl rfl, BEL.out⟩
        · have hfi : (m : Int) ≤ 1099511627776 := by omega
          clear hf
          go_wp2
          refine bodyPost_ret (results_tmp3 rfl _ _ _) rfl ?_
          exact ⟨rfl, BEL.out⟩
    · rw [if_neg hu, decide_eq_true hu] at uw
      have hA : amt (bs s) = if allD (bs s).dropLast = true ∧ (bs s).dropLast ≠ [] then some (val (bs s).dropLast * un c, true) else none := by
        unfold amt; rw [hlast, if_pos hu]
      obtain ⟨o, ho⟩ : ∃ o, (allD (bs s).dropLast && !(bs s).dropLast.isEmpty) = o := ⟨_, rfl⟩
      obtain ⟨m, hm⟩ : ∃ m, (if allD (bs s).dropLast = true then capV (bs s).dropLast else 0 : Nat) = m := ⟨_, rfl⟩
      have NONE := Lib.hid (show o = false → x1 = 0 ∧ x2 = false ∧ x3 = false from fun h => HN.out (by
        rw [hA, if_neg]
        rintro ⟨h1, h2⟩
        rw [← ho, h1, Bool.true_and] at h
        rw [Bool.not_eq_false', List.isEmpty_iff] at h
        exact h2 h))
      obtain ⟨v, hv⟩ : ∃ v, val (bs s).dropLast = v := ⟨_, rfl⟩
      obtain ⟨U, hU⟩ : ∃ U, un c = U := ⟨_, rfl⟩
      have hU1 : U ≤ 31536000 := by rw [← hU]; exact un_le c
      have UP := Lib.hid (show 0 < U by omega)
      rw [hU] at uw hA
      have SOME := Lib.hid (show o = true → x1 = ((min (v * U) 1099511627777 : Nat) : Int) ∧ x2 = true ∧ x3 = true from fun h => by
        rw [← ho, Bool.and_eq_true] at h
        rw [← hv]
        refine HS.out _ _ (by rw [hA, if_pos ⟨h.1, fun e => ?_⟩])
        rw [e] at h
        exact absurd h.2 (by decide))
      have HMV := Lib.hid (show o = true → min v 1099511627777 = m from fun h => by
        rw [← ho, Bool.and_eq_true] at h
        rw [← hm, if_pos h.1, ← hv]; rfl)
      rw [ho, hm] at nd
      have hm1 : m ≤ 1099511627777 := by rw [← hm]; split; exact capV_le _; omega
      have UI : ((U : Int) == 0) = false := by rw [beq_eq_false_iff_ne]; have := UP.out; omega
      have UW := Lib.hid uw; have ND := Lib.hid nd
      generalize str (bs s).dropLast = D at *
      generalize s.size - 1 = k at *
      clear uw nw nd ho hm hv hA hne hbb hsz hlast hc HN HS g HZ hu hU
      go_enter Tryd.func25, Tryd.ntmps25
      go_wp2_with fail
      refine UW.out.mono ?_; rintro _ w1 ⟨rfl, hb1⟩
      have BEL := Lib.hid hb1
      clear hb1 UW
      go_wp2_with fail
      refine (ND.out _).mono ?_; rintro _ w2 ⟨rfl, rfl⟩
      clear ND
      cases o
      · obtain ⟨e1, e2, e3⟩ := NONE.out rfl
        subst e1 e2 e3
        go_wp2
        refine bodyPost_ret (results_tmp3 rfl _ _ _) rfl ?_
        exact ⟨rfl, BEL.out⟩
      · obtain ⟨e1, e2, e3⟩ := SOME.out rfl
        subst e2 e3
        have hq := q40 U
        have ht := t40 U
        have hU0 : ¬ U = 0 := by have := UP.out; omega
        have hqle : 1099511627776 / U ≤ 1099511627776 := Nat.div_le_self _ _
        have far := far_cap (v := v) (u := U) UP.out
        have near := near_cap (v := v) (u := U) UP.out
        rw [HMV.out rfl] at far near
        generalize 1099511627776 / U = q at *
        by_cases hf : q < m
        · have E1 := Lib.hid (e1.trans (congrArg Int.ofNat (far hf)))
          clear far near e1
          go_wp2
          refine bodyPost_ret (results_tmp3 rfl _ _ _) rfl ?_
          exact ⟨ret_ibb E1.out.symm rfl rfl, BEL.out⟩
        · obtain ⟨n1, n2⟩ := near hf
          have hmi : (m : Int) * (U : Int) ≤ 1099511627776 := by rw [← Int.natCast_mul]; omega
          have hmi0 : (0 : Int) ≤ (m : Int) * (U : Int) := by rw [← Int.natCast_mul]; omega
          have E1 := Lib.hid (show (m : Int) * (U : Int) = x1 by rw [e1, ← n1]; exact (Int.natCast_mul m U).symm)
          generalize hmul : (m : Int) * (U : Int) = MU at *
          clear far near e1 n1 n2
          go_wp2
          refine bodyPost_ret (results_tmp3 rfl _ _ _) rfl ?_
          exact ⟨ret_ibb E1.out rfl rfl, BEL.out⟩
  · have he : bs s = [] := HZ.out.1 rfl
    obtain ⟨rfl, rfl, rfl⟩ := HN.out (by rw [he]; exact amt_nil)
    rw [he] at nw
    have NW := Lib.hid nw
    clear HZ HN HS nw he
    go_enter Tryd.func25, Tryd.ntmps25
    go_wp2_with fail
    refine (NW.out _).mono ?_; rintro _ w2 ⟨rfl, rfl⟩
    go_wp2
    refine bodyPost_ret (results_tmp3 rfl _ _ _) rfl ?_
    exact ⟨rfl, Below.refl _ _⟩
end Go.Proofs.YtjbacbbbhedmlaaDoor.RP
