/-
  Contracts of the program's functions of layer 13: spans.
-/
import Derived.Test.YtkgajlklhcmmcaaRinPE
set_option linter.unusedSimpArgs false
set_option linter.unusedVariables false
namespace Go.Proofs.Ytkgajlklhcmmcaa.IP
open Go.RowKit
theorem upward_c (s t : Int) (A : Option Addr) (n c : Nat) (hs : 1 ≤ s ∧ s ≤ 86400) (ht : 0 ≤ t ∧ t ≤ 1099511627776) (w : World) :
    Calls Try.prog 43 #[.agg #[.int .i64 s, .slice A n c], .int .i64 t] w fun e w' => e = .returned (.int .i64 (rUp s t * s)) ∧ Below w.heap.size w w' := by
  obtain ⟨u0, u1, u2⟩ := rUp_facts hs.1 ht.1
  obtain ⟨q, hq⟩ : ∃ q, rUp s t = q := ⟨_, rfl⟩
  rw [hq] at u0 u1 u2
  have hq2 : (t + s - 1) / s = q := hq
  obtain ⟨p, hp⟩ : ∃ p, q * s = p := ⟨_, rfl⟩
  rw [hp] at u1 u2
  have HP := Lib.hid (show rUp s t * s = p from by rw [hq, hp])
  rw [HP.out]
  obtain ⟨m, hm⟩ : ∃ m, t + s = m := ⟨_, rfl⟩
  rw [hm] at hq2
  have w1 : IntKind.i64.wrap (t + s) = m := by rw [hm, IntKind.wrap_i64]; omega
  have w2 : IntKind.i64.wrap (m - 1) = m - 1 := by rw [IntKind.wrap_i64]; omega
  have w3 : IntKind.i64.wrap (q * s) = p := by rw [hp, IntKind.wrap_i64]; omega
  have m0 : 0 ≤ m - 1 := by omega
  have s0 : 0 < s := by omega
  have q1 : q ≤ 1099511800000 := by rw [← hq2]; exact Int.le_trans (Int.ediv_le_self _ (by omega)) (by omega)
  have HF := Lib.hid (show RowKit.wrap64 (RowKit.wrap64 ((m - 1).tdiv s) * s) = p from by
    rw [Int.tdiv_eq_ediv_of_nonneg m0, hq2, IntWalk.wrap64_in q (by omega), hp, IntWalk.wrap64_in p (by omega)])
  clear hq hm hp
  go_enter Try.func43, Try.ntmps43
  go_wp2_with fail
  go_region
  go_wp2
  go_ret
  exact ⟨congrArg (fun z => Ending.returned (.int .i64 z)) HF.out, (alloc_below _ _).drew⟩
/-- One number more behind a row of one's own. -/
theorem nu_more {B0 : Nat} {w1 w2 : World} {A : Option Addr} {q c : Nat} {L : List (Option Int)} {o : Option Int} {b : Bool} {v : Int} (hb : b = o.isNone) (hv : v = o.getD 0) (h : NuNew B0 w2 (.slice A q c) L) (hq : L.length = q) (hB : Below B0 w1 w2) (hsz : B0 ≤ w2.heap.size) :
    ∀ (W' : World) (v' : Value), W'.ownsRow B0 61 2 v' (q + 1) (nusC L ++ [.bool b, .int .i64 v]) → (w2.alloc (.cells #[.bool b, .int .i64 v] 61)).grownBy W' (Value.slice A q c).ownBlock → NuNew B0 W' v' (L ++ [o]) ∧ Below B0 w1 W' := fun W' v' ho hg => by
  subst hb hv
  refine ⟨NuNew.push (by rw [hq]; exact ho), (hB.alloc hsz _).grown hg (by simp; omega) (fun j ej => ?_)⟩
  exact (own_lt h ej).1
theorem form_more {B0 q size : Nat} {e : TypeId} {xs : List Value} : ∀ (W' : World) (v' : Value), W'.ownsRow B0 e size v' (q + 1) xs → ∃ A c, v' = .slice A (q + 1) c := fun W' v' h => by
  obtain ⟨A, c, hv, _, _⟩ := own_form h
  exact ⟨A, c, hv⟩
theorem span_go {F E s k : Int} (hs : 1 ≤ s) : (F + k) * s < E * s ↔ F + k < E := ⟨fun h => Int.lt_of_mul_lt_mul_right h (by omega), fun h => Int.mul_lt_mul_of_pos_right h (by omega)⟩
theorem span_quo {F E s : Int} (hs : 1 ≤ s) : (E * s - F * s).tdiv s = E - F := by rw [← Int.sub_mul, Int.mul_tdiv_cancel _ (by omega)]
set_option maxRecDepth 100000 in
set_option maxHeartbeats 4000000 in
theorem span_c (s f u : Int) (v : Value) (l : List (Int × Int)) (hl : l.length ≤ 100000) (w : World) (g : RgOut w v l) :
    Calls Try.prog 20 #[.agg #[.int .i64 s, v], .int .i64 f, .int .i64 u] w fun e w' => ∃ v', e = .returned (.tuple #[v', .int .i64 (rSpan s l f u).2]) ∧ NuNew w.heap.size w' v' (rSpan s l f u).1 ∧ Below w.heap.size w w' := by
  have RC := fun (W : World) (h : Below w.heap.size w W) => right_c s v l (by omega) W (g.below h)
  have VL := fun (hr : rRight s l = true) (a : Int) (ha : 0 ≤ a ∧ a ≤ 1099511714176) (W : World) (h : Below w.heap.size w W) => value_c s a v l hr ha W (g.below h)
  obtain ⟨A, c, rfl, hc, -⟩ := id g
  obtain ⟨n, hn⟩ : ∃ n, l.length = n := ⟨_, rfl⟩
  obtain ⟨S, hS⟩ : ∃ S, rSpan s l f u = S := ⟨_, rfl⟩
  have ITf := Lib.hid (isTime_c f)
  have ITu := Lib.hid (isTime_c u)
  have hRM := fun h => (rRight_iff.1 (show rRight s l = true from h)).1
  have hUP := fun (t : Int) (h1 : 1 ≤ s ∧ s ≤ 86400) (h2 : 0 ≤ t ∧ t ≤ 1099511627776) (W : World) => upward_c s t A n c h1 h2 W
  rw [hn] at RC VL hc hRM
  rw [hS, hn]
  obtain ⟨k0, k1, -, -⟩ := two_new w (.int .i64 s) (.slice A n c) 53
  obtain ⟨wp, hwp⟩ : ∃ wp, w.alloc (.cells #[.int .i64 s, .slice A n c] 53) = wp := ⟨_, rfl⟩
  have hbp := alloc_below w (.cells #[.int .i64 s, .slice A n c] 53)
  rw [hwp] at k0 k1 hbp
  have zp : w.heap.size < wp.heap.size := by rw [← hwp]; simp
  have HWP := Lib.hid hwp
  have KP := Lib.hid hbp
  have RC := Lib.hid (RC wp hbp)
  have HS := Lib.hid hS
  have VL := Lib.hid VL
  clear g hn hwp hbp hS hl
  cases hr : rRight s l
  · obtain rfl : S = ([], 1) := HS.out.symm.trans (rSpan_no (fun h => by rw [hr] at h; cases h.1))
    rw [hr] at RC
    clear hr HS hRM VL hUP
    go_enter Try.func20, Try.ntmps20
    go_wp2_with fail
    rw [HWP.out]
    refine RC.out.mono ?_; rintro _ w1 ⟨rfl, hb1⟩
    have KB := Lib.hid (bnext KP.out hb1)
    go_wp2
    exact bodyPost_ret (v := .tuple #[.slice none 0 0, .int .i64 1]) (by simp [results, Try.results20, go_sem]) rfl ⟨_, rfl, NuNew.nil _ _, KB.out⟩
  · obtain ⟨m1, m2, m3, m4⟩ := rMay_iff.1 (hRM hr)
    rw [hr] at RC
    cases hf : rTm f
    · obtain rfl : S = ([], 1) := HS.out.symm.trans (rSpan_no (fun h => by rw [hf] at h; cases h.2.1))
      rw [hf] at ITf
      clear hr HS hRM VL hUP hf
      go_enter Try.func20, Try.ntmps20
      go_wp2_with fail
      rw [HWP.out]
      refine RC.out.mono ?_; rintro _ w1 ⟨rfl, hb1⟩
      have KB := Lib.hid (bnext KP.out hb1)
      go_wp2_with fail
      refine (ITf.out _).mono ?_; rintro _ w2 ⟨rfl, rfl⟩
      go_wp2
      exact bodyPost_ret (v := .tuple #[.slice none 0 0, .int .i64 1]) (by simp [results, Try.results20, go_sem]) rfl ⟨_, rfl, NuNew.nil _ _, KB.out⟩
    · cases hu : rTm u
      · obtain rfl : S = ([], 1) := HS.out.symm.trans (rSpan_no (fun h => by rw [hu] at h; cases h.2.2))
        rw [hf] at ITf
        rw [hu] at ITu
        clear hr HS hRM VL hUP hf hu
        go_enter Try.func20, Try.ntmps20
        go_wp2_with fail
        rw [HWP.out]
        refine RC.out.mono ?_; rintro _ w1 ⟨rfl, hb1⟩
        have KB := Lib.hid (bnext KP.out hb1)
        go_wp2_with fail
        refine (ITf.out _).mono ?_; rintro _ w2 ⟨rfl, rfl⟩
        go_wp2_with fail
        refine (ITu.out _).mono ?_; rintro _ w3 ⟨rfl, rfl⟩
        go_wp2
        exact bodyPost_ret (v := .tuple #[.slice none 0 0, .int .i64 1]) (by simp [results, Try.results20, go_sem]) rfl ⟨_, rfl, NuNew.nil _ _, KB.out⟩
      · obtain ⟨f0, f1⟩ := rTm_iff.1 hf
        obtain ⟨u0, u1⟩ := rTm_iff.1 hu
        have hS2 := HS.out.symm.trans (rSpan_eq hr hf hu)
        obtain ⟨F, hF⟩ : ∃ F, rUp s f = F := ⟨_, rfl⟩
        obtain ⟨E, hE⟩ : ∃ E, rUp s u = E := ⟨_, rfl⟩
        obtain ⟨F0, F1, F2⟩ := rUp_facts m1 f0
        obtain ⟨E0, E1, E2⟩ := rUp_facts m1 u0
        rw [hF] at F0 F1 F2
        rw [hE] at E0 E1 E2
        have UF := fun (W : World) => hUP f ⟨m1, m2⟩ ⟨f0, f1⟩ W
        have UE := fun (W : World) => hUP u ⟨m1, m2⟩ ⟨u0, u1⟩ W
        rw [hF] at UF
        rw [hE] at UE
        rw [hF, hE] at hS2
        have hEb := hE
        have GO := Lib.hid (fun (k : Int) => @span_go F E s k m1)
        have QU := Lib.hid (@span_quo F E s m1)
        have LT := Lib.hid (fun (k : Int) (h : F + k < E) => (rUp_le (s := s) (t := u) m1).2 (by rw [hEb]; exact h))
        obtain ⟨p, hp⟩ : ∃ p, F * s = p := ⟨_, rfl⟩
        obtain ⟨q, hq⟩ : ∃ q, E * s = q := ⟨_, rfl⟩
        rw [hp] at F1 F2 UF QU
        rw [hq] at E1 E2 UE QU GO
        rw [hf] at ITf
        rw [hu] at ITu
        have HS2 := Lib.hid hS2
        have UF := Lib.hid UF
        have UE := Lib.hid UE
        have VL2 := Lib.hid (VL.out hr)
        have HP := Lib.hid hp
        have SA := Lib.hid (show F ≤ 1099511800000 ∧ E ≤ 1099511800000 from by
          have h1 : F * 1 ≤ F * s := Int.mul_le_mul_of_nonneg_left m1 F0
          have h2 : E * 1 ≤ E * s := Int.mul_le_mul_of_nonneg_left m1 E0
          rw [hp] at h1
          rw [hq] at h2
          omega)
        clear hr hf hu hRM hUP hF hE hEb hS2 hp hq HS VL
        go_enter Try.func20, Try.ntmps20
        go_wp2_with fail
        rw [HWP.out]
        refine RC.out.mono ?_; rintro _ w1 ⟨rfl, hb1⟩
        have k0 := cellb hb1 k0; have k1 := cellb hb1 k1
        have KB := Lib.hid (bnext KP.out hb1)
        have z1 := Nat.lt_of_lt_of_le zp hb1.size
        clear hb1
        go_wp2_with fail
        refine (ITf.out _).mono ?_; rintro _ w2 ⟨rfl, rfl⟩
        go_wp2_with fail
        refine (ITu.out _).mono ?_; rintro _ w3 ⟨rfl, rfl⟩
        go_wp2_with fail
        have Y0 : ∀ z : Laid w1, z.W.cell? ⟨w.heap.size, 0, none⟩ = some (.int .i64 s) := fun z => cellb z.h k0
        have Y1 : ∀ z : Laid w1, z.W.cell? ⟨w.heap.size, 1, none⟩ = some (.slice A n c) := fun z => cellb z.h k1
        refine wp_region_laid (by kernel_rfl) (by kernel_rfl) ?_
        repeat (go_big_quiet_step (first | (go_at_call_of 43 (f); with_reducible exact Calls.laid (UF.out _)) | (go_at_call_of 43 (u); with_reducible exact Calls.laid (UE.out _))))
        refine wpQuiet_nil ?_
        intro _ hw'
        obtain ⟨pq, hw''⟩ := hw'
        subst hw''
        have k0 := Y0 pq; have k1 := Y1 pq
        have KQ := Lib.hid (bnext KB.out pq.h)
        obtain ⟨w4, hw4⟩ : ∃ w4, pq.W = w4 := ⟨_, rfl⟩
        have LW := Lib.hid (Nat.lt_of_lt_of_le z1 pq.h.size)
        rw [hw4] at k0 k1 KQ LW ⊢
        clear Y0 Y1 hw4 z1 KB zp
        have hw1 : IntKind.i64.wrap (q - p) = q - p := by rw [IntKind.wrap_i64]; omega
        have hq1 := QU.out
        obtain ⟨F3, E3⟩ := SA.out
        have HS3 := HS2.out
        by_cases hm : 2000 < E - F
        · have HS4 := Lib.hid (HS3.trans (show rCnt (E - F).toNat _ = ([], 11) from if_pos (by omega)))
          clear HS3
          go_wp2_with fail
          exact bodyPost_ret (v := .tuple #[.slice none 0 0, .int .i64 11]) (by simp [results, Try.results20, go_sem]) rfl ⟨_, by rw [HS4.out], by rw [HS4.out]; exact NuNew.nil _ _, KQ.out⟩
        · have HS4 := Lib.hid (HS3.trans (show rCnt (E - F).toNat _ = _ from if_neg (by omega)))
          clear HS3
          obtain ⟨N, hN⟩ : ∃ N, (E - F).toNat = N := ⟨_, rfl⟩
          rw [hN] at HS4
          have N2 : N ≤ 2000 := by omega
          have HNN := Lib.hid (show ∀ k : Nat, (F + (k : Int) < E ↔ k < N) from fun k => by omega)
          obtain ⟨i0, hi0, hz0, hz1, hz2⟩ := info_parts num_info
          have K0 := Lib.hid k0; have K1 := Lib.hid k1
          have HW := Lib.hid (show w.heap.size ≤ w4.heap.size from Nat.le_of_lt LW.out)
          clear hN
          go_wp2
          clear k0 k1
          go_loopw [10, 11] (fun a i wr => ∃ (k : Nat) (r : Int) (A5 : Option Addr) (c5 : Nat), k ≤ N ∧ i = .int .i64 r ∧ a = .slice A5 k c5 ∧ Hid (r = (F + (k : Int)) * s ∧ NuNew w4.heap.size wr (.slice A5 k c5) ((List.range k).map fun (j : Nat) => rVal s l ((F + (j : Int)) * s)) ∧ Below w4.heap.size w4 wr)) (fun a i _ => (q - intOf i).toNat)
          case atStart => exact ⟨0, p, none, 0, Nat.zero_le _, rfl, rfl, by rw [show ((0 : Nat) : Int) = 0 from rfl, Int.add_zero]; exact HP.out.symm, NuNew.nil _ _, Below.refl _ _⟩
          case round =>
            obtain ⟨k, r, A5, c5, hk, rfl, rfl, HI⟩ := hrel
            have k0 := cellb HI.out.2.2 K0.out
            have k1 := cellb HI.out.2.2 K1.out
            have hiff : r < q ↔ k < N := by rw [HI.out.1, GO.out, HNN.out]
            have r0 : 0 ≤ r := by rw [HI.out.1]; exact Int.mul_nonneg (by omega) (by omega)
            by_cases hlt : k < N
            · have hrq : r < q := hiff.2 hlt
              have V := VL2.out r ⟨r0, by omega⟩ wr (bnext KQ.out HI.out.2.2)
              obtain ⟨o, ho⟩ : ∃ o, rVal s l r = o := ⟨_, rfl⟩
              rw [ho] at V
              obtain ⟨b, hb⟩ : ∃ b, b = o.isNone := ⟨_, rfl⟩
              obtain ⟨z, hz⟩ : ∃ z, z = o.getD 0 := ⟨_, rfl⟩
              have hnu : nuC o = [.bool b, .int .i64 z] := by unfold nuC; rw [hb, hz]
              rw [hnu] at V
              have V := Lib.hid V
              have HB := Lib.hid hb; have HZ := Lib.hid hz
              have NEXT := Lib.hid (show (List.range (k + 1)).map (fun (j : Nat) => rVal s l ((F + (j : Int)) * s)) = (List.range k).map (fun (j : Nat) => rVal s l ((F + (j : Int)) * s)) ++ [o] from by
                rw [List.range_succ, List.map_append, List.map_singleton, ← HI.out.1, ho])
              have STEP := Lib.hid (show r + s = (F + ((k + 1 : Nat) : Int)) * s from by
                rw [HI.out.1, show F + ((k + 1 : Nat) : Int) = (F + (k : Int)) + 1 from by omega, Int.add_mul (F + (k : Int)), Int.one_mul])
              have hwr : IntKind.i64.wrap (r + s) = r + s := by rw [IntKind.wrap_i64]; omega
              obtain ⟨L, hL⟩ : ∃ L, (List.range k).map (fun (j : Nat) => rVal s l ((F + (j : Int)) * s)) = L := ⟨_, rfl⟩
              have HLL := Lib.hid (show L.length = k from by rw [← hL, List.length_map, List.length_range])
              have OWN := Lib.hid (show NuNew w4.heap.size wr (.slice A5 k c5) L from by rw [← hL]; exact HI.out.2.1)
              rw [hL] at NEXT
              have BE := Lib.hid HI.out.2.2
              have GE := Lib.hid HI.out.2.2.size
              clear ho hnu hb hz hL HI hiff
              go_wp2_with fail
              refine V.out.mono ?_; rintro _ w6 ⟨rfl, hb6⟩
              have k0 := cellb hb6 k0; have k1 := cellb hb6 k1
              have OWN6 := OWN.out.below hb6
              have ROW := Lib.hid (show w6.ownsRow w4.heap.size 61 2 (.slice A5 k c5) k (nusC L) from by
                have h2 := OWN6
                unfold NuNew at h2
                rw [HLL.out] at h2
                exact h2)
              have APP := Lib.hid (nu_more (w1 := w4) HB.out HZ.out OWN6 HLL.out (bnext BE.out hb6) (Nat.le_trans GE.out hb6.size))
              have FORM := Lib.hid (fun (W' : World) (v' : Value) => @form_more w4.heap.size k 2 61 (nusC L ++ [.bool b, .int .i64 z]) W' v')
              have B63 := Lib.hid (show k + 1 ≤ maxLen by simp only [maxLen]; omega)
              have B48 := Lib.hid (show (k + 1) * 16 ≤ 140737488355328 by omega)
              have SZ := Lib.hid (Nat.le_trans GE.out hb6.size)
              clear hb6 OWN6
              go_wp2_with (at_builtin; refine wpList_append_any _ rfl (.tmp 46) (.tmp 50) _ rfl w4.heap.size 61 i0 (.agg #[.bool false, .int .i64 0]) 2 16 Try.underlying30 hi0 hz0 hz1 hz2 rfl (by decide) (.slice A5 k c5) k (nusC L) rfl (World.ownsRow.alloc ROW.out _) _ (some ⟨w6.heap.size, 0, none⟩) 1 1 [.bool b, .int .i64 z] rfl (Reads.of_own (World.ownsRow_lit (base := 0) (e := 61) (size := 2) w6 #[.bool b, .int .i64 z] 1 (Nat.zero_le _) (by decide) rfl)) (by simp [Value.oneCell']) B63.out B48.out (by have := SZ.out; simp; omega) ?_; intro v13 w13 hown13 hg13 hat13; obtain ⟨A13, c13, hv13⟩ := FORM.out _ _ hown13; subst hv13; have hs13 := Lib.hid (APP.out _ _ hown13 hg13); have k0 := cellb hs13.out.2 K0.out; have k1 := cellb hs13.out.2 K1.out; clear hown13 hg13 hat13)
              go_roundw
              case rel => exact ⟨k + 1, r + s, A13, c13, by omega, rfl, rfl, STEP.out, by rw [NEXT.out]; exact hs13.out.1, hs13.out.2⟩
              case measure => simp only [intOf]; omega
            · have hge : ¬ r < q := fun h => hlt (hiff.1 h)
              obtain rfl : k = N := by omega
              have FIN := Lib.hid HI.out.2
              clear HI hiff
              go_wp2_with fail
              exact bodyPost_ret (v := .tuple #[.slice A5 k c5, .int .i64 0]) (by simp [results, Try.results20, go_sem]) rfl ⟨_, by rw [HS4.out], by rw [HS4.out]; exact FIN.out.1.mono HW.out, bnext KQ.out FIN.out.2⟩
end Go.Proofs.Ytkgajlklhcmmcaa.IP
