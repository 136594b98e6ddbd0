/-
  Contracts of the document's own functions of layer 13 (isobarref13): spans.
-/
import Derived.Test.YtjkdfbalhjmgpaaRinRB
import Derived.Test.YtjkdfbalhjmgpaaRinPF
set_option linter.unusedSimpArgs false
set_option linter.unusedVariables false
namespace Go.Proofs.Ytjkdfbalhjmgpaa.IR
open Go.RowKit IP
theorem rAt_mul {s k : Int} : rAt s (k * s) = k * s := by unfold rAt; rw [Int.mul_emod_left, Int.sub_zero]
set_option maxRecDepth 100000 in
set_option maxHeartbeats 4000000 in
theorem span_c (s f u : Int) (v : Value) (l : List (Int × Int)) (hl : l.length ≤ 100000) (w : World) (g : RgOut w v l) :
    Calls Try.prog 27 #[.agg #[.int .i64 s, v], .int .i64 f, .int .i64 u] w fun e w' => ∃ v', e = .returned (.tuple #[v', .int .i64 (rSpan s l f u).2]) ∧ NuNew w.heap.size w' v' (rSpan s l f u).1 ∧ Below w.heap.size w w' := by
  have RC := fun (W : World) (h : Below w.heap.size w W) => IR.right_c s v l (by omega) W (g.below h)
  have VL := fun (a : Int) (W : World) (h : Below w.heap.size w W) => IR.get_c s a v l (by omega) W (g.below h)
  obtain ⟨A, c, rfl, hc, -⟩ := id g
  obtain ⟨n, hn⟩ : ∃ n, l.length = n := ⟨_, rfl⟩
  obtain ⟨S, hS⟩ : ∃ S, rSpan s l f u = S := ⟨_, rfl⟩
  have ITf := Lib.hid (timed_c f)
  have ITu := Lib.hid (timed_c u)
  have hRM := fun h => (rRight_iff.1 (show rRight s l = true from h)).1
  rw [hn] at RC VL hc hRM
  rw [hS, hn]
  obtain ⟨k0, k1, -, -⟩ := two_new w (.int .i64 s) (.slice A n c) 24
  obtain ⟨wp, hwp⟩ : ∃ wp, w.alloc (.cells #[.int .i64 s, .slice A n c] 24) = wp := ⟨_, rfl⟩
  have hbp := alloc_below w (.cells #[.int .i64 s, .slice A n c] 24)
  rw [hwp] at k0 k1 hbp
  have zp : w.heap.size < wp.heap.size := by rw [← hwp]; simp
  have HWP := Lib.hid hwp
  have KP := Lib.hid hbp
  have RC := Lib.hid (RC wp hbp)
  have HS := Lib.hid hS
  have VL := Lib.hid VL
  clear g hn hwp hbp hS hl
  cases hr : rRight s l
  · obtain rfl : S = ([], 1) := HS.out.symm.trans (rSpan_no (fun h => by rw [hr] at h; cases h.1))
    rw [hr] at RC
    clear hr HS hRM VL
    go_enter Try.func27, Try.ntmps27
    go_wp2_with fail
    rw [HWP.out]
    refine RC.out.mono ?_; rintro _ w1 ⟨rfl, hb1⟩
    have KB := Lib.hid (bnext KP.out hb1)
    go_wp2
    exact bodyPost_ret (v := .tuple #[.slice none 0 0, .int .i64 1]) (by simp [results, Try.results27, go_sem]) rfl ⟨_, rfl, NuNew.nil _ _, KB.out⟩
  · obtain ⟨m1, m2, m3, m4⟩ := rMay_iff.1 (hRM hr)
    rw [hr] at RC
    cases hf : rTm f
    · obtain rfl : S = ([], 1) := HS.out.symm.trans (rSpan_no (fun h => by rw [hf] at h; cases h.2.1))
      rw [hf] at ITf
      clear hr HS hRM VL hf
      go_enter Try.func27, Try.ntmps27
      go_wp2_with fail
      rw [HWP.out]
      refine RC.out.mono ?_; rintro _ w1 ⟨rfl, hb1⟩
      have KB := Lib.hid (bnext KP.out hb1)
      go_wp2_with fail
      refine (ITf.out _).mono ?_; rintro _ w2 ⟨rfl, rfl⟩
      go_wp2
      exact bodyPost_ret (v := .tuple #[.slice none 0 0, .int .i64 1]) (by simp [results, Try.results27, go_sem]) rfl ⟨_, rfl, NuNew.nil _ _, KB.out⟩
    · cases hu : rTm u
      · obtain rfl : S = ([], 1) := HS.out.symm.trans (rSpan_no (fun h => by rw [hu] at h; cases h.2.2))
        rw [hf] at ITf
        rw [hu] at ITu
        clear hr HS hRM VL hf hu
        go_enter Try.func27, Try.ntmps27
        go_wp2_with fail
        rw [HWP.out]
        refine RC.out.mono ?_; rintro _ w1 ⟨rfl, hb1⟩
        have KB := Lib.hid (bnext KP.out hb1)
        go_wp2_with fail
        refine (ITf.out _).mono ?_; rintro _ w2 ⟨rfl, rfl⟩
        go_wp2_with fail
        refine (ITu.out _).mono ?_; rintro _ w3 ⟨rfl, rfl⟩
        go_wp2
        exact bodyPost_ret (v := .tuple #[.slice none 0 0, .int .i64 1]) (by simp [results, Try.results27, go_sem]) rfl ⟨_, rfl, NuNew.nil _ _, KB.out⟩
      · obtain ⟨f0, f1⟩ := rTm_iff.1 hf
        obtain ⟨u0, u1⟩ := rTm_iff.1 hu
        have hS2 := HS.out.symm.trans (rSpan_eq hr hf hu)
        obtain ⟨F, hF⟩ : ∃ F, rUp s f = F := ⟨_, rfl⟩
        obtain ⟨E, hE⟩ : ∃ E, rUp s u = E := ⟨_, rfl⟩
        obtain ⟨F0, F1, F2⟩ := rUp_facts m1 f0
        obtain ⟨E0, E1, E2⟩ := rUp_facts m1 u0
        have LTU := Lib.hid (fun (k : Int) => @rUp_le s u k m1)
        rw [hE] at LTU
        have hFq : (f + s - 1) / s = F := hF
        rw [hF] at F0 F1 F2
        rw [hE] at E0 E1 E2
        rw [hF, hE] at hS2
        have F3 : F ≤ 1099511800000 := by
          have h1 : F * 1 ≤ F * s := Int.mul_le_mul_of_nonneg_left m1 F0
          omega
        have E3 : E ≤ 1099511800000 := by
          have h2 : E * 1 ≤ E * s := Int.mul_le_mul_of_nonneg_left m1 E0
          omega
        obtain ⟨m, hm⟩ : ∃ m, f + s = m := ⟨_, rfl⟩
        rw [hm] at hFq
        have w1 : IntKind.i64.wrap (f + s) = m := by rw [hm, IntKind.wrap_i64]; omega
        have w2 : IntKind.i64.wrap (m - 1) = m - 1 := by rw [IntKind.wrap_i64]; omega
        have m0 : 0 ≤ m - 1 := by omega
        have hqw : RowKit.wrap64 ((m - 1).tdiv s) = F := by rw [Int.tdiv_eq_ediv_of_nonneg m0, hFq, IntWalk.wrap64_in F (by omega)]
        have GETV := Lib.hid (show ∀ k : Int, 0 ≤ k → k * s < u → rGet s l (k * s) = rVal s l (k * s) from fun k h0 h1 => by
          rw [rGet_yes ⟨hr, rTm_iff.2 ⟨Int.mul_nonneg h0 (by omega), by omega⟩⟩, rAt_mul])
        have MULB := Lib.hid (show ∀ k : Int, 0 ≤ k → (k ≤ E ∨ k = F) → 0 ≤ k * s ∧ k * s ≤ 1099511800000 from fun k h0 h1 => by
          rcases h1 with h1 | h1
          · have h2 : k * s ≤ E * s := Int.mul_le_mul_of_nonneg_right h1 (by omega)
            exact ⟨Int.mul_nonneg h0 (by omega), by omega⟩
          · rw [h1]; exact ⟨Int.mul_nonneg F0 (by omega), by omega⟩)
        rw [hf] at ITf
        rw [hu] at ITu
        have HS2 := Lib.hid hS2
        have s0 : 0 < s := by omega
        have HQW := Lib.hid hqw
        have HW := Lib.hid (show IntKind.i64.wrap (f + s) = m ∧ IntKind.i64.wrap (m - 1) = m - 1 from ⟨w1, w2⟩)
        clear hr hf hu hRM hF hE hS2 hm hFq HS F1 F2 E1 E2 hqw w1 w2
        go_enter Try.func27, Try.ntmps27
        go_wp2_with fail
        rw [HWP.out]
        refine RC.out.mono ?_; rintro _ w1 ⟨rfl, hb1⟩
        have k0 := cellb hb1 k0; have k1 := cellb hb1 k1
        have KB := Lib.hid (bnext KP.out hb1)
        have z1 := Nat.lt_of_lt_of_le zp hb1.size
        clear hb1
        go_wp2_with fail
        refine (ITf.out _).mono ?_; rintro _ w2 ⟨rfl, rfl⟩
        go_wp2_with fail
        refine (ITu.out _).mono ?_; rintro _ w3 ⟨rfl, rfl⟩
        obtain ⟨hw1, hw2⟩ := HW.out
        have hqw := HQW.out
        go_wp2
        clear hw1 hw2 hqw
        obtain ⟨N, hN⟩ : ∃ N, (E - F).toNat = N := ⟨_, rfl⟩
        have HS3 := HS2.out
        rw [hN] at HS3
        have HS4 := Lib.hid HS3
        have HNN := Lib.hid (show ∀ k : Nat, (F + (k : Int) < E ↔ k < N) from fun k => by omega)
        have HNE := Lib.hid (show ∀ k : Nat, k ≤ N → 0 < k → F + (k : Int) ≤ E from fun k h h0 => by omega)
        obtain ⟨i0, hi0, hz0, hz1, hz2⟩ := info_parts num_info
        have K0 := Lib.hid k0; have K1 := Lib.hid k1
        have HWG := Lib.hid (show w.heap.size ≤ w1.heap.size from Nat.le_of_lt z1)
        clear hN k0 k1 HS3
        go_loopw [9, 10] (fun a i wr => ∃ (k : Nat) (r : Int) (A5 : Option Addr) (c5 : Nat), k ≤ N ∧ k ≤ 2000 ∧ i = .int .i64 r ∧ a = .slice A5 k c5 ∧ Hid (r = F + (k : Int) ∧ NuNew w1.heap.size wr (.slice A5 k c5) ((List.range k).map fun (j : Nat) => rVal s l ((F + (j : Int)) * s)) ∧ Below w1.heap.size w1 wr)) (fun a i _ => (E - intOf i).toNat)
        case atStart => exact ⟨0, F, none, 0, Nat.zero_le _, Nat.zero_le _, by rw [HQW.out], rfl, by rw [show ((0 : Nat) : Int) = 0 from rfl, Int.add_zero], NuNew.nil _ _, Below.refl _ _⟩
        case round =>
          obtain ⟨k, r, A5, c5, hk, hk2, rfl, rfl, HI⟩ := hrel
          have k0 := cellb HI.out.2.2 K0.out
          have k1 := cellb HI.out.2.2 K1.out
          have r0 : 0 ≤ r := by rw [HI.out.1]; omega
          have hrE : r ≤ E ∨ r = F := by
            rw [HI.out.1]
            rcases Nat.eq_zero_or_pos k with h | h
            · right; rw [h]; simp
            · left; exact HNE.out k hk h
          obtain ⟨b0, b1⟩ := MULB.out r r0 hrE
          have r1 : r ≤ 1099511800000 := by rcases hrE with h | h <;> omega
          have hlu := LTU.out r
          have hiff : r < E ↔ k < N := by rw [HI.out.1]; exact HNN.out k
          have GV := Lib.hid (GETV.out r r0)
          obtain ⟨M, hM⟩ : ∃ M, r * s = M := ⟨_, rfl⟩
          rw [hM] at b0 b1 hlu GV
          have hwm : RowKit.wrap64 (r * s) = M := by rw [hM]; exact IntWalk.wrap64_in M (by omega)
          have hwm2 : IntKind.i64.wrap (r * s) = M := by rw [hM, IntKind.wrap_i64]; omega
          have HM := Lib.hid hM
          clear hM hrE
          by_cases hlt : k < N
          · have hrq : M < u := hlu.2 (hiff.2 hlt)
            have hrE2 : r < E := hiff.2 hlt
            by_cases h20 : k = 2000
            · have HS5 := Lib.hid (HS4.out.trans (show rCnt N _ = ([], 11) from if_pos (by omega)))
              have FIN := Lib.hid HI.out.2
              subst h20
              clear HI hiff hlu
              go_wp2_with fail
              exact bodyPost_ret (v := .tuple #[.slice none 0 0, .int .i64 11]) (by simp [results, Try.results27, go_sem]) rfl ⟨_, by rw [HS5.out], by rw [HS5.out]; exact NuNew.nil _ _, bnext KB.out FIN.out.2⟩
            · have h20i : ¬ (k : Int) = 2000 := by omega
              have hkk : k < 2000 := by omega
              have V := VL.out M wr (bnext KB.out HI.out.2.2)
              rw [GV.out hrq] at V
              obtain ⟨o, ho⟩ : ∃ o, rVal s l M = o := ⟨_, rfl⟩
              rw [ho] at V
              obtain ⟨b, hb⟩ : ∃ b, b = o.isNone := ⟨_, rfl⟩
              obtain ⟨z, hz⟩ : ∃ z, z = o.getD 0 := ⟨_, rfl⟩
              have hnu : nuC o = [.bool b, .int .i64 z] := by unfold nuC; rw [hb, hz]
              rw [hnu] at V
              have V := Lib.hid V
              have HB := Lib.hid hb; have HZ := Lib.hid hz
              have NEXT := Lib.hid (show (List.range (k + 1)).map (fun (j : Nat) => rVal s l ((F + (j : Int)) * s)) = (List.range k).map (fun (j : Nat) => rVal s l ((F + (j : Int)) * s)) ++ [o] from by
                rw [List.range_succ, List.map_append, List.map_singleton, ← HI.out.1, HM.out, ho])
              have STEP := Lib.hid (show r + 1 = F + ((k + 1 : Nat) : Int) from by rw [HI.out.1]; omega)
              obtain ⟨L, hL⟩ : ∃ L, (List.range k).map (fun (j : Nat) => rVal s l ((F + (j : Int)) * s)) = L := ⟨_, rfl⟩
              have HLL := Lib.hid (show L.length = k from by rw [← hL, List.length_map, List.length_range])
              have OWN := Lib.hid (show NuNew w1.heap.size wr (.slice A5 k c5) L from by rw [← hL]; exact HI.out.2.1)
              rw [hL] at NEXT
              have BE := Lib.hid HI.out.2.2
              have GE := Lib.hid HI.out.2.2.size
              clear ho hnu hb hz hL HI hiff hlu h20 GV
              go_wp2_with fail
              refine V.out.mono ?_; rintro _ w6 ⟨rfl, hb6⟩
              have k0 := cellb hb6 k0; have k1 := cellb hb6 k1
              have OWN6 := OWN.out.below hb6
              have ROW := Lib.hid (show w6.ownsRow w1.heap.size 34 2 (.slice A5 k c5) k (nusC L) from by
                have h2 := OWN6
                unfold NuNew at h2
                rw [HLL.out] at h2
                exact h2)
              have APP := Lib.hid (nu_more (w1 := w1) HB.out HZ.out OWN6 HLL.out (bnext BE.out hb6) (Nat.le_trans GE.out hb6.size))
              have FORM := Lib.hid (fun (W' : World) (v' : Value) => @form_more w1.heap.size k 2 34 (nusC L ++ [.bool b, .int .i64 z]) W' v')
              have B63 := Lib.hid (show k + 1 ≤ maxLen by simp only [maxLen]; omega)
              have B48 := Lib.hid (show (k + 1) * 16 ≤ 140737488355328 by omega)
              have SZ := Lib.hid (Nat.le_trans GE.out hb6.size)
              clear hb6 OWN6
              go_wp2_with (at_builtin; refine wpList_append_any _ rfl (.tmp 44) (.tmp 51) _ rfl w1.heap.size 34 i0 (.agg #[.bool false, .int .i64 0]) 2 16 Try.underlying42 hi0 hz0 hz1 hz2 rfl (by decide) (.slice A5 k c5) k (nusC L) rfl (World.ownsRow.alloc ROW.out _) _ (some ⟨w6.heap.size, 0, none⟩) 1 1 [.bool b, .int .i64 z] rfl (Reads.of_own (World.ownsRow_lit (base := 0) (e := 34) (size := 2) w6 #[.bool b, .int .i64 z] 1 (Nat.zero_le _) (by decide) rfl)) (by simp [Value.oneCell']) B63.out B48.out (by have := SZ.out; simp; omega) ?_; intro v13 w13 hown13 hg13 hat13; obtain ⟨A13, c13, hv13⟩ := FORM.out _ _ hown13; subst hv13; have hs13 := Lib.hid (APP.out _ _ hown13 hg13); have k0 := cellb hs13.out.2 K0.out; have k1 := cellb hs13.out.2 K1.out; clear hown13 hg13 hat13)
              go_roundw
              case rel => exact ⟨k + 1, r + 1, A13, c13, by omega, by omega, by go_num, rfl, STEP.out, by rw [NEXT.out]; exact hs13.out.1, hs13.out.2⟩
              case measure => simp only [intOf]; omega
          · have hge : ¬ M < u := fun h => hlt (hiff.1 (hlu.1 h))
            obtain rfl : k = N := by omega
            have FIN := Lib.hid HI.out.2
            have HS5 := Lib.hid (HS4.out.trans (show rCnt k _ = _ from if_neg (by omega)))
            clear HI hiff hlu
            go_wp2_with fail
            exact bodyPost_ret (v := .tuple #[.slice A5 k c5, .int .i64 0]) (by simp [results, Try.results27, go_sem]) rfl ⟨_, by rw [HS5.out], by rw [HS5.out]; exact FIN.out.1.mono HWG.out, bnext KB.out FIN.out.2⟩
end Go.Proofs.Ytjkdfbalhjmgpaa.IR
