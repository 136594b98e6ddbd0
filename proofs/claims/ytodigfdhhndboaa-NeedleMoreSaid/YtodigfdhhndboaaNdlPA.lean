/-
  Contracts of the program's own functions of layer 9: reach.
-/
import Derived.Test.YtodigfdhhndboaaNdlPlc
import Derived.Lib.Hide
import Derived.WalkSmall
import Derived.Carry
set_option linter.unusedSimpArgs false
set_option linter.unusedVariables false
namespace Go.Proofs.Ytodigfdhhndboaa.NP
open Go.RowKit
theorem ints_info : (Try.prog.info? 3).map (fun i => (i.zero, i.size, i.bytes)) = some (some (.int .i64 0), 1, 8) := by kernel_rfl
theorem plc_one (x : Int) : ∀ u ∈ ([.int .i64 x] : List Value), u.oneCell' = true := by
  intro u hu
  rw [List.mem_singleton.1 hu]
  rfl
/-- A row with the places from a to q. -/
def ndUp (row : List Nat) (a q : Nat) : List Nat := row ++ List.range' a (q - a + 1)
theorem ndUp_start (row : List Nat) (a : Nat) : ndUp row a a = row ++ [a] := by unfold ndUp; rw [Nat.sub_self]; rfl
theorem ndUp_next (row : List Nat) {a q : Nat} (h : a ≤ q) : ndUp row a (q + 1) = ndUp row a q ++ [q + 1] := by
  unfold ndUp
  rw [show q + 1 - a + 1 = (q - a + 1) + 1 from by omega, List.range'_concat, List.append_assoc, Nat.one_mul, show a + (q - a + 1) = q + 1 from by omega]
theorem ndUp_length (row : List Nat) (a q : Nat) : (ndUp row a q).length = row.length + (q - a + 1) := by unfold ndUp; rw [List.length_append, List.length_range']
theorem ndUp_end (is : List NI) {row : List Nat} {a : Nat} (h : ¬ (row ≠ [] ∧ a ≤ row.getD (row.length - 1) 0)) : ndReach is row a = ndUp row a (ndEnd is a) := by
  unfold ndReach ndUp ndEnd
  rw [if_neg h, show a + nStars (is.drop a) - a + 1 = nStars (is.drop a) + 1 from by omega]
set_option maxRecDepth 100000 in
set_option maxHeartbeats 2000000 in
theorem reach_c (B : Nat) (v u : Value) (row : List Nat) (is : List NI) (a : Nat) (hr : row.length ≤ 1001) (hi : is.length ≤ 1000) (ha : a ≤ is.length) (hplc : ∀ q ∈ row, q ≤ is.length) (w : World) (hB : B ≤ w.heap.size)
    (hv : PlNew B w v row) (hu : ItLow B w u is) :
    Calls Try.prog 26 #[v, u, .int .i64 (a : Nat)] w fun e w' => ∃ v', e = .returned v' ∧ Rch B w v w' v' (ndReach is row a) := by
  obtain ⟨i0, hi0, hz0, hzz1, hzz2⟩ := info_parts ints_info
  have HV := Lib.hid hv; have HU := Lib.hid hu
  obtain ⟨AV, cv, hve, hcv, hgv⟩ := hv.form
  obtain ⟨AU, cu, hue, hcu, hgu⟩ := hu
  obtain ⟨n, hn⟩ : ∃ n, row.length = n := ⟨_, rfl⟩
  obtain ⟨m, hm⟩ : ∃ m, is.length = m := ⟨_, rfl⟩
  have HN := Lib.hid hn; have HM := Lib.hid hm
  subst hve hue
  by_cases hc : row ≠ [] ∧ a ≤ row.getD (row.length - 1) 0
  · have HR := Lib.hid (show ndReach is row a = row from if_pos hc)
    obtain ⟨R, hR⟩ : ∃ R, ndReach is row a = R := ⟨_, rfl⟩
    rw [hR] at HR ⊢
    rw [hn] at HV hr hcv ⊢
    rw [hm] at HU hi ha hcu ⊢
    obtain ⟨g, rfl⟩ := hgv hc.1
    have hn0 : 0 < n := by rw [← HN.out]; exact List.length_pos_iff.2 hc.1
    have hcl := (HV.out).cellAt (k := n - 1) (by rw [HN.out]; omega)
    have hle := hc.2
    rw [HN.out] at hle
    have HQ := Lib.hid (hplc (row.getD (n - 1) 0) (by rw [List.getD_eq_getElem?_getD, List.getElem?_eq_getElem (by rw [HN.out]; omega)]; exact List.getElem_mem _))
    obtain ⟨x, hx⟩ : ∃ x, row.getD (n - 1) 0 = x := ⟨_, rfl⟩
    rw [hx] at hcl hle HQ
    have hxm : x ≤ m := by rw [← HM.out]; exact HQ.out
    have hw1 : IntKind.i64.wrap ((n : Int) - 1) = ((n - 1 : Nat) : Int) := by
      rw [IntKind.wrap_i64]; omega
    clear hc hx hplc hR hgv hgu hv hn hm
    go_enter Try.func26, Try.ntmps26
    go_wp2
    go_ret
    exact ⟨_, rfl, HR.out ▸ Rch.start HV.out⟩
  · obtain ⟨E, hE⟩ : ∃ E, ndEnd is a = E := ⟨_, rfl⟩
    have HE := Lib.hid hE
    have HR := Lib.hid (show ndReach is row a = ndUp row a E from hE ▸ ndUp_end is hc)
    obtain ⟨R, hR⟩ : ∃ R, ndReach is row a = R := ⟨_, rfl⟩
    rw [hR] at HR ⊢
    have HE1 := Lib.hid (show a ≤ E from hE ▸ ndEnd_ge is a)
    have HEM := Lib.hid (show E ≤ m from hE ▸ hm ▸ ndEnd_le ha)
    rw [hn] at HV hr hcv ⊢
    rw [hm] at HU hi ha hcu ⊢
    have HOW := Lib.hid (show w.ownsRow B 3 1 (.slice AV n cv) n (plcs row) by have := HV.out; unfold PlNew at this; rwa [HN.out] at this)
    by_cases hn0 : 0 < n
    · have hne : row ≠ [] := by intro e; rw [e] at hn; simp at hn; omega
      obtain ⟨g, rfl⟩ := hgv hne
      have hcl := (HV.out).cellAt (k := n - 1) (by rw [HN.out]; omega)
      have hle : ¬ a ≤ row.getD (n - 1) 0 := fun e => hc ⟨hne, by rw [hn]; exact e⟩
      have HQ := Lib.hid (hplc (row.getD (n - 1) 0) (by rw [List.getD_eq_getElem?_getD, List.getElem?_eq_getElem (by rw [HN.out]; omega)]; exact List.getElem_mem _))
      obtain ⟨x, hx⟩ : ∃ x, row.getD (n - 1) 0 = x := ⟨_, rfl⟩
      rw [hx] at hcl hle HQ
      have hxm : x ≤ m := by rw [← HM.out]; exact HQ.out
      have hw1 : IntKind.i64.wrap ((n : Int) - 1) = ((n - 1 : Nat) : Int) := by
        rw [IntKind.wrap_i64]; omega
      clear hc hx hplc hR hgv hgu hv hn hm hne hE
      go_enter Try.func26, Try.ntmps26
      have HBS := Lib.hid (show B ≤ (w.alloc (.cells #[.int .i64 (a : Nat)] 3)).heap.size by simp; omega)
      go_wp2_with ((at_builtin; refine wpList_append_any _ rfl (.tmp 22) (.tmp 24) _ rfl B 3 i0 (.int .i64 0) 1 8 Try.underlying50 hi0 hz0 hzz1 hzz2 rfl (by decide) (.slice (some ⟨g, 0, none⟩) n cv) n (plcs row) rfl (World.ownsRow.alloc HOW.out _) _ (some ⟨w.heap.size, 0, none⟩) 1 1 [.int .i64 ((a : Nat))] rfl (Reads.of_own (World.ownsRow_lit (base := 0) (e := 3) (size := 1) w #[.int .i64 ((a : Nat))] 1 (Nat.zero_le _) (by decide) rfl)) (plc_one _) (by simp only [maxLen]; omega) (by omega) HBS.out ?_; intro v3 w3 hown3 hg3 hat3))
      have r1 := Rch.push (x := a) (Rch.start HV.out) hg3 (by rw [HN.out]; exact hown3) hat3
      rw [← ndUp_start] at r1
      have HR1 := Lib.hid r1
      clear hown3 hg3 hat3 r1 HBS
      go_loopw [0, 2] (fun rv av wr => ∃ (q : Nat) (vr : Value), rv = vr ∧ av = .int .i64 (q : Nat) ∧ a ≤ q ∧ q ≤ E ∧ Hid (Rch B w (.slice (some ⟨g, 0, none⟩) n cv) wr vr (ndUp row a q))) (fun _ av _ => m - (intOf av).toNat)
      case atStart => exact ⟨a, _, rfl, rfl, Nat.le_refl _, HE1.out, HR1.out⟩
      case round =>
        obtain ⟨q, vr, rfl, rfl, hq1, hq2, HI⟩ := hrel
        have hln := ndUp_length row a q
        rw [HN.out] at hln
        have hqm : q ≤ m := Nat.le_trans hq2 HEM.out
        have IT := Lib.hid (HU.out.below (HI.out.low HV.out hB))
        by_cases hlt : q < E
        · obtain ⟨hq3, hq4, hq5⟩ := ndEnd_inner (is := is) (q - a) a q (by omega) (by rw [HE.out]; exact hlt)
          have hq6 : q < m := by rw [← HM.out]; exact hq3
          obtain ⟨A2, c2, hv2, hc2, hx2⟩ := IT.out
          injection hv2 with e1 e2 e3
          subst e1 e3
          obtain ⟨b, off, rfl, _, hat⟩ := hx2 (by intro h; rw [h] at hq3; exact absurd hq3 (Nat.not_lt_zero _))
          obtain ⟨_, _, _, _, y4⟩ := hat.five hq3
          rw [hq4] at y4
          obtain ⟨ln, hlen⟩ : ∃ ln, (ndUp row a q).length = ln := ⟨_, rfl⟩
          have hl1000 : ln ≤ 2001 := by omega
          have how : wr.ownsRow B 3 1 u0 ln (plcs (ndUp row a q)) := by have := HI.out.new; unfold PlNew at this; rwa [hlen] at this
          have HOW2 := Lib.hid how; have HL := Lib.hid hlen
          have HBS := Lib.hid (show B ≤ (wr.alloc (.cells #[.int .i64 ((q : Int) + 1)] 3)).heap.size by have := (HI.out.low HV.out hB).size; simp; omega)
          clear hq3 hq4 hq5 hx2 hat hlen how hln e2 IT
          go_wp2_with ((at_builtin; refine wpList_append_any _ rfl (.tmp 39) (.tmp 41) _ rfl B 3 i0 (.int .i64 0) 1 8 Try.underlying50 hi0 hz0 hzz1 hzz2 rfl (by decide) u0 ln (plcs (ndUp row a q)) rfl (World.ownsRow.alloc HOW2.out _) _ (some ⟨wr.heap.size, 0, none⟩) 1 1 [.int .i64 ((q : Int) + 1)] rfl (Reads.of_own (World.ownsRow_lit (base := 0) (e := 3) (size := 1) wr #[.int .i64 ((q : Int) + 1)] 1 (Nat.zero_le _) (by decide) rfl)) (plc_one _) (by simp only [maxLen]; omega) (by omega) HBS.out ?_; intro v3 w3 hown3 hg3 hat3))
          have r1 := Rch.push (x := q + 1) HI.out hg3 (by rw [HL.out]; exact hown3) hat3
          rw [← ndUp_next row hq1] at r1
          have HR2 := Lib.hid r1
          clear hown3 hg3 hat3 r1 HBS
          go_wp2
          go_roundw
          case rel => exact ⟨q + 1, _, rfl, by go_num, by omega, by omega, HR2.out⟩
          case measure => simp [intOf]; omega
        · obtain rfl : E = q := by omega
          have HQ2 := Lib.hid hq1
          by_cases hqe : E = m
          · subst hqe
            clear hln hlt
            go_wp2
            go_ret
            exact ⟨_, rfl, HR.out ▸ HI.out⟩
          · have hq6 : E < m := by omega
            have hq3 : E < is.length := by rw [HM.out]; exact hq6
            obtain ⟨A2, c2, hv2, hc2, hx2⟩ := IT.out
            injection hv2 with e1 e2 e3
            subst e1 e3
            obtain ⟨b, off, rfl, _, hat⟩ := hx2 (by intro h; rw [h] at hq3; exact absurd hq3 (Nat.not_lt_zero _))
            obtain ⟨_, _, _, _, y4⟩ := hat.five hq3
            have hst : (is.getD E NI.zero).star = false := by
              cases hs : (is.getD E NI.zero).star with
              | false => rfl
              | true =>
                have h1 := ndEnd_star hq3 hs
                have h2 := ndEnd_ge is (E + 1)
                have h3 := ndEnd_mid (is := is) hq1 (by rw [HE.out]; exact Nat.le_refl _)
                have h4 := HE.out
                omega
            rw [hst] at y4
            clear hln hlt hq3 hx2 hat hst e2 IT
            go_wp2
            go_ret
            exact ⟨_, rfl, HR.out ▸ HI.out⟩

    · obtain rfl : n = 0 := by omega
      clear hc hplc hR hgv hgu hv hn hm hE
      go_enter Try.func26, Try.ntmps26
      have HBS := Lib.hid (show B ≤ (w.alloc (.cells #[.int .i64 (a : Nat)] 3)).heap.size by simp; omega)
      go_wp2_with ((at_builtin; refine wpList_append_any _ rfl (.tmp 22) (.tmp 24) _ rfl B 3 i0 (.int .i64 0) 1 8 Try.underlying50 hi0 hz0 hzz1 hzz2 rfl (by decide) (.slice AV 0 cv) 0 (plcs row) rfl (World.ownsRow.alloc HOW.out _) _ (some ⟨w.heap.size, 0, none⟩) 1 1 [.int .i64 ((a : Nat))] rfl (Reads.of_own (World.ownsRow_lit (base := 0) (e := 3) (size := 1) w #[.int .i64 ((a : Nat))] 1 (Nat.zero_le _) (by decide) rfl)) (plc_one _) (by simp only [maxLen]; omega) (by omega) HBS.out ?_; intro v3 w3 hown3 hg3 hat3))
      have r1 := Rch.push (x := a) (Rch.start HV.out) hg3 (by rw [HN.out]; exact hown3) hat3
      rw [← ndUp_start] at r1
      have HR1 := Lib.hid r1
      clear hown3 hg3 hat3 r1 HBS
      go_loopw [0, 2] (fun rv av wr => ∃ (q : Nat) (vr : Value), rv = vr ∧ av = .int .i64 (q : Nat) ∧ a ≤ q ∧ q ≤ E ∧ Hid (Rch B w (.slice AV 0 cv) wr vr (ndUp row a q))) (fun _ av _ => m - (intOf av).toNat)
      case atStart => exact ⟨a, _, rfl, rfl, Nat.le_refl _, HE1.out, HR1.out⟩
      case round =>
        obtain ⟨q, vr, rfl, rfl, hq1, hq2, HI⟩ := hrel
        have hln := ndUp_length row a q
        rw [HN.out] at hln
        have hqm : q ≤ m := Nat.le_trans hq2 HEM.out
        have IT := Lib.hid (HU.out.below (HI.out.low HV.out hB))
        by_cases hlt : q < E
        · obtain ⟨hq3, hq4, hq5⟩ := ndEnd_inner (is := is) (q - a) a q (by omega) (by rw [HE.out]; exact hlt)
          have hq6 : q < m := by rw [← HM.out]; exact hq3
          obtain ⟨A2, c2, hv2, hc2, hx2⟩ := IT.out
          injection hv2 with e1 e2 e3
          subst e1 e3
          obtain ⟨b, off, rfl, _, hat⟩ := hx2 (by intro h; rw [h] at hq3; exact absurd hq3 (Nat.not_lt_zero _))
          obtain ⟨_, _, _, _, y4⟩ := hat.five hq3
          rw [hq4] at y4
          obtain ⟨ln, hlen⟩ : ∃ ln, (ndUp row a q).length = ln := ⟨_, rfl⟩
          have hl1000 : ln ≤ 2001 := by omega
          have how : wr.ownsRow B 3 1 u0 ln (plcs (ndUp row a q)) := by have := HI.out.new; unfold PlNew at this; rwa [hlen] at this
          have HOW2 := Lib.hid how; have HL := Lib.hid hlen
          have HBS := Lib.hid (show B ≤ (wr.alloc (.cells #[.int .i64 ((q : Int) + 1)] 3)).heap.size by have := (HI.out.low HV.out hB).size; simp; omega)
          clear hq3 hq4 hq5 hx2 hat hlen how hln e2 IT
          go_wp2_with ((at_builtin; refine wpList_append_any _ rfl (.tmp 39) (.tmp 41) _ rfl B 3 i0 (.int .i64 0) 1 8 Try.underlying50 hi0 hz0 hzz1 hzz2 rfl (by decide) u0 ln (plcs (ndUp row a q)) rfl (World.ownsRow.alloc HOW2.out _) _ (some ⟨wr.heap.size, 0, none⟩) 1 1 [.int .i64 ((q : Int) + 1)] rfl (Reads.of_own (World.ownsRow_lit (base := 0) (e := 3) (size := 1) wr #[.int .i64 ((q : Int) + 1)] 1 (Nat.zero_le _) (by decide) rfl)) (plc_one _) (by simp only [maxLen]; omega) (by omega) HBS.out ?_; intro v3 w3 hown3 hg3 hat3))
          have r1 := Rch.push (x := q + 1) HI.out hg3 (by rw [HL.out]; exact hown3) hat3
          rw [← ndUp_next row hq1] at r1
          have HR2 := Lib.hid r1
          clear hown3 hg3 hat3 r1 HBS
          go_wp2
          go_roundw
          case rel => exact ⟨q + 1, _, rfl, by go_num, by omega, by omega, HR2.out⟩
          case measure => simp [intOf]; omega
        · obtain rfl : E = q := by omega
          have HQ2 := Lib.hid hq1
          by_cases hqe : E = m
          · subst hqe
            clear hln hlt
            go_wp2
            go_ret
            exact ⟨_, rfl, HR.out ▸ HI.out⟩
          · have hq6 : E < m := by omega
            have hq3 : E < is.length := by rw [HM.out]; exact hq6
            obtain ⟨A2, c2, hv2, hc2, hx2⟩ := IT.out
            injection hv2 with e1 e2 e3
            subst e1 e3
            obtain ⟨b, off, rfl, _, hat⟩ := hx2 (by intro h; rw [h] at hq3; exact absurd hq3 (Nat.not_lt_zero _))
            obtain ⟨_, _, _, _, y4⟩ := hat.five hq3
            have hst : (is.getD E NI.zero).star = false := by
              cases hs : (is.getD E NI.zero).star with
              | false => rfl
              | true =>
                have h1 := ndEnd_star hq3 hs
                have h2 := ndEnd_ge is (E + 1)
                have h3 := ndEnd_mid (is := is) hq1 (by rw [HE.out]; exact Nat.le_refl _)
                have h4 := HE.out
                omega
            rw [hst] at y4
            clear hln hlt hq3 hx2 hat hst e2 IT
            go_wp2
            go_ret
            exact ⟨_, rfl, HR.out ▸ HI.out⟩

end Go.Proofs.Ytodigfdhhndboaa.NP
