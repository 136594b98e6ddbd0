/-
  The document's own functions of layer 14: Fetch.
-/
import Derived.Deep.RegionLaw
import Derived.Test.YtkgajlklhcmmcaaLadRH
import Derived.Test.YtkgajlklhcmmcaaRinRB
set_option linter.unusedSimpArgs false
set_option linter.unusedVariables false
namespace Go.Proofs.Ytkgajlklhcmmcaa.AR
open Go.RowKit
/-- Get, at a step of a region that draws. -/
theorem step_get {ops : Array Oper} {o : Oper} {a : Act} {K : Act → World → Prop} {Q : Exit → Act → World → Prop} {E : Prop} {W : World}
    (hgd : o.guard = none) (x y : Operand) (T : Array TypeId) (ho : o.op = .call { callee := .value (.func 25), args := #[x, y], argTypes := T })
    (u v : Value) (hx : a.eval x = u) (hy : a.eval y = v) {Φ : Ending → World → Prop} (hc : Calls Try.prog 25 #[u, v] W Φ)
    (h : ∀ e w', Φ e w' → ∃ z, e = .returned z ∧ K (a.put o.dst z) w') :
    if Region.wanted o (yielded ops a.tmps) = true then Oper.wp Try.prog o a W K Q else E := by
  have hw : Region.wanted o (yielded ops a.tmps) = true := by simp [Region.wanted, hgd]
  rw [if_pos hw]
  have e : (execOp a.eval o).run Try.prog W = .ok (.enter 25 #[u, v]) W := by
    have hf : a.eval (.func 25) = .func (.func 25) #[] #[] := rfl
    have hb1 : (Try.f25.name == "runtime.NumGoroutine") = false := by kernel_rfl
    have hb2 : Try.f25.body.isNone = false := by kernel_rfl
    have hnm : ¬ Try.f25.name = "runtime.NumGoroutine" := fun h => by rw [h] at hb1; simp at hb1
    have hbd : ¬ Try.f25.body = none := fun h => by rw [h] at hb2; simp at hb2
    subst hx hy
    unfold execOp
    simp [ho, resolve, Deferred.ofValue, invoke, callFunc, hf, go_sem, hnm, hbd]
    try rfl
  unfold Oper.wp
  rw [e, Oper.upon_enter]
  refine hc.mono fun e' w' h2 => ?_
  obtain ⟨z, rfl, hk⟩ := h e' w' h2
  exact hk
set_option maxRecDepth 100000 in
set_option maxHeartbeats 8000000 in
theorem fetch_c (m f fr un now : Int) (v : Value) (L : List Rg) (hl : L.length ≤ 100000) (hs : ∀ r ∈ L, r.2.length ≤ 100000) (w : World) (h : RiOut w v L) :
    Calls Try.prog 8 #[.agg #[.int .i64 m, .int .i64 f, v], .int .i64 fr, .int .i64 un, .int .i64 now] w fun e w' => ∃ A c, e = .returned (.tuple #[.agg #[.string (ByteArray.mk #[]), .int .i64 (ftStart m f L fr un now), .int .i64 (ftStep m f L fr un now), .slice A (ftVals m f L fr un now).length c], .int .i64 (ftE m f L fr un now)]) ∧ NuNew w.heap.size w' (.slice A (ftVals m f L fr un now).length c) (ftVals m f L fr un now) ∧ Below w.heap.size w w' := by
  have RT := fun (W : World) (hB : Below w.heap.size w W) => right_c m f v L hl hs W (h.below hB)
  have AK := fun (W : World) (hB : Below w.heap.size w W) => pick_c m f fr now v L hl hs W (h.below hB)
  obtain ⟨A, c, rfl, hc, hx⟩ := id h
  obtain ⟨n, hn⟩ : ∃ n, L.length = n := ⟨_, rfl⟩
  rw [hn] at RT AK hc
  obtain ⟨b1, b2, hb, hz⟩ := bx_new2 w #[.int .i64 m, .int .i64 f, .slice A n c] #[.string (ByteArray.mk #[]), .int .i64 0, .int .i64 0, .slice none 0 0] 24 32
  obtain ⟨wp, hwp⟩ : ∃ wp, (w.alloc (.cells #[.int .i64 m, .int .i64 f, .slice A n c] 24)).alloc (.cells #[.string (ByteArray.mk #[]), .int .i64 0, .int .i64 0, .slice none 0 0] 32) = wp := ⟨_, rfl⟩
  rw [hwp] at b1 b2 hb hz
  rw [hn]
  obtain ⟨rr, hrr⟩ : ∃ rr, lRight m f L = rr := ⟨_, rfl⟩
  obtain ⟨tf, htf⟩ : ∃ tt, rTm fr = tt := ⟨_, rfl⟩
  obtain ⟨tu, htu⟩ : ∃ tt, rTm un = tt := ⟨_, rfl⟩
  obtain ⟨tn, htn⟩ : ∃ tt, rTm now = tt := ⟨_, rfl⟩
  have RT1 := RT wp hb
  rw [hrr] at RT1
  have IF := fun W => IR.timed_c fr W; have IU := fun W => IR.timed_c un W; have IN := fun W => IR.timed_c now W
  rw [htf] at IF; rw [htu] at IU; rw [htn] at IN
  have NO := Lib.hid (show (rr && (tf && (tu && (tn && decide (fr < un))))) = false → ftStart m f L fr un now = 0 ∧ ftStep m f L fr un now = 0 ∧ ftVals m f L fr un now = [] ∧ ftE m f L fr un now = 1 from fun e => ft_no (by unfold ftOk; rw [hrr, htf, htu, htn]; exact e))
  have YES := Lib.hid (show rr = true → tf = true → tu = true → tn = true → fr < un → ftOk m f L fr un now = true ∧ lRight m f L = true ∧ rTm fr = true ∧ rTm un = true ∧ rTm now = true from fun h1 h2 h3 h4 h5 => ⟨by unfold ftOk; rw [hrr, htf, htu, htn, h1, h2, h3, h4, decide_eq_true h5]; rfl, hrr.trans h1, htf.trans h2, htu.trans h3, htn.trans h4⟩)
  obtain ⟨k0, k1, k2, -⟩ := b1.three
  have RT1 := Lib.hid RT1; have IF := Lib.hid IF; have IU := Lib.hid IU; have IN := Lib.hid IN; have AK := Lib.hid AK; have KX := Lib.hid hb; have HWP := Lib.hid hwp; have BB := Lib.hid (show Bx wp w.heap.size [.int .i64 m, .int .i64 f, .slice A n c] ∧ Bx wp (w.heap.size + 1) [.string (ByteArray.mk #[]), .int .i64 0, .int .i64 0, .slice none 0 0] from ⟨b1, b2⟩)
  have HX := Lib.hid hx; have HN := Lib.hid hn; have HS := Lib.hid hs; have ZP := Lib.hid hz
  clear RT h hx hn hs b1 b2 hb hz hwp hrr htf htu htn
  go_enter Try.func8, Try.ntmps8
  go_wp2_with fail
  rw [HWP.out]
  refine RT1.out.mono ?_; rintro _ w1 ⟨rfl, hb1⟩
  have BB := Lib.hid (show Bx w1 w.heap.size [.int .i64 m, .int .i64 f, .slice A n c] ∧ Bx w1 (w.heap.size + 1) [.string (ByteArray.mk #[]), .int .i64 0, .int .i64 0, .slice none 0 0] from ⟨BB.out.1.below hb1, BB.out.2.below hb1⟩)
  have KX := Lib.hid (bnext KX.out hb1)
  clear hb1
  obtain ⟨k0, k1, k2, -⟩ := BB.out.1.three
  cases rr
  · obtain ⟨j0, j1, j2, j3, j4, j5, j6, j7⟩ := BB.out.2.four
    have NF := Lib.hid (NO.out (by simp))
    go_wp2_with fail
    refine bodyPost_ret (v := .tuple #[.agg #[.string (ByteArray.mk #[]), .int .i64 0, .int .i64 0, .slice none 0 0], .int .i64 1]) (by simp [results, Try.results8, go_sem, j0, j1, j2, j3, j4, j5, j6, j7]; try rfl) rfl ⟨none, 0, ?_, ?_, ?_⟩
    · obtain ⟨e1, e2, e3, e4⟩ := NF.out; rw [e1, e2, e3, e4]; rfl
    · rw [NF.out.2.2.1]; exact NuNew.nil _ _
    · exact below_set (below_set (below_set (below_set KX.out (by omega) _) (by omega) _) (by omega) _) (by omega) _
  · go_wp2_with fail
    refine (IF.out _).mono ?_; rintro _ wz2 ⟨rfl, hw2⟩; obtain rfl := hw2
    obtain ⟨k0, k1, k2, -⟩ := BB.out.1.three
    cases tf
    · obtain ⟨j0, j1, j2, j3, j4, j5, j6, j7⟩ := BB.out.2.four
      have NF := Lib.hid (NO.out (by simp))
      go_wp2_with fail
      refine bodyPost_ret (v := .tuple #[.agg #[.string (ByteArray.mk #[]), .int .i64 0, .int .i64 0, .slice none 0 0], .int .i64 1]) (by simp [results, Try.results8, go_sem, j0, j1, j2, j3, j4, j5, j6, j7]; try rfl) rfl ⟨none, 0, ?_, ?_, ?_⟩
      · obtain ⟨e1, e2, e3, e4⟩ := NF.out; rw [e1, e2, e3, e4]; rfl
      · rw [NF.out.2.2.1]; exact NuNew.nil _ _
      · exact below_set (below_set (below_set (below_set KX.out (by omega) _) (by omega) _) (by omega) _) (by omega) _
    · go_wp2_with fail
      refine (IU.out _).mono ?_; rintro _ wz3 ⟨rfl, hw3⟩; obtain rfl := hw3
      obtain ⟨k0, k1, k2, -⟩ := BB.out.1.three
      cases tu
      · obtain ⟨j0, j1, j2, j3, j4, j5, j6, j7⟩ := BB.out.2.four
        have NF := Lib.hid (NO.out (by simp))
        go_wp2_with fail
        refine bodyPost_ret (v := .tuple #[.agg #[.string (ByteArray.mk #[]), .int .i64 0, .int .i64 0, .slice none 0 0], .int .i64 1]) (by simp [results, Try.results8, go_sem, j0, j1, j2, j3, j4, j5, j6, j7]; try rfl) rfl ⟨none, 0, ?_, ?_, ?_⟩
        · obtain ⟨e1, e2, e3, e4⟩ := NF.out; rw [e1, e2, e3, e4]; rfl
        · rw [NF.out.2.2.1]; exact NuNew.nil _ _
        · exact below_set (below_set (below_set (below_set KX.out (by omega) _) (by omega) _) (by omega) _) (by omega) _
      · go_wp2_with fail
        refine (IN.out _).mono ?_; rintro _ wz4 ⟨rfl, hw4⟩; obtain rfl := hw4
        obtain ⟨k0, k1, k2, -⟩ := BB.out.1.three
        cases tn
        · obtain ⟨j0, j1, j2, j3, j4, j5, j6, j7⟩ := BB.out.2.four
          have NF := Lib.hid (NO.out (by simp))
          go_wp2_with fail
          refine bodyPost_ret (v := .tuple #[.agg #[.string (ByteArray.mk #[]), .int .i64 0, .int .i64 0, .slice none 0 0], .int .i64 1]) (by simp [results, Try.results8, go_sem, j0, j1, j2, j3, j4, j5, j6, j7]; try rfl) rfl ⟨none, 0, ?_, ?_, ?_⟩
          · obtain ⟨e1, e2, e3, e4⟩ := NF.out; rw [e1, e2, e3, e4]; rfl
          · rw [NF.out.2.2.1]; exact NuNew.nil _ _
          · exact below_set (below_set (below_set (below_set KX.out (by omega) _) (by omega) _) (by omega) _) (by omega) _
        · by_cases hlt : fr < un
          · as_aux_lemma =>
            obtain ⟨hok, hR, h1, h2, h3⟩ := YES.out (by first | rfl | trivial) (by first | rfl | trivial) (by first | rfl | trivial) (by first | rfl | trivial) hlt
            have FY := ft_yes hok
            obtain ⟨⟨s, l⟩, hsl⟩ : ∃ r, ftR L fr now = r := ⟨_, rfl⟩
            have hat := ftR_at hR fr now
            obtain ⟨ia, hia⟩ : ∃ a, lAsk L fr now = a := ⟨_, rfl⟩
            have AKW := fun (W : World) (hB : Below w1.heap.size w1 W) => AK.out W (bnext KX.out hB)
            rw [AP.lPick_yes ⟨hR, h1, h3⟩] at AKW
            rw [hsl] at FY hat
            rw [hia] at hat AKW
            simp only at FY
            have hrs := (lRight_iff.1 hR).2.2 ia _ hat
            simp only at hrs
            have hian : ia < n := by rw [← HN.out]; exact (List.getElem?_eq_some_iff.1 hat).1
            have hn4 : n ≤ 4 := by have := ((tog_iff _).1 (lRight_iff.1 hR).2.1).1.2; rwa [lRungs_length, HN.out] at this
            obtain ⟨b, off, s', l', A', c', q, rfl, hp, hq, e0, e1, ho⟩ := AP.ri_at (c := c) (fun hn => by obtain ⟨b, off, e, ha⟩ := HX.out hn; exact ⟨b, off, e, ha.below KX.out⟩) HN.out hian
            rw [hat] at hp
            have hpp := Option.some.inj hp
            injection hpp with es el
            subst es el
            have FO := fetch_ok hrs h1 h2 h3
            obtain ⟨m1, m2, m3, m4⟩ := rMay_iff.1 (rRight_iff.1 hrs).1
            obtain ⟨p1, p2⟩ := AP.reach_le hrs
            obtain ⟨f0, f1⟩ := rTm_iff.1 h1
            obtain ⟨u0, u1⟩ := rTm_iff.1 h2
            obtain ⟨n0, n1⟩ := rTm_iff.1 h3
            obtain ⟨lo0, lo1⟩ := rTm_iff.1 FO.low
            have hlow : lLow (s, l) fr now = if now - s * (q : Int) + 1 ≤ fr then fr else now - s * (q : Int) + 1 := by unfold lLow lReach; simp only; rw [hq]
            have htop : lTop un now = if un ≤ now + 1 then un else now + 1 := rfl
            have FI := first_is (l := l) hrs h1 h3
            have VDEF : lVals (s, l) fr un now = (List.range (rUp s (lTop un now) - rUp s (lLow (s, l) fr now)).toNat).map fun (i : Nat) => rVal s l ((rUp s (lLow (s, l) fr now) + ((i : Nat) : Int)) * s) := rfl
            have VL := lVals_length (s, l) fr un now
            have VF := FO.few
            simp only at VL
            have RE := fun W => reach_c s A' q c' ⟨m1, m2⟩ ⟨by omega, by omega⟩ W
            have ST0 : lStart (s, l) fr un now = if lVals (s, l) fr un now = [] then rUp s fr * s else rUp s (lLow (s, l) fr now) * s := rfl
            obtain ⟨lo, hlo⟩ : ∃ x, lLow (s, l) fr now = x := ⟨_, rfl⟩
            obtain ⟨tp, htp⟩ : ∃ x, lTop un now = x := ⟨_, rfl⟩
            obtain ⟨V, hV⟩ : ∃ V, lVals (s, l) fr un now = V := ⟨_, rfl⟩
            rw [hlo] at hlow ST0 lo0 lo1
            rw [htp] at htop
            rw [hV] at ST0 FY VL
            rw [hlo, htp] at VL VF
            rw [hlo] at FI
            rw [hV, hlo, htp] at VDEF
            rw [← VL] at VF
            obtain ⟨np, hnp⟩ : ∃ n, V.length = n := ⟨_, rfl⟩
            have hpq : s * (q : Int) = s * (l.length : Int) := by rw [hq]
            rw [← hpq] at p1 p2
            obtain ⟨pq, hpqe⟩ : ∃ x, s * (q : Int) = x := ⟨_, rfl⟩
            rw [hpqe] at p1 p2 hlow RE
            have HY := Lib.hid (show ftStart m f L fr un now = lStart (s, l) fr un now ∧ ftStep m f L fr un now = s ∧ ftVals m f L fr un now = V ∧ ftE m f L fr un now = 0 ∧ V.length = np from ⟨FY.1, FY.2.1, FY.2.2.1, FY.2.2.2, hnp⟩)
            replace ST0 := Lib.hid ST0; have HO := Lib.hid ho; replace AKW := Lib.hid AKW; replace RE := Lib.hid RE
            have NPV := Lib.hid (show (np = 0 ↔ V = []) from by rw [← hnp]; exact List.length_eq_zero_iff)
            have hnpl : np ≤ 400 := by rw [← hnp]; exact VF
            have CC := Lib.hid (fun (W : World) (hB : Below w1.heap.size w1 W) => show W.cell? ⟨w.heap.size, 0, none⟩ = some (.int .i64 m) ∧ W.cell? ⟨w.heap.size, 1, none⟩ = some (.int .i64 f) ∧ W.cell? ⟨w.heap.size, 2, none⟩ = some (.slice (some ⟨b, off, none⟩) n c) ∧ W.cell? ⟨b, off + ia * 2, none⟩ = some (.int .i64 s) ∧ W.cell? ⟨b, off + ia * 2 + 1, none⟩ = some (.slice A' q c') from ⟨cellb hB k0, cellb hB k1, cellb hB k2, cellb hB e0, cellb hB e1⟩)
            have ltb : b < w1.heap.size := World.block_lt_of_cell? w1 _ e0
            have lt1 : w.heap.size < w1.heap.size := BB.out.1.lt
            have i0 : (0 : Int) ≤ (ia : Int) := by omega
            have i1 : (ia : Int) < (n : Int) := by omega
            have HTP := Lib.hid htop
            have HPQ := Lib.hid (show s * (l.length : Int) = pq from hpq.symm.trans hpqe)
            replace FI := Lib.hid FI; have VDEF := Lib.hid VDEF; have HRS := Lib.hid hrs
            clear hok hR h1 h2 h3 FY hat hia hrs hp hq ho FO VL VF hlo htp hV hnp hpq hpqe hsl
            go_wp2_with fail
            go_cut [10] (fun s10 wx => ∃ bb : Nat, s10 = .pointer (some ⟨bb, 0, none⟩) ∧ wx.cell? ⟨bb, 0, none⟩ = some (.int .i64 s) ∧ wx.cell? ⟨bb, 1, none⟩ = some (.slice A' q c') ∧ Below w1.heap.size w1 wx ∧ Hid (w1.heap.size ≤ bb))
            case first =>
              go_region_held3 (fun y' => y'.cell? ⟨w.heap.size, 0, none⟩ = some (.int .i64 m) ∧ y'.cell? ⟨w.heap.size, 1, none⟩ = some (.int .i64 f) ∧ y'.cell? ⟨w.heap.size, 2, none⟩ = some (.slice (some ⟨b, off, none⟩) n c) ∧ y'.cell? ⟨b, off + ia * 2, none⟩ = some (.int .i64 s) ∧ y'.cell? ⟨b, off + ia * 2 + 1, none⟩ = some (.slice A' q c'))
                (first | go_keep | assumption | (exact CC.out _ T6) | (exact CC.out _ (below_put2 T6 (by omega) _ _)) | (exact CC.out _ (T6.alloc (by omega) _)) | (exact CC.out _ (Below.refl _ _)) | (exact CC.out _ (Below.refl _ _).drew))
                (first | (go_at_call 11; refine (AKW.out _ (by first | exact (Below.refl w1.heap.size w1).drew | exact (Below.refl w1.heap.size w1) | exact ((Below.refl w1.heap.size w1).drew.alloc (Nat.le_refl _) _) | exact ((Below.refl w1.heap.size w1).alloc (Nat.le_refl _) _).drew | exact ((Below.refl w1.heap.size w1).alloc (Nat.le_refl _) _))).mono ?_; rintro e w6 ⟨rfl, hb6⟩; have T6 : Below w1.heap.size w1 w6 := bnext (by first | exact (Below.refl w1.heap.size w1).drew | exact (Below.refl w1.heap.size w1) | exact ((Below.refl w1.heap.size w1).drew.alloc (Nat.le_refl _) _) | exact ((Below.refl w1.heap.size w1).alloc (Nat.le_refl _) _).drew | exact ((Below.refl w1.heap.size w1).alloc (Nat.le_refl _) _)) hb6; have q6 := CC.out w6 T6; have t6 := T6.size; obtain ⟨hc6, hf6⟩ := IP.bcell hb6; obtain ⟨ca6, cb6, cc6, cd6, ce6⟩ := id q6))
              all_goals (try go_wp2_with fail)
              all_goals go_meet
              all_goals refine ⟨_, rfl, ?_, ?_, ?_, ?_⟩
              all_goals (first | (go_simp; done) | (exact (T6.alloc (by omega) _)) | (exact below_put2 T6 (Nat.le_refl _) _ _) | exact T6 | (exact Lib.hid t6) | (exact Lib.hid (Nat.le_refl _)))
            case rest =>
              as_aux_lemma =>
                obtain ⟨bb, rfl, x0, x1, HB, HBB⟩ := hcut
                have NBB := Lib.hid (show bb ≠ w.heap.size + 1 from by have h1 := HBB.out; have h2 := BB.out.2.lt; omega)
                obtain ⟨w6, hw6⟩ : ∃ w6, w6 = wc := ⟨_, rfl⟩
                rw [← hw6] at x0 x1 HB ⊢
                have BB := Lib.hid (show Bx w6 w.heap.size [.int .i64 m, .int .i64 f, .slice (some ⟨b, off, none⟩) n c] ∧ Bx w6 (w.heap.size + 1) [.string (ByteArray.mk #[]), .int .i64 0, .int .i64 0, .slice none 0 0] from ⟨BB.out.1.below HB, BB.out.2.below HB⟩)
                have KX := Lib.hid (bnext KX.out HB)
                have HO := Lib.hid (HO.out.below HB)
                clear HB hw6 k0 k1 k2 e0 e1 ltb lt1 CC AKW htop hlow
                obtain ⟨u0, u1, u2⟩ := rUp_facts m1 f0
                have hu : (fr + s - 1) / s = rUp s fr := rfl
                obtain ⟨Q, hQ⟩ : ∃ Q, rUp s fr = Q := ⟨_, rfl⟩
                rw [hQ] at u0 u1 u2 hu ST0
                have FI2 := FI.out
                rw [hQ] at FI2
                have hQb : Q ≤ 1099511714176 := by
                  have h1 : Q * 1 ≤ Q * s := Int.mul_le_mul_of_nonneg_left m1 u0
                  omega
                obtain ⟨PU, hPU⟩ : ∃ PU, Q * s = PU := ⟨_, rfl⟩
                rw [hPU] at u1 u2 ST0 FI2
                have FI2 := Lib.hid FI2
                have sne : ¬ s = 0 := by omega
                have wA : IntKind.i64.wrap (fr + s) = fr + s := by rw [IntKind.wrap_i64]; omega
                have wB : IntKind.i64.wrap (fr + s - 1) = fr + s - 1 := by rw [IntKind.wrap_i64]; omega
                have wC0 : (fr + s - 1).tdiv s = Q := by rw [Int.tdiv_eq_ediv_of_nonneg (by omega)]; exact hu
                have wC : IntKind.i64.wrap ((fr + s - 1).tdiv s) = Q := by rw [wC0, IntKind.wrap_i64]; omega
                have wD : IntKind.i64.wrap (Q * s) = PU := by rw [hPU, IntKind.wrap_i64]; omega
                clear hu hQ hPU
                go_upto_region 4 with fail
                go_region
                go_upto_region 7 with fail
                have hmx : max PU 0 = PU := by omega
                have bq := bx_new1 w6 #[.string ⟨#[]⟩, .int .i64 PU, .int .i64 s, .slice none 0 0] 32
                obtain ⟨wq, hwq⟩ : ∃ wq, (w6.alloc (.cells #[.string ⟨#[]⟩, .int .i64 PU, .int .i64 s, .slice none 0 0] 32)).drew = wq := ⟨_, rfl⟩
                have BQ := Lib.hid (show Bx wq w6.heap.size [.string ⟨#[]⟩, .int .i64 PU, .int .i64 s, .slice none 0 0] by rw [← hwq]; exact bq.1.drew)
                have hbq : Below w6.heap.size w6 wq := by rw [← hwq]; exact bq.2.1.drew
                rw [hwq]
                obtain ⟨gb, hgb⟩ : ∃ gb, w6.heap.size = gb := ⟨_, rfl⟩
                have HBQ := Lib.hid (show Below gb w6 wq by rw [← hgb]; exact hbq)
                have HO6 := Lib.hid (show RgOut w6 (.slice A' q c') l ∧ w6.heap.size = gb from ⟨HO.out, hgb⟩)
                have NGB := Lib.hid (show w.heap.size + 1 < gb ∧ bb < gb from by
                  have h1 := BB.out.2.lt
                  have h2 := World.block_lt_of_cell? w6 _ x0
                  rw [← hgb]
                  exact ⟨h1, h2⟩)
                have x0 := cellb hbq x0; have x1 := cellb hbq x1
                have BB := Lib.hid (show Bx wq w.heap.size [.int .i64 m, .int .i64 f, .slice (some ⟨b, off, none⟩) n c] ∧ Bx wq (w.heap.size + 1) [.string (ByteArray.mk #[]), .int .i64 0, .int .i64 0, .slice none 0 0] from ⟨BB.out.1.below hbq, BB.out.2.below hbq⟩)
                have KX := Lib.hid (bnext KX.out hbq)
                have HO := Lib.hid (HO.out.below hbq)
                rw [hgb] at BQ ⊢
                rw [hmx]
                clear bq hwq hbq hmx
                have wn1 : IntKind.i64.wrap (now - pq) = now - pq := by rw [IntKind.wrap_i64]; omega
                obtain ⟨FF, hFF⟩ : ∃ FF, rUp s lo * s = FF := ⟨_, rfl⟩
                rw [hFF] at FI2
                go_wp2_with fail
                refine (RE.out _).mono ?_; rintro _ w8 ⟨rfl, hb8⟩
                have y0 := cellb hb8 x0; have y1 := cellb hb8 x1
                have HB8 := Lib.hid hb8
                have FI3 := FI2.out
                rw [HPQ.out] at FI3
                replace FI3 := Lib.hid FI3
                clear hb8 FI2
                go_upto_if 68 with fail
                go_cut [13] (fun s13 wx => s13 = .int .i64 FF ∧ Below wq.heap.size wq wx)
                case first =>
                  as_aux_lemma =>
                    have FI3 := FI3.out
                    by_cases hge : 0 ≤ now - pq
                    · as_aux_lemma =>
                        rw [if_pos hge] at FI3
                        obtain ⟨qq, hqq⟩ : ∃ qq, (now - pq) / s = qq := ⟨_, rfl⟩
                        have hq0 : 0 ≤ qq := by rw [← hqq]; exact Int.ediv_nonneg hge (by omega)
                        have hqs : qq * s ≤ now - pq := by rw [← hqq]; exact Int.ediv_mul_le _ sne
                        have hqb2 : qq ≤ 1099511627776 := by
                          have h1 : qq * 1 ≤ qq * s := Int.mul_le_mul_of_nonneg_left m1 hq0
                          omega
                        rw [hqq] at FI3
                        obtain ⟨zz, hzz⟩ : ∃ zz, qq * s = zz := ⟨_, rfl⟩
                        have hz0 : 0 ≤ zz := by rw [← hzz]; exact Int.mul_nonneg hq0 (by omega)
                        rw [hzz] at FI3 hqs
                        have wE0 : (now - pq).tdiv s = qq := by rw [Int.tdiv_eq_ediv_of_nonneg hge]; exact hqq
                        have wE : IntKind.i64.wrap ((now - pq).tdiv s) = qq := by rw [wE0, IntKind.wrap_i64]; omega
                        have wF : IntKind.i64.wrap (qq * s) = zz := by rw [hzz, IntKind.wrap_i64]; omega
                        have wG : IntKind.i64.wrap (zz + s) = zz + s := by rw [IntKind.wrap_i64]; omega
                        have FI4 := Lib.hid (show max PU (zz + s) = FF by rw [FI3]; omega)
                        clear FI3 hqq hzz wE0
                        go_upto_region 8 with fail
                        go_region_held3 (fun y => y.cell? ⟨bb, 0, none⟩ = some (.int .i64 s) ∧ y.cell? ⟨bb, 1, none⟩ = some (.slice A' q c'))
                          (first | (exact ⟨z0, z1⟩) | go_keep | assumption)
                          (first | (go_at_call 24; refine (RE.out _).mono ?_; rintro e w9 ⟨rfl, hb9⟩; have z0 := cellb hb9 y0; have z1 := cellb hb9 y1; have HB9 := Lib.hid hb9))
                        all_goals (try go_wp2_with fail)
                        all_goals go_meet
                        all_goals exact ⟨congrArg (fun z => Value.int .i64 z) FI4.out, bnext HB8.out.drew HB9.out⟩
                    · as_aux_lemma =>
                        rw [if_neg hge] at FI3
                        have FI4 := Lib.hid (show PU = FF by rw [FI3]; omega)
                        clear FI3
                        go_wp2_with fail
                        all_goals go_meet
                        all_goals exact ⟨congrArg (fun z => Value.int .i64 z) FI4.out, HB8.out⟩
                case rest =>
                  as_aux_lemma =>
                    obtain ⟨rfl, HBc⟩ := hcut
                    have HBC := Lib.hid HBc
                    obtain ⟨LQ, hLQ⟩ : ∃ LQ, rUp s lo = LQ := ⟨_, rfl⟩
                    have HL0 := Lib.hid (show 0 ≤ LQ by rw [← hLQ]; exact (rUp_facts m1 lo0).1)
                    have HSTV := Lib.hid (show lStart (s, l) fr un now = if V = [] then PU else FF by rw [ST0.out, hFF])
                    rw [hLQ] at hFF
                    have VD := VDEF.out
                    rw [hLQ] at VD
                    have NPL := HY.out.2.2.2.2
                    have hnp2 : np = (rUp s tp - LQ).toNat := by rw [← NPL, VD, List.length_map, List.length_range]
                    have VAT := Lib.hid (fun (i : Nat) (hi : i < np) => show V[i]? = some (rVal s l ((LQ + (i : Int)) * s)) by
                      rw [VD, List.getElem?_map, List.getElem?_range (by rw [← hnp2]; exact hi)]; rfl)
                    have COND := Lib.hid (fun (i : Nat) => show ((LQ + (i : Int)) * s < un ∧ (LQ + (i : Int)) * s ≤ now) ↔ i < np by
                      have h1 := @rUp_le s tp (LQ + (i : Int)) m1
                      have h2 := HTP.out
                      have h3 : ((LQ + (i : Int)) * s < un ∧ (LQ + (i : Int)) * s ≤ now) ↔ (LQ + (i : Int)) * s < tp := by rw [h2]; split <;> omega
                      rw [h3, h1]
                      omega)
                    obtain ⟨i0, hi0, hz0, hzz1, hzz2⟩ := info_parts num_info
                    have LB0 := Lib.hid (show gb < wq.heap.size from BQ.out.lt)
                    have ADD := Lib.hid (fun (i : Nat) => show (LQ + (i : Int)) * s + s = (LQ + ((i + 1 : Nat) : Int)) * s by
                      rw [show LQ + ((i + 1 : Nat) : Int) = LQ + (i : Int) + 1 by omega, Int.add_mul (LQ + (i : Int)) 1 s]; omega)
                    clear HBc hnp2 VD NPL hLQ
                    go_wp2_with fail
                    go_loopw [14] (fun v14 wr => ∃ (i : Nat) (t st : Int) (Ax : Option Addr) (cx : Nat), v14 = .int .i64 t ∧ i ≤ np ∧ Hid (t = (LQ + (i : Int)) * s) ∧ Hid (st = if i = 0 then PU else FF) ∧ Hid (Bx wr gb [.string ⟨#[]⟩, .int .i64 st, .int .i64 s, .slice Ax i cx]) ∧ Hid (NuNew wq.heap.size wr (.slice Ax i cx) (V.take i)) ∧ Hid (Below gb wq wr)) (fun v14 _ => (un - intOf v14).toNat)
                    case atStart => exact ⟨0, FF, PU, none, 0, rfl, Nat.zero_le _, by rw [← hFF]; show LQ * s = (LQ + 0) * s; rw [Int.add_zero], rfl, BQ.out.below HBC.out, by rw [List.take_zero]; exact NuNew.nil _ _, HBC.out.mono (Nat.le_of_lt LB0.out)⟩
                    case round =>
                      as_aux_lemma =>
                        obtain ⟨i, t, st, Ax, cx, rfl, hi, HT, HST, HBX, HNV, HBW⟩ := hrel
                        obtain ⟨g0, g1, g2, g3, z0, z1, z2, z3⟩ := HBX.out.four
                        have b0 : wr.cell? ⟨bb, 0, none⟩ = some (.int .i64 s) := (HBW.out.cell (p := ⟨bb, 0, none⟩) NGB.out.2).trans x0
                        have b1 : wr.cell? ⟨bb, 1, none⟩ = some (.slice A' q c') := (HBW.out.cell (p := ⟨bb, 1, none⟩) NGB.out.2).trans x1
                        have cnd := COND.out i
                        rw [← HT.out] at cnd
                        have HOW := Lib.hid (show RgOut wr (.slice A' q c') l from HO6.out.1.below (by rw [HO6.out.2]; exact HBQ.out.trans HBW.out))
                        by_cases hlt : i < np
                        · as_aux_lemma =>
                            obtain ⟨c1, c2⟩ := cnd.2 hlt
                            have hVi := VAT.out i hlt
                            rw [← HT.out] at hVi
                            have ht0 : 0 ≤ t := by rw [HT.out]; exact Int.mul_nonneg (by have := HL0.out; omega) (by omega)
                            have hti : rTm t = true := rTm_iff.2 ⟨ht0, by omega⟩
                            have hta : rAt s t = t := by unfold rAt; rw [HT.out, Int.mul_emod_left, Int.sub_zero]
                            have GC := fun (W : World) (o : RgOut W (.slice A' q c') l) => IR.get_c s t (.slice A' q c') l (by omega) W o
                            rw [rGet_yes ⟨HRS.out, hti⟩, hta] at GC
                            obtain ⟨o, ho⟩ : ∃ o, rVal s l t = o := ⟨_, rfl⟩
                            rw [ho] at GC hVi
                            obtain ⟨ob, hob⟩ : ∃ x, x = o.isNone := ⟨_, rfl⟩
                            obtain ⟨oz, hoz⟩ : ∃ x, x = o.getD 0 := ⟨_, rfl⟩
                            have hnu : nuC o = [.bool ob, .int .i64 oz] := by unfold nuC; rw [hob, hoz]
                            rw [hnu] at GC
                            have GCH := Lib.hid GC
                            have HTK := Lib.hid (show V.take (i + 1) = V.take i ++ [o] by rw [List.take_add_one, hVi]; rfl)
                            have hLi : (V.take i).length = i := by rw [List.length_take, HY.out.2.2.2.2]; omega
                            -- have HROW := Lib.hid (show wr.ownsRow wq.heap.size 61 2 (.slice Ax i cx) i (nusC (V.take i)) by have h1 := HNV.out; unfold NuNew at h1; rw [hLi] at h1; exact h1)
                            have hlv : i ≤ 400 := by omega
                            have wT : IntKind.i64.wrap (t + s) = t + s := by rw [IntKind.wrap_i64]; omega
                            have AD := Lib.hid (show t + s = (LQ + ((i + 1 : Nat) : Int)) * s by rw [HT.out, ADD.out])
                            have HOB := Lib.hid hob; have HOZ := Lib.hid hoz
                            have HFT := Lib.hid (show i = 0 → t = FF from fun e => by rw [HT.out, ← hFF, e]; show (LQ + 0) * s = LQ * s; rw [Int.add_zero])
                            clear GC hVi ho hta hti cnd hnu hob hoz
                            by_cases hz : i = 0
                            · as_aux_lemma =>
                                subst hz
                                go_upto_region 14 with fail
                                have BX1 := Lib.hid (show Bx (wr.setCell ⟨gb, 1, none⟩ (.int .i64 t)) gb [.string ⟨#[]⟩, .int .i64 t, .int .i64 s, .slice Ax 0 cx] from HBX.out.set (j := 1) (by simp) (.int .i64 t))
                                have BW1 := Lib.hid (show Below gb wq (wr.setCell ⟨gb, 1, none⟩ (.int .i64 t)) from below_set HBW.out (Nat.le_refl _) _)
                                have NV1 := Lib.hid (show NuNew wq.heap.size (wr.setCell ⟨gb, 1, none⟩ (.int .i64 t)) (.slice Ax 0 cx) (V.take 0) from HNV.out.keep2 (fun g hg => by have hne : g ≠ gb := by { have := LB0.out; omega }; rw [heap_setCell_other _ ⟨gb, 1, none⟩ g _ hne]))
                                obtain ⟨W1, hW1⟩ : ∃ Y, wr.setCell ⟨gb, 1, none⟩ (.int .i64 t) = Y := ⟨_, rfl⟩
                                rw [hW1] at BX1 BW1 NV1
                                rw [hW1]
                                clear hW1
                                have LW1 := Lib.hid (show wq.heap.size ≤ W1.heap.size from BW1.out.size)
                                have CC1 := Lib.hid (fun (Y : World) (hY : Below W1.heap.size W1 Y) => show Y.cell? ⟨bb, 0, none⟩ = some (.int .i64 s) ∧ Y.cell? ⟨bb, 1, none⟩ = some (.slice A' q c') ∧ Y.cell? ⟨gb, 3, none⟩ = some (.slice Ax 0 cx) from ⟨cellb hY ((BW1.out.cell (p := ⟨bb, 0, none⟩) NGB.out.2).trans x0), cellb hY ((BW1.out.cell (p := ⟨bb, 1, none⟩) NGB.out.2).trans x1), cellb hY BX1.out.four.2.2.2.1⟩)
                                have GC1 := Lib.hid (fun (Y : World) (hY : Below W1.heap.size W1 Y) => GCH.out Y ((HO6.out.1.below (by rw [HO6.out.2]; exact HBQ.out.trans BW1.out) : RgOut W1 (.slice A' q c') l).below hY))
                                have ROW1 := Lib.hid (show ∀ Y, Below W1.heap.size W1 Y → Y.ownsRow wq.heap.size 61 2 (.slice Ax 0 cx) 0 (nusC (V.take 0)) from fun Y hY => by have h1 := NV1.out.below hY; unfold NuNew at h1; rw [hLi] at h1; exact h1)
                                have HLI := Lib.hid hLi
                                have two2 : ∀ {a b c : Prop}, a ∧ b ∧ c → a ∧ b := fun h => ⟨h.1, h.2.1⟩
                                have gneb : ∀ i j : Nat, (⟨gb, j, none⟩ : Addr) ≠ ⟨bb, i, none⟩ := fun i j e => by injection e with e1; have := NGB.out.2; omega
                                obtain ⟨c0a, c0b, c0c⟩ := CC1.out W1 (Below.refl _ _)
                                clear hLi b0 b1 g0 g1 g2 g3 z0 z1 z2 z3
                                go_region_law (first
                                  | (refine step_get (by rfl) (.tmp 105) (.tmp 106) _ (by rfl) _ _ (by rfl) (by rfl) (GC1.out _ (by first | exact Below.refl _ _ | exact (Below.refl _ _).drew | exact below_drewN (Below.refl _ _) _)) ?_; rintro e w9 ⟨rfl, hb9⟩; refine ⟨_, rfl, ?_⟩; have T9 : Below W1.heap.size W1 w9 := bnext (by first | exact Below.refl _ _ | exact (Below.refl _ _).drew | exact below_drewN (Below.refl _ _) _) hb9; obtain ⟨c9a, c9b, c9c⟩ := CC1.out w9 T9; have c9d : (w9.alloc (.cells #[.bool ob, .int .i64 oz] 61)).cell? ⟨gb, 3, none⟩ = some (.slice Ax 0 cx) := (CC1.out _ (T9.alloc T9.size _)).2.2; have SZ9 := Lib.hid (show wq.heap.size ≤ w9.heap.size from Nat.le_trans LW1.out T9.size))
                                  | (refine step_append_any _ (by rfl) (.tmp 104) (.tmp 108) 30 (by rfl) wq.heap.size 61 i0 (.agg #[.bool false, .int .i64 0]) 2 16 Try.underlying30 hi0 hz0 hzz1 hzz2 rfl (by decide) (.slice Ax 0 cx) 0 (nusC (V.take 0)) (by rfl) (World.ownsRow.alloc (ROW1.out _ T9) _) _ (some ⟨w9.heap.size, 0, none⟩) 1 1 [.bool ob, .int .i64 oz] (by rfl) (Reads.of_own (World.ownsRow_lit (base := 0) (e := 61) (size := 2) w9 #[.bool ob, .int .i64 oz] 1 (Nat.zero_le _) (by decide) rfl)) (by simp [Value.oneCell']) (by simp only [maxLen]; omega) (by omega) (by have := SZ9.out; simp; omega) ?_; intro v13 w13 hown13 hg13 hat13; obtain ⟨A13, c13, hv13, hc13, _⟩ := own_form hown13; subst hv13; have hs13 := Lib.hid (IP.nu_more (w1 := W1) HOB.out HOZ.out (NV1.out.below T9) HLI.out (T9.mono LW1.out) SZ9.out _ _ hown13 hg13); have BX13 := Lib.hid (BX1.out.kept (hs13.out.2.block gb (LB0.out))); obtain ⟨d0, d1, d2, d3, d4, d5, d6, d7⟩ := BX13.out.four; have lbb : bb < wq.heap.size := by { have h1 := NGB.out.2; have h2 := LB0.out; omega }; have e13a := (World.cell?_of_block (a := ⟨bb, 0, none⟩) (hs13.out.2.block bb lbb)).trans c0a; have e13b := (World.cell?_of_block (a := ⟨bb, 1, none⟩) (hs13.out.2.block bb lbb)).trans c0b; clear hown13 hg13 hat13 hc13)
                                  | fail)
                                all_goals
                                  have BXF := Lib.hid (BX13.out.set (j := 3) (by simp) (.slice A13 (0 + 1) c13))
                                  have NVF := Lib.hid (show NuNew wq.heap.size (w13.setCell ⟨gb, 3, none⟩ (.slice A13 (0 + 1) c13)) (.slice A13 (0 + 1) c13) (V.take (0 + 1)) by
                                    rw [HTK.out]; exact hs13.out.1.keep2 (fun g hg => by have hne : g ≠ gb := by { have := LB0.out; omega }; rw [heap_setCell_other _ ⟨gb, 3, none⟩ g _ hne]))
                                  have BWF := Lib.hid (show Below gb wq (w13.setCell ⟨gb, 3, none⟩ (.slice A13 (0 + 1) c13)) from below_set (BW1.out.trans (hs13.out.2.mono (Nat.le_of_lt LB0.out))) (Nat.le_refl _) _)
                                  obtain ⟨WF, hWF⟩ : ∃ Y, w13.setCell ⟨gb, 3, none⟩ (.slice A13 (0 + 1) c13) = Y := ⟨_, rfl⟩
                                  rw [hWF] at BXF NVF BWF
                                  have f0a : WF.cell? ⟨bb, 0, none⟩ = some (.int .i64 s) := (BWF.out.cell (p := ⟨bb, 0, none⟩) NGB.out.2).trans x0
                                  first | rw [hWF] | skip
                                  clear hWF d0 d1 d2 d3 d4 d5 d6 d7 BX13 hs13
                                  go_wp2
                                  go_roundw
                                  case rel => exact ⟨0 + 1, t + s, t, A13, c13, by first | rfl | go_num, by omega, AD.out, by rw [if_neg (Nat.succ_ne_zero _)]; exact HFT.out (by first | rfl | trivial), BXF.out, NVF.out, BWF.out⟩
                                  case measure => simp only [intOf]; omega
                            · as_aux_lemma =>
                                have hzi : ¬ (i : Int) = 0 := by omega
                                go_upto_region 14 with fail
                                have BX1 := Lib.hid HBX.out
                                have BW1 := Lib.hid HBW.out
                                have NV1 := Lib.hid HNV.out
                                have LW1 := Lib.hid (show wq.heap.size ≤ wr.heap.size from BW1.out.size)
                                have CC1 := Lib.hid (fun (Y : World) (hY : Below wr.heap.size wr Y) => show Y.cell? ⟨bb, 0, none⟩ = some (.int .i64 s) ∧ Y.cell? ⟨bb, 1, none⟩ = some (.slice A' q c') ∧ Y.cell? ⟨gb, 3, none⟩ = some (.slice Ax i cx) from ⟨cellb hY ((BW1.out.cell (p := ⟨bb, 0, none⟩) NGB.out.2).trans x0), cellb hY ((BW1.out.cell (p := ⟨bb, 1, none⟩) NGB.out.2).trans x1), cellb hY BX1.out.four.2.2.2.1⟩)
                                have GC1 := Lib.hid (fun (Y : World) (hY : Below wr.heap.size wr Y) => GCH.out Y ((HO6.out.1.below (by rw [HO6.out.2]; exact HBQ.out.trans BW1.out) : RgOut wr (.slice A' q c') l).below hY))
                                have ROW1 := Lib.hid (show ∀ Y, Below wr.heap.size wr Y → Y.ownsRow wq.heap.size 61 2 (.slice Ax i cx) i (nusC (V.take i)) from fun Y hY => by have h1 := NV1.out.below hY; unfold NuNew at h1; rw [hLi] at h1; exact h1)
                                have HLI := Lib.hid hLi
                                have two2 : ∀ {a b c : Prop}, a ∧ b ∧ c → a ∧ b := fun h => ⟨h.1, h.2.1⟩
                                have gneb : ∀ i j : Nat, (⟨gb, j, none⟩ : Addr) ≠ ⟨bb, i, none⟩ := fun i j e => by injection e with e1; have := NGB.out.2; omega
                                obtain ⟨c0a, c0b, c0c⟩ := CC1.out wr (Below.refl _ _)
                                clear hLi b0 b1 g0 g1 g2 g3 z0 z1 z2 z3
                                go_region_law (first
                                  | (refine step_get (by rfl) (.tmp 105) (.tmp 106) _ (by rfl) _ _ (by rfl) (by rfl) (GC1.out _ (by first | exact Below.refl _ _ | exact (Below.refl _ _).drew | exact below_drewN (Below.refl _ _) _)) ?_; rintro e w9 ⟨rfl, hb9⟩; refine ⟨_, rfl, ?_⟩; have T9 : Below wr.heap.size wr w9 := bnext (by first | exact Below.refl _ _ | exact (Below.refl _ _).drew | exact below_drewN (Below.refl _ _) _) hb9; obtain ⟨c9a, c9b, c9c⟩ := CC1.out w9 T9; have c9d : (w9.alloc (.cells #[.bool ob, .int .i64 oz] 61)).cell? ⟨gb, 3, none⟩ = some (.slice Ax i cx) := (CC1.out _ (T9.alloc T9.size _)).2.2; have SZ9 := Lib.hid (show wq.heap.size ≤ w9.heap.size from Nat.le_trans LW1.out T9.size))
                                  | (refine step_append_any _ (by rfl) (.tmp 104) (.tmp 108) 30 (by rfl) wq.heap.size 61 i0 (.agg #[.bool false, .int .i64 0]) 2 16 Try.underlying30 hi0 hz0 hzz1 hzz2 rfl (by decide) (.slice Ax i cx) i (nusC (V.take i)) (by rfl) (World.ownsRow.alloc (ROW1.out _ T9) _) _ (some ⟨w9.heap.size, 0, none⟩) 1 1 [.bool ob, .int .i64 oz] (by rfl) (Reads.of_own (World.ownsRow_lit (base := 0) (e := 61) (size := 2) w9 #[.bool ob, .int .i64 oz] 1 (Nat.zero_le _) (by decide) rfl)) (by simp [Value.oneCell']) (by simp only [maxLen]; omega) (by omega) (by have := SZ9.out; simp; omega) ?_; intro v13 w13 hown13 hg13 hat13; obtain ⟨A13, c13, hv13, hc13, _⟩ := own_form hown13; subst hv13; have hs13 := Lib.hid (IP.nu_more (w1 := wr) HOB.out HOZ.out (NV1.out.below T9) HLI.out (T9.mono LW1.out) SZ9.out _ _ hown13 hg13); have BX13 := Lib.hid (BX1.out.kept (hs13.out.2.block gb (LB0.out))); obtain ⟨d0, d1, d2, d3, d4, d5, d6, d7⟩ := BX13.out.four; have lbb : bb < wq.heap.size := by { have h1 := NGB.out.2; have h2 := LB0.out; omega }; have e13a := (World.cell?_of_block (a := ⟨bb, 0, none⟩) (hs13.out.2.block bb lbb)).trans c0a; have e13b := (World.cell?_of_block (a := ⟨bb, 1, none⟩) (hs13.out.2.block bb lbb)).trans c0b; clear hown13 hg13 hat13 hc13)
                                  | fail)
                                all_goals
                                  have BXF := Lib.hid (BX13.out.set (j := 3) (by simp) (.slice A13 (i + 1) c13))
                                  have NVF := Lib.hid (show NuNew wq.heap.size (w13.setCell ⟨gb, 3, none⟩ (.slice A13 (i + 1) c13)) (.slice A13 (i + 1) c13) (V.take (i + 1)) by
                                    rw [HTK.out]; exact hs13.out.1.keep2 (fun g hg => by have hne : g ≠ gb := by { have := LB0.out; omega }; rw [heap_setCell_other _ ⟨gb, 3, none⟩ g _ hne]))
                                  have BWF := Lib.hid (show Below gb wq (w13.setCell ⟨gb, 3, none⟩ (.slice A13 (i + 1) c13)) from below_set (BW1.out.trans (hs13.out.2.mono (Nat.le_of_lt LB0.out))) (Nat.le_refl _) _)
                                  obtain ⟨WF, hWF⟩ : ∃ Y, w13.setCell ⟨gb, 3, none⟩ (.slice A13 (i + 1) c13) = Y := ⟨_, rfl⟩
                                  rw [hWF] at BXF NVF BWF
                                  have f0a : WF.cell? ⟨bb, 0, none⟩ = some (.int .i64 s) := (BWF.out.cell (p := ⟨bb, 0, none⟩) NGB.out.2).trans x0
                                  first | rw [hWF] | skip
                                  clear hWF d0 d1 d2 d3 d4 d5 d6 d7 BX13 hs13
                                  go_wp2
                                  go_roundw
                                  case rel => exact ⟨i + 1, t + s, st, A13, c13, by first | rfl | go_num, by omega, AD.out, by rw [if_neg (Nat.succ_ne_zero _)]; exact HST.out.trans (if_neg hz), BXF.out, NVF.out, BWF.out⟩
                                  case measure => simp only [intOf]; omega
                        · as_aux_lemma =>
                            obtain rfl : i = np := by omega
                            obtain ⟨q0, q1, q2, q3, q4, q5, q6, q7⟩ := BB.out.2.four
                            have j0 := (HBW.out.cell (p := ⟨w.heap.size + 1, 0, none⟩) NGB.out.1).trans q0
                            have j1 := (HBW.out.cell (p := ⟨w.heap.size + 1, 1, none⟩) NGB.out.1).trans q1
                            have j2 := (HBW.out.cell (p := ⟨w.heap.size + 1, 2, none⟩) NGB.out.1).trans q2
                            have j3 := (HBW.out.cell (p := ⟨w.heap.size + 1, 3, none⟩) NGB.out.1).trans q3
                            have j4 := (HBW.out.frozen (p := ⟨w.heap.size + 1, 0, none⟩) NGB.out.1).trans q4
                            have j5 := (HBW.out.frozen (p := ⟨w.heap.size + 1, 1, none⟩) NGB.out.1).trans q5
                            have j6 := (HBW.out.frozen (p := ⟨w.heap.size + 1, 2, none⟩) NGB.out.1).trans q6
                            have j7 := (HBW.out.frozen (p := ⟨w.heap.size + 1, 3, none⟩) NGB.out.1).trans q7
                            have KF := Lib.hid (show Below w.heap.size w wr from KX.out.trans (HBW.out.mono (by have := NGB.out.1; omega)))
                            have HSE := Lib.hid (show lStart (s, l) fr un now = st by
                              rw [HSTV.out, HST.out]
                              by_cases hz : i = 0
                              · rw [if_pos (NPV.out.1 hz), if_pos hz]
                              · rw [if_neg (fun e => hz (NPV.out.2 e)), if_neg hz])
                            have HRW := Lib.hid (show NuNew wq.heap.size wr (.slice Ax i cx) V by
                              have h1 := HNV.out
                              rw [List.take_of_length_le (by rw [HY.out.2.2.2.2]; exact Nat.le_refl _)] at h1
                              exact h1)
                            have LW := Lib.hid (show w.heap.size ≤ wq.heap.size ∧ w.heap.size + 1 < wq.heap.size by have h1 := NGB.out.1; have h2 := LB0.out; omega)
                            have gne : ∀ i j : Nat, (⟨w.heap.size + 1, i, none⟩ : Addr) ≠ ⟨gb, j, none⟩ := fun i j e => by injection e with e1; have := NGB.out.1; omega
                            have hno : ¬ (t < un ∧ t ≤ now) := fun h => by have := cnd.1 h; omega
                            clear q0 q1 q2 q3 q4 q5 q6 q7 HST HNV
                            by_cases c1 : t < un
                            · have c2 : ¬ t ≤ now := fun h => hno ⟨c1, h⟩
                              go_wp2_with fail
                              all_goals exact bodyPost_ret (v := .tuple #[.agg #[.string (ByteArray.mk #[]), .int .i64 st, .int .i64 s, .slice Ax i cx], .int .i64 0]) (by simp [results, Try.results8, go_sem, j0, j1, j2, j3, j4, j5, j6, j7]) rfl ⟨Ax, cx, by obtain ⟨e1, e2, e3, e4, e5⟩ := HY.out; rw [e1, e2, e3, e4, e5, HSE.out], by obtain ⟨e1, e2, e3, e4, e5⟩ := HY.out; rw [e3, e5]; refine NuNew.mono ?_ LW.out.1; exact HRW.out.keep2 (fun g hg => by
                                  have hne : g ≠ w.heap.size + 1 := by have := LW.out.2; omega
                                  rw [heap_setCell_other _ ⟨w.heap.size + 1, 3, none⟩ g _ hne, heap_setCell_other _ ⟨w.heap.size + 1, 2, none⟩ g _ hne, heap_setCell_other _ ⟨w.heap.size + 1, 1, none⟩ g _ hne, heap_setCell_other _ ⟨w.heap.size + 1, 0, none⟩ g _ hne]), below_set (below_set (below_set (below_set KF.out (by omega) _) (by omega) _) (by omega) _) (by omega) _⟩
                            · go_wp2_with fail
                              all_goals exact bodyPost_ret (v := .tuple #[.agg #[.string (ByteArray.mk #[]), .int .i64 st, .int .i64 s, .slice Ax i cx], .int .i64 0]) (by simp [results, Try.results8, go_sem, j0, j1, j2, j3, j4, j5, j6, j7]) rfl ⟨Ax, cx, by obtain ⟨e1, e2, e3, e4, e5⟩ := HY.out; rw [e1, e2, e3, e4, e5, HSE.out], by obtain ⟨e1, e2, e3, e4, e5⟩ := HY.out; rw [e3, e5]; refine NuNew.mono ?_ LW.out.1; exact HRW.out.keep2 (fun g hg => by
                                  have hne : g ≠ w.heap.size + 1 := by have := LW.out.2; omega
                                  rw [heap_setCell_other _ ⟨w.heap.size + 1, 3, none⟩ g _ hne, heap_setCell_other _ ⟨w.heap.size + 1, 2, none⟩ g _ hne, heap_setCell_other _ ⟨w.heap.size + 1, 1, none⟩ g _ hne, heap_setCell_other _ ⟨w.heap.size + 1, 0, none⟩ g _ hne]), below_set (below_set (below_set (below_set KF.out (by omega) _) (by omega) _) (by omega) _) (by omega) _⟩
          · obtain ⟨j0, j1, j2, j3, j4, j5, j6, j7⟩ := BB.out.2.four
            have NF := Lib.hid (NO.out (by simp; omega))
            go_wp2_with fail
            refine bodyPost_ret (v := .tuple #[.agg #[.string (ByteArray.mk #[]), .int .i64 0, .int .i64 0, .slice none 0 0], .int .i64 1]) (by simp [results, Try.results8, go_sem, j0, j1, j2, j3, j4, j5, j6, j7]; try rfl) rfl ⟨none, 0, ?_, ?_, ?_⟩
            · obtain ⟨e1, e2, e3, e4⟩ := NF.out; rw [e1, e2, e3, e4]; rfl
            · rw [NF.out.2.2.1]; exact NuNew.nil _ _
            · exact below_set (below_set (below_set (below_set KX.out (by omega) _) (by omega) _) (by omega) _) (by omega) _
end Go.Proofs.Ytkgajlklhcmmcaa.AR
