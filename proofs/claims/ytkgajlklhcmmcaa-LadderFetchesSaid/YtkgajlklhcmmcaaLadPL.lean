/-
  What is fetched, by the program.
-/
import Derived.Test.YtkgajlklhcmmcaaLadPK
set_option linter.unusedSimpArgs false
set_option linter.unusedVariables false
namespace Go.Proofs.Ytkgajlklhcmmcaa
open Go.RowKit
theorem rUp_span {s now : Int} {n : Nat} (hs : 1 ≤ s) : rUp s (now + 1) - rUp s (now - s * (n : Int) + 1) = (n : Int) := by
  unfold rUp
  have e1 : now + 1 + s - 1 = (now + s - s * (n : Int)) + (n : Int) * s := by rw [Int.mul_comm (n : Int) s]; omega
  have e2 : now - s * (n : Int) + 1 + s - 1 = now + s - s * (n : Int) := by omega
  rw [e1, e2, Int.add_mul_ediv_right _ _ (by omega)]
  omega
structure FetchOk (s : Int) (l : List (Int × Int)) (fr un now : Int) : Prop where
  low : rTm (lLow (s, l) fr now) = true
  top : rTm (lTop un now) = true
  few : (rUp s (lTop un now) - rUp s (lLow (s, l) fr now)).toNat ≤ 400
theorem fetch_ok {s : Int} {l : List (Int × Int)} {fr un now : Int} (hr : rRight s l = true) (h1 : rTm fr = true) (h2 : rTm un = true) (h3 : rTm now = true) : FetchOk s l fr un now := by
  obtain ⟨m1, m2, m3, m4⟩ := rMay_iff.1 (rRight_iff.1 hr).1
  obtain ⟨p1, p2⟩ := AP.reach_le hr
  obtain ⟨f0, f1⟩ := rTm_iff.1 h1
  obtain ⟨u0, u1⟩ := rTm_iff.1 h2
  obtain ⟨n0, n1⟩ := rTm_iff.1 h3
  have e := @rUp_span s now l.length m1
  have hl : lReach (s, l) = s * (l.length : Int) := rfl
  have a1 : now - s * (l.length : Int) + 1 ≤ lLow (s, l) fr now := by unfold lLow; rw [hl]; split <;> omega
  have a2 : lTop un now ≤ now + 1 := by unfold lTop; split <;> omega
  have b1 := rUp_mono m1 a1
  have b2 := rUp_mono m1 a2
  refine ⟨rTm_iff.2 ⟨?_, ?_⟩, rTm_iff.2 ⟨?_, ?_⟩, by omega⟩
  · unfold lLow; split <;> omega
  · unfold lLow; rw [hl]; split <;> omega
  · unfold lTop; split <;> omega
  · unfold lTop; split <;> omega
theorem lVals_length (r : Rg) (fr un now : Int) : (lVals r fr un now).length = (rUp r.1 (lTop un now) - rUp r.1 (lLow r fr now)).toNat := by unfold lVals; rw [List.length_map, List.length_range]
theorem span_vals {s : Int} {l : List (Int × Int)} {fr un now : Int} (hr : rRight s l = true) (h : FetchOk s l fr un now) : rSpan s l (lLow (s, l) fr now) (lTop un now) = (lVals (s, l) fr un now, 0) := by
  rw [rSpan_eq hr h.low h.top]
  have := h.few
  unfold rCnt
  rw [if_neg (by omega)]
  rfl
/-- What Fetch answers. -/
def ftR (L : List Rg) (fr now : Int) : Rg := L[lAsk L fr now]?.getD (0, [])
def ftOk (m f : Int) (L : List Rg) (fr un now : Int) : Bool := lRight m f L && (rTm fr && (rTm un && (rTm now && decide (fr < un))))
def ftStart (m f : Int) (L : List Rg) (fr un now : Int) : Int := if ftOk m f L fr un now = true then lStart (ftR L fr now) fr un now else 0
def ftStep (m f : Int) (L : List Rg) (fr un now : Int) : Int := if ftOk m f L fr un now = true then (ftR L fr now).1 else 0
def ftVals (m f : Int) (L : List Rg) (fr un now : Int) : List (Option Int) := if ftOk m f L fr un now = true then lVals (ftR L fr now) fr un now else []
def ftE (m f : Int) (L : List Rg) (fr un now : Int) : Int := if ftOk m f L fr un now = true then 0 else 1
theorem ft_no {m f : Int} {L : List Rg} {fr un now : Int} (h : ftOk m f L fr un now = false) : ftStart m f L fr un now = 0 ∧ ftStep m f L fr un now = 0 ∧ ftVals m f L fr un now = [] ∧ ftE m f L fr un now = 1 := by
  unfold ftStart ftStep ftVals ftE; rw [h]; exact ⟨rfl, rfl, rfl, rfl⟩
theorem ft_yes {m f : Int} {L : List Rg} {fr un now : Int} (h : ftOk m f L fr un now = true) : ftStart m f L fr un now = lStart (ftR L fr now) fr un now ∧ ftStep m f L fr un now = (ftR L fr now).1 ∧ ftVals m f L fr un now = lVals (ftR L fr now) fr un now ∧ ftE m f L fr un now = 0 := by
  unfold ftStart ftStep ftVals ftE; rw [h]; exact ⟨rfl, rfl, rfl, rfl⟩
theorem ftR_at {m f : Int} {L : List Rg} (hR : lRight m f L = true) (fr now : Int) : L[lAsk L fr now]? = some (ftR L fr now) := by
  unfold ftR
  rw [List.getElem?_eq_getElem (AP.lAsk_lt hR fr now)]
  rfl
theorem NuNew.keep2 {B : Nat} {w w' : World} {v : Value} {l : List (Option Int)} (h : NuNew B w v l) (hk : ∀ g, B ≤ g → w'.heap[g]? = w.heap[g]?) : NuNew B w' v l := own_keep h (fun g hg _ _ => hk g hg)
namespace AP
open IP
theorem _root_.Go.Proofs.Ytkgajlklhcmmcaa.Bx.four {w : World} {b : Nat} {x y z u : Value} (h : Bx w b [x, y, z, u]) : w.cell? ⟨b, 0, none⟩ = some x ∧ w.cell? ⟨b, 1, none⟩ = some y ∧ w.cell? ⟨b, 2, none⟩ = some z ∧ w.cell? ⟨b, 3, none⟩ = some u ∧ w.frozen? ⟨b, 0, none⟩ = false ∧ w.frozen? ⟨b, 1, none⟩ = false ∧ w.frozen? ⟨b, 2, none⟩ = false ∧ w.frozen? ⟨b, 3, none⟩ = false :=
  ⟨(h.cells 0 _ rfl).1, (h.cells 1 _ rfl).1, (h.cells 2 _ rfl).1, (h.cells 3 _ rfl).1, (h.cells 0 _ rfl).2, (h.cells 1 _ rfl).2, (h.cells 2 _ rfl).2, (h.cells 3 _ rfl).2⟩
set_option maxRecDepth 100000 in
set_option maxHeartbeats 8000000 in
theorem fetch_c (m f fr un now : Int) (v : Value) (L : List Rg) (hl : L.length ≤ 100000) (hs : ∀ r ∈ L, r.2.length ≤ 100000) (w : World) (h : RiOut w v L) :
    Calls Try.prog 7 #[.agg #[.int .i64 m, .int .i64 f, v], .int .i64 fr, .int .i64 un, .int .i64 now] w fun e w' => ∃ A c, e = .returned (.tuple #[.agg #[.string (ByteArray.mk #[]), .int .i64 (ftStart m f L fr un now), .int .i64 (ftStep m f L fr un now), .slice A (ftVals m f L fr un now).length c], .int .i64 (ftE m f L fr un now)]) ∧ NuNew w.heap.size w' (.slice A (ftVals m f L fr un now).length c) (ftVals m f L fr un now) ∧ Below w.heap.size w w' := by
  have RT := fun (W : World) (hB : Below w.heap.size w W) => right_c m f v L hl hs W (h.below hB)
  have AK := fun (hR : lRight m f L = true) (h1 : rTm fr = true) (h3 : rTm now = true) (W : World) (hB : Below w.heap.size w W) => asked_c m f fr now v L hR h1 h3 W (h.below hB)
  obtain ⟨A, c, rfl, hc, hx⟩ := id h
  obtain ⟨n, hn⟩ : ∃ n, L.length = n := ⟨_, rfl⟩
  rw [hn] at RT AK hc
  obtain ⟨b1, b2, hb, hz⟩ := bx_new2 w #[.int .i64 m, .int .i64 f, .slice A n c] #[.string (ByteArray.mk #[]), .int .i64 0, .int .i64 0, .slice none 0 0] 24 32
  obtain ⟨wp, hwp⟩ : ∃ wp, (w.alloc (.cells #[.int .i64 m, .int .i64 f, .slice A n c] 24)).alloc (.cells #[.string (ByteArray.mk #[]), .int .i64 0, .int .i64 0, .slice none 0 0] 32) = wp := ⟨_, rfl⟩
  rw [hwp] at b1 b2 hb hz
  rw [hn]
  obtain ⟨rr, hrr⟩ : ∃ rr, lRight m f L = rr := ⟨_, rfl⟩
  obtain ⟨tf, htf⟩ : ∃ tt, rTm fr = tt := ⟨_, rfl⟩
  obtain ⟨tu, htu⟩ : ∃ tt, rTm un = tt := ⟨_, rfl⟩
  obtain ⟨tn, htn⟩ : ∃ tt, rTm now = tt := ⟨_, rfl⟩
  have RT1 := RT wp hb
  rw [hrr] at RT1
  have IF := fun W => isTime_b fr W; have IU := fun W => isTime_b un W; have IN := fun W => isTime_b now W
  rw [htf] at IF; rw [htu] at IU; rw [htn] at IN
  have NO := Lib.hid (show (rr && (tf && (tu && (tn && decide (fr < un))))) = false → ftStart m f L fr un now = 0 ∧ ftStep m f L fr un now = 0 ∧ ftVals m f L fr un now = [] ∧ ftE m f L fr un now = 1 from fun e => ft_no (by unfold ftOk; rw [hrr, htf, htu, htn]; exact e))
  have YES := Lib.hid (show rr = true → tf = true → tu = true → tn = true → fr < un → ftOk m f L fr un now = true ∧ lRight m f L = true ∧ rTm fr = true ∧ rTm un = true ∧ rTm now = true from fun h1 h2 h3 h4 h5 => ⟨by unfold ftOk; rw [hrr, htf, htu, htn, h1, h2, h3, h4, decide_eq_true h5]; rfl, hrr.trans h1, htf.trans h2, htu.trans h3, htn.trans h4⟩)
  obtain ⟨k0, k1, k2, -⟩ := b1.three
  have RT1 := Lib.hid RT1; have IF := Lib.hid IF; have IU := Lib.hid IU; have IN := Lib.hid IN; have AK := Lib.hid AK; have KX := Lib.hid hb; have HWP := Lib.hid hwp; have BB := Lib.hid (show Bx wp w.heap.size [.int .i64 m, .int .i64 f, .slice A n c] ∧ Bx wp (w.heap.size + 1) [.string (ByteArray.mk #[]), .int .i64 0, .int .i64 0, .slice none 0 0] from ⟨b1, b2⟩)
  have HX := Lib.hid hx; have HN := Lib.hid hn; have HS := Lib.hid hs; have ZP := Lib.hid hz
  clear RT h hx hn hs b1 b2 hb hz hwp hrr htf htu htn
  go_enter Try.func7, Try.ntmps7
  go_wp2_with fail
  rw [HWP.out]
  refine RT1.out.mono ?_; rintro _ w1 ⟨rfl, hb1⟩
  have BB := Lib.hid (show Bx w1 w.heap.size [.int .i64 m, .int .i64 f, .slice A n c] ∧ Bx w1 (w.heap.size + 1) [.string (ByteArray.mk #[]), .int .i64 0, .int .i64 0, .slice none 0 0] from ⟨BB.out.1.below hb1, BB.out.2.below hb1⟩)
  have KX := Lib.hid (bnext KX.out hb1)
  clear hb1
  obtain ⟨k0, k1, k2, -⟩ := BB.out.1.three
  cases rr
  · obtain ⟨j0, j1, j2, j3, j4, j5, j6, j7⟩ := BB.out.2.four
    have NF := Lib.hid (NO.out (by simp))
    go_wp2_with fail
    refine bodyPost_ret (v := .tuple #[.agg #[.string (ByteArray.mk #[]), .int .i64 0, .int .i64 0, .slice none 0 0], .int .i64 1]) (by simp [results, Try.results7, go_sem, j0, j1, j2, j3, j4, j5, j6, j7]; try rfl) rfl ⟨none, 0, ?_, ?_, ?_⟩
    · obtain ⟨e1, e2, e3, e4⟩ := NF.out; rw [e1, e2, e3, e4]; rfl
    · rw [NF.out.2.2.1]; exact NuNew.nil _ _
    · exact below_set (below_set (below_set (below_set KX.out (by omega) _) (by omega) _) (by omega) _) (by omega) _
  · go_wp2_with fail
    refine (IF.out _).mono ?_; rintro _ w2 ⟨rfl, hb2⟩
    have BB := Lib.hid (show Bx w2 w.heap.size [.int .i64 m, .int .i64 f, .slice A n c] ∧ Bx w2 (w.heap.size + 1) [.string (ByteArray.mk #[]), .int .i64 0, .int .i64 0, .slice none 0 0] from ⟨BB.out.1.below hb2, BB.out.2.below hb2⟩)
    have KX := Lib.hid (bnext KX.out hb2)
    clear hb2
    obtain ⟨k0, k1, k2, -⟩ := BB.out.1.three
    cases tf
    · obtain ⟨j0, j1, j2, j3, j4, j5, j6, j7⟩ := BB.out.2.four
      have NF := Lib.hid (NO.out (by simp))
      go_wp2_with fail
      refine bodyPost_ret (v := .tuple #[.agg #[.string (ByteArray.mk #[]), .int .i64 0, .int .i64 0, .slice none 0 0], .int .i64 1]) (by simp [results, Try.results7, go_sem, j0, j1, j2, j3, j4, j5, j6, j7]; try rfl) rfl ⟨none, 0, ?_, ?_, ?_⟩
      · obtain ⟨e1, e2, e3, e4⟩ := NF.out; rw [e1, e2, e3, e4]; rfl
      · rw [NF.out.2.2.1]; exact NuNew.nil _ _
      · exact below_set (below_set (below_set (below_set KX.out (by omega) _) (by omega) _) (by omega) _) (by omega) _
    · go_wp2_with fail
      refine (IU.out _).mono ?_; rintro _ w3 ⟨rfl, hb3⟩
      have BB := Lib.hid (show Bx w3 w.heap.size [.int .i64 m, .int .i64 f, .slice A n c] ∧ Bx w3 (w.heap.size + 1) [.string (ByteArray.mk #[]), .int .i64 0, .int .i64 0, .slice none 0 0] from ⟨BB.out.1.below hb3, BB.out.2.below hb3⟩)
      have KX := Lib.hid (bnext KX.out hb3)
      clear hb3
      obtain ⟨k0, k1, k2, -⟩ := BB.out.1.three
      cases tu
      · obtain ⟨j0, j1, j2, j3, j4, j5, j6, j7⟩ := BB.out.2.four
        have NF := Lib.hid (NO.out (by simp))
        go_wp2_with fail
        refine bodyPost_ret (v := .tuple #[.agg #[.string (ByteArray.mk #[]), .int .i64 0, .int .i64 0, .slice none 0 0], .int .i64 1]) (by simp [results, Try.results7, go_sem, j0, j1, j2, j3, j4, j5, j6, j7]; try rfl) rfl ⟨none, 0, ?_, ?_, ?_⟩
        · obtain ⟨e1, e2, e3, e4⟩ := NF.out; rw [e1, e2, e3, e4]; rfl
        · rw [NF.out.2.2.1]; exact NuNew.nil _ _
        · exact below_set (below_set (below_set (below_set KX.out (by omega) _) (by omega) _) (by omega) _) (by omega) _
      · go_wp2_with fail
        refine (IN.out _).mono ?_; rintro _ w4 ⟨rfl, hb4⟩
        have BB := Lib.hid (show Bx w4 w.heap.size [.int .i64 m, .int .i64 f, .slice A n c] ∧ Bx w4 (w.heap.size + 1) [.string (ByteArray.mk #[]), .int .i64 0, .int .i64 0, .slice none 0 0] from ⟨BB.out.1.below hb4, BB.out.2.below hb4⟩)
        have KX := Lib.hid (bnext KX.out hb4)
        clear hb4
        obtain ⟨k0, k1, k2, -⟩ := BB.out.1.three
        cases tn
        · obtain ⟨j0, j1, j2, j3, j4, j5, j6, j7⟩ := BB.out.2.four
          have NF := Lib.hid (NO.out (by simp))
          go_wp2_with fail
          refine bodyPost_ret (v := .tuple #[.agg #[.string (ByteArray.mk #[]), .int .i64 0, .int .i64 0, .slice none 0 0], .int .i64 1]) (by simp [results, Try.results7, go_sem, j0, j1, j2, j3, j4, j5, j6, j7]; try rfl) rfl ⟨none, 0, ?_, ?_, ?_⟩
          · obtain ⟨e1, e2, e3, e4⟩ := NF.out; rw [e1, e2, e3, e4]; rfl
          · rw [NF.out.2.2.1]; exact NuNew.nil _ _
          · exact below_set (below_set (below_set (below_set KX.out (by omega) _) (by omega) _) (by omega) _) (by omega) _
        · by_cases hlt : fr < un
          · obtain ⟨hok, hR, h1, h2, h3⟩ := YES.out (by first | rfl | trivial) (by first | rfl | trivial) (by first | rfl | trivial) (by first | rfl | trivial) hlt
            have FY := ft_yes hok
            obtain ⟨⟨s, l⟩, hsl⟩ : ∃ r, ftR L fr now = r := ⟨_, rfl⟩
            have hat := ftR_at hR fr now
            obtain ⟨ia, hia⟩ : ∃ a, lAsk L fr now = a := ⟨_, rfl⟩
            have AKW := fun (W : World) (hB : Below w4.heap.size w4 W) => AK.out hR h1 h3 W (bnext KX.out hB)
            rw [hsl] at FY hat
            rw [hia] at hat AKW
            simp only at FY
            have hrs := (lRight_iff.1 hR).2.2 ia _ hat
            simp only at hrs
            have hian : ia < n := by rw [← HN.out]; exact (List.getElem?_eq_some_iff.1 hat).1
            have hn4 : n ≤ 4 := by have := ((tog_iff _).1 (lRight_iff.1 hR).2.1).1.2; rwa [lRungs_length, HN.out] at this
            obtain ⟨b, off, s', l', A', c', q, rfl, hp, hq, e0, e1, ho⟩ := ri_at (c := c) (fun hn => by obtain ⟨b, off, e, ha⟩ := HX.out hn; exact ⟨b, off, e, ha.below KX.out⟩) HN.out hian
            rw [hat] at hp
            have hpp := Option.some.inj hp
            injection hpp with es el
            subst es el
            have FO := fetch_ok hrs h1 h2 h3
            have SV := span_vals hrs FO
            obtain ⟨m1, m2, m3, m4⟩ := rMay_iff.1 (rRight_iff.1 hrs).1
            obtain ⟨p1, p2⟩ := reach_le hrs
            obtain ⟨f0, f1⟩ := rTm_iff.1 h1
            obtain ⟨u0, u1⟩ := rTm_iff.1 h2
            obtain ⟨n0, n1⟩ := rTm_iff.1 h3
            obtain ⟨lo0, lo1⟩ := rTm_iff.1 FO.low
            have SP := fun (W : World) (o : RgOut W (.slice A' q c') l) => span_c s (lLow (s, l) fr now) (lTop un now) (.slice A' q c') l (by omega) W o
            rw [SV] at SP
            have hlow : lLow (s, l) fr now = if now - s * (q : Int) + 1 ≤ fr then fr else now - s * (q : Int) + 1 := by unfold lLow lReach; simp only; rw [hq]
            have htop : lTop un now = if un ≤ now + 1 then un else now + 1 := rfl
            have VL := lVals_length (s, l) fr un now
            have VF := FO.few
            simp only at VL
            have RE := fun W => reach_c s A' q c' ⟨m1, m2⟩ ⟨by omega, by omega⟩ W
            have ST0 : lStart (s, l) fr un now = if lVals (s, l) fr un now = [] then rUp s fr * s else rUp s (lLow (s, l) fr now) * s := rfl
            obtain ⟨lo, hlo⟩ : ∃ x, lLow (s, l) fr now = x := ⟨_, rfl⟩
            obtain ⟨tp, htp⟩ : ∃ x, lTop un now = x := ⟨_, rfl⟩
            obtain ⟨V, hV⟩ : ∃ V, lVals (s, l) fr un now = V := ⟨_, rfl⟩
            rw [hlo] at SP hlow ST0 lo0 lo1
            rw [htp] at SP htop
            rw [hV] at SP ST0 FY VL
            rw [hlo, htp] at VL VF
            rw [← VL] at VF
            obtain ⟨np, hnp⟩ : ∃ n, V.length = n := ⟨_, rfl⟩
            have hpq : s * (q : Int) = s * (l.length : Int) := by rw [hq]
            rw [← hpq] at p1 p2
            obtain ⟨pq, hpqe⟩ : ∃ x, s * (q : Int) = x := ⟨_, rfl⟩
            rw [hpqe] at p1 p2 hlow RE
            have UPf := fun W => upward_c fr s ⟨m1, m2⟩ ⟨f0, f1⟩ W
            have UPl := fun W => upward_c lo s ⟨m1, m2⟩ ⟨lo0, lo1⟩ W
            have HY := Lib.hid (show ftStart m f L fr un now = lStart (s, l) fr un now ∧ ftStep m f L fr un now = s ∧ ftVals m f L fr un now = V ∧ ftE m f L fr un now = 0 ∧ V.length = np from ⟨FY.1, FY.2.1, FY.2.2.1, FY.2.2.2, hnp⟩)
            have ST0 := Lib.hid ST0; have HO := Lib.hid ho; have AKW := Lib.hid AKW; have SP := Lib.hid SP; have RE := Lib.hid RE; have UPf := Lib.hid UPf; have UPl := Lib.hid UPl
            have NPV := Lib.hid (show (np = 0 ↔ V = []) from by rw [← hnp]; exact List.length_eq_zero_iff)
            have hnpl : np ≤ 400 := by rw [← hnp]; exact VF
            have CC := Lib.hid (fun (W : World) (hB : Below w4.heap.size w4 W) => show W.cell? ⟨w.heap.size, 0, none⟩ = some (.int .i64 m) ∧ W.cell? ⟨w.heap.size, 1, none⟩ = some (.int .i64 f) ∧ W.cell? ⟨w.heap.size, 2, none⟩ = some (.slice (some ⟨b, off, none⟩) n c) ∧ W.cell? ⟨b, off + ia * 2, none⟩ = some (.int .i64 s) ∧ W.cell? ⟨b, off + ia * 2 + 1, none⟩ = some (.slice A' q c') from ⟨cellb hB k0, cellb hB k1, cellb hB k2, cellb hB e0, cellb hB e1⟩)
            have ltb : b < w4.heap.size := World.block_lt_of_cell? w4 _ e0
            have lt1 : w.heap.size < w4.heap.size := BB.out.1.lt
            have i0 : (0 : Int) ≤ (ia : Int) := by omega
            have i1 : (ia : Int) < (n : Int) := by omega
            clear hok hR h1 h2 h3 FY hat hia hrs hp hq ho FO SV VL VF hlo htp hV hnp hpq hpqe hsl
            go_wp2_with fail
            go_cut [10] (fun s10 wx => ∃ bb : Nat, s10 = .pointer (some ⟨bb, 0, none⟩) ∧ wx.cell? ⟨bb, 0, none⟩ = some (.int .i64 s) ∧ wx.cell? ⟨bb, 1, none⟩ = some (.slice A' q c') ∧ Below w4.heap.size w4 wx ∧ Hid (w4.heap.size ≤ bb))
            case first =>
              go_region_held3 (fun y' => y'.cell? ⟨w.heap.size, 0, none⟩ = some (.int .i64 m) ∧ y'.cell? ⟨w.heap.size, 1, none⟩ = some (.int .i64 f) ∧ y'.cell? ⟨w.heap.size, 2, none⟩ = some (.slice (some ⟨b, off, none⟩) n c) ∧ y'.cell? ⟨b, off + ia * 2, none⟩ = some (.int .i64 s) ∧ y'.cell? ⟨b, off + ia * 2 + 1, none⟩ = some (.slice A' q c'))
                (first | go_keep | assumption | (exact CC.out _ T6) | (exact CC.out _ (below_put2 T6 (by omega) _ _)) | (exact CC.out _ (T6.alloc (by omega) _)) | (exact CC.out _ (Below.refl _ _)) | (exact CC.out _ (Below.refl _ _).drew))
                (first | (go_at_call 18; refine (AKW.out _ (by first | exact (Below.refl w4.heap.size w4).drew | exact (Below.refl w4.heap.size w4) | exact ((Below.refl w4.heap.size w4).drew.alloc (Nat.le_refl _) _) | exact ((Below.refl w4.heap.size w4).alloc (Nat.le_refl _) _).drew | exact ((Below.refl w4.heap.size w4).alloc (Nat.le_refl _) _))).mono ?_; rintro e w6 ⟨rfl, hb6⟩; have T6 : Below w4.heap.size w4 w6 := bnext (by first | exact (Below.refl w4.heap.size w4).drew | exact (Below.refl w4.heap.size w4) | exact ((Below.refl w4.heap.size w4).drew.alloc (Nat.le_refl _) _) | exact ((Below.refl w4.heap.size w4).alloc (Nat.le_refl _) _).drew | exact ((Below.refl w4.heap.size w4).alloc (Nat.le_refl _) _)) hb6; have q6 := CC.out w6 T6; have t6 := T6.size; obtain ⟨hc6, hf6⟩ := IP.bcell hb6; obtain ⟨ca6, cb6, cc6, cd6, ce6⟩ := id q6))
              all_goals (try go_wp2_with fail)
              all_goals go_meet
              all_goals refine ⟨_, rfl, ?_, ?_, ?_, ?_⟩
              all_goals (first | (go_simp; done) | (exact (T6.alloc (by omega) _)) | (exact below_put2 T6 (Nat.le_refl _) _ _) | exact T6 | (exact Lib.hid t6) | (exact Lib.hid (Nat.le_refl _)))
            case rest =>
              obtain ⟨bb, rfl, x0, x1, HB, HBB⟩ := hcut
              have NBB := Lib.hid (show bb ≠ w.heap.size + 1 from by have h1 := HBB.out; have h2 := BB.out.2.lt; omega)
              obtain ⟨w6, hw6⟩ : ∃ w6, w6 = wc := ⟨_, rfl⟩
              rw [← hw6] at x0 x1 HB ⊢
              have BB := Lib.hid (show Bx w6 w.heap.size [.int .i64 m, .int .i64 f, .slice (some ⟨b, off, none⟩) n c] ∧ Bx w6 (w.heap.size + 1) [.string (ByteArray.mk #[]), .int .i64 0, .int .i64 0, .slice none 0 0] from ⟨BB.out.1.below HB, BB.out.2.below HB⟩)
              have KX := Lib.hid (bnext KX.out HB)
              have HO := Lib.hid (HO.out.below HB)
              have wn1 : IntKind.i64.wrap (now - pq) = now - pq := by rw [IntKind.wrap_i64]; omega
              have wn2 : IntKind.i64.wrap (now - pq + 1) = now - pq + 1 := by rw [IntKind.wrap_i64]; omega
              have wn3 : IntKind.i64.wrap (now + 1) = now + 1 := by rw [IntKind.wrap_i64]; omega
              have hmax : max fr (now - pq + 1) = lo := by rw [hlow]; split <;> omega
              have hmin : min un (now + 1) = tp := by rw [htop]; split <;> omega
              have LB := Lib.hid (show w4.heap.size ≤ w6.heap.size from HB.size)
              clear HB hw6 k0 k1 k2 e0 e1 ltb lt1 CC AKW htop hlow
              go_wp2_with fail
              refine (RE.out _).mono ?_; rintro _ w7 ⟨rfl, hb7⟩
              have x0 := cellb hb7 x0; have x1 := cellb hb7 x1
              have BB := Lib.hid (show Bx w7 w.heap.size [.int .i64 m, .int .i64 f, .slice (some ⟨b, off, none⟩) n c] ∧ Bx w7 (w.heap.size + 1) [.string (ByteArray.mk #[]), .int .i64 0, .int .i64 0, .slice none 0 0] from ⟨BB.out.1.below hb7, BB.out.2.below hb7⟩)
              have KX := Lib.hid (bnext KX.out hb7)
              have SP1 := Lib.hid (SP.out w7 (HO.out.below hb7))
              have LW := Lib.hid (show w.heap.size ≤ w7.heap.size ∧ w.heap.size + 1 < w7.heap.size from by have h1 := BB.out.2.lt; omega)
              clear hb7 SP HO
              go_wp2_with fail
              refine SP1.out.mono ?_; rintro _ w9 ⟨v9, rfl, hN9, hb9⟩
              obtain ⟨A8, c8, rfl, hc8, -⟩ := hN9.form
              obtain ⟨e5, hN10⟩ : V.length = np ∧ NuNew w7.heap.size w9 (.slice A8 V.length c8) V := ⟨HY.out.2.2.2.2, hN9⟩
              rw [e5] at hN10 hc8
              rw [e5]
              have x9 := Lib.hid (show w9.cell? ⟨bb, 0, none⟩ = some (.int .i64 s) ∧ w9.cell? ⟨bb, 1, none⟩ = some (.slice A' q c') from ⟨cellb hb9 x0, cellb hb9 x1⟩)
              have x9 := x9.out
              have hbb : bb < w9.heap.size := World.block_lt_of_cell? w9 _ x9.1
              have BB := Lib.hid (show Bx w9 w.heap.size [.int .i64 m, .int .i64 f, .slice (some ⟨b, off, none⟩) n c] ∧ Bx w9 (w.heap.size + 1) [.string (ByteArray.mk #[]), .int .i64 0, .int .i64 0, .slice none 0 0] from ⟨BB.out.1.below hb9, BB.out.2.below hb9⟩)
              have KX := Lib.hid (bnext KX.out hb9)
              have NV := Lib.hid hN10
              have nbb : bb ≠ w.heap.size + 1 := NBB.out
              have nb4 : ∀ i j : Nat, (⟨w.heap.size + 1, i, none⟩ : Addr) ≠ ⟨bb, j, none⟩ := fun i j e => by injection e with e1; exact nbb e1.symm
              have y0 := x9.1
              clear hb9 hN9 hN10 e5 SP1 RE x0 x1
              by_cases hz : np = 0
              · have hV0 := NPV.out.1 hz
                have hz2 : ((np : Nat) : Int) = 0 := by omega
                clear hz
                have ST1 := Lib.hid (show lStart (s, l) fr un now = rUp s fr * s from by rw [ST0.out, if_pos hV0])
                obtain ⟨pz, hpz⟩ : ∃ x, rUp s fr * s = x := ⟨_, rfl⟩
                have UU := UPf.out
                rw [hpz] at ST1 UU
                have UU := Lib.hid UU
                clear hpz
                go_wp2_with fail
                go_region_held3 (fun y' => y'.cell? ⟨bb, 0, none⟩ = some (.int .i64 s))
                  (first | (with_reducible exact x9d) | (with_reducible exact x9.1) | (with_reducible exact x10) | (with_reducible exact (World.cell?_setCell_other _ _ _ _ (nb4 _ _)).trans ((World.cell?_setCell_other _ _ _ _ (nb4 _ _)).trans ((World.cell?_setCell_other _ _ _ _ (nb4 _ _)).trans ((World.cell?_setCell_other _ _ _ _ (nb4 _ _)).trans x10)))) | assumption)
                  (first | (go_at_call 21; refine (UU.out _).mono ?_; rintro e w10 ⟨rfl, hb10⟩; have T10 : Below w9.heap.size w9 w10 := bnext (by first | exact (Below.refl w9.heap.size w9).drew | exact (Below.refl w9.heap.size w9)) hb10; have x10 := cellb T10 x9.1; obtain ⟨j0, j1, j2, j3, j4, j5, j6, j7⟩ := (BB.out.2.below T10).four; have TT := Lib.hid T10))
                all_goals (try go_wp2_with fail)
                all_goals exact bodyPost_ret (v := .tuple #[.agg #[.string (ByteArray.mk #[]), .int .i64 pz, .int .i64 s, .slice A8 np c8], .int .i64 0]) (by simp [results, Try.results7, go_sem, j0, j1, j2, j3, j4, j5, j6, j7]) rfl ⟨A8, c8, by obtain ⟨e1, e2, e3, e4, e5⟩ := HY.out; rw [e1, e2, e3, e4, e5, ST1.out], by obtain ⟨e1, e2, e3, e4, e5⟩ := HY.out; rw [e3, e5]; refine NuNew.mono ?_ LW.out.1; exact (NV.out.below TT.out).keep2 (fun g hg => by
                    have hne : g ≠ w.heap.size + 1 := by have := LW.out.2; omega
                    rw [heap_setCell_other _ ⟨w.heap.size + 1, 3, none⟩ g _ hne, heap_setCell_other _ ⟨w.heap.size + 1, 2, none⟩ g _ hne, heap_setCell_other _ ⟨w.heap.size + 1, 1, none⟩ g _ hne, heap_setCell_other _ ⟨w.heap.size + 1, 0, none⟩ g _ hne]), below_set (below_set (below_set (below_set (bnext KX.out TT.out) (by omega) _) (by omega) _) (by omega) _) (by omega) _⟩
              · have hV0 : ¬ V = [] := fun e => hz (NPV.out.2 e)
                have hz2 : ¬ ((np : Nat) : Int) = 0 := by omega
                have ST1 := Lib.hid (show lStart (s, l) fr un now = rUp s lo * s from by rw [ST0.out, if_neg hV0])
                obtain ⟨pz, hpz⟩ : ∃ x, rUp s lo * s = x := ⟨_, rfl⟩
                have UU := UPl.out
                rw [hpz] at ST1 UU
                have UU := Lib.hid UU
                clear hpz
                go_wp2_with fail
                go_region_held3 (fun y' => y'.cell? ⟨bb, 0, none⟩ = some (.int .i64 s))
                  (first | (with_reducible exact x9d) | (with_reducible exact x9.1) | (with_reducible exact x10) | (with_reducible exact (World.cell?_setCell_other _ _ _ _ (nb4 _ _)).trans ((World.cell?_setCell_other _ _ _ _ (nb4 _ _)).trans ((World.cell?_setCell_other _ _ _ _ (nb4 _ _)).trans ((World.cell?_setCell_other _ _ _ _ (nb4 _ _)).trans x10)))) | assumption)
                  (first | (go_at_call 21; refine (UU.out _).mono ?_; rintro e w10 ⟨rfl, hb10⟩; have T10 : Below w9.heap.size w9 w10 := bnext (by first | exact (Below.refl w9.heap.size w9).drew | exact (Below.refl w9.heap.size w9)) hb10; have x10 := cellb T10 x9.1; obtain ⟨j0, j1, j2, j3, j4, j5, j6, j7⟩ := (BB.out.2.below T10).four; have TT := Lib.hid T10))
                all_goals (try go_wp2_with fail)
                all_goals exact bodyPost_ret (v := .tuple #[.agg #[.string (ByteArray.mk #[]), .int .i64 pz, .int .i64 s, .slice A8 np c8], .int .i64 0]) (by simp [results, Try.results7, go_sem, j0, j1, j2, j3, j4, j5, j6, j7]) rfl ⟨A8, c8, by obtain ⟨e1, e2, e3, e4, e5⟩ := HY.out; rw [e1, e2, e3, e4, e5, ST1.out], by obtain ⟨e1, e2, e3, e4, e5⟩ := HY.out; rw [e3, e5]; refine NuNew.mono ?_ LW.out.1; exact (NV.out.below TT.out).keep2 (fun g hg => by
                    have hne : g ≠ w.heap.size + 1 := by have := LW.out.2; omega
                    rw [heap_setCell_other _ ⟨w.heap.size + 1, 3, none⟩ g _ hne, heap_setCell_other _ ⟨w.heap.size + 1, 2, none⟩ g _ hne, heap_setCell_other _ ⟨w.heap.size + 1, 1, none⟩ g _ hne, heap_setCell_other _ ⟨w.heap.size + 1, 0, none⟩ g _ hne]), below_set (below_set (below_set (below_set (bnext KX.out TT.out) (by omega) _) (by omega) _) (by omega) _) (by omega) _⟩
          · obtain ⟨j0, j1, j2, j3, j4, j5, j6, j7⟩ := BB.out.2.four
            have NF := Lib.hid (NO.out (by simp; omega))
            go_wp2_with fail
            refine bodyPost_ret (v := .tuple #[.agg #[.string (ByteArray.mk #[]), .int .i64 0, .int .i64 0, .slice none 0 0], .int .i64 1]) (by simp [results, Try.results7, go_sem, j0, j1, j2, j3, j4, j5, j6, j7]; try rfl) rfl ⟨none, 0, ?_, ?_, ?_⟩
            · obtain ⟨e1, e2, e3, e4⟩ := NF.out; rw [e1, e2, e3, e4]; rfl
            · rw [NF.out.2.2.1]; exact NuNew.nil _ _
            · exact below_set (below_set (below_set (below_set KX.out (by omega) _) (by omega) _) (by omega) _) (by omega) _
end AP
end Go.Proofs.Ytkgajlklhcmmcaa
