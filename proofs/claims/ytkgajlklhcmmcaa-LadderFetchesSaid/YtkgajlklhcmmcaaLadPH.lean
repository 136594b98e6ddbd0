/-
  A coarser slot, made of the finer ones.
-/
import Derived.Test.YtkgajlklhcmmcaaLadPG
import Derived.Test.YtkgajlklhcmmcaaLadPD
set_option linter.unusedSimpArgs false
set_option linter.unusedVariables false
namespace Go.Proofs.Ytkgajlklhcmmcaa.AP
open Go.RowKit IP
theorem setL_eq (s : Int) (l : List (Int × Int)) (t v : Int) : setL s l t v = (rSet s l t v).getD l := rfl
theorem lParts_fine {r : Rg} (hf : ∀ g ∈ r.2, I64 g.2) (a : Int) (n : Nat) : ∀ x ∈ lParts r a n, I64 x := by
  intro x hx
  unfold lParts at hx
  obtain ⟨i, _, hi⟩ := List.mem_filterMap.1 hx
  unfold rVal at hi
  split at hi
  · rename_i g hg
    split at hi
    · obtain rfl := Option.some.inj hi
      exact hf g (List.mem_of_getElem? hg)
    · cases hi
  · cases hi
theorem fits_quo {sa sb : Int} {na nb : Nat} (h : rgFits (sa, (na : Int)) (sb, (nb : Int)) = true) (h1 : 1 ≤ sa) (h2 : sb ≤ 86400) (h4 : na ≤ 400) : ∃ N : Nat, sb / sa = (N : Int) ∧ N ≤ 400 := by
  have := of_decide_eq_true h
  simp only at this
  have h0 : 0 ≤ sb / sa := Int.ediv_nonneg (by omega) (by omega)
  exact ⟨(sb / sa).toNat, by omega, by omega⟩
theorem ri_far_at {S : List Nat} {w : World} {A : Option Addr} {n c k : Nat} {L : List Rg} {s : Int} {l : List (Int × Int)} (h : RiFar S w (.slice A n c) L) (hk : L[k]? = some (s, l)) :
    ∃ (b off : Nat) (A' : Option Addr) (c' : Nat), A = some ⟨b, off, none⟩ ∧ w.cell? ⟨b, off + k * 2, none⟩ = some (.int .i64 s) ∧ w.cell? ⟨b, off + k * 2 + 1, none⟩ = some (.slice A' l.length c') ∧ RgFar S w (.slice A' l.length c') l := by
  obtain ⟨A0, c0, hv, hc, hx⟩ := h
  obtain ⟨b, off, hA, ha⟩ := hx (fun e => by rw [e] at hk; simp at hk)
  obtain ⟨A', c', h1, h2, h3⟩ := ha k _ hk
  injection hv with e1
  exact ⟨b, off, A', c', by rw [e1, hA], h1, h2, h3⟩
theorem _root_.Go.Proofs.Ytkgajlklhcmmcaa.RgFar.put2 {S : List Nat} {b : Nat} {w : World} {v : Value} {l : List (Int × Int)} (h : RgFar (b :: S) w v l) (x y : Value) : RgFar S ((w.setCell ⟨b, 0, none⟩ x).setCell ⟨b, 1, none⟩ y) v l :=
  h.step (fun c _ hc => by
    have hne : c ≠ b := fun e => hc (by rw [e]; simp)
    rw [heap_setCell_other _ ⟨b, 1, none⟩ c _ hne, heap_setCell_other _ ⟨b, 0, none⟩ c _ hne]) (fun z hz => .inl (List.mem_cons_of_mem _ hz))
set_option maxRecDepth 100000 in
set_option maxHeartbeats 4000000 in
theorem made_c (S : List Nat) (m f t : Int) (i : Nat) (v : Value) (L : List Rg) (sa sb : Int) (la lb : List (Int × Int)) (hR : lRight m f L = true) (ha : L[i]? = some (sa, la)) (hb : L[i + 1]? = some (sb, lb)) (ht : rTm t = true) (hfine : ∀ g ∈ la, I64 g.2) (w : World) (h : RiFar S w v L) (hS : ∀ z ∈ S, z < w.heap.size) :
    Calls Try.prog 37 #[.agg #[.int .i64 m, .int .i64 f, v], .int .i64 ((i : Int) + 1), .int .i64 t] w fun e w' => ∃ A c, e = .returned (.agg #[.int .i64 sb, .slice A lb.length c]) ∧ RgFar S w' (.slice A lb.length c) (lMadeL m f (sa, la) (sb, lb) t) ∧ Below w.heap.size w w' := by
  obtain ⟨hW, hT, hrr⟩ := lRight_iff.1 hR
  have ra := hrr i _ ha
  have rb := hrr (i + 1) _ hb
  simp only at ra rb
  obtain ⟨p1, p2, p3, p4⟩ := rMay_iff.1 (rRight_iff.1 ra).1
  obtain ⟨q1, q2, q3, q4⟩ := rMay_iff.1 (rRight_iff.1 rb).1
  obtain ⟨w1, w2, f0, f1⟩ := lWay_iff.1 hW
  obtain ⟨t0, t1⟩ := rTm_iff.1 ht
  obtain ⟨a0, a1, -, -, -⟩ := rAt_facts (s := sb) q1 t0
  have hfit := tog_step hT (k := i) (a := (sa, (la.length : Int))) (b := (sb, (lb.length : Int))) (by rw [lRungs_at, ha]; rfl) (by rw [lRungs_at, hb]; rfl)
  obtain ⟨N, hN, hN4⟩ := fits_quo hfit p1 q2 (by omega)
  have hi4 : i + 1 < L.length := (List.getElem?_eq_some_iff.1 hb).1
  have hL4 : L.length ≤ 4 := by have := ((tog_iff _).1 hT).1.2; rwa [lRungs_length] at this
  obtain ⟨A, c, rfl, hc, -⟩ := id h
  obtain ⟨n, hn⟩ : ∃ n, L.length = n := ⟨_, rfl⟩
  rw [hn] at hc hi4 hL4 h ⊢
  obtain ⟨b1, b2, hbb, hz⟩ := bx_new2 w #[.int .i64 m, .int .i64 f, .slice A n c] #[.int .i64 0, .slice none 0 0] 24 53
  obtain ⟨wp, hwp⟩ : ∃ wp, (w.alloc (.cells #[.int .i64 m, .int .i64 f, .slice A n c] 24)).alloc (.cells #[.int .i64 0, .slice none 0 0] 53) = wp := ⟨_, rfl⟩
  rw [hwp] at b1 b2 hbb hz
  have h2 := (h.less (S' := w.heap.size :: (w.heap.size + 1) :: S) (fun z hz => by
    simp only [List.mem_cons] at hz
    rcases hz with rfl | rfl | hz
    · exact .inr (Nat.le_refl _)
    · exact .inr (Nat.le_succ _)
    · exact .inl hz)).below hbb
  obtain ⟨b, off, A', c', rfl, e0, e1, oa⟩ := ri_far_at h2 ha
  obtain ⟨b', off', A2, c2, hA2, e2, e3, ob⟩ := ri_far_at h2 hb
  injection hA2 with hA2
  injection hA2 with y1 y2
  subst y1 y2
  obtain ⟨na, hna⟩ : ∃ n, la.length = n := ⟨_, rfl⟩
  obtain ⟨nb', hnb⟩ : ∃ n, lb.length = n := ⟨_, rfl⟩
  rw [hna] at e1 oa p3 p4
  rw [hnb] at e3 ob q3 q4 ⊢
  obtain ⟨u, hu⟩ : ∃ u, rAt sb t = u := ⟨_, rfl⟩
  have SO := fun (W : World) (o : RgOut W (.slice A2 nb' c2) lb) => slotOf_c sb t (.slice A2 nb' c2) lb rb ht W o
  rw [hu] at SO a0 a1
  have PT := fun (W : World) (o : RgOut W (.slice A' na c') la) => parts_c sa u N (.slice A' na c') la ra ⟨a0, by omega⟩ (by omega) W o
  have PF := lParts_fine (r := (sa, la)) hfine u N
  have PLn := lParts_length (sa, la) u N
  have MD : lMadeL m f (sa, la) (sb, lb) t = if ((lParts (sa, la) u N).length : Int) * 1000000 < f * (N : Int) then lb else match lBlend m (lParts (sa, la) u N) with
    | none => lb
    | some v => setL sb lb u v := by
    unfold lMadeL
    simp only
    rw [hu, hN, Int.toNat_natCast]
    rfl
  obtain ⟨P, hP⟩ : ∃ P, lParts (sa, la) u N = P := ⟨_, rfl⟩
  rw [hP] at PT PF PLn MD
  obtain ⟨np, hnp⟩ : ∃ n, P.length = n := ⟨_, rfl⟩
  rw [hnp] at PT PLn MD
  have BL := fun (W : World) (v : Value) (o : IlOut W v P) => blend_c m v P (by omega) PF W o
  obtain ⟨o, ho⟩ : ∃ o, lBlend m P = o := ⟨_, rfl⟩
  rw [ho] at BL MD
  have ST := fun (x : Int) (W : World) (o : RgOut W (.slice A2 nb' c2) lb) => set_c sb u x (.slice A2 nb' c2) lb (by omega) W o
  rw [hnb] at ST
  obtain ⟨k0, k1, k2, -⟩ := b1.three
  have hwi : IntKind.i64.wrap ((i : Int) + 1 - 1) = (i : Int) := by rw [IntKind.wrap_i64]; omega
  have hii : (i : Int) + 1 - 1 = (i : Int) := by omega
  have nN : (0 : Int) ≤ (N : Int) := by omega
  have hfN : 0 ≤ f * (N : Int) ∧ f * (N : Int) ≤ 1000000 * 400 := ⟨Int.mul_nonneg f0 nN, Int.mul_le_mul f1 (by omega) nN (by omega)⟩
  obtain ⟨fN, hfNe⟩ : ∃ x, f * (N : Int) = x := ⟨_, rfl⟩
  rw [hfNe] at hfN MD
  have sane : ¬ sa = 0 := by omega
  have sa0 : 0 < sa := by omega
  have sb0 : 0 ≤ sb := by omega
  have LT := Lib.hid (show w.heap.size < wp.heap.size ∧ w.heap.size + 1 < wp.heap.size ∧ b < wp.heap.size ∧ wp.heap.size = w.heap.size + 2 from ⟨by omega, by omega, World.block_lt_of_cell? wp _ e0, hz⟩)
  have SO := Lib.hid SO; have PT := Lib.hid PT; have BL := Lib.hid BL; have ST := Lib.hid ST; have MD := Lib.hid MD; have OA := Lib.hid oa; have OB := Lib.hid ob; have B1 := Lib.hid b1; have B2 := Lib.hid b2; have KP := Lib.hid hbb; have HWP := Lib.hid hwp; have HNP := Lib.hid hnp; have HSS := Lib.hid hS
  have HO := Lib.hid ho
  clear hR hW hT hrr ra rb ht hfit hn h h2 hb ha b1 b2 hbb hwp hz oa ob hna hnb hu PF hP hnp ho hS hfine
  go_enter Try.func37, Try.ntmps37
  go_wp2_with fail
  rw [HWP.out]
  obtain ⟨lt1, lt2, lt3, -⟩ := LT.out
  go_cut [7, 8] (fun s7 s8 wx => ∃ b7 b8 : Nat, s7 = .pointer (some ⟨b7, 0, none⟩) ∧ s8 = .pointer (some ⟨b8, 0, none⟩) ∧ wx.cell? ⟨b7, 0, none⟩ = some (.int .i64 sa) ∧ wx.cell? ⟨b7, 1, none⟩ = some (.slice A' na c') ∧ wx.cell? ⟨b8, 0, none⟩ = some (.int .i64 sb) ∧ wx.cell? ⟨b8, 1, none⟩ = some (.slice A2 nb' c2) ∧ Below wp.heap.size wp wx)
  case first =>
    obtain ⟨v1, v2, vb, -⟩ := bx_new2 wp #[.int .i64 sa, .slice A' na c'] #[.int .i64 sb, .slice A2 nb' c2] 53 53
    obtain ⟨u1, u2, ub, -⟩ := bx_new2 wp #[.int .i64 sb, .slice A2 nb' c2] #[.int .i64 sa, .slice A' na c'] 53 53
    have V1 := Lib.hid v1; have V2 := Lib.hid v2; have VB := Lib.hid vb; have U1 := Lib.hid u1; have U2 := Lib.hid u2; have UB := Lib.hid ub
    clear v1 v2 vb u1 u2 ub
    go_region
    all_goals (try go_wp2_with fail)
    all_goals go_meet
    all_goals refine ⟨_, _, rfl, rfl, ?_, ?_, ?_, ?_, ?_⟩
    all_goals (first | exact V1.out.two.1 | exact V1.out.two.2.1 | exact V2.out.two.1 | exact V2.out.two.2.1 | exact U1.out.two.1 | exact U1.out.two.2.1 | exact U2.out.two.1 | exact U2.out.two.2.1 | exact VB.out.drew | exact UB.out.drew)
  case rest =>
    obtain ⟨b7, b8, rfl, rfl, x0, x1, x2, x3, TX⟩ := hcut
    obtain ⟨wx, hwx⟩ : ∃ wx, wx = wc := ⟨_, rfl⟩
    rw [← hwx] at x0 x1 x2 x3 TX ⊢
    clear hwx
    have Y0 : ∀ z : Laid wx, z.W.cell? ⟨b7, 0, none⟩ = some (.int .i64 sa) := fun z => cellb z.h x0
    have Y1 : ∀ z : Laid wx, z.W.cell? ⟨b7, 1, none⟩ = some (.slice A' na c') := fun z => cellb z.h x1
    have Y2 : ∀ z : Laid wx, z.W.cell? ⟨b8, 0, none⟩ = some (.int .i64 sb) := fun z => cellb z.h x2
    have Y3 : ∀ z : Laid wx, z.W.cell? ⟨b8, 1, none⟩ = some (.slice A2 nb' c2) := fun z => cellb z.h x3
    have SO1 := Lib.hid (fun (p : Laid wx) => SO.out p.W ((OB.out.below (bnext TX p.h)).out))
    have X4 := Lib.hid (show wx.cell? ⟨b7, 0, none⟩ = some (.int .i64 sa) ∧ wx.cell? ⟨b7, 1, none⟩ = some (.slice A' na c') ∧ wx.cell? ⟨b8, 0, none⟩ = some (.int .i64 sb) ∧ wx.cell? ⟨b8, 1, none⟩ = some (.slice A2 nb' c2) from ⟨x0, x1, x2, x3⟩)
    have KX := Lib.hid TX
    clear TX k0 k1 k2 x0 x1 x2 x3 e0 e1 e2 e3 SO
    go_wp2_with fail
    refine wp_region_laid (by kernel_rfl) (by kernel_rfl) ?_
    repeat (go_big_quiet_step (first | (go_at_call 34; with_reducible exact Calls.laid (SO1.out _))))
    refine wpQuiet_nil ?_
    intro _ hw'
    obtain ⟨pq, hw''⟩ := hw'
    subst hw''
    obtain ⟨wy, hwy⟩ : ∃ wy, pq.W = wy := ⟨_, rfl⟩
    have KY := Lib.hid (show Below wp.heap.size wp wy from by rw [← hwy]; exact bnext KX.out pq.h)
    obtain ⟨x0, x1, x2, x3⟩ := X4.out
    have x0 := cellb pq.h x0; have x1 := cellb pq.h x1; have x2 := cellb pq.h x2; have x3 := cellb pq.h x3
    rw [hwy] at x0 x1 x2 x3 ⊢
    have PT1 := Lib.hid (PT.out wy (OA.out.below KY.out).out)
    clear hwy Y0 Y1 Y2 Y3 SO1 X4 PT
    go_wp2_with fail
    refine PT1.out.mono ?_; rintro _ w3 ⟨A5, c5, rfl, hP5, hb3⟩
    have x0 := cellb hb3 x0; have x1 := cellb hb3 x1; have x2 := cellb hb3 x2; have x3 := cellb hb3 x3
    obtain ⟨k0, k1, k2, -⟩ := (B1.out.below (bnext KY.out hb3)).three
    have K3 := Lib.hid (bnext KY.out hb3)
    have BL1 := BL.out w3 (.slice A5 np c5) hP5.out
    have wm : IntKind.i64.wrap ((np : Int) * 1000000) = (np : Int) * 1000000 := by rw [IntKind.wrap_i64]; omega
    have wn : IntKind.i64.wrap fN = fN := by rw [IntKind.wrap_i64]; omega
    have np0 : (0 : Int) ≤ (np : Int) := by omega
    clear hb3 hP5 BL
    by_cases hlt : (np : Int) * 1000000 < fN
    · have MD1 := Lib.hid (MD.out.trans (if_pos hlt))
      obtain ⟨j0, j1, j2, j3⟩ := (B2.out.below K3.out).two
      go_wp2_with fail
      exact bodyPost_ret (v := .agg #[.int .i64 sb, .slice A2 nb' c2]) (by simp [results, Try.results37, go_sem, j0, j1, j2, j3]) rfl ⟨A2, c2, rfl, by rw [MD1.out]; exact ((OB.out.below K3.out).less (fun z hz => .inl (List.mem_cons_of_mem _ hz))).put2 _ _, below_put2 (bnext KP.out K3.out) (Nat.le_succ _) _ _⟩
    · have MD1 := Lib.hid (MD.out.trans (if_neg hlt))
      cases o with
      | none =>
        rw [nb_none, nv_none] at BL1
        have BL2 := Lib.hid BL1
        clear BL1
        go_wp2_with fail
        refine BL2.out.mono ?_; rintro _ w4 ⟨rfl, hb4⟩
        have x0 := cellb hb4 x0; have x1 := cellb hb4 x1; have x2 := cellb hb4 x2; have x3 := cellb hb4 x3
        have hbc := alloc_below w4 (.cells #[.bool true, .int .i64 0] 61)
        have z2 := cellb hbc x2
        have z3 := cellb hbc x3
        have K5 := Lib.hid (bnext (bnext K3.out hb4) hbc)
        obtain ⟨j0, j1, j2, j3⟩ := (B2.out.below K5.out).two
        clear hbc hb4 k0 k1 k2
        go_wp2_with fail
        exact bodyPost_ret (v := .agg #[.int .i64 sb, .slice A2 nb' c2]) (by simp [results, Try.results37, go_sem, j0, j1, j2, j3]) rfl ⟨A2, c2, rfl, by rw [MD1.out]; exact ((OB.out.below K5.out).less (fun z hz => .inl (List.mem_cons_of_mem _ hz))).put2 _ _, below_put2 (bnext KP.out K5.out) (Nat.le_succ _) _ _⟩
      | some x =>
        rw [nb_some, nv_some] at BL1
        have BL2 := Lib.hid BL1
        clear BL1
        go_wp2_with fail
        refine BL2.out.mono ?_; rintro _ w4 ⟨rfl, hb4⟩
        have x0 := cellb hb4 x0; have x1 := cellb hb4 x1; have x2 := cellb hb4 x2; have x3 := cellb hb4 x3
        have z2 := cellb (alloc_below w4 (.cells #[.bool false, .int .i64 x] 61)) x2
        have z3 := cellb (alloc_below w4 (.cells #[.bool false, .int .i64 x] 61)) x3
        obtain ⟨b3, hbc, hzc⟩ := bx_new1 w4 #[.bool false, .int .i64 x] 61
        obtain ⟨w5, hw5⟩ : ∃ w5, w4.alloc (.cells #[.bool false, .int .i64 x] 61) = w5 := ⟨_, rfl⟩
        rw [hw5] at b3 hbc hzc
        obtain ⟨y0, y1, -, -⟩ := b3.two
        have x2 := cellb hbc x2; have x3 := cellb hbc x3
        have K5 := Lib.hid (bnext (bnext K3.out hb4) hbc)
        have ST5 := Lib.hid (ST.out x w5 ((OB.out.below K5.out).out))
        have HW5 := Lib.hid hw5
        have Z5 := Lib.hid K5.out.size
        clear hbc hb4 hw5 hzc b3 k0 k1 k2
        go_wp2_with fail
        rw [HW5.out]
        clear z2 z3
        refine ST5.out.mono ?_; rintro _ w6 ⟨A6, c6, rfl, h6, hb6⟩
        obtain ⟨j0, j1, j2, j3⟩ := (B2.out.below (bnext K5.out hb6)).two
        have K6 := Lib.hid (bnext K5.out hb6)
        have H6 := Lib.hid h6
        clear hb6 h6
        go_wp2_with fail
        exact bodyPost_ret (v := .agg #[.int .i64 sb, .slice A6 nb' c6]) (by simp [results, Try.results37, go_sem, j0, j1, j2, j3]) rfl ⟨A6, c6, rfl, by
          rw [MD1.out]
          refine (RgFar.put2 (b := w.heap.size + 1) (S := S) (H6.out.far fun z hz => ?_) _ _)
          have h1 := LT.out; have h2 := Z5.out
          rcases List.mem_cons.1 hz with rfl | hz
          · exact .inl (by omega)
          · have := HSS.out z hz; exact .inl (by omega), below_put2 (bnext KP.out K6.out) (Nat.le_succ _) _ _⟩
end Go.Proofs.Ytkgajlklhcmmcaa.AP
