/-
  Contracts of the document's own functions of layer 13 (isobarref13): copies; the same rings; a slot is set.
-/
import Derived.Test.YtkgajlklhcmmcaaRinRB
import Derived.Test.YtkgajlklhcmmcaaRinPE
import Derived.Deep.RegionHeldLaw
set_option linter.unusedSimpArgs false
set_option linter.unusedVariables false
namespace Go.Proofs.Ytkgajlklhcmmcaa.IR
open Go.RowKit IP
theorem below_drewN {B : Nat} {a w : World} (h : Below B a w) (n : Nat) : Below B a (w.drewN n) := ⟨h.1, h.2, h.3, h.4, h.5⟩
set_option maxRecDepth 100000 in
set_option maxHeartbeats 4000000 in
theorem copy_c (s : Int) (v : Value) (l : List (Int × Int)) (hl : l.length ≤ 100000) (w : World) (f : RgOut w v l) :
    Calls Try.prog 15 #[.agg #[.int .i64 s, v]] w fun e w' => ∃ A c, e = .returned (.agg #[.int .i64 s, .slice A l.length c]) ∧ RgNew w.heap.size w' (.slice A l.length c) l ∧ Below w.heap.size w w' := by
  obtain ⟨A, c, rfl, hc, -⟩ := id f
  obtain ⟨⟨k0, k1⟩, ⟨k2, k3⟩, kb⟩ := two_cells w (.int .i64 s) (.slice A l.length c) (.int .i64 0) (.slice none 0 0) 53 53
  obtain ⟨g2, g3⟩ : ((w.alloc (.cells #[.int .i64 s, .slice A l.length c] 53)).alloc (.cells #[.int .i64 0, .slice none 0 0] 53)).frozen? ⟨w.heap.size + 1, 0, none⟩ = false ∧ ((w.alloc (.cells #[.int .i64 s, .slice A l.length c] 53)).alloc (.cells #[.int .i64 0, .slice none 0 0] 53)).frozen? ⟨w.heap.size + 1, 1, none⟩ = false := by
    obtain ⟨-, -, h2, h3⟩ := two_new (w.alloc (.cells #[.int .i64 s, .slice A l.length c] 53)) (.int .i64 0) (.slice none 0 0) 53
    rw [show (w.alloc (.cells #[.int .i64 s, .slice A l.length c] 53)).heap.size = w.heap.size + 1 from by simp] at h2 h3
    exact ⟨h2, h3⟩
  obtain ⟨wc, hwc⟩ : ∃ wc, ((w.alloc (.cells #[.int .i64 s, .slice A l.length c] 53)).alloc (.cells #[.int .i64 0, .slice none 0 0] 53)) = wc := ⟨_, rfl⟩
  have zc : wc.heap.size = w.heap.size + 2 := by rw [← hwc]; simp
  rw [hwc] at k0 k1 k2 k3 kb g2 g3
  have hr := rg_reads (f.below kb)
  have h1 := rgC_one l
  obtain ⟨i0, hi0, hz0, hz1, hz2⟩ := info_parts slot_info
  have lt2 : w.heap.size + 1 < wc.heap.size := by omega
  have lt1 : w.heap.size < wc.heap.size := by omega
  obtain ⟨n, hn⟩ : ∃ n, l.length = n := ⟨_, rfl⟩
  rw [hn] at hr hc hl k1 hwc ⊢
  have RT := Lib.hid (fun (y : World) (h : Below wc.heap.size wc y) => hr.below h)
  have KB := Lib.hid kb
  have HWC := Lib.hid hwc
  have H1 := Lib.hid h1
  have HN := Lib.hid hn
  have H2 := Lib.hid (show wc.cell? ⟨w.heap.size, 0, none⟩ = some (.int .i64 s) ∧ wc.cell? ⟨w.heap.size, 1, none⟩ = some (.slice A n c) from ⟨k0, k1⟩)
  have H3 := Lib.hid (show (wc.cell? ⟨w.heap.size + 1, 0, none⟩ = some (.int .i64 0) ∧ wc.cell? ⟨w.heap.size + 1, 1, none⟩ = some (.slice none 0 0)) ∧ wc.frozen? ⟨w.heap.size + 1, 0, none⟩ = false ∧ wc.frozen? ⟨w.heap.size + 1, 1, none⟩ = false from ⟨⟨k2, k3⟩, g2, g3⟩)
  clear hwc kb zc f hn hr h1
  go_enter Try.func15, Try.ntmps15
  go_wp2_with fail
  rw [HWC.out]
  go_region_held_law (fun y => y.cell? ⟨w.heap.size, 0, none⟩ = some (.int .i64 s) ∧ y.cell? ⟨w.heap.size, 1, none⟩ = some (.slice A n c))
    (first | go_keep | (exact held2 hb1.out H2.out) | (refine ⟨?_, ?_⟩ <;> go_simp))
    (first | (refine step_append_any _ (by rfl) (.tmp 5) (.tmp 7) 51 (by rfl) wc.heap.size 50 i0 (.agg #[.int .i64 0, .int .i64 0]) 2 16 Try.underlying51 hi0 hz0 hz1 hz2 rfl (by decide) (.slice (some ⟨wc.heap.size, 0, none⟩) 0 0) 0 [] (by rfl) (World.ownsRow_made _ _ _ (by simp [World.drewN]) (by decide) rfl) wc.heap.size A n c (rgC l) (by rfl) (RT.out _ ((below_drewN (Below.refl _ _) _).alloc (by simp [World.drewN]) _)) H1.out (by simp only [maxLen]; omega) (by omega) (by simp [World.drewN]) ?_; intro v1 w1 hown1 hg1 hat1; have hb1 := Lib.hid (((below_drewN (Below.refl wc.heap.size wc) _).alloc (by simp [World.drewN]) _).grown hg1 (by simp [World.drewN]) (by intro g hg; simp [Value.ownBlock] at hg; omega)); have ho1 := Lib.hid (show w1.ownsRow wc.heap.size 50 2 v1 n (rgC l) from by simpa using hown1); obtain ⟨A1, c1, hv1, hc1, _⟩ := own_form ho1.out; subst hv1; obtain ⟨d0, d1⟩ := held2 hb1.out H3.out.1; have d2 := (hb1.out.frozen (p := ⟨w.heap.size + 1, 0, none⟩) lt2).trans H3.out.2.1; have d3 := (hb1.out.frozen (p := ⟨w.heap.size + 1, 1, none⟩) lt2).trans H3.out.2.2; clear hown1 hg1 hat1))
  all_goals
    have OWN := Lib.hid (show RgNew wc.heap.size w1 (.slice A1 n c1) l from by have h := ho1.out; unfold RgNew; rw [HN.out]; exact h)
    go_wp2_with fail
    exact bodyPost_ret (v := .agg #[.int .i64 s, .slice A1 n c1]) (by simp [results, Try.results15, go_sem, d0, d1, d2, d3]) rfl ⟨A1, c1, rfl, set_off OWN.out (bnext KB.out hb1.out) lt2 (Below.refl _ _) rfl, below_put2 (bnext KB.out hb1.out) (Nat.le_succ _) _ _⟩
set_option maxRecDepth 100000 in
set_option maxHeartbeats 2000000 in
theorem sameSlots_c (v1 v2 : Value) (l1 l2 : List (Int × Int)) (h1 : l1.length ≤ 100000) (h2 : l2.length ≤ 100000) (w : World) (f1 : RgOut w v1 l1) (f2 : RgOut w v2 l2) :
    Calls Try.prog 51 #[v1, v2] w fun e w' => e = .returned (.bool (decide (l1 = l2))) ∧ Below w.heap.size w w' := by
  obtain ⟨A1, c1, rfl, hc1, x1⟩ := f1
  obtain ⟨A2, c2, rfl, hc2, x2⟩ := f2
  obtain ⟨n1, hn1⟩ : ∃ n, l1.length = n := ⟨_, rfl⟩
  obtain ⟨n2, hn2⟩ : ∃ n, l2.length = n := ⟨_, rfl⟩
  rw [hn1] at h1 hc1 ⊢
  rw [hn2] at h2 hc2 ⊢
  by_cases hne : n1 = n2
  · subst hne
    have X1 := Lib.hid x1; have X2 := Lib.hid x2; have N1 := Lib.hid hn1; have N2 := Lib.hid hn2
    clear x1 x2 hn1 hn2
    go_enter Try.func51, Try.ntmps51
    go_wp2
    go_loopw [5] (fun i wr => ∃ k : Nat, k ≤ n1 ∧ i = .int .i64 k ∧ Hid ((∀ j, j < k → l1[j]? = l2[j]?) ∧ Below w.heap.size w wr)) (fun i _ => n1 - (intOf i).toNat)
    case atStart => exact ⟨0, Nat.zero_le _, rfl, fun j h => absurd h (Nat.not_lt_zero j), Below.refl _ _⟩
    case round =>
      obtain ⟨k, hk, rfl, HI⟩ := hrel
      by_cases hlt : k < n1
      · have hl1 : k < l1.length := by rw [N1.out]; exact hlt
        have hl2 : k < l2.length := by rw [N2.out]; exact hlt
        obtain ⟨b1, o1, rfl, a1⟩ := X1.out (by intro h; rw [h] at hl1; exact absurd hl1 (Nat.not_lt_zero _))
        obtain ⟨b2, o2, rfl, a2⟩ := X2.out (by intro h; rw [h] at hl2; exact absurd hl2 (Nat.not_lt_zero _))
        obtain ⟨y1, y2⟩ := (a1.below HI.out.2) k _ (List.getElem?_eq_getElem hl1)
        obtain ⟨z1, z2⟩ := (a2.below HI.out.2) k _ (List.getElem?_eq_getElem hl2)
        have e1 : l1[k]? = some l1[k] := List.getElem?_eq_getElem hl1
        have e2 : l2[k]? = some l2[k] := List.getElem?_eq_getElem hl2
        obtain ⟨⟨p1, p2⟩, hp⟩ : ∃ p, l1[k] = p := ⟨_, rfl⟩
        obtain ⟨⟨q1, q2⟩, hq⟩ : ∃ q, l2[k] = q := ⟨_, rfl⟩
        rw [hp] at e1 y1 y2
        rw [hq] at e2 z1 z2
        have E1 := Lib.hid e1; have E2 := Lib.hid e2
        clear e1 e2 a1 a2 hp hq
        by_cases hpq1 : p1 = q1
        · subst hpq1
          by_cases hpq2 : p2 = q2
          · subst hpq2
            have SE := Lib.hid (show l1[k]? = l2[k]? by rw [E1.out, E2.out])
            go_wp2
            go_region
            go_wp2
            go_roundw
            case rel =>
              refine ⟨k + 1, by omega, by go_num, fun j hj => ?_, (Below.drew HI.out.2)⟩
              by_cases he : j = k
              · rw [he, SE.out]
              · exact HI.out.1 j (by omega)
            case measure => simp [intOf]; omega
          · have hd : decide (l1 = l2) = false := by
              rw [decide_eq_false_iff_not]
              intro h
              have h3 := E1.out
              rw [h, E2.out] at h3
              injection h3 with h3
              injection h3 with h3 h4
              exact hpq2 h4.symm
            have HD := Lib.hid hd
            clear hd
            go_wp2
            go_region
            go_wp2
            go_ret
            exact ⟨congrArg (fun z => Ending.returned (.bool z)) HD.out.symm, (Below.drew HI.out.2)⟩
        · have hd : decide (l1 = l2) = false := by
            rw [decide_eq_false_iff_not]
            intro h
            have h3 := E1.out
            rw [h, E2.out] at h3
            injection h3 with h3
            injection h3 with h3 h4
            exact hpq1 h3.symm
          have HD := Lib.hid hd
          clear hd
          go_wp2
          go_region
          go_wp2
          go_ret
          exact ⟨congrArg (fun z => Ending.returned (.bool z)) HD.out.symm, (Below.drew HI.out.2)⟩
      · obtain rfl : k = n1 := by omega
        have hd : decide (l1 = l2) = true := by
          rw [decide_eq_true_eq]
          refine List.ext_getElem? fun j => ?_
          rcases Nat.lt_or_ge j k with hj | hj
          · exact HI.out.1 j hj
          · rw [List.getElem?_eq_none (by rw [N1.out]; exact hj), List.getElem?_eq_none (by rw [N2.out]; exact hj)]
        have HD := Lib.hid hd
        clear hd
        go_wp2
        go_ret
        exact ⟨congrArg (fun z => Ending.returned (.bool z)) HD.out.symm, HI.out.2⟩
  · have hd : decide (l1 = l2) = false := by
      rw [decide_eq_false_iff_not]
      intro h
      rw [h, hn2] at hn1
      exact hne hn1.symm
    have hni : ¬ (n1 : Int) = (n2 : Int) := by omega
    have HD := Lib.hid hd
    clear hd hne x1 x2 hn1 hn2
    go_enter Try.func51, Try.ntmps51
    go_wp2
    go_ret
    exact ⟨congrArg (fun z => Ending.returned (.bool z)) HD.out.symm, Below.refl _ _⟩
set_option maxRecDepth 100000 in
set_option maxHeartbeats 2000000 in
theorem numSame_c (v1 v2 : Value) (l1 l2 : List (Option Int)) (h1 : l1.length ≤ 100000) (h2 : l2.length ≤ 100000) (w : World) (f1 : NuOut w v1 l1) (f2 : NuOut w v2 l2) :
    Calls Try.prog 26 #[v1, v2] w fun e w' => e = .returned (.bool (decide (l1 = l2))) ∧ Below w.heap.size w w' := by
  obtain ⟨A1, c1, rfl, hc1, x1⟩ := f1
  obtain ⟨A2, c2, rfl, hc2, x2⟩ := f2
  obtain ⟨n1, hn1⟩ : ∃ n, l1.length = n := ⟨_, rfl⟩
  obtain ⟨n2, hn2⟩ : ∃ n, l2.length = n := ⟨_, rfl⟩
  rw [hn1] at h1 hc1 ⊢
  rw [hn2] at h2 hc2 ⊢
  by_cases hne : n1 = n2
  · subst hne
    have X1 := Lib.hid x1; have X2 := Lib.hid x2; have N1 := Lib.hid hn1; have N2 := Lib.hid hn2
    clear x1 x2 hn1 hn2
    go_enter Try.func26, Try.ntmps26
    go_wp2
    go_loopw [5] (fun i wr => ∃ k : Nat, k ≤ n1 ∧ i = .int .i64 k ∧ Hid ((∀ j, j < k → l1[j]? = l2[j]?) ∧ Below w.heap.size w wr)) (fun i _ => n1 - (intOf i).toNat)
    case atStart => exact ⟨0, Nat.zero_le _, rfl, fun j h => absurd h (Nat.not_lt_zero j), Below.refl _ _⟩
    case round =>
      obtain ⟨k, hk, rfl, HI⟩ := hrel
      by_cases hlt : k < n1
      · have hl1 : k < l1.length := by rw [N1.out]; exact hlt
        have hl2 : k < l2.length := by rw [N2.out]; exact hlt
        obtain ⟨b1, o1, rfl, a1⟩ := X1.out (by intro h; rw [h] at hl1; exact absurd hl1 (Nat.not_lt_zero _))
        obtain ⟨b2, o2, rfl, a2⟩ := X2.out (by intro h; rw [h] at hl2; exact absurd hl2 (Nat.not_lt_zero _))
        obtain ⟨y1, y2⟩ := (a1.below HI.out.2) k _ (List.getElem?_eq_getElem hl1)
        obtain ⟨z1, z2⟩ := (a2.below HI.out.2) k _ (List.getElem?_eq_getElem hl2)
        have e1 : l1[k]? = some l1[k] := List.getElem?_eq_getElem hl1
        have e2 : l2[k]? = some l2[k] := List.getElem?_eq_getElem hl2
        obtain ⟨u1, hu1⟩ : ∃ p, l1[k] = p := ⟨_, rfl⟩
        obtain ⟨u2, hu2⟩ : ∃ p, l2[k] = p := ⟨_, rfl⟩
        rw [hu1] at e1 y1 y2
        rw [hu2] at e2 z1 z2
        obtain ⟨p1, hp1⟩ : ∃ b, u1.isNone = b := ⟨_, rfl⟩
        obtain ⟨p2, hp2⟩ : ∃ z, u1.getD 0 = z := ⟨_, rfl⟩
        obtain ⟨q1, hq1⟩ : ∃ b, u2.isNone = b := ⟨_, rfl⟩
        obtain ⟨q2, hq2⟩ : ∃ z, u2.getD 0 = z := ⟨_, rfl⟩
        rw [hp1] at y1
        rw [hp2] at y2
        rw [hq1] at z1
        rw [hq2] at z2
        have EQ := Lib.hid (show p1 = q1 → p2 = q2 → u1 = u2 from fun h1 h2 => by
          rw [← hp1, ← hq1] at h1
          rw [← hp2, ← hq2] at h2
          cases u1 <;> cases u2 <;> simp_all)
        have NE := Lib.hid (show u1 = u2 → p1 = q1 ∧ p2 = q2 from fun h => by rw [← hp1, ← hq1, ← hp2, ← hq2, h]; exact ⟨rfl, rfl⟩)
        have E1 := Lib.hid e1; have E2 := Lib.hid e2
        clear e1 e2 a1 a2 hu1 hu2 hp1 hp2 hq1 hq2
        by_cases hpq1 : p1 = q1
        · subst hpq1
          by_cases hpq2 : p2 = q2
          · subst hpq2
            have SE := Lib.hid (show l1[k]? = l2[k]? by rw [E1.out, E2.out, EQ.out rfl rfl])
            go_wp2
            go_region
            go_wp2
            go_roundw
            case rel =>
              refine ⟨k + 1, by omega, by go_num, fun j hj => ?_, (Below.drew HI.out.2)⟩
              by_cases he : j = k
              · rw [he, SE.out]
              · exact HI.out.1 j (by omega)
            case measure => simp [intOf]; omega
          · have hd : decide (l1 = l2) = false := by
              rw [decide_eq_false_iff_not]
              intro h
              have h3 := E1.out
              rw [h, E2.out] at h3
              injection h3 with h3
              exact hpq2 (NE.out h3.symm).2
            have HD := Lib.hid hd
            clear hd EQ NE
            go_wp2
            go_region
            go_wp2
            go_ret
            exact ⟨congrArg (fun z => Ending.returned (.bool z)) HD.out.symm, (Below.drew HI.out.2)⟩
        · have hd : decide (l1 = l2) = false := by
            rw [decide_eq_false_iff_not]
            intro h
            have h3 := E1.out
            rw [h, E2.out] at h3
            injection h3 with h3
            exact hpq1 (NE.out h3.symm).1
          have HD := Lib.hid hd
          clear hd EQ NE
          cases p1 <;> cases q1
          · exact absurd rfl hpq1
          · clear hpq1
            go_wp2
            go_region
            go_wp2
            go_ret
            exact ⟨congrArg (fun z => Ending.returned (.bool z)) HD.out.symm, (Below.drew HI.out.2)⟩
          · clear hpq1
            go_wp2
            go_region
            go_wp2
            go_ret
            exact ⟨congrArg (fun z => Ending.returned (.bool z)) HD.out.symm, (Below.drew HI.out.2)⟩
          · exact absurd rfl hpq1
      · obtain rfl : k = n1 := by omega
        have hd : decide (l1 = l2) = true := by
          rw [decide_eq_true_eq]
          refine List.ext_getElem? fun j => ?_
          rcases Nat.lt_or_ge j k with hj | hj
          · exact HI.out.1 j hj
          · rw [List.getElem?_eq_none (by rw [N1.out]; exact hj), List.getElem?_eq_none (by rw [N2.out]; exact hj)]
        have HD := Lib.hid hd
        clear hd
        go_wp2
        go_ret
        exact ⟨congrArg (fun z => Ending.returned (.bool z)) HD.out.symm, HI.out.2⟩
  · have hd : decide (l1 = l2) = false := by
      rw [decide_eq_false_iff_not]
      intro h
      rw [h, hn2] at hn1
      exact hne hn1.symm
    have hni : ¬ (n1 : Int) = (n2 : Int) := by omega
    have HD := Lib.hid hd
    clear hd hne x1 x2 hn1 hn2
    go_enter Try.func26, Try.ntmps26
    go_wp2
    go_ret
    exact ⟨congrArg (fun z => Ending.returned (.bool z)) HD.out.symm, Below.refl _ _⟩
set_option maxRecDepth 100000 in
set_option maxHeartbeats 1000000 in
theorem same_c (s1 s2 : Int) (v1 v2 : Value) (l1 l2 : List (Int × Int)) (h1 : l1.length ≤ 100000) (h2 : l2.length ≤ 100000) (w : World) (f1 : RgOut w v1 l1) (f2 : RgOut w v2 l2) :
    Calls Try.prog 27 #[.agg #[.int .i64 s1, v1], .agg #[.int .i64 s2, v2]] w fun e w' => e = .returned (.bool (decide (s1 = s2) && decide (l1 = l2))) ∧ Below w.heap.size w w' := by
  have SS := fun (W : World) (h : Below w.heap.size w W) => sameSlots_c v1 v2 l1 l2 h1 h2 W (f1.below h) (f2.below h)
  obtain ⟨A1, c1, rfl, hc1, -⟩ := id f1
  obtain ⟨A2, c2, rfl, hc2, -⟩ := id f2
  obtain ⟨n1, hn1⟩ : ∃ n, l1.length = n := ⟨_, rfl⟩
  obtain ⟨n2, hn2⟩ : ∃ n, l2.length = n := ⟨_, rfl⟩
  rw [hn1, hn2] at SS
  rw [hn1, hn2]
  obtain ⟨d, hd⟩ : ∃ d, decide (l1 = l2) = d := ⟨_, rfl⟩
  rw [hd] at SS ⊢
  obtain ⟨⟨k0, k1⟩, ⟨k2, k3⟩, kb⟩ := two_cells w (.int .i64 s1) (.slice A1 n1 c1) (.int .i64 s2) (.slice A2 n2 c2) 53 53
  obtain ⟨wc, hwc⟩ : ∃ wc, ((w.alloc (.cells #[.int .i64 s1, .slice A1 n1 c1] 53)).alloc (.cells #[.int .i64 s2, .slice A2 n2 c2] 53)) = wc := ⟨_, rfl⟩
  rw [hwc] at k0 k1 k2 k3 kb
  have HWC := Lib.hid hwc; have KB := Lib.hid kb
  have SS := Lib.hid (SS wc kb)
  clear f1 f2 hn1 hn2 hd hwc kb h1 h2 hc1 hc2
  by_cases he : s1 = s2
  · subst he
    have HD := Lib.hid (show (decide (s1 = s1) && d) = d from by simp)
    go_enter Try.func27, Try.ntmps27
    go_wp2_with fail
    rw [HWC.out]
    go_wp2_with fail
    refine SS.out.mono ?_; rintro _ w3 ⟨rfl, hb3⟩
    have K3 := Lib.hid (bnext KB.out hb3)
    go_wp2
    go_ret
    exact ⟨congrArg (fun z => Ending.returned (.bool z)) HD.out.symm, K3.out⟩
  · have HD := Lib.hid (show (decide (s1 = s2) && d) = false from by simp [he])
    go_enter Try.func27, Try.ntmps27
    go_wp2_with fail
    rw [HWC.out]
    go_wp2
    go_ret
    exact ⟨congrArg (fun z => Ending.returned (.bool z)) HD.out.symm, KB.out⟩
end Go.Proofs.Ytkgajlklhcmmcaa.IR
