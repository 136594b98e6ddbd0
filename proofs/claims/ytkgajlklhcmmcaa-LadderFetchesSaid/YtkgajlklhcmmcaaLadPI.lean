/-
  A point is accepted, by the program.
-/
import Derived.Test.YtkgajlklhcmmcaaLadSt
import Derived.Test.YtkgajlklhcmmcaaLadPC
import Derived.Deep.RegionWith
set_option linter.unusedSimpArgs false
set_option linter.unusedVariables false
namespace Go.Proofs.Ytkgajlklhcmmcaa.AP
open Go.RowKit IP
theorem bx_new4 (w : World) (c1 c2 c3 c4 : Array Value) (t1 t2 t3 t4 : TypeId) : Bx ((((w.alloc (.cells c1 t1)).alloc (.cells c2 t2)).alloc (.cells c3 t3)).alloc (.cells c4 t4)) w.heap.size c1.toList ∧ Bx ((((w.alloc (.cells c1 t1)).alloc (.cells c2 t2)).alloc (.cells c3 t3)).alloc (.cells c4 t4)) (w.heap.size + 1) c2.toList ∧ Bx ((((w.alloc (.cells c1 t1)).alloc (.cells c2 t2)).alloc (.cells c3 t3)).alloc (.cells c4 t4)) (w.heap.size + 2) c3.toList ∧ Bx ((((w.alloc (.cells c1 t1)).alloc (.cells c2 t2)).alloc (.cells c3 t3)).alloc (.cells c4 t4)) (w.heap.size + 3) c4.toList ∧ Below w.heap.size w ((((w.alloc (.cells c1 t1)).alloc (.cells c2 t2)).alloc (.cells c3 t3)).alloc (.cells c4 t4)) ∧ ((((w.alloc (.cells c1 t1)).alloc (.cells c2 t2)).alloc (.cells c3 t3)).alloc (.cells c4 t4)).heap.size = w.heap.size + 4 := by
  obtain ⟨a1, a2, a3, a4⟩ := bx_new2 w c1 c2 t1 t2
  obtain ⟨e1, e2, e3, e4⟩ := bx_new2 ((w.alloc (.cells c1 t1)).alloc (.cells c2 t2)) c3 c4 t3 t4
  rw [a4] at e1 e2 e4
  exact ⟨a1.below e3, a2.below e3, e1, e2, bnext a3 e3, e4⟩
set_option maxRecDepth 100000 in
set_option maxHeartbeats 8000000 in
theorem accept_c (S : List Nat) (m f t x now : Int) (v : Value) (L : List Rg) (hl : L.length ≤ 100000) (hs : ∀ r ∈ L, r.2.length ≤ 100000) (hf : lFine L) (hx : I64 x) (w : World) (h : RiFar S w v L) (hSS : ∀ z ∈ S, z < w.heap.size) :
    Calls Try.prog 14 #[.agg #[.int .i64 m, .int .i64 f, v], .agg #[.int .i64 t, .int .i64 x], .int .i64 now] w fun e w' => ∃ A c, e = .returned (.tuple #[.agg #[.int .i64 m, .int .i64 f, .slice A L.length c], .int .i64 (lAccept m f L t x now).2]) ∧ RiNew w.heap.size S w' (.slice A L.length c) (lAccept m f L t x now).1 ∧ Below w.heap.size w w' := by
  obtain ⟨A, c, rfl, hc, -⟩ := id h
  obtain ⟨n, hn⟩ : ∃ n, L.length = n := ⟨_, rfl⟩
  obtain ⟨b1, b2, b3, b4, hb, hz⟩ := bx_new4 w #[.int .i64 m, .int .i64 f, .slice A n c] #[.int .i64 t, .int .i64 x] #[.int .i64 now] #[.int .i64 0, .int .i64 0, .slice none 0 0] 24 49 3 24
  obtain ⟨wp, hwp⟩ : ∃ wp, (((w.alloc (.cells #[.int .i64 m, .int .i64 f, .slice A n c] 24)).alloc (.cells #[.int .i64 t, .int .i64 x] 49)).alloc (.cells #[.int .i64 now] 3)).alloc (.cells #[.int .i64 0, .int .i64 0, .slice none 0 0] 24) = wp := ⟨_, rfl⟩
  rw [hwp] at b1 b2 b3 b4 hb hz
  have hMem : ∀ z ∈ (w.heap.size :: (w.heap.size + 3) :: S), z = w.heap.size ∨ z = w.heap.size + 3 ∨ z ∈ S ∧ z < w.heap.size := fun z hz => by
    rcases List.mem_cons.1 hz with h | hz
    · exact .inl h
    · rcases List.mem_cons.1 hz with h | hz
      · exact .inr (.inl h)
      · exact .inr (.inr ⟨hz, hSS z hz⟩)
  have hF : RiFar (w.heap.size :: (w.heap.size + 3) :: S) wp (.slice A L.length c) L := (h.less (S' := (w.heap.size :: (w.heap.size + 3) :: S)) (fun z hz => by
    rcases hMem z hz with h | h | h
    · exact .inr (by omega)
    · exact .inr (by omega)
    · exact .inl h.1)).below hb
  have APT := apart_c (w.heap.size :: (w.heap.size + 3) :: S) m f _ L hl hs wp hF (fun z hz => by have := hMem z hz; omega)
  rw [hn] at APT hc
  rw [hn]
  obtain ⟨R, hR⟩ : ∃ R, lAccept m f L t x now = R := ⟨_, rfl⟩
  rw [hR]
  have RT := fun (W : World) (v : Value) (o : RiOut W v L) => right_c m f v L hl hs W o
  have APT := Lib.hid APT; have RT := Lib.hid RT; have KP := Lib.hid hb; have HWP := Lib.hid hwp; have HN := Lib.hid hn; have HR := Lib.hid hR; have HS := Lib.hid hs; have HF := Lib.hid hf; have HXX := Lib.hid hx; have ZP := Lib.hid hz; have MEM := Lib.hid hMem
  have B0 := Lib.hid (show Bx wp w.heap.size [.int .i64 m, .int .i64 f, .slice A n c] ∧ Bx wp (w.heap.size + 1) [.int .i64 t, .int .i64 x] ∧ Bx wp (w.heap.size + 2) [.int .i64 now] ∧ Bx wp (w.heap.size + 3) [.int .i64 0, .int .i64 0, .slice none 0 0] from ⟨b1, b2, b3, b4⟩)
  have IT := Lib.hid (fun W => AP.isTime_b t W); have IN := Lib.hid (fun W => AP.isTime_b now W); have IV := Lib.hid (fun W => AP.isValue_c x W)
  clear h b1 b2 b3 b4 hb hz hwp hF hn hR hs hf hx hMem hSS
  go_enter Try.func14, Try.ntmps14
  go_wp2_with fail
  rw [HWP.out]
  refine APT.out.mono ?_; rintro _ w2 ⟨A2, c2, rfl, hN2, hb2⟩
  have p1 := B0.out.1.below hb2
  obtain ⟨k0, k1, k2, k3, k4, k5⟩ := p1.three
  have q1 := ((p1.set (j := 0) (by simp) (.int .i64 m)).set (j := 1) (by simp) (.int .i64 f)).set (j := 2) (by simp) (.slice A2 n c2)
  have hBB : Bx (((w2.setCell ⟨w.heap.size, 0, none⟩ (.int .i64 m)).setCell ⟨w.heap.size, 1, none⟩ (.int .i64 f)).setCell ⟨w.heap.size, 2, none⟩ (.slice A2 n c2)) w.heap.size [.int .i64 m, .int .i64 f, .slice A2 n c2] ∧ Bx (((w2.setCell ⟨w.heap.size, 0, none⟩ (.int .i64 m)).setCell ⟨w.heap.size, 1, none⟩ (.int .i64 f)).setCell ⟨w.heap.size, 2, none⟩ (.slice A2 n c2)) (w.heap.size + 1) [.int .i64 t, .int .i64 x] ∧ Bx (((w2.setCell ⟨w.heap.size, 0, none⟩ (.int .i64 m)).setCell ⟨w.heap.size, 1, none⟩ (.int .i64 f)).setCell ⟨w.heap.size, 2, none⟩ (.slice A2 n c2)) (w.heap.size + 2) [.int .i64 now] ∧ Bx (((w2.setCell ⟨w.heap.size, 0, none⟩ (.int .i64 m)).setCell ⟨w.heap.size, 1, none⟩ (.int .i64 f)).setCell ⟨w.heap.size, 2, none⟩ (.slice A2 n c2)) (w.heap.size + 3) [.int .i64 0, .int .i64 0, .slice none 0 0] ∧ RiNew wp.heap.size (w.heap.size :: (w.heap.size + 3) :: S) (((w2.setCell ⟨w.heap.size, 0, none⟩ (.int .i64 m)).setCell ⟨w.heap.size, 1, none⟩ (.int .i64 f)).setCell ⟨w.heap.size, 2, none⟩ (.slice A2 n c2)) (.slice A2 n c2) L ∧ Below w.heap.size w (((w2.setCell ⟨w.heap.size, 0, none⟩ (.int .i64 m)).setCell ⟨w.heap.size, 1, none⟩ (.int .i64 f)).setCell ⟨w.heap.size, 2, none⟩ (.slice A2 n c2)) := ⟨q1, (((B0.out.2.1.below hb2).other (by omega) _).other (by omega) _).other (by omega) _, (((B0.out.2.2.1.below hb2).other (by omega) _).other (by omega) _).other (by omega) _, (((B0.out.2.2.2.below hb2).other (by omega) _).other (by omega) _).other (by omega) _, hN2.set3 (by simp) _ _ _, below_set (below_set (below_set (bnext KP.out hb2) (Nat.le_refl _) _) (Nat.le_refl _) _) (Nat.le_refl _) _⟩
  obtain ⟨wa, hwa⟩ : ∃ wa, ((w2.setCell ⟨w.heap.size, 0, none⟩ (.int .i64 m)).setCell ⟨w.heap.size, 1, none⟩ (.int .i64 f)).setCell ⟨w.heap.size, 2, none⟩ (.slice A2 n c2) = wa := ⟨_, rfl⟩
  rw [hwa] at hBB
  have BB := Lib.hid hBB; have HWA := Lib.hid hwa
  have SZ := Lib.hid (show wp.heap.size ≤ wa.heap.size from by rw [← hwa]; have := hb2.size; simpa using this)
  clear hBB hwa q1 p1 hN2 hb2
  go_wp2_with fail
  rw [HWA.out]
  obtain ⟨rr, hrr⟩ : ∃ rr, lRight m f L = rr := ⟨_, rfl⟩
  obtain ⟨tt, htt⟩ : ∃ tt, rTm t = tt := ⟨_, rfl⟩
  obtain ⟨tn, htn⟩ : ∃ tn, rTm now = tn := ⟨_, rfl⟩
  obtain ⟨vv, hvv⟩ : ∃ vv, rV x = vv := ⟨_, rfl⟩
  have RT1 := RT.out wa _ BB.out.2.2.2.2.1.out
  rw [hrr] at RT1
  rw [htt] at IT
  rw [htn] at IN
  rw [hvv] at IV
  have NO := Lib.hid (show rr = false ∨ tt = false ∨ tn = false ∨ vv = false → R = (L, 1) from fun hd => by
    rw [← HR.out]
    refine lAccept_no fun hh => ?_
    rw [hrr, htt, htn] at hh
    obtain ⟨h1, h2, h3, h4⟩ := hh
    rw [show rV x = true from decide_eq_true h4] at hvv
    rcases hd with e | e | e | e
    · rw [e] at h1; cases h1
    · rw [e] at h2; cases h2
    · rw [e] at h3; cases h3
    · rw [e] at hvv; cases hvv)
  have YES := Lib.hid (show rr = true → tt = true → tn = true → vv = true → lRight m f L = true ∧ rTm t = true ∧ rTm now = true ∧ x ≠ -9223372036854775808 from fun h1 h2 h3 h4 => ⟨hrr.trans h1, htt.trans h2, htn.trans h3, of_decide_eq_true (hvv.trans h4)⟩)
  have RT2 := Lib.hid RT1
  clear hrr htt htn hvv RT1
  refine RT2.out.mono ?_; rintro _ w3 ⟨rfl, hb3⟩
  have KS := hb3
  have BB := Lib.hid (show Bx w3 w.heap.size [.int .i64 m, .int .i64 f, .slice A2 n c2] ∧ Bx w3 (w.heap.size + 1) [.int .i64 t, .int .i64 x] ∧ Bx w3 (w.heap.size + 2) [.int .i64 now] ∧ Bx w3 (w.heap.size + 3) [.int .i64 0, .int .i64 0, .slice none 0 0] ∧ RiNew wp.heap.size (w.heap.size :: (w.heap.size + 3) :: S) w3 (.slice A2 n c2) L ∧ Below w.heap.size w w3 from ⟨BB.out.1.below KS, BB.out.2.1.below KS, BB.out.2.2.1.below KS, BB.out.2.2.2.1.below KS, BB.out.2.2.2.2.1.below KS, bnext BB.out.2.2.2.2.2 KS⟩)
  clear KS hb3
  obtain ⟨k0, k1, k2, -⟩ := BB.out.1.three
  obtain ⟨l0, l1, -, -⟩ := BB.out.2.1.two
  obtain ⟨l2, -⟩ := BB.out.2.2.1.one
  cases rr
  · have AC := Lib.hid (NO.out (by simp))
    obtain ⟨j0, j1, j2, j3, j4, j5⟩ := BB.out.2.2.2.1.three
    obtain ⟨k0, k1, k2, -⟩ := BB.out.1.three
    go_wp2_with fail
    exact bodyPost_ret (v := .tuple #[.agg #[.int .i64 m, .int .i64 f, .slice A2 n c2], .int .i64 1]) (by simp [results, Try.results14, go_sem, j0, j1, j2, j3, j4, j5]) rfl ⟨A2, c2, by rw [AC.out], by rw [AC.out]; exact ((BB.out.2.2.2.2.1.set3 (b := w.heap.size + 3) (by simp) _ _ _).less (fun z hz => .inl (by simp [hz]))).mono (by have := ZP.out; omega), below_set (below_set (below_set BB.out.2.2.2.2.2 (by omega) _) (by omega) _) (by omega) _⟩
  · go_wp2_with fail
    refine (IT.out _).mono ?_; rintro _ w4 ⟨rfl, hb4⟩
    have KS := hb4
    have BB := Lib.hid (show Bx w4 w.heap.size [.int .i64 m, .int .i64 f, .slice A2 n c2] ∧ Bx w4 (w.heap.size + 1) [.int .i64 t, .int .i64 x] ∧ Bx w4 (w.heap.size + 2) [.int .i64 now] ∧ Bx w4 (w.heap.size + 3) [.int .i64 0, .int .i64 0, .slice none 0 0] ∧ RiNew wp.heap.size (w.heap.size :: (w.heap.size + 3) :: S) w4 (.slice A2 n c2) L ∧ Below w.heap.size w w4 from ⟨BB.out.1.below KS, BB.out.2.1.below KS, BB.out.2.2.1.below KS, BB.out.2.2.2.1.below KS, BB.out.2.2.2.2.1.below KS, bnext BB.out.2.2.2.2.2 KS⟩)
    clear KS hb4
    obtain ⟨k0, k1, k2, -⟩ := BB.out.1.three
    obtain ⟨l0, l1, -, -⟩ := BB.out.2.1.two
    obtain ⟨l2, -⟩ := BB.out.2.2.1.one
    cases tt
    · have AC := Lib.hid (NO.out (by simp))
      obtain ⟨j0, j1, j2, j3, j4, j5⟩ := BB.out.2.2.2.1.three
      obtain ⟨k0, k1, k2, -⟩ := BB.out.1.three
      go_wp2_with fail
      exact bodyPost_ret (v := .tuple #[.agg #[.int .i64 m, .int .i64 f, .slice A2 n c2], .int .i64 1]) (by simp [results, Try.results14, go_sem, j0, j1, j2, j3, j4, j5]) rfl ⟨A2, c2, by rw [AC.out], by rw [AC.out]; exact ((BB.out.2.2.2.2.1.set3 (b := w.heap.size + 3) (by simp) _ _ _).less (fun z hz => .inl (by simp [hz]))).mono (by have := ZP.out; omega), below_set (below_set (below_set BB.out.2.2.2.2.2 (by omega) _) (by omega) _) (by omega) _⟩
    · go_wp2_with fail
      refine (IN.out _).mono ?_; rintro _ w5 ⟨rfl, hb5⟩
      have KS := hb5
      have BB := Lib.hid (show Bx w5 w.heap.size [.int .i64 m, .int .i64 f, .slice A2 n c2] ∧ Bx w5 (w.heap.size + 1) [.int .i64 t, .int .i64 x] ∧ Bx w5 (w.heap.size + 2) [.int .i64 now] ∧ Bx w5 (w.heap.size + 3) [.int .i64 0, .int .i64 0, .slice none 0 0] ∧ RiNew wp.heap.size (w.heap.size :: (w.heap.size + 3) :: S) w5 (.slice A2 n c2) L ∧ Below w.heap.size w w5 from ⟨BB.out.1.below KS, BB.out.2.1.below KS, BB.out.2.2.1.below KS, BB.out.2.2.2.1.below KS, BB.out.2.2.2.2.1.below KS, bnext BB.out.2.2.2.2.2 KS⟩)
      clear KS hb5
      obtain ⟨k0, k1, k2, -⟩ := BB.out.1.three
      obtain ⟨l0, l1, -, -⟩ := BB.out.2.1.two
      obtain ⟨l2, -⟩ := BB.out.2.2.1.one
      cases tn
      · have AC := Lib.hid (NO.out (by simp))
        obtain ⟨j0, j1, j2, j3, j4, j5⟩ := BB.out.2.2.2.1.three
        obtain ⟨k0, k1, k2, -⟩ := BB.out.1.three
        go_wp2_with fail
        exact bodyPost_ret (v := .tuple #[.agg #[.int .i64 m, .int .i64 f, .slice A2 n c2], .int .i64 1]) (by simp [results, Try.results14, go_sem, j0, j1, j2, j3, j4, j5]) rfl ⟨A2, c2, by rw [AC.out], by rw [AC.out]; exact ((BB.out.2.2.2.2.1.set3 (b := w.heap.size + 3) (by simp) _ _ _).less (fun z hz => .inl (by simp [hz]))).mono (by have := ZP.out; omega), below_set (below_set (below_set BB.out.2.2.2.2.2 (by omega) _) (by omega) _) (by omega) _⟩
      · go_wp2_with fail
        refine (IV.out _).mono ?_; rintro _ w6 ⟨rfl, hb6⟩
        have KS := hb6
        have BB := Lib.hid (show Bx w6 w.heap.size [.int .i64 m, .int .i64 f, .slice A2 n c2] ∧ Bx w6 (w.heap.size + 1) [.int .i64 t, .int .i64 x] ∧ Bx w6 (w.heap.size + 2) [.int .i64 now] ∧ Bx w6 (w.heap.size + 3) [.int .i64 0, .int .i64 0, .slice none 0 0] ∧ RiNew wp.heap.size (w.heap.size :: (w.heap.size + 3) :: S) w6 (.slice A2 n c2) L ∧ Below w.heap.size w w6 from ⟨BB.out.1.below KS, BB.out.2.1.below KS, BB.out.2.2.1.below KS, BB.out.2.2.2.1.below KS, BB.out.2.2.2.2.1.below KS, bnext BB.out.2.2.2.2.2 KS⟩)
        clear KS hb6
        obtain ⟨k0, k1, k2, -⟩ := BB.out.1.three
        obtain ⟨l0, l1, -, -⟩ := BB.out.2.1.two
        obtain ⟨l2, -⟩ := BB.out.2.2.1.one
        cases vv
        · have AC := Lib.hid (NO.out (by simp))
          obtain ⟨j0, j1, j2, j3, j4, j5⟩ := BB.out.2.2.2.1.three
          obtain ⟨k0, k1, k2, -⟩ := BB.out.1.three
          go_wp2_with fail
          exact bodyPost_ret (v := .tuple #[.agg #[.int .i64 m, .int .i64 f, .slice A2 n c2], .int .i64 1]) (by simp [results, Try.results14, go_sem, j0, j1, j2, j3, j4, j5]) rfl ⟨A2, c2, by rw [AC.out], by rw [AC.out]; exact ((BB.out.2.2.2.2.1.set3 (b := w.heap.size + 3) (by simp) _ _ _).less (fun z hz => .inl (by simp [hz]))).mono (by have := ZP.out; omega), below_set (below_set (below_set BB.out.2.2.2.2.2 (by omega) _) (by omega) _) (by omega) _⟩
        · have hyes := YES.out (by first | rfl | trivial) (by first | rfl | trivial) (by first | rfl | trivial) (by first | rfl | trivial)
          have HY := Lib.hid hyes
          by_cases hlate : now < t
          · have AC := Lib.hid (show R = (L, 3) from HR.out.symm.trans (lAccept_late hyes hlate))
            clear hyes
            obtain ⟨j0, j1, j2, j3, j4, j5⟩ := BB.out.2.2.2.1.three
            obtain ⟨k0, k1, k2, -⟩ := BB.out.1.three
            go_wp2_with fail
            exact bodyPost_ret (v := .tuple #[.agg #[.int .i64 m, .int .i64 f, .slice A2 n c2], .int .i64 3]) (by simp [results, Try.results14, go_sem, j0, j1, j2, j3, j4, j5]) rfl ⟨A2, c2, by rw [AC.out], by rw [AC.out]; exact ((BB.out.2.2.2.2.1.set3 (b := w.heap.size + 3) (by simp) _ _ _).less (fun z hz => .inl (by simp [hz]))).mono (by have := ZP.out; omega), below_set (below_set (below_set BB.out.2.2.2.2.2 (by omega) _) (by omega) _) (by omega) _⟩
          · have IX := index_reaches t now (.slice A2 n c2) L (lRight_iff.1 hyes.1).2.2 (by rw [HN.out]; have := ((tog_iff _).1 (lRight_iff.1 hyes.1).2.1).1.2; rw [lRungs_length, HN.out] at this; omega) hyes.2.1 hyes.2.2.1 (w.heap.size + 1) (w.heap.size + 2) w6 BB.out.2.2.2.2.1.out l0 l2
            have hn4 : n ≤ 4 := by have := ((tog_iff _).1 (lRight_iff.1 hyes.1).2.1).1.2; rwa [lRungs_length, HN.out] at this
            have hlate2 : t ≤ now := by omega
            have HLT := Lib.hid hlate
            cases hfi : lFirst t now L with
            | none =>
              rw [show L.findIdx? (lReaches t now) = none from hfi] at IX
              have AC := Lib.hid (show R = (L, 14) from HR.out.symm.trans (lAccept_old hyes hlate hfi))
              have IX := Lib.hid (show Calls Try.prog 35 #[.slice A2 n c2, .func (.func 33) #[] #[.pointer (some ⟨w.heap.size + 1, 0, none⟩), .pointer (some ⟨w.heap.size + 2, 0, none⟩)]] w6 fun e w' => e = .returned (.int .i64 (-1)) ∧ Below w6.heap.size w6 w' from IX)
              clear hyes hfi hlate
              go_wp2_with fail
              refine IX.out.mono ?_; rintro _ w7 ⟨rfl, hb7⟩
              have KS := hb7
              have BB := Lib.hid (show Bx w7 w.heap.size [.int .i64 m, .int .i64 f, .slice A2 n c2] ∧ Bx w7 (w.heap.size + 1) [.int .i64 t, .int .i64 x] ∧ Bx w7 (w.heap.size + 2) [.int .i64 now] ∧ Bx w7 (w.heap.size + 3) [.int .i64 0, .int .i64 0, .slice none 0 0] ∧ RiNew wp.heap.size (w.heap.size :: (w.heap.size + 3) :: S) w7 (.slice A2 n c2) L ∧ Below w.heap.size w w7 from ⟨BB.out.1.below KS, BB.out.2.1.below KS, BB.out.2.2.1.below KS, BB.out.2.2.2.1.below KS, BB.out.2.2.2.2.1.below KS, bnext BB.out.2.2.2.2.2 KS⟩)
              clear KS hb7
              obtain ⟨k0, k1, k2, -⟩ := BB.out.1.three
              obtain ⟨l0, l1, -, -⟩ := BB.out.2.1.two
              obtain ⟨l2, -⟩ := BB.out.2.2.1.one
              obtain ⟨j0, j1, j2, j3, j4, j5⟩ := BB.out.2.2.2.1.three
              obtain ⟨k0, k1, k2, -⟩ := BB.out.1.three
              go_wp2_with fail
              exact bodyPost_ret (v := .tuple #[.agg #[.int .i64 m, .int .i64 f, .slice A2 n c2], .int .i64 14]) (by simp [results, Try.results14, go_sem, j0, j1, j2, j3, j4, j5]) rfl ⟨A2, c2, by rw [AC.out], by rw [AC.out]; exact ((BB.out.2.2.2.2.1.set3 (b := w.heap.size + 3) (by simp) _ _ _).less (fun z hz => .inl (by simp [hz]))).mono (by have := ZP.out; omega), below_set (below_set (below_set BB.out.2.2.2.2.2 (by omega) _) (by omega) _) (by omega) _⟩
            | some i =>
              rw [show L.findIdx? (lReaches t now) = some i from hfi] at IX
              obtain ⟨⟨s, l⟩, hp, -⟩ := fi_some hfi
              have hin : i < n := by rw [← HN.out]; exact (List.getElem?_eq_some_iff.1 hp).1
              have AY := Lib.hid (show R = (lSteps m f t now (lPut L i t x) (i + 1) (n - (i + 1)), 0) from HR.out.symm.trans (by rw [← HN.out]; exact lAccept_yes hyes hlate hfi))
              have IX := Lib.hid (show Calls Try.prog 35 #[.slice A2 n c2, .func (.func 33) #[] #[.pointer (some ⟨w.heap.size + 1, 0, none⟩), .pointer (some ⟨w.heap.size + 2, 0, none⟩)]] w6 fun e w' => e = .returned (.int .i64 (i : Int)) ∧ Below w6.heap.size w6 w' from IX)
              have PR := Lib.hid (lPut_right (i := i) hyes.1 hyes.2.1 hyes.2.2.2)
              have OKS := Lib.hid (fun k => lSteps_ok (now := now) (i := i + 1) PR.out.1 (lPut_fine (i := i) (t := t) HF.out HXX.out) hyes.2.1 k)
              have LEN := Lib.hid (fun k => show (lSteps m f t now (lPut L i t x) (i + 1) k).length = n from (lRungs_len ((OKS.out k).2.1.trans PR.out.2)).trans HN.out)
              have hq1 : l.length ≤ 100000 := HS.out _ (List.mem_of_getElem? hp)
              obtain ⟨q, hq⟩ : ∃ q, l.length = q := ⟨_, rfl⟩
              have HP := Lib.hid hp; have HQ := Lib.hid hq
              clear hyes hfi hlate hp hq
              go_wp2_with fail
              refine IX.out.mono ?_; rintro _ w7 ⟨rfl, hb7⟩
              have KS := hb7
              have BB := Lib.hid (show Bx w7 w.heap.size [.int .i64 m, .int .i64 f, .slice A2 n c2] ∧ Bx w7 (w.heap.size + 1) [.int .i64 t, .int .i64 x] ∧ Bx w7 (w.heap.size + 2) [.int .i64 now] ∧ Bx w7 (w.heap.size + 3) [.int .i64 0, .int .i64 0, .slice none 0 0] ∧ RiNew wp.heap.size (w.heap.size :: (w.heap.size + 3) :: S) w7 (.slice A2 n c2) L ∧ Below w.heap.size w w7 from ⟨BB.out.1.below KS, BB.out.2.1.below KS, BB.out.2.2.1.below KS, BB.out.2.2.2.1.below KS, BB.out.2.2.2.2.1.below KS, bnext BB.out.2.2.2.2.2 KS⟩)
              clear KS hb7
              obtain ⟨k0, k1, k2, -⟩ := BB.out.1.three
              obtain ⟨l0, l1, -, -⟩ := BB.out.2.1.two
              obtain ⟨l2, -⟩ := BB.out.2.2.1.one
              have SZ7 := Lib.hid (show wp.heap.size ≤ w7.heap.size from by have := BB.out.2.2.2.2.1; have h1 := BB.out.2.2.2.1.lt; have h2 := ZP.out; omega)
              obtain ⟨A0, c0, h0, hle, hg0⟩ := BB.out.2.2.2.2.1.form
              obtain ⟨g, hg, hgB, hgl, hgS⟩ := hg0 (by rw [HN.out]; omega)
              injection h0 with h0 e8 e9
              clear e8 e9
              subst h0
              subst hg
              obtain ⟨A', c', e0, e1, ho, f0, f1⟩ := BB.out.2.2.2.2.1.at HN.out HP.out
              simp only at e0 e1 ho
              rw [HQ.out] at e1 ho
              have n1 : w.heap.size ≠ g := fun e => hgS (by rw [← e]; simp)
              have n2 : w.heap.size + 3 ≠ g := fun e => hgS (by rw [← e]; simp)
              have n3 : w.heap.size + 1 ≠ g := by have := ZP.out; omega
              have n4 : w.heap.size + 2 ≠ g := by have := ZP.out; omega
              have a1 : ∀ i j : Nat, (⟨g, i, none⟩ : Addr) ≠ ⟨w.heap.size, j, none⟩ := fun i j e => by injection e with e1; exact n1 e1.symm
              have a2 : ∀ i j : Nat, (⟨g, i, none⟩ : Addr) ≠ ⟨w.heap.size + 1, j, none⟩ := fun i j e => by injection e with e1; exact n3 e1.symm
              have ST := fun (W : World) (hB : Below w7.heap.size w7 W) => AP.set_c s t x (.slice A' q c') l hq1 W (ho.out.below hB)
              rw [HQ.out] at ST
              have ST := Lib.hid ST
              have GB := Lib.hid (show g ∉ (w.heap.size :: (w.heap.size + 3) :: S) ∧ w.heap.size ≤ g ∧ g < w7.heap.size ∧ wp.heap.size ≤ g from ⟨hgS, by have := ZP.out; omega, hgl, hgB⟩)
              have GC := Lib.hid (show w7.cell? ⟨g, i * 2, none⟩ = some (.int .i64 s) ∧ w7.cell? ⟨g, i * 2 + 1, none⟩ = some (.slice A' q c') ∧ w7.frozen? ⟨g, i * 2, none⟩ = false ∧ w7.frozen? ⟨g, i * 2 + 1, none⟩ = false from ⟨e0, e1, f0, f1⟩)
              have CC := Lib.hid (fun (W : World) (hB : Below w7.heap.size w7 W) => show W.cell? ⟨w.heap.size, 2, none⟩ = some (.slice (some ⟨g, 0, none⟩) n c2) ∧ W.cell? ⟨w.heap.size + 1, 0, none⟩ = some (.int .i64 t) ∧ W.cell? ⟨w.heap.size + 1, 1, none⟩ = some (.int .i64 x) from ⟨cellb hB k2, cellb hB l0, cellb hB l1⟩)
              clear ho hgS hgB hg0 hle IX
              go_wp2_with fail
              go_cut [9] (fun s9 wx => s9 = .int .i64 (i : Int) ∧ Hid ((Bx wx w.heap.size [.int .i64 m, .int .i64 f, .slice (some ⟨g, 0, none⟩) n c2] ∧ Bx wx (w.heap.size + 1) [.int .i64 t, .int .i64 x] ∧ Bx wx (w.heap.size + 2) [.int .i64 now] ∧ Bx wx (w.heap.size + 3) [.int .i64 0, .int .i64 0, .slice none 0 0] ∧ RiNew wp.heap.size (w.heap.size :: (w.heap.size + 3) :: S) wx (.slice (some ⟨g, 0, none⟩) n c2) (lPut L i t x) ∧ Below w.heap.size w wx) ∧ wp.heap.size ≤ wx.heap.size))
              case first =>
                have hput : lPut L i t x = L.set i (s, setL s l t x) := by unfold lPut; rw [HP.out]; rfl
                have e0d : w7.drew.cell? ⟨g, i * 2, none⟩ = some (.int .i64 s) := e0
                have e1d : w7.drew.cell? ⟨g, i * 2 + 1, none⟩ = some (.slice A' q c') := e1
                have i0 : (0 : Int) ≤ (i : Int) := by omega
                have i1 : (i : Int) < (n : Int) := by omega
                refine wp_region_held_drew (S := fun y => y.cell? ⟨w.heap.size, 2, none⟩ = some (.slice (some ⟨g, 0, none⟩) n c2) ∧ y.cell? ⟨w.heap.size + 1, 0, none⟩ = some (.int .i64 t) ∧ y.cell? ⟨w.heap.size + 1, 1, none⟩ = some (.int .i64 x)) (by kernel_rfl) ?hs (fun hHeld => ?hr)
                case hs => exact (CC.out _ (Below.refl _ _).drew)
                refine wpAnyH_take (i := 0) (v := .pointer (some ⟨w.heap.size, 2, none⟩)) rfl (by kernel_rfl) (by kernel_rfl) (by kernel_rfl) (fun _ _ _ h => h) (Or.inl ⟨by rfl, fun w hSw => ?_⟩) (by assumption) ?_
                · ((try dsimp only at hSw); go_simp)
                change wpAnyH _ _ _ _ _ _ _ (Act.put _ (some 47) (.pointer (some ⟨w.heap.size, 2, none⟩))) _
                simp only [Act.put, List.setIfInBounds_toArray, List.set_cons_zero, List.set_cons_succ]
                refine wpAnyH_take (i := 1) (v := .slice (some ⟨g, 0, none⟩) n c2) rfl (by kernel_rfl) (by kernel_rfl) (by kernel_rfl) (fun _ _ _ h => h) (Or.inl ⟨by rfl, fun w hSw => ?_⟩) (by assumption) ?_
                · ((try dsimp only at hSw); go_simp)
                change wpAnyH _ _ _ _ _ _ _ (Act.put _ (some 48) (.slice (some ⟨g, 0, none⟩) n c2)) _
                simp only [Act.put, List.setIfInBounds_toArray, List.set_cons_zero, List.set_cons_succ]
                refine wpAnyH_take (i := 2) (v := .int .i64 (i : Int)) rfl (by kernel_rfl) (by kernel_rfl) (by kernel_rfl) (fun _ _ _ h => h) (Or.inl ⟨by rfl, fun w hSw => ?_⟩) (by assumption) ?_
                · ((try dsimp only at hSw); go_simp)
                change wpAnyH _ _ _ _ _ _ _ (Act.put _ (some 49) (.int .i64 (i : Int))) _
                simp only [Act.put, List.setIfInBounds_toArray, List.set_cons_zero, List.set_cons_succ]
                refine wpAnyH_take (i := 3) (v := .pointer (some ⟨w.heap.size, 2, none⟩)) rfl (by kernel_rfl) (by kernel_rfl) (by kernel_rfl) (fun _ _ _ h => h) (Or.inl ⟨by rfl, fun w hSw => ?_⟩) (by assumption) ?_
                · ((try dsimp only at hSw); go_simp)
                change wpAnyH _ _ _ _ _ _ _ (Act.put _ (some 50) (.pointer (some ⟨w.heap.size, 2, none⟩))) _
                simp only [Act.put, List.setIfInBounds_toArray, List.set_cons_zero, List.set_cons_succ]
                refine wpAnyH_take (i := 4) (v := .slice (some ⟨g, 0, none⟩) n c2) rfl (by kernel_rfl) (by kernel_rfl) (by kernel_rfl) (fun _ _ _ h => h) (Or.inl ⟨by rfl, fun w hSw => ?_⟩) (by assumption) ?_
                · ((try dsimp only at hSw); go_simp)
                change wpAnyH _ _ _ _ _ _ _ (Act.put _ (some 51) (.slice (some ⟨g, 0, none⟩) n c2)) _
                simp only [Act.put, List.setIfInBounds_toArray, List.set_cons_zero, List.set_cons_succ]
                refine wpAnyH_take (i := 5) (v := .int .i64 (i : Int)) rfl (by kernel_rfl) (by kernel_rfl) (by kernel_rfl) (fun _ _ _ h => h) (Or.inl ⟨by rfl, fun w hSw => ?_⟩) (by assumption) ?_
                · ((try dsimp only at hSw); go_simp)
                change wpAnyH _ _ _ _ _ _ _ (Act.put _ (some 52) (.int .i64 (i : Int))) _
                simp only [Act.put, List.setIfInBounds_toArray, List.set_cons_zero, List.set_cons_succ]
                refine wpAnyH_take (i := 6) (v := .pointer (some ⟨g, i * 2, none⟩)) rfl (by kernel_rfl) (by kernel_rfl) (by kernel_rfl) (fun _ _ _ h => h) (Or.inl ⟨by rfl, fun w hSw => ?_⟩) (by assumption) ?_
                · ((try dsimp only at hSw); go_simp)
                change wpAnyH _ _ _ _ _ _ _ (Act.put _ (some 53) (.pointer (some ⟨g, i * 2, none⟩))) _
                simp only [Act.put, List.setIfInBounds_toArray, List.set_cons_zero, List.set_cons_succ]
                refine wpAnyH_take (i := 8) (v := .pointer (some ⟨w.heap.size + 1, 0, none⟩)) rfl (by kernel_rfl) (by kernel_rfl) (by kernel_rfl) (fun _ _ _ h => h) (Or.inl ⟨by rfl, fun w hSw => ?_⟩) (by assumption) ?_
                · ((try dsimp only at hSw); go_simp)
                change wpAnyH _ _ _ _ _ _ _ (Act.put _ (some 55) (.pointer (some ⟨w.heap.size + 1, 0, none⟩))) _
                simp only [Act.put, List.setIfInBounds_toArray, List.set_cons_zero, List.set_cons_succ]
                refine wpAnyH_take (i := 9) (v := .int .i64 t) rfl (by kernel_rfl) (by kernel_rfl) (by kernel_rfl) (fun _ _ _ h => h) (Or.inl ⟨by rfl, fun w hSw => ?_⟩) (by assumption) ?_
                · ((try dsimp only at hSw); go_simp)
                change wpAnyH _ _ _ _ _ _ _ (Act.put _ (some 56) (.int .i64 t)) _
                simp only [Act.put, List.setIfInBounds_toArray, List.set_cons_zero, List.set_cons_succ]
                refine wpAnyH_take (i := 10) (v := .pointer (some ⟨w.heap.size + 1, 1, none⟩)) rfl (by kernel_rfl) (by kernel_rfl) (by kernel_rfl) (fun _ _ _ h => h) (Or.inl ⟨by rfl, fun w hSw => ?_⟩) (by assumption) ?_
                · ((try dsimp only at hSw); go_simp)
                change wpAnyH _ _ _ _ _ _ _ (Act.put _ (some 57) (.pointer (some ⟨w.heap.size + 1, 1, none⟩))) _
                simp only [Act.put, List.setIfInBounds_toArray, List.set_cons_zero, List.set_cons_succ]
                refine wpAnyH_take (i := 11) (v := .int .i64 x) rfl (by kernel_rfl) (by kernel_rfl) (by kernel_rfl) (fun _ _ _ h => h) (Or.inl ⟨by rfl, fun w hSw => ?_⟩) (by assumption) ?_
                · ((try dsimp only at hSw); go_simp)
                change wpAnyH _ _ _ _ _ _ _ (Act.put _ (some 58) (.int .i64 x)) _
                simp only [Act.put, List.setIfInBounds_toArray, List.set_cons_zero, List.set_cons_succ]
                refine wpAnyH_ready (rs := [7]) (by kernel_rfl) (by simp) ?_
                refine AllReadyH.cons rfl (fun K hK => ?_) AllReadyH.nil
                go_simp
                refine hK.out _ _ hHeld (fun hHeld => ?_)
                clear hK K
                try simp only [Act.put, List.setIfInBounds_toArray, List.set_cons_zero, List.set_cons_succ]
                refine wpAnyH_ready (rs := [12]) (by kernel_rfl) (by simp) ?_
                refine AllReadyH.cons rfl (fun K hK => ?_) AllReadyH.nil
                go_simp
                refine (ST.out _ (Below.refl w7.heap.size w7).drew).mono ?_; rintro e w8 ⟨A8, c8, rfl, hN8, hb8⟩
                have T8 : Below w7.heap.size w7 w8 := bnext (Below.refl w7.heap.size w7).drew hb8
                have q8 := CC.out w8 T8; have r0 := cellb T8 GC.out.1; have r1 := cellb T8 GC.out.2.1; have r2 := (T8.frozen (p := ⟨g, i * 2, none⟩) GB.out.2.2.1).trans GC.out.2.2.1; have r3 := (T8.frozen (p := ⟨g, i * 2 + 1, none⟩) GB.out.2.2.1).trans GC.out.2.2.2
                have N8 := Lib.hid (show RgNew w7.heap.size w8 (.slice A8 q c8) (setL s l t x) from hN8); have TT := Lib.hid T8
                (try go_wp2_with fail)
                refine hK.out _ _ q8 (fun hHeld => ?_)
                clear hK K
                try simp only [Act.put, List.setIfInBounds_toArray, List.set_cons_zero, List.set_cons_succ]
                refine wpAnyH_take (i := 13) (v := .pointer (some ⟨g, i * 2, none⟩)) rfl (by kernel_rfl) (by kernel_rfl) (by kernel_rfl) (fun _ _ _ h => h) (Or.inl ⟨by rfl, fun w hSw => ?_⟩) (by assumption) ?_
                · ((try dsimp only at hSw); go_simp)
                change wpAnyH _ _ _ _ _ _ _ (Act.put _ (some 60) (.pointer (some ⟨g, i * 2, none⟩))) _
                simp only [Act.put, List.setIfInBounds_toArray, List.set_cons_zero, List.set_cons_succ]
                refine wpAnyH_ready (rs := [14]) (by kernel_rfl) (by simp) ?_
                refine AllReadyH.cons rfl (fun K hK => ?_) AllReadyH.nil
                go_simp
                have q9 := q8
                (try go_wp2_with fail)
                refine hK.out _ _ ⟨(World.cell?_setCell_other _ _ _ _ (a1 _ _)).trans ((World.cell?_setCell_other _ _ _ _ (a1 _ _)).trans q8.1), (World.cell?_setCell_other _ _ _ _ (a2 _ _)).trans ((World.cell?_setCell_other _ _ _ _ (a2 _ _)).trans q8.2.1), (World.cell?_setCell_other _ _ _ _ (a2 _ _)).trans ((World.cell?_setCell_other _ _ _ _ (a2 _ _)).trans q8.2.2)⟩ (fun hHeld => ?_)
                clear hK K
                try simp only [Act.put, List.setIfInBounds_toArray, List.set_cons_zero, List.set_cons_succ]
                refine wpAnyH_done (by kernel_rfl) ?_ _
                all_goals (try go_wp2_with fail)
                all_goals go_meet
                all_goals refine ⟨rfl, ?_, ?_⟩
                all_goals first
                  | (have h1 := TT.out.size; have h2 := SZ7.out; simp; omega)
                  | (have KS := TT.out
                     refine ⟨((BB.out.1.below KS).other (fun e => n1 e.symm) _).other (fun e => n1 e.symm) _, ((BB.out.2.1.below KS).other (fun e => n3 e.symm) _).other (fun e => n3 e.symm) _, ((BB.out.2.2.1.below KS).other (fun e => n4 e.symm) _).other (fun e => n4 e.symm) _, ((BB.out.2.2.2.1.below KS).other (fun e => n2 e.symm) _).other (fun e => n2 e.symm) _, ?_, below_set (below_set (bnext BB.out.2.2.2.2.2 KS) GB.out.2.1 _) GB.out.2.1 _⟩
                     rw [hput]
                     refine (BB.out.2.2.2.2.1.below KS).put HN.out hin (r := (s, setL s l t x)) (N8.out.far fun z hz => ?_)
                     have h1 := GB.out.2.2.1; have h2 := SZ7.out; have h3 := ZP.out
                     rcases List.mem_cons.1 hz with rfl | hz
                     · exact .inl (by omega)
                     · have h9 := MEM.out z hz
                       exact .inl (by omega))
              case rest =>
               obtain ⟨rfl, BXX⟩ := hcut
               have BX := Lib.hid BXX.out.1; have ZX := Lib.hid BXX.out.2
               have eg := eg_reaches
               have GG := Lib.hid (show g ∉ (w.heap.size :: (w.heap.size + 3) :: S) ∧ w.heap.size ≤ g ∧ wp.heap.size ≤ g from ⟨GB.out.1, GB.out.2.1, GB.out.2.2.2⟩)
               clear BXX GC GB CC ST e0 e1 f0 f1 BB k0 k1 k2 l0 l1 l2
               go_wp2_with fail
               go_loopw [10] (fun v10 wr => ∃ j k j0 : Nat, j ≤ n ∧ v10 = .int .i64 j ∧ Hid ((j = i + 1 + k ∧ j = j0 + 1) ∧ (Bx wr w.heap.size [.int .i64 m, .int .i64 f, .slice (some ⟨g, 0, none⟩) n c2] ∧ Bx wr (w.heap.size + 1) [.int .i64 t, .int .i64 x] ∧ Bx wr (w.heap.size + 2) [.int .i64 now] ∧ Bx wr (w.heap.size + 3) [.int .i64 0, .int .i64 0, .slice none 0 0] ∧ RiNew wp.heap.size (w.heap.size :: (w.heap.size + 3) :: S) wr (.slice (some ⟨g, 0, none⟩) n c2) (lSteps m f t now (lPut L i t x) (i + 1) k) ∧ Below w.heap.size w wr) ∧ wp.heap.size ≤ wr.heap.size)) (fun v10 _ => n - (intOf v10).toNat)
               case atStart => exact ⟨i + 1, 0, i, hin, by simp, ⟨⟨rfl, rfl⟩, BX.out, ZX.out⟩⟩
               case round =>
                 obtain ⟨j, k, j0, hj, rfl, HI⟩ := hrel
                 have BB := Lib.hid HI.out.2.1
                 obtain ⟨k0, k1, k2, -⟩ := BB.out.1.three
                 obtain ⟨l0, l1, -, -⟩ := BB.out.2.1.two
                 obtain ⟨l2, -⟩ := BB.out.2.2.1.one
                 obtain ⟨M, hM⟩ : ∃ M, lSteps m f t now (lPut L i t x) (i + 1) k = M := ⟨_, rfl⟩
                 have OK1 := OKS.out k
                 have LE1 := LEN.out k
                 have hR2 := BB.out.2.2.2.2.1
                 rw [hM] at OK1 LE1 hR2
                 have RN := Lib.hid hR2
                 by_cases hlt : j < n
                 · obtain ⟨⟨s2, lb⟩, hpb⟩ : ∃ r, M[j]? = some r := ⟨_, List.getElem?_eq_getElem (by omega)⟩
                   obtain ⟨⟨s1, la⟩, hpa⟩ : ∃ r, M[j0]? = some r := ⟨_, List.getElem?_eq_getElem (by have := HI.out.1; omega)⟩
                   obtain ⟨B2, d2, e0, e1, ho, f0, f1⟩ := hR2.at LE1 hpb
                   simp only at e0 e1 ho
                   have rb := (lRight_iff.1 OK1.1).2.2 j _ hpb
                   obtain ⟨qb, hqb⟩ : ∃ q, lb.length = q := ⟨_, rfl⟩
                   rw [hqb] at e1 ho
                   have HT := HY.out.2.1
                   have CL := reaches_c s2 t now (.slice B2 qb d2) lb (w.heap.size + 1) (w.heap.size + 2) rb HT HY.out.2.2.1 wr ho.out l0 l2
                   have NXT := Lib.hid (show lSteps m f t now (lPut L i t x) (i + 1) (k + 1) = lStep m f t now M j from by rw [lSteps_succ, hM, ← HI.out.1.1])
                   have HPB := Lib.hid hpb; have HPA := Lib.hid hpa; have HM := Lib.hid hM; have OK2 := Lib.hid OK1; have LE2 := Lib.hid LE1; have HQB := Lib.hid hqb; have HO := Lib.hid ho
                   have lt9 : g < wr.heap.size := World.block_lt_of_cell? wr _ e0
                   cases hre : lReaches t now (s2, lb)
                   · rw [hre] at CL
                     have CL2 := Lib.hid CL
                     have NX2 := Lib.hid (NXT.out.trans (lStep_no HPB.out hre))
                     clear CL hre hM hpa hpb OK1 LE1 hR2 rb hqb ho NXT
                     go_wp2_with (go_at_fn 33; refine CL2.out.mono ?_; rintro e w10 ⟨rfl, hb10⟩; have KS := Lib.hid hb10; clear hb10)
                     go_roundw
                     case rel =>
                       refine ⟨j + 1, k + 1, j, by omega, by go_num, ⟨⟨by have := HI.out.1; omega, rfl⟩, ⟨BB.out.1.below KS.out, BB.out.2.1.below KS.out, BB.out.2.2.1.below KS.out, BB.out.2.2.2.1.below KS.out, ?_, bnext BB.out.2.2.2.2.2 KS.out⟩, Nat.le_trans HI.out.2.2 KS.out.size⟩⟩
                       rw [NX2.out]
                       exact RN.out.below KS.out
                     case measure => simp [intOf]; omega
                   · rw [hre] at CL
                     have CL2 := Lib.hid CL
                     have NX2 := Lib.hid (NXT.out.trans (show lStep m f t now M j = M.set j (s2, lMadeL m f (s1, la) (s2, lb) t) from by
                       have e := HI.out.1.2
                       rw [e]
                       rw [e] at hpb
                       exact lStep_yes hpa hpb hre))
                     have MC := fun (W : World) (hB : Below wr.heap.size wr W) => made_c (g :: (w.heap.size :: (w.heap.size + 3) :: S)) m f t j0 (.slice (some ⟨g, 0, none⟩) n c2) M s1 s2 la lb OK2.out.1 HPA.out (by rw [← HI.out.1.2]; exact HPB.out) HT (fun gg hgg => OK2.out.2.2 _ (List.mem_of_getElem? HPA.out) gg hgg) W ((RN.out.farOut LE2.out).below hB) (fun z hz => by
                       have h1 := hB.size
                       have h2 := ZP.out
                       have h3 := HI.out.2.2
                       rcases List.mem_cons.1 hz with rfl | hz
                       · omega
                       · have h9 := MEM.out z hz
                         omega)
                     have hj0 := HI.out.1.2
                     rw [show ((j0 : Nat) : Int) + 1 = ((j : Nat) : Int) from by omega, HQB.out] at MC
                     have MC := Lib.hid MC
                     have CC := Lib.hid (fun (W : World) (hB : Below wr.heap.size wr W) => show W.cell? ⟨w.heap.size, 0, none⟩ = some (.int .i64 m) ∧ W.cell? ⟨w.heap.size, 1, none⟩ = some (.int .i64 f) ∧ W.cell? ⟨w.heap.size, 2, none⟩ = some (.slice (some ⟨g, 0, none⟩) n c2) ∧ W.cell? ⟨w.heap.size + 1, 0, none⟩ = some (.int .i64 t) from ⟨cellb hB k0, cellb hB k1, cellb hB k2, cellb hB l0⟩)
                     have GC := Lib.hid (show (wr.cell? ⟨g, j * 2, none⟩ = some (.int .i64 s2) ∧ wr.cell? ⟨g, j * 2 + 1, none⟩ = some (.slice B2 qb d2)) ∧ (wr.frozen? ⟨g, j * 2, none⟩ = false ∧ wr.frozen? ⟨g, j * 2 + 1, none⟩ = false) ∧ g < wr.heap.size from ⟨⟨e0, e1⟩, ⟨f0, f1⟩, lt9⟩)
                     clear CL hre hM hpa hpb OK1 LE1 hR2 rb hqb ho NXT hj0
                     go_wp2_with (go_at_fn 33; refine CL2.out.mono ?_; rintro e w10 ⟨rfl, hb10⟩; have KS := Lib.hid hb10; clear hb10; have k0 := cellb KS.out k0; have k1 := cellb KS.out k1; have k2 := cellb KS.out k2; have l0 := cellb KS.out l0; have e0 := cellb KS.out e0; have e1 := cellb KS.out e1)
                     have j0' : (0 : Int) ≤ (j : Int) := by omega
                     have j1' : (j : Int) < (n : Int) := by omega
                     refine wp_region_held_drew (S := fun y => y.cell? ⟨w.heap.size, 0, none⟩ = some (.int .i64 m) ∧ y.cell? ⟨w.heap.size, 1, none⟩ = some (.int .i64 f) ∧ y.cell? ⟨w.heap.size, 2, none⟩ = some (.slice (some ⟨g, 0, none⟩) n c2) ∧ y.cell? ⟨w.heap.size + 1, 0, none⟩ = some (.int .i64 t)) (by kernel_rfl) ?hs2 (fun hHeld => ?hr2)
                     case hs2 => exact (CC.out _ KS.out.drew)
                     refine wpAnyH_take (i := 0) (v := .pointer (some ⟨w.heap.size, 2, none⟩)) rfl (by kernel_rfl) (by kernel_rfl) (by kernel_rfl) (fun _ _ _ h => h) (Or.inl ⟨by rfl, fun w hSw => ?_⟩) (by assumption) ?_
                     · ((try dsimp only at hSw); go_simp)
                     change wpAnyH _ _ _ _ _ _ _ (Act.put _ (some 77) (.pointer (some ⟨w.heap.size, 2, none⟩))) _
                     simp only [Act.put, List.setIfInBounds_toArray, List.set_cons_zero, List.set_cons_succ]
                     refine wpAnyH_take (i := 1) (v := .slice (some ⟨g, 0, none⟩) n c2) rfl (by kernel_rfl) (by kernel_rfl) (by kernel_rfl) (fun _ _ _ h => h) (Or.inl ⟨by rfl, fun w hSw => ?_⟩) (by assumption) ?_
                     · ((try dsimp only at hSw); go_simp)
                     change wpAnyH _ _ _ _ _ _ _ (Act.put _ (some 78) (.slice (some ⟨g, 0, none⟩) n c2)) _
                     simp only [Act.put, List.setIfInBounds_toArray, List.set_cons_zero, List.set_cons_succ]
                     refine wpAnyH_take (i := 2) (v := .int .i64 (j : Int)) rfl (by kernel_rfl) (by kernel_rfl) (by kernel_rfl) (fun _ _ _ h => h) (Or.inl ⟨by rfl, fun w hSw => ?_⟩) (by assumption) ?_
                     · ((try dsimp only at hSw); go_simp)
                     change wpAnyH _ _ _ _ _ _ _ (Act.put _ (some 79) (.int .i64 (j : Int))) _
                     simp only [Act.put, List.setIfInBounds_toArray, List.set_cons_zero, List.set_cons_succ]
                     refine wpAnyH_take (i := 3) (v := .agg #[.int .i64 m, .int .i64 f, .slice (some ⟨g, 0, none⟩) n c2]) rfl (by kernel_rfl) (by kernel_rfl) (by kernel_rfl) (fun _ _ _ h => h) (Or.inl ⟨by rfl, fun w hSw => ?_⟩) (by assumption) ?_
                     · ((try dsimp only at hSw); go_simp)
                     change wpAnyH _ _ _ _ _ _ _ (Act.put _ (some 80) (.agg #[.int .i64 m, .int .i64 f, .slice (some ⟨g, 0, none⟩) n c2])) _
                     simp only [Act.put, List.setIfInBounds_toArray, List.set_cons_zero, List.set_cons_succ]
                     refine wpAnyH_take (i := 4) (v := .int .i64 (j : Int)) rfl (by kernel_rfl) (by kernel_rfl) (by kernel_rfl) (fun _ _ _ h => h) (Or.inl ⟨by rfl, fun w hSw => ?_⟩) (by assumption) ?_
                     · ((try dsimp only at hSw); go_simp)
                     change wpAnyH _ _ _ _ _ _ _ (Act.put _ (some 81) (.int .i64 (j : Int))) _
                     simp only [Act.put, List.setIfInBounds_toArray, List.set_cons_zero, List.set_cons_succ]
                     refine wpAnyH_take (i := 5) (v := .pointer (some ⟨w.heap.size + 1, 0, none⟩)) rfl (by kernel_rfl) (by kernel_rfl) (by kernel_rfl) (fun _ _ _ h => h) (Or.inl ⟨by rfl, fun w hSw => ?_⟩) (by assumption) ?_
                     · ((try dsimp only at hSw); go_simp)
                     change wpAnyH _ _ _ _ _ _ _ (Act.put _ (some 82) (.pointer (some ⟨w.heap.size + 1, 0, none⟩))) _
                     simp only [Act.put, List.setIfInBounds_toArray, List.set_cons_zero, List.set_cons_succ]
                     refine wpAnyH_take (i := 6) (v := .int .i64 t) rfl (by kernel_rfl) (by kernel_rfl) (by kernel_rfl) (fun _ _ _ h => h) (Or.inl ⟨by rfl, fun w hSw => ?_⟩) (by assumption) ?_
                     · ((try dsimp only at hSw); go_simp)
                     change wpAnyH _ _ _ _ _ _ _ (Act.put _ (some 83) (.int .i64 t)) _
                     simp only [Act.put, List.setIfInBounds_toArray, List.set_cons_zero, List.set_cons_succ]
                     refine wpAnyH_ready (rs := [7]) (by kernel_rfl) (by simp) ?_
                     refine AllReadyH.cons rfl (fun K hK => ?_) AllReadyH.nil
                     go_simp
                     refine (MC.out _ KS.out.drew).mono ?_; rintro e w11 ⟨A11, c11, rfl, hN11, hb11⟩
                     have T11 : Below wr.heap.size wr w11 := bnext KS.out (bnext (Below.refl _ _).drew hb11)
                     have q11 := CC.out w11 T11; have r0 := cellb T11 GC.out.1.1; have r1 := cellb T11 GC.out.1.2; have r2 := (T11.frozen (p := ⟨g, j * 2, none⟩) GC.out.2.2).trans GC.out.2.1.1; have r3 := (T11.frozen (p := ⟨g, j * 2 + 1, none⟩) GC.out.2.2).trans GC.out.2.1.2
                     have N11 := Lib.hid hN11; have TT := Lib.hid T11
                     (try go_wp2_with fail)
                     refine hK.out _ _ q11 (fun hHeld => ?_)
                     clear hK K
                     try simp only [Act.put, List.setIfInBounds_toArray, List.set_cons_zero, List.set_cons_succ]
                     refine wpAnyH_take (i := 8) (v := .pointer (some ⟨g, j * 2, none⟩)) rfl (by kernel_rfl) (by kernel_rfl) (by kernel_rfl) (fun _ _ _ h => h) (Or.inl ⟨by rfl, fun w hSw => ?_⟩) (by assumption) ?_
                     · ((try dsimp only at hSw); go_simp)
                     change wpAnyH _ _ _ _ _ _ _ (Act.put _ (some 85) (.pointer (some ⟨g, j * 2, none⟩))) _
                     simp only [Act.put, List.setIfInBounds_toArray, List.set_cons_zero, List.set_cons_succ]
                     refine wpAnyH_ready (rs := [9]) (by kernel_rfl) (by simp) ?_
                     refine AllReadyH.cons rfl (fun K hK => ?_) AllReadyH.nil
                     go_simp
                     (try go_wp2_with fail)
                     refine hK.out _ _ ⟨(World.cell?_setCell_other _ _ _ _ (a1 _ _)).trans ((World.cell?_setCell_other _ _ _ _ (a1 _ _)).trans q11.1), (World.cell?_setCell_other _ _ _ _ (a1 _ _)).trans ((World.cell?_setCell_other _ _ _ _ (a1 _ _)).trans q11.2.1), (World.cell?_setCell_other _ _ _ _ (a1 _ _)).trans ((World.cell?_setCell_other _ _ _ _ (a1 _ _)).trans q11.2.2.1), (World.cell?_setCell_other _ _ _ _ (a2 _ _)).trans ((World.cell?_setCell_other _ _ _ _ (a2 _ _)).trans q11.2.2.2)⟩ (fun hHeld => ?_)
                     clear hK K
                     try simp only [Act.put, List.setIfInBounds_toArray, List.set_cons_zero, List.set_cons_succ]
                     refine wpAnyH_done (by kernel_rfl) ?_ _
                     all_goals (try go_wp2_with fail)
                     all_goals
                      go_roundw
                      case rel =>
                        have KS := TT.out
                        refine ⟨j + 1, k + 1, j, by omega, by go_num, ⟨⟨by have := HI.out.1; omega, rfl⟩, ⟨((BB.out.1.below KS).other (fun e => n1 e.symm) _).other (fun e => n1 e.symm) _, ((BB.out.2.1.below KS).other (fun e => n3 e.symm) _).other (fun e => n3 e.symm) _, ((BB.out.2.2.1.below KS).other (fun e => n4 e.symm) _).other (fun e => n4 e.symm) _, ((BB.out.2.2.2.1.below KS).other (fun e => n2 e.symm) _).other (fun e => n2 e.symm) _, ?_, below_set (below_set (bnext BB.out.2.2.2.2.2 KS) GG.out.2.1 _) GG.out.2.1 _⟩, ?_⟩⟩
                        · rw [NX2.out]
                          exact (RN.out.below KS).put LE2.out hlt (r := (s2, lMadeL m f (s1, la) (s2, lb) t)) N11.out
                        · have h1 := KS.size; have h2 := HI.out.2.2; simp; omega
                      case measure => simp [intOf]; omega
                 · have hjn : j = n := by omega
                   have AC := Lib.hid (show R = (M, 0) from by rw [AY.out, ← hM]; congr 2; have := HI.out.1; omega)
                   have BB := Lib.hid (show Bx wr w.heap.size [.int .i64 m, .int .i64 f, .slice (some ⟨g, 0, none⟩) n c2] ∧ Bx wr (w.heap.size + 1) [.int .i64 t, .int .i64 x] ∧ Bx wr (w.heap.size + 2) [.int .i64 now] ∧ Bx wr (w.heap.size + 3) [.int .i64 0, .int .i64 0, .slice none 0 0] ∧ RiNew wp.heap.size (w.heap.size :: (w.heap.size + 3) :: S) wr (.slice (some ⟨g, 0, none⟩) n c2) M ∧ Below w.heap.size w wr from ⟨BB.out.1, BB.out.2.1, BB.out.2.2.1, BB.out.2.2.2.1, RN.out, BB.out.2.2.2.2.2⟩)
                   clear hM OK1 LE1 hR2 hjn
                   obtain ⟨j0, j1, j2, j3, j4, j5⟩ := BB.out.2.2.2.1.three
                   obtain ⟨k0, k1, k2, -⟩ := BB.out.1.three
                   go_wp2_with fail
                   exact bodyPost_ret (v := .tuple #[.agg #[.int .i64 m, .int .i64 f, .slice (some ⟨g, 0, none⟩) n c2], .int .i64 0]) (by simp [results, Try.results14, go_sem, j0, j1, j2, j3, j4, j5]) rfl ⟨some ⟨g, 0, none⟩, c2, by rw [AC.out], by rw [AC.out]; exact ((BB.out.2.2.2.2.1.set3 (b := w.heap.size + 3) (by simp) _ _ _).less (fun z hz => .inl (by simp [hz]))).mono (by have := ZP.out; omega), below_set (below_set (below_set BB.out.2.2.2.2.2 (by omega) _) (by omega) _) (by omega) _⟩

end Go.Proofs.Ytkgajlklhcmmcaa.AP
