/-
  Contracts of the document's own functions of layer 13 (isobarref13): the value of a time.
-/
import Derived.Test.YtkgajlklhcmmcaaRinRA
import Derived.Test.YtkgajlklhcmmcaaRinPD
set_option linter.unusedSimpArgs false
set_option linter.unusedVariables false
namespace Go.Proofs.Ytkgajlklhcmmcaa.IR
open Go.RowKit IP
set_option maxRecDepth 100000 in
set_option maxHeartbeats 1000000 in
theorem get_c (s t : Int) (v : Value) (l : List (Int × Int)) (hl : l.length ≤ 140737488351232) (w : World) (f : RgOut w v l) :
    Calls Try.prog 25 #[.agg #[.int .i64 s, v], .int .i64 t] w fun e w' => e = .returned (.agg (nuC (rGet s l t)).toArray) ∧ Below w.heap.size w w' := by
  have AL := fun (W : World) (h : Below w.heap.size w W) => IR.align_c s t v l hl W (f.below h)
  obtain ⟨A, c, rfl, hc, hx⟩ := id f
  obtain ⟨n, hn⟩ : ∃ n, l.length = n := ⟨_, rfl⟩
  have hx0 := hx
  rw [hn] at AL hc ⊢
  obtain ⟨⟨k0, k1⟩, ⟨k2, k3⟩, kb⟩ := two_cells w (.int .i64 s) (.slice A n c) (.bool false) (.int .i64 0) 53 61
  obtain ⟨g0, g1⟩ : ((w.alloc (.cells #[.int .i64 s, .slice A n c] 53)).alloc (.cells #[.bool false, .int .i64 0] 61)).frozen? ⟨w.heap.size + 1, 0, none⟩ = false ∧ ((w.alloc (.cells #[.int .i64 s, .slice A n c] 53)).alloc (.cells #[.bool false, .int .i64 0] 61)).frozen? ⟨w.heap.size + 1, 1, none⟩ = false := by
    obtain ⟨-, -, h2, h3⟩ := two_new (w.alloc (.cells #[.int .i64 s, .slice A n c] 53)) (.bool false) (.int .i64 0) 61
    rw [show (w.alloc (.cells #[.int .i64 s, .slice A n c] 53)).heap.size = w.heap.size + 1 from by simp] at h2 h3
    exact ⟨h2, h3⟩
  obtain ⟨wc, hwc⟩ : ∃ wc, ((w.alloc (.cells #[.int .i64 s, .slice A n c] 53)).alloc (.cells #[.bool false, .int .i64 0] 61)) = wc := ⟨_, rfl⟩
  have zc : wc.heap.size = w.heap.size + 2 := by rw [← hwc]; simp
  rw [hwc] at k0 k1 k2 k3 kb g0 g1
  have HWC := Lib.hid hwc
  have KB := Lib.hid kb
  have AL := Lib.hid (AL wc kb)
  have lt2 : w.heap.size + 1 < wc.heap.size := by omega
  have DV := Lib.hid (show (wc.cell? ⟨w.heap.size, 0, none⟩ = some (.int .i64 s) ∧ wc.cell? ⟨w.heap.size, 1, none⟩ = some (.slice A n c)) ∧ (wc.cell? ⟨w.heap.size + 1, 0, none⟩ = some (.bool false) ∧ wc.cell? ⟨w.heap.size + 1, 1, none⟩ = some (.int .i64 0)) ∧ wc.frozen? ⟨w.heap.size + 1, 0, none⟩ = false ∧ wc.frozen? ⟨w.heap.size + 1, 1, none⟩ = false from ⟨⟨k0, k1⟩, ⟨k2, k3⟩, g0, g1⟩)
  have HF := Lib.hid f
  obtain ⟨G, hG⟩ : ∃ G, rGet s l t = G := ⟨_, rfl⟩
  rw [hG]
  have HG := Lib.hid hG
  by_cases hyes : rRight s l = true ∧ rTm t = true
  · have hVG : rVal s l (rAt s t) = G := (rGet_yes hyes).symm.trans hG
    rw [if_pos hyes, if_pos hyes] at AL
    obtain ⟨m1, m2, m3, m4⟩ := rMay_iff.1 (rRight_iff.1 hyes.1).1
    obtain ⟨t0, t1⟩ := rTm_iff.1 hyes.2
    obtain ⟨a0, a1, -, -, -⟩ := rAt_facts (s := s) m1 t0
    obtain ⟨u, hu⟩ : ∃ u, rAt s t = u := ⟨_, rfl⟩
    rw [hu] at AL hVG a0 a1
    obtain ⟨p0, p1, p2⟩ := rPl_facts (s := s) (t := u) (n := l.length) m1 a0 (by omega)
    obtain ⟨b, off, rfl, hat⟩ := hx0 (by intro e; rw [e] at m3; simp at m3)
    have hp0 := List.getElem?_eq_getElem p2
    obtain ⟨⟨x, y⟩, hp⟩ : ∃ p, l[(rPl s l.length u).toNat] = p := ⟨_, rfl⟩
    rw [hp] at hp0
    have hval : (if x = u then some y else none) = G := by rw [← hVG]; unfold rVal; rw [hp0]
    obtain ⟨c0, c1⟩ := hat _ _ hp0
    simp only at c0 c1
    obtain ⟨k, hk⟩ : ∃ k, (rPl s l.length u).toNat = k := ⟨_, rfl⟩
    have hn' : rPl s l.length u = (k : Int) := by omega
    rw [hk] at c0 c1 p2
    rw [hn] at p2 hn' m3 m4
    obtain ⟨q, hq⟩ : ∃ q, u / s = q := ⟨_, rfl⟩
    have q0 : 0 ≤ q := by rw [← hq]; exact Int.ediv_nonneg a0 (by omega)
    have q1 : q ≤ 1099511627776 := by rw [← hq]; exact Int.le_trans (Int.ediv_le_self _ a0) (by omega)
    have hqw : RowKit.wrap64 (u.tdiv s) = q := by rw [Int.tdiv_eq_ediv_of_nonneg a0, hq, IntWalk.wrap64_in q (by omega)]
    have hqe : q % (n : Int) = (k : Int) := by unfold rPl at hn'; rw [hq] at hn'; exact hn'
    have hqm : q.tmod (n : Int) = (k : Int) := by rw [Int.tmod_eq_emod_of_nonneg q0, hqe]
    have s0 : 0 < s := by omega
    have n0 : 0 < (n : Int) := by omega
    have HVAL := Lib.hid hval
    have CC := Lib.hid (show wc.cell? ⟨b, off + k * 2, none⟩ = some (.int .i64 x) ∧ wc.cell? ⟨b, off + k * 2 + 1, none⟩ = some (.int .i64 y) from ⟨cellb kb c0, cellb kb c1⟩)
    clear hwc kb zc k0 k1 k2 k3 g0 g1 f hn hG hyes t0 t1 a1 hu hl hx hx0 hp0 hp hval c0 c1 hat hk hn' p0 p1 hVG m1 m3
    go_enter Try.func25, Try.ntmps25
    go_wp2_with fail
    rw [HWC.out]
    obtain ⟨⟨k0, k1⟩, ⟨d0, d1⟩, d2, d3⟩ := DV.out
    go_wp2_with fail
    refine AL.out.mono ?_; rintro _ w2 ⟨rfl, TX⟩
    have k0 := cellb TX k0; have k1 := cellb TX k1
    have d0 := cellb TX d0; have d1 := cellb TX d1
    have c0 := cellb TX CC.out.1; have c1 := cellb TX CC.out.2
    have d2 := (TX.frozen (p := ⟨w.heap.size + 1, 0, none⟩) lt2).trans d2
    have d3 := (TX.frozen (p := ⟨w.heap.size + 1, 1, none⟩) lt2).trans d3
    have lt3 := Nat.lt_of_lt_of_le lt2 TX.size
    have lt4 : w.heap.size < w2.heap.size := by omega
    have ltb := World.block_lt_of_cell? w2 _ c0
    have KX := Lib.hid (bnext KB.out TX)
    clear TX lt2
    by_cases he : x = u
    · subst he
      have HG2 := Lib.hid (show G = some y from HVAL.out.symm.trans (if_pos rfl))
      go_wp2_with fail
      go_region
      obtain ⟨e0, e1, -, -⟩ := two_new w2 (.int .i64 x) (.int .i64 y) 50
      have hb9 := (alloc_below w2 (.cells #[.int .i64 x, .int .i64 y] 50)).drew
      obtain ⟨w9, hw9⟩ : ∃ w9, (w2.alloc (.cells #[.int .i64 x, .int .i64 y] 50)).drew = w9 := ⟨_, rfl⟩
      have e0 : w9.cell? ⟨w2.heap.size, 0, none⟩ = some (.int .i64 x) := by rw [← hw9]; exact e0
      have e1 : w9.cell? ⟨w2.heap.size, 1, none⟩ = some (.int .i64 y) := by rw [← hw9]; exact e1
      rw [hw9] at hb9 ⊢
      have d0 := cellb hb9 d0; have d1 := cellb hb9 d1
      have d2 := (hb9.frozen (p := ⟨w.heap.size + 1, 0, none⟩) lt3).trans d2
      have d3 := (hb9.frozen (p := ⟨w.heap.size + 1, 1, none⟩) lt3).trans d3
      have KY := Lib.hid (bnext KX.out hb9)
      have lt9 := Nat.lt_of_lt_of_le lt3 hb9.size
      clear hb9 hw9 c0 c1 k0 k1 hqw hqm hqe hq
      go_wp2
      exact bodyPost_ret (v := .agg #[.bool false, .int .i64 y]) (by simp [results, Try.results25, go_sem, d0, d1, d2, d3]) rfl ⟨by rw [HG2.out]; rfl, below_put2 KY.out (by omega) _ _⟩
    · have HG2 := Lib.hid (show G = none from HVAL.out.symm.trans (if_neg he))
      have NO := Lib.hid IR.nothing_c
      go_wp2_with fail
      go_region
      obtain ⟨e0, e1, -, -⟩ := two_new w2 (.int .i64 x) (.int .i64 y) 50
      have hb9 := (alloc_below w2 (.cells #[.int .i64 x, .int .i64 y] 50)).drew
      obtain ⟨w9, hw9⟩ : ∃ w9, (w2.alloc (.cells #[.int .i64 x, .int .i64 y] 50)).drew = w9 := ⟨_, rfl⟩
      have e0 : w9.cell? ⟨w2.heap.size, 0, none⟩ = some (.int .i64 x) := by rw [← hw9]; exact e0
      have e1 : w9.cell? ⟨w2.heap.size, 1, none⟩ = some (.int .i64 y) := by rw [← hw9]; exact e1
      rw [hw9] at hb9 ⊢
      have d0 := cellb hb9 d0; have d1 := cellb hb9 d1
      have d2 := (hb9.frozen (p := ⟨w.heap.size + 1, 0, none⟩) lt3).trans d2
      have d3 := (hb9.frozen (p := ⟨w.heap.size + 1, 1, none⟩) lt3).trans d3
      have KY := Lib.hid (bnext KX.out hb9)
      have lt9 := Nat.lt_of_lt_of_le lt3 hb9.size
      clear hb9 hw9 c0 c1 k0 k1 hqw hqm hqe hq
      go_wp2_with fail
      refine (NO.out _).mono ?_; rintro _ w3 ⟨rfl, hb3⟩; obtain ⟨hc3, hf3⟩ := bcell hb3
      go_wp2
      exact bodyPost_ret (v := .agg #[.bool true, .int .i64 0]) (by simp [results, Try.results25, go_sem, hc3, hf3, lt9, d0, d1, d2, d3]) rfl ⟨by rw [HG2.out]; rfl, below_put2 (bnext KY.out hb3) (by omega) _ _⟩
  · have hG2 : G = none := hG.symm.trans (rGet_no hyes)
    subst hG2
    rw [if_neg hyes, if_neg hyes] at AL
    have NO := Lib.hid IR.nothing_c
    clear hwc kb zc k0 k1 k2 k3 g0 g1 f hn hG hyes hc hl HG
    go_enter Try.func25, Try.ntmps25
    go_wp2_with fail
    rw [HWC.out]
    obtain ⟨⟨k0, k1⟩, ⟨d0, d1⟩, d2, d3⟩ := DV.out
    go_wp2_with fail
    refine AL.out.mono ?_; rintro _ w2 ⟨rfl, TX⟩
    have d0 := cellb TX d0; have d1 := cellb TX d1
    have d2 := (TX.frozen (p := ⟨w.heap.size + 1, 0, none⟩) lt2).trans d2
    have d3 := (TX.frozen (p := ⟨w.heap.size + 1, 1, none⟩) lt2).trans d3
    have lt3 := Nat.lt_of_lt_of_le lt2 TX.size
    have KX := Lib.hid (bnext KB.out TX)
    clear TX lt2
    go_wp2_with fail
    refine (NO.out _).mono ?_; rintro _ w3 ⟨rfl, hb3⟩; obtain ⟨hc3, hf3⟩ := bcell hb3
    go_wp2
    exact bodyPost_ret (v := .agg #[.bool true, .int .i64 0]) (by simp [results, Try.results25, go_sem, hc3, hf3, lt3, d0, d1, d2, d3]) rfl ⟨rfl, below_put2 (bnext KX.out hb3) (by omega) _ _⟩
end Go.Proofs.Ytkgajlklhcmmcaa.IR
