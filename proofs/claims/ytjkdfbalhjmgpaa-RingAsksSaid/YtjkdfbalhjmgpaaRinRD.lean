/-
  Contracts of the document's own functions of layer 13 (isobarref13): a slot is set.
-/
import Derived.Test.YtjkdfbalhjmgpaaRinRC
set_option linter.unusedSimpArgs false
set_option linter.unusedVariables false
namespace Go.Proofs.Ytjkdfbalhjmgpaa.IR
open Go.RowKit IP
set_option maxRecDepth 100000 in
set_option maxHeartbeats 4000000 in
theorem set_c (s t x : Int) (v : Value) (l : List (Int × Int)) (hl : l.length ≤ 100000) (w : World) (f : RgOut w v l) :
    Calls Try.prog 25 #[.agg #[.int .i64 s, v], .int .i64 t, .int .i64 x] w fun e w' => ∃ u, e = .returned (.tuple #[.agg #[.int .i64 s, u], .int .i64 (setE s l t x)]) ∧ RgOut w' u (setL s l t x) ∧ Below w.heap.size w w' := by
  have f0 := f
  obtain ⟨A, c, rfl, hc, -⟩ := id f
  obtain ⟨⟨k0, k1⟩, ⟨k2, k3⟩, kb⟩ := two_cells w (.int .i64 s) (.slice A l.length c) (.int .i64 0) (.slice none 0 0) 24 24
  obtain ⟨⟨g0, g1⟩, g2, g3⟩ : (((w.alloc (.cells #[.int .i64 s, .slice A l.length c] 24)).alloc (.cells #[.int .i64 0, .slice none 0 0] 24)).frozen? ⟨w.heap.size, 0, none⟩ = false ∧ ((w.alloc (.cells #[.int .i64 s, .slice A l.length c] 24)).alloc (.cells #[.int .i64 0, .slice none 0 0] 24)).frozen? ⟨w.heap.size, 1, none⟩ = false) ∧ ((w.alloc (.cells #[.int .i64 s, .slice A l.length c] 24)).alloc (.cells #[.int .i64 0, .slice none 0 0] 24)).frozen? ⟨w.heap.size + 1, 0, none⟩ = false ∧ ((w.alloc (.cells #[.int .i64 s, .slice A l.length c] 24)).alloc (.cells #[.int .i64 0, .slice none 0 0] 24)).frozen? ⟨w.heap.size + 1, 1, none⟩ = false := by
    obtain ⟨-, -, h2, h3⟩ := two_new (w.alloc (.cells #[.int .i64 s, .slice A l.length c] 24)) (.int .i64 0) (.slice none 0 0) 24
    obtain ⟨-, -, h4, h5⟩ := two_new w (.int .i64 s) (.slice A l.length c) 24
    have hs : (w.alloc (.cells #[.int .i64 s, .slice A l.length c] 24)).heap.size = w.heap.size + 1 := by simp
    have hb := alloc_below (w.alloc (.cells #[.int .i64 s, .slice A l.length c] 24)) (.cells #[.int .i64 0, .slice none 0 0] 24)
    have h6 := (hb.frozen (p := ⟨w.heap.size, 0, none⟩) (by rw [hs]; exact Nat.lt_succ_self _)).trans h4
    have h7 := (hb.frozen (p := ⟨w.heap.size, 1, none⟩) (by rw [hs]; exact Nat.lt_succ_self _)).trans h5
    rw [hs] at h2 h3
    exact ⟨⟨h6, h7⟩, h2, h3⟩
  obtain ⟨wc, hwc⟩ : ∃ wc, ((w.alloc (.cells #[.int .i64 s, .slice A l.length c] 24)).alloc (.cells #[.int .i64 0, .slice none 0 0] 24)) = wc := ⟨_, rfl⟩
  have zc : wc.heap.size = w.heap.size + 2 := by rw [← hwc]; simp
  rw [hwc] at k0 k1 k2 k3 kb g0 g1 g2 g3
  have AL := Lib.hid (IR.align_c s t (.slice A l.length c) l (by omega) wc (f.below kb))
  have CP := Lib.hid (fun (W : World) (h : Below w.heap.size w W) => copy_c s (.slice A l.length c) l hl W (f0.below h))
  have OUT := Lib.hid (fun (W : World) (h : Below w.heap.size w W) => f0.below h)
  have lt2 : w.heap.size + 1 < wc.heap.size := by omega
  have lt1 : w.heap.size < wc.heap.size := by omega
  obtain ⟨n, hn⟩ : ∃ n, l.length = n := ⟨_, rfl⟩
  rw [hn] at CP AL OUT hc k1 hwc ⊢
  have HWC := Lib.hid hwc
  have KB := Lib.hid kb
  have HN := Lib.hid hn
  have H2 := Lib.hid (show (wc.cell? ⟨w.heap.size, 0, none⟩ = some (.int .i64 s) ∧ wc.cell? ⟨w.heap.size, 1, none⟩ = some (.slice A n c)) ∧ (wc.cell? ⟨w.heap.size + 1, 0, none⟩ = some (.int .i64 0) ∧ wc.cell? ⟨w.heap.size + 1, 1, none⟩ = some (.slice none 0 0)) ∧ wc.frozen? ⟨w.heap.size + 1, 0, none⟩ = false ∧ wc.frozen? ⟨w.heap.size + 1, 1, none⟩ = false from ⟨⟨k0, k1⟩, ⟨k2, k3⟩, g2, g3⟩)
  have hl2 : n ≤ 100000 := by omega
  clear hwc kb zc f f0 hn hl k0 k1 k2 k3 g0 g1 g2 g3
  by_cases hyes : rRight s l = true ∧ rTm t = true
  · obtain ⟨mm1, mm2, mm3, mm4⟩ := rMay_iff.1 (rRight_iff.1 hyes.1).1
    obtain ⟨t0, t1⟩ := rTm_iff.1 hyes.2
    obtain ⟨a0, a1, -, -, -⟩ := rAt_facts (s := s) mm1 t0
    have ALO := AL.out
    rw [if_pos hyes, if_pos hyes] at ALO
    clear AL
    by_cases hv : x = -9223372036854775808
    · have HE := Lib.hid (set_no (s := s) (l := l) (t := t) (v := x) (fun h => h.2 hv))
      subst hv
      obtain ⟨u, hu⟩ : ∃ u, rAt s t = u := ⟨_, rfl⟩
      rw [hu] at ALO
      have AL := Lib.hid ALO
      clear hyes mm1 mm2 mm3 mm4 t0 t1 a0 a1 hu ALO CP
      go_enter Try.func25, Try.ntmps25
      go_wp2_with fail
      rw [HWC.out]
      obtain ⟨⟨k0, k1⟩, ⟨k2, k3⟩, g2, g3⟩ := H2.out
      refine AL.out.mono ?_; rintro _ w2 ⟨rfl, hb2⟩
      have k0 := cellb hb2 k0; have k1 := cellb hb2 k1; have k2 := cellb hb2 k2; have k3 := cellb hb2 k3
      have g2 := (hb2.frozen (p := ⟨w.heap.size + 1, 0, none⟩) lt2).trans g2
      have g3 := (hb2.frozen (p := ⟨w.heap.size + 1, 1, none⟩) lt2).trans g3
      have K2 := Lib.hid (bnext KB.out hb2)
      clear hb2
      go_wp2_with fail
      exact bodyPost_ret (v := .tuple #[.agg #[.int .i64 s, .slice A n c], .int .i64 1]) (by simp [results, Try.results25, go_sem, k2, k3, g2, g3]) rfl ⟨_, by rw [HE.out.2], by rw [HE.out.1]; exact OUT.out _ (below_put2 K2.out (Nat.le_succ _) _ _), below_put2 K2.out (Nat.le_succ _) _ _⟩
    · obtain ⟨e1, e2⟩ := set_yes hyes hv
      obtain ⟨p0, p1, p2⟩ := rPl_facts (s := s) (t := rAt s t) (n := l.length) mm1 a0 (by omega)
      obtain ⟨u, hu⟩ : ∃ u, rAt s t = u := ⟨_, rfl⟩
      rw [hu] at ALO e1 p0 p1 p2 a0 a1
      have hpk : rPl s l.length u = ((rPl s l.length u).toNat : Int) := by omega
      obtain ⟨k, hk⟩ : ∃ k, (rPl s l.length u).toNat = k := ⟨_, rfl⟩
      rw [hk] at hpk p2 e1
      rw [HN.out] at p2 hpk mm3 mm4
      obtain ⟨q, hq⟩ : ∃ q, u / s = q := ⟨_, rfl⟩
      have q0 : 0 ≤ q := by rw [← hq]; exact Int.ediv_nonneg a0 (by omega)
      have q1 : q ≤ 1099511627776 := by rw [← hq]; exact Int.le_trans (Int.ediv_le_self _ a0) (by omega)
      have hqw : RowKit.wrap64 (u.tdiv s) = q := by rw [Int.tdiv_eq_ediv_of_nonneg a0, hq, IntWalk.wrap64_in q (by omega)]
      have hqe : q % (n : Int) = (k : Int) := by unfold rPl at hpk; rw [hq] at hpk; exact hpk
      have hqm : q.tmod (n : Int) = (k : Int) := by rw [Int.tmod_eq_emod_of_nonneg q0, hqe]
      have s0 : 0 < s := by omega
      have n0 : 0 < (n : Int) := by omega
      have HE1 := Lib.hid e1
      have HE2 := Lib.hid e2
      have AL := Lib.hid ALO
      have HQ := Lib.hid (show (RowKit.wrap64 (u.tdiv s) = q ∧ q.tmod (n : Int) = (k : Int)) ∧ q % (n : Int) = (k : Int) from ⟨⟨hqw, hqm⟩, hqe⟩)
      have LKN := Lib.hid p2
      clear hyes mm1 mm3 mm4 t0 t1 hu hpk hk e1 e2 ALO p0 p1 hq hqw hqe hqm OUT
      go_enter Try.func25, Try.ntmps25
      go_wp2_with fail
      rw [HWC.out]
      obtain ⟨⟨k0, k1⟩, ⟨k2, k3⟩, g2, g3⟩ := H2.out
      refine AL.out.mono ?_; rintro _ w2 ⟨rfl, hb2⟩
      have k0 := cellb hb2 k0; have k1 := cellb hb2 k1; have k2 := cellb hb2 k2; have k3 := cellb hb2 k3
      have g2 := (hb2.frozen (p := ⟨w.heap.size + 1, 0, none⟩) lt2).trans g2
      have g3 := (hb2.frozen (p := ⟨w.heap.size + 1, 1, none⟩) lt2).trans g3
      have K2 := Lib.hid (bnext KB.out hb2)
      have z2 := Nat.lt_of_lt_of_le lt2 hb2.size
      have CP2 := Lib.hid (CP.out w2 K2.out)
      clear hb2
      go_wp2_with fail
      refine CP2.out.mono ?_; rintro _ w3 ⟨A2, c2, rfl, hN, hb3⟩
      have k0 := cellb hb3 k0; have k1 := cellb hb3 k1; have k2 := cellb hb3 k2; have k3 := cellb hb3 k3
      have g2 := (hb3.frozen (p := ⟨w.heap.size + 1, 0, none⟩) z2).trans g2
      have g3 := (hb3.frozen (p := ⟨w.heap.size + 1, 1, none⟩) z2).trans g3
      have z3 := Nat.lt_of_lt_of_le z2 hb3.size
      have K3 := bnext K2.out hb3
      obtain ⟨g, hg, gg1, gg2⟩ : ∃ g, A2 = some ⟨g, 0, none⟩ ∧ w2.heap.size ≤ g ∧ g < w3.heap.size := by
        obtain ⟨A', c', h1, _, h2⟩ := own_form hN
        injection h1 with h1
        subst h1
        obtain ⟨g, h3, h4, h5⟩ := h2 (by rw [HN.out]; have := LKN.out; omega)
        exact ⟨g, h3, h4, h5⟩
      subst hg
      -- the answer's own variable
      obtain ⟨e0, e1, -, -⟩ := two_new w3 (.int .i64 s) (.slice (some ⟨g, 0, none⟩) n c2) 24
      have hb4 := alloc_below w3 (.cells #[.int .i64 s, .slice (some ⟨g, 0, none⟩) n c2] 24)
      obtain ⟨w4, hw4⟩ : ∃ w4, w3.alloc (.cells #[.int .i64 s, .slice (some ⟨g, 0, none⟩) n c2] 24) = w4 := ⟨_, rfl⟩
      have z4 : w3.heap.size < w4.heap.size := by rw [← hw4]; simp
      rw [hw4] at e0 e1 hb4
      have k0 := cellb hb4 k0; have k1 := cellb hb4 k1; have k2 := cellb hb4 k2; have k3 := cellb hb4 k3
      have g2 := (hb4.frozen (p := ⟨w.heap.size + 1, 0, none⟩) z3).trans g2
      have g3 := (hb4.frozen (p := ⟨w.heap.size + 1, 1, none⟩) z3).trans g3
      have N4 := hN.below hb4
      have RC : ∃ d0 d1, (w4.cell? ⟨g, k * 2, none⟩ = some d0 ∧ w4.cell? ⟨g, k * 2 + 1, none⟩ = some d1) ∧ w4.frozen? ⟨g, k * 2, none⟩ = false ∧ w4.frozen? ⟨g, k * 2 + 1, none⟩ = false := by
        obtain ⟨r0, r1⟩ := rgC_at l k _ (List.getElem?_eq_getElem (show k < l.length by rw [HN.out]; exact LKN.out))
        have ho : w4.ownsRow w2.heap.size 59 2 (.slice (some ⟨g, 0, none⟩) l.length c2) l.length (rgC l) := by rw [HN.out]; have := N4; unfold RgNew at this; rw [HN.out] at this; exact this
        exact ⟨_, _, ⟨(own_cell ho r0).1, (own_cell ho r1).1⟩, (own_cell ho r0).2, (own_cell ho r1).2⟩
      obtain ⟨r0, r1, ⟨rr0, rr1⟩, rf0, rf1⟩ := RC
      have K4 := Lib.hid (bnext K3 hb4)
      have HN4 := Lib.hid N4
      have HW4 := Lib.hid hw4
      have Z2 := Lib.hid z2
      have GE := Lib.hid (show w.heap.size + 1 < g ∧ g ≠ w3.heap.size ∧ w.heap.size + 1 < w3.heap.size from ⟨by omega, by omega, z3⟩)
      have n1 : w.heap.size ≠ g := by have := GE.out; omega
      have n2 : g ≠ w.heap.size := by have := GE.out; omega
      have n3 : w.heap.size + 1 ≠ g := by have := GE.out; omega
      have n4 : g ≠ w.heap.size + 1 := by have := GE.out; omega
      have n5 : w3.heap.size ≠ g := by have := GE.out; omega
      have n6 : g ≠ w3.heap.size := GE.out.2.1
      have n7 : w.heap.size + 1 ≠ w3.heap.size := by have := GE.out; omega
      have n8 : w3.heap.size ≠ w.heap.size + 1 := by have := GE.out; omega
      obtain ⟨⟨hqw, hqm⟩, hqe⟩ := HQ.out
      have hk := LKN.out
      clear hb3 hb4 hN N4 K3 hw4 gg1 gg2 z2 z3
      go_wp2_with fail
      rw [HW4.out]
      go_region
      go_wp2_with fail
      exact bodyPost_ret (v := .tuple #[.agg #[.int .i64 s, .slice (some ⟨g, 0, none⟩) n c2], .int .i64 0]) (by simp [results, Try.results25, go_sem, n1, n2, n3, n4, n5, n6, n7, n8, k2, k3, g2, g3]) rfl ⟨_, by rw [HE2.out], RgNew.out (set_fin (w := w) (wa := w4.drew) (wc := w2) (w5 := w4.drew) HN4.out K4.out.drew Z2.out (Below.refl _ _) HN.out HE1.out hk GE.out.1), set_low K4.out.drew (Nat.le_of_lt (by have := GE.out; omega)) (Nat.le_succ _)⟩
  · have HE := Lib.hid (set_no (s := s) (l := l) (t := t) (v := x) (fun h => hyes h.1))
    have ALO := AL.out
    rw [if_neg hyes, if_neg hyes] at ALO
    have AL := Lib.hid ALO
    clear hyes ALO CP
    go_enter Try.func25, Try.ntmps25
    go_wp2_with fail
    rw [HWC.out]
    obtain ⟨⟨k0, k1⟩, ⟨k2, k3⟩, g2, g3⟩ := H2.out
    refine AL.out.mono ?_; rintro _ w2 ⟨rfl, hb2⟩
    have k0 := cellb hb2 k0; have k1 := cellb hb2 k1; have k2 := cellb hb2 k2; have k3 := cellb hb2 k3
    have g2 := (hb2.frozen (p := ⟨w.heap.size + 1, 0, none⟩) lt2).trans g2
    have g3 := (hb2.frozen (p := ⟨w.heap.size + 1, 1, none⟩) lt2).trans g3
    have K2 := Lib.hid (bnext KB.out hb2)
    clear hb2
    go_wp2_with fail
    exact bodyPost_ret (v := .tuple #[.agg #[.int .i64 s, .slice A n c], .int .i64 1]) (by simp [results, Try.results25, go_sem, k2, k3, g2, g3]) rfl ⟨_, by rw [HE.out.2], by rw [HE.out.1]; exact OUT.out _ (below_put2 K2.out (Nat.le_succ _) _ _), below_put2 K2.out (Nat.le_succ _) _ _⟩
end Go.Proofs.Ytjkdfbalhjmgpaa.IR
