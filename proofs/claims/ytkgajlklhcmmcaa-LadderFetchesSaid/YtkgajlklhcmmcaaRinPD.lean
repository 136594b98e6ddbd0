/-
  Contracts of the program's functions of layer 13: the value of a slot; of a time.
-/
import Derived.Test.YtkgajlklhcmmcaaRinPC
import Derived.Deep.DeepCutAuto
set_option linter.unusedSimpArgs false
set_option linter.unusedVariables false
namespace Go.Proofs.Ytkgajlklhcmmcaa.IP
open Go.RowKit
theorem held4 {w w' : World} {b1 b2 o : Nat} {x0 x1 x2 x3 : Value} (hb : Below w.heap.size w w') (h : w.cell? ⟨b1, 0, none⟩ = some x0 ∧ w.cell? ⟨b1, 1, none⟩ = some x1 ∧ w.cell? ⟨b2, o, none⟩ = some x2 ∧ w.cell? ⟨b2, o + 1, none⟩ = some x3) :
    w'.cell? ⟨b1, 0, none⟩ = some x0 ∧ w'.cell? ⟨b1, 1, none⟩ = some x1 ∧ w'.cell? ⟨b2, o, none⟩ = some x2 ∧ w'.cell? ⟨b2, o + 1, none⟩ = some x3 := ⟨cellb hb h.1, cellb hb h.2.1, cellb hb h.2.2.1, cellb hb h.2.2.2⟩
set_option maxRecDepth 100000 in
set_option maxHeartbeats 2000000 in
theorem value_c (s a : Int) (v : Value) (l : List (Int × Int)) (hr : rRight s l = true) (ha : 0 ≤ a ∧ a ≤ 1099511714176) (w : World) (f : RgOut w v l) :
    Calls Try.prog 44 #[.agg #[.int .i64 s, v], .int .i64 a] w fun e w' => e = .returned (.agg (nuC (rVal s l a)).toArray) ∧ Below w.heap.size w w' := by
  obtain ⟨A, c, rfl, hc, hx⟩ := f
  obtain ⟨m1, m2, m3, m4⟩ := rMay_iff.1 (rRight_iff.1 hr).1
  obtain ⟨p0, p1, p2⟩ := rPl_facts (s := s) (t := a) (n := l.length) m1 ha.1 (by omega)
  have PL := Lib.hid (place_c s a A l.length c ⟨m1, m2⟩ ha ⟨by omega, by omega⟩)
  have hok := fun v h => @rVal_ok s l a v hr ha.1 h
  obtain ⟨b, off, rfl, hat⟩ := hx (by intro e; rw [e] at m3; simp at m3)
  have hp0 := List.getElem?_eq_getElem p2
  obtain ⟨⟨x, y⟩, hp⟩ : ∃ p, l[(rPl s l.length a).toNat] = p := ⟨_, rfl⟩
  rw [hp] at hp0
  have hval : rVal s l a = if x = a then some y else none := by unfold rVal; rw [hp0]
  obtain ⟨c0, c1⟩ := hat _ _ hp0
  simp only at c0 c1
  have hn' : (rPl s l.length a) = ((rPl s l.length a).toNat : Int) := by omega
  obtain ⟨k, hk⟩ : ∃ k, (rPl s l.length a).toNat = k := ⟨_, rfl⟩
  rw [hk] at c0 c1 p2 hn'
  rw [hn'] at PL
  rw [hval] at hok ⊢
  obtain ⟨n, hn⟩ : ∃ n, l.length = n := ⟨_, rfl⟩
  rw [hn] at PL hc p2 m4 ⊢
  have hok2 := hok
  clear hp hp0 hval hn' hk hat hx hn p0 p1 m3 hr hok
  obtain ⟨⟨k0, k1⟩, ⟨k2, k3⟩, kb⟩ := two_cells w (.int .i64 s) (.slice (some ⟨b, off, none⟩) n c) (.bool false) (.int .i64 0) 53 61
  obtain ⟨g0, g1⟩ : ((w.alloc (.cells #[.int .i64 s, .slice (some ⟨b, off, none⟩) n c] 53)).alloc (.cells #[.bool false, .int .i64 0] 61)).frozen? ⟨w.heap.size + 1, 0, none⟩ = false ∧ ((w.alloc (.cells #[.int .i64 s, .slice (some ⟨b, off, none⟩) n c] 53)).alloc (.cells #[.bool false, .int .i64 0] 61)).frozen? ⟨w.heap.size + 1, 1, none⟩ = false := by
    obtain ⟨-, -, h2, h3⟩ := two_new (w.alloc (.cells #[.int .i64 s, .slice (some ⟨b, off, none⟩) n c] 53)) (.bool false) (.int .i64 0) 61
    rw [show (w.alloc (.cells #[.int .i64 s, .slice (some ⟨b, off, none⟩) n c] 53)).heap.size = w.heap.size + 1 from by simp] at h2 h3
    exact ⟨h2, h3⟩
  have c0 := cellb kb c0
  have c1 := cellb kb c1
  obtain ⟨wc, hwc⟩ : ∃ wc, ((w.alloc (.cells #[.int .i64 s, .slice (some ⟨b, off, none⟩) n c] 53)).alloc (.cells #[.bool false, .int .i64 0] 61)) = wc := ⟨_, rfl⟩
  have zc : wc.heap.size = w.heap.size + 2 := by rw [← hwc]; simp
  rw [hwc] at k0 k1 k2 k3 kb c0 c1 g0 g1
  have HWC := Lib.hid hwc
  have KB := Lib.hid kb
  have H4 := Lib.hid (show wc.cell? ⟨w.heap.size, 0, none⟩ = some (.int .i64 s) ∧ wc.cell? ⟨w.heap.size, 1, none⟩ = some (.slice (some ⟨b, off, none⟩) n c) ∧ wc.cell? ⟨b, off + k * 2, none⟩ = some (.int .i64 x) ∧ wc.cell? ⟨b, off + k * 2 + 1, none⟩ = some (.int .i64 y) from ⟨k0, k1, c0, c1⟩)
  have ltb := World.block_lt_of_cell? wc _ c0
  have lt2 : w.heap.size + 1 < wc.heap.size := by omega
  have lt1 : w.heap.size < wc.heap.size := by omega
  have DV := Lib.hid (show (wc.cell? ⟨w.heap.size + 1, 0, none⟩ = some (.bool false) ∧ wc.cell? ⟨w.heap.size + 1, 1, none⟩ = some (.int .i64 0)) ∧ wc.frozen? ⟨w.heap.size + 1, 0, none⟩ = false ∧ wc.frozen? ⟨w.heap.size + 1, 1, none⟩ = false from ⟨⟨k2, k3⟩, g0, g1⟩)
  have OK := Lib.hid hok2
  clear hwc kb zc k2 k3 g0 g1 hok2
  go_enter Try.func44, Try.ntmps44
  go_wp2_with fail
  rw [HWC.out]
  go_cut [5] (fun s wx => ∃ b : Nat, s = .pointer (some ⟨b, 0, none⟩) ∧ wx.cell? ⟨b, 0, none⟩ = some (.int .i64 x) ∧ wx.cell? ⟨b, 1, none⟩ = some (.int .i64 y) ∧ Below wc.heap.size wc wx)
  case first =>
    go_region_held3 (fun y' => y'.cell? ⟨w.heap.size, 0, none⟩ = some (.int .i64 s) ∧ y'.cell? ⟨w.heap.size, 1, none⟩ = some (.slice (some ⟨b, off, none⟩) n c) ∧ y'.cell? ⟨b, off + k * 2, none⟩ = some (.int .i64 x) ∧ y'.cell? ⟨b, off + k * 2 + 1, none⟩ = some (.int .i64 y))
      (first | go_keep | assumption | (exact held4 T2 H4.out) | (exact held4 (below_put2 T2 (by omega) _ _) H4.out) | (exact held4 (T2.alloc (by omega) _) H4.out))
      (first | (go_at_call 64; with_reducible refine (PL.out _).mono ?_; rintro e w2 ⟨rfl, hb2⟩; have T2 : Below wc.heap.size wc w2 := bnext (by first | exact (Below.refl wc.heap.size wc) | exact (Below.refl wc.heap.size wc).drew | (exact ((Below.refl wc.heap.size wc).alloc (Nat.le_refl _) _)) | (exact ((Below.refl wc.heap.size wc).alloc (Nat.le_refl _) _).drew) | (exact ((Below.refl wc.heap.size wc).drew.alloc (Nat.le_refl _) _))) hb2; have q2 : w2.cell? ⟨w.heap.size, 0, none⟩ = some (.int .i64 s) ∧ w2.cell? ⟨w.heap.size, 1, none⟩ = some (.slice (some ⟨b, off, none⟩) n c) ∧ w2.cell? ⟨b, off + k * 2, none⟩ = some (.int .i64 x) ∧ w2.cell? ⟨b, off + k * 2 + 1, none⟩ = some (.int .i64 y) := held4 T2 H4.out; have t2 := T2.size; obtain ⟨hc2, hf2⟩ := bcell hb2; obtain ⟨ca2, cb2, cc2, cd2⟩ := id q2))
    all_goals (try go_wp2_with fail)
    all_goals go_meet
    all_goals refine ⟨_, rfl, ?_, ?_, ?_⟩
    all_goals (first | (go_simp; done) | (refine below_put2 T2 ?_ _ _; omega) | (refine T2.alloc ?_ _; omega) | (exact T2))
  case rest =>
    obtain ⟨p, rfl, hx0, hx1, TX⟩ := hcut
    obtain ⟨⟨d0, d1⟩, d2, d3⟩ := DV.out
    have d0 := cellb TX d0; have d1 := cellb TX d1
    have d2 := (TX.frozen (p := ⟨w.heap.size + 1, 0, none⟩) lt2).trans d2
    have d3 := (TX.frozen (p := ⟨w.heap.size + 1, 1, none⟩) lt2).trans d3
    have GE := Lib.hid (Nat.le_trans (Nat.le_of_lt lt2) TX.size)
    have lt3 := Nat.lt_of_lt_of_le lt2 TX.size
    have KX := Lib.hid (bnext KB.out TX)
    clear TX k0 k1 c0 c1 ltb lt2 lt1
    by_cases he : x = a
    · subst he
      have OF := Lib.hid (of_yes y (OK.out y (if_pos rfl)))
      clear OK
      go_wp2_with fail
      refine (OF.out _).mono ?_; rintro _ w3 ⟨rfl, hb3⟩; obtain ⟨hc3, hf3⟩ := bcell hb3
      go_wp2
      exact bodyPost_ret (v := .agg #[.bool false, .int .i64 y]) (by simp [results, Try.results44, go_sem, hc3, hf3, lt3, d0, d1, d2, d3]) rfl ⟨rfl, below_put2 (bnext KX.out hb3) (by omega) _ _⟩
    · have HE := Lib.hid he
      clear OK
      have NO := Lib.hid none_c
      go_wp2_with fail
      refine (NO.out _).mono ?_; rintro _ w3 ⟨rfl, hb3⟩; obtain ⟨hc3, hf3⟩ := bcell hb3
      go_wp2
      exact bodyPost_ret (v := .agg #[.bool true, .int .i64 0]) (by simp [results, Try.results44, go_sem, hc3, hf3, lt3, d0, d1, d2, d3]) rfl ⟨rfl, below_put2 (bnext KX.out hb3) (by omega) _ _⟩
end Go.Proofs.Ytkgajlklhcmmcaa.IP
