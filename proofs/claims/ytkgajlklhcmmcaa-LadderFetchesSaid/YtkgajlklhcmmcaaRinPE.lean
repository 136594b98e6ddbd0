/-
  Contracts of the program's functions of layer 13: copies of slots; a slot is set.
-/
import Derived.Test.YtkgajlklhcmmcaaRinPD
set_option linter.unusedSimpArgs false
set_option linter.unusedVariables false
namespace Go.Proofs.Ytkgajlklhcmmcaa
open Go.RowKit
theorem rgC_set : ∀ (l : List (Int × Int)) (k : Nat) (x y : Int), rgC (l.set k (x, y)) = ((rgC l).set (k * 2) (.int .i64 x)).set (k * 2 + 1) (.int .i64 y)
  | [], k, x, y => rfl
  | g :: l, 0, x, y => rfl
  | g :: l, k + 1, x, y => by
    have ih := rgC_set l k x y
    have e : ∀ (p : Int × Int) (m : List (Int × Int)), rgC (p :: m) = .int .i64 p.1 :: .int .i64 p.2 :: rgC m := fun _ _ => rfl
    rw [List.set_cons_succ, e, e, ih, show (k + 1) * 2 = k * 2 + 1 + 1 from by omega, List.set_cons_succ, List.set_cons_succ, List.set_cons_succ, List.set_cons_succ]
/-- A slot of a row of one's own is stored anew. -/
theorem RgNew.put {B g c k : Nat} {w : World} {l : List (Int × Int)} (h : RgNew B w (.slice (some ⟨g, 0, none⟩) l.length c) l) (hk : k < l.length) (x y : Int) :
    RgNew B ((w.setCell ⟨g, k * 2, none⟩ (.int .i64 x)).setCell ⟨g, k * 2 + 1, none⟩ (.int .i64 y)) (.slice (some ⟨g, 0, none⟩) l.length c) (l.set k (x, y)) := by
  obtain ⟨h0, h1⟩ := h
  unfold RgNew
  rw [List.length_set]
  refine ⟨by rw [rgC_length, List.length_set], ?_⟩
  rcases h1 with ⟨hv, _⟩ | ⟨g', cap, cur, hv, hb, hh, hle, h4, h5, ht⟩
  · cases hv
  · injection hv with e1 e2 e3
    injection e1 with e1
    injection e1 with e1 _ _
    subst e1
    subst e3
    refine Or.inr ⟨g, c, (cur.setIfInBounds (k * 2) (.int .i64 x)).setIfInBounds (k * 2 + 1) (.int .i64 y), rfl, hb, ?_, hle, by simpa using h4, by simpa using h5, ?_⟩
    · simp [World.setCell, Array.getElem?_modify, hh]
    · rw [rgC_set, ← ht]
      simp only [Array.toList_setIfInBounds]
      rw [List.take_set, List.take_set]
namespace IP
set_option maxRecDepth 100000 in
set_option maxHeartbeats 2000000 in
theorem clone_c (v : Value) (l : List (Int × Int)) (hl : l.length ≤ 100000) (w : World) (f : RgOut w v l) :
    Calls Try.prog 57 #[v] w fun e w' => ∃ A c, e = .returned (.slice A l.length c) ∧ RgNew w.heap.size w' (.slice A l.length c) l ∧ Below w.heap.size w w' := by
  have hnil : ∀ (n c : Nat) (w : World), (binOp .eql 51 (.slice none n c) (.slice none 0 0)).run Try.prog w = .ok (.bool true) w := fun n c w => Lib.run_eql_slice_nil w 51 50 none n c 0 0 Try.underlying51
  have hsome : ∀ (ad : Addr) (n c : Nat) (w : World), (binOp .eql 51 (.slice (some ad) n c) (.slice none 0 0)).run Try.prog w = .ok (.bool false) w := fun ad n c w => Lib.run_eql_slice_nil w 51 50 (some ad) n c 0 0 Try.underlying51
  obtain ⟨A, c, rfl, hc, hx⟩ := id f
  have hr := rg_reads f
  have h1 := rgC_one l
  rcases A with _ | ad
  · have h0 : l = [] := by
      by_cases h : l = []
      · exact h
      · obtain ⟨b, off, h2, _⟩ := hx h
        cases h2
    subst h0
    clear hr h1 f hx
    go_enter Try.func57, Try.ntmps57
    go_wp2
    go_ret
    exact ⟨none, 0, rfl, RgNew.nil _ _, Below.refl _ _⟩
  · obtain ⟨i0, hi0, hz0, hz1, hz2⟩ := info_parts slot_info
    have HR := Lib.hid hr
    have H1 := Lib.hid h1
    obtain ⟨n, hn⟩ : ∃ n, l.length = n := ⟨_, rfl⟩
    have FIN := Lib.hid (show ∀ (w3 : World) (v1 : Value), w3.ownsRow w.heap.size 50 2 v1 n (rgC l) → ∃ A c, v1 = .slice A n c ∧ RgNew w.heap.size w3 (.slice A n c) l from fun w3 v1 h => by
      obtain ⟨A1, c1, rfl, _, _⟩ := own_form h
      refine ⟨A1, c1, rfl, ?_⟩
      unfold RgNew
      rw [hn]; exact h)
    rw [hn] at HR hc hl ⊢
    clear hr h1 hx f hn
    go_enter Try.func57, Try.ntmps57
    go_wp2_with (at_builtin; refine wpList_append_any _ rfl (.tmp 5) (.tmp 6) _ rfl w.heap.size 50 i0 (.agg #[.int .i64 0, .int .i64 0]) 2 16 Try.underlying51 hi0 hz0 hz1 hz2 rfl (by decide) (.slice (some ⟨w.heap.size, 0, none⟩) 0 0) 0 [] rfl (World.ownsRow_made _ _ _ (Nat.le_refl _) (by decide) rfl) w.heap.size (some ad) n c (rgC l) rfl (HR.out.alloc (Nat.le_refl _) _) H1.out (by simp only [maxLen]; omega) (by omega) (by simp) ?_; intro v1 w3 hown1 hg1 hat1)
    go_ret
    obtain ⟨A1, c1, rfl, hN⟩ := FIN.out _ _ (by simpa using hown1)
    exact ⟨A1, c1, rfl, hN, Below.grown ((Below.refl _ _).alloc (Nat.le_refl _) _) hg1 (by simp) (by intro g hg; simp [Value.ownBlock] at hg; omega)⟩
/-- What Set answers of the slots. -/
def setL (s : Int) (l : List (Int × Int)) (t v : Int) : List (Int × Int) := (rSet s l t v).getD l
def setE (s : Int) (l : List (Int × Int)) (t v : Int) : Int := if (rSet s l t v).isSome then 0 else 1
theorem setL_length (s : Int) (l : List (Int × Int)) (t v : Int) : (setL s l t v).length = l.length := by
  unfold setL
  cases h : rSet s l t v with
  | none => rfl
  | some m => exact (rSet_right h).2
theorem set_yes {s : Int} {l : List (Int × Int)} {t v : Int} (h : rRight s l = true ∧ rTm t = true) (hv : v ≠ -9223372036854775808) : setL s l t v = l.set (rPl s l.length (rAt s t)).toNat (rAt s t, v) ∧ setE s l t v = 0 := by
  unfold setL setE rSet
  rw [if_pos ⟨h, hv⟩]
  exact ⟨rfl, rfl⟩
theorem set_no {s : Int} {l : List (Int × Int)} {t v : Int} (h : ¬ ((rRight s l = true ∧ rTm t = true) ∧ v ≠ -9223372036854775808)) : setL s l t v = l ∧ setE s l t v = 1 := by
  unfold setL setE rSet
  rw [if_neg h]
  exact ⟨rfl, rfl⟩
/-- Behind the stores of a slot and of the answer. -/
theorem set_fin {w wa wc w5 : World} {g c n k : Nat} {l M : List (Int × Int)} {u x : Int} {y0 y1 : Value} (h : RgNew wc.heap.size wa (.slice (some ⟨g, 0, none⟩) n c) l) (ha : Below w.heap.size w wa) (hc : w.heap.size + 1 < wc.heap.size) (h5 : Below wa.heap.size wa w5) (hn : l.length = n)
    (hM : M = l.set k (u, x)) (hk : k < n) (hg : w.heap.size + 1 < g) :
    RgNew w.heap.size ((((w5.setCell ⟨g, k * 2, none⟩ (.int .i64 u)).setCell ⟨g, k * 2 + 1, none⟩ (.int .i64 x)).setCell ⟨w.heap.size + 1, 0, none⟩ y0).setCell ⟨w.heap.size + 1, 1, none⟩ y1) (.slice (some ⟨g, 0, none⟩) n c) M := by
  subst hn hM
  have h2 := ((h.below h5).put hk u x).mono (show w.heap.size ≤ wc.heap.size by omega)
  refine h2.keep fun g' _ _ hg' => ?_
  obtain rfl : g = g' := by simpa [Value.ownBlock] using hg'
  exact (heap_setCell_other _ ⟨w.heap.size + 1, 1, none⟩ g _ (by show g ≠ w.heap.size + 1; omega)).trans (heap_setCell_other _ ⟨w.heap.size + 1, 0, none⟩ g _ (by show g ≠ w.heap.size + 1; omega))
theorem set_low {B b g o : Nat} {w w5 : World} {x0 x1 y0 y1 : Value} (h : Below B w w5) (hg : B ≤ g) (hb : B ≤ b) : Below B w ((((w5.setCell ⟨g, o, none⟩ x0).setCell ⟨g, o + 1, none⟩ x1).setCell ⟨b, 0, none⟩ y0).setCell ⟨b, 1, none⟩ y1) :=
  below_put2 ((h.setCell (p := ⟨g, o, none⟩) hg x0).setCell (p := ⟨g, o + 1, none⟩) hg x1) hb y0 y1
theorem set_off {w wa wc w5 : World} {A : Option Addr} {c n : Nat} {l M : List (Int × Int)} {y0 y1 : Value} (h : RgNew wc.heap.size wa (.slice A n c) l) (ha : Below w.heap.size w wa) (hc : w.heap.size + 1 < wc.heap.size) (h5 : Below wa.heap.size wa w5) (hM : M = l) :
    RgNew w.heap.size ((w5.setCell ⟨w.heap.size + 1, 0, none⟩ y0).setCell ⟨w.heap.size + 1, 1, none⟩ y1) (.slice A n c) M := by
  subst hM
  have h2 := h.below h5
  refine (h2.mono (show w.heap.size ≤ wc.heap.size by omega)).keep fun g' _ _ hg' => ?_
  have h3 := (own_lt h2 hg').1
  exact (heap_setCell_other _ ⟨w.heap.size + 1, 1, none⟩ g' _ (by show g' ≠ w.heap.size + 1; omega)).trans (heap_setCell_other _ ⟨w.heap.size + 1, 0, none⟩ g' _ (by show g' ≠ w.heap.size + 1; omega))
theorem held2 {w w' : World} {b : Nat} {x0 x1 : Value} (hb : Below w.heap.size w w') (h : w.cell? ⟨b, 0, none⟩ = some x0 ∧ w.cell? ⟨b, 1, none⟩ = some x1) : w'.cell? ⟨b, 0, none⟩ = some x0 ∧ w'.cell? ⟨b, 1, none⟩ = some x1 := ⟨cellb hb h.1, cellb hb h.2⟩
set_option maxRecDepth 100000 in
set_option maxHeartbeats 4000000 in
theorem set_c (s t x : Int) (v : Value) (l : List (Int × Int)) (hl : l.length ≤ 100000) (w : World) (f : RgOut w v l) :
    Calls Try.prog 60 #[.agg #[.int .i64 s, v], .int .i64 t, .int .i64 x] w fun e w' => ∃ A c, e = .returned (.tuple #[.agg #[.int .i64 s, .slice A l.length c], .int .i64 (setE s l t x)]) ∧ RgNew w.heap.size w' (.slice A l.length c) (setL s l t x) ∧ Below w.heap.size w w' := by
  obtain ⟨A, c, rfl, hc, -⟩ := id f
  obtain ⟨⟨k0, k1⟩, ⟨k2, k3⟩, kb⟩ := two_cells w (.int .i64 s) (.slice A l.length c) (.int .i64 0) (.slice none 0 0) 53 53
  obtain ⟨⟨g0, g1⟩, g2, g3⟩ : (((w.alloc (.cells #[.int .i64 s, .slice A l.length c] 53)).alloc (.cells #[.int .i64 0, .slice none 0 0] 53)).frozen? ⟨w.heap.size, 0, none⟩ = false ∧ ((w.alloc (.cells #[.int .i64 s, .slice A l.length c] 53)).alloc (.cells #[.int .i64 0, .slice none 0 0] 53)).frozen? ⟨w.heap.size, 1, none⟩ = false) ∧ ((w.alloc (.cells #[.int .i64 s, .slice A l.length c] 53)).alloc (.cells #[.int .i64 0, .slice none 0 0] 53)).frozen? ⟨w.heap.size + 1, 0, none⟩ = false ∧ ((w.alloc (.cells #[.int .i64 s, .slice A l.length c] 53)).alloc (.cells #[.int .i64 0, .slice none 0 0] 53)).frozen? ⟨w.heap.size + 1, 1, none⟩ = false := by
    obtain ⟨-, -, h2, h3⟩ := two_new (w.alloc (.cells #[.int .i64 s, .slice A l.length c] 53)) (.int .i64 0) (.slice none 0 0) 53
    obtain ⟨-, -, h4, h5⟩ := two_new w (.int .i64 s) (.slice A l.length c) 53
    have hs : (w.alloc (.cells #[.int .i64 s, .slice A l.length c] 53)).heap.size = w.heap.size + 1 := by simp
    have hb := alloc_below (w.alloc (.cells #[.int .i64 s, .slice A l.length c] 53)) (.cells #[.int .i64 0, .slice none 0 0] 53)
    have h6 := (hb.frozen (p := ⟨w.heap.size, 0, none⟩) (by rw [hs]; exact Nat.lt_succ_self _)).trans h4
    have h7 := (hb.frozen (p := ⟨w.heap.size, 1, none⟩) (by rw [hs]; exact Nat.lt_succ_self _)).trans h5
    rw [hs] at h2 h3
    exact ⟨⟨h6, h7⟩, h2, h3⟩
  obtain ⟨wc, hwc⟩ : ∃ wc, ((w.alloc (.cells #[.int .i64 s, .slice A l.length c] 53)).alloc (.cells #[.int .i64 0, .slice none 0 0] 53)) = wc := ⟨_, rfl⟩
  have zc : wc.heap.size = w.heap.size + 2 := by rw [← hwc]; simp
  rw [hwc] at k0 k1 k2 k3 kb g0 g1 g2 g3
  have CL := Lib.hid (clone_c (.slice A l.length c) l hl wc (f.below kb))
  have KB := Lib.hid kb
  have lt2 : w.heap.size + 1 < wc.heap.size := by omega
  have lt1 : w.heap.size < wc.heap.size := by omega
  obtain ⟨n, hn⟩ : ∃ n, l.length = n := ⟨_, rfl⟩
  have SL := setL_length s l t x
  have AL := fun (W : World) (u : Value) (g : RgOut W u l) => align_c s t u l (by omega) W g
  rw [hn] at CL hc k1 SL hwc ⊢
  have HWC := Lib.hid hwc
  have HN := Lib.hid hn
  have HSL := Lib.hid SL
  have AL := Lib.hid AL
  have CV := Lib.hid (isValue_c x)
  have hl2 : n ≤ 100000 := by omega
  clear hwc kb zc f hn SL hl
  go_enter Try.func60, Try.ntmps60
  go_wp2_with fail
  rw [HWC.out]
  refine CL.out.mono ?_; rintro _ w2 ⟨A2, c2, rfl, hN, hb2⟩
  have k0 := cellb hb2 k0; have k1 := cellb hb2 k1; have k2 := cellb hb2 k2; have k3 := cellb hb2 k3
  have g0 := (hb2.frozen (p := ⟨w.heap.size, 0, none⟩) lt1).trans g0
  have g1 := (hb2.frozen (p := ⟨w.heap.size, 1, none⟩) lt1).trans g1
  have g2 := (hb2.frozen (p := ⟨w.heap.size + 1, 0, none⟩) lt2).trans g2
  have g3 := (hb2.frozen (p := ⟨w.heap.size + 1, 1, none⟩) lt2).trans g3
  have q0 : (w2.setCell ⟨w.heap.size, 1, none⟩ (.slice A2 n c2)).cell? ⟨w.heap.size, 0, none⟩ = some (.int .i64 s) := by go_simp
  have q1 : (w2.setCell ⟨w.heap.size, 1, none⟩ (.slice A2 n c2)).cell? ⟨w.heap.size, 1, none⟩ = some (.slice A2 n c2) := by go_simp
  have q2 : (w2.setCell ⟨w.heap.size, 1, none⟩ (.slice A2 n c2)).cell? ⟨w.heap.size + 1, 0, none⟩ = some (.int .i64 0) := by go_simp
  have q3 : (w2.setCell ⟨w.heap.size, 1, none⟩ (.slice A2 n c2)).cell? ⟨w.heap.size + 1, 1, none⟩ = some (.slice none 0 0) := by go_simp
  have q4 : (w2.setCell ⟨w.heap.size, 1, none⟩ (.slice A2 n c2)).frozen? ⟨w.heap.size + 1, 0, none⟩ = false := by go_simp
  have q5 : (w2.setCell ⟨w.heap.size, 1, none⟩ (.slice A2 n c2)).frozen? ⟨w.heap.size + 1, 1, none⟩ = false := by go_simp
  obtain ⟨wa, hwa⟩ : ∃ wa, w2.setCell ⟨w.heap.size, 1, none⟩ (.slice A2 n c2) = wa := ⟨_, rfl⟩
  rw [hwa] at q0 q1 q2 q3 q4 q5
  have HNA : RgNew wc.heap.size wa (.slice A2 n c2) l := hN.keep (fun g h1 h2 _ => by rw [← hwa]; exact heap_setCell_other w2 ⟨w.heap.size, 1, none⟩ g _ (by show g ≠ w.heap.size; omega))
  have KA := Lib.hid (show Below w.heap.size w wa from by rw [← hwa]; exact (bnext KB.out hb2).setCell (Nat.le_refl _) _)
  have za : w.heap.size + 1 < wa.heap.size := by rw [← hwa]; have := hb2.size; simp; omega
  have HWA := Lib.hid hwa
  have OUTA := Lib.hid (AL.out wa (.slice A2 n c2) HNA.out)
  have OWN := Lib.hid (fun g h => own_lt HNA (g := g) h)
  have HNB := Lib.hid HNA
  have LTC := Lib.hid lt2
  clear hwa hN hb2 HNA lt1 lt2 CL HWC
  go_wp2_with fail
  rw [HWA.out]
  clear k0 k1 k2 k3 g0 g1 g2 g3
  by_cases hyes : rRight s l = true ∧ rTm t = true
  · obtain ⟨mm1, mm2, mm3, mm4⟩ := rMay_iff.1 (rRight_iff.1 hyes.1).1
    obtain ⟨t0, t1⟩ := rTm_iff.1 hyes.2
    obtain ⟨a0, a1, -, -, -⟩ := rAt_facts (s := s) mm1 t0
    have OUTA := OUTA.out
    rw [if_pos hyes, if_pos hyes] at OUTA
    by_cases hv : x ≠ -9223372036854775808
    · obtain ⟨e1, e2⟩ := set_yes hyes hv
      have CV1 := CV.out
      rw [show rV x = true from decide_eq_true hv] at CV1
      obtain ⟨p0, p1, p2⟩ := rPl_facts (s := s) (t := rAt s t) (n := l.length) mm1 a0 (by omega)
      have PL := fun (A : Option Addr) (c : Nat) => place_c s (rAt s t) A l.length c ⟨mm1, mm2⟩ ⟨a0, by omega⟩ ⟨by omega, by omega⟩
      obtain ⟨u, hu⟩ : ∃ u, rAt s t = u := ⟨_, rfl⟩
      rw [hu] at OUTA PL e1 p0 p1 p2
      have hpk : rPl s l.length u = ((rPl s l.length u).toNat : Int) := by omega
      obtain ⟨k, hk⟩ : ∃ k, (rPl s l.length u).toNat = k := ⟨_, rfl⟩
      rw [hk] at hpk p2 e1
      rw [hpk] at PL
      rw [HN.out] at PL p2
      have HE1 := Lib.hid e1
      have HE2 := Lib.hid e2
      have HOUT := Lib.hid OUTA
      have CV2 := Lib.hid CV1
      have PL := Lib.hid PL
      obtain ⟨g, hg⟩ : ∃ g, A2 = some ⟨g, 0, none⟩ ∧ wc.heap.size ≤ g ∧ g < wa.heap.size := by
        obtain ⟨A', c', h1, _, h2⟩ := own_form HNB.out
        injection h1 with h1
        subst h1
        obtain ⟨g, h3, h4, h5⟩ := h2 (by rw [HN.out]; omega)
        exact ⟨g, h3, h4, h5⟩
      obtain ⟨rfl, gg1, gg2⟩ := hg
      have LTG := Lib.hid gg1
      have RC := Lib.hid (show ∃ d0 d1, (wa.cell? ⟨g, k * 2, none⟩ = some d0 ∧ wa.cell? ⟨g, k * 2 + 1, none⟩ = some d1) ∧ wa.frozen? ⟨g, k * 2, none⟩ = false ∧ wa.frozen? ⟨g, k * 2 + 1, none⟩ = false from by
        obtain ⟨r0, r1⟩ := rgC_at l k _ (List.getElem?_eq_getElem (show k < l.length by rw [HN.out]; exact p2))
        have ho : wa.ownsRow wc.heap.size 50 2 (.slice (some ⟨g, 0, none⟩) l.length c2) l.length (rgC l) := by rw [HN.out]; have := HNB.out; unfold RgNew at this; rw [HN.out] at this; exact this
        exact ⟨_, _, ⟨(own_cell ho r0).1, (own_cell ho r1).1⟩, (own_cell ho r0).2, (own_cell ho r1).2⟩)
      clear hyes mm1 mm2 mm3 mm4 t0 t1 a0 a1 hu hpk hk e1 e2 OUTA CV1 CV AL p0 p1 hv
      refine HOUT.out.mono ?_; rintro _ w3 ⟨rfl, hb3⟩
      have q0 := cellb hb3 q0; have q1 := cellb hb3 q1; have q2 := cellb hb3 q2; have q3 := cellb hb3 q3
      have q4 := (hb3.frozen (p := ⟨w.heap.size + 1, 0, none⟩) za).trans q4
      have q5 := (hb3.frozen (p := ⟨w.heap.size + 1, 1, none⟩) za).trans q5
      have K3 := Lib.hid (show Below wa.heap.size wa w3 from hb3)
      have z3 := Nat.lt_of_lt_of_le za hb3.size
      clear hb3
      go_wp2_with fail
      refine (CV2.out _).mono ?_; rintro _ w4 ⟨rfl, hb4⟩
      have q0 := cellb hb4 q0; have q1 := cellb hb4 q1; have q2 := cellb hb4 q2; have q3 := cellb hb4 q3
      have q4 := (hb4.frozen (p := ⟨w.heap.size + 1, 0, none⟩) z3).trans q4
      have q5 := (hb4.frozen (p := ⟨w.heap.size + 1, 1, none⟩) z3).trans q5
      have K4 := Lib.hid (bnext K3.out hb4)
      have z4 := Nat.lt_of_lt_of_le z3 hb4.size
      clear hb4 K3 z3
      go_wp2_with fail
      have GN := Lib.hid (show w.heap.size + 1 < g ∧ w.heap.size < g from by have := LTG.out; have := LTC.out; omega)
      have B4 := Lib.hid (show w4.cell? ⟨w.heap.size, 0, none⟩ = some (.int .i64 s) ∧ w4.cell? ⟨w.heap.size, 1, none⟩ = some (.slice (some ⟨g, 0, none⟩) n c2) from ⟨q0, q1⟩)
      have R4 := Lib.hid (show (w4.cell? ⟨w.heap.size + 1, 0, none⟩ = some (.int .i64 0) ∧ w4.cell? ⟨w.heap.size + 1, 1, none⟩ = some (.slice none 0 0)) ∧ w4.frozen? ⟨w.heap.size + 1, 0, none⟩ = false ∧ w4.frozen? ⟨w.heap.size + 1, 1, none⟩ = false from ⟨⟨q2, q3⟩, q4, q5⟩)
      have Z4 := Lib.hid z4
      have GG2 := Lib.hid gg2
      have n1 : w.heap.size ≠ g := by have := GN.out; omega
      have n2 : g ≠ w.heap.size := by have := GN.out; omega
      have n3 : w.heap.size + 1 ≠ g := by have := GN.out; omega
      have n4 : g ≠ w.heap.size + 1 := by have := GN.out; omega
      clear q2 q3 q4 q5 z4 gg2 za
      go_region_held3 (fun y' => y'.cell? ⟨w.heap.size, 0, none⟩ = some (.int .i64 s) ∧ y'.cell? ⟨w.heap.size, 1, none⟩ = some (.slice (some ⟨g, 0, none⟩) n c2))
        (first | go_keep | assumption | (refine ⟨?_, ?_⟩ <;> go_simp))
        (first | (go_at_call 64; with_reducible refine (PL.out _ _ _).mono ?_; rintro e w5 ⟨rfl, hb5⟩; have T5 : Below w4.heap.size w4 w5 := bnext (by first | exact (Below.refl w4.heap.size w4) | exact (Below.refl w4.heap.size w4).drew) hb5; have q5 : w5.cell? ⟨w.heap.size, 0, none⟩ = some (.int .i64 s) ∧ w5.cell? ⟨w.heap.size, 1, none⟩ = some (.slice (some ⟨g, 0, none⟩) n c2) := held2 T5 B4.out; have KK := Lib.hid (bnext K4.out T5); obtain ⟨r0, r1, ⟨rr0, rr1⟩, rf0, rf1⟩ := RC.out; have rr0 := cellb KK.out rr0; have rr1 := cellb KK.out rr1; have rf0 := (KK.out.frozen (p := ⟨g, k * 2, none⟩) GG2.out).trans rf0; have rf1 := (KK.out.frozen (p := ⟨g, k * 2 + 1, none⟩) GG2.out).trans rf1; obtain ⟨⟨d0, d1⟩, d2, d3⟩ := R4.out; have d0 := cellb T5 d0; have d1 := cellb T5 d1; have d2 := (T5.frozen (p := ⟨w.heap.size + 1, 0, none⟩) Z4.out).trans d2; have d3 := (T5.frozen (p := ⟨w.heap.size + 1, 1, none⟩) Z4.out).trans d3))
      all_goals (try go_wp2_with fail)
      all_goals exact bodyPost_ret (v := .tuple #[.agg #[.int .i64 s, .slice (some ⟨g, 0, none⟩) n c2], .int .i64 0]) (by simp [results, Try.results60, go_sem, n1, n2, n3, n4, d0, d1, d2, d3]) rfl ⟨some ⟨g, 0, none⟩, c2, by rw [HE2.out], set_fin HNB.out KA.out LTC.out KK.out HN.out HE1.out (Nat.lt_of_lt_of_le p2 (Nat.le_refl _)) GN.out.1, set_low (bnext KA.out KK.out) (Nat.le_of_lt GN.out.2) (Nat.le_succ _)⟩
    · have HE := Lib.hid (set_no (s := s) (l := l) (t := t) (v := x) (fun h => hv h.2))
      obtain rfl : x = -9223372036854775808 := Decidable.not_not.1 hv
      have CV1 := CV.out
      rw [show rV (-9223372036854775808) = false from rfl] at CV1
      have CV2 := Lib.hid CV1
      obtain ⟨u, hu⟩ : ∃ u, rAt s t = u := ⟨_, rfl⟩
      rw [hu] at OUTA
      have HOUT := Lib.hid OUTA
      clear hyes mm1 mm2 mm3 mm4 t0 t1 a0 a1 hu OUTA CV1 CV AL hv
      refine HOUT.out.mono ?_; rintro _ w3 ⟨rfl, hb3⟩
      have q0 := cellb hb3 q0; have q1 := cellb hb3 q1; have q2 := cellb hb3 q2; have q3 := cellb hb3 q3
      have q4 := (hb3.frozen (p := ⟨w.heap.size + 1, 0, none⟩) za).trans q4
      have q5 := (hb3.frozen (p := ⟨w.heap.size + 1, 1, none⟩) za).trans q5
      have K3 := Lib.hid (show Below wa.heap.size wa w3 from hb3)
      have z3 := Nat.lt_of_lt_of_le za hb3.size
      clear hb3
      go_wp2_with fail
      refine (CV2.out _).mono ?_; rintro _ w4 ⟨rfl, hb4⟩
      have q0 := cellb hb4 q0; have q1 := cellb hb4 q1; have q2 := cellb hb4 q2; have q3 := cellb hb4 q3
      have q4 := (hb4.frozen (p := ⟨w.heap.size + 1, 0, none⟩) z3).trans q4
      have q5 := (hb4.frozen (p := ⟨w.heap.size + 1, 1, none⟩) z3).trans q5
      have K4 := Lib.hid (bnext K3.out hb4)
      clear hb4 K3 z3
      go_wp2_with fail
      exact bodyPost_ret (v := .tuple #[.agg #[.int .i64 s, .slice A2 n c2], .int .i64 1]) (by simp [results, Try.results60, go_sem, q2, q3, q4, q5]) rfl ⟨A2, c2, by rw [HE.out.2], set_off HNB.out KA.out LTC.out K4.out HE.out.1, below_put2 (bnext KA.out K4.out) (Nat.le_succ _) _ _⟩
  · have HE := Lib.hid (set_no (s := s) (l := l) (t := t) (v := x) (fun h => hyes h.1))
    have OUTA := OUTA.out
    rw [if_neg hyes, if_neg hyes] at OUTA
    have HOUT := Lib.hid OUTA
    clear hyes OUTA CV AL
    refine HOUT.out.mono ?_; rintro _ w3 ⟨rfl, hb3⟩
    have q0 := cellb hb3 q0; have q1 := cellb hb3 q1; have q2 := cellb hb3 q2; have q3 := cellb hb3 q3
    have q4 := (hb3.frozen (p := ⟨w.heap.size + 1, 0, none⟩) za).trans q4
    have q5 := (hb3.frozen (p := ⟨w.heap.size + 1, 1, none⟩) za).trans q5
    have K4 := Lib.hid (show Below wa.heap.size wa w3 from hb3)
    clear hb3
    go_wp2_with fail
    exact bodyPost_ret (v := .tuple #[.agg #[.int .i64 s, .slice A2 n c2], .int .i64 1]) (by simp [results, Try.results60, go_sem, q2, q3, q4, q5]) rfl ⟨A2, c2, by rw [HE.out.2], set_off HNB.out KA.out LTC.out K4.out HE.out.1, below_put2 (bnext KA.out K4.out) (Nat.le_succ _) _ _⟩
end IP
end Go.Proofs.Ytkgajlklhcmmcaa
