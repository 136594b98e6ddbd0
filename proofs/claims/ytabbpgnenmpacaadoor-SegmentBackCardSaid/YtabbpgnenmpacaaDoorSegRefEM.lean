/-
  Contracts of the document's own functions of layer 8 (isobarref08): Right.
-/
import Derived.Test.YtabbpgnenmpacaaDoorSegRefCM
import Derived.Test.YtabbpgnenmpacaaDoorBoxKitM
set_option linter.unusedSimpArgs false
set_option linter.unusedVariables false
namespace Go.Proofs.YtabbpgnenmpacaaDoor.SR
open Go.RowKit
open CR (below_next own_ge u8_wrap)
theorem strB_size (l : List Nat) : (strB l).size = l.length := by
  show ((l.map UInt8.ofNat).toArray).size = l.length
  simp
set_option maxRecDepth 100000 in
set_option maxHeartbeats 4000000 in
theorem right_one (p : List Nat) (m f g t nw v : Int) (l : List (Int × Int)) (A : Option Addr) (n c : Nat) (hp : Bytes p) (hl : l.length ≤ 100000) (w : World) (hro : RgOut w (.slice A n c) l) :
    Calls Tryd.prog 13 #[.agg #[.int .i64 1, .string (strB p), .int .i64 m, .int .i64 f, .slice A n c, .int .i64 g, .int .i64 t, .int .i64 nw, .int .i64 v]] w fun e w' => e = .returned (.bool (rRight ⟨1, p, m, f, l, g, t, nw, v⟩)) ∧ Below w.heap.size w w' := by
  obtain ⟨d, hd⟩ : ∃ d, rRight ⟨1, p, m, f, l, g, t, nw, v⟩ = d := ⟨_, rfl⟩
  rw [hd]
  have hsz := strB_size p
  obtain ⟨s, hs⟩ : ∃ s, strB p = s := ⟨_, rfl⟩
  rw [hs] at hsz ⊢
  have HV := Lib.hid (dvar2 w)
  have SM0 := fun (W : World) (hB : Below w.heap.size w W) => same_c (.agg #[.int .i64 1, .string s, .int .i64 m, .int .i64 f, .slice A n c, .int .i64 0, .int .i64 0, .int .i64 0, .int .i64 0]) (.agg #[.int .i64 1, .string s, .int .i64 m, .int .i64 f, .slice A n c, .int .i64 g, .int .i64 t, .int .i64 nw, .int .i64 v]) (hdR p m f l) ⟨1, p, m, f, l, g, t, nw, v⟩ hp hp hl hl W (by rw [← hs]; exact ⟨_, rfl, hro.below hB⟩) (by rw [← hs]; exact ⟨_, rfl, hro.below hB⟩)
  by_cases hsm : hdR p m f l = (⟨1, p, m, f, l, g, t, nw, v⟩ : PR)
  · rw [decide_eq_true hsm] at SM0
    have SM := Lib.hid SM0
    have hdd : rRight ⟨1, p, m, f, l, g, t, nw, v⟩ = hdOk p m f l := by rw [← hsm]; exact right_hd _ _ _ _
    rw [hd] at hdd
    have HDF := Lib.hid (show ¬ ((1 ≤ (s.size : Int) ∧ (s.size : Int) ≤ 263) ∧ (1 ≤ m ∧ m ≤ 5) ∧ (0 ≤ f ∧ f ≤ 1000000)) → d = false from fun h => by
      rw [hdd, Bool.eq_false_iff]
      intro h2
      obtain ⟨e1, e2, e3, _⟩ := hd_bounds h2
      exact h ⟨by omega, e2, e3⟩)
    have HDT := Lib.hid (show ((1 ≤ (s.size : Int) ∧ (s.size : Int) ≤ 263) ∧ (1 ≤ m ∧ m ≤ 5) ∧ (0 ≤ f ∧ f ≤ 1000000)) → d = rgsOk l from fun h => by
      rw [hdd]
      unfold hdOk
      rw [decide_eq_true (show 1 ≤ p.length ∧ p.length ≤ 263 by omega), decide_eq_true h.2.1, decide_eq_true h.2.2]
      rfl)
    have RG := Lib.hid (fun (W : World) (hB : Below w.heap.size w W) => rungs_c (.slice A n c) l hl W (hro.below hB))
    clear SM0 hdd hsm hd hs hsz hl hp hro
    go_enter Tryd.func13, Tryd.ntmps13
    go_wp2_with (refine wpList_put rfl 24 _ _ rfl (w.heap.size + 1) [.int .i64 1, .string ByteArray.empty, .int .i64 0, .int .i64 0, .slice none 0 0, .int .i64 0, .int .i64 0, .int .i64 0, .int .i64 0] rfl rfl (HV.out [.int .i64 1, .string s, .int .i64 m, .int .i64 f, .slice A n c, .int .i64 g, .int .i64 t, .int .i64 nw, .int .i64 v] [.int .i64 0, .string ByteArray.empty, .int .i64 0, .int .i64 0, .slice none 0 0, .int .i64 0, .int .i64 0, .int .i64 0, .int .i64 0] _) (by kernel_rfl) (by simp [Value.oneCell']) ?_; intro w2 hp2; obtain ⟨hr, hx, hv, hb, hs⟩ := box_put (C1 := [.int .i64 1, .string s, .int .i64 m, .int .i64 f, .slice A n c, .int .i64 g, .int .i64 t, .int .i64 nw, .int .i64 v]) (C2 := [.int .i64 0, .string ByteArray.empty, .int .i64 0, .int .i64 0, .slice none 0 0, .int .i64 0, .int .i64 0, .int .i64 0, .int .i64 0]) hp2; have HX := Lib.hid hx; have HR := Lib.hid hr; have HB := Lib.hid hb; obtain ⟨r0, r1, r2, r3, r4, r5, r6, r7, r8⟩ := hr.nine; obtain ⟨x0, x1, x2, x3, x4, x5, x6, x7, x8⟩ := hx.nine; have z1 := hv.f 1 (by simp); have z2 := hv.f 2 (by simp); have z3 := hv.f 3 (by simp); have z4 := hv.f 4 (by simp); have z5 := hv.f 5 (by simp); have z6 := hv.f 6 (by simp); have z7 := hv.f 7 (by simp); have z8 := hv.f 8 (by simp); clear hp2 hr hx hv hb)
    go_region
    refine gen_last (F := fun W => Holds W w.heap.size [.int .i64 1, .string s, .int .i64 m, .int .i64 f, .slice A n c, .int .i64 g, .int .i64 t, .int .i64 nw, .int .i64 v] ∧ Holds W (w.heap.size + 1) [.int .i64 1, .string s, .int .i64 m, .int .i64 f, .slice A n c, .int .i64 0, .int .i64 0, .int .i64 0, .int .i64 0] ∧ Below w.heap.size w W) ⟨((((HR.out.setOther (by omega) _).setOther (by omega) _).setOther (by omega) _).setOther (by omega) _).drew, ((((HX.out.set (by simp) _).set (by simp) _).set (by simp) _).set (by simp) _).drew, ((((HB.out.setCell (p := ⟨w.heap.size + 1, 1, none⟩) (by show w.heap.size ≤ w.heap.size + 1; omega) _).setCell (p := ⟨w.heap.size + 1, 2, none⟩) (by show w.heap.size ≤ w.heap.size + 1; omega) _).setCell (p := ⟨w.heap.size + 1, 3, none⟩) (by show w.heap.size ≤ w.heap.size + 1; omega) _).setCell (p := ⟨w.heap.size + 1, 4, none⟩) (by show w.heap.size ≤ w.heap.size + 1; omega) _).drew⟩ ?_
    intro w3 ⟨hr3, hx3, hb3⟩
    obtain ⟨a0, a1, a2, a3, a4, a5, a6, a7, a8⟩ := hr3.nine
    obtain ⟨b0, b1, b2, b3, b4, b5, b6, b7, b8⟩ := hx3.nine
    have HR3 := Lib.hid hr3; have B3 := Lib.hid hb3
    clear hr3 hx3 hb3 r0 r1 r2 r3 r4 r5 r6 r7 r8 x0 x1 x2 x3 x4 x5 x6 x7 x8 z1 z2 z3 z4 z5 z6 z7 z8 hs HX HR HB
    go_wp2_with fail
    refine (SM.out w3 B3.out).mono ?_; rintro _ w4 ⟨rfl, hb4⟩
    have hr4 := HR3.out.below hb4
    obtain ⟨d0, d1, d2, d3, d4, d5, d6, d7, d8⟩ := hr4.nine
    have B4 := Lib.hid (below_next B3.out hb4)
    clear a0 a1 a2 a3 a4 a5 a6 a7 a8 b0 b1 b2 b3 b4 b5 b6 b7 b8 hr4 hb4
    go_wp2_with fail
    · refine (RG.out w4 B4.out).mono ?_; rintro _ w5 ⟨rfl, rfl⟩
      go_wp2
      go_ret
      exact ⟨congrArg (fun z => Ending.returned (.bool z)) (HDT.out (by omega)).symm, B4.out⟩
    all_goals (go_ret; exact ⟨congrArg (fun z => Ending.returned (.bool z)) (HDF.out (by omega)).symm, B4.out⟩)
  · rw [decide_eq_false hsm] at SM0
    have SM := Lib.hid SM0
    have e : d = false := by
      rw [← hd, Bool.eq_false_iff]
      intro h
      have h9 : decide ((⟨1, p, m, f, l, g, t, nw, v⟩ : PR) = hdR p m f l) = true := by
        have h8 := h
        unfold rRight at h8
        simp only [if_true] at h8
        exact (Bool.and_eq_true_iff.1 h8).1
      exact hsm (of_decide_eq_true h9).symm
    subst e
    clear SM0 hsm hd hs hsz hl hp hro
    go_enter Tryd.func13, Tryd.ntmps13
    go_wp2_with (refine wpList_put rfl 24 _ _ rfl (w.heap.size + 1) [.int .i64 1, .string ByteArray.empty, .int .i64 0, .int .i64 0, .slice none 0 0, .int .i64 0, .int .i64 0, .int .i64 0, .int .i64 0] rfl rfl (HV.out [.int .i64 1, .string s, .int .i64 m, .int .i64 f, .slice A n c, .int .i64 g, .int .i64 t, .int .i64 nw, .int .i64 v] [.int .i64 0, .string ByteArray.empty, .int .i64 0, .int .i64 0, .slice none 0 0, .int .i64 0, .int .i64 0, .int .i64 0, .int .i64 0] _) (by kernel_rfl) (by simp [Value.oneCell']) ?_; intro w2 hp2; obtain ⟨hr, hx, hv, hb, hs⟩ := box_put (C1 := [.int .i64 1, .string s, .int .i64 m, .int .i64 f, .slice A n c, .int .i64 g, .int .i64 t, .int .i64 nw, .int .i64 v]) (C2 := [.int .i64 0, .string ByteArray.empty, .int .i64 0, .int .i64 0, .slice none 0 0, .int .i64 0, .int .i64 0, .int .i64 0, .int .i64 0]) hp2; have HX := Lib.hid hx; have HR := Lib.hid hr; have HB := Lib.hid hb; obtain ⟨r0, r1, r2, r3, r4, r5, r6, r7, r8⟩ := hr.nine; obtain ⟨x0, x1, x2, x3, x4, x5, x6, x7, x8⟩ := hx.nine; have z1 := hv.f 1 (by simp); have z2 := hv.f 2 (by simp); have z3 := hv.f 3 (by simp); have z4 := hv.f 4 (by simp); have z5 := hv.f 5 (by simp); have z6 := hv.f 6 (by simp); have z7 := hv.f 7 (by simp); have z8 := hv.f 8 (by simp); clear hp2 hr hx hv hb)
    go_region
    refine gen_last (F := fun W => Holds W w.heap.size [.int .i64 1, .string s, .int .i64 m, .int .i64 f, .slice A n c, .int .i64 g, .int .i64 t, .int .i64 nw, .int .i64 v] ∧ Holds W (w.heap.size + 1) [.int .i64 1, .string s, .int .i64 m, .int .i64 f, .slice A n c, .int .i64 0, .int .i64 0, .int .i64 0, .int .i64 0] ∧ Below w.heap.size w W) ⟨((((HR.out.setOther (by omega) _).setOther (by omega) _).setOther (by omega) _).setOther (by omega) _).drew, ((((HX.out.set (by simp) _).set (by simp) _).set (by simp) _).set (by simp) _).drew, ((((HB.out.setCell (p := ⟨w.heap.size + 1, 1, none⟩) (by show w.heap.size ≤ w.heap.size + 1; omega) _).setCell (p := ⟨w.heap.size + 1, 2, none⟩) (by show w.heap.size ≤ w.heap.size + 1; omega) _).setCell (p := ⟨w.heap.size + 1, 3, none⟩) (by show w.heap.size ≤ w.heap.size + 1; omega) _).setCell (p := ⟨w.heap.size + 1, 4, none⟩) (by show w.heap.size ≤ w.heap.size + 1; omega) _).drew⟩ ?_
    intro w3 ⟨hr3, hx3, hb3⟩
    obtain ⟨a0, a1, a2, a3, a4, a5, a6, a7, a8⟩ := hr3.nine
    obtain ⟨b0, b1, b2, b3, b4, b5, b6, b7, b8⟩ := hx3.nine
    have HR3 := Lib.hid hr3; have B3 := Lib.hid hb3
    clear hr3 hx3 hb3 r0 r1 r2 r3 r4 r5 r6 r7 r8 x0 x1 x2 x3 x4 x5 x6 x7 x8 z1 z2 z3 z4 z5 z6 z7 z8 hs HX HR HB
    go_wp2_with fail
    refine (SM.out w3 B3.out).mono ?_; rintro _ w4 ⟨rfl, hb4⟩
    have hr4 := HR3.out.below hb4
    obtain ⟨d0, d1, d2, d3, d4, d5, d6, d7, d8⟩ := hr4.nine
    have B4 := Lib.hid (below_next B3.out hb4)
    clear a0 a1 a2 a3 a4 a5 a6 a7 a8 b0 b1 b2 b3 b4 b5 b6 b7 b8 hr4 hb4
    go_wp2
    go_ret
    exact ⟨rfl, B4.out⟩
set_option maxRecDepth 100000 in
set_option maxHeartbeats 4000000 in
theorem right_two (p : List Nat) (m f g t nw v : Int) (l : List (Int × Int)) (A : Option Addr) (n c : Nat) (hp : Bytes p) (hl : l.length ≤ 100000) (w : World) (hro : RgOut w (.slice A n c) l) :
    Calls Tryd.prog 13 #[.agg #[.int .i64 2, .string (strB p), .int .i64 m, .int .i64 f, .slice A n c, .int .i64 g, .int .i64 t, .int .i64 nw, .int .i64 v]] w fun e w' => e = .returned (.bool (rRight ⟨2, p, m, f, l, g, t, nw, v⟩)) ∧ Below w.heap.size w w' := by
  obtain ⟨d, hd⟩ : ∃ d, rRight ⟨2, p, m, f, l, g, t, nw, v⟩ = d := ⟨_, rfl⟩
  rw [hd]
  have hsz := strB_size p
  obtain ⟨s, hs⟩ : ∃ s, strB p = s := ⟨_, rfl⟩
  rw [hs] at hsz ⊢
  have HV := Lib.hid (dvar2 w)
  have SM0 := fun (W : World) (hB : Below w.heap.size w W) => same_c (.agg #[.int .i64 2, .string ByteArray.empty, .int .i64 0, .int .i64 0, .slice none 0 0, .int .i64 0, .int .i64 t, .int .i64 nw, .int .i64 v]) (.agg #[.int .i64 2, .string s, .int .i64 m, .int .i64 f, .slice A n c, .int .i64 g, .int .i64 t, .int .i64 nw, .int .i64 v]) (ptR t nw v) ⟨2, p, m, f, l, g, t, nw, v⟩ (fun _ h => by cases h) hp (Nat.zero_le _) hl W ⟨_, rfl, RgOut.nil _⟩ (by rw [← hs]; exact ⟨_, rfl, hro.below hB⟩)
  by_cases hsm : ptR t nw v = (⟨2, p, m, f, l, g, t, nw, v⟩ : PR)
  · rw [decide_eq_true hsm] at SM0
    have SM := Lib.hid SM0
    have hdd : rRight ⟨2, p, m, f, l, g, t, nw, v⟩ = ptOk t nw v := by rw [← hsm]; exact right_pt _ _ _
    rw [hd] at hdd
    have TM := Lib.hid (fun (x : Int) (W : World) => time_c x W)
    unfold ptOk at hdd
    have HD := Lib.hid hdd
    clear SM0 hdd hsm hd hs hsz hl hp hro
    go_enter Tryd.func13, Tryd.ntmps13
    go_wp2_with (refine wpList_put rfl 24 _ _ rfl (w.heap.size + 1) [.int .i64 2, .string ByteArray.empty, .int .i64 0, .int .i64 0, .slice none 0 0, .int .i64 0, .int .i64 0, .int .i64 0, .int .i64 0] rfl rfl (HV.out [.int .i64 2, .string s, .int .i64 m, .int .i64 f, .slice A n c, .int .i64 g, .int .i64 t, .int .i64 nw, .int .i64 v] [.int .i64 0, .string ByteArray.empty, .int .i64 0, .int .i64 0, .slice none 0 0, .int .i64 0, .int .i64 0, .int .i64 0, .int .i64 0] _) (by kernel_rfl) (by simp [Value.oneCell']) ?_; intro w2 hp2; obtain ⟨hr, hx, hv, hb, hs⟩ := box_put (C1 := [.int .i64 2, .string s, .int .i64 m, .int .i64 f, .slice A n c, .int .i64 g, .int .i64 t, .int .i64 nw, .int .i64 v]) (C2 := [.int .i64 0, .string ByteArray.empty, .int .i64 0, .int .i64 0, .slice none 0 0, .int .i64 0, .int .i64 0, .int .i64 0, .int .i64 0]) hp2; have HX := Lib.hid hx; have HR := Lib.hid hr; have HB := Lib.hid hb; obtain ⟨r0, r1, r2, r3, r4, r5, r6, r7, r8⟩ := hr.nine; obtain ⟨x0, x1, x2, x3, x4, x5, x6, x7, x8⟩ := hx.nine; have z1 := hv.f 1 (by simp); have z2 := hv.f 2 (by simp); have z3 := hv.f 3 (by simp); have z4 := hv.f 4 (by simp); have z5 := hv.f 5 (by simp); have z6 := hv.f 6 (by simp); have z7 := hv.f 7 (by simp); have z8 := hv.f 8 (by simp); clear hp2 hr hx hv hb)
    go_region
    refine gen_last (F := fun W => Holds W w.heap.size [.int .i64 2, .string s, .int .i64 m, .int .i64 f, .slice A n c, .int .i64 g, .int .i64 t, .int .i64 nw, .int .i64 v] ∧ Holds W (w.heap.size + 1) [.int .i64 2, .string ByteArray.empty, .int .i64 0, .int .i64 0, .slice none 0 0, .int .i64 0, .int .i64 t, .int .i64 nw, .int .i64 v] ∧ Below w.heap.size w W) ⟨(((HR.out.setOther (by omega) _).setOther (by omega) _).setOther (by omega) _).drew, (((HX.out.set (by simp) _).set (by simp) _).set (by simp) _).drew, (((HB.out.setCell (p := ⟨w.heap.size + 1, 6, none⟩) (by show w.heap.size ≤ w.heap.size + 1; omega) _).setCell (p := ⟨w.heap.size + 1, 7, none⟩) (by show w.heap.size ≤ w.heap.size + 1; omega) _).setCell (p := ⟨w.heap.size + 1, 8, none⟩) (by show w.heap.size ≤ w.heap.size + 1; omega) _).drew⟩ ?_
    intro w3 ⟨hr3, hx3, hb3⟩
    obtain ⟨a0, a1, a2, a3, a4, a5, a6, a7, a8⟩ := hr3.nine
    obtain ⟨b0, b1, b2, b3, b4, b5, b6, b7, b8⟩ := hx3.nine
    have HR3 := Lib.hid hr3; have B3 := Lib.hid hb3
    clear hr3 hx3 hb3 r0 r1 r2 r3 r4 r5 r6 r7 r8 x0 x1 x2 x3 x4 x5 x6 x7 x8 z1 z2 z3 z4 z5 z6 z7 z8 hs HX HR HB
    go_wp2_with fail
    refine (SM.out w3 B3.out).mono ?_; rintro _ w4 ⟨rfl, hb4⟩
    have hr4 := HR3.out.below hb4
    obtain ⟨d0, d1, d2, d3, d4, d5, d6, d7, d8⟩ := hr4.nine
    have B4 := Lib.hid (below_next B3.out hb4)
    clear a0 a1 a2 a3 a4 a5 a6 a7 a8 b0 b1 b2 b3 b4 b5 b6 b7 b8 hr4 hb4
    go_wp2_with fail
    refine (TM.out t w4).mono ?_; rintro _ w5 ⟨rfl, rfl⟩
    have hdd := HD.out
    rcases Bool.eq_false_or_eq_true (tmOk t) with ht | ht
    · rw [ht] at hdd ⊢
      go_wp2_with fail
      refine (TM.out nw w4).mono ?_; rintro _ w5 ⟨rfl, rfl⟩
      rcases Bool.eq_false_or_eq_true (tmOk nw) with hn | hn
      · rw [hn] at hdd ⊢
        by_cases hv : v = -9223372036854775808
        · have e : d = false := by rw [hdd, decide_eq_false (fun h => h hv)]; rfl
          subst e
          clear hdd
          go_wp2
          go_ret
          exact ⟨by simp [hv], B4.out⟩
        · have e : d = true := by rw [hdd, decide_eq_true hv]; rfl
          subst e
          clear hdd
          go_wp2
          go_ret
          exact ⟨by simp [hv], B4.out⟩
      · rw [hn] at hdd ⊢
        have e : d = false := by rw [hdd]; rfl
        subst e
        clear hdd
        go_wp2
        go_ret
        exact ⟨rfl, B4.out⟩
    · rw [ht] at hdd ⊢
      have e : d = false := by rw [hdd]; rfl
      subst e
      clear hdd
      go_wp2
      go_ret
      exact ⟨rfl, B4.out⟩
  · rw [decide_eq_false hsm] at SM0
    have SM := Lib.hid SM0
    have e : d = false := by
      rw [← hd, Bool.eq_false_iff]
      intro h
      have h9 : decide ((⟨2, p, m, f, l, g, t, nw, v⟩ : PR) = ptR t nw v) = true := by
        have h8 := h
        unfold rRight at h8
        simp only [show ¬ ((2 : Int) = 1) by decide, if_false, if_true] at h8
        exact (Bool.and_eq_true_iff.1 h8).1
      exact hsm (of_decide_eq_true h9).symm
    subst e
    clear SM0 hsm hd hs hsz hl hp hro
    go_enter Tryd.func13, Tryd.ntmps13
    go_wp2_with (refine wpList_put rfl 24 _ _ rfl (w.heap.size + 1) [.int .i64 2, .string ByteArray.empty, .int .i64 0, .int .i64 0, .slice none 0 0, .int .i64 0, .int .i64 0, .int .i64 0, .int .i64 0] rfl rfl (HV.out [.int .i64 2, .string s, .int .i64 m, .int .i64 f, .slice A n c, .int .i64 g, .int .i64 t, .int .i64 nw, .int .i64 v] [.int .i64 0, .string ByteArray.empty, .int .i64 0, .int .i64 0, .slice none 0 0, .int .i64 0, .int .i64 0, .int .i64 0, .int .i64 0] _) (by kernel_rfl) (by simp [Value.oneCell']) ?_; intro w2 hp2; obtain ⟨hr, hx, hv, hb, hs⟩ := box_put (C1 := [.int .i64 2, .string s, .int .i64 m, .int .i64 f, .slice A n c, .int .i64 g, .int .i64 t, .int .i64 nw, .int .i64 v]) (C2 := [.int .i64 0, .string ByteArray.empty, .int .i64 0, .int .i64 0, .slice none 0 0, .int .i64 0, .int .i64 0, .int .i64 0, .int .i64 0]) hp2; have HX := Lib.hid hx; have HR := Lib.hid hr; have HB := Lib.hid hb; obtain ⟨r0, r1, r2, r3, r4, r5, r6, r7, r8⟩ := hr.nine; obtain ⟨x0, x1, x2, x3, x4, x5, x6, x7, x8⟩ := hx.nine; have z1 := hv.f 1 (by simp); have z2 := hv.f 2 (by simp); have z3 := hv.f 3 (by simp); have z4 := hv.f 4 (by simp); have z5 := hv.f 5 (by simp); have z6 := hv.f 6 (by simp); have z7 := hv.f 7 (by simp); have z8 := hv.f 8 (by simp); clear hp2 hr hx hv hb)
    go_region
    refine gen_last (F := fun W => Holds W w.heap.size [.int .i64 2, .string s, .int .i64 m, .int .i64 f, .slice A n c, .int .i64 g, .int .i64 t, .int .i64 nw, .int .i64 v] ∧ Holds W (w.heap.size + 1) [.int .i64 2, .string ByteArray.empty, .int .i64 0, .int .i64 0, .slice none 0 0, .int .i64 0, .int .i64 t, .int .i64 nw, .int .i64 v] ∧ Below w.heap.size w W) ⟨(((HR.out.setOther (by omega) _).setOther (by omega) _).setOther (by omega) _).drew, (((HX.out.set (by simp) _).set (by simp) _).set (by simp) _).drew, (((HB.out.setCell (p := ⟨w.heap.size + 1, 6, none⟩) (by show w.heap.size ≤ w.heap.size + 1; omega) _).setCell (p := ⟨w.heap.size + 1, 7, none⟩) (by show w.heap.size ≤ w.heap.size + 1; omega) _).setCell (p := ⟨w.heap.size + 1, 8, none⟩) (by show w.heap.size ≤ w.heap.size + 1; omega) _).drew⟩ ?_
    intro w3 ⟨hr3, hx3, hb3⟩
    obtain ⟨a0, a1, a2, a3, a4, a5, a6, a7, a8⟩ := hr3.nine
    obtain ⟨b0, b1, b2, b3, b4, b5, b6, b7, b8⟩ := hx3.nine
    have HR3 := Lib.hid hr3; have B3 := Lib.hid hb3
    clear hr3 hx3 hb3 r0 r1 r2 r3 r4 r5 r6 r7 r8 x0 x1 x2 x3 x4 x5 x6 x7 x8 z1 z2 z3 z4 z5 z6 z7 z8 hs HX HR HB
    go_wp2_with fail
    refine (SM.out w3 B3.out).mono ?_; rintro _ w4 ⟨rfl, hb4⟩
    have hr4 := HR3.out.below hb4
    obtain ⟨d0, d1, d2, d3, d4, d5, d6, d7, d8⟩ := hr4.nine
    have B4 := Lib.hid (below_next B3.out hb4)
    clear a0 a1 a2 a3 a4 a5 a6 a7 a8 b0 b1 b2 b3 b4 b5 b6 b7 b8 hr4 hb4
    go_wp2
    go_ret
    exact ⟨rfl, B4.out⟩
set_option maxRecDepth 100000 in
set_option maxHeartbeats 4000000 in
theorem right_three (p : List Nat) (m f g t nw v : Int) (l : List (Int × Int)) (A : Option Addr) (n c : Nat) (hp : Bytes p) (hl : l.length ≤ 100000) (w : World) (hro : RgOut w (.slice A n c) l) :
    Calls Tryd.prog 13 #[.agg #[.int .i64 3, .string (strB p), .int .i64 m, .int .i64 f, .slice A n c, .int .i64 g, .int .i64 t, .int .i64 nw, .int .i64 v]] w fun e w' => e = .returned (.bool (rRight ⟨3, p, m, f, l, g, t, nw, v⟩)) ∧ Below w.heap.size w w' := by
  obtain ⟨d, hd⟩ : ∃ d, rRight ⟨3, p, m, f, l, g, t, nw, v⟩ = d := ⟨_, rfl⟩
  rw [hd]
  have hsz := strB_size p
  obtain ⟨s, hs⟩ : ∃ s, strB p = s := ⟨_, rfl⟩
  rw [hs] at hsz ⊢
  have HV := Lib.hid (dvar2 w)
  have SM0 := fun (W : World) (hB : Below w.heap.size w W) => same_c (.agg #[.int .i64 3, .string ByteArray.empty, .int .i64 0, .int .i64 0, .slice none 0 0, .int .i64 g, .int .i64 t, .int .i64 0, .int .i64 v]) (.agg #[.int .i64 3, .string s, .int .i64 m, .int .i64 f, .slice A n c, .int .i64 g, .int .i64 t, .int .i64 nw, .int .i64 v]) (slR g t v) ⟨3, p, m, f, l, g, t, nw, v⟩ (fun _ h => by cases h) hp (Nat.zero_le _) hl W ⟨_, rfl, RgOut.nil _⟩ (by rw [← hs]; exact ⟨_, rfl, hro.below hB⟩)
  by_cases hsm : slR g t v = (⟨3, p, m, f, l, g, t, nw, v⟩ : PR)
  · rw [decide_eq_true hsm] at SM0
    have SM := Lib.hid SM0
    have hdd : rRight ⟨3, p, m, f, l, g, t, nw, v⟩ = slOk g t v := by rw [← hsm]; exact right_sl _ _ _
    rw [hd] at hdd
    have TM := Lib.hid (fun (x : Int) (W : World) => time_c x W)
    unfold slOk at hdd
    have HDF := Lib.hid (show ¬ (0 ≤ g ∧ g ≤ 3) → d = false from fun h => by rw [hdd, decide_eq_false h]; rfl)
    have HDT := Lib.hid (show (0 ≤ g ∧ g ≤ 3) → d = (tmOk t && decide (v ≠ -9223372036854775808)) from fun h => by rw [hdd, decide_eq_true h]; rfl)
    clear SM0 hdd hsm hd hs hsz hl hp hro
    go_enter Tryd.func13, Tryd.ntmps13
    go_wp2_with (refine wpList_put rfl 24 _ _ rfl (w.heap.size + 1) [.int .i64 3, .string ByteArray.empty, .int .i64 0, .int .i64 0, .slice none 0 0, .int .i64 0, .int .i64 0, .int .i64 0, .int .i64 0] rfl rfl (HV.out [.int .i64 3, .string s, .int .i64 m, .int .i64 f, .slice A n c, .int .i64 g, .int .i64 t, .int .i64 nw, .int .i64 v] [.int .i64 0, .string ByteArray.empty, .int .i64 0, .int .i64 0, .slice none 0 0, .int .i64 0, .int .i64 0, .int .i64 0, .int .i64 0] _) (by kernel_rfl) (by simp [Value.oneCell']) ?_; intro w2 hp2; obtain ⟨hr, hx, hv, hb, hs⟩ := box_put (C1 := [.int .i64 3, .string s, .int .i64 m, .int .i64 f, .slice A n c, .int .i64 g, .int .i64 t, .int .i64 nw, .int .i64 v]) (C2 := [.int .i64 0, .string ByteArray.empty, .int .i64 0, .int .i64 0, .slice none 0 0, .int .i64 0, .int .i64 0, .int .i64 0, .int .i64 0]) hp2; have HX := Lib.hid hx; have HR := Lib.hid hr; have HB := Lib.hid hb; obtain ⟨r0, r1, r2, r3, r4, r5, r6, r7, r8⟩ := hr.nine; obtain ⟨x0, x1, x2, x3, x4, x5, x6, x7, x8⟩ := hx.nine; have z1 := hv.f 1 (by simp); have z2 := hv.f 2 (by simp); have z3 := hv.f 3 (by simp); have z4 := hv.f 4 (by simp); have z5 := hv.f 5 (by simp); have z6 := hv.f 6 (by simp); have z7 := hv.f 7 (by simp); have z8 := hv.f 8 (by simp); clear hp2 hr hx hv hb)
    go_region
    refine gen_last (F := fun W => Holds W w.heap.size [.int .i64 3, .string s, .int .i64 m, .int .i64 f, .slice A n c, .int .i64 g, .int .i64 t, .int .i64 nw, .int .i64 v] ∧ Holds W (w.heap.size + 1) [.int .i64 3, .string ByteArray.empty, .int .i64 0, .int .i64 0, .slice none 0 0, .int .i64 g, .int .i64 t, .int .i64 0, .int .i64 v] ∧ Below w.heap.size w W) ⟨(((HR.out.setOther (by omega) _).setOther (by omega) _).setOther (by omega) _).drew, (((HX.out.set (by simp) _).set (by simp) _).set (by simp) _).drew, (((HB.out.setCell (p := ⟨w.heap.size + 1, 5, none⟩) (by show w.heap.size ≤ w.heap.size + 1; omega) _).setCell (p := ⟨w.heap.size + 1, 6, none⟩) (by show w.heap.size ≤ w.heap.size + 1; omega) _).setCell (p := ⟨w.heap.size + 1, 8, none⟩) (by show w.heap.size ≤ w.heap.size + 1; omega) _).drew⟩ ?_
    intro w3 ⟨hr3, hx3, hb3⟩
    obtain ⟨a0, a1, a2, a3, a4, a5, a6, a7, a8⟩ := hr3.nine
    obtain ⟨b0, b1, b2, b3, b4, b5, b6, b7, b8⟩ := hx3.nine
    have HR3 := Lib.hid hr3; have B3 := Lib.hid hb3
    clear hr3 hx3 hb3 r0 r1 r2 r3 r4 r5 r6 r7 r8 x0 x1 x2 x3 x4 x5 x6 x7 x8 z1 z2 z3 z4 z5 z6 z7 z8 hs HX HR HB
    go_wp2_with fail
    refine (SM.out w3 B3.out).mono ?_; rintro _ w4 ⟨rfl, hb4⟩
    have hr4 := HR3.out.below hb4
    obtain ⟨d0, d1, d2, d3, d4, d5, d6, d7, d8⟩ := hr4.nine
    have B4 := Lib.hid (below_next B3.out hb4)
    clear a0 a1 a2 a3 a4 a5 a6 a7 a8 b0 b1 b2 b3 b4 b5 b6 b7 b8 hr4 hb4
    go_wp2_with fail
    · refine (TM.out t w4).mono ?_; rintro _ w5 ⟨rfl, rfl⟩
      have hdd := HDT.out (by omega)
      rcases Bool.eq_false_or_eq_true (tmOk t) with ht | ht
      · rw [ht] at hdd ⊢
        by_cases hv : v = -9223372036854775808
        · have e : d = false := by rw [hdd, decide_eq_false (fun h => h hv)]; rfl
          subst e
          clear hdd
          go_wp2
          go_ret
          exact ⟨by simp [hv], B4.out⟩
        · have e : d = true := by rw [hdd, decide_eq_true hv]; rfl
          subst e
          clear hdd
          go_wp2
          go_ret
          exact ⟨by simp [hv], B4.out⟩
      · rw [ht] at hdd ⊢
        have e : d = false := by rw [hdd]; rfl
        subst e
        clear hdd
        go_wp2
        go_ret
        exact ⟨rfl, B4.out⟩
    all_goals (go_ret; exact ⟨congrArg (fun z => Ending.returned (.bool z)) (HDF.out (by omega)).symm, B4.out⟩)
  · rw [decide_eq_false hsm] at SM0
    have SM := Lib.hid SM0
    have e : d = false := by
      rw [← hd, Bool.eq_false_iff]
      intro h
      have h9 : decide ((⟨3, p, m, f, l, g, t, nw, v⟩ : PR) = slR g t v) = true := by
        have h8 := h
        unfold rRight at h8
        simp only [show ¬ ((3 : Int) = 1) by decide, show ¬ ((3 : Int) = 2) by decide, if_false, if_true] at h8
        exact (Bool.and_eq_true_iff.1 h8).1
      exact hsm (of_decide_eq_true h9).symm
    subst e
    clear SM0 hsm hd hs hsz hl hp hro
    go_enter Tryd.func13, Tryd.ntmps13
    go_wp2_with (refine wpList_put rfl 24 _ _ rfl (w.heap.size + 1) [.int .i64 3, .string ByteArray.empty, .int .i64 0, .int .i64 0, .slice none 0 0, .int .i64 0, .int .i64 0, .int .i64 0, .int .i64 0] rfl rfl (HV.out [.int .i64 3, .string s, .int .i64 m, .int .i64 f, .slice A n c, .int .i64 g, .int .i64 t, .int .i64 nw, .int .i64 v] [.int .i64 0, .string ByteArray.empty, .int .i64 0, .int .i64 0, .slice none 0 0, .int .i64 0, .int .i64 0, .int .i64 0, .int .i64 0] _) (by kernel_rfl) (by simp [Value.oneCell']) ?_; intro w2 hp2; obtain ⟨hr, hx, hv, hb, hs⟩ := box_put (C1 := [.int .i64 3, .string s, .int .i64 m, .int .i64 f, .slice A n c, .int .i64 g, .int .i64 t, .int .i64 nw, .int .i64 v]) (C2 := [.int .i64 0, .string ByteArray.empty, .int .i64 0, .int .i64 0, .slice none 0 0, .int .i64 0, .int .i64 0, .int .i64 0, .int .i64 0]) hp2; have HX := Lib.hid hx; have HR := Lib.hid hr; have HB := Lib.hid hb; obtain ⟨r0, r1, r2, r3, r4, r5, r6, r7, r8⟩ := hr.nine; obtain ⟨x0, x1, x2, x3, x4, x5, x6, x7, x8⟩ := hx.nine; have z1 := hv.f 1 (by simp); have z2 := hv.f 2 (by simp); have z3 := hv.f 3 (by simp); have z4 := hv.f 4 (by simp); have z5 := hv.f 5 (by simp); have z6 := hv.f 6 (by simp); have z7 := hv.f 7 (by simp); have z8 := hv.f 8 (by simp); clear hp2 hr hx hv hb)
    go_region
    refine gen_last (F := fun W => Holds W w.heap.size [.int .i64 3, .string s, .int .i64 m, .int .i64 f, .slice A n c, .int .i64 g, .int .i64 t, .int .i64 nw, .int .i64 v] ∧ Holds W (w.heap.size + 1) [.int .i64 3, .string ByteArray.empty, .int .i64 0, .int .i64 0, .slice none 0 0, .int .i64 g, .int .i64 t, .int .i64 0, .int .i64 v] ∧ Below w.heap.size w W) ⟨(((HR.out.setOther (by omega) _).setOther (by omega) _).setOther (by omega) _).drew, (((HX.out.set (by simp) _).set (by simp) _).set (by simp) _).drew, (((HB.out.setCell (p := ⟨w.heap.size + 1, 5, none⟩) (by show w.heap.size ≤ w.heap.size + 1; omega) _).setCell (p := ⟨w.heap.size + 1, 6, none⟩) (by show w.heap.size ≤ w.heap.size + 1; omega) _).setCell (p := ⟨w.heap.size + 1, 8, none⟩) (by show w.heap.size ≤ w.heap.size + 1; omega) _).drew⟩ ?_
    intro w3 ⟨hr3, hx3, hb3⟩
    obtain ⟨a0, a1, a2, a3, a4, a5, a6, a7, a8⟩ := hr3.nine
    obtain ⟨b0, b1, b2, b3, b4, b5, b6, b7, b8⟩ := hx3.nine
    have HR3 := Lib.hid hr3; have B3 := Lib.hid hb3
    clear hr3 hx3 hb3 r0 r1 r2 r3 r4 r5 r6 r7 r8 x0 x1 x2 x3 x4 x5 x6 x7 x8 z1 z2 z3 z4 z5 z6 z7 z8 hs HX HR HB
    go_wp2_with fail
    refine (SM.out w3 B3.out).mono ?_; rintro _ w4 ⟨rfl, hb4⟩
    have hr4 := HR3.out.below hb4
    obtain ⟨d0, d1, d2, d3, d4, d5, d6, d7, d8⟩ := hr4.nine
    have B4 := Lib.hid (below_next B3.out hb4)
    clear a0 a1 a2 a3 a4 a5 a6 a7 a8 b0 b1 b2 b3 b4 b5 b6 b7 b8 hr4 hb4
    go_wp2
    go_ret
    exact ⟨rfl, B4.out⟩
set_option maxRecDepth 100000 in
set_option maxHeartbeats 4000000 in
theorem right_none (p : List Nat) (m f g t nw v : Int) (l : List (Int × Int)) (A : Option Addr) (n c : Nat) (hp : Bytes p) (hl : l.length ≤ 100000) (w : World) (hro : RgOut w (.slice A n c) l) (k : Int) (h1 : ¬ k = 1) (h2 : ¬ k = 2) (h3 : ¬ k = 3) :
    Calls Tryd.prog 13 #[.agg #[.int .i64 k, .string (strB p), .int .i64 m, .int .i64 f, .slice A n c, .int .i64 g, .int .i64 t, .int .i64 nw, .int .i64 v]] w fun e w' => e = .returned (.bool (rRight ⟨k, p, m, f, l, g, t, nw, v⟩)) ∧ Below w.heap.size w w' := by
  obtain ⟨d, hd⟩ : ∃ d, rRight ⟨k, p, m, f, l, g, t, nw, v⟩ = d := ⟨_, rfl⟩
  rw [hd]
  have hsz := strB_size p
  obtain ⟨s, hs⟩ : ∃ s, strB p = s := ⟨_, rfl⟩
  rw [hs] at hsz ⊢
  have HV := Lib.hid (dvar2 w)
  have e : d = false := by
    rw [← hd]
    unfold rRight
    rw [if_neg h1, if_neg h2, if_neg h3]
  subst e
  clear hd hs hsz hl hp hro
  go_enter Tryd.func13, Tryd.ntmps13
  go_wp2_with (refine wpList_put rfl 24 _ _ rfl (w.heap.size + 1) [.int .i64 k, .string ByteArray.empty, .int .i64 0, .int .i64 0, .slice none 0 0, .int .i64 0, .int .i64 0, .int .i64 0, .int .i64 0] rfl rfl (HV.out [.int .i64 k, .string s, .int .i64 m, .int .i64 f, .slice A n c, .int .i64 g, .int .i64 t, .int .i64 nw, .int .i64 v] [.int .i64 0, .string ByteArray.empty, .int .i64 0, .int .i64 0, .slice none 0 0, .int .i64 0, .int .i64 0, .int .i64 0, .int .i64 0] _) (by kernel_rfl) (by simp [Value.oneCell']) ?_; intro w2 hp2; obtain ⟨hr, hx, hv, hb, hs⟩ := box_put (C1 := [.int .i64 k, .string s, .int .i64 m, .int .i64 f, .slice A n c, .int .i64 g, .int .i64 t, .int .i64 nw, .int .i64 v]) (C2 := [.int .i64 0, .string ByteArray.empty, .int .i64 0, .int .i64 0, .slice none 0 0, .int .i64 0, .int .i64 0, .int .i64 0, .int .i64 0]) hp2; have HX := Lib.hid hx; have HR := Lib.hid hr; have HB := Lib.hid hb; obtain ⟨r0, r1, r2, r3, r4, r5, r6, r7, r8⟩ := hr.nine; obtain ⟨x0, x1, x2, x3, x4, x5, x6, x7, x8⟩ := hx.nine; have z1 := hv.f 1 (by simp); have z2 := hv.f 2 (by simp); have z3 := hv.f 3 (by simp); have z4 := hv.f 4 (by simp); have z5 := hv.f 5 (by simp); have z6 := hv.f 6 (by simp); have z7 := hv.f 7 (by simp); have z8 := hv.f 8 (by simp); clear hp2 hr hx hv hb)
  go_ret
  exact ⟨rfl, HB.out⟩
theorem right_c (v : Value) (r : PR) (hp : Bytes r.path) (hl : r.rungs.length ≤ 100000) (w : World) (h : RcOut w v r) :
    Calls Tryd.prog 13 #[v] w fun e w' => e = .returned (.bool (rRight r)) ∧ Below w.heap.size w w' := by
  obtain ⟨k, p, m, f, l, g, t, nw, v0⟩ := r
  obtain ⟨u, rfl, hro⟩ := h
  obtain ⟨A, c, rfl, hc, hx⟩ := id hro
  by_cases h1 : k = 1
  · subst h1; exact right_one p m f g t nw v0 l A _ c hp hl w hro
  · by_cases h2 : k = 2
    · subst h2; exact right_two p m f g t nw v0 l A _ c hp hl w hro
    · by_cases h3 : k = 3
      · subst h3; exact right_three p m f g t nw v0 l A _ c hp hl w hro
      · exact right_none p m f g t nw v0 l A _ c hp hl w hro k h1 h2 h3
end Go.Proofs.YtabbpgnenmpacaaDoor.SR
