/-
  The statements of layer 9, walked: an item less, and a longer text.
-/
import Derived.Test.YtodigfdhhndboaaNdlWA
set_option linter.unusedSimpArgs false
set_option linter.unusedVariables false
namespace Go.Proofs.Ytodigfdhhndboaa.NW
open Go Go.RowKit
theorem more_bs (s t : ByteArray) : bs (s ++ t) = bs s ++ bs t := by simp [bs]
theorem more_less {st fin : Bool} {is : List NI} {t : List Nat} {n : Nat} (hn : is.length = n + 1) (h : ndFound ⟨st, fin, is⟩ t = true) : ndFound ⟨st, false, is.take n⟩ t = true := by
  obtain ⟨is', i, rfl⟩ : ∃ l i, is = l ++ [i] := ⟨is.dropLast, is.getLast (by intro h; rw [h] at hn; cases hn), (List.dropLast_concat_getLast _).symm⟩
  have hl : is'.length = n := by simpa using hn
  rw [List.take_left' hl]
  exact ndFound_less h
set_option maxRecDepth 100000 in
set_option maxHeartbeats 4000000 in
theorem needleMore_c (st fin : Bool) (u : Value) (is : List NI) (hok : ∀ i ∈ is, i.ok) (s m : ByteArray) (w : World) (hu : ItOut w u is) :
    Calls Try.prog 7 #[.agg #[.bool st, .bool fin, u], .string s, .string m] w fun e w' => e = .returned (.bool true) ∧ Below w.heap.size w w' := by
  have HU := Lib.hid hu
  have HB0 := Lib.hid ((Below.refl _ w).alloc (Nat.le_refl _) (.cells #[.bool st, .bool fin, u] 29))
  obtain ⟨d, hd⟩ : ∃ d, ndFound ⟨st, fin, is⟩ (bs s) = d := ⟨_, rfl⟩
  have FC := Lib.hid (fun (hs : s.size ≤ 500) (hi : is.length ≤ 100) (W : World) (h : Below w.heap.size w W) => NP.found_c st fin u is s (by omega) (by omega) hok W (HU.out.below h))
  rw [hd] at FC
  obtain ⟨A, cap, rfl, hcap, _⟩ := hu
  obtain ⟨n, hn⟩ : ∃ n, is.length = n := ⟨_, rfl⟩
  rw [hn] at FC HU HB0 hcap ⊢
  have HN := Lib.hid hn; have HOK := Lib.hid hok; have HD := Lib.hid hd
  clear hd hn hok
  go_enter Try.func7, Try.ntmps7
  go_wp2_with fail
  refine (alive_c _).mono ?_; rintro _ w1 ⟨rfl, hb1⟩
  have HB1 := Lib.hid (bnext HB0.out hb1)
  have k0 : w1.cell? ⟨w.heap.size, 0, none⟩ = some (.bool st) := cell_keep hb1 (by simp)
  have k1 : w1.cell? ⟨w.heap.size, 1, none⟩ = some (.bool fin) := cell_keep hb1 (by simp)
  have k2 : w1.cell? ⟨w.heap.size, 2, none⟩ = some (.slice A n cap) := cell_keep hb1 (by simp)
  have hz1 : w.heap.size < w1.heap.size := by have := hb1.size; simp at this; omega
  clear hb1
  by_cases hg : (500 : Int) < (s.size : Int)
  · have GC := Lib.hid (fun W => great_c s W)
    rw [decide_eq_true hg] at GC
    go_wp2_with fail
    refine (GC.out _).mono ?_; rintro _ _ ⟨rfl, rfl⟩
    go_wp2
    go_ret
    exact ⟨rfl, HB1.out⟩
  have GC := Lib.hid (fun W => great_c s W)
  rw [decide_eq_false hg] at GC
  have hs5 : s.size ≤ 500 := by omega
  by_cases hg2 : (500 : Int) < (m.size : Int)
  · have GM := Lib.hid (fun W => great_c m W)
    rw [decide_eq_true hg2] at GM
    go_wp2_with fail
    refine (GC.out _).mono ?_; rintro _ _ ⟨rfl, rfl⟩
    go_wp2_with fail
    refine (GM.out _).mono ?_; rintro _ _ ⟨rfl, rfl⟩
    go_wp2
    go_ret
    exact ⟨rfl, HB1.out⟩
  have GM := Lib.hid (fun W => great_c m W)
  rw [decide_eq_false hg2] at GM
  have hm5 : m.size ≤ 500 := by omega
  clear hg hg2
  by_cases hl : (100 : Int) < (n : Int)
  · go_wp2_with fail
    refine (GC.out _).mono ?_; rintro _ _ ⟨rfl, rfl⟩
    go_wp2_with fail
    refine (GM.out _).mono ?_; rintro _ _ ⟨rfl, rfl⟩
    go_wp2
    go_ret
    exact ⟨rfl, HB1.out⟩
  by_cases hz : n = 0
  · subst hz
    go_wp2_with fail
    refine (GC.out _).mono ?_; rintro _ _ ⟨rfl, rfl⟩
    go_wp2_with fail
    refine (GM.out _).mono ?_; rintro _ _ ⟨rfl, rfl⟩
    go_wp2
    go_ret
    exact ⟨rfl, HB1.out⟩
  have hl2 : n ≤ 100 := by omega
  have FC2 := Lib.hid (FC.out hs5 hl2)
  obtain ⟨k, hk⟩ : ∃ k, n = k + 1 := ⟨n - 1, by omega⟩
  have hkn : k ≤ n := by omega
  have hw1 : IntKind.i64.wrap ((n : Int) - 1) = (k : Int) := by rw [IntKind.wrap_i64]; omega
  have hz2 : ((n : Int) == 0) = false := beq_false_of_ne (by omega)
  have hl3 : decide ((100 : Int) < (n : Int)) = false := decide_eq_false hl
  have HK := Lib.hid hk
  have HL2 := Lib.hid hl2
  have hn0 : (k : Int) ≤ (cap : Int) := by omega
  have SM := Lib.hid (fun (hw : ndFound ⟨st, fin, is⟩ (bs s) = true) => more_less (HN.out.trans hk) hw)
  have HUK := Lib.hid (HU.out.take (m := k) hkn)
  have MC := Lib.hid (fun (W : World) (h : Below w.heap.size w W) => NP.found_c st false (.slice A k cap) (is.take k) s (by omega) (by rw [List.length_take]; omega) (fun i hi => HOK.out i (List.mem_of_mem_take hi)) W (HUK.out.below h))
  have LC := Lib.hid (fun (W : World) (h : Below w.heap.size w W) => NP.found_c st fin (.slice A n cap) is (s ++ m) (by rw [ByteArray.size_append]; omega) (by have := HN.out; omega) HOK.out W (HU.out.below h))
  clear hk hl hz hl2
  go_wp2_with fail
  refine (GC.out _).mono ?_; rintro _ _ ⟨rfl, rfl⟩
  go_wp2_with fail
  refine (GM.out _).mono ?_; rintro _ _ ⟨rfl, rfl⟩
  go_upto_region 6 with (refine wpList_put rfl 29 _ _ rfl w1.heap.size [.bool st, .bool fin, .slice A n cap] rfl rfl (DVar.alloc _ _) (by kernel_rfl) (by simp [Value.oneCell']) ?_; intro y1 hq; obtain ⟨t0, t1, t2⟩ := hq.at_.three)
  have hb3 : Below w1.heap.size w1 y1 := hq.below (Nat.le_refl _) (alloc_below _ _)
  have f1 := hq.var.f 1 (show 1 < 3 by decide); have f2 := hq.var.f 2 (show 2 < 3 by decide)
  have hlt := hq.var.lt
  have j0 := cell_keep hb3 k0; have j1 := cell_keep hb3 k1; have j2 := cell_keep hb3 k2
  have hne : ¬ w1.heap.size = w.heap.size := by omega
  have hb4 := (hb3.setCell (p := ⟨w1.heap.size, 1, none⟩) (Nat.le_refl _) (.bool false)).setCell (p := ⟨w1.heap.size, 2, none⟩) (Nat.le_refl _) (.slice A k cap)
  have HB4 := Lib.hid (bnext HB1.out hb4)
  have HJ := Lib.hid (And.intro (cell_keep hb4 k0) (And.intro (cell_keep hb4 k1) (cell_keep hb4 k2)))
  clear hq hb3 hb4 k0 k1 k2
  go_upto_region 8 with (fail)
  have HT := Lib.hid (show _ ∧ _ ∧ _ from ⟨(show ((y1.setCell ⟨w1.heap.size, 1, none⟩ (.bool false)).setCell ⟨w1.heap.size, 2, none⟩ (.slice A k cap)).cell? ⟨w1.heap.size, 0, none⟩ = some (.bool st) by go_simp), (show ((y1.setCell ⟨w1.heap.size, 1, none⟩ (.bool false)).setCell ⟨w1.heap.size, 2, none⟩ (.slice A k cap)).cell? ⟨w1.heap.size, 1, none⟩ = some (.bool false) by go_simp), (show ((y1.setCell ⟨w1.heap.size, 1, none⟩ (.bool false)).setCell ⟨w1.heap.size, 2, none⟩ (.slice A k cap)).cell? ⟨w1.heap.size, 2, none⟩ = some (.slice A k cap) by go_simp)⟩)
  clear t0 t1 t2 f1 f2 j0 j1 j2
  generalize (y1.setCell ⟨w1.heap.size, 1, none⟩ (.bool false)).setCell ⟨w1.heap.size, 2, none⟩ (.slice A k cap) = y2 at HB4 HJ HT ⊢
  obtain ⟨j0, j1, j2⟩ := HJ.out
  obtain ⟨t0, t1, t2⟩ := HT.out
  go_wp2_with fail
  refine (FC2.out _ HB4.out).mono ?_; rintro _ w3 ⟨rfl, hb5⟩
  have HB5 := Lib.hid (bnext HB4.out hb5)
  have i0 := cell_keep hb5 j0; have i1 := cell_keep hb5 j1; have i2 := cell_keep hb5 j2
  have r0 := cell_keep hb5 t0; have r1 := cell_keep hb5 t1; have r2 := cell_keep hb5 t2
  clear hb5 j0 j1 j2 t0 t1 t2
  cases d with
  | false =>
    go_wp2
    go_ret
    exact ⟨rfl, HB5.out⟩
  | true =>
    have MT := Lib.hid (fun (W : World) (h : Below w.heap.size w W) => by
      have h := MC.out W h
      rw [SM.out HD.out] at h
      exact h)
    go_wp2_with fail
    refine (MT.out _ HB5.out).mono ?_; rintro _ w4 ⟨rfl, hb6⟩
    have HB6 := Lib.hid (bnext HB5.out hb6)
    have q0 := cell_keep hb6 i0; have q1 := cell_keep hb6 i1; have q2 := cell_keep hb6 i2
    clear hb6 i0 i1 i2 r0 r1 r2
    cases fin with
    | true =>
      go_wp2
      go_ret
      exact ⟨rfl, HB6.out⟩
    | false =>
      have LT := Lib.hid (fun (W : World) (h : Below w.heap.size w W) => by
        have h := LC.out W h
        rw [more_bs, ndFound_more HD.out] at h
        exact h)
      go_wp2_with fail
      refine (LT.out _ HB6.out).mono ?_; rintro _ w5 ⟨rfl, hb7⟩
      have HB7 := Lib.hid (bnext HB6.out hb7)
      clear hb7
      go_wp2
      go_ret
      exact ⟨rfl, HB7.out⟩
end Go.Proofs.Ytodigfdhhndboaa.NW
