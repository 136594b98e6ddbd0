/-
  Contracts of the program's functions of layer 8: first.
-/
import Derived.Test.YtabbpgnenmpacaaDoorSegPLM
import Derived.Test.YtabbpgnenmpacaaDoorFrmPAM
import Derived.Test.YtabbpgnenmpacaaDoorSegPNM
import Derived.Test.YtabbpgnenmpacaaDoorSegScM
set_option linter.unusedSimpArgs false
set_option linter.unusedVariables false
namespace Go.Proofs.YtabbpgnenmpacaaDoor.SP
open Go Go.RowKit
open CR (below_next own_ge u8_wrap)
theorem fTake_bytes {b : List Nat} (hb : Bytes b) : Bytes (fTake b).1 := by
  by_cases h : (fTake b).2.2 = 0
  · unfold fTake at h ⊢
    split
    · exact fun _ h => by cases h
    · split
      · exact fun _ h => by cases h
      · split
        · exact fun _ h => by cases h
        · split
          · rename_i h1 h2 h3 h4
            have h5 := cChk_two (b.take (fLen b + 6)) (by rw [List.length_take]; omega)
            rcases h5 with ⟨_, _, h5⟩ | ⟨h5, _⟩
            · show Bytes ((cChk (b.take (fLen b + 6))).1.drop 2)
              rw [h5]
              exact ((hb.takes _).takes _).drops _
            · rw [h5] at h4; cases h4
          · exact fun _ h => by cases h
  · rw [(fTake_zero h).1]
    exact fun _ h => by cases h
/-- What is first, by what is taken. -/
theorem sOne_three (b : List Nat) : ((fTake b).2.2 ≠ 0 ∧ sOne b = (PR.zero, 0, false)) ∨ ((fTake b).2.2 = 0 ∧ (rTake (fTake b).1).2 ≠ 0 ∧ sOne b = (PR.zero, 0, false)) ∨ ((fTake b).2.2 = 0 ∧ (rTake (fTake b).1).2 = 0 ∧ sOne b = ((rTake (fTake b).1).1, (fTake b).2.1, true)) := by
  unfold sOne
  by_cases h1 : (fTake b).2.2 = 0
  · by_cases h2 : (rTake (fTake b).1).2 = 0
    · exact Or.inr (Or.inr ⟨h1, h2, if_pos ⟨h1, h2⟩⟩)
    · exact Or.inr (Or.inl ⟨h1, h2, if_neg (fun g => h2 g.2)⟩)
  · exact Or.inl ⟨h1, if_neg (fun g => h1 g.1)⟩
theorem rc_form {B : Nat} {w : World} {v : Value} {r : PR} (h : RcNew B w v r) : ∃ A c, v = .agg #[.int .i64 r.kind, .string (strB r.path), .int .i64 r.method, .int .i64 r.factor, .slice A r.rungs.length c, .int .i64 r.rung, .int .i64 r.time, .int .i64 r.now, .int .i64 r.value] ∧ RgNew B w (.slice A r.rungs.length c) r.rungs := by
  obtain ⟨u, rfl, hu⟩ := h
  obtain ⟨A, c, rfl, _⟩ := id hu.out
  exact ⟨A, c, rfl, hu⟩
theorem zero_new (B : Nat) (w : World) : RcNew B w (.agg #[.int .i64 0, .string ByteArray.empty, .int .i64 0, .int .i64 0, .slice none 0 0, .int .i64 0, .int .i64 0, .int .i64 0, .int .i64 0]) PR.zero := rc_plain B w 0 0 0 0 0
set_option maxRecDepth 100000 in
set_option maxHeartbeats 600000 in
theorem first_c (v : Value) (l : List Nat) (hb : Bytes l) (w : World) (hG : G w) (ho : ByOut w v l) :
    Calls Tryd.prog 34 #[v] w fun e w' => ∃ v' x, e = .returned (.tuple #[v', .int .i64 ((sOne l).2.1 : Nat), .int .i64 x]) ∧ (x = 0 ↔ (sOne l).2.2 = true) ∧ RcNew w.heap.size w' v' (sOne l).1 ∧ Below w.heap.size w w' := by
  have FT := Lib.hid (fun (W : World) (g : G W) (h : ByOut W v l) => FP.take_c v l hb W g h)
  have TK := Lib.hid (fun (v : Value) (W : World) (h : ByOut W v (fTake l).1) => take_c v (fTake l).1 (fTake_bytes hb) (by have := fTake_len l; omega) W h)
  have h3 := sOne_three l
  obtain ⟨⟨P, sz, er⟩, hF⟩ : ∃ x, fTake l = x := ⟨_, rfl⟩
  rw [hF] at FT TK h3
  obtain ⟨T, hT⟩ : ∃ x, sOne l = x := ⟨_, rfl⟩
  rw [hT] at h3 ⊢
  have HG := Lib.hid hG; have HO := Lib.hid ho
  have HV := Lib.hid (fun (W : World) => DVar.alloc (w := W) ([.int .i64 0, .string ⟨#[]⟩, .int .i64 0, .int .i64 0, .slice none 0 0, .int .i64 0, .int .i64 0, .int .i64 0, .int .i64 0] : List Value).toArray 24)
  obtain ⟨A, c, rfl, _, _⟩ := id ho
  obtain ⟨n, hn⟩ : ∃ n, l.length = n := ⟨_, rfl⟩
  have HN := Lib.hid hn
  rw [hn] at FT ⊢
  have HOA := Lib.hid (show ∀ o : Obj, ByOut (w.alloc o) (.slice A n c) l from fun o => by
    have h := ho.below (alloc_below w o)
    rw [hn] at h
    exact h)
  rcases h3 with ⟨h1, rfl⟩ | ⟨h1, h2, rfl⟩ | ⟨h1, h2, rfl⟩
  · have hq : (er != 0) = true := by rw [bne_iff_ne]; exact h1
    have H1 := Lib.hid (show er ≠ 0 from h1)
    clear hF hT hb ho hG hn h1
    go_enter Tryd.func34, Tryd.ntmps34
    go_wp2_with fail
    refine (FT.out _ (HG.out.alloc _) (HOA.out _)).mono ?_; rintro _ w2 ⟨v2, rfl, hf2, hb2⟩
    have D2 := Lib.hid ((HV.out w).below hb2)
    have B2 := Lib.hid (show Below w.heap.size w w2 from (alloc_below w _).trans (hb2.mono (by simp)))
    clear hf2 hb2
    go_wp2_with (refine wpList_put rfl 24 _ _ rfl w.heap.size [.int .i64 0, .string ByteArray.empty, .int .i64 0, .int .i64 0, .slice none 0 0, .int .i64 0, .int .i64 0, .int .i64 0, .int .i64 0] rfl rfl D2.out (by kernel_rfl) (by simp [Value.oneCell']) ?_; intro w9 hp9; obtain ⟨x0, x1, x2, x3, x4, x5, x6, x7, x8⟩ := Holds.nine hp9.at_; have B9 := Lib.hid (hp9.below (Nat.le_refl _) B2.out); clear hp9)
    exact bodyPost_ret (v := .tuple #[.agg #[.int .i64 0, .string ByteArray.empty, .int .i64 0, .int .i64 0, .slice none 0 0, .int .i64 0, .int .i64 0, .int .i64 0, .int .i64 0], .int .i64 0, .int .i64 er]) (by simp [results, Tryd.results34, go_sem, x0, x1, x2, x3, x4, x5, x6, x7, x8]) rfl ⟨_, er, rfl, ⟨fun g => absurd g H1.out, fun g => (by cases g)⟩, zero_new _ _, B9.out⟩
  · have hq : (er != 0) = false := by rw [show er = 0 from h1]; rfl
    obtain ⟨⟨RR, e2⟩, hR⟩ : ∃ x, rTake P = x := ⟨_, rfl⟩
    rw [hR] at TK h2
    have hq2 : (e2 != 0) = true := by rw [bne_iff_ne]; exact h2
    have H1 := Lib.hid (show e2 ≠ 0 from h2)
    clear hF hT hb ho hG hn h1 h2 hR
    go_enter Tryd.func34, Tryd.ntmps34
    go_wp2_with fail
    refine (FT.out _ (HG.out.alloc _) (HOA.out _)).mono ?_; rintro _ w2 ⟨v2, rfl, hf2, hb2⟩
    have D2 := Lib.hid ((HV.out w).below hb2)
    have B2 := Lib.hid (show Below w.heap.size w w2 from (alloc_below w _).trans (hb2.mono (by simp)))
    have O2 := Lib.hid hf2.out
    clear hf2 hb2
    go_wp2_with fail
    refine (TK.out _ _ O2.out).mono ?_; rintro _ w3 ⟨v3, rfl, hr3, hb3⟩
    obtain ⟨Ar, cr, rfl, ho3⟩ := rc_form hr3
    obtain ⟨nr, hnr⟩ : ∃ n, RR.rungs.length = n := ⟨_, rfl⟩
    rw [hnr]
    have D3 := Lib.hid (D2.out.below hb3); have B3 := Lib.hid (below_next B2.out hb3)
    clear hr3 hb3 ho3 hnr
    go_wp2_with first
      | (refine wpList_put rfl 24 _ _ rfl w.heap.size [.int .i64 RR.kind, .string (strB RR.path), .int .i64 RR.method, .int .i64 RR.factor, .slice Ar nr cr, .int .i64 RR.rung, .int .i64 RR.time, .int .i64 RR.now, .int .i64 RR.value] rfl rfl D3.out (by kernel_rfl) (by simp [Value.oneCell']) ?_; intro w4 hp4; have D4 := Lib.hid (show DVar w4 w.heap.size 9 from hp4.var); have B4 := Lib.hid (hp4.below (Nat.le_refl _) B3.out); clear hp4)
      | (refine wpList_put rfl 24 _ _ rfl w.heap.size [.int .i64 0, .string ByteArray.empty, .int .i64 0, .int .i64 0, .slice none 0 0, .int .i64 0, .int .i64 0, .int .i64 0, .int .i64 0] rfl rfl D4.out (by kernel_rfl) (by simp [Value.oneCell']) ?_; intro w9 hp9; obtain ⟨x0, x1, x2, x3, x4, x5, x6, x7, x8⟩ := Holds.nine hp9.at_; have B9 := Lib.hid (hp9.below (Nat.le_refl _) B4.out); clear hp9)
    exact bodyPost_ret (v := .tuple #[.agg #[.int .i64 0, .string ByteArray.empty, .int .i64 0, .int .i64 0, .slice none 0 0, .int .i64 0, .int .i64 0, .int .i64 0, .int .i64 0], .int .i64 0, .int .i64 e2]) (by simp [results, Tryd.results34, go_sem, x0, x1, x2, x3, x4, x5, x6, x7, x8]) rfl ⟨_, e2, rfl, ⟨fun g => absurd g H1.out, fun g => (by cases g)⟩, zero_new _ _, B9.out⟩
  · have hq : (er != 0) = false := by rw [show er = 0 from h1]; rfl
    obtain ⟨⟨RR, e2⟩, hR⟩ : ∃ x, rTake P = x := ⟨_, rfl⟩
    rw [hR] at TK h2 ⊢
    have hq2 : (e2 != 0) = false := by rw [show e2 = 0 from h2]; rfl
    clear hF hT hb ho hG hn h1 h2 hR
    go_enter Tryd.func34, Tryd.ntmps34
    go_wp2_with fail
    refine (FT.out _ (HG.out.alloc _) (HOA.out _)).mono ?_; rintro _ w2 ⟨v2, rfl, hf2, hb2⟩
    have D2 := Lib.hid ((HV.out w).below hb2)
    have B2 := Lib.hid (show Below w.heap.size w w2 from (alloc_below w _).trans (hb2.mono (by simp)))
    have O2 := Lib.hid hf2.out
    have S2 := Lib.hid (show w.heap.size + 1 ≤ w2.heap.size by have := hb2.size; simp at this; omega)
    clear hf2 hb2
    go_wp2_with fail
    refine (TK.out _ _ O2.out).mono ?_; rintro _ w3 ⟨v3, rfl, hr3, hb3⟩
    obtain ⟨Ar, cr, rfl, ho3⟩ := rc_form (hr3.mono S2.out)
    have HRG := Lib.hid ho3
    have hrc : ∀ W : World, RgNew (w.heap.size + 1) W (.slice Ar RR.rungs.length cr) RR.rungs → RcNew w.heap.size W (.agg #[.int .i64 RR.kind, .string (strB RR.path), .int .i64 RR.method, .int .i64 RR.factor, .slice Ar RR.rungs.length cr, .int .i64 RR.rung, .int .i64 RR.time, .int .i64 RR.now, .int .i64 RR.value]) RR := fun W h => ⟨_, rfl, h.mono (by omega)⟩
    have HRC := Lib.hid hrc
    obtain ⟨nr, hnr⟩ : ∃ n, RR.rungs.length = n := ⟨_, rfl⟩
    rw [hnr] at HRC HRG ⊢
    have D3 := Lib.hid (D2.out.below hb3); have B3 := Lib.hid (below_next B2.out hb3)
    clear hr3 hb3 ho3 hnr hrc
    go_wp2_with first
      | (refine wpList_put rfl 24 _ _ rfl w.heap.size [.int .i64 RR.kind, .string (strB RR.path), .int .i64 RR.method, .int .i64 RR.factor, .slice Ar nr cr, .int .i64 RR.rung, .int .i64 RR.time, .int .i64 RR.now, .int .i64 RR.value] rfl rfl D3.out (by kernel_rfl) (by simp [Value.oneCell']) ?_; intro w4 hp4; obtain ⟨y0, y1, y2, y3, y4, y5, y6, y7, y8⟩ := Holds.nine hp4.at_; have D4 := Lib.hid (show DVar w4 w.heap.size 9 from hp4.var); have R4 := Lib.hid (HRG.out.grown hp4.grown (fun g e => by injection e; omega)); have B4 := Lib.hid (hp4.below (Nat.le_refl _) B3.out); clear hp4 D3 B3)
      | (refine wpList_put rfl 24 _ _ rfl w.heap.size [.int .i64 RR.kind, .string (strB RR.path), .int .i64 RR.method, .int .i64 RR.factor, .slice Ar nr cr, .int .i64 RR.rung, .int .i64 RR.time, .int .i64 RR.now, .int .i64 RR.value] rfl rfl D4.out (by kernel_rfl) (by simp [Value.oneCell']) ?_; intro w9 hp9; obtain ⟨x0, x1, x2, x3, x4, x5, x6, x7, x8⟩ := Holds.nine hp9.at_; have B9 := Lib.hid (hp9.below (Nat.le_refl _) B4.out); have R9 := Lib.hid (R4.out.grown hp9.grown (fun g e => by injection e; omega)); clear hp9)
    exact bodyPost_ret (v := .tuple #[.agg #[.int .i64 RR.kind, .string (strB RR.path), .int .i64 RR.method, .int .i64 RR.factor, .slice Ar nr cr, .int .i64 RR.rung, .int .i64 RR.time, .int .i64 RR.now, .int .i64 RR.value], .int .i64 (sz : Nat), .int .i64 0]) (by simp [results, Tryd.results34, go_sem, x0, x1, x2, x3, x4, x5, x6, x7, x8]) rfl ⟨_, 0, rfl, by simp, HRC.out _ R9.out, B9.out⟩
end Go.Proofs.YtabbpgnenmpacaaDoor.SP
/-
  Contracts of the program's functions of layer 8: Scan.
-/
set_option linter.unusedSimpArgs false
set_option linter.unusedVariables false
namespace Go.Proofs.YtabbpgnenmpacaaDoor
open Go.RowKit
/-- A record whose archives lie in blocks from N on. -/
def RcApart (N : Nat) (w : World) (v : Value) (r : PR) : Prop := ∃ u, v = .agg (rcC u r).toArray ∧ RgApart N none w u r.rungs
theorem RgApart.forget {N M : Nat} {row : Option Nat} {w : World} {v : Value} {l : List (Int × Int)} (h : RgApart N row w v l) (hM : M ≤ N) : RgApart M none w v l := by
  obtain ⟨A, cap, hv, hc, hx⟩ := h
  refine ⟨A, cap, hv, hc, fun hn => ?_⟩
  obtain ⟨b, off, hA, hB, hf⟩ := hx hn
  exact ⟨b, off, hA, ⟨by simp, by have := hB.2; omega⟩, hf⟩
theorem RcNew.apart {N : Nat} {w : World} {v : Value} {r : PR} (h : RcNew N w v r) : RcApart N w v r := by
  obtain ⟨u, hv, hu⟩ := h
  exact ⟨u, hv, RgNew.apart hu (Nat.le_refl _) (fun g e => by cases e)⟩
theorem RcApart.out {N : Nat} {w : World} {v : Value} {r : PR} (h : RcApart N w v r) : RcOut w v r := by
  obtain ⟨u, hv, hu⟩ := h
  exact ⟨u, hv, hu.out⟩
theorem RcApart.kept {N g0 : Nat} {w w' : World} {v : Value} {r : PR} (h : RcApart N w v r) (hg : w.grownBy w' (some g0)) (h0 : g0 < N) : RcApart N w' v r := by
  obtain ⟨u, hv, hu⟩ := h
  exact ⟨u, hv, hu.kept hg h0⟩
theorem RsNew.mono {B B' : Nat} {w : World} {v : Value} {ls : List PR} (h : RsNew B' w v ls) (hB : B ≤ B') : RsNew B w v ls := by
  obtain ⟨us, hm, ho, hr⟩ := h
  refine ⟨us, hm, ⟨ho.1, ?_⟩, fun x hx => ?_⟩
  · rcases ho.2 with h | ⟨g, cap, cur, h1, h2, h3⟩
    · exact .inl h
    · exact .inr ⟨g, cap, cur, h1, by omega, h3⟩
  · obtain ⟨A, cap, hv, hc, hx2⟩ := hr x hx
    refine ⟨A, cap, hv, hc, fun hn => ?_⟩
    obtain ⟨b, off, hA, hBB, hf⟩ := hx2 hn
    exact ⟨b, off, hA, ⟨hBB.1, by have := hBB.2; omega⟩, hf⟩
end Go.Proofs.YtabbpgnenmpacaaDoor
namespace Go.Proofs.YtabbpgnenmpacaaDoor.SP
open Go Go.RowKit
open CR (below_next own_ge u8_wrap)
theorem sScan_two (l : List Nat) : (((sOne l).2.2 = true ∧ (sOne l).1.kind = 1) ∧ sScan l = ((sOne l).1, (sCut (l.drop (sOne l).2.1)).1, (sOne l).2.1 + (sCut (l.drop (sOne l).2.1)).2, 0)) ∨ (¬ ((sOne l).2.2 = true ∧ (sOne l).1.kind = 1) ∧ sScan l = (PR.zero, [], 0, 7)) := by
  unfold sScan
  by_cases h : (sOne l).2.2 = true ∧ (sOne l).1.kind = 1
  · exact Or.inl ⟨h, if_pos h⟩
  · exact Or.inr ⟨h, if_neg h⟩
set_option maxRecDepth 100000 in
set_option maxHeartbeats 4000000 in
theorem scan_n (v : Value) (l : List Nat) (hb : Bytes l) (hl : l.length ≤ 91000) (w : World) (hG : G w) (ho : ByOut w v l) :
    Calls Tryd.prog 16 #[v] w fun e w' => ∃ v' vl, e = .returned (.tuple #[v', vl, .int .i64 ((sScan l).2.2.1 : Nat), .int .i64 (sScan l).2.2.2]) ∧ RcApart w.heap.size w' v' (sScan l).1 ∧ RsNew w.heap.size w' vl (sScan l).2.1 ∧ Below w.heap.size w w' := by
  have FI := Lib.hid (fun (v : Value) (q : List Nat) (W : World) (g : G W) (hq : Bytes q) (h : ByOut W v q) => first_c v q hq W g h)
  have h2 := sScan_two l
  have hz1 : ((sOne l).2.2 = true) → (sOne l).2.1 ≤ l.length := fun h => (sOne_size h).2.1
  obtain ⟨⟨hh, s1, k1⟩, hF⟩ : ∃ x, sOne l = x := ⟨_, rfl⟩
  obtain ⟨T, hT⟩ : ∃ x, sScan l = x := ⟨_, rfl⟩
  rw [hF, hT] at h2
  rw [hF] at hz1
  rw [hT]
  have F1 := Lib.hid (fun (v : Value) (W : World) (g : G W) (h : ByOut W v l) => by
    have h2 := first_c v l hb W g h
    rw [hF] at h2
    exact h2)
  have HG := Lib.hid hG; have HB := Lib.hid hb
  have HV := Lib.hid (fun (W : World) => DVar.alloc (w := W) ([.int .i64 0, .string ⟨#[]⟩, .int .i64 0, .int .i64 0, .slice none 0 0, .int .i64 0, .int .i64 0, .int .i64 0, .int .i64 0] : List Value).toArray 24)
  obtain ⟨A, c, rfl, hc, _⟩ := id ho
  obtain ⟨n, hn⟩ : ∃ n, l.length = n := ⟨_, rfl⟩
  rw [hn] at ho hc hl hz1 ⊢
  have HO := Lib.hid ho; have HL := Lib.hid hn
  have HOA := Lib.hid (show ∀ o : Obj, ByOut (w.alloc o) (.slice A n c) l from fun o => ho.below (alloc_below w o))
  have hfm : ∀ (B : Nat) (W : World) (v : Value), RcNew B W v hh → ∃ A c, v = .agg #[.int .i64 hh.kind, .string (strB hh.path), .int .i64 hh.method, .int .i64 hh.factor, .slice A hh.rungs.length c, .int .i64 hh.rung, .int .i64 hh.time, .int .i64 hh.now, .int .i64 hh.value] ∧ RgNew B W (.slice A hh.rungs.length c) hh.rungs := fun B W v h => rc_form h
  have hmk : ∀ (W : World) (A : Option Addr) (c : Nat), RgOut W (.slice A hh.rungs.length c) hh.rungs → RcOut W (.agg #[.int .i64 hh.kind, .string (strB hh.path), .int .i64 hh.method, .int .i64 hh.factor, .slice A hh.rungs.length c, .int .i64 hh.rung, .int .i64 hh.time, .int .i64 hh.now, .int .i64 hh.value]) hh := fun W A c h => ⟨_, rfl, h⟩
  obtain ⟨nh, hnh⟩ : ∃ n, hh.rungs.length = n := ⟨_, rfl⟩
  rw [hnh] at hfm hmk
  have hmp : ∀ (W : World) (A : Option Addr) (c : Nat), RgApart w.heap.size none W (.slice A hh.rungs.length c) hh.rungs → RcApart w.heap.size W (.agg #[.int .i64 hh.kind, .string (strB hh.path), .int .i64 hh.method, .int .i64 hh.factor, .slice A hh.rungs.length c, .int .i64 hh.rung, .int .i64 hh.time, .int .i64 hh.now, .int .i64 hh.value]) hh := fun W A c h => ⟨_, rfl, h⟩
  rw [hnh] at hmp
  have HMP := Lib.hid hmp
  clear hmp
  have HFM := Lib.hid hfm; have HMK := Lib.hid hmk; have HNH := Lib.hid hnh
  rcases h2 with ⟨⟨h2a, h2b⟩, h2⟩ | ⟨h2a, h2⟩
  case inr =>
    subst h2
    by_cases hk1 : k1 = true
    · have hkk : (hh.kind != 1) = true := by rw [bne_iff_ne]; exact fun g => h2a ⟨hk1, g⟩
      have HK1 := Lib.hid hk1
      clear hF hT hfm hmk hnh ho hb hG hn h2a hk1 hz1
      go_enter Tryd.func16, Tryd.ntmps16
      go_wp2_with fail
      refine (F1.out _ _ (HG.out.alloc _) (HOA.out _)).mono ?_; rintro _ w2 ⟨v2, x2, rfl, hx2, hr2, hb2⟩
      obtain rfl : x2 = 0 := hx2.2 HK1.out
      obtain ⟨Ah, ch, rfl, ho2⟩ := HFM.out _ _ _ hr2
      have D2 := Lib.hid ((HV.out w).below hb2); have B2 := Lib.hid (show Below w.heap.size w w2 from (alloc_below w _).trans (hb2.mono (by simp)))
      clear hr2 hb2 ho2 hx2
      go_wp2_with first
        | (refine wpList_put rfl 24 _ _ rfl w.heap.size [.int .i64 hh.kind, .string (strB hh.path), .int .i64 hh.method, .int .i64 hh.factor, .slice Ah nh ch, .int .i64 hh.rung, .int .i64 hh.time, .int .i64 hh.now, .int .i64 hh.value] rfl rfl D2.out (by kernel_rfl) (by simp [Value.oneCell']) ?_; intro w3 hp3; have y0 := hp3.at_ 0 _ rfl; have D3 := Lib.hid (show DVar w3 w.heap.size 9 from hp3.var); have B3 := Lib.hid (hp3.below (Nat.le_refl _) B2.out); clear hp3 D2)
        | (refine wpList_put rfl 24 _ _ rfl w.heap.size [.int .i64 0, .string ByteArray.empty, .int .i64 0, .int .i64 0, .slice none 0 0, .int .i64 0, .int .i64 0, .int .i64 0, .int .i64 0] rfl rfl D3.out (by kernel_rfl) (by simp [Value.oneCell']) ?_; intro w9 hp9; obtain ⟨x0, x1, x2, x3, x4, x5, x6, x7, x8⟩ := Holds.nine hp9.at_; have B9 := Lib.hid (hp9.below (Nat.le_refl _) B3.out); clear hp9)
      exact bodyPost_ret (v := .tuple #[.agg #[.int .i64 0, .string ByteArray.empty, .int .i64 0, .int .i64 0, .slice none 0 0, .int .i64 0, .int .i64 0, .int .i64 0, .int .i64 0], .slice none 0 0, .int .i64 0, .int .i64 7]) (by simp [results, Tryd.results16, go_sem, x0, x1, x2, x3, x4, x5, x6, x7, x8]) rfl ⟨_, _, rfl, (zero_new w.heap.size _).apart, RsNew.nil _ _, B9.out⟩
    · have HK1 := Lib.hid hk1
      clear hF hT hfm hmk hnh ho hb hG hn h2a hk1 hz1
      go_enter Tryd.func16, Tryd.ntmps16
      go_wp2_with fail
      refine (F1.out _ _ (HG.out.alloc _) (HOA.out _)).mono ?_; rintro _ w2 ⟨v2, x2, rfl, hx2, hr2, hb2⟩
      have hq : (x2 != 0) = true := by rw [bne_iff_ne]; exact fun g => HK1.out (hx2.1 g)
      obtain ⟨Ah, ch, rfl, ho2⟩ := HFM.out _ _ _ hr2
      have D2 := Lib.hid ((HV.out w).below hb2); have B2 := Lib.hid (show Below w.heap.size w w2 from (alloc_below w _).trans (hb2.mono (by simp)))
      clear hr2 hb2 ho2 hx2
      go_wp2_with first
        | (refine wpList_put rfl 24 _ _ rfl w.heap.size [.int .i64 hh.kind, .string (strB hh.path), .int .i64 hh.method, .int .i64 hh.factor, .slice Ah nh ch, .int .i64 hh.rung, .int .i64 hh.time, .int .i64 hh.now, .int .i64 hh.value] rfl rfl D2.out (by kernel_rfl) (by simp [Value.oneCell']) ?_; intro w3 hp3; have D3 := Lib.hid (show DVar w3 w.heap.size 9 from hp3.var); have B3 := Lib.hid (hp3.below (Nat.le_refl _) B2.out); clear hp3 D2)
        | (refine wpList_put rfl 24 _ _ rfl w.heap.size [.int .i64 0, .string ByteArray.empty, .int .i64 0, .int .i64 0, .slice none 0 0, .int .i64 0, .int .i64 0, .int .i64 0, .int .i64 0] rfl rfl D3.out (by kernel_rfl) (by simp [Value.oneCell']) ?_; intro w9 hp9; obtain ⟨x0, x1, x2, x3, x4, x5, x6, x7, x8⟩ := Holds.nine hp9.at_; have B9 := Lib.hid (hp9.below (Nat.le_refl _) B3.out); clear hp9)
      exact bodyPost_ret (v := .tuple #[.agg #[.int .i64 0, .string ByteArray.empty, .int .i64 0, .int .i64 0, .slice none 0 0, .int .i64 0, .int .i64 0, .int .i64 0, .int .i64 0], .slice none 0 0, .int .i64 0, .int .i64 7]) (by simp [results, Tryd.results16, go_sem, x0, x1, x2, x3, x4, x5, x6, x7, x8]) rfl ⟨_, _, rfl, (zero_new w.heap.size _).apart, RsNew.nil _ _, B9.out⟩
  case inl =>
    change k1 = true at h2a
    change hh.kind = 1 at h2b
    change T = (hh, (sCut (l.drop s1)).1, s1 + (sCut (l.drop s1)).2, 0) at h2
    have hkk : (hh.kind != 1) = false := by rw [h2b]; rfl
    have hs1 : s1 ≤ n := hz1 h2a
    have HT2 := Lib.hid h2; have HK1 := Lib.hid h2a
    obtain ⟨i0, hi0, hzz0, hzz1, hzz2⟩ := info_parts (P := Tryd.prog) (e := 24) (z := .agg #[.int .i64 0, .string ⟨#[]⟩, .int .i64 0, .int .i64 0, .slice none 0 0, .int .i64 0, .int .i64 0, .int .i64 0, .int .i64 0]) (size := 9) (bytes := 96) (by kernel_rfl)
    clear hF hT hfm hmk hnh ho hb hG hn h2a h2b h2 hz1
    go_enter Tryd.func16, Tryd.ntmps16
    go_wp2_with fail
    refine (F1.out _ _ (HG.out.alloc _) (HOA.out _)).mono ?_; rintro _ w2 ⟨v2, x2, rfl, hx2, hr2, hb2⟩
    obtain rfl : x2 = 0 := hx2.2 HK1.out
    obtain ⟨Ah, ch, rfl, ho2⟩ := HFM.out _ _ _ (hr2.mono (B := w.heap.size + 1) (by simp))
    have D2 := Lib.hid ((HV.out w).below hb2); have B2 := Lib.hid (show Below w.heap.size w w2 from (alloc_below w _).trans (hb2.mono (by simp)))
    have S2 := Lib.hid (show w.heap.size + 1 ≤ w2.heap.size by have := hb2.size; simp at this; omega)
    have R2 := Lib.hid ho2
    clear hr2 hb2 ho2 hx2
    go_wp2_with (refine wpList_put rfl 24 _ _ rfl w.heap.size [.int .i64 hh.kind, .string (strB hh.path), .int .i64 hh.method, .int .i64 hh.factor, .slice Ah nh ch, .int .i64 hh.rung, .int .i64 hh.time, .int .i64 hh.now, .int .i64 hh.value] rfl rfl D2.out (by kernel_rfl) (by simp [Value.oneCell']) ?_; intro w3 hp3; have y0 := hp3.at_ 0 _ rfl; have D3 := Lib.hid (show DVar w3 w.heap.size 9 from hp3.var); have B3 := Lib.hid (hp3.below (Nat.le_refl _) B2.out); have A3 := Lib.hid hp3.at_; have R3 := Lib.hid (R2.out.grown hp3.grown (fun g e => by injection e; omega)); have S3 := Lib.hid (show w.heap.size + 1 ≤ w3.heap.size by rw [hp3.size]; exact S2.out); clear hp3)
    have I3 := Lib.hid (show ScI l s1 hh w (w.heap.size + 1) w.heap.size (.slice Ah nh ch) w3 (.slice none 0 0) [] s1 from
      ⟨ScanSt.start (by rw [HL.out]; exact hs1), RsNew.nil _ _, by have h := A3.out; exact h, D3.out, (RgNew.apart (show RgNew (w.heap.size + 1) w3 (.slice Ah nh ch) hh.rungs from R3.out) (Nat.le_refl _) (fun g e => by cases e)), B3.out, by omega, by omega, S3.out⟩)
    clear y0 D2 B2 S2 R2 D3 B3 A3 R3 S3
    go_loopw [3, 4, 6, 7, 8] (fun lv sv _ _ _ wr => ∃ (acc : List PR) (k : Nat) (vr : Value), lv = vr ∧ sv = .int .i64 k ∧ k ≤ n ∧ Hid (ScI l s1 hh w (w.heap.size + 1) w.heap.size (.slice Ah nh ch) wr vr acc k)) (fun _ sv _ _ _ _ => n - (intOf sv).toNat)
    case atStart => exact ⟨[], s1, _, rfl, rfl, hs1, I3.out⟩
    case round =>
      clear I3
      obtain ⟨acc, k, vr, rfl, rfl, hk, HI⟩ := hrel
      have hki : (k : Int) ≤ (n : Int) := by omega
      have hkc : (k : Int) ≤ (c : Int) := by omega
      have hsz := fun h => sOne_size (b := l.drop k) h
      have hnx := fun h => ScanSt.next HI.out.st h
      have hst := fun h => ScanSt.stop HI.out.st h
      have hdl : (l.drop k).length = n - k := by rw [List.length_drop, HL.out]
      obtain ⟨⟨rr, s, kk⟩, hF2⟩ : ∃ x, sOne (l.drop k) = x := ⟨_, rfl⟩
      rw [hF2] at hsz hnx hst
      rw [hdl] at hsz
      have F2 := Lib.hid (fun (v : Value) (W : World) (g : G W) (h : ByOut W v (l.drop k)) => by
        have h2 := first_c v (l.drop k) (HB.out.drops _) W g h
        rw [hF2] at h2
        exact h2)
      have hfm2 : ∀ (B : Nat) (W : World) (v : Value), RcNew B W v rr → ∃ A c, v = .agg #[.int .i64 rr.kind, .string (strB rr.path), .int .i64 rr.method, .int .i64 rr.factor, .slice A rr.rungs.length c, .int .i64 rr.rung, .int .i64 rr.time, .int .i64 rr.now, .int .i64 rr.value] ∧ RgNew B W (.slice A rr.rungs.length c) rr.rungs := fun B W v h => rc_form h
      obtain ⟨nr, hnr⟩ : ∃ n, rr.rungs.length = n := ⟨_, rfl⟩
      rw [hnr] at hfm2
      have HFM2 := Lib.hid hfm2
      have HRCC := Lib.hid (show ∀ (Ar : Option Addr) (cr : Nat), rcC (.slice Ar nr cr) rr = [.int .i64 rr.kind, .string (strB rr.path), .int .i64 rr.method, .int .i64 rr.factor, .slice Ar nr cr, .int .i64 rr.rung, .int .i64 rr.time, .int .i64 rr.now, .int .i64 rr.value] from fun Ar cr => rfl)
      have HSZ := Lib.hid hsz; have HNX := Lib.hid hnx; have HST := Lib.hid hst
      clear hF2 hfm2 hnr hsz hnx hst hdl
      by_cases hck : c = k
      · obtain rfl : k = c := hck.symm
        have DR := Lib.hid (ByOut.dropNil (A' := A) (c' := 0) HO.out (show n ≤ k by omega) wr)
        by_cases hgo : kk = true
        · have := (HSZ.out hgo).2.1
          have h7 := (HSZ.out hgo).1
          exact absurd this (by show ¬ s ≤ n - k; change 7 ≤ s at h7; omega)
        · have ST := Lib.hid (HST.out (fun g => hgo g.1))
          have HGO := Lib.hid hgo
          clear hgo hck
          go_wp2_with fail
          refine (F2.out _ _ (HG.out.below HI.out.below) DR.out).mono ?_; rintro _ w4 ⟨v4, x4, rfl, hx4, hr4, hb4⟩
          have hq4 : (x4 != 0) = true := by rw [bne_iff_ne]; exact fun g => HGO.out (hx4.1 g)
          obtain ⟨Ar, cr, rfl, ho4⟩ := HFM2.out _ _ _ hr4
          have I4 := Lib.hid (HI.out.next hb4)
          clear hx4 hr4 hb4 ho4 HI
          go_wp2_with first
            | (refine wpList_put rfl 24 _ _ rfl w4.heap.size [.int .i64 rr.kind, .string (strB rr.path), .int .i64 rr.method, .int .i64 rr.factor, .slice Ar nr cr, .int .i64 rr.rung, .int .i64 rr.time, .int .i64 rr.now, .int .i64 rr.value] rfl rfl (HV.out w4) (by kernel_rfl) (by simp [Value.oneCell']) ?_; intro w5 hp5; have z0 := hp5.at_ 0 _ rfl; have I5 := Lib.hid (I4.out.next (var_put hp5)); obtain ⟨y0, y1, y2, y3, y4, y5, y6, y7, y8⟩ := Holds.nine (show Holds w5 w.heap.size [.int .i64 hh.kind, .string (strB hh.path), .int .i64 hh.method, .int .i64 hh.factor, .slice Ah nh ch, .int .i64 hh.rung, .int .i64 hh.time, .int .i64 hh.now, .int .i64 hh.value] from I5.out.bx); clear hp5)
            | (refine wpList_put rfl 24 _ _ rfl w.heap.size [.int .i64 hh.kind, .string (strB hh.path), .int .i64 hh.method, .int .i64 hh.factor, .slice Ah nh ch, .int .i64 hh.rung, .int .i64 hh.time, .int .i64 hh.now, .int .i64 hh.value] rfl rfl I5.out.d0 (by kernel_rfl) (by simp [Value.oneCell']) ?_; intro w6 hp6; obtain ⟨x0, x1, x2, x3, x4, x5, x6, x7, x8⟩ := Holds.nine hp6.at_; have B6 := Lib.hid (hp6.below (Nat.le_refl _) I5.out.below); have RO6 := Lib.hid (RsNew.mono (I5.out.row.kept hp6.grown (by omega)) (show w.heap.size ≤ _ by omega)); have RH6 := Lib.hid (show RgApart (w.heap.size + 1) u3.ownBlock w6 (.slice Ah nh ch) hh.rungs from I5.out.ap.kept hp6.grown (by omega)); clear hp6)
          have hTT := HT2.out
          rw [ST.out.1, ST.out.2] at hTT
          subst hTT
          exact bodyPost_ret (v := .tuple #[.agg #[.int .i64 hh.kind, .string (strB hh.path), .int .i64 hh.method, .int .i64 hh.factor, .slice Ah nh ch, .int .i64 hh.rung, .int .i64 hh.time, .int .i64 hh.now, .int .i64 hh.value], u3, .int .i64 (k : Nat), .int .i64 0]) (by simp [results, Tryd.results16, go_sem, x0, x1, x2, x3, x4, x5, x6, x7, x8]) rfl ⟨_, u3, rfl, HMP.out _ _ _ (RH6.out.forget (Nat.le_succ _)), RO6.out, B6.out⟩
      · have hkc2 : ¬ c = k := hck
        have DR := Lib.hid (ByOut.dropAt (HO.out.below HI.out.below) hk hkc2)
        by_cases hgo : kk = true
        · by_cases hkd : rr.kind = 1
          · have hqk : (rr.kind == 1) = true := by rw [hkd]; rfl
            have ST := Lib.hid (HST.out (fun g => g.2 hkd))
            have HGO := Lib.hid hgo
            clear hgo hck hkd
            go_wp2_with fail
            refine (F2.out _ _ (HG.out.below HI.out.below) DR.out).mono ?_; rintro _ w4 ⟨v4, x4, rfl, hx4, hr4, hb4⟩
            obtain rfl : x4 = 0 := hx4.2 HGO.out
            obtain ⟨Ar, cr, rfl, ho4⟩ := HFM2.out _ _ _ hr4
            have I4 := Lib.hid (HI.out.next hb4)
            clear hx4 hr4 hb4 ho4 HI
            go_wp2_with first
              | (refine wpList_put rfl 24 _ _ rfl w4.heap.size [.int .i64 rr.kind, .string (strB rr.path), .int .i64 rr.method, .int .i64 rr.factor, .slice Ar nr cr, .int .i64 rr.rung, .int .i64 rr.time, .int .i64 rr.now, .int .i64 rr.value] rfl rfl (HV.out w4) (by kernel_rfl) (by simp [Value.oneCell']) ?_; intro w5 hp5; have z0 := hp5.at_ 0 _ rfl; have I5 := Lib.hid (I4.out.next (var_put hp5)); obtain ⟨y0, y1, y2, y3, y4, y5, y6, y7, y8⟩ := Holds.nine (show Holds w5 w.heap.size [.int .i64 hh.kind, .string (strB hh.path), .int .i64 hh.method, .int .i64 hh.factor, .slice Ah nh ch, .int .i64 hh.rung, .int .i64 hh.time, .int .i64 hh.now, .int .i64 hh.value] from I5.out.bx); clear hp5)
              | (refine wpList_put rfl 24 _ _ rfl w.heap.size [.int .i64 hh.kind, .string (strB hh.path), .int .i64 hh.method, .int .i64 hh.factor, .slice Ah nh ch, .int .i64 hh.rung, .int .i64 hh.time, .int .i64 hh.now, .int .i64 hh.value] rfl rfl I5.out.d0 (by kernel_rfl) (by simp [Value.oneCell']) ?_; intro w6 hp6; obtain ⟨x0, x1, x2, x3, x4, x5, x6, x7, x8⟩ := Holds.nine hp6.at_; have B6 := Lib.hid (hp6.below (Nat.le_refl _) I5.out.below); have RO6 := Lib.hid (RsNew.mono (I5.out.row.kept hp6.grown (by omega)) (show w.heap.size ≤ _ by omega)); have RH6 := Lib.hid (show RgApart (w.heap.size + 1) u3.ownBlock w6 (.slice Ah nh ch) hh.rungs from I5.out.ap.kept hp6.grown (by omega)); clear hp6)
            have hTT := HT2.out
            rw [ST.out.1, ST.out.2] at hTT
            subst hTT
            exact bodyPost_ret (v := .tuple #[.agg #[.int .i64 hh.kind, .string (strB hh.path), .int .i64 hh.method, .int .i64 hh.factor, .slice Ah nh ch, .int .i64 hh.rung, .int .i64 hh.time, .int .i64 hh.now, .int .i64 hh.value], u3, .int .i64 (k : Nat), .int .i64 0]) (by simp [results, Tryd.results16, go_sem, x0, x1, x2, x3, x4, x5, x6, x7, x8]) rfl ⟨_, u3, rfl, HMP.out _ _ _ (RH6.out.forget (Nat.le_succ _)), RO6.out, B6.out⟩
          · have hqk : (rr.kind == 1) = false := beq_false_of_ne hkd
            have hz2 := HSZ.out hgo
            have hs7 : 7 ≤ s := hz2.1
            have hks : k + s ≤ n := by have : s ≤ n - k := hz2.2.1; omega
            have hksi : (k : Int) + (s : Int) ≤ (n : Int) := by omega
            have NX := Lib.hid (show ScanSt l s1 (acc ++ [rr]) (k + s) from HNX.out ⟨hgo, hkd⟩)
            have h7 : 7 * acc.length ≤ k := HI.out.st.2.2.1
            have HGO := Lib.hid hgo
            clear hgo hck hkd hz2
            go_wp2_with fail
            refine (F2.out _ _ (HG.out.below HI.out.below) DR.out).mono ?_; rintro _ w4 ⟨v4, x4, rfl, hx4, hr4, hb4⟩
            obtain rfl : x4 = 0 := hx4.2 HGO.out
            obtain ⟨Ar, cr, rfl, ho4⟩ := HFM2.out _ _ _ hr4
            have I4 := Lib.hid (HI.out.next hb4)
            obtain ⟨us, hm4, hu4, hr5⟩ := HI.out.row
            have hap := ho4.apart (M := w.heap.size + 1) HI.out.h3 (row := u3.ownBlock) (fun g hg => ownsRow_lt hu4 hg)
            have AP4 := Lib.hid hap; have M4 := Lib.hid hm4; have U4 := Lib.hid (ownsRow_below hu4 hb4); have R4 := Lib.hid (show ∀ x ∈ us, RgApart (w.heap.size + 1) u3.ownBlock w4 x.1 x.2.rungs from fun x hx => (hr5 x hx).below hb4)
            clear hx4 hr4 hb4 ho4 hm4 hu4 hr5 hap HI
            go_wp2_with first
              | (refine wpList_put rfl 24 _ _ rfl w4.heap.size [.int .i64 rr.kind, .string (strB rr.path), .int .i64 rr.method, .int .i64 rr.factor, .slice Ar nr cr, .int .i64 rr.rung, .int .i64 rr.time, .int .i64 rr.now, .int .i64 rr.value] rfl rfl (HV.out w4) (by kernel_rfl) (by simp [Value.oneCell']) ?_; intro w5 hp5; obtain ⟨y0, y1, y2, y3, y4, y5, y6, y7, y8⟩ := Holds.nine hp5.at_; have VP := Lib.hid (var_put hp5); have I5 := Lib.hid (I4.out.next VP.out); have U5 := Lib.hid (ownsRow_below U4.out VP.out); have R5 := Lib.hid (show ∀ x ∈ us, RgApart (w.heap.size + 1) u3.ownBlock w5 x.1 x.2.rungs from fun x hx => (R4.out x hx).below VP.out); have AP5 := Lib.hid (AP4.out.below VP.out); clear hp5)
              | (at_builtin; refine wpList_append_any _ rfl (.tmp 41) (.tmp 43) _ rfl (w.heap.size + 1) 24 i0 (.agg #[.int .i64 0, .string ⟨#[]⟩, .int .i64 0, .int .i64 0, .slice none 0 0, .int .i64 0, .int .i64 0, .int .i64 0, .int .i64 0]) 9 96 Tryd.underlying33 hi0 hzz0 hzz1 hzz2 rfl (by decide) u3 acc.length (rsC us) rfl (World.ownsRow.alloc U5.out _) _ (some ⟨w5.heap.size, 0, none⟩) 1 1 [.int .i64 rr.kind, .string (strB rr.path), .int .i64 rr.method, .int .i64 rr.factor, .slice Ar nr cr, .int .i64 rr.rung, .int .i64 rr.time, .int .i64 rr.now, .int .i64 rr.value] rfl (Reads.of_own (World.ownsRow_lit (base := 0) (e := 24) (size := 9) w5 #[.int .i64 rr.kind, .string (strB rr.path), .int .i64 rr.method, .int .i64 rr.factor, .slice Ar nr cr, .int .i64 rr.rung, .int .i64 rr.time, .int .i64 rr.now, .int .i64 rr.value] 1 (Nat.zero_le _) (by decide) rfl)) (by simp [Value.oneCell']) (by simp only [maxLen]; omega) (by omega) (by have := I5.out.h3; simp; omega) ?_; intro v6 w6 hown6 hg6 hat6)
            have I6 := Lib.hid (I5.out.push M4.out R5.out U5.out (u := .slice Ar nr cr) (r := rr) AP5.out hg6 (by rw [HRCC.out]; exact hown6) hat6 NX.out)
            clear hown6 hg6 hat6 y0 y1 y2 y3 y4 y5 y6 y7 y8
            go_wp2
            go_roundw
            case rel => exact ⟨acc ++ [rr], k + s, _, rfl, by go_num, hks, I6.out⟩
            case measure => simp [intOf]; omega
        · have ST := Lib.hid (HST.out (fun g => hgo g.1))
          have HGO := Lib.hid hgo
          clear hgo hck
          go_wp2_with fail
          refine (F2.out _ _ (HG.out.below HI.out.below) DR.out).mono ?_; rintro _ w4 ⟨v4, x4, rfl, hx4, hr4, hb4⟩
          have hq4 : (x4 != 0) = true := by rw [bne_iff_ne]; exact fun g => HGO.out (hx4.1 g)
          obtain ⟨Ar, cr, rfl, ho4⟩ := HFM2.out _ _ _ hr4
          have I4 := Lib.hid (HI.out.next hb4)
          clear hx4 hr4 hb4 ho4 HI
          go_wp2_with first
            | (refine wpList_put rfl 24 _ _ rfl w4.heap.size [.int .i64 rr.kind, .string (strB rr.path), .int .i64 rr.method, .int .i64 rr.factor, .slice Ar nr cr, .int .i64 rr.rung, .int .i64 rr.time, .int .i64 rr.now, .int .i64 rr.value] rfl rfl (HV.out w4) (by kernel_rfl) (by simp [Value.oneCell']) ?_; intro w5 hp5; have z0 := hp5.at_ 0 _ rfl; have I5 := Lib.hid (I4.out.next (var_put hp5)); obtain ⟨y0, y1, y2, y3, y4, y5, y6, y7, y8⟩ := Holds.nine (show Holds w5 w.heap.size [.int .i64 hh.kind, .string (strB hh.path), .int .i64 hh.method, .int .i64 hh.factor, .slice Ah nh ch, .int .i64 hh.rung, .int .i64 hh.time, .int .i64 hh.now, .int .i64 hh.value] from I5.out.bx); clear hp5)
            | (refine wpList_put rfl 24 _ _ rfl w.heap.size [.int .i64 hh.kind, .string (strB hh.path), .int .i64 hh.method, .int .i64 hh.factor, .slice Ah nh ch, .int .i64 hh.rung, .int .i64 hh.time, .int .i64 hh.now, .int .i64 hh.value] rfl rfl I5.out.d0 (by kernel_rfl) (by simp [Value.oneCell']) ?_; intro w6 hp6; obtain ⟨x0, x1, x2, x3, x4, x5, x6, x7, x8⟩ := Holds.nine hp6.at_; have B6 := Lib.hid (hp6.below (Nat.le_refl _) I5.out.below); have RO6 := Lib.hid (RsNew.mono (I5.out.row.kept hp6.grown (by omega)) (show w.heap.size ≤ _ by omega)); have RH6 := Lib.hid (show RgApart (w.heap.size + 1) u3.ownBlock w6 (.slice Ah nh ch) hh.rungs from I5.out.ap.kept hp6.grown (by omega)); clear hp6)
          have hTT := HT2.out
          rw [ST.out.1, ST.out.2] at hTT
          subst hTT
          exact bodyPost_ret (v := .tuple #[.agg #[.int .i64 hh.kind, .string (strB hh.path), .int .i64 hh.method, .int .i64 hh.factor, .slice Ah nh ch, .int .i64 hh.rung, .int .i64 hh.time, .int .i64 hh.now, .int .i64 hh.value], u3, .int .i64 (k : Nat), .int .i64 0]) (by simp [results, Tryd.results16, go_sem, x0, x1, x2, x3, x4, x5, x6, x7, x8]) rfl ⟨_, u3, rfl, HMP.out _ _ _ (RH6.out.forget (Nat.le_succ _)), RO6.out, B6.out⟩
theorem scan_c (v : Value) (l : List Nat) (hb : Bytes l) (hl : l.length ≤ 91000) (w : World) (hG : G w) (ho : ByOut w v l) :
    Calls Tryd.prog 16 #[v] w fun e w' => ∃ v' vl, e = .returned (.tuple #[v', vl, .int .i64 ((sScan l).2.2.1 : Nat), .int .i64 (sScan l).2.2.2]) ∧ RcOut w' v' (sScan l).1 ∧ RsOut w' vl (sScan l).2.1 ∧ Below w.heap.size w w' :=
  (scan_n v l hb hl w hG ho).mono fun e W' h => by
    obtain ⟨v', vl, he, h1, h2, h3⟩ := h
    exact ⟨v', vl, he, h1.out, h2.out, h3⟩
end Go.Proofs.YtabbpgnenmpacaaDoor.SP
