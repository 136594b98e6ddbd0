/-
  Contracts of the document's own functions of layer 8 (isobarref08): Scan.
-/
import Derived.Test.YtabbpgnenmpacaaDoorSegTkM
import Derived.Test.YtabbpgnenmpacaaDoorFrmRefM
import Derived.Test.YtabbpgnenmpacaaDoorSegPQM
set_option linter.unusedSimpArgs false
set_option linter.unusedVariables false
namespace Go.Proofs.YtabbpgnenmpacaaDoor.SR
open Go Go.RowKit
open CR (below_next own_ge u8_wrap)
open SP (zero_new fTake_bytes sOne_three sScan_two var_put)
theorem rc_form {B : Nat} {w : World} {v : Value} {r : PR} (h : RcNew B w v r) : ∃ A c, v = .agg #[.int .i64 r.kind, .string (strB r.path), .int .i64 r.method, .int .i64 r.factor, .slice A r.rungs.length c, .int .i64 r.rung, .int .i64 r.time, .int .i64 r.now, .int .i64 r.value] ∧ RgNew B w (.slice A r.rungs.length c) r.rungs := SP.rc_form h
set_option maxRecDepth 100000 in
set_option maxHeartbeats 4000000 in
theorem scan_c (v : Value) (l : List Nat) (hb : Bytes l) (hl : l.length ≤ 91000) (w : World) (ho : ByOut w v l) :
    Calls Tryd.prog 17 #[v] w fun e w' => ∃ v' vl, e = .returned (.tuple #[v', vl, .int .i64 ((sScan l).2.2.1 : Nat), .int .i64 (sScan l).2.2.2]) ∧ RcOut w' v' (sScan l).1 ∧ RsOut w' vl (sScan l).2.1 ∧ Below w.heap.size w w' := by
  have FT := Lib.hid (fun (W : World) (h : ByOut W v l) => FR.take_c v l hb W h)
  have TK := Lib.hid (fun (v : Value) (W : World) (h : ByOut W v (fTake l).1) => take_c v (fTake l).1 (fTake_bytes hb) (by have := fTake_len l; omega) W h)
  have h2 := sScan_two l
  have h3 := sOne_three l
  have hz1 : ((sOne l).2.2 = true) → (sOne l).2.1 ≤ l.length := fun h => (sOne_size h).2.1
  obtain ⟨⟨P, sz, er⟩, hF⟩ : ∃ x, fTake l = x := ⟨_, rfl⟩
  rw [hF] at FT TK h3
  obtain ⟨⟨hh, e2⟩, hR⟩ : ∃ x, rTake P = x := ⟨_, rfl⟩
  change Hid (∀ (v : Value) (W : World) (h : ByOut W v P), Calls Tryd.prog 36 #[v] W fun e w' => ∃ v', e = .returned (.tuple #[v', .int .i64 (rTake P).2]) ∧ RcNew W.heap.size w' v' (rTake P).1 ∧ Below W.heap.size W w') at TK
  change (er ≠ 0 ∧ sOne l = (PR.zero, 0, false)) ∨ (er = 0 ∧ (rTake P).2 ≠ 0 ∧ sOne l = (PR.zero, 0, false)) ∨ (er = 0 ∧ (rTake P).2 = 0 ∧ sOne l = ((rTake P).1, sz, true)) at h3
  rw [hR] at TK h3
  obtain ⟨T, hT⟩ : ∃ x, sScan l = x := ⟨_, rfl⟩
  rw [hT] at h2 ⊢
  have HB := Lib.hid hb
  have HV := Lib.hid (fun (W : World) => DVar.alloc (w := W) ([.int .i64 0, .string ⟨#[]⟩, .int .i64 0, .int .i64 0, .slice none 0 0, .int .i64 0, .int .i64 0, .int .i64 0, .int .i64 0] : List Value).toArray 24)
  obtain ⟨A, c, rfl, hc, _⟩ := id ho
  obtain ⟨n, hn⟩ : ∃ n, l.length = n := ⟨_, rfl⟩
  rw [hn] at ho hc hl hz1 FT ⊢
  have HO := Lib.hid ho; have HL := Lib.hid hn
  have HOA := Lib.hid (show ∀ o : Obj, ByOut (w.alloc o) (.slice A n c) l from fun o => ho.below (alloc_below w o))
  have hfm : ∀ (B : Nat) (W : World) (v : Value), RcNew B W v hh → ∃ A c, v = .agg #[.int .i64 hh.kind, .string (strB hh.path), .int .i64 hh.method, .int .i64 hh.factor, .slice A hh.rungs.length c, .int .i64 hh.rung, .int .i64 hh.time, .int .i64 hh.now, .int .i64 hh.value] ∧ RgNew B W (.slice A hh.rungs.length c) hh.rungs := fun B W v h => rc_form h
  have hmk : ∀ (W : World) (A : Option Addr) (c : Nat), RgOut W (.slice A hh.rungs.length c) hh.rungs → RcOut W (.agg #[.int .i64 hh.kind, .string (strB hh.path), .int .i64 hh.method, .int .i64 hh.factor, .slice A hh.rungs.length c, .int .i64 hh.rung, .int .i64 hh.time, .int .i64 hh.now, .int .i64 hh.value]) hh := fun W A c h => ⟨_, rfl, h⟩
  obtain ⟨nh, hnh⟩ : ∃ n, hh.rungs.length = n := ⟨_, rfl⟩
  rw [hnh] at hfm hmk
  have HFM := Lib.hid hfm; have HMK := Lib.hid hmk; have HNH := Lib.hid hnh
  rcases h3 with ⟨h1, hs⟩ | ⟨h1, h1b, hs⟩ | ⟨h1, h1b, hs⟩
  · rw [hs] at h2
    have hq : (er != 0) = true := by rw [bne_iff_ne]; exact h1
    have e : T = (PR.zero, [], 0, 7) := by
      rcases h2 with ⟨⟨g, _⟩, _⟩ | ⟨_, g⟩
      · cases g
      · exact g
    subst e
    clear hF hT hfm hmk hnh ho hb hn h1 hs h2 hz1 hR
    go_enter Tryd.func17, Tryd.ntmps17
    go_wp2_with fail
    refine (FT.out _ (HOA.out _)).mono ?_; rintro _ w2 ⟨v2, rfl, hf2, hb2⟩
    have D2 := Lib.hid ((HV.out w).below hb2); have B2 := Lib.hid (show Below w.heap.size w w2 from (alloc_below w _).trans (hb2.mono (by simp))); have S2 := Lib.hid (show w.heap.size + 1 ≤ w2.heap.size by have := hb2.size; simp at this; omega)
    have O2 := Lib.hid hf2.out
    clear hf2 hb2
    go_wp2_with (refine wpList_put rfl 24 _ _ rfl w.heap.size [.int .i64 0, .string ByteArray.empty, .int .i64 0, .int .i64 0, .slice none 0 0, .int .i64 0, .int .i64 0, .int .i64 0, .int .i64 0] rfl rfl D2.out (by kernel_rfl) (by simp [Value.oneCell']) ?_; intro w9 hp9; obtain ⟨x0, x1, x2, x3, x4, x5, x6, x7, x8⟩ := Holds.nine hp9.at_; have B9 := Lib.hid (hp9.below (Nat.le_refl _) B2.out); clear hp9)
    exact bodyPost_ret (v := .tuple #[.agg #[.int .i64 0, .string ByteArray.empty, .int .i64 0, .int .i64 0, .slice none 0 0, .int .i64 0, .int .i64 0, .int .i64 0, .int .i64 0], .slice none 0 0, .int .i64 0, .int .i64 7]) (by simp [results, Tryd.results17, go_sem, x0, x1, x2, x3, x4, x5, x6, x7, x8]) rfl ⟨_, _, rfl, (zero_new 0 _).out, RsOut.nil _, B9.out⟩
  · rw [hs] at h2
    have hq : (er != 0) = false := by rw [h1]; rfl
    have hq2 : (e2 != 0) = true := by rw [bne_iff_ne]; exact h1b
    have e : T = (PR.zero, [], 0, 7) := by
      rcases h2 with ⟨⟨g, _⟩, _⟩ | ⟨_, g⟩
      · cases g
      · exact g
    subst e
    clear hF hT hfm hmk hnh ho hb hn h1 h1b hs h2 hz1 hR
    go_enter Tryd.func17, Tryd.ntmps17
    go_wp2_with fail
    refine (FT.out _ (HOA.out _)).mono ?_; rintro _ w2 ⟨v2, rfl, hf2, hb2⟩
    have D2 := Lib.hid ((HV.out w).below hb2); have B2 := Lib.hid (show Below w.heap.size w w2 from (alloc_below w _).trans (hb2.mono (by simp))); have S2 := Lib.hid (show w.heap.size + 1 ≤ w2.heap.size by have := hb2.size; simp at this; omega)
    have O2 := Lib.hid hf2.out
    clear hf2 hb2
    go_wp2_with fail
    refine (TK.out _ _ O2.out).mono ?_; rintro _ w3 ⟨v3, rfl, hr3, hb3⟩
    obtain ⟨Ah, ch, rfl, ho3⟩ := HFM.out _ _ _ (hr3.mono S2.out)
    have R3 := Lib.hid ho3; have D3 := Lib.hid (D2.out.below hb3); have B3 := Lib.hid (below_next B2.out hb3); have S3 := Lib.hid (Nat.le_trans S2.out hb3.size)
    clear hr3 hb3 ho3
    go_wp2_with first
      | (refine wpList_put rfl 24 _ _ rfl w3.heap.size [.int .i64 hh.kind, .string (strB hh.path), .int .i64 hh.method, .int .i64 hh.factor, .slice Ah nh ch, .int .i64 hh.rung, .int .i64 hh.time, .int .i64 hh.now, .int .i64 hh.value] rfl rfl (HV.out w3) (by kernel_rfl) (by simp [Value.oneCell']) ?_; intro w4 hp4; have BP4 := Lib.hid (var_put hp4); have D4 := Lib.hid (D3.out.below BP4.out); have B4 := Lib.hid (below_next B3.out BP4.out); clear hp4 D2 D3)
      | (refine wpList_put rfl 24 _ _ rfl w.heap.size [.int .i64 0, .string ByteArray.empty, .int .i64 0, .int .i64 0, .slice none 0 0, .int .i64 0, .int .i64 0, .int .i64 0, .int .i64 0] rfl rfl D4.out (by kernel_rfl) (by simp [Value.oneCell']) ?_; intro w9 hp9; obtain ⟨x0, x1, x2, x3, x4, x5, x6, x7, x8⟩ := Holds.nine hp9.at_; have B9 := Lib.hid (hp9.below (Nat.le_refl _) B4.out); clear hp9)
    exact bodyPost_ret (v := .tuple #[.agg #[.int .i64 0, .string ByteArray.empty, .int .i64 0, .int .i64 0, .slice none 0 0, .int .i64 0, .int .i64 0, .int .i64 0, .int .i64 0], .slice none 0 0, .int .i64 0, .int .i64 7]) (by simp [results, Tryd.results17, go_sem, x0, x1, x2, x3, x4, x5, x6, x7, x8]) rfl ⟨_, _, rfl, (zero_new 0 _).out, RsOut.nil _, B9.out⟩
  · rw [hs] at h2 hz1
    have hq : (er != 0) = false := by rw [h1]; rfl
    have hq2 : (e2 != 0) = false := by rw [show e2 = 0 from h1b]; rfl
    by_cases hkd : hh.kind = 1
    case neg =>
      have hkk : (hh.kind != 1) = true := by rw [bne_iff_ne]; exact hkd
      have e : T = (PR.zero, [], 0, 7) := by
        rcases h2 with ⟨⟨_, g⟩, _⟩ | ⟨_, g⟩
        · exact absurd g hkd
        · exact g
      subst e
      clear hF hT hfm hmk hnh ho hb hn h1 h1b hs h2 hz1 hR hkd
      go_enter Tryd.func17, Tryd.ntmps17
      go_wp2_with fail
      refine (FT.out _ (HOA.out _)).mono ?_; rintro _ w2 ⟨v2, rfl, hf2, hb2⟩
      have D2 := Lib.hid ((HV.out w).below hb2); have B2 := Lib.hid (show Below w.heap.size w w2 from (alloc_below w _).trans (hb2.mono (by simp))); have S2 := Lib.hid (show w.heap.size + 1 ≤ w2.heap.size by have := hb2.size; simp at this; omega)
      have O2 := Lib.hid hf2.out
      clear hf2 hb2
      go_wp2_with fail
      refine (TK.out _ _ O2.out).mono ?_; rintro _ w3 ⟨v3, rfl, hr3, hb3⟩
      obtain ⟨Ah, ch, rfl, ho3⟩ := HFM.out _ _ _ (hr3.mono S2.out)
      have R3 := Lib.hid ho3; have D3 := Lib.hid (D2.out.below hb3); have B3 := Lib.hid (below_next B2.out hb3); have S3 := Lib.hid (Nat.le_trans S2.out hb3.size)
      clear hr3 hb3 ho3
      go_wp2_with first
        | (refine wpList_put rfl 24 _ _ rfl w3.heap.size [.int .i64 hh.kind, .string (strB hh.path), .int .i64 hh.method, .int .i64 hh.factor, .slice Ah nh ch, .int .i64 hh.rung, .int .i64 hh.time, .int .i64 hh.now, .int .i64 hh.value] rfl rfl (HV.out w3) (by kernel_rfl) (by simp [Value.oneCell']) ?_; intro w4 hp4; have z0 := hp4.at_ 0 _ rfl; have BP4 := Lib.hid (var_put hp4); have D4 := Lib.hid (D3.out.below BP4.out); have B4 := Lib.hid (below_next B3.out BP4.out); clear hp4 D2 D3)
        | (refine wpList_put rfl 24 _ _ rfl w.heap.size [.int .i64 0, .string ByteArray.empty, .int .i64 0, .int .i64 0, .slice none 0 0, .int .i64 0, .int .i64 0, .int .i64 0, .int .i64 0] rfl rfl D4.out (by kernel_rfl) (by simp [Value.oneCell']) ?_; intro w9 hp9; obtain ⟨x0, x1, x2, x3, x4, x5, x6, x7, x8⟩ := Holds.nine hp9.at_; have B9 := Lib.hid (hp9.below (Nat.le_refl _) B4.out); clear hp9)
      exact bodyPost_ret (v := .tuple #[.agg #[.int .i64 0, .string ByteArray.empty, .int .i64 0, .int .i64 0, .slice none 0 0, .int .i64 0, .int .i64 0, .int .i64 0, .int .i64 0], .slice none 0 0, .int .i64 0, .int .i64 7]) (by simp [results, Tryd.results17, go_sem, x0, x1, x2, x3, x4, x5, x6, x7, x8]) rfl ⟨_, _, rfl, (zero_new 0 _).out, RsOut.nil _, B9.out⟩
    case pos =>
      have hkk : (hh.kind != 1) = false := by rw [hkd]; rfl
      have e : T = (hh, (sCut (l.drop sz)).1, sz + (sCut (l.drop sz)).2, 0) := by
        rcases h2 with ⟨_, g⟩ | ⟨g, _⟩
        · exact g
        · exact absurd ⟨rfl, hkd⟩ g
      have hs1 : sz ≤ n := hz1 rfl
      have HT2 := Lib.hid e
      obtain ⟨i0, hi0, hzz0, hzz1, hzz2⟩ := info_parts (P := Tryd.prog) (e := 24) (z := .agg #[.int .i64 0, .string ⟨#[]⟩, .int .i64 0, .int .i64 0, .slice none 0 0, .int .i64 0, .int .i64 0, .int .i64 0, .int .i64 0]) (size := 9) (bytes := 96) (by kernel_rfl)
      clear hF hT hfm hmk hnh ho hb hn h1 h1b hs h2 hz1 hR hkd e
      go_enter Tryd.func17, Tryd.ntmps17
      go_wp2_with fail
      refine (FT.out _ (HOA.out _)).mono ?_; rintro _ w2 ⟨v2, rfl, hf2, hb2⟩
      have D2 := Lib.hid ((HV.out w).below hb2); have B2 := Lib.hid (show Below w.heap.size w w2 from (alloc_below w _).trans (hb2.mono (by simp))); have S2 := Lib.hid (show w.heap.size + 1 ≤ w2.heap.size by have := hb2.size; simp at this; omega)
      have O2 := Lib.hid hf2.out
      clear hf2 hb2
      go_wp2_with fail
      refine (TK.out _ _ O2.out).mono ?_; rintro _ w3 ⟨v3, rfl, hr3, hb3⟩
      obtain ⟨Ah, ch, rfl, ho3⟩ := HFM.out _ _ _ (hr3.mono S2.out)
      have R3 := Lib.hid ho3; have D3 := Lib.hid (D2.out.below hb3); have B3 := Lib.hid (below_next B2.out hb3); have S3 := Lib.hid (Nat.le_trans S2.out hb3.size)
      clear hr3 hb3 ho3
      go_wp2_with (refine wpList_put rfl 24 _ _ rfl w3.heap.size [.int .i64 hh.kind, .string (strB hh.path), .int .i64 hh.method, .int .i64 hh.factor, .slice Ah nh ch, .int .i64 hh.rung, .int .i64 hh.time, .int .i64 hh.now, .int .i64 hh.value] rfl rfl (HV.out w3) (by kernel_rfl) (by simp [Value.oneCell']) ?_; intro w4 hp4; have z0 := hp4.at_ 0 _ rfl; have BP4 := Lib.hid (var_put hp4); have A4 := Lib.hid hp4.at_; have S4 := Lib.hid (show w3.heap.size + 1 ≤ w4.heap.size by rw [hp4.size]; simp); clear hp4)
      have I3 := Lib.hid (show ScI l sz hh w (w3.heap.size + 1) w3.heap.size (.slice Ah nh ch) w4 (.slice none 0 0) [] sz from
        ⟨ScanSt.start (by rw [HL.out]; exact hs1), RsNew.nil _ _, by have h := A4.out; exact h, D3.out.below BP4.out, (RgNew.apart (show RgNew (w.heap.size + 1) w4 (.slice Ah nh ch) hh.rungs from R3.out.below BP4.out) (Nat.le_refl _) (fun g e => by cases e)), below_next B3.out BP4.out, by have := S3.out; omega, by omega, S4.out⟩)
      have HWB := Lib.hid (show w.heap.size < w3.heap.size by have := S3.out; omega)
      clear z0 D2 B2 S2 O2 D3 B3 A4 R3 S3 BP4 S4 TK
      go_loopw [7, 10, 11, 12, 13, 14] (fun sv lv _ _ _ _ wr => ∃ (acc : List PR) (k : Nat) (vr : Value), lv = vr ∧ sv = .int .i64 k ∧ k ≤ n ∧ Hid (ScI l sz hh w (w3.heap.size + 1) w3.heap.size (.slice Ah nh ch) wr vr acc k)) (fun sv _ _ _ _ _ _ => n - (intOf sv).toNat)
      case atStart => exact ⟨[], sz, _, rfl, rfl, hs1, I3.out⟩
      case round =>
        clear I3
        obtain ⟨acc, k, vr, rfl, rfl, hk, HI⟩ := hrel
        have hki : (k : Int) ≤ (n : Int) := by omega
        have hkc : (k : Int) ≤ (c : Int) := by omega
        have hsz := fun h => sOne_size (b := l.drop k) h
        have hnx := fun h => ScanSt.next HI.out.st h
        have hst := fun h => ScanSt.stop HI.out.st h
        have h3 := sOne_three (l.drop k)
        have hft := fun h => fTake_size (b := l.drop k) h
        have hdl : (l.drop k).length = n - k := by rw [List.length_drop, HL.out]
        have F2 := Lib.hid (fun (v : Value) (W : World) (h : ByOut W v (l.drop k)) => FR.take_c v (l.drop k) (HB.out.drops _) W h)
        have TK := Lib.hid (fun (v : Value) (W : World) (h : ByOut W v (fTake (l.drop k)).1) => take_c v (fTake (l.drop k)).1 (fTake_bytes (HB.out.drops _)) (by have := fTake_len (l.drop k); omega) W h)
        obtain ⟨⟨P2, s, er2⟩, hF2⟩ : ∃ x, fTake (l.drop k) = x := ⟨_, rfl⟩
        rw [hF2] at F2 TK h3 hft
        obtain ⟨⟨rr, e3⟩, hR2⟩ : ∃ x, rTake P2 = x := ⟨_, rfl⟩
        change Hid (∀ (v : Value) (W : World) (h : ByOut W v P2), Calls Tryd.prog 36 #[v] W fun e w' => ∃ v', e = .returned (.tuple #[v', .int .i64 (rTake P2).2]) ∧ RcNew W.heap.size w' v' (rTake P2).1 ∧ Below W.heap.size W w') at TK
        change (er2 ≠ 0 ∧ sOne (l.drop k) = (PR.zero, 0, false)) ∨ (er2 = 0 ∧ (rTake P2).2 ≠ 0 ∧ sOne (l.drop k) = (PR.zero, 0, false)) ∨ (er2 = 0 ∧ (rTake P2).2 = 0 ∧ sOne (l.drop k) = ((rTake P2).1, s, true)) at h3
        rw [hR2] at TK h3
        rw [hdl] at hsz hft
        have hfm2 : ∀ (B : Nat) (W : World) (v : Value), RcNew B W v rr → ∃ A c, v = .agg #[.int .i64 rr.kind, .string (strB rr.path), .int .i64 rr.method, .int .i64 rr.factor, .slice A rr.rungs.length c, .int .i64 rr.rung, .int .i64 rr.time, .int .i64 rr.now, .int .i64 rr.value] ∧ RgNew B W (.slice A rr.rungs.length c) rr.rungs := fun B W v h => rc_form h
        obtain ⟨nr, hnr⟩ : ∃ n, rr.rungs.length = n := ⟨_, rfl⟩
        rw [hnr] at hfm2
        have HFM2 := Lib.hid hfm2
        have HRCC := Lib.hid (show ∀ (Ar : Option Addr) (cr : Nat), rcC (.slice Ar nr cr) rr = [.int .i64 rr.kind, .string (strB rr.path), .int .i64 rr.method, .int .i64 rr.factor, .slice Ar nr cr, .int .i64 rr.rung, .int .i64 rr.time, .int .i64 rr.now, .int .i64 rr.value] from fun Ar cr => rfl)
        clear hF2 hfm2 hnr hdl hR2
        by_cases hck : c = k
        · obtain rfl : k = c := hck.symm
          have DR := Lib.hid (ByOut.dropNil (A' := A) (c' := 0) HO.out (show n ≤ k by omega) wr)
          rcases h3 with ⟨h4, hs⟩ | ⟨h4, h5, hs⟩ | ⟨h4, h5, hs⟩
          · rw [hs] at hst
            have hq4 : (er2 != 0) = true := by rw [bne_iff_ne]; exact h4
            have ST := Lib.hid (hst (fun g => by cases g.1))
            clear hst hnx hsz hft h4 hs hck
            go_wp2_with fail
            refine (F2.out _ _ DR.out).mono ?_; rintro _ w5 ⟨v5, rfl, hf5, hb5⟩
            have I5 := Lib.hid (HI.out.next hb5)
            obtain ⟨y0, y1, y2, y3, y4, y5, y6, y7, y8⟩ := Holds.nine (show Holds w5 w3.heap.size [.int .i64 hh.kind, .string (strB hh.path), .int .i64 hh.method, .int .i64 hh.factor, .slice Ah nh ch, .int .i64 hh.rung, .int .i64 hh.time, .int .i64 hh.now, .int .i64 hh.value] from I5.out.bx)
            clear hf5 hb5 HI
            go_wp2_with (refine wpList_put rfl 24 _ _ rfl w.heap.size [.int .i64 hh.kind, .string (strB hh.path), .int .i64 hh.method, .int .i64 hh.factor, .slice Ah nh ch, .int .i64 hh.rung, .int .i64 hh.time, .int .i64 hh.now, .int .i64 hh.value] rfl rfl I5.out.d0 (by kernel_rfl) (by simp [Value.oneCell']) ?_; intro w9 hp9; obtain ⟨x0, x1, x2, x3, x4, x5, x6, x7, x8⟩ := Holds.nine hp9.at_; have B9 := Lib.hid (hp9.below (Nat.le_refl _) I5.out.below); have RO9 := Lib.hid (RsNew.out (I5.out.row.kept hp9.grown (by have := HWB.out; omega))); have RH9 := Lib.hid (show RgApart (w.heap.size + 1) u10.ownBlock w9 (.slice Ah nh ch) hh.rungs from I5.out.ap.kept hp9.grown (by omega)); clear hp9)
            have hTT := HT2.out
            rw [ST.out.1, ST.out.2] at hTT
            subst hTT
            exact bodyPost_ret (v := .tuple #[.agg #[.int .i64 hh.kind, .string (strB hh.path), .int .i64 hh.method, .int .i64 hh.factor, .slice Ah nh ch, .int .i64 hh.rung, .int .i64 hh.time, .int .i64 hh.now, .int .i64 hh.value], u10, .int .i64 (k : Nat), .int .i64 0]) (by simp [results, Tryd.results17, go_sem, x0, x1, x2, x3, x4, x5, x6, x7, x8]) rfl ⟨_, u10, rfl, HMK.out _ _ _ RH9.out.out, RO9.out, B9.out⟩
          · exact absurd (hft h4).2.1 (by have := (hft h4).1; omega)
          · exact absurd (hft h4).2.1 (by have := (hft h4).1; omega)
        · have hkc2 : ¬ c = k := hck
          have DR := Lib.hid (ByOut.dropAt (HO.out.below HI.out.below) hk hkc2)
          rcases h3 with ⟨h4, hs⟩ | ⟨h4, h5, hs⟩ | ⟨h4, h5, hs⟩
          · rw [hs] at hst
            have hq4 : (er2 != 0) = true := by rw [bne_iff_ne]; exact h4
            have ST := Lib.hid (hst (fun g => by cases g.1))
            clear hst hnx hsz hft h4 hs hck
            go_wp2_with fail
            refine (F2.out _ _ DR.out).mono ?_; rintro _ w5 ⟨v5, rfl, hf5, hb5⟩
            have I5 := Lib.hid (HI.out.next hb5)
            obtain ⟨y0, y1, y2, y3, y4, y5, y6, y7, y8⟩ := Holds.nine (show Holds w5 w3.heap.size [.int .i64 hh.kind, .string (strB hh.path), .int .i64 hh.method, .int .i64 hh.factor, .slice Ah nh ch, .int .i64 hh.rung, .int .i64 hh.time, .int .i64 hh.now, .int .i64 hh.value] from I5.out.bx)
            clear hf5 hb5 HI
            go_wp2_with (refine wpList_put rfl 24 _ _ rfl w.heap.size [.int .i64 hh.kind, .string (strB hh.path), .int .i64 hh.method, .int .i64 hh.factor, .slice Ah nh ch, .int .i64 hh.rung, .int .i64 hh.time, .int .i64 hh.now, .int .i64 hh.value] rfl rfl I5.out.d0 (by kernel_rfl) (by simp [Value.oneCell']) ?_; intro w9 hp9; obtain ⟨x0, x1, x2, x3, x4, x5, x6, x7, x8⟩ := Holds.nine hp9.at_; have B9 := Lib.hid (hp9.below (Nat.le_refl _) I5.out.below); have RO9 := Lib.hid (RsNew.out (I5.out.row.kept hp9.grown (by have := HWB.out; omega))); have RH9 := Lib.hid (show RgApart (w.heap.size + 1) u10.ownBlock w9 (.slice Ah nh ch) hh.rungs from I5.out.ap.kept hp9.grown (by omega)); clear hp9)
            have hTT := HT2.out
            rw [ST.out.1, ST.out.2] at hTT
            subst hTT
            exact bodyPost_ret (v := .tuple #[.agg #[.int .i64 hh.kind, .string (strB hh.path), .int .i64 hh.method, .int .i64 hh.factor, .slice Ah nh ch, .int .i64 hh.rung, .int .i64 hh.time, .int .i64 hh.now, .int .i64 hh.value], u10, .int .i64 (k : Nat), .int .i64 0]) (by simp [results, Tryd.results17, go_sem, x0, x1, x2, x3, x4, x5, x6, x7, x8]) rfl ⟨_, u10, rfl, HMK.out _ _ _ RH9.out.out, RO9.out, B9.out⟩
          · rw [hs] at hst
            have hq4 : (er2 != 0) = false := by rw [h4]; rfl
            have hq5 : (e3 != 0) = true := by rw [bne_iff_ne]; exact h5
            have ST := Lib.hid (hst (fun g => by cases g.1))
            clear hst hnx hsz hft h4 h5 hs hck
            go_wp2_with fail
            refine (F2.out _ _ DR.out).mono ?_; rintro _ w5 ⟨v5, rfl, hf5, hb5⟩
            have O5 := Lib.hid hf5.out
            have I5 := Lib.hid (HI.out.next hb5)
            clear hf5 hb5 HI
            go_wp2_with fail
            refine (TK.out _ _ O5.out).mono ?_; rintro _ w6 ⟨v6, rfl, hr6, hb6⟩
            obtain ⟨Ar, cr, rfl, ho6⟩ := HFM2.out _ _ _ hr6
            have I6 := Lib.hid (I5.out.next hb6)
            clear hr6 hb6 ho6 I5
            go_wp2_with first
              | (refine wpList_put rfl 24 _ _ rfl w6.heap.size [.int .i64 rr.kind, .string (strB rr.path), .int .i64 rr.method, .int .i64 rr.factor, .slice Ar nr cr, .int .i64 rr.rung, .int .i64 rr.time, .int .i64 rr.now, .int .i64 rr.value] rfl rfl (HV.out w6) (by kernel_rfl) (by simp [Value.oneCell']) ?_; intro w7 hp7; have z0 := hp7.at_ 0 _ rfl; have I7 := Lib.hid (I6.out.next (var_put hp7)); obtain ⟨y0, y1, y2, y3, y4, y5, y6, y7, y8⟩ := Holds.nine (show Holds w7 w3.heap.size [.int .i64 hh.kind, .string (strB hh.path), .int .i64 hh.method, .int .i64 hh.factor, .slice Ah nh ch, .int .i64 hh.rung, .int .i64 hh.time, .int .i64 hh.now, .int .i64 hh.value] from I7.out.bx); clear hp7)
              | (refine wpList_put rfl 24 _ _ rfl w.heap.size [.int .i64 hh.kind, .string (strB hh.path), .int .i64 hh.method, .int .i64 hh.factor, .slice Ah nh ch, .int .i64 hh.rung, .int .i64 hh.time, .int .i64 hh.now, .int .i64 hh.value] rfl rfl I7.out.d0 (by kernel_rfl) (by simp [Value.oneCell']) ?_; intro w9 hp9; obtain ⟨x0, x1, x2, x3, x4, x5, x6, x7, x8⟩ := Holds.nine hp9.at_; have B9 := Lib.hid (hp9.below (Nat.le_refl _) I7.out.below); have RO9 := Lib.hid (RsNew.out (I7.out.row.kept hp9.grown (by have := HWB.out; omega))); have RH9 := Lib.hid (show RgApart (w.heap.size + 1) u10.ownBlock w9 (.slice Ah nh ch) hh.rungs from I7.out.ap.kept hp9.grown (by omega)); clear hp9)
            have hTT := HT2.out
            rw [ST.out.1, ST.out.2] at hTT
            subst hTT
            exact bodyPost_ret (v := .tuple #[.agg #[.int .i64 hh.kind, .string (strB hh.path), .int .i64 hh.method, .int .i64 hh.factor, .slice Ah nh ch, .int .i64 hh.rung, .int .i64 hh.time, .int .i64 hh.now, .int .i64 hh.value], u10, .int .i64 (k : Nat), .int .i64 0]) (by simp [results, Tryd.results17, go_sem, x0, x1, x2, x3, x4, x5, x6, x7, x8]) rfl ⟨_, u10, rfl, HMK.out _ _ _ RH9.out.out, RO9.out, B9.out⟩
          · rw [hs] at hst hnx hsz
            have hq4 : (er2 != 0) = false := by rw [h4]; rfl
            have hq5 : (e3 != 0) = false := by rw [show e3 = 0 from h5]; rfl
            by_cases hkd : rr.kind = 1
            · have hqk : (rr.kind == 1) = true := by rw [hkd]; rfl
              have ST := Lib.hid (hst (fun g => g.2 hkd))
              clear hst hnx hsz hft h4 h5 hs hck hkd
              go_wp2_with fail
              refine (F2.out _ _ DR.out).mono ?_; rintro _ w5 ⟨v5, rfl, hf5, hb5⟩
              have O5 := Lib.hid hf5.out
              have I5 := Lib.hid (HI.out.next hb5)
              clear hf5 hb5 HI
              go_wp2_with fail
              refine (TK.out _ _ O5.out).mono ?_; rintro _ w6 ⟨v6, rfl, hr6, hb6⟩
              obtain ⟨Ar, cr, rfl, ho6⟩ := HFM2.out _ _ _ hr6
              have I6 := Lib.hid (I5.out.next hb6)
              clear hr6 hb6 ho6 I5
              go_wp2_with first
                | (refine wpList_put rfl 24 _ _ rfl w6.heap.size [.int .i64 rr.kind, .string (strB rr.path), .int .i64 rr.method, .int .i64 rr.factor, .slice Ar nr cr, .int .i64 rr.rung, .int .i64 rr.time, .int .i64 rr.now, .int .i64 rr.value] rfl rfl (HV.out w6) (by kernel_rfl) (by simp [Value.oneCell']) ?_; intro w7 hp7; have z0 := hp7.at_ 0 _ rfl; have I7 := Lib.hid (I6.out.next (var_put hp7)); obtain ⟨y0, y1, y2, y3, y4, y5, y6, y7, y8⟩ := Holds.nine (show Holds w7 w3.heap.size [.int .i64 hh.kind, .string (strB hh.path), .int .i64 hh.method, .int .i64 hh.factor, .slice Ah nh ch, .int .i64 hh.rung, .int .i64 hh.time, .int .i64 hh.now, .int .i64 hh.value] from I7.out.bx); clear hp7)
                | (refine wpList_put rfl 24 _ _ rfl w.heap.size [.int .i64 hh.kind, .string (strB hh.path), .int .i64 hh.method, .int .i64 hh.factor, .slice Ah nh ch, .int .i64 hh.rung, .int .i64 hh.time, .int .i64 hh.now, .int .i64 hh.value] rfl rfl I7.out.d0 (by kernel_rfl) (by simp [Value.oneCell']) ?_; intro w9 hp9; obtain ⟨x0, x1, x2, x3, x4, x5, x6, x7, x8⟩ := Holds.nine hp9.at_; have B9 := Lib.hid (hp9.below (Nat.le_refl _) I7.out.below); have RO9 := Lib.hid (RsNew.out (I7.out.row.kept hp9.grown (by have := HWB.out; omega))); have RH9 := Lib.hid (show RgApart (w.heap.size + 1) u10.ownBlock w9 (.slice Ah nh ch) hh.rungs from I7.out.ap.kept hp9.grown (by omega)); clear hp9)
              have hTT := HT2.out
              rw [ST.out.1, ST.out.2] at hTT
              subst hTT
              exact bodyPost_ret (v := .tuple #[.agg #[.int .i64 hh.kind, .string (strB hh.path), .int .i64 hh.method, .int .i64 hh.factor, .slice Ah nh ch, .int .i64 hh.rung, .int .i64 hh.time, .int .i64 hh.now, .int .i64 hh.value], u10, .int .i64 (k : Nat), .int .i64 0]) (by simp [results, Tryd.results17, go_sem, x0, x1, x2, x3, x4, x5, x6, x7, x8]) rfl ⟨_, u10, rfl, HMK.out _ _ _ RH9.out.out, RO9.out, B9.out⟩
            · have hqk : (rr.kind == 1) = false := beq_false_of_ne hkd
              have hz2 := hsz rfl
              have hs7 : 7 ≤ s := hz2.1
              have hks : k + s ≤ n := by have : s ≤ n - k := hz2.2.1; omega
              have hksi : (k : Int) + (s : Int) ≤ (n : Int) := by omega
              have NX := Lib.hid (show ScanSt l sz (acc ++ [rr]) (k + s) from hnx ⟨rfl, hkd⟩)
              have h7 : 7 * acc.length ≤ k := HI.out.st.2.2.1
              clear hst hnx hsz hft h4 h5 hs hck hkd hz2
              go_wp2_with fail
              refine (F2.out _ _ DR.out).mono ?_; rintro _ w5 ⟨v5, rfl, hf5, hb5⟩
              have O5 := Lib.hid hf5.out
              have I5 := Lib.hid (HI.out.next hb5)
              clear hf5 hb5 HI
              go_wp2_with fail
              refine (TK.out _ _ O5.out).mono ?_; rintro _ w6 ⟨v6, rfl, hr6, hb6⟩
              obtain ⟨Ar, cr, rfl, ho6⟩ := HFM2.out _ _ _ hr6
              have I6 := Lib.hid (I5.out.next hb6)
              obtain ⟨us, hm6, hu6, hr7⟩ := I5.out.row
              have hap := ho6.apart (M := w3.heap.size + 1) I5.out.h3 (row := u10.ownBlock) (fun g hg => ownsRow_lt hu6 hg)
              have AP6 := Lib.hid hap; have M6 := Lib.hid hm6; have U6 := Lib.hid (ownsRow_below hu6 hb6); have R6 := Lib.hid (show ∀ x ∈ us, RgApart (w3.heap.size + 1) u10.ownBlock w6 x.1 x.2.rungs from fun x hx => (hr7 x hx).below hb6)
              clear hr6 hb6 ho6 hm6 hu6 hr7 hap I5
              go_wp2_with first
                | (refine wpList_put rfl 24 _ _ rfl w6.heap.size [.int .i64 rr.kind, .string (strB rr.path), .int .i64 rr.method, .int .i64 rr.factor, .slice Ar nr cr, .int .i64 rr.rung, .int .i64 rr.time, .int .i64 rr.now, .int .i64 rr.value] rfl rfl (HV.out w6) (by kernel_rfl) (by simp [Value.oneCell']) ?_; intro w7 hp7; obtain ⟨y0, y1, y2, y3, y4, y5, y6, y7, y8⟩ := Holds.nine hp7.at_; have VP := Lib.hid (var_put hp7); have I7 := Lib.hid (I6.out.next VP.out); have U7 := Lib.hid (ownsRow_below U6.out VP.out); have R7 := Lib.hid (show ∀ x ∈ us, RgApart (w3.heap.size + 1) u10.ownBlock w7 x.1 x.2.rungs from fun x hx => (R6.out x hx).below VP.out); have AP7 := Lib.hid (AP6.out.below VP.out); clear hp7)
                | (at_builtin; refine wpList_append_any _ rfl (.tmp 65) (.tmp 67) _ rfl (w3.heap.size + 1) 24 i0 (.agg #[.int .i64 0, .string ⟨#[]⟩, .int .i64 0, .int .i64 0, .slice none 0 0, .int .i64 0, .int .i64 0, .int .i64 0, .int .i64 0]) 9 96 Tryd.underlying33 hi0 hzz0 hzz1 hzz2 rfl (by decide) u10 acc.length (rsC us) rfl (World.ownsRow.alloc U7.out _) _ (some ⟨w7.heap.size, 0, none⟩) 1 1 [.int .i64 rr.kind, .string (strB rr.path), .int .i64 rr.method, .int .i64 rr.factor, .slice Ar nr cr, .int .i64 rr.rung, .int .i64 rr.time, .int .i64 rr.now, .int .i64 rr.value] rfl (Reads.of_own (World.ownsRow_lit (base := 0) (e := 24) (size := 9) w7 #[.int .i64 rr.kind, .string (strB rr.path), .int .i64 rr.method, .int .i64 rr.factor, .slice Ar nr cr, .int .i64 rr.rung, .int .i64 rr.time, .int .i64 rr.now, .int .i64 rr.value] 1 (Nat.zero_le _) (by decide) rfl)) (by simp [Value.oneCell']) (by simp only [maxLen]; omega) (by omega) (by have := I7.out.h3; simp; omega) ?_; intro v8 w8 hown8 hg8 hat8)
              have I8 := Lib.hid (I7.out.push M6.out R7.out U7.out (u := .slice Ar nr cr) (r := rr) AP7.out hg8 (by rw [HRCC.out]; exact hown8) hat8 NX.out)
              clear hown8 hg8 hat8 y0 y1 y2 y3 y4 y5 y6 y7 y8
              go_wp2
              go_roundw
              case rel => exact ⟨acc ++ [rr], k + s, _, rfl, by go_num, hks, I8.out⟩
              case measure => simp [intOf]; omega
end Go.Proofs.YtabbpgnenmpacaaDoor.SR
