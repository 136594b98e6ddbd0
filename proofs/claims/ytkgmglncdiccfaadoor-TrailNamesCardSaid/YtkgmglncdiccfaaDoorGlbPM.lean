/-
  Contracts of the program's functions of layer 15: piece.lead at a piece that fits one byte.
-/
import Derived.Test.YtkgmglncdiccfaaDoorGlbPL
set_option linter.unusedSimpArgs false
set_option linter.unusedVariables false
namespace Go.Proofs.YtkgmglncdiccfaaDoor.GP
open Go.RowKit
theorem cell_off {w : World} {b o b2 o2 : Nat} {x u : Value} (hn : ¬ (b2 = b ∧ o2 = o)) (h : w.cell? ⟨b2, o2, none⟩ = some u) : (w.setCell ⟨b, o, none⟩ x).cell? ⟨b2, o2, none⟩ = some u :=
  (World.cell?_setCell_other w _ _ _ (by intro e; simp only [Addr.mk.injEq] at e; exact hn ⟨e.1.symm, e.2.1.symm⟩)).trans h
set_option maxRecDepth 100000 in
set_option maxHeartbeats 4000000 in
theorem lead_atom (a : GA) (ha : a.Good) (hst : a.kind ≠ 2) (hat : a.txt.length ≤ 900) (har : a.rows.length ≤ 1000) (A1 : Option Addr) (n1 c1 : Nat) (N : ByteArray) (n g c : Nat) (f : Nat → Bool) (w : World) (hn : N.size = n) (hs : n ≤ 900) (hc : n + 1 ≤ c) (h : BRow w g (n + 1) f) (hrn : RnR w (.slice A1 n1 c1) a.rows) :
    Calls Tryd.prog 41 #[.agg #[.int .i64 (a.kind : Nat), .string (str a.txt), .slice A1 n1 c1, .slice none 0 0], .slice (some ⟨g, 0, none⟩) (n + 1) c, .string N] w fun e w' => ∃ g' c', e = .returned (.slice (some ⟨g', 0, none⟩) (n + 1) c') ∧ n + 1 ≤ c' ∧ w.heap.size ≤ g' ∧ BRow w' g' (n + 1) (gAd (bs N) a f) ∧ Below w.heap.size w w' := by
  have hk4 : a.kind ≠ 4 := by cases a <;> simp [GA.kind]
  have FT := fun (x : Nat) (W : World) (hW : Below w.heap.size w W) => fits_c a ha hst hat har A1 n1 c1 x W (RnR.below hrn hW)
  have HZ := Lib.hid (gAd_zero (n := bs N) hst f); have HSU := Lib.hid (gAd_succ (n := bs N) hst f)
  obtain ⟨ka, hka⟩ : ∃ ka, a.kind = ka := ⟨_, rfl⟩
  obtain ⟨T, hT⟩ : ∃ T, str a.txt = T := ⟨_, rfl⟩
  rw [hka, hT] at FT
  rw [hka] at hst hk4
  rw [hka, hT]
  have i2 : ¬ (ka : Int) = 2 := by omega
  have i4 : ¬ (ka : Int) = 4 := by omega
  have i2b : ((ka : Int) == 2) = false := beq_false_of_ne i2
  have i4b : ((ka : Int) == 4) = false := beq_false_of_ne i4
  have HFT := Lib.hid FT
  clear hka hT FT hrn ha hat har hst hk4
  obtain ⟨i0, hi0, hz0, hzz1, hzz2⟩ := info_parts bool_info
  have HB0 := Lib.hid (alloc_below w (.cells #[.int .i64 (ka : Nat), .string T, .slice A1 n1 c1, .slice none 0 0] 70))
  have HH0 := Lib.hid (holds_alloc w [.int .i64 (ka : Nat), .string T, .slice A1 n1 c1, .slice none 0 0] 70)
  have HR0 := Lib.hid h
  have hgl := h.lt
  clear h
  go_enter Tryd.func41, Tryd.ntmps41
  go_upto_region 2 with (at_make; refine wpList_make_full _ rfl _ _ 43 rfl 0 4 i0 (.bool false) 1 Tryd.underlying43 hi0 hz0 hzz1 .i64 .i64 _ _ (n + 1) rfl rfl (by omega) (by omega) (by rw [hzz2]; omega) (by unfold maxLen; omega) (Nat.zero_le _) ?_; intro w2 hown2 hg2)
  have hbl := below_none hg2
  have hx2 := BRow.made hown2 (Nat.succ_pos n)
  have hsz : (w.alloc (.cells #[.int .i64 (ka : Nat), .string T, .slice A1 n1 c1, .slice none 0 0] 70)).heap.size = w.heap.size + 1 := by simp
  rw [hsz] at hx2
  have HX2 := Lib.hid hx2
  have HB2 := Lib.hid (bnext HB0.out hbl)
  have HR2 := Lib.hid (HR0.out.below HB2.out)
  have HH2 := Lib.hid (Holds.below HH0.out hbl)
  obtain ⟨b0, b1, b2, b3⟩ := HH2.out.four
  obtain ⟨gx, hgx⟩ : ∃ gx, w.heap.size + 1 = gx := ⟨_, rfl⟩
  have hgw : w.heap.size < gx := by omega
  have hgne : ¬ gx = g := by omega
  rw [hgx] at HX2 ⊢
  clear hown2 hg2 hbl hx2 hsz hgx HB0 HH0 HR0
  have hnc : (n : Int) ≤ (c : Int) := by omega
  have hnn : (n : Int) ≤ (n : Int) + 1 := by omega
  go_wp2_with fail
  go_loopw [15, 16, 27] (fun _ _ v27 wr => ∃ k : Nat, v27 = .int .i64 (k : Nat) ∧ k ≤ n ∧ Hid (Holds wr w.heap.size [.int .i64 (ka : Nat), .string T, .slice A1 n1 c1, .slice none 0 0]) ∧ Hid (BRow wr g (n + 1) f) ∧ Hid (BRow wr gx (n + 1) (fun j => if j < k + 1 then gAd (bs N) a f j else false)) ∧ Hid (Below w.heap.size w wr)) (fun _ _ v27 _ => n - (intOf v27).toNat)
  case atStart => exact ⟨0, rfl, Nat.zero_le _, HH2.out, HR2.out, HX2.out.congr (fun j _ => by
    by_cases hj : j < 1
    · rw [if_pos hj, show j = 0 by omega, HZ.out]
    · rw [if_neg hj]), HB2.out⟩
  case round =>
    as_aux_lemma =>
      obtain ⟨k, rfl, hk, HH, HR, HX, HB⟩ := hrel
      by_cases hlt : k < n
      · as_aux_lemma =>
          obtain ⟨z0, z1, z2, z3⟩ := HH.out.four
          have hkN : k < N.size := by omega
          obtain ⟨ch, hch, hx0, hc256⟩ := bs_get hkN
          have cE := HR.out.c k (by omega)
          obtain ⟨x, hx⟩ : ∃ x, f k = x := ⟨_, rfl⟩
          rw [hx] at cE
          have hnx : gAd (bs N) a f (k + 1) = (x && a.fit ch) := by rw [HSU.out, hx, hch]
          have ck := HX.out.c (k + 1) (by omega)
          have fk := HX.out.fz (k + 1) (by omega)
          obtain ⟨xo, hxo⟩ : ∃ x, (if k + 1 < k + 1 then gAd (bs N) a f (k + 1) else false) = x := ⟨_, rfl⟩
          have ck2 : wr.cell? ⟨gx, k + 1, none⟩ = some (.bool xo) := by rw [← hxo]; exact ck
          have HRX := Lib.hid (fun (W : World) (hW : BRow W gx (n + 1) (fun j => if j < k + 1 then gAd (bs N) a f j else false)) => hW.step (x := x && a.fit ch) (k := k + 1) (by omega) hnx)
          have hw1 : IntKind.i64.wrap ((k : Int) + 1) = (k : Int) + 1 := by rw [IntKind.wrap_i64]; omega
          have hbI : (0 : Int) ≤ (k : Int) + 1 := by omega
          have hbJ : (k : Int) + 1 < (n : Int) + 1 := by omega
          have hbK : (k : Int) < (n : Int) := by omega
          have FC := Lib.hid (fun W hW => HFT.out ch W hW)
          clear ck hxo hnx hx hch
          cases x with
          | false =>
            rw [Bool.false_and] at HRX
            go_upto_region 6 with (fail)
            go_region
            go_wp2
            go_roundw
            case rel => exact ⟨k + 1, by go_num, by omega, (HH.out.setOther (show gx ≠ w.heap.size by omega) (j := k + 1) (.bool false)), (HR.out.other hgne).drew, (HRX.out wr HX.out).drew, (below_own HB.out hgw).drew⟩
            case measure => simp [intOf]; omega
          | true =>
            rw [Bool.true_and] at HRX
            obtain ⟨fd, hfd⟩ : ∃ fd, a.fit ch = fd := ⟨_, rfl⟩
            rw [hfd] at HRX FC
            clear hfd
            go_upto_region 6 with (fail)
            go_region_held3 (fun y => y.cell? ⟨w.heap.size, 0, none⟩ = some (.int .i64 (ka : Nat)) ∧ y.cell? ⟨w.heap.size, 1, none⟩ = some (.string T) ∧ y.cell? ⟨w.heap.size, 2, none⟩ = some (.slice A1 n1 c1) ∧ y.cell? ⟨w.heap.size, 3, none⟩ = some (.slice none 0 0))
              (first | exact ⟨cell_off (by omega) s0, cell_off (by omega) s1, cell_off (by omega) s2, cell_off (by omega) s3⟩ | go_keep)
              (first | (go_at_call 49; refine (FC.out _ HB.out.drew).mono ?_; rintro e w5 ⟨rfl, hb5⟩; have s0 := cellb hb5 z0; have s1 := cellb hb5 z1; have s2 := cellb hb5 z2; have s3 := cellb hb5 z3; have n4 := cellb hb5 ck2; have n5 := (hb5.frozen (p := ⟨gx, k + 1, none⟩) (HX.out.lt)).trans fk))
            have HH5 := Lib.hid ((Holds.below HH.out.drew hb5).setOther (show gx ≠ w.heap.size by omega) (j := k + 1) (.bool fd))
            have HR5 := Lib.hid ((HR.out.drew.below hb5).other (b := gx) (o := k + 1) (u := .bool fd) hgne)
            have HX5 := Lib.hid (HRX.out w5 (HX.out.drew.below hb5))
            have HB5 := Lib.hid (below_own (o := k + 1) (u := .bool fd) (HB.out.drew.trans (hb5.mono (by have := HB.out.size; simpa using this))) hgw)
            clear hb5
            go_wp2
            go_roundw
            case rel => exact ⟨k + 1, by go_num, by omega, HH5.out, HR5.out, HX5.out, HB5.out⟩
            case measure => simp [intOf]; omega
      · as_aux_lemma =>
          obtain rfl : k = n := by omega
          have HRE := Lib.hid (HX.out.congr (h := gAd (bs N) a f) (fun j hj => if_pos hj))
          clear HX
          go_wp2
          go_ret
          exact ⟨gx, k + 1, rfl, Nat.le_refl _, Nat.le_of_lt hgw, HRE.out, HB.out⟩
end Go.Proofs.YtkgmglncdiccfaaDoor.GP
