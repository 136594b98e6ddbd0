/-
  The statements of layer 6, walked, the first part: the fixed fact.
-/
import Derived.Test.YtmkjjcogheidmaaDskC
import Derived.Test.YtmkjjcogheidmaaByConv
import Derived.Lib.SlBytesConst
set_option linter.unusedSimpArgs false
set_option linter.unusedVariables false
namespace Go.Proofs.Ytmkjjcogheidmaa.DW
open Go.RowKit
/-! ### The fixed fact's disks -/
def nmA : ByteArray := ⟨#[97]⟩
def aD1 : PD := ⟨10, [⟨1, [], 0⟩], [⟨nmA, 1⟩], [], [⟨1, nmA, noN, 1⟩], 2⟩
def aD2 : PD := ⟨10, [⟨1, [104, 101, 108, 108, 111], 0⟩], [⟨nmA, 1⟩], [], [⟨1, nmA, noN, 1⟩], 2⟩
theorem aE1 : pCreate (pNew 10) nmA = (aD1, 0) := by rfl
theorem aE2 : pAppend aD1 nmA [104, 101, 108, 108, 111] = (aD2, 0) := by rfl
theorem aE3 : pRead (pCrash aD2 1 [(1, 2)]) nmA = ([104, 101], 0) := by rfl
theorem aE4 : (pCrash aD2 0 []).names = [] := by rfl
theorem okA : okN nmA := ⟨by decide, by decide⟩
theorem PInv.of_eq {X : PD × Int} {D : PD} {r : Int} (h : PInv X.1) (e : X = (D, r)) : PInv D := by rw [e] at h; exact h
theorem iA1 : PInv aD1 := PInv.of_eq (PInv.create (PInv.new (by decide)) okA) aE1
theorem iA2 : PInv aD2 := PInv.of_eq (PInv.append iA1 nmA (b := [104, 101, 108, 108, 111]) (by unfold Bytes; decide)) aE2
theorem bytes5 : Bytes [104, 101, 108, 108, 111] := by unfold Bytes; decide
theorem bytes2 : Bytes [104, 101] := by unfold Bytes; decide
theorem kok1 : KOk [(1, 2)] := ⟨by decide, by decide⟩
theorem kok0 : KOk [] := ⟨by decide, fun k hk => absurd hk (by simp)⟩
set_option maxRecDepth 100000 in
set_option maxHeartbeats 2000000 in
theorem alive_c (w : World) : Calls Try.prog 7 #[] w fun e w' => e = .returned (.bool true) ∧ Below w.heap.size w w' := by
  have kc := fun (w : World) (C : Array Value) (n c : Nat) => Lib.run_convert_bytes_const (P := Try.prog) w 34 5 C n c Try.underlying34 Try.underlying5
  have zl := fun (w : World) => alloc_below w (.cells #[.int .i64 0, .slice none 0 0, .slice none 0 0, .slice none 0 0, .slice none 0 0, .int .i64 0] 29)
  have ZL := Lib.hid zl
  clear zl
  go_enter Try.func7, Try.ntmps7
  go_wp2_with fail
  refine (DP.new_c (S := fun _ => False) 10 (by decide) _).mono ?_; rintro _ w1 ⟨v1, rfl, hd, hb⟩
  obtain ⟨q1, Aa1, na1, ca1, Ab1, nb1, cb1, Ac1, nc1, cc1, Ad1, nd1, cd1, x1, rfl⟩ := hd.form
  have LE : w.heap.size ≤ w1.heap.size := hb.size
  have D1 := Lib.hid (hd.apart.below (ZL.out w1)); have B1 := Lib.hid (bnext hb (ZL.out w1))
  clear hd hb
  go_wp2_with (refine wpList_put rfl 29 _ _ rfl (w1.heap.size) _ rfl rfl (DVar.alloc _ _) (by kernel_rfl) (by simp [Value.oneCell']) ?_; intro y1 hp; obtain ⟨c0, c1, c2, c3, c4, c5⟩ := hp.at_.six)
  have V1 := Lib.hid (show DVar y1 w1.heap.size 6 from hp.var); have E1 := Lib.hid (hp.below LE B1.out); have G1 := Lib.hid (D1.out.keep hp.keep)
  clear hp B1 D1
  refine (DP.create_c aE1 okA ⟨G1.out, PInv.new (by decide), by decide⟩).mono ?_; rintro _ w2 ⟨v2, rfl, hd, hb⟩
  obtain ⟨q2, Aa2, na2, ca2, Ab2, nb2, cb2, Ac2, nc2, cc2, Ad2, nd2, cd2, x2, rfl⟩ := hd.form
  have V2 := Lib.hid (DVar.below hb V1.out); have B2 := Lib.hid (bnext E1.out hb); have D2 := Lib.hid (hd.ne V1.out)
  clear hd hb V1 E1 G1 c0 c1 c2 c3 c4 c5
  go_wp2_with (refine wpList_put rfl 29 _ _ rfl (w1.heap.size) _ rfl rfl V2.out (by kernel_rfl) (by simp [Value.oneCell']) ?_; intro y2 hp; obtain ⟨c0, c1, c2, c3, c4, c5⟩ := hp.at_.six)
  have V3 := Lib.hid (show DVar y2 w1.heap.size 6 from hp.var); have E2 := Lib.hid (hp.below LE B2.out); have G2 := Lib.hid (D2.out.keep hp.keep)
  clear hp B2 D2 V2
  refine (DP.append_c aE2 okA (b := [104, 101, 108, 108, 111]) bytes5 (by decide) ⟨G2.out.below (alloc_below _ _), iA1, by decide⟩ (lit_out y2 [104, 101, 108, 108, 111] 5 (5, 6) (Nat.le_refl _))).mono ?_; rintro _ w3 ⟨v3, rfl, hd, hb⟩
  obtain ⟨q3, Aa3, na3, ca3, Ab3, nb3, cb3, Ac3, nc3, cc3, Ad3, nd3, cd3, x3, rfl⟩ := hd.form
  have hb' := bnext (alloc_below y2 _) hb
  have V4 := Lib.hid (DVar.below hb' V3.out); have B3 := Lib.hid (bnext E2.out hb'); have D3 := Lib.hid (hd.ne (DVar.below (alloc_below _ _) V3.out))
  clear hd hb hb' V3 E2 G2 c0 c1 c2 c3 c4 c5
  go_wp2_with (refine wpList_put rfl 29 _ _ rfl (w1.heap.size) _ rfl rfl V4.out (by kernel_rfl) (by simp [Value.oneCell']) ?_; intro y3 hp; obtain ⟨c0, c1, c2, c3, c4, c5⟩ := hp.at_.six)
  have E3 := Lib.hid (hp.below LE B3.out); have G3 := Lib.hid (D3.out.keep hp.keep); have H3 := Lib.hid hp.at_; have L3 : w1.heap.size < y3.heap.size := hp.var.lt
  clear hp B3 D3 V4
  refine (DP.crash_c (ks := [(1, 2)]) (by decide) kok1 ⟨G3.out.below (alloc_below _ _), iA2, by decide⟩ (keeps_lit y3 1 2 _)).mono ?_; rintro _ w4 ⟨v4, rfl, hd, hb⟩
  obtain ⟨q4, Aa4, na4, ca4, Ab4, nb4, cb4, Ac4, nc4, cc4, Ad4, nd4, cd4, x4, rfl⟩ := hd.form
  have hb' := bnext (alloc_below y3 _) hb
  have B4 := Lib.hid (bnext (bnext E3.out hb') (ZL.out w4)); have D4 := Lib.hid (hd.apart.below (ZL.out w4)); have G4 := Lib.hid ((G3.out.below hb').old.below (ZL.out w4)); have H4 := Lib.hid ((H3.out.below hb').below (ZL.out w4)); have L4 : w1.heap.size < w4.heap.size := Nat.lt_of_lt_of_le L3 hb'.size
  clear hd hb hb' E3 G3 H3 c0 c1 c2 c3 c4 c5
  go_wp2_with (refine wpList_put rfl 29 _ _ rfl (w4.heap.size) _ rfl rfl (DVar.alloc _ _) (by kernel_rfl) (by simp [Value.oneCell']) ?_; intro y4 hp; obtain ⟨c0, c1, c2, c3, c4, c5⟩ := hp.at_.six)
  have E4 := Lib.hid (hp.below (Nat.le_trans LE (Nat.le_of_lt L4)) B4.out); have X4 := Lib.hid (D4.out.keep hp.keep); have G5 := Lib.hid (G4.out.put_lt hp); have H5 := Lib.hid (H4.out.keep hp.keep (Nat.ne_of_lt L4)); have hps : y4.heap.size = w4.heap.size + 1 := hp.size.trans (by simp)
  clear hp B4 D4 G4 H4
  refine (DP.read_c aE3 okA ⟨X4.out, PInv.crash iA2 _ _, by decide⟩).mono ?_; rintro _ w5 ⟨v5, rfl, ho, hb⟩
  have O5 := Lib.hid ho; have B5 := Lib.hid (bnext E4.out hb); have G6 := Lib.hid (G5.out.below hb); have H6 := Lib.hid (H5.out.below hb); have L5 : w1.heap.size < w5.heap.size := Nat.lt_of_lt_of_le (by rw [hps]; exact Nat.lt_succ_of_lt L4) hb.size
  clear ho hb hps E4 X4 G5 H5 c0 c1 c2 c3 c4 c5
  obtain ⟨c0, c1, c2, c3, c4, c5⟩ := H6.out.six
  go_wp2_with fail
  refine (DP.crash_c (k := 0) (ks := []) (by decide) kok0 ⟨G6.out, iA2, by decide⟩ SlOut.nil).mono ?_; rintro _ w6 ⟨v6, rfl, hd, hb⟩
  obtain ⟨q6, Aa6, na6, ca6, Ab6, nb6, cb6, Ac6, nc6, cc6, Ad6, nd6, cd6, x6, rfl⟩ := hd.form
  have B6 := Lib.hid (bnext (bnext B5.out hb) (ZL.out w6)); have D6 := Lib.hid (hd.apart.below (ZL.out w6)); have O6 := Lib.hid ((O5.out.below hb).s.below (ZL.out w6)); have L6 : w1.heap.size < w6.heap.size := Nat.lt_of_lt_of_le L5 hb.size
  clear hd hb G6 H6 c0 c1 c2 c3 c4 c5
  go_wp2_with (refine wpList_put rfl 29 _ _ rfl (w6.heap.size) _ rfl rfl (DVar.alloc _ _) (by kernel_rfl) (by simp [Value.oneCell']) ?_; intro y6 hp; obtain ⟨c0, c1, c2, c3, c4, c5⟩ := hp.at_.six)
  have E6 := Lib.hid (hp.below (Nat.le_trans LE (Nat.le_of_lt L6)) B6.out); have X6 := Lib.hid (D6.out.keep hp.keep); have O7 := Lib.hid (O6.out.keep (fun x y hx => hp.keep x y (Nat.ne_of_lt hx))).out
  clear hp B6 D6 O6 O5
  refine (DP.list_c ⟨X6.out, PInv.crash iA2 _ _, by decide⟩).mono ?_; rintro _ w7 ⟨v7, rfl, ho, hb⟩
  rw [aE4] at ho
  obtain ⟨A7, n7, rfl, _, _⟩ := ho
  have o8 := O7.out.below hb
  obtain ⟨A8, n8, rfl, _, _⟩ := id o8
  have cv := conv_by (l := [104, 101]) bytes2 o8
  have B7 := Lib.hid (bnext E6.out hb)
  clear hb o8 E6 X6 O7 c0 c1 c2 c3 c4 c5
  have cv' : (convert 34 9 (.slice A8 2 n8)).run Try.prog w7 = .ok (.string ⟨#[104, 101]⟩) w7 := cv
  clear cv
  go_wp2
  go_ret
  exact ⟨rfl, B7.out⟩
end Go.Proofs.Ytmkjjcogheidmaa.DW
