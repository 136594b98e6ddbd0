/-
  The statements of layer 9, walked: a plain text as a pattern.
-/
import Derived.Test.YtodigfdhhndboaaNdlWB
set_option linter.unusedSimpArgs false
set_option linter.unusedVariables false
namespace Go.Proofs.Ytodigfdhhndboaa.NW
open Go Go.RowKit
theorem lit_lt (s : ByteArray) {x : Nat} (hx : x ∈ bs s) : x < 256 := by
  obtain ⟨y, _, rfl⟩ := List.mem_map.1 hx
  exact y.toNat_lt
theorem lit_one {s t : ByteArray} (hp : (bs s).all plB = true) (hl : s.size ≤ 62) : ndMatch (bs s) (bs t) = (wiB (bs t) (bs s), 0) := by
  have hpl : ∀ a ∈ bs s, ndPlain a := fun a ha => plB_plain (List.all_eq_true.1 hp a ha)
  unfold ndMatch
  rw [ndComp_plain hpl (by rw [bs_length]; omega)]
  show (ndFound ⟨false, false, (bs s).map ndOne⟩ (bs t), (0 : Int)) = _
  congr 1
  rw [Bool.eq_iff_iff, wiB_iff]
  exact ndFound_plain (fun x hx => lit_lt t hx)
theorem lit_two {s t : ByteArray} (hp : (bs s).all plB = true) (hl : s.size ≤ 62) : ndMatch (bs (⟨#[94]⟩ ++ s ++ ⟨#[36]⟩)) (bs t) = (t.toList == s.toList, 0) := by
  have hpl : ∀ a ∈ bs s, ndPlain a := fun a ha => plB_plain (List.all_eq_true.1 hp a ha)
  have e : bs (⟨#[94]⟩ ++ s ++ ⟨#[36]⟩) = 94 :: (bs s ++ [36]) := by simp [bs]
  rw [e]
  unfold ndMatch
  rw [ndComp_bound hpl (by rw [bs_length]; omega)]
  show (ndFound ⟨true, true, (bs s).map ndOne⟩ (bs t), (0 : Int)) = _
  congr 1
  rw [toList_eq, Bool.eq_iff_iff, decide_eq_true_eq]
  exact ndFound_bound (fun x hx => lit_lt t hx)
set_option maxRecDepth 100000 in
set_option maxHeartbeats 4000000 in
theorem needleLiteral_c (s t : ByteArray) (hs : s.size ≤ 9223372036854775807) (w : World) :
    Calls Try.prog 6 #[.string s, .string t] w fun e w' => e = .returned (.bool true) ∧ Below w.heap.size w w' := by
  obtain ⟨pl, hpl⟩ : ∃ b, (bs s).all plB = b := ⟨_, rfl⟩
  have PC := Lib.hid (fun W => plain_c s hs W)
  rw [hpl] at PC
  cases pl with
  | false =>
    clear hpl
    go_enter Try.func6, Try.ntmps6
    go_wp2_with fail
    refine (alive_c _).mono ?_; rintro _ w1 ⟨rfl, hb1⟩
    have HB1 := Lib.hid hb1
    clear hb1
    go_wp2_with fail
    refine (PC.out _).mono ?_; rintro _ _ ⟨rfl, rfl⟩
    go_wp2
    go_ret
    exact ⟨rfl, HB1.out⟩
  | true =>
    have HPL := Lib.hid hpl
    clear hpl
    by_cases hl : (62 : Int) < (s.size : Int)
    · go_enter Try.func6, Try.ntmps6
      go_wp2_with fail
      refine (alive_c _).mono ?_; rintro _ w1 ⟨rfl, hb1⟩
      have HB1 := Lib.hid hb1
      clear hb1
      go_wp2_with fail
      refine (PC.out _).mono ?_; rintro _ _ ⟨rfl, rfl⟩
      go_wp2
      go_ret
      exact ⟨rfl, HB1.out⟩
    · have hl2 : s.size ≤ 62 := by omega
      by_cases hg : (500 : Int) < (t.size : Int)
      · have hgd : decide ((500 : Int) < (t.size : Int)) = true := decide_eq_true hg
        have GC := Lib.hid (fun W => great_c t W)
        rw [hgd] at GC
        clear hgd hg
        go_enter Try.func6, Try.ntmps6
        go_wp2_with fail
        refine (alive_c _).mono ?_; rintro _ w1 ⟨rfl, hb1⟩
        have HB1 := Lib.hid hb1
        clear hb1
        go_wp2_with fail
        refine (PC.out _).mono ?_; rintro _ _ ⟨rfl, rfl⟩
        go_wp2_with fail
        refine (GC.out _).mono ?_; rintro _ _ ⟨rfl, rfl⟩
        go_wp2
        go_ret
        exact ⟨rfl, HB1.out⟩
      · have hgd : decide ((500 : Int) < (t.size : Int)) = false := decide_eq_false hg
        have GC := Lib.hid (fun W => great_c t W)
        rw [hgd] at GC
        have M1 := Lib.hid (fun W => NP.match_c s t (by omega) (by omega) W)
        have M2 := Lib.hid (fun W => NP.match_c (⟨#[94]⟩ ++ s ++ ⟨#[36]⟩) t (by simp [ByteArray.size_append]; show 1 + s.size + 1 ≤ _; omega) (by omega) W)
        have WC := Lib.hid (fun W => within_c t s (by omega) (by omega) W)
        rw [lit_one HPL.out hl2] at M1
        rw [lit_two HPL.out hl2] at M2
        obtain ⟨x, hx⟩ : ∃ x, wiB (bs t) (bs s) = x := ⟨_, rfl⟩
        obtain ⟨y, hy⟩ : ∃ y, (t.toList == s.toList) = y := ⟨_, rfl⟩
        rw [hx] at M1 WC
        rw [hy] at M2
        clear hgd hg hx
        go_enter Try.func6, Try.ntmps6
        go_wp2_with fail
        refine (alive_c _).mono ?_; rintro _ w1 ⟨rfl, hb1⟩
        have HB1 := Lib.hid hb1
        clear hb1
        go_wp2_with fail
        refine (PC.out _).mono ?_; rintro _ _ ⟨rfl, rfl⟩
        go_wp2_with fail
        refine (GC.out _).mono ?_; rintro _ _ ⟨rfl, rfl⟩
        go_wp2_with fail
        refine (M1.out _).mono ?_; rintro _ w2 ⟨rfl, hb2⟩
        have HB2 := Lib.hid (bnext HB1.out hb2)
        clear hb2
        go_wp2_with fail
        refine (M2.out _).mono ?_; rintro _ w3 ⟨rfl, hb3⟩
        have HB3 := Lib.hid (bnext HB2.out hb3)
        clear hb3
        go_wp2_with fail
        refine (WC.out _).mono ?_; rintro _ _ ⟨rfl, rfl⟩
        go_wp2
        go_ret
        exact ⟨rfl, HB3.out⟩
end Go.Proofs.Ytodigfdhhndboaa.NW
