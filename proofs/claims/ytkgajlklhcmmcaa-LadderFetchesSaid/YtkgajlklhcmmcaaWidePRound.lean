/-
  Contracts over this seat of translation: isobar/wide.Add, isobar/wide.Div, isobar/wide.Round: what each returns, and that nothing that was there has turned.
-/
import Derived.Test.YtkgajlklhcmmcaaWidePDiv
import Derived.Test.YtkgajlklhcmmcaaWidePAdd
namespace Go.Proofs.Ytkgajlklhcmmcaa
open Go.RowKit
set_option maxRecDepth 100000 in
set_option maxHeartbeats 1000000 in
theorem round_no (v : Nat) (w : World) :
    Calls Try.prog 88 #[.agg #[.int .u64 (hiOf v : Nat), .int .u64 (loOf v : Nat)], .int .u64 0] w fun e w' =>
      e = .returned (.tuple #[.int .u64 0, .int .i64 1]) ∧ Below w.heap.size w w' := by
  go_enter Try.func88, Try.ntmps88
  go_wp2_with (go_at_call 91; refine (div_no v _).mono ?_; rintro e w1 ⟨rfl, hb1⟩; obtain ⟨hc, hf⟩ := bcell hb1)
  go_ret2
  exact ⟨rfl, (((Below.refl _ _).alloc (Nat.le_refl _) _).trans (hb1.mono (by simp))).alloc (by have := hb1.size; simp at this; omega) _⟩

set_option maxRecDepth 100000 in
set_option maxHeartbeats 1000000 in
theorem round_c (v d : Nat) (hv : v < M) (hd0 : 0 < d) (hd : d < 18446744073709551616) (w : World) :
    Calls Try.prog 88 #[.agg #[.int .u64 (hiOf v : Nat), .int .u64 (loOf v : Nat)], .int .u64 d] w fun e w' =>
      e = .returned (.tuple #[.int .u64 (rndV v d : Nat), .int .i64 (rndE v d)]) ∧ Below w.heap.size w w' := by
  obtain ⟨r, hr⟩ : ∃ r, v % d = r := ⟨_, rfl⟩
  obtain ⟨q, hq⟩ : ∃ q, v / d = q := ⟨_, rfl⟩
  have hrd : r < d := by rw [← hr]; exact Nat.mod_lt v hd0
  have HQ := Lib.hid (show q < M by rw [← hq]; exact q_lt hv)
  have HV := Lib.hid hv
  have Hq := Lib.hid hq
  have Hr := Lib.hid hr
  clear hv hq hr
  go_enter Try.func88, Try.ntmps88
  go_wp2_with (first
    | (go_at_call 91; refine (div_q v d q r HV.out hd0 hd Hq.out Hr.out _).mono ?_; rintro e w1 ⟨rfl, hb1⟩; obtain ⟨hc, hf⟩ := bcell hb1; have hz1 : w.heap.size + 1 ≤ w1.heap.size := (by simpa using hb1.size))
    | (go_at_call 92; refine (add1_c q HQ.out _).mono ?_; rintro e w2 ⟨rfl, hb2⟩; obtain ⟨hc2, hf2⟩ := bcell hb2; have hz2 := hb2.size))
  · have h1 : (d : Int) - r ≤ r := by assumption
    have h2 : ((hiOf (q + 1) : Int) != 0) = true := by assumption
    have hx := (rnd_up Hq.out Hr.out (by omega)).2 (by have := WalkArith.int_ne' h2; omega)
    have hbb := below_put (b := w1.heap.size) ((((below_box hb1).alloc (by omega) _).trans (hb2.mono (by simp; omega)))) (by omega) (.int .u64 (hiOf (q + 1) : Nat)) (.int .u64 (loOf (q + 1) : Nat))
    go_ret2
    exact ⟨ret_rnd (by rw [hx.1]; rfl) (by rw [hx.2]), hbb⟩
  · have h1 : (d : Int) - r ≤ r := by assumption
    have h2 : ((hiOf (q + 1) : Int) != 0) = false := by assumption
    have hx := (rnd_up Hq.out Hr.out (by omega)).1 (by have := WalkArith.int_eq' h2; omega)
    have hbb := below_put (b := w1.heap.size) ((((below_box hb1).alloc (by omega) _).trans (hb2.mono (by simp; omega)))) (by omega) (.int .u64 (hiOf (q + 1) : Nat)) (.int .u64 (loOf (q + 1) : Nat))
    go_ret2
    exact ⟨ret_rnd (by rw [hx.1]) (by rw [hx.2]), hbb⟩
  · have h1 : (r : Int) < d - r := by assumption
    have h2 : ((hiOf q : Int) != 0) = true := by assumption
    have hx := (rnd_down Hq.out Hr.out (by omega)).2 (by have := WalkArith.int_ne' h2; omega)
    go_ret2
    exact ⟨ret_rnd (by rw [hx.1]; rfl) (by rw [hx.2]), (below_box hb1).alloc (by omega) _⟩
  · have h1 : (r : Int) < d - r := by assumption
    have h2 : ((hiOf q : Int) != 0) = false := by assumption
    have hx := (rnd_down Hq.out Hr.out (by omega)).1 (by have := WalkArith.int_eq' h2; omega)
    go_ret2
    exact ⟨ret_rnd (by rw [hx.1]) (by rw [hx.2]), (below_box hb1).alloc (by omega) _⟩

end Go.Proofs.Ytkgajlklhcmmcaa
