/-
  The document's own functions of layer 14: Rungs, Right, Pick.
-/
import Derived.Test.YtkgajlklhcmmcaaLadRA
import Derived.Test.YtkgajlklhcmmcaaLadPL
import Derived.OrdersHeld
set_option linter.unusedSimpArgs false
set_option linter.unusedVariables false
namespace Go.Proofs.Ytkgajlklhcmmcaa.AR
open Go.RowKit
theorem tog_ten (L : List Rg) : tog (lRungs (L.take 10)) = tog (lRungs L) := by
  by_cases h : L.length ≤ 10
  · rw [List.take_of_length_le h]
  · have h1 : ∀ M : List Rg, 4 < M.length → tog (lRungs M) = false := fun M hM => by
      cases ht : tog (lRungs M) with
      | false => rfl
      | true => have := ((tog_iff _).1 ht).1.2; rw [lRungs_length] at this; omega
    rw [h1 _ (by rw [List.length_take]; omega), h1 _ (by omega)]
theorem cells_grown3 {a w : World} {row : Option Nat} {N b1 b2 b3 o1 o2 o3 : Nat} {x y z : Value} (h : a.cell? ⟨b1, o1, none⟩ = some x ∧ a.cell? ⟨b2, o2, none⟩ = some y ∧ a.cell? ⟨b3, o3, none⟩ = some z) (hg : a.grownBy w row) (hr : ∀ b, b < N → some b ≠ row) (h1 : b1 < N) (h2 : b2 < N) (h3 : b3 < N) : w.cell? ⟨b1, o1, none⟩ = some x ∧ w.cell? ⟨b2, o2, none⟩ = some y ∧ w.cell? ⟨b3, o3, none⟩ = some z :=
  ⟨hg.cell h.1 (hr _ h1), hg.cell h.2.1 (hr _ h2), hg.cell h.2.2 (hr _ h3)⟩
set_option maxRecDepth 100000 in
set_option maxHeartbeats 4000000 in
theorem rungs_c (m f : Int) (v : Value) (L : List Rg) (hl : L.length ≤ 100000) (w : World) (h : RiOut w v L) :
    Calls Try.prog 47 #[.agg #[.int .i64 m, .int .i64 f, v]] w fun e w' => ∃ u, e = .returned u ∧ RgOut w' u (lRungs (L.take 10)) ∧ Below w.heap.size w w' := by
  obtain ⟨A, c, rfl, hc, hx⟩ := h
  obtain ⟨n, hn⟩ : ∃ n, L.length = n := ⟨_, rfl⟩
  rw [hn] at hc hl ⊢
  obtain ⟨b1, hb, hz⟩ := bx_new1 w #[.int .i64 m, .int .i64 f, .slice A n c] 24
  obtain ⟨wp, hwp⟩ : ∃ wp, w.alloc (.cells #[.int .i64 m, .int .i64 f, .slice A n c] 24) = wp := ⟨_, rfl⟩
  rw [hwp] at b1 hb hz
  obtain ⟨k0, k1, k2, -⟩ := b1.three
  have HX := Lib.hid hx; have HN := Lib.hid hn; have KP := Lib.hid hb; have HWP := Lib.hid hwp; have B1 := Lib.hid b1
  obtain ⟨i0, hi0, hz0, hz1, hz2⟩ := info_parts AP.rung_info
  have FIN := Lib.hid (fun (W : World) (k : Nat) (A3 : Option Addr) (c3 : Nat) (h : W.ownsRow wp.heap.size 43 2 (.slice A3 k c3) k (rgC (lRungs (L.take k)))) (hk : k ≤ n ∧ k ≤ 10) (h2 : k = n ∨ k = 10) => show RgOut W (.slice A3 k c3) (lRungs (L.take 10)) from by
    have e : lRungs (L.take 10) = lRungs (L.take k) := by
      rcases h2 with h2 | h2
      · rw [h2, List.take_of_length_le (l := L) (i := n) (by omega), List.take_of_length_le (l := L) (i := 10) (by omega)]
      · rw [h2]
    rw [e]
    exact AP.own_rg (B := wp.heap.size) (e := 43) (by rw [lRungs_length, List.length_take, hn, Nat.min_eq_left hk.1]; exact h))
  have BLT := Lib.hid (fun (b off : Nat) (e : A = some ⟨b, off, none⟩) (hne : L ≠ []) => show b < wp.heap.size from by
    obtain ⟨b', off', e', ha⟩ := hx hne
    rw [e] at e'
    injection e' with e'
    injection e' with e1 e2
    have h0 := List.getElem?_eq_getElem (List.length_pos_iff.2 hne)
    obtain ⟨_, _, h1, _⟩ := ha 0 _ h0
    have h2 := World.block_lt_of_cell? w _ h1
    have h3 := hb.size
    rw [e1]
    show b' < _
    have : b' < w.heap.size := h2
    omega)
  clear hx hn hb hwp b1 hz
  go_enter Try.func47, Try.ntmps47
  go_wp2_with fail
  rw [HWP.out]
  clear k0 k1 k2
  go_loopw [3, 4] (fun r i wr => ∃ (k : Nat) (A3 : Option Addr) (c3 : Nat), (k ≤ n ∧ k ≤ 10) ∧ i = .int .i64 k ∧ r = .slice A3 k c3 ∧ Hid (wr.ownsRow wp.heap.size 43 2 (.slice A3 k c3) k (rgC (lRungs (L.take k))) ∧ Below wp.heap.size wp wr)) (fun _ i _ => n - (intOf i).toNat)
  case atStart => exact ⟨0, none, 0, ⟨Nat.zero_le _, Nat.zero_le _⟩, rfl, rfl, ⟨rfl, .inl ⟨rfl, rfl⟩⟩, Below.refl _ _⟩
  case round =>
    obtain ⟨k, A3, c3, ⟨hk, hk10⟩, rfl, rfl, HI⟩ := hrel
    obtain ⟨k0, k1, k2, -⟩ := (B1.out.below HI.out.2).three
    by_cases hlt : k < n
    · by_cases h10 : k < 10
      · have KW := Lib.hid (bnext KP.out HI.out.2)
        obtain ⟨b, off, s, l, A', c', q, rfl, hp, hq, e0, e1, ho⟩ := AP.ri_at (c := c) (fun hn => by obtain ⟨b, off, e, ha⟩ := HX.out hn; exact ⟨b, off, e, ha.below KW.out⟩) HN.out hlt
        have NX := Lib.hid (show lRungs (L.take (k + 1)) = lRungs (L.take k) ++ [(s, (q : Int))] from by rw [AP.lRungs_take hp, hq])
        have CC := Lib.hid (fun (W : World) (hB : Below wr.heap.size wr W) => show W.cell? ⟨w.heap.size, 2, none⟩ = some (.slice (some ⟨b, off, none⟩) n c) ∧ W.cell? ⟨b, off + k * 2, none⟩ = some (.int .i64 s) ∧ W.cell? ⟨b, off + k * 2 + 1, none⟩ = some (.slice A' q c') from ⟨cellb hB k2, cellb hB e0, cellb hB e1⟩)
        have i0' : (0 : Int) ≤ (k : Int) := by omega
        have i1' : (k : Int) < (n : Int) := by omega
        have i2' : (k : Int) < 10 := by omega
        have OWN := Lib.hid HI.out.1
        have SZ2 := Lib.hid (show wp.heap.size ≤ wr.heap.size from HI.out.2.size)
        have B63 := Lib.hid (show k + 1 ≤ maxLen by simp only [maxLen]; omega)
        have B48 := Lib.hid (show (k + 1) * 16 ≤ 140737488355328 by omega)
        have FORM := Lib.hid (fun (W' : World) (v' : Value) (xs : List Value) (h : W'.ownsRow wp.heap.size 43 2 v' (k + 1) xs) => own_form h)
        have LTB := Lib.hid (show b < wp.heap.size from BLT.out b off rfl (fun e => by rw [e] at hp; simp at hp))
        have LIT := Lib.hid (bx_new1 wr.drew #[.int .i64 s, .int .i64 (q : Int)] 43)
        clear hp hq ho
        go_wp2_with fail
        refine wp_region_held_drew (S := fun y => y.cell? ⟨w.heap.size, 2, none⟩ = some (.slice (some ⟨b, off, none⟩) n c) ∧ y.cell? ⟨b, off + k * 2, none⟩ = some (.int .i64 s) ∧ y.cell? ⟨b, off + k * 2 + 1, none⟩ = some (.slice A' q c')) (by kernel_rfl) ?hs (fun hHeld => ?hr)
        case hs => exact CC.out _ (Below.refl _ _).drew
        refine wpAnyH_take (i := 0) (v := .slice A3 k c3) rfl (by kernel_rfl) (by kernel_rfl) (by kernel_rfl) (fun _ _ _ h => h) (Or.inl ⟨by rfl, fun w hSw => ?_⟩) (by assumption) ?_
        · ((try dsimp only at hSw); go_simp)
        change wpAnyH _ _ _ _ _ _ _ (Act.put _ (some 16) (.slice A3 k c3)) _
        simp only [Act.put, List.setIfInBounds_toArray, List.set_cons_zero, List.set_cons_succ]
        refine wpAnyH_take (i := 1) (v := .pointer (some ⟨w.heap.size, 2, none⟩)) rfl (by kernel_rfl) (by kernel_rfl) (by kernel_rfl) (fun _ _ _ h => h) (Or.inl ⟨by rfl, fun w hSw => ?_⟩) (by assumption) ?_
        · ((try dsimp only at hSw); go_simp)
        change wpAnyH _ _ _ _ _ _ _ (Act.put _ (some 17) (.pointer (some ⟨w.heap.size, 2, none⟩))) _
        simp only [Act.put, List.setIfInBounds_toArray, List.set_cons_zero, List.set_cons_succ]
        refine wpAnyH_take (i := 2) (v := .slice (some ⟨b, off, none⟩) n c) rfl (by kernel_rfl) (by kernel_rfl) (by kernel_rfl) (fun _ _ _ h => h) (Or.inl ⟨by rfl, fun w hSw => ?_⟩) (by assumption) ?_
        · ((try dsimp only at hSw); go_simp)
        change wpAnyH _ _ _ _ _ _ _ (Act.put _ (some 18) (.slice (some ⟨b, off, none⟩) n c)) _
        simp only [Act.put, List.setIfInBounds_toArray, List.set_cons_zero, List.set_cons_succ]
        refine wpAnyH_take (i := 3) (v := .int .i64 (k : Int)) rfl (by kernel_rfl) (by kernel_rfl) (by kernel_rfl) (fun _ _ _ h => h) (Or.inl ⟨by rfl, fun w hSw => ?_⟩) (by assumption) ?_
        · ((try dsimp only at hSw); go_simp)
        change wpAnyH _ _ _ _ _ _ _ (Act.put _ (some 19) (.int .i64 (k : Int))) _
        simp only [Act.put, List.setIfInBounds_toArray, List.set_cons_zero, List.set_cons_succ]
        refine wpAnyH_take (i := 4) (v := .pointer (some ⟨b, off + k * 2, none⟩)) rfl (by kernel_rfl) (by kernel_rfl) (by kernel_rfl) (fun _ _ _ h => h) (Or.inl ⟨by rfl, fun w hSw => ?_⟩) (by assumption) ?_
        · ((try dsimp only at hSw); go_simp)
        change wpAnyH _ _ _ _ _ _ _ (Act.put _ (some 20) (.pointer (some ⟨b, off + k * 2, none⟩))) _
        simp only [Act.put, List.setIfInBounds_toArray, List.set_cons_zero, List.set_cons_succ]
        refine wpAnyH_take (i := 5) (v := .pointer (some ⟨b, off + k * 2, none⟩)) rfl (by kernel_rfl) (by kernel_rfl) (by kernel_rfl) (fun _ _ _ h => h) (Or.inl ⟨by rfl, fun w hSw => ?_⟩) (by assumption) ?_
        · ((try dsimp only at hSw); go_simp)
        change wpAnyH _ _ _ _ _ _ _ (Act.put _ (some 21) (.pointer (some ⟨b, off + k * 2, none⟩))) _
        simp only [Act.put, List.setIfInBounds_toArray, List.set_cons_zero, List.set_cons_succ]
        refine wpAnyH_take (i := 6) (v := .int .i64 s) rfl (by kernel_rfl) (by kernel_rfl) (by kernel_rfl) (fun _ _ _ h => h) (Or.inl ⟨by rfl, fun w hSw => ?_⟩) (by assumption) ?_
        · ((try dsimp only at hSw); go_simp)
        change wpAnyH _ _ _ _ _ _ _ (Act.put _ (some 22) (.int .i64 s)) _
        simp only [Act.put, List.setIfInBounds_toArray, List.set_cons_zero, List.set_cons_succ]
        refine wpAnyH_take (i := 7) (v := .pointer (some ⟨w.heap.size, 2, none⟩)) rfl (by kernel_rfl) (by kernel_rfl) (by kernel_rfl) (fun _ _ _ h => h) (Or.inl ⟨by rfl, fun w hSw => ?_⟩) (by assumption) ?_
        · ((try dsimp only at hSw); go_simp)
        change wpAnyH _ _ _ _ _ _ _ (Act.put _ (some 23) (.pointer (some ⟨w.heap.size, 2, none⟩))) _
        simp only [Act.put, List.setIfInBounds_toArray, List.set_cons_zero, List.set_cons_succ]
        refine wpAnyH_take (i := 8) (v := .slice (some ⟨b, off, none⟩) n c) rfl (by kernel_rfl) (by kernel_rfl) (by kernel_rfl) (fun _ _ _ h => h) (Or.inl ⟨by rfl, fun w hSw => ?_⟩) (by assumption) ?_
        · ((try dsimp only at hSw); go_simp)
        change wpAnyH _ _ _ _ _ _ _ (Act.put _ (some 24) (.slice (some ⟨b, off, none⟩) n c)) _
        simp only [Act.put, List.setIfInBounds_toArray, List.set_cons_zero, List.set_cons_succ]
        refine wpAnyH_take (i := 9) (v := .int .i64 (k : Int)) rfl (by kernel_rfl) (by kernel_rfl) (by kernel_rfl) (fun _ _ _ h => h) (Or.inl ⟨by rfl, fun w hSw => ?_⟩) (by assumption) ?_
        · ((try dsimp only at hSw); go_simp)
        change wpAnyH _ _ _ _ _ _ _ (Act.put _ (some 25) (.int .i64 (k : Int))) _
        simp only [Act.put, List.setIfInBounds_toArray, List.set_cons_zero, List.set_cons_succ]
        refine wpAnyH_take (i := 10) (v := .pointer (some ⟨b, off + k * 2, none⟩)) rfl (by kernel_rfl) (by kernel_rfl) (by kernel_rfl) (fun _ _ _ h => h) (Or.inl ⟨by rfl, fun w hSw => ?_⟩) (by assumption) ?_
        · ((try dsimp only at hSw); go_simp)
        change wpAnyH _ _ _ _ _ _ _ (Act.put _ (some 26) (.pointer (some ⟨b, off + k * 2, none⟩))) _
        simp only [Act.put, List.setIfInBounds_toArray, List.set_cons_zero, List.set_cons_succ]
        refine wpAnyH_take (i := 11) (v := .pointer (some ⟨b, off + k * 2 + 1, none⟩)) rfl (by kernel_rfl) (by kernel_rfl) (by kernel_rfl) (fun _ _ _ h => h) (Or.inl ⟨by rfl, fun w hSw => ?_⟩) (by assumption) ?_
        · ((try dsimp only at hSw); go_simp)
        change wpAnyH _ _ _ _ _ _ _ (Act.put _ (some 27) (.pointer (some ⟨b, off + k * 2 + 1, none⟩))) _
        simp only [Act.put, List.setIfInBounds_toArray, List.set_cons_zero, List.set_cons_succ]
        refine wpAnyH_take (i := 12) (v := .slice A' q c') rfl (by kernel_rfl) (by kernel_rfl) (by kernel_rfl) (fun _ _ _ h => h) (Or.inl ⟨by rfl, fun w hSw => ?_⟩) (by assumption) ?_
        · ((try dsimp only at hSw); go_simp)
        change wpAnyH _ _ _ _ _ _ _ (Act.put _ (some 28) (.slice A' q c')) _
        simp only [Act.put, List.setIfInBounds_toArray, List.set_cons_zero, List.set_cons_succ]
        refine wpAnyH_take (i := 13) (v := .int .i64 (q : Int)) rfl (by kernel_rfl) (by kernel_rfl) (by kernel_rfl) (fun _ _ _ h => h) (Or.inl ⟨by rfl, fun w hSw => ?_⟩) (by assumption) ?_
        · ((try dsimp only at hSw); go_simp)
        change wpAnyH _ _ _ _ _ _ _ (Act.put _ (some 29) (.int .i64 (q : Int))) _
        simp only [Act.put, List.setIfInBounds_toArray, List.set_cons_zero, List.set_cons_succ]
        refine wpAnyH_take (i := 14) (v := .agg #[.int .i64 s, .int .i64 (q : Int)]) rfl (by kernel_rfl) (by kernel_rfl) (by kernel_rfl) (fun _ _ _ h => h) (Or.inl ⟨by rfl, fun w hSw => ?_⟩) (by assumption) ?_
        · ((try dsimp only at hSw); go_simp)
        change wpAnyH _ _ _ _ _ _ _ (Act.put _ (some 30) (.agg #[.int .i64 s, .int .i64 (q : Int)])) _
        simp only [Act.put, List.setIfInBounds_toArray, List.set_cons_zero, List.set_cons_succ]
        refine wpAnyH_ready (rs := [15]) (by kernel_rfl) (by simp) ?_
        refine AllReadyH.cons rfl (fun K hK => ?_) AllReadyH.nil
        go_simp
        refine hK.out _ _ (CC.out _ (bnext (Below.refl _ _).drew LIT.out.2.1)) (fun hHeld => ?_)
        clear hK K
        try simp only [Act.put, List.setIfInBounds_toArray, List.set_cons_zero, List.set_cons_succ]
        refine wpAnyH_ready (rs := [16]) (by kernel_rfl) (by simp) ?_
        refine AllReadyH.cons rfl (fun K hK => ?_) AllReadyH.nil
        refine step_append_any _ rfl (.tmp 16) (.tmp 31) _ rfl wp.heap.size 43 i0 (.agg #[.int .i64 0, .int .i64 0]) 2 16 Try.underlying44 hi0 hz0 hz1 hz2 rfl (by decide) (.slice A3 k c3) k (rgC (lRungs (L.take k))) rfl (World.ownsRow.alloc (own_keep OWN.out (fun _ _ _ _ => rfl)) _) _ (some ⟨wr.drew.heap.size, 0, none⟩) 1 1 [.int .i64 s, .int .i64 (q : Int)] rfl (LIT.out.1.reads (n := 1) (size := 2) rfl) (by simp [Value.oneCell']) B63.out B48.out (by have h1 := SZ2.out; show wp.heap.size ≤ (wr.alloc _).heap.size; simp; omega) ?_
        intro v20 w20 hown20 hg20 hat20
        obtain ⟨A20, c20, hv20, _, _⟩ := FORM.out _ _ _ hown20
        subst hv20
        have T20 : Below wp.heap.size wp w20 := Below.grown (((HI.out.2.trans ((Below.refl wr.heap.size wr).drew.mono SZ2.out)).trans (LIT.out.2.1.mono SZ2.out))) hg20 (by have h1 := SZ2.out; have h2 := LIT.out.2.2; have h3 : wr.drew.heap.size = wr.heap.size := rfl; first | omega | (rw [h2]; omega) | (show wp.heap.size ≤ (wr.alloc _).heap.size; simp; omega)) (fun j ej => (own_lt OWN.out ej).1)
        have HO := Lib.hid hown20; have HB := Lib.hid T20
        have q20 : w20.cell? ⟨w.heap.size, 2, none⟩ = some (.slice (some ⟨b, off, none⟩) n c) ∧ w20.cell? ⟨b, off + k * 2, none⟩ = some (.int .i64 s) ∧ w20.cell? ⟨b, off + k * 2 + 1, none⟩ = some (.slice A' q c') := cells_grown3 (N := wp.heap.size) (CC.out _ (bnext (Below.refl _ _).drew LIT.out.2.1)) hg20 (fun b hb e => by have h1 := (own_lt OWN.out e.symm).1; exact absurd hb (by omega)) (by have := B1.out.lt; omega) LTB.out LTB.out
        refine hK.out _ _ q20 (fun hHeld => ?_)
        clear hK K
        try simp only [Act.put, List.setIfInBounds_toArray, List.set_cons_zero, List.set_cons_succ]
        refine wpAnyH_take (i := 17) (v := .slice A20 (k + 1) c20) rfl (by kernel_rfl) (by kernel_rfl) (by kernel_rfl) (fun _ _ _ h => h) (Or.inl ⟨by rfl, fun w hSw => ?_⟩) (by assumption) ?_
        · ((try dsimp only at hSw); go_simp)
        change wpAnyH _ _ _ _ _ _ _ (Act.put _ (some 3) (.slice A20 (k + 1) c20)) _
        simp only [Act.put, List.setIfInBounds_toArray, List.set_cons_zero, List.set_cons_succ]
        refine wpAnyH_done (by kernel_rfl) ?_ _
        go_wp2
        go_roundw
        case rel =>
          refine ⟨k + 1, A20, c20, ⟨by omega, by omega⟩, by go_num, rfl, ?_, HB.out⟩
          rw [NX.out, rgC_app]
          exact HO.out
        case measure => simp [intOf]; omega
      · have i2' : ¬ (k : Int) < 10 := by omega
        have RES := Lib.hid (FIN.out wr k A3 c3 HI.out.1 ⟨hk, hk10⟩ (.inr (by omega)))
        have KW := Lib.hid (bnext KP.out HI.out.2)
        go_wp2
        go_ret
        exact ⟨_, rfl, RES.out, KW.out⟩
    · have RES := Lib.hid (FIN.out wr k A3 c3 HI.out.1 ⟨hk, hk10⟩ (.inl (by omega)))
      have KW := Lib.hid (bnext KP.out HI.out.2)
      have i1' : ¬ (k : Int) < (n : Int) := by omega
      go_wp2
      go_ret
      exact ⟨_, rfl, RES.out, KW.out⟩
end Go.Proofs.Ytkgajlklhcmmcaa.AR
