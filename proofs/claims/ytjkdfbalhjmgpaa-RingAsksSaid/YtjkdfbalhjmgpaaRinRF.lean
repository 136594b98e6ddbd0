/-
  Contracts of the document's own functions of layer 13 (isobarref13): new rings.
-/
import Derived.Test.YtjkdfbalhjmgpaaRinRA
import Derived.Test.YtjkdfbalhjmgpaaRinPI
set_option linter.unusedSimpArgs false
set_option linter.unusedVariables false
namespace Go.Proofs.Ytjkdfbalhjmgpaa.IR
open Go.RowKit IP
/-- The ring under way: its variable, and its slots. -/
structure NwI (s : Int) (b k : Nat) (A : Option Addr) (c : Nat) (w0 w : World) : Prop where
  c0 : w.cell? ⟨b, 0, none⟩ = some (.int .i64 s)
  c1 : w.cell? ⟨b, 1, none⟩ = some (.slice A k c)
  f1 : w.frozen? ⟨b, 1, none⟩ = false
  own : RgNew (b + 1) w (.slice A k c) (rNew k)
  below : Below b w0 w
  lt : b < w.heap.size
theorem NwI.step {s : Int} {b k c c' : Nat} {A A' : Option Addr} {w0 w w' : World} (h : NwI s b k A c w0 w) (ho : w'.ownsRow (b + 1) 59 2 (.slice A' (k + 1) c') (k + 1) (rgC (rNew k) ++ [.int .i64 (-1), .int .i64 0])) (hg : (w.alloc (.cells #[.int .i64 (-1), .int .i64 0] 59)).grownBy w' (Value.slice A k c).ownBlock) (h0 : b ≤ w0.heap.size) :
    (w'.cell? ⟨b, 1, none⟩ = some (.slice A k c) ∧ w'.frozen? ⟨b, 1, none⟩ = false) ∧ NwI s b (k + 1) A' c' w0 (w'.setCell ⟨b, 1, none⟩ (.slice A' (k + 1) c')) := by
  have hne : ∀ g, (Value.slice A k c).ownBlock = some g → b < g := fun g e => (own_lt h.own e).1
  have hb1 : Below (b + 1) w (w.alloc (.cells #[.int .i64 (-1), .int .i64 0] 59)) := (Below.refl _ _).alloc h.lt _
  have hb2 : Below (b + 1) w w' := hb1.grown hg (by simp; have := h.lt; omega) (fun g e => hne g e)
  have x0 : w'.cell? ⟨b, 0, none⟩ = some (.int .i64 s) := (hb2.cell (p := ⟨b, 0, none⟩) (Nat.lt_succ_self b)).trans h.c0
  have x1 : w'.cell? ⟨b, 1, none⟩ = some (.slice A k c) := (hb2.cell (p := ⟨b, 1, none⟩) (Nat.lt_succ_self b)).trans h.c1
  have y1 : w'.frozen? ⟨b, 1, none⟩ = false := (hb2.frozen (p := ⟨b, 1, none⟩) (Nat.lt_succ_self b)).trans h.f1
  refine ⟨⟨x1, y1⟩, ?_, ?_, ?_, ?_, ?_, ?_⟩
  · exact (World.cell?_setCell_other w' _ _ _ (by intro e; injection e with _ e; cases e)).trans x0
  · exact World.cell?_setCell_same w' _ _ x1
  · rw [World.frozen?_setCell]; exact y1
  · have hn : RgNew (b + 1) w' (.slice A' (k + 1) c') (rNew (k + 1)) := by
      have e : rNew (k + 1) = rNew k ++ [(-1, 0)] := by unfold rNew; rw [List.replicate_succ']
      rw [e]
      exact RgNew.push (g := (-1, 0)) (by rw [show (rNew k).length = k from List.length_replicate]; exact ho)
    exact hn.keep (fun g hg1 _ _ => heap_setCell_other w' ⟨b, 1, none⟩ g _ (by show g ≠ b; omega))
  · exact (h.below.trans (hb2.mono (Nat.le_succ b))).setCell (Nat.le_refl b) _
  · have := hb2.size; have := h.lt; simp; omega
set_option maxRecDepth 100000 in
set_option maxHeartbeats 4000000 in
theorem new_c (s n : Int) (w : World) :
    Calls Try.prog 15 #[.int .i64 s, .int .i64 n] w fun e w' => ∃ A c, e = .returned (.tuple #[.agg #[.int .i64 (newS s n), .slice A (newL s n).length c], .int .i64 (newE s n)]) ∧ RgNew w.heap.size w' (.slice A (newL s n).length c) (newL s n) ∧ Below w.heap.size w w' := by
  obtain ⟨k0, k1, k2, k3⟩ := two_new w (.int .i64 0) (.slice none 0 0) 24
  have hbp := alloc_below w (.cells #[.int .i64 0, .slice none 0 0] 24)
  obtain ⟨wp, hwp⟩ : ∃ wp, w.alloc (.cells #[.int .i64 0, .slice none 0 0] 24) = wp := ⟨_, rfl⟩
  have zp : wp.heap.size = w.heap.size + 1 := by rw [← hwp]; simp
  rw [hwp] at k0 k1 k2 k3 hbp
  have HWP := Lib.hid hwp; have KP := Lib.hid hbp; have ZP := Lib.hid zp
  clear hwp hbp zp
  cases hm : rMay s n
  · have HE := Lib.hid (show newL s n = [] ∧ newS s n = 0 ∧ newE s n = 1 from ⟨by unfold newL; rw [hm]; rfl, by unfold newS; rw [hm]; rfl, by unfold newE; rw [hm]; rfl⟩)
    have hno : ¬ (1 ≤ s ∧ s ≤ 86400 ∧ 1 ≤ n ∧ n ≤ 400) := fun h => by rw [rMay_iff.2 h] at hm; cases hm
    have HNO := Lib.hid hno
    clear hm hno
    by_cases h1 : s < 1
    · go_enter Try.func15, Try.ntmps15
      go_wp2_with fail
      rw [HWP.out]
      go_wp2_with fail
      exact bodyPost_ret (v := .tuple #[.agg #[.int .i64 0, .slice none 0 0], .int .i64 1]) (by simp [results, Try.results15, go_sem, k0, k1, k2, k3]) rfl ⟨none, 0, by rw [HE.out.1, HE.out.2.1, HE.out.2.2]; rfl, by rw [HE.out.1]; exact RgNew.nil _ _, by first | exact KP.out | exact below_put2 KP.out (Nat.le_refl _) _ _⟩
    · by_cases h2 : s > 86400
      · go_enter Try.func15, Try.ntmps15
        go_wp2_with fail
        rw [HWP.out]
        go_wp2_with fail
        exact bodyPost_ret (v := .tuple #[.agg #[.int .i64 0, .slice none 0 0], .int .i64 1]) (by simp [results, Try.results15, go_sem, k0, k1, k2, k3]) rfl ⟨none, 0, by rw [HE.out.1, HE.out.2.1, HE.out.2.2]; rfl, by rw [HE.out.1]; exact RgNew.nil _ _, by first | exact KP.out | exact below_put2 KP.out (Nat.le_refl _) _ _⟩
      · by_cases h3 : n < 1
        · go_enter Try.func15, Try.ntmps15
          go_wp2_with fail
          rw [HWP.out]
          go_wp2_with fail
          exact bodyPost_ret (v := .tuple #[.agg #[.int .i64 0, .slice none 0 0], .int .i64 1]) (by simp [results, Try.results15, go_sem, k0, k1, k2, k3]) rfl ⟨none, 0, by rw [HE.out.1, HE.out.2.1, HE.out.2.2]; rfl, by rw [HE.out.1]; exact RgNew.nil _ _, by first | exact KP.out | exact below_put2 KP.out (Nat.le_refl _) _ _⟩
        · have h4 : n > 400 := by have := HNO.out; omega
          go_enter Try.func15, Try.ntmps15
          go_wp2_with fail
          rw [HWP.out]
          go_wp2_with fail
          exact bodyPost_ret (v := .tuple #[.agg #[.int .i64 0, .slice none 0 0], .int .i64 1]) (by simp [results, Try.results15, go_sem, k0, k1, k2, k3]) rfl ⟨none, 0, by rw [HE.out.1, HE.out.2.1, HE.out.2.2]; rfl, by rw [HE.out.1]; exact RgNew.nil _ _, by first | exact KP.out | exact below_put2 KP.out (Nat.le_refl _) _ _⟩
  · obtain ⟨m1, m2, m3, m4⟩ := rMay_iff.1 hm
    obtain ⟨j, rfl⟩ : ∃ j : Nat, n = (j : Int) := ⟨n.toNat, by omega⟩
    have HE := Lib.hid (show newL s j = rNew j ∧ newS s j = s ∧ newE s j = 0 from ⟨by unfold newL; rw [hm]; rfl, by unfold newS; rw [hm]; rfl, by unfold newE; rw [hm]; rfl⟩)
    clear hm
    obtain ⟨i0, hi0, hz0, hz1, hz2⟩ := info_parts slot_info
    obtain ⟨q0, q1, -, q3⟩ := two_new wp (.int .i64 s) (.slice none 0 0) 24
    have hbq := alloc_below wp (.cells #[.int .i64 s, .slice none 0 0] 24)
    obtain ⟨wq, hwq⟩ : ∃ wq, wp.alloc (.cells #[.int .i64 s, .slice none 0 0] 24) = wq := ⟨_, rfl⟩
    have zq : wq.heap.size = wp.heap.size + 1 := by rw [← hwq]; simp
    rw [hwq] at q0 q1 q3 hbq
    rw [ZP.out] at q0 q1 q3
    have ST := Lib.hid (show NwI s (w.heap.size + 1) 0 none 0 wq wq from ⟨q0, q1, q3, RgNew.nil _ _, Below.refl _ _, by rw [zq, ZP.out]; exact Nat.lt_succ_self _⟩)
    have HWQ := Lib.hid hwq; have KQ := Lib.hid (bnext KP.out hbq)
    have GEQ := Lib.hid (show w.heap.size + 1 ≤ wq.heap.size from by have := ZP.out; omega)
    have ZW := Lib.hid (show w.heap.size < wp.heap.size from by have := ZP.out; omega)
    have RR := Lib.hid (show (wp.cell? ⟨w.heap.size, 0, none⟩ = some (.int .i64 0) ∧ wp.cell? ⟨w.heap.size, 1, none⟩ = some (.slice none 0 0)) ∧ wp.frozen? ⟨w.heap.size, 0, none⟩ = false ∧ wp.frozen? ⟨w.heap.size, 1, none⟩ = false from ⟨⟨k0, k1⟩, k2, k3⟩)
    have HBQ := Lib.hid hbq
    clear hwq zq hbq q0 q1 q3 k0 k1 k2 k3
    go_enter Try.func15, Try.ntmps15
    go_wp2_with fail
    rw [HWP.out]
    go_wp2_with fail
    rw [HWQ.out]
    go_loopw [7] (fun i wr => ∃ (k : Nat) (A5 : Option Addr) (c5 : Nat), k ≤ j ∧ i = .int .i64 k ∧ Hid (NwI s (w.heap.size + 1) k A5 c5 wq wr)) (fun i _ => j - (intOf i).toNat)
    case atStart => exact ⟨0, none, 0, Nat.zero_le _, rfl, ST.out⟩
    case round =>
      obtain ⟨k, A5, c5, hk, rfl, HI⟩ := hrel
      have k0 := HI.out.c0; have k1 := HI.out.c1; have f1 := HI.out.f1
      by_cases hlt : k < j
      · have ROW := Lib.hid (show wr.ownsRow (w.heap.size + 1 + 1) 59 2 (.slice A5 k c5) k (rgC (rNew k)) from by
          have h2 := HI.out.own
          unfold RgNew at h2
          rw [show (rNew k).length = k from List.length_replicate] at h2
          exact h2)
        have SZ := Lib.hid HI.out.lt
        have B63 := Lib.hid (show k + 1 ≤ maxLen by simp only [maxLen]; omega)
        have B48 := Lib.hid (show (k + 1) * 16 ≤ 140737488355328 by omega)
        have FORM := Lib.hid (fun (W' : World) (v' : Value) (h : W'.ownsRow (w.heap.size + 1 + 1) 59 2 v' (k + 1) (rgC (rNew k) ++ [.int .i64 (-1), .int .i64 0])) => own_form h)
        have STEP := Lib.hid (fun (A' : Option Addr) (c' : Nat) (w' : World) => @NwI.step s (w.heap.size + 1) k c5 c' A5 A' wq wr w' HI.out)
        go_wp2_with (at_builtin; refine wpList_append_any _ rfl (.tmp 31) (.tmp 33) _ rfl (w.heap.size + 1 + 1) 59 i0 (.agg #[.int .i64 0, .int .i64 0]) 2 16 Try.underlying22 hi0 hz0 hz1 hz2 rfl (by decide) (.slice A5 k c5) k (rgC (rNew k)) rfl (World.ownsRow.alloc ROW.out _) _ (some ⟨wr.heap.size, 0, none⟩) 1 1 [.int .i64 (-1), .int .i64 0] rfl (Reads.of_own (World.ownsRow_lit (base := 0) (e := 59) (size := 2) wr #[.int .i64 (-1), .int .i64 0] 1 (Nat.zero_le _) (by decide) rfl)) (by simp [Value.oneCell']) B63.out B48.out (by have := SZ.out; simp; omega) ?_; intro v13 w13 hown13 hg13 hat13; obtain ⟨A13, c13, hv13, _, _⟩ := FORM.out _ _ hown13; subst hv13; obtain ⟨⟨x1, y1⟩, hst⟩ := STEP.out _ _ _ hown13 hg13 GEQ.out; have HST := Lib.hid hst; clear hown13 hg13 hat13 hst)
        go_roundw
        case rel => exact ⟨k + 1, A13, c13, by omega, by go_num, HST.out⟩
        case measure => simp [intOf]; omega
      · obtain rfl : k = j := by omega
        obtain ⟨⟨r0, r1⟩, r2, r3⟩ := RR.out
        have HB := Lib.hid (show Below wp.heap.size wp wr from HBQ.out.trans (by rw [ZP.out]; exact HI.out.below))
        have r0 := cellb HB.out r0; have r1 := cellb HB.out r1
        have r2 := (HB.out.frozen (p := ⟨w.heap.size, 0, none⟩) ZW.out).trans r2
        have r3 := (HB.out.frozen (p := ⟨w.heap.size, 1, none⟩) ZW.out).trans r3
        have OWN := Lib.hid HI.out.own
        clear HI
        go_wp2_with fail
        exact bodyPost_ret (v := .tuple #[.agg #[.int .i64 s, .slice A5 k c5], .int .i64 0]) (by simp [results, Try.results15, go_sem, r0, r1, r2, r3]) rfl ⟨A5, c5, by rw [HE.out.1, HE.out.2.1, HE.out.2.2, show (rNew k).length = k from List.length_replicate], by
          rw [HE.out.1, show (rNew k).length = k from List.length_replicate]
          exact (OWN.out.mono (show w.heap.size ≤ w.heap.size + 1 + 1 from by omega)).keep (fun g hg _ hv => by
            have hge := (own_lt OWN.out hv).1
            have := ZW.out
            exact (heap_setCell_other _ ⟨w.heap.size, 1, none⟩ _ _ (by show g ≠ w.heap.size; omega)).trans (heap_setCell_other _ ⟨w.heap.size, 0, none⟩ _ _ (by show g ≠ w.heap.size; omega))), below_put2 (bnext KP.out HB.out) (Nat.le_refl _) _ _⟩
end Go.Proofs.Ytjkdfbalhjmgpaa.IR
