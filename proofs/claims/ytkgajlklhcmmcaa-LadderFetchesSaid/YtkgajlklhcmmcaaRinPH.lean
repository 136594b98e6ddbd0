/-
  Contracts of the program's functions of layer 13: new rings.
-/
import Derived.Test.YtkgajlklhcmmcaaRinPG
import Derived.StillTailTactics
set_option linter.unusedSimpArgs false
set_option linter.unusedVariables false
namespace Go.Proofs.Ytkgajlklhcmmcaa
/-- What New answers. -/
def newL (s n : Int) : List (Int × Int) := if rMay s n = true then rNew n.toNat else []
def newS (s n : Int) : Int := if rMay s n = true then s else 0
def newE (s n : Int) : Int := if rMay s n = true then 0 else 1
end Go.Proofs.Ytkgajlklhcmmcaa
namespace Go.Proofs.Ytkgajlklhcmmcaa.IP
open Go.RowKit
theorem setRow_below {B g : Nat} {w0 w : World} {cs : Array Value} (h : Below B w0 w) (hw : B ≤ w.heap.size) (hg : B ≤ g) : Below B w0 (w.setRow g cs) :=
  h.grown (grown_setRow w g cs) hw (fun j ej => by injection ej with ej; omega)
set_option maxRecDepth 100000 in
set_option maxHeartbeats 4000000 in
theorem repeat_c (b n c : Nat) (h0 : 1 ≤ n) (h4 : n ≤ 400) (w : World) (c0 : w.cell? ⟨b, 0, none⟩ = some (.int .i64 (-1))) (c1 : w.cell? ⟨b, 1, none⟩ = some (.int .i64 0)) :
    Calls Try.prog 54 #[.slice (some ⟨b, 0, none⟩) 1 c, .int .i64 (n : Int)] w fun e w' => e = .returned (.slice (some ⟨w.heap.size, 0, none⟩) n n) ∧ w'.heap[w.heap.size]? = some (.cells (curOf n 0) 50 (0, 0)) ∧ Below w.heap.size w w' := by
  have ltb := World.block_lt_of_cell? w _ c0
  have hmk := fun W => made_slots n W h4
  have MUL := Lib.hid (fun W => Try.bits_Mul 1 n (by omega) (by omega) W)
  have hb0 := alloc_below w (.cells (curOf 0 n) 50)
  have hg0 := heap_alloc_new w (.cells (curOf 0 n) 50)
  obtain ⟨wa, hwa⟩ : ∃ wa, w.alloc (.cells (curOf 0 n) 50) = wa := ⟨_, rfl⟩
  rw [hwa] at hb0 hg0
  have d0 := cellb hb0 c0; have d1 := cellb hb0 c1
  have CF := Lib.hid (fun ty dc sc => copy_first wa ty w.heap.size b n dc sc h0 hg0 d0 d1)
  have hb1 := setRow_below (g := w.heap.size) (cs := curOf 1 (n - 1)) hb0 hb0.size (Nat.le_refl _)
  have hg1 : (wa.setRow w.heap.size (curOf 1 (n - 1))).heap[w.heap.size]? = some (.cells (curOf 1 (n - 1)) 50 (0, 0)) := setRow_heap wa w.heap.size _ _ 50 _ hg0
  obtain ⟨wb, hwb⟩ : ∃ wb, wa.setRow w.heap.size (curOf 1 (n - 1)) = wb := ⟨_, rfl⟩
  rw [hwb] at hb1 hg1
  have HWA := Lib.hid hwa; have HWB := Lib.hid hwb; have HB1 := Lib.hid hb1; have HG1 := Lib.hid hg1
  have hcf : ∀ ty dc sc, (Builtin.copy_ #[51, 51] ty #[.slice (some ⟨w.heap.size, 0, none⟩) n dc, .slice (some ⟨b, 0, none⟩) 1 sc]).run Try.prog (w.alloc (.cells (curOf 0 n) 50)) = .ok (.int .i64 1) wb := fun ty dc sc => by
    rw [hwa, ← hwb]; exact CF.out ty dc sc
  have e1 : (1 * n / 18446744073709551616 : Nat) = 0 := by omega
  have e2 : (1 * n % 18446744073709551616 : Nat) = n := by omega
  rw [e1, e2] at MUL
  clear hwa hwb hb1 hg1 hb0 hg0 d0 d1 c0 c1 e1 e2
  go_enter Try.func54, Try.ntmps54
  go_wp2_with (first | (go_at_call 69; refine (MUL.out _).mono ?_; rintro _ w9 ⟨rfl, h9⟩; obtain rfl := h9.symm))
  clear hcf hmk
  have n0 : ¬ (n : Int) < 0 := by omega
  have n9 : ¬ (9223372036854775807 : Int) < (n : Int) := by omega
  have GE := Lib.hid HB1.out.size
  go_loopw [8] (fun i wr => ∃ k : Nat, 1 ≤ k ∧ k ≤ n ∧ i = .int .i64 k ∧ Hid (wr.heap[w.heap.size]? = some (.cells (curOf k (n - k)) 50 (0, 0)) ∧ Below w.heap.size w wr)) (fun i _ => n - (intOf i).toNat)
  case atStart => exact ⟨1, Nat.le_refl _, h0, rfl, HG1.out, HB1.out⟩
  case round =>
    obtain ⟨k, hk1, hk, rfl, HI⟩ := hrel
    by_cases hlt : k < n
    · obtain ⟨j, hj⟩ : ∃ j, Nat.min k (n - k) = j := ⟨_, rfl⟩
      have j1 : 1 ≤ j := by rw [← hj]; simp only [Nat.min_def]; split <;> omega
      have j2 : j ≤ n - k := by rw [← hj]; exact Nat.min_le_right _ _
      have CP := Lib.hid (fun ty dc sc => copy_slots wr.drew ty w.heap.size k (n - k) dc sc HI.out.1)
      rw [hj] at CP
      have NB := Lib.hid (setRow_below (g := w.heap.size) (cs := curOf (k + j) (n - k - j)) HI.out.2.drew HI.out.2.size (Nat.le_refl _))
      have NG := Lib.hid (show (wr.drew.setRow w.heap.size (curOf (k + j) (n - k - j))).heap[w.heap.size]? = some (.cells (curOf (k + j) (n - (k + j))) 50 (0, 0)) from by rw [show n - (k + j) = n - k - j from by omega]; exact setRow_heap wr.drew w.heap.size _ _ 50 _ HI.out.1)
      have hne : ¬ (n = k) := by omega
      have hwk : IntKind.i64.wrap ((k : Int) + (j : Int)) = ((k + j : Nat) : Int) := by rw [IntKind.wrap_i64]; omega
      go_wp2_with fail
      go_region_law (refine step_copy_eq rfl (.tmp 41) (.tmp 44) 51 51 rfl _ _ (by simp [Act.eval, Act.put]) (by simp [Act.eval, Act.put]) (CP.out _ (n - k) n) ?_; simp only [Act.put, goInt, List.getElem_toArray, List.getElem_cons_zero, List.getElem_cons_succ, List.setIfInBounds_toArray, List.set_cons_zero, List.set_cons_succ])
      simp only [hwk, Act.put, goInt, List.getElem_toArray, List.getElem_cons_zero, List.getElem_cons_succ, List.setIfInBounds_toArray, List.set_cons_zero, List.set_cons_succ]
      go_roundw
      case rel => (repeat apply Exists.intro); exact ⟨⟨k + j, by omega, by omega, by rw [Int.natCast_add], NG.out, NB.out⟩, rfl⟩
      case measure => show n - ((k : Int) + (j : Int)).toNat < n - ((k : Int)).toNat; omega
    · obtain rfl : k = n := by omega
      have FIN := Lib.hid HI.out
      clear HI
      go_wp2_with fail
      go_ret
      exact ⟨rfl, by have := FIN.out.1; rw [Nat.sub_self] at this; exact this, FIN.out.2⟩
theorem rNew_own {w : World} {g n B : Nat} (h : w.heap[g]? = some (.cells (curOf n 0) 50 (0, 0))) (hB : B ≤ g) (hn : n ≤ 400) : RgNew B w (.slice (some ⟨g, 0, none⟩) n n) (rNew n) := by
  have hl : (rNew n).length = n := List.length_replicate
  have hc : (curOf n 0).toList = rgC (rNew n) := by
    show rgC (_ ++ _) = _
    rw [List.replicate_zero, List.append_nil]; rfl
  refine ⟨by rw [rgC_length], Or.inr ⟨g, n, curOf n 0, by rw [hl], hB, h, by rw [hl]; exact Nat.le_refl _, by simp only [maxLen]; omega, by rw [← Array.length_toList, curOf_len]; rfl, ?_⟩⟩
  rw [hc, hl, List.take_of_length_le (by rw [rgC_length, hl]; exact Nat.le_refl _)]
set_option maxRecDepth 100000 in
set_option maxHeartbeats 2000000 in
theorem new_c (s n : Int) (w : World) :
    Calls Try.prog 30 #[.int .i64 s, .int .i64 n] w fun e w' => ∃ A c, e = .returned (.tuple #[.agg #[.int .i64 (newS s n), .slice A (newL s n).length c], .int .i64 (newE s n)]) ∧ RgNew w.heap.size w' (.slice A (newL s n).length c) (newL s n) ∧ Below w.heap.size w w' := by
  have MB := Lib.hid (mayBe_c s n)
  obtain ⟨k0, k1, k2, k3⟩ := two_new w (.int .i64 0) (.slice none 0 0) 53
  have hbp := alloc_below w (.cells #[.int .i64 0, .slice none 0 0] 53)
  obtain ⟨wp, hwp⟩ : ∃ wp, w.alloc (.cells #[.int .i64 0, .slice none 0 0] 53) = wp := ⟨_, rfl⟩
  have zp : w.heap.size < wp.heap.size := by rw [← hwp]; simp
  rw [hwp] at k0 k1 k2 k3 hbp
  have HWP := Lib.hid hwp; have KP := Lib.hid hbp
  clear hwp hbp
  cases hm : rMay s n
  · have HE := Lib.hid (show newL s n = [] ∧ newS s n = 0 ∧ newE s n = 1 from ⟨by unfold newL; rw [hm]; rfl, by unfold newS; rw [hm]; rfl, by unfold newE; rw [hm]; rfl⟩)
    rw [hm] at MB
    clear hm
    go_enter Try.func30, Try.ntmps30
    go_wp2_with fail
    rw [HWP.out]
    refine (MB.out _).mono ?_; rintro _ w1 ⟨rfl, rfl⟩
    go_wp2_with fail
    exact bodyPost_ret (v := .tuple #[.agg #[.int .i64 0, .slice none 0 0], .int .i64 1]) (by simp [results, Try.results30, go_sem, k0, k1, k2, k3]) rfl ⟨none, 0, by rw [HE.out.1, HE.out.2.1, HE.out.2.2]; rfl, by rw [HE.out.1]; exact RgNew.nil _ _, below_put2 KP.out (Nat.le_refl _) _ _⟩
  · obtain ⟨m1, m2, m3, m4⟩ := rMay_iff.1 hm
    obtain ⟨j, rfl⟩ : ∃ j : Nat, n = (j : Int) := ⟨n.toNat, by omega⟩
    have HE := Lib.hid (show newL s j = rNew j ∧ newS s j = s ∧ newE s j = 0 from ⟨by unfold newL; rw [hm]; rfl, by unfold newS; rw [hm]; rfl, by unfold newE; rw [hm]; rfl⟩)
    have EM := Lib.hid (empty_c wp)
    have RP := Lib.hid (fun b W h0 h1 => repeat_c b j 1 (by omega) (by omega) W h0 h1)
    rw [hm] at MB
    have HJ := Lib.hid (show j ≤ 400 from by omega)
    clear hm
    go_enter Try.func30, Try.ntmps30
    go_wp2_with fail
    rw [HWP.out]
    refine (MB.out _).mono ?_; rintro _ w1 ⟨rfl, rfl⟩
    go_wp2_with fail
    refine EM.out.mono ?_; rintro _ w2 ⟨rfl, hb2⟩
    have k0 := cellb hb2 k0; have k1 := cellb hb2 k1
    have k2 := (hb2.frozen (p := ⟨w.heap.size, 0, none⟩) zp).trans k2
    have k3 := (hb2.frozen (p := ⟨w.heap.size, 1, none⟩) zp).trans k3
    have z2 := Nat.lt_of_lt_of_le zp hb2.size
    obtain ⟨c0, c1, -, -⟩ := two_new w2 (.int .i64 (-1)) (.int .i64 0) 50
    have hb3 := alloc_below w2 (.cells #[.int .i64 (-1), .int .i64 0] 50)
    obtain ⟨w3, hw3⟩ : ∃ w3, w2.alloc (.cells #[.int .i64 (-1), .int .i64 0] 50) = w3 := ⟨_, rfl⟩
    rw [hw3] at c0 c1 hb3
    have HW3 := Lib.hid hw3
    have k0 := cellb hb3 k0; have k1 := cellb hb3 k1
    have k2 := (hb3.frozen (p := ⟨w.heap.size, 0, none⟩) z2).trans k2
    have k3 := (hb3.frozen (p := ⟨w.heap.size, 1, none⟩) z2).trans k3
    have z3 := Nat.lt_of_lt_of_le z2 hb3.size
    have K3 := Lib.hid (bnext (bnext KP.out hb2) hb3)
    have RP2 := Lib.hid (RP.out _ _ c0 c1)
    clear hb2 hb3 hw3 c0 c1
    go_wp2_with fail
    rw [HW3.out]
    refine RP2.out.mono ?_; rintro _ w4 ⟨rfl, hg4, hb4⟩
    have k0 := cellb hb4 k0; have k1 := cellb hb4 k1
    have k2 := (hb4.frozen (p := ⟨w.heap.size, 0, none⟩) z3).trans k2
    have k3 := (hb4.frozen (p := ⟨w.heap.size, 1, none⟩) z3).trans k3
    have K4 := Lib.hid (bnext K3.out hb4)
    have OWN := Lib.hid (rNew_own (B := w.heap.size + 1) hg4 z3 HJ.out)
    clear hb4 hg4
    go_wp2_with fail
    exact bodyPost_ret (v := .tuple #[.agg #[.int .i64 s, .slice (some ⟨w3.heap.size, 0, none⟩) j j], .int .i64 0]) (by simp [results, Try.results30, go_sem, k0, k1, k2, k3]) rfl ⟨some ⟨w3.heap.size, 0, none⟩, j, by rw [HE.out.1, HE.out.2.1, HE.out.2.2]; unfold rNew; rw [List.length_replicate], by
      rw [HE.out.1, show (rNew j).length = j from List.length_replicate]
      exact (OWN.out.mono (Nat.le_succ _)).keep (fun g hg _ hv => by
        obtain rfl : w3.heap.size = g := by simpa [Value.ownBlock] using hv
        exact (heap_setCell_other _ ⟨w.heap.size, 1, none⟩ _ _ (by show w3.heap.size ≠ w.heap.size; omega)).trans (heap_setCell_other _ ⟨w.heap.size, 0, none⟩ _ _ (by show w3.heap.size ≠ w.heap.size; omega))), below_put2 K4.out (Nat.le_refl _) _ _⟩
end Go.Proofs.Ytkgajlklhcmmcaa.IP
