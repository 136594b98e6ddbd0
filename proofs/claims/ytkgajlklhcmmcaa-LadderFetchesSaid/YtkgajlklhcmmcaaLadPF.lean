/-
  What a reckoning makes of values, from the first one on.
-/
import Derived.Test.YtkgajlklhcmmcaaLadPE
import Derived.Test.YtkgajlklhcmmcaaFixPC
import Derived.Shelf.Abstract
import Derived.Deep.RegionWith
set_option linter.unusedSimpArgs false
set_option linter.unusedVariables false
namespace Go.Proofs.Ytkgajlklhcmmcaa
open Go.RowKit
/-- Does a number have 64 bits? -/
def I64 (x : Int) : Prop := -9223372036854775808 ≤ x ∧ x ≤ 9223372036854775807
theorem lFold_step (g : Option Int → Option Int → Option Int) (v : Int) (vs : List Int) (k : Nat) {x : Int} (h : vs[k]? = some x) : lFold g (v :: vs.take (k + 1)) = g (lFold g (v :: vs.take k)) (rd false x) := by
  unfold lFold
  simp only
  rw [List.take_add_one, h, List.foldl_append]
  rfl
theorem inR_nv {o : Option Int} (h : inR o) : I64 (nv o) := by
  unfold I64
  cases o with
  | none => unfold nv; simp
  | some t => have := h t rfl; unfold nv; simp; omega
theorem inR_lim (t : Int) : inR (lim t) := by
  intro s hs
  unfold lim at hs
  split at hs
  · rename_i h; obtain rfl := Option.some.inj hs; exact h
  · cases hs
theorem inR_add (x y : Option Int) : inR (addO x y) := by
  cases x <;> cases y <;> first | exact inR_lim _ | (intro s hs; cases hs)
theorem inR_less {x y : Option Int} (hx : inR x) (hy : inR y) : inR (lessO x y) := by
  intro s hs
  cases x with
  | none => cases y with
    | none => first | cases hs | exact hy s hs
    | some b => exact hy s hs
  | some a => cases y with
    | none => exact hx s hs
    | some b =>
      have h1 := hx a rfl; have h2 := hy b rfl
      unfold lessO at hs
      simp only at hs
      split at hs <;> (obtain rfl := Option.some.inj hs; assumption)
theorem inR_more {x y : Option Int} (hx : inR x) (hy : inR y) : inR (moreO x y) := by
  intro s hs
  cases x with
  | none => cases y with
    | none => first | cases hs | exact hy s hs
    | some b => exact hy s hs
  | some a => cases y with
    | none => exact hx s hs
    | some b =>
      have h1 := hx a rfl; have h2 := hy b rfl
      unfold moreO at hs
      simp only at hs
      split at hs <;> (obtain rfl := Option.some.inj hs; assumption)
namespace AP
open IP
theorem eg_add : ∀ args w, (callFunc 74 args).run Try.prog w = .ok (.enter 74 args) w := enters_of Try.func74 (by kernel_rfl) rfl
set_option maxRecDepth 100000 in
set_option maxHeartbeats 4000000 in
theorem together_add_pos (b off cp : Nat) (v0 : Int) (vs : List Int) (hl : vs.length ≤ 100000) (hcp : vs.length ≤ cp) (hc0 : ¬ cp = 0) (hr : ∀ x ∈ v0 :: vs, I64 x) (w : World) (f : IlAt w b off (v0 :: vs)) :
    Calls Try.prog 73 #[.func (.func 74) #[] #[], .slice (some ⟨b, off, none⟩) (vs.length + 1) (cp + 1)] w fun e w' => e = .returned (.agg #[.bool (nb (lFold addO (v0 :: vs))), .int .i64 (nv (lFold addO (v0 :: vs)))]) ∧ Below w.heap.size w w' := by
  have eg := eg_add
  obtain ⟨n, hn⟩ : ∃ n, vs.length = n := ⟨_, rfl⟩
  obtain ⟨R, hR⟩ : ∃ R, lFold addO (v0 :: vs) = R := ⟨_, rfl⟩
  rw [hR]
  rw [hn] at hl hcp ⊢
  obtain ⟨b1, hb, hz⟩ := bx_new1 w #[.bool false, .int .i64 0] 61
  have cA : (w.alloc (.cells #[.bool false, .int .i64 0] 61)).cell? ⟨b, off, none⟩ = some (.int .i64 v0) := cellb hb (by have := f 0 v0 rfl; simpa using this)
  obtain ⟨wp, hwp⟩ : ∃ wp, w.alloc (.cells #[.bool false, .int .i64 0] 61) = wp := ⟨_, rfl⟩
  rw [hwp] at b1 hb hz
  have c0 : wp.cell? ⟨b, off, none⟩ = some (.int .i64 v0) := cellb hb (by have := f 0 v0 rfl; simpa using this)
  have REST := Lib.hid (show ∀ (k : Nat) (x : Int), vs[k]? = some x → w.cell? ⟨b, off + 1 + k, none⟩ = some (.int .i64 x) from fun k x hk => by have := f (k + 1) x (by simpa using hk); rwa [show off + (k + 1) = off + 1 + k from by omega] at this)
  have HR := Lib.hid (show ∀ (k : Nat) (x : Int), vs[k]? = some x → I64 x from fun k x hk => hr x (List.mem_cons_of_mem _ (List.mem_of_getElem? hk)))
  have R0 := Lib.hid (FP.rd_in false v0 (hr v0 List.mem_cons_self))
  obtain ⟨o0, ho0⟩ : ∃ o, rd false v0 = o := ⟨_, rfl⟩
  have OF0 := fun W => FP.of_c v0 W
  rw [ho0] at OF0 R0
  have OF0 := Lib.hid OF0
  have HN := Lib.hid hn; have KP := Lib.hid hb; have HWP := Lib.hid hwp; have B1 := Lib.hid b1; have HR0 := Lib.hid hR
  have HO0 := Lib.hid (show lFold addO (v0 :: vs.take 0) = o0 from ho0)
  clear b1 hb hz hwp f hn hr hR ho0
  go_enter Try.func73, Try.ntmps73
  go_wp2_with fail
  rw [HWP.out]
  clear cA
  refine (OF0.out _).mono ?_; rintro _ w1 ⟨rfl, hb1⟩
  obtain ⟨B0, hB0⟩ : ∃ B, nb o0 = B := ⟨_, rfl⟩
  obtain ⟨N0, hN0⟩ : ∃ N, nv o0 = N := ⟨_, rfl⟩
  rw [hB0, hN0]
  obtain ⟨b2, hb2, hz2⟩ := bx_new1 w1 #[.bool B0, .int .i64 N0] 61
  obtain ⟨w2, hw2⟩ : ∃ w2, w1.alloc (.cells #[.bool B0, .int .i64 N0] 61) = w2 := ⟨_, rfl⟩
  rw [hw2] at b2 hb2 hz2
  have HW2 := Lib.hid hw2
  have K2 := Lib.hid (bnext (bnext KP.out hb1) hb2)
  have NE := Lib.hid (show w.heap.size < w1.heap.size from Nat.lt_of_lt_of_le B1.out.lt hb1.size)
  have ST := Lib.hid (show Bx w2 w.heap.size [.bool false, .int .i64 0] ∧ Bx w2 w1.heap.size [.bool (nb o0), .int .i64 (nv o0)] from ⟨(B1.out.below hb1).below hb2, by rw [hB0, hN0]; exact b2⟩)
  clear hw2 hb1 hb2 hz2 b2 c0 hB0 hN0
  go_wp2_with fail
  rw [HW2.out]
  go_loopw [15] (fun i wr => ∃ (k : Nat) (o : Option Int), k ≤ n ∧ i = .int .i64 k ∧ Hid (lFold addO (v0 :: vs.take k) = o ∧ inR o ∧ Bx wr w.heap.size [.bool false, .int .i64 0] ∧ Bx wr w1.heap.size [.bool (nb o), .int .i64 (nv o)] ∧ Below w.heap.size w wr)) (fun i _ => n - (intOf i).toNat)
  case atStart => exact ⟨0, o0, Nat.zero_le _, rfl, HO0.out, R0.out, ST.out.1, ST.out.2, K2.out⟩
  case round =>
    obtain ⟨k, o, hk, rfl, HI⟩ := hrel
    obtain ⟨h1, h2, h3, h4, h5⟩ := HI.out
    by_cases hlt : k < n
    · obtain ⟨x, hx⟩ : ∃ x, vs[k]? = some x := ⟨_, List.getElem?_eq_getElem (by rw [HN.out]; exact hlt)⟩
      have c1 := cellb h5 (REST.out k x hx)
      have STEP := lFold_step addO v0 vs k hx
      rw [h1] at STEP
      have rx := HR.out k x hx
      have R1 := FP.rd_in false x rx
      have RB := FP.rd_back _ R1
      have RBo := FP.rd_back _ h2
      have RN := inR_nv R1
      have RNo := inR_nv h2
      have NXR : inR (addO o (rd false x)) := inR_add _ _
      have OF1 := fun W => FP.of_c x W
      have CL := fun W => FP.add_any (nb o) (nb (rd false x)) (nv o) (nv (rd false x)) RNo RN W
      rw [RB, RBo] at CL
      obtain ⟨y, hy⟩ : ∃ y, addO o (rd false x) = y := ⟨_, rfl⟩
      rw [hy] at CL STEP NXR
      obtain ⟨B1', hB1⟩ : ∃ B, nb (rd false x) = B := ⟨_, rfl⟩
      obtain ⟨N1, hN1⟩ : ∃ N, nv (rd false x) = N := ⟨_, rfl⟩
      rw [hB1, hN1] at OF1 CL
      obtain ⟨B2, hB2⟩ : ∃ B, nb o = B := ⟨_, rfl⟩
      obtain ⟨N2, hN2⟩ : ∃ N, nv o = N := ⟨_, rfl⟩
      rw [hB2, hN2] at CL h4
      obtain ⟨B3, hB3⟩ : ∃ B, nb y = B := ⟨_, rfl⟩
      obtain ⟨N3, hN3⟩ : ∃ N, nv y = N := ⟨_, rfl⟩
      rw [hB3, hN3] at CL
      obtain ⟨k0, k1, k2, k3⟩ := h4.two
      have OF1 := Lib.hid OF1; have CL := Lib.hid CL; have NX := Lib.hid STEP; have NR := Lib.hid NXR
      have BN := Lib.hid (show [Value.bool B3, .int .i64 N3] = [.bool (nb y), .int .i64 (nv y)] from by rw [hB3, hN3])
      have H3 := Lib.hid h3; have H4 := Lib.hid h4; have H5 := Lib.hid h5
      clear h1 h2 h3 h5 hx STEP rx R1 RB RBo RN RNo NXR hy hB1 hN1 hB2 hN2 hB3 hN3 HI
      go_wp2_with fail
      go_region_with
        (first
          | (go_at_call 66; refine (OF1.out _).mono ?_; rintro e w5 ⟨rfl, hb5⟩; have TT : Below wr.heap.size wr w5 := bnext (by first | exact (Below.refl wr.heap.size wr) | exact (Below.refl wr.heap.size wr).drew) hb5; obtain ⟨q50, q51, -, -⟩ := (H4.out.below TT).two)
          | (go_at_fn 74; refine (CL.out _).mono ?_; rintro e w6 ⟨rfl, hb6⟩; have T6 : Below wr.heap.size wr w6 := bnext TT hb6; obtain ⟨z0, z1, z2, z3⟩ := (H4.out.below T6).two)
          | fail)
      all_goals (try go_wp2_with fail)
      all_goals
       go_roundw
       case rel => exact ⟨k + 1, y, by omega, by go_num, NX.out, NR.out, (H3.out.below T6).other2 (by exact (Nat.ne_of_gt NE.out)) _ _, by rw [← BN.out]; exact ((H4.out.below T6).set (j := 0) (by simp) _).set (j := 1) (by simp) _, below_set (below_set (bnext H5.out T6) (Nat.le_of_lt NE.out) _) (Nat.le_of_lt NE.out) _⟩
       case measure => simp [intOf]; omega
    · obtain rfl : k = n := by omega
      obtain rfl : o = R := by rw [← h1, ← HR0.out, ← HN.out, List.take_length]
      obtain ⟨j0, j1, j2, j3⟩ := h3.two
      obtain ⟨k0, k1, -, -⟩ := h4.two
      obtain ⟨B2, hB2⟩ : ∃ B, nb o = B := ⟨_, rfl⟩
      obtain ⟨N2, hN2⟩ : ∃ N, nv o = N := ⟨_, rfl⟩
      rw [hB2] at k0
      rw [hN2] at k1
      have H5 := Lib.hid h5; have HBN := Lib.hid (show nb o = B2 ∧ nv o = N2 from ⟨hB2, hN2⟩)
      clear HI h1 h2 h3 h4 h5 hB2 hN2 HR0
      go_wp2_with fail
      exact bodyPost_ret (v := .agg #[.bool B2, .int .i64 N2]) (by simp [results, Try.results73, go_sem, j0, j1, j2, j3]) rfl ⟨by rw [HBN.out.1, HBN.out.2], below_set (below_set H5.out (Nat.le_refl _) _) (Nat.le_refl _) _⟩
set_option maxRecDepth 100000 in
set_option maxHeartbeats 4000000 in
theorem together_add_zero (b off : Nat) (v0 : Int) (w : World) (c00 : w.cell? ⟨b, off, none⟩ = some (.int .i64 v0)) :
    Calls Try.prog 73 #[.func (.func 74) #[] #[], .slice (some ⟨b, off, none⟩) 1 1] w fun e w' => e = .returned (.agg #[.bool (nb (rd false v0)), .int .i64 (nv (rd false v0))]) ∧ Below w.heap.size w w' := by
  have eg := eg_add
  obtain ⟨b1, hb, hz⟩ := bx_new1 w #[.bool false, .int .i64 0] 61
  have cA : (w.alloc (.cells #[.bool false, .int .i64 0] 61)).cell? ⟨b, off, none⟩ = some (.int .i64 v0) := cellb hb c00
  obtain ⟨wp, hwp⟩ : ∃ wp, w.alloc (.cells #[.bool false, .int .i64 0] 61) = wp := ⟨_, rfl⟩
  rw [hwp] at b1 hb hz
  have OF0 := fun W => FP.of_c v0 W
  obtain ⟨o0, ho0⟩ : ∃ o, rd false v0 = o := ⟨_, rfl⟩
  rw [ho0] at OF0 ⊢
  have OF0 := Lib.hid OF0
  have KP := Lib.hid hb; have HWP := Lib.hid hwp; have B1 := Lib.hid b1
  clear b1 hb hz hwp c00 ho0
  go_enter Try.func73, Try.ntmps73
  go_wp2_with fail
  rw [HWP.out]
  clear cA
  refine (OF0.out _).mono ?_; rintro _ w1 ⟨rfl, hb1⟩
  obtain ⟨B0, hB0⟩ : ∃ B, nb o0 = B := ⟨_, rfl⟩
  obtain ⟨N0, hN0⟩ : ∃ N, nv o0 = N := ⟨_, rfl⟩
  rw [hB0, hN0]
  obtain ⟨b2, hb2, hz2⟩ := bx_new1 w1 #[.bool B0, .int .i64 N0] 61
  obtain ⟨w2, hw2⟩ : ∃ w2, w1.alloc (.cells #[.bool B0, .int .i64 N0] 61) = w2 := ⟨_, rfl⟩
  rw [hw2] at b2 hb2 hz2
  have HW2 := Lib.hid hw2
  have K2 := Lib.hid (bnext (bnext KP.out hb1) hb2)
  have ST := Lib.hid (show Bx w2 w.heap.size [.bool false, .int .i64 0] ∧ Bx w2 w1.heap.size [.bool B0, .int .i64 N0] from ⟨(B1.out.below hb1).below hb2, b2⟩)
  have HBN := Lib.hid (show nb o0 = B0 ∧ nv o0 = N0 from ⟨hB0, hN0⟩)
  clear hw2 hb1 hb2 hz2 b2 hB0 hN0
  go_wp2_with fail
  rw [HW2.out]
  go_loopw [15] (fun i wr => i = .int .i64 0 ∧ Hid (Bx wr w.heap.size [.bool false, .int .i64 0] ∧ Bx wr w1.heap.size [.bool B0, .int .i64 N0] ∧ Below w.heap.size w wr)) (fun _ _ => 0)
  case atStart => exact ⟨rfl, ST.out.1, ST.out.2, K2.out⟩
  case round =>
    obtain ⟨rfl, HI⟩ := hrel
    obtain ⟨j0, j1, j2, j3⟩ := HI.out.1.two
    obtain ⟨k0, k1, -, -⟩ := HI.out.2.1.two
    have H5 := Lib.hid HI.out.2.2
    go_wp2_with fail
    exact bodyPost_ret (v := .agg #[.bool B0, .int .i64 N0]) (by simp [results, Try.results73, go_sem, j0, j1, j2, j3]) rfl ⟨by rw [HBN.out.1, HBN.out.2], below_set (below_set H5.out (Nat.le_refl _) _) (Nat.le_refl _) _⟩
theorem together_add (v : Value) (l : List Int) (h0 : l ≠ []) (hl : l.length ≤ 100000) (hr : ∀ x ∈ l, I64 x) (w : World) (f : IlOut w v l) :
    Calls Try.prog 73 #[.func (.func 74) #[] #[], v] w fun e w' => e = .returned (.agg #[.bool (nb (lFold addO l)), .int .i64 (nv (lFold addO l))]) ∧ Below w.heap.size w w' := by
  obtain ⟨A, c, rfl, hc, hx⟩ := f
  obtain ⟨b, off, rfl, ha⟩ := hx h0
  match l, h0 with
  | v0 :: vs, _ =>
    rw [List.length_cons] at hc hl ⊢
    obtain ⟨cp, rfl⟩ : ∃ cp, c = cp + 1 := ⟨c - 1, by omega⟩
    by_cases hc0 : cp = 0
    · subst hc0
      obtain rfl : vs = [] := List.eq_nil_of_length_eq_zero (by omega)
      exact together_add_zero b off v0 w (by have := ha 0 v0 rfl; simpa using this)
    · exact together_add_pos b off cp v0 vs (by omega) (by omega) hc0 hr w ha
theorem eg_less : ∀ args w, (callFunc 76 args).run Try.prog w = .ok (.enter 76 args) w := enters_of Try.func76 (by kernel_rfl) rfl
set_option maxRecDepth 100000 in
set_option maxHeartbeats 4000000 in
theorem together_less_pos (b off cp : Nat) (v0 : Int) (vs : List Int) (hl : vs.length ≤ 100000) (hcp : vs.length ≤ cp) (hc0 : ¬ cp = 0) (hr : ∀ x ∈ v0 :: vs, I64 x) (w : World) (f : IlAt w b off (v0 :: vs)) :
    Calls Try.prog 73 #[.func (.func 76) #[] #[], .slice (some ⟨b, off, none⟩) (vs.length + 1) (cp + 1)] w fun e w' => e = .returned (.agg #[.bool (nb (lFold lessO (v0 :: vs))), .int .i64 (nv (lFold lessO (v0 :: vs)))]) ∧ Below w.heap.size w w' := by
  have eg := eg_less
  obtain ⟨n, hn⟩ : ∃ n, vs.length = n := ⟨_, rfl⟩
  obtain ⟨R, hR⟩ : ∃ R, lFold lessO (v0 :: vs) = R := ⟨_, rfl⟩
  rw [hR]
  rw [hn] at hl hcp ⊢
  obtain ⟨b1, hb, hz⟩ := bx_new1 w #[.bool false, .int .i64 0] 61
  have cA : (w.alloc (.cells #[.bool false, .int .i64 0] 61)).cell? ⟨b, off, none⟩ = some (.int .i64 v0) := cellb hb (by have := f 0 v0 rfl; simpa using this)
  obtain ⟨wp, hwp⟩ : ∃ wp, w.alloc (.cells #[.bool false, .int .i64 0] 61) = wp := ⟨_, rfl⟩
  rw [hwp] at b1 hb hz
  have c0 : wp.cell? ⟨b, off, none⟩ = some (.int .i64 v0) := cellb hb (by have := f 0 v0 rfl; simpa using this)
  have REST := Lib.hid (show ∀ (k : Nat) (x : Int), vs[k]? = some x → w.cell? ⟨b, off + 1 + k, none⟩ = some (.int .i64 x) from fun k x hk => by have := f (k + 1) x (by simpa using hk); rwa [show off + (k + 1) = off + 1 + k from by omega] at this)
  have HR := Lib.hid (show ∀ (k : Nat) (x : Int), vs[k]? = some x → I64 x from fun k x hk => hr x (List.mem_cons_of_mem _ (List.mem_of_getElem? hk)))
  have R0 := Lib.hid (FP.rd_in false v0 (hr v0 List.mem_cons_self))
  obtain ⟨o0, ho0⟩ : ∃ o, rd false v0 = o := ⟨_, rfl⟩
  have OF0 := fun W => FP.of_c v0 W
  rw [ho0] at OF0 R0
  have OF0 := Lib.hid OF0
  have HN := Lib.hid hn; have KP := Lib.hid hb; have HWP := Lib.hid hwp; have B1 := Lib.hid b1; have HR0 := Lib.hid hR
  have HO0 := Lib.hid (show lFold lessO (v0 :: vs.take 0) = o0 from ho0)
  clear b1 hb hz hwp f hn hr hR ho0
  go_enter Try.func73, Try.ntmps73
  go_wp2_with fail
  rw [HWP.out]
  clear cA
  refine (OF0.out _).mono ?_; rintro _ w1 ⟨rfl, hb1⟩
  obtain ⟨B0, hB0⟩ : ∃ B, nb o0 = B := ⟨_, rfl⟩
  obtain ⟨N0, hN0⟩ : ∃ N, nv o0 = N := ⟨_, rfl⟩
  rw [hB0, hN0]
  obtain ⟨b2, hb2, hz2⟩ := bx_new1 w1 #[.bool B0, .int .i64 N0] 61
  obtain ⟨w2, hw2⟩ : ∃ w2, w1.alloc (.cells #[.bool B0, .int .i64 N0] 61) = w2 := ⟨_, rfl⟩
  rw [hw2] at b2 hb2 hz2
  have HW2 := Lib.hid hw2
  have K2 := Lib.hid (bnext (bnext KP.out hb1) hb2)
  have NE := Lib.hid (show w.heap.size < w1.heap.size from Nat.lt_of_lt_of_le B1.out.lt hb1.size)
  have ST := Lib.hid (show Bx w2 w.heap.size [.bool false, .int .i64 0] ∧ Bx w2 w1.heap.size [.bool (nb o0), .int .i64 (nv o0)] from ⟨(B1.out.below hb1).below hb2, by rw [hB0, hN0]; exact b2⟩)
  clear hw2 hb1 hb2 hz2 b2 c0 hB0 hN0
  go_wp2_with fail
  rw [HW2.out]
  go_loopw [15] (fun i wr => ∃ (k : Nat) (o : Option Int), k ≤ n ∧ i = .int .i64 k ∧ Hid (lFold lessO (v0 :: vs.take k) = o ∧ inR o ∧ Bx wr w.heap.size [.bool false, .int .i64 0] ∧ Bx wr w1.heap.size [.bool (nb o), .int .i64 (nv o)] ∧ Below w.heap.size w wr)) (fun i _ => n - (intOf i).toNat)
  case atStart => exact ⟨0, o0, Nat.zero_le _, rfl, HO0.out, R0.out, ST.out.1, ST.out.2, K2.out⟩
  case round =>
    obtain ⟨k, o, hk, rfl, HI⟩ := hrel
    obtain ⟨h1, h2, h3, h4, h5⟩ := HI.out
    by_cases hlt : k < n
    · obtain ⟨x, hx⟩ : ∃ x, vs[k]? = some x := ⟨_, List.getElem?_eq_getElem (by rw [HN.out]; exact hlt)⟩
      have c1 := cellb h5 (REST.out k x hx)
      have STEP := lFold_step lessO v0 vs k hx
      rw [h1] at STEP
      have rx := HR.out k x hx
      have R1 := FP.rd_in false x rx
      have RB := FP.rd_back _ R1
      have RBo := FP.rd_back _ h2
      have RN := inR_nv R1
      have RNo := inR_nv h2
      have NXR : inR (lessO o (rd false x)) := inR_less h2 R1
      have OF1 := fun W => FP.of_c x W
      have CL := fun W => FP.less_any (nb o) (nb (rd false x)) (nv o) (nv (rd false x)) W
      rw [RB, RBo] at CL
      obtain ⟨y, hy⟩ : ∃ y, lessO o (rd false x) = y := ⟨_, rfl⟩
      rw [hy] at CL STEP NXR
      obtain ⟨B1', hB1⟩ : ∃ B, nb (rd false x) = B := ⟨_, rfl⟩
      obtain ⟨N1, hN1⟩ : ∃ N, nv (rd false x) = N := ⟨_, rfl⟩
      rw [hB1, hN1] at OF1 CL
      obtain ⟨B2, hB2⟩ : ∃ B, nb o = B := ⟨_, rfl⟩
      obtain ⟨N2, hN2⟩ : ∃ N, nv o = N := ⟨_, rfl⟩
      rw [hB2, hN2] at CL h4
      obtain ⟨B3, hB3⟩ : ∃ B, nb y = B := ⟨_, rfl⟩
      obtain ⟨N3, hN3⟩ : ∃ N, nv y = N := ⟨_, rfl⟩
      rw [hB3, hN3] at CL
      obtain ⟨k0, k1, k2, k3⟩ := h4.two
      have OF1 := Lib.hid OF1; have CL := Lib.hid CL; have NX := Lib.hid STEP; have NR := Lib.hid NXR
      have BN := Lib.hid (show [Value.bool B3, .int .i64 N3] = [.bool (nb y), .int .i64 (nv y)] from by rw [hB3, hN3])
      have H3 := Lib.hid h3; have H4 := Lib.hid h4; have H5 := Lib.hid h5
      clear h1 h2 h3 h5 hx STEP rx R1 RB RBo RN RNo NXR hy hB1 hN1 hB2 hN2 hB3 hN3 HI
      go_wp2_with fail
      go_region_with
        (first
          | (go_at_call 66; refine (OF1.out _).mono ?_; rintro e w5 ⟨rfl, hb5⟩; have TT : Below wr.heap.size wr w5 := bnext (by first | exact (Below.refl wr.heap.size wr) | exact (Below.refl wr.heap.size wr).drew) hb5; obtain ⟨q50, q51, -, -⟩ := (H4.out.below TT).two)
          | (go_at_fn 76; refine (CL.out _).mono ?_; rintro e w6 ⟨rfl, hb6⟩; have T6 : Below wr.heap.size wr w6 := bnext TT hb6; obtain ⟨z0, z1, z2, z3⟩ := (H4.out.below T6).two)
          | fail)
      all_goals (try go_wp2_with fail)
      all_goals
       go_roundw
       case rel => exact ⟨k + 1, y, by omega, by go_num, NX.out, NR.out, (H3.out.below T6).other2 (by exact (Nat.ne_of_gt NE.out)) _ _, by rw [← BN.out]; exact ((H4.out.below T6).set (j := 0) (by simp) _).set (j := 1) (by simp) _, below_set (below_set (bnext H5.out T6) (Nat.le_of_lt NE.out) _) (Nat.le_of_lt NE.out) _⟩
       case measure => simp [intOf]; omega
    · obtain rfl : k = n := by omega
      obtain rfl : o = R := by rw [← h1, ← HR0.out, ← HN.out, List.take_length]
      obtain ⟨j0, j1, j2, j3⟩ := h3.two
      obtain ⟨k0, k1, -, -⟩ := h4.two
      obtain ⟨B2, hB2⟩ : ∃ B, nb o = B := ⟨_, rfl⟩
      obtain ⟨N2, hN2⟩ : ∃ N, nv o = N := ⟨_, rfl⟩
      rw [hB2] at k0
      rw [hN2] at k1
      have H5 := Lib.hid h5; have HBN := Lib.hid (show nb o = B2 ∧ nv o = N2 from ⟨hB2, hN2⟩)
      clear HI h1 h2 h3 h4 h5 hB2 hN2 HR0
      go_wp2_with fail
      exact bodyPost_ret (v := .agg #[.bool B2, .int .i64 N2]) (by simp [results, Try.results73, go_sem, j0, j1, j2, j3]) rfl ⟨by rw [HBN.out.1, HBN.out.2], below_set (below_set H5.out (Nat.le_refl _) _) (Nat.le_refl _) _⟩
set_option maxRecDepth 100000 in
set_option maxHeartbeats 4000000 in
theorem together_less_zero (b off : Nat) (v0 : Int) (w : World) (c00 : w.cell? ⟨b, off, none⟩ = some (.int .i64 v0)) :
    Calls Try.prog 73 #[.func (.func 76) #[] #[], .slice (some ⟨b, off, none⟩) 1 1] w fun e w' => e = .returned (.agg #[.bool (nb (rd false v0)), .int .i64 (nv (rd false v0))]) ∧ Below w.heap.size w w' := by
  have eg := eg_less
  obtain ⟨b1, hb, hz⟩ := bx_new1 w #[.bool false, .int .i64 0] 61
  have cA : (w.alloc (.cells #[.bool false, .int .i64 0] 61)).cell? ⟨b, off, none⟩ = some (.int .i64 v0) := cellb hb c00
  obtain ⟨wp, hwp⟩ : ∃ wp, w.alloc (.cells #[.bool false, .int .i64 0] 61) = wp := ⟨_, rfl⟩
  rw [hwp] at b1 hb hz
  have OF0 := fun W => FP.of_c v0 W
  obtain ⟨o0, ho0⟩ : ∃ o, rd false v0 = o := ⟨_, rfl⟩
  rw [ho0] at OF0 ⊢
  have OF0 := Lib.hid OF0
  have KP := Lib.hid hb; have HWP := Lib.hid hwp; have B1 := Lib.hid b1
  clear b1 hb hz hwp c00 ho0
  go_enter Try.func73, Try.ntmps73
  go_wp2_with fail
  rw [HWP.out]
  clear cA
  refine (OF0.out _).mono ?_; rintro _ w1 ⟨rfl, hb1⟩
  obtain ⟨B0, hB0⟩ : ∃ B, nb o0 = B := ⟨_, rfl⟩
  obtain ⟨N0, hN0⟩ : ∃ N, nv o0 = N := ⟨_, rfl⟩
  rw [hB0, hN0]
  obtain ⟨b2, hb2, hz2⟩ := bx_new1 w1 #[.bool B0, .int .i64 N0] 61
  obtain ⟨w2, hw2⟩ : ∃ w2, w1.alloc (.cells #[.bool B0, .int .i64 N0] 61) = w2 := ⟨_, rfl⟩
  rw [hw2] at b2 hb2 hz2
  have HW2 := Lib.hid hw2
  have K2 := Lib.hid (bnext (bnext KP.out hb1) hb2)
  have ST := Lib.hid (show Bx w2 w.heap.size [.bool false, .int .i64 0] ∧ Bx w2 w1.heap.size [.bool B0, .int .i64 N0] from ⟨(B1.out.below hb1).below hb2, b2⟩)
  have HBN := Lib.hid (show nb o0 = B0 ∧ nv o0 = N0 from ⟨hB0, hN0⟩)
  clear hw2 hb1 hb2 hz2 b2 hB0 hN0
  go_wp2_with fail
  rw [HW2.out]
  go_loopw [15] (fun i wr => i = .int .i64 0 ∧ Hid (Bx wr w.heap.size [.bool false, .int .i64 0] ∧ Bx wr w1.heap.size [.bool B0, .int .i64 N0] ∧ Below w.heap.size w wr)) (fun _ _ => 0)
  case atStart => exact ⟨rfl, ST.out.1, ST.out.2, K2.out⟩
  case round =>
    obtain ⟨rfl, HI⟩ := hrel
    obtain ⟨j0, j1, j2, j3⟩ := HI.out.1.two
    obtain ⟨k0, k1, -, -⟩ := HI.out.2.1.two
    have H5 := Lib.hid HI.out.2.2
    go_wp2_with fail
    exact bodyPost_ret (v := .agg #[.bool B0, .int .i64 N0]) (by simp [results, Try.results73, go_sem, j0, j1, j2, j3]) rfl ⟨by rw [HBN.out.1, HBN.out.2], below_set (below_set H5.out (Nat.le_refl _) _) (Nat.le_refl _) _⟩
theorem together_less (v : Value) (l : List Int) (h0 : l ≠ []) (hl : l.length ≤ 100000) (hr : ∀ x ∈ l, I64 x) (w : World) (f : IlOut w v l) :
    Calls Try.prog 73 #[.func (.func 76) #[] #[], v] w fun e w' => e = .returned (.agg #[.bool (nb (lFold lessO l)), .int .i64 (nv (lFold lessO l))]) ∧ Below w.heap.size w w' := by
  obtain ⟨A, c, rfl, hc, hx⟩ := f
  obtain ⟨b, off, rfl, ha⟩ := hx h0
  match l, h0 with
  | v0 :: vs, _ =>
    rw [List.length_cons] at hc hl ⊢
    obtain ⟨cp, rfl⟩ : ∃ cp, c = cp + 1 := ⟨c - 1, by omega⟩
    by_cases hc0 : cp = 0
    · subst hc0
      obtain rfl : vs = [] := List.eq_nil_of_length_eq_zero (by omega)
      exact together_less_zero b off v0 w (by have := ha 0 v0 rfl; simpa using this)
    · exact together_less_pos b off cp v0 vs (by omega) (by omega) hc0 hr w ha
theorem eg_more : ∀ args w, (callFunc 77 args).run Try.prog w = .ok (.enter 77 args) w := enters_of Try.func77 (by kernel_rfl) rfl
set_option maxRecDepth 100000 in
set_option maxHeartbeats 4000000 in
theorem together_more_pos (b off cp : Nat) (v0 : Int) (vs : List Int) (hl : vs.length ≤ 100000) (hcp : vs.length ≤ cp) (hc0 : ¬ cp = 0) (hr : ∀ x ∈ v0 :: vs, I64 x) (w : World) (f : IlAt w b off (v0 :: vs)) :
    Calls Try.prog 73 #[.func (.func 77) #[] #[], .slice (some ⟨b, off, none⟩) (vs.length + 1) (cp + 1)] w fun e w' => e = .returned (.agg #[.bool (nb (lFold moreO (v0 :: vs))), .int .i64 (nv (lFold moreO (v0 :: vs)))]) ∧ Below w.heap.size w w' := by
  have eg := eg_more
  obtain ⟨n, hn⟩ : ∃ n, vs.length = n := ⟨_, rfl⟩
  obtain ⟨R, hR⟩ : ∃ R, lFold moreO (v0 :: vs) = R := ⟨_, rfl⟩
  rw [hR]
  rw [hn] at hl hcp ⊢
  obtain ⟨b1, hb, hz⟩ := bx_new1 w #[.bool false, .int .i64 0] 61
  have cA : (w.alloc (.cells #[.bool false, .int .i64 0] 61)).cell? ⟨b, off, none⟩ = some (.int .i64 v0) := cellb hb (by have := f 0 v0 rfl; simpa using this)
  obtain ⟨wp, hwp⟩ : ∃ wp, w.alloc (.cells #[.bool false, .int .i64 0] 61) = wp := ⟨_, rfl⟩
  rw [hwp] at b1 hb hz
  have c0 : wp.cell? ⟨b, off, none⟩ = some (.int .i64 v0) := cellb hb (by have := f 0 v0 rfl; simpa using this)
  have REST := Lib.hid (show ∀ (k : Nat) (x : Int), vs[k]? = some x → w.cell? ⟨b, off + 1 + k, none⟩ = some (.int .i64 x) from fun k x hk => by have := f (k + 1) x (by simpa using hk); rwa [show off + (k + 1) = off + 1 + k from by omega] at this)
  have HR := Lib.hid (show ∀ (k : Nat) (x : Int), vs[k]? = some x → I64 x from fun k x hk => hr x (List.mem_cons_of_mem _ (List.mem_of_getElem? hk)))
  have R0 := Lib.hid (FP.rd_in false v0 (hr v0 List.mem_cons_self))
  obtain ⟨o0, ho0⟩ : ∃ o, rd false v0 = o := ⟨_, rfl⟩
  have OF0 := fun W => FP.of_c v0 W
  rw [ho0] at OF0 R0
  have OF0 := Lib.hid OF0
  have HN := Lib.hid hn; have KP := Lib.hid hb; have HWP := Lib.hid hwp; have B1 := Lib.hid b1; have HR0 := Lib.hid hR
  have HO0 := Lib.hid (show lFold moreO (v0 :: vs.take 0) = o0 from ho0)
  clear b1 hb hz hwp f hn hr hR ho0
  go_enter Try.func73, Try.ntmps73
  go_wp2_with fail
  rw [HWP.out]
  clear cA
  refine (OF0.out _).mono ?_; rintro _ w1 ⟨rfl, hb1⟩
  obtain ⟨B0, hB0⟩ : ∃ B, nb o0 = B := ⟨_, rfl⟩
  obtain ⟨N0, hN0⟩ : ∃ N, nv o0 = N := ⟨_, rfl⟩
  rw [hB0, hN0]
  obtain ⟨b2, hb2, hz2⟩ := bx_new1 w1 #[.bool B0, .int .i64 N0] 61
  obtain ⟨w2, hw2⟩ : ∃ w2, w1.alloc (.cells #[.bool B0, .int .i64 N0] 61) = w2 := ⟨_, rfl⟩
  rw [hw2] at b2 hb2 hz2
  have HW2 := Lib.hid hw2
  have K2 := Lib.hid (bnext (bnext KP.out hb1) hb2)
  have NE := Lib.hid (show w.heap.size < w1.heap.size from Nat.lt_of_lt_of_le B1.out.lt hb1.size)
  have ST := Lib.hid (show Bx w2 w.heap.size [.bool false, .int .i64 0] ∧ Bx w2 w1.heap.size [.bool (nb o0), .int .i64 (nv o0)] from ⟨(B1.out.below hb1).below hb2, by rw [hB0, hN0]; exact b2⟩)
  clear hw2 hb1 hb2 hz2 b2 c0 hB0 hN0
  go_wp2_with fail
  rw [HW2.out]
  go_loopw [15] (fun i wr => ∃ (k : Nat) (o : Option Int), k ≤ n ∧ i = .int .i64 k ∧ Hid (lFold moreO (v0 :: vs.take k) = o ∧ inR o ∧ Bx wr w.heap.size [.bool false, .int .i64 0] ∧ Bx wr w1.heap.size [.bool (nb o), .int .i64 (nv o)] ∧ Below w.heap.size w wr)) (fun i _ => n - (intOf i).toNat)
  case atStart => exact ⟨0, o0, Nat.zero_le _, rfl, HO0.out, R0.out, ST.out.1, ST.out.2, K2.out⟩
  case round =>
    obtain ⟨k, o, hk, rfl, HI⟩ := hrel
    obtain ⟨h1, h2, h3, h4, h5⟩ := HI.out
    by_cases hlt : k < n
    · obtain ⟨x, hx⟩ : ∃ x, vs[k]? = some x := ⟨_, List.getElem?_eq_getElem (by rw [HN.out]; exact hlt)⟩
      have c1 := cellb h5 (REST.out k x hx)
      have STEP := lFold_step moreO v0 vs k hx
      rw [h1] at STEP
      have rx := HR.out k x hx
      have R1 := FP.rd_in false x rx
      have RB := FP.rd_back _ R1
      have RBo := FP.rd_back _ h2
      have RN := inR_nv R1
      have RNo := inR_nv h2
      have NXR : inR (moreO o (rd false x)) := inR_more h2 R1
      have OF1 := fun W => FP.of_c x W
      have CL := fun W => FP.more_any (nb o) (nb (rd false x)) (nv o) (nv (rd false x)) RNo RN W
      rw [RB, RBo] at CL
      obtain ⟨y, hy⟩ : ∃ y, moreO o (rd false x) = y := ⟨_, rfl⟩
      rw [hy] at CL STEP NXR
      obtain ⟨B1', hB1⟩ : ∃ B, nb (rd false x) = B := ⟨_, rfl⟩
      obtain ⟨N1, hN1⟩ : ∃ N, nv (rd false x) = N := ⟨_, rfl⟩
      rw [hB1, hN1] at OF1 CL
      obtain ⟨B2, hB2⟩ : ∃ B, nb o = B := ⟨_, rfl⟩
      obtain ⟨N2, hN2⟩ : ∃ N, nv o = N := ⟨_, rfl⟩
      rw [hB2, hN2] at CL h4
      obtain ⟨B3, hB3⟩ : ∃ B, nb y = B := ⟨_, rfl⟩
      obtain ⟨N3, hN3⟩ : ∃ N, nv y = N := ⟨_, rfl⟩
      rw [hB3, hN3] at CL
      obtain ⟨k0, k1, k2, k3⟩ := h4.two
      have OF1 := Lib.hid OF1; have CL := Lib.hid CL; have NX := Lib.hid STEP; have NR := Lib.hid NXR
      have BN := Lib.hid (show [Value.bool B3, .int .i64 N3] = [.bool (nb y), .int .i64 (nv y)] from by rw [hB3, hN3])
      have H3 := Lib.hid h3; have H4 := Lib.hid h4; have H5 := Lib.hid h5
      clear h1 h2 h3 h5 hx STEP rx R1 RB RBo RN RNo NXR hy hB1 hN1 hB2 hN2 hB3 hN3 HI
      go_wp2_with fail
      go_region_with
        (first
          | (go_at_call 66; refine (OF1.out _).mono ?_; rintro e w5 ⟨rfl, hb5⟩; have TT : Below wr.heap.size wr w5 := bnext (by first | exact (Below.refl wr.heap.size wr) | exact (Below.refl wr.heap.size wr).drew) hb5; obtain ⟨q50, q51, -, -⟩ := (H4.out.below TT).two)
          | (go_at_fn 77; refine (CL.out _).mono ?_; rintro e w6 ⟨rfl, hb6⟩; have T6 : Below wr.heap.size wr w6 := bnext TT hb6; obtain ⟨z0, z1, z2, z3⟩ := (H4.out.below T6).two)
          | fail)
      all_goals (try go_wp2_with fail)
      all_goals
       go_roundw
       case rel => exact ⟨k + 1, y, by omega, by go_num, NX.out, NR.out, (H3.out.below T6).other2 (by exact (Nat.ne_of_gt NE.out)) _ _, by rw [← BN.out]; exact ((H4.out.below T6).set (j := 0) (by simp) _).set (j := 1) (by simp) _, below_set (below_set (bnext H5.out T6) (Nat.le_of_lt NE.out) _) (Nat.le_of_lt NE.out) _⟩
       case measure => simp [intOf]; omega
    · obtain rfl : k = n := by omega
      obtain rfl : o = R := by rw [← h1, ← HR0.out, ← HN.out, List.take_length]
      obtain ⟨j0, j1, j2, j3⟩ := h3.two
      obtain ⟨k0, k1, -, -⟩ := h4.two
      obtain ⟨B2, hB2⟩ : ∃ B, nb o = B := ⟨_, rfl⟩
      obtain ⟨N2, hN2⟩ : ∃ N, nv o = N := ⟨_, rfl⟩
      rw [hB2] at k0
      rw [hN2] at k1
      have H5 := Lib.hid h5; have HBN := Lib.hid (show nb o = B2 ∧ nv o = N2 from ⟨hB2, hN2⟩)
      clear HI h1 h2 h3 h4 h5 hB2 hN2 HR0
      go_wp2_with fail
      exact bodyPost_ret (v := .agg #[.bool B2, .int .i64 N2]) (by simp [results, Try.results73, go_sem, j0, j1, j2, j3]) rfl ⟨by rw [HBN.out.1, HBN.out.2], below_set (below_set H5.out (Nat.le_refl _) _) (Nat.le_refl _) _⟩
set_option maxRecDepth 100000 in
set_option maxHeartbeats 4000000 in
theorem together_more_zero (b off : Nat) (v0 : Int) (w : World) (c00 : w.cell? ⟨b, off, none⟩ = some (.int .i64 v0)) :
    Calls Try.prog 73 #[.func (.func 77) #[] #[], .slice (some ⟨b, off, none⟩) 1 1] w fun e w' => e = .returned (.agg #[.bool (nb (rd false v0)), .int .i64 (nv (rd false v0))]) ∧ Below w.heap.size w w' := by
  have eg := eg_more
  obtain ⟨b1, hb, hz⟩ := bx_new1 w #[.bool false, .int .i64 0] 61
  have cA : (w.alloc (.cells #[.bool false, .int .i64 0] 61)).cell? ⟨b, off, none⟩ = some (.int .i64 v0) := cellb hb c00
  obtain ⟨wp, hwp⟩ : ∃ wp, w.alloc (.cells #[.bool false, .int .i64 0] 61) = wp := ⟨_, rfl⟩
  rw [hwp] at b1 hb hz
  have OF0 := fun W => FP.of_c v0 W
  obtain ⟨o0, ho0⟩ : ∃ o, rd false v0 = o := ⟨_, rfl⟩
  rw [ho0] at OF0 ⊢
  have OF0 := Lib.hid OF0
  have KP := Lib.hid hb; have HWP := Lib.hid hwp; have B1 := Lib.hid b1
  clear b1 hb hz hwp c00 ho0
  go_enter Try.func73, Try.ntmps73
  go_wp2_with fail
  rw [HWP.out]
  clear cA
  refine (OF0.out _).mono ?_; rintro _ w1 ⟨rfl, hb1⟩
  obtain ⟨B0, hB0⟩ : ∃ B, nb o0 = B := ⟨_, rfl⟩
  obtain ⟨N0, hN0⟩ : ∃ N, nv o0 = N := ⟨_, rfl⟩
  rw [hB0, hN0]
  obtain ⟨b2, hb2, hz2⟩ := bx_new1 w1 #[.bool B0, .int .i64 N0] 61
  obtain ⟨w2, hw2⟩ : ∃ w2, w1.alloc (.cells #[.bool B0, .int .i64 N0] 61) = w2 := ⟨_, rfl⟩
  rw [hw2] at b2 hb2 hz2
  have HW2 := Lib.hid hw2
  have K2 := Lib.hid (bnext (bnext KP.out hb1) hb2)
  have ST := Lib.hid (show Bx w2 w.heap.size [.bool false, .int .i64 0] ∧ Bx w2 w1.heap.size [.bool B0, .int .i64 N0] from ⟨(B1.out.below hb1).below hb2, b2⟩)
  have HBN := Lib.hid (show nb o0 = B0 ∧ nv o0 = N0 from ⟨hB0, hN0⟩)
  clear hw2 hb1 hb2 hz2 b2 hB0 hN0
  go_wp2_with fail
  rw [HW2.out]
  go_loopw [15] (fun i wr => i = .int .i64 0 ∧ Hid (Bx wr w.heap.size [.bool false, .int .i64 0] ∧ Bx wr w1.heap.size [.bool B0, .int .i64 N0] ∧ Below w.heap.size w wr)) (fun _ _ => 0)
  case atStart => exact ⟨rfl, ST.out.1, ST.out.2, K2.out⟩
  case round =>
    obtain ⟨rfl, HI⟩ := hrel
    obtain ⟨j0, j1, j2, j3⟩ := HI.out.1.two
    obtain ⟨k0, k1, -, -⟩ := HI.out.2.1.two
    have H5 := Lib.hid HI.out.2.2
    go_wp2_with fail
    exact bodyPost_ret (v := .agg #[.bool B0, .int .i64 N0]) (by simp [results, Try.results73, go_sem, j0, j1, j2, j3]) rfl ⟨by rw [HBN.out.1, HBN.out.2], below_set (below_set H5.out (Nat.le_refl _) _) (Nat.le_refl _) _⟩
theorem together_more (v : Value) (l : List Int) (h0 : l ≠ []) (hl : l.length ≤ 100000) (hr : ∀ x ∈ l, I64 x) (w : World) (f : IlOut w v l) :
    Calls Try.prog 73 #[.func (.func 77) #[] #[], v] w fun e w' => e = .returned (.agg #[.bool (nb (lFold moreO l)), .int .i64 (nv (lFold moreO l))]) ∧ Below w.heap.size w w' := by
  obtain ⟨A, c, rfl, hc, hx⟩ := f
  obtain ⟨b, off, rfl, ha⟩ := hx h0
  match l, h0 with
  | v0 :: vs, _ =>
    rw [List.length_cons] at hc hl ⊢
    obtain ⟨cp, rfl⟩ : ∃ cp, c = cp + 1 := ⟨c - 1, by omega⟩
    by_cases hc0 : cp = 0
    · subst hc0
      obtain rfl : vs = [] := List.eq_nil_of_length_eq_zero (by omega)
      exact together_more_zero b off v0 w (by have := ha 0 v0 rfl; simpa using this)
    · exact together_more_pos b off cp v0 vs (by omega) (by omega) hc0 hr w ha
/-- What parts make, by a method. -/
theorem lBlend_no {m : Int} {l : List Int} (h : ¬ (1 ≤ m ∧ m ≤ 5)) : lBlend m l = none := by
  unfold lBlend
  split
  · rfl
  · rw [if_neg (by omega), if_neg (by omega), if_neg (by omega), if_neg (by omega), if_neg (by omega)]
theorem lBlend_nil (m : Int) : lBlend m [] = none := if_pos rfl
theorem lBlend_yes {m : Int} {l : List Int} (h : l ≠ []) : lBlend m l = if m = 1 then divO (lFold addO l) (intO l.length) else if m = 2 then lFold addO l else if m = 3 then lFold lessO l else if m = 4 then lFold moreO l else if m = 5 then rd false (l.getLastD 0) else none := if_neg h
theorem inR_fold {g : Option Int → Option Int → Option Int} (hg : ∀ x y, inR x → inR y → inR (g x y)) : ∀ (vs : List Int) (o : Option Int), inR o → (∀ x ∈ vs, I64 x) → inR (vs.foldl (fun n x => g n (rd false x)) o)
  | [], o, h, _ => h
  | v :: vs, o, h, hr => inR_fold hg vs _ (hg _ _ h (FP.rd_in false v (hr v List.mem_cons_self))) (fun x hx => hr x (List.mem_cons_of_mem _ hx))
theorem inR_lFold {g : Option Int → Option Int → Option Int} (hg : ∀ x y, inR x → inR y → inR (g x y)) {l : List Int} (hr : ∀ x ∈ l, I64 x) : inR (lFold g l) := by
  cases l with
  | nil => intro t ht; cases ht
  | cons v vs => exact inR_fold hg vs _ (FP.rd_in false v (hr v List.mem_cons_self)) (fun x hx => hr x (List.mem_cons_of_mem _ hx))
end AP
end Go.Proofs.Ytkgajlklhcmmcaa
