/-
  Walks of the statements of layer 10: whether archives go together.
-/
import Derived.Test.YtjbacbbbhedmlaaDoorRetWA
set_option linter.unusedSimpArgs false
set_option linter.unusedVariables false
namespace Go.Proofs.YtjbacbbbhedmlaaDoor.RW
open Go.RowKit RR RP
set_option maxRecDepth 100000 in
set_option maxHeartbeats 4000000 in
theorem retentionTogether_c (v : Value) (l : List (Int × Int)) (x y : Int) (w : World) (g : G w) (pw : Pw w) (f : RgOut w v l) : Calls Tryd.prog 4 #[v, .agg #[.int .i64 x, .int .i64 y]] w fun e w' => e = .returned (.bool true) ∧ Below w.heap.size w w' := by
  have AL := Lib.hid (alive_c _ (g.alloc (.cells #[.int .i64 x, .int .i64 y] 32)))
  by_cases h5 : 1000 < l.length
  · obtain ⟨A, c, rfl, hc, hx⟩ := f
    generalize l.length = n at *
    have h5' : (1000 : Int) < (n : Int) := by omega
    clear hx g pw
    go_enter Tryd.func4, Tryd.ntmps4
    go_wp2_with fail
    refine AL.out.mono ?_; rintro _ w1 ⟨rfl, hb1⟩
    go_wp2
    go_ret
    exact ⟨rfl, bnext (alloc_below _ _) hb1⟩
  · have P1 := Lib.hid (fun W (hW : RgOut W v l) (pW : Pw W) => RP.print_c v l (by omega) W hW pW)
    have P2 := Lib.hid (fun W (hW : RgOut W v l) => RR.print_c v l (by omega) W hW)
    have T1 := Lib.hid (fun W (hW : RgOut W v l) => RP.together_c v l (by omega) W hW)
    have T2 := Lib.hid (fun W (hW : RgOut W v l) => RR.together_c v l (by omega) W hW)
    have R1 := Lib.hid (fun W => RP.reach_c x y W)
    have R2 := Lib.hid (fun W => RR.reach_c x y W)
    have FF := Lib.hid f; have PW := Lib.hid pw
    generalize printV l = pv at *
    generalize tog l = d at *
    generalize rgReach (x, y) = R at *
    obtain ⟨A, c, hv, hc, hx⟩ := f
    subst hv
    clear hx pw g
    generalize hn : l.length = n at *
    clear hn
    obtain ⟨S, E⟩ := pv
    simp only at P1 P2
    generalize str S = S' at *
    clear S
    have h5' : ¬ (1000 : Int) < (n : Int) := by omega
    obtain ⟨a0, a1⟩ := one_cell w (.int .i64 x) (.int .i64 y) 32
    obtain ⟨w0, hw0⟩ : ∃ w0, (w.alloc (.cells #[.int .i64 x, .int .i64 y] 32)) = w0 := ⟨_, rfl⟩
    have hb0 : Below w.heap.size w w0 := by rw [← hw0]; exact alloc_below _ _
    rw [hw0] at a0 a1 AL
    have HW0 := Lib.hid hw0; have HB0 := Lib.hid hb0
    clear hw0 hb0
    go_enter Tryd.func4, Tryd.ntmps4
    go_wp2_with fail
    rw [HW0.out]
    refine AL.out.mono ?_; rintro _ w1 ⟨rfl, hb1⟩
    have H1 := Lib.hid (bnext HB0.out hb1)
    have c0 := cellb hb1 a0
    have c1 := cellb hb1 a1
    clear hb1 a0 a1 AL HW0 HB0
    go_wp2_with fail
    refine (P1.out _ (FF.out.below H1.out) (PW.out.below H1.out)).mono ?_; rintro _ w2 ⟨rfl, hb2⟩
    have H2 := Lib.hid (bnext H1.out hb2)
    have d0 := cellb hb2 c0
    have d1 := cellb hb2 c1
    clear hb2 c0 c1 P1 PW H1
    go_wp2_with fail
    refine (P2.out _ (FF.out.below H2.out)).mono ?_; rintro _ w3 ⟨rfl, hb3⟩
    have H3 := Lib.hid (bnext H2.out hb3)
    have Y0 : ∀ z : Laid w3, z.W.cell? ⟨w.heap.size, 0, none⟩ = some (.int .i64 x) := fun z => cellb z.h (cellb hb3 d0)
    have Y1 : ∀ z : Laid w3, z.W.cell? ⟨w.heap.size, 1, none⟩ = some (.int .i64 y) := fun z => cellb z.h (cellb hb3 d1)
    have F3 := Lib.hid (fun z : Laid w3 => FF.out.below (bnext H3.out z.h))
    clear hb3 d0 d1 P2 H2
    go_wp2_with fail
    refine wp_region_laid (by kernel_rfl) (by kernel_rfl) ?_
    repeat (go_big_quiet_step (first | (go_at_call 15; with_reducible exact Calls.laid (T1.out _ (F3.out _))) | (go_at_call 16; with_reducible exact Calls.laid (T2.out _ (F3.out _))) | (go_at_call 17; with_reducible exact Calls.laid (R1.out _)) | (go_at_call 18; with_reducible exact Calls.laid (R2.out _))))
    refine wpQuiet_nil ?_
    intro _ hw'
    obtain ⟨pq, hw''⟩ := hw'
    subst hw''
    go_wp2
    go_ret
    exact ⟨rfl, bnext H3.out pq.h⟩
end Go.Proofs.YtjbacbbbhedmlaaDoor.RW
