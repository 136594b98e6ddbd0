/-
  Contracts of the document's own functions of layer 8 (isobarref08): Put, of a point.
-/
import Derived.Test.YtabbpgnenmpacaaDoorSegPutM
set_option linter.unusedSimpArgs false
set_option linter.unusedVariables false
namespace Go.Proofs.YtabbpgnenmpacaaDoor.SR
open Go Go.RowKit
open CR (below_next own_ge u8_wrap)
theorem u64_of (v : Int) : IntKind.u64.wrap v = ((u64 v : Nat) : Int) := by
  rw [IntKind.wrap_u64]
  unfold u64
  omega
set_option maxRecDepth 100000 in
set_option maxHeartbeats 8000000 in
theorem put_two (t nw v : Int) (A : Option Addr) (n c : Nat) (w : World) (hro : RgOut w (.slice A n c) []) (hok : ptOk t nw v = true) :
    Calls Tryd.prog 9 #[.agg #[.int .i64 2, .string (strB []), .int .i64 0, .int .i64 0, .slice A n c, .int .i64 0, .int .i64 t, .int .i64 nw, .int .i64 v]] w fun e w' => ∃ v', e = .returned (.tuple #[v', .int .i64 0]) ∧ ByNew w.heap.size w' v' (rBytes (ptR t nw v)) ∧ Below w.heap.size w w' := by
  obtain ⟨b1, b2, _⟩ := pt_bounds hok
  have RT := Lib.hid (fun (W : World) (hB : Below w.heap.size w W) => by
    have h := right_c (.agg #[.int .i64 2, .string (strB []), .int .i64 0, .int .i64 0, .slice A n c, .int .i64 0, .int .i64 t, .int .i64 nw, .int .i64 v]) (ptR t nw v) (fun _ h => by cases h) (Nat.zero_le _) W ⟨_, rfl, hro.below hB⟩
    rw [right_pt, hok] at h
    exact h)
  obtain ⟨T, hT⟩ : ∃ T, rBytes (ptR t nw v) = T := ⟨_, rfl⟩
  rw [hT]
  have HT := Lib.hid (show [2] ++ nB 8 t.toNat ++ nB 8 nw.toNat ++ nB 8 (u64 v) = T by rw [← hT, rBytes_pt]; simp)
  have hwv := u64_of v
  have hx1 : ((u64 v : Nat) : Int) < 18446744073709551616 := by have := u64_lt v; omega
  have hx0 : 0 ≤ ((u64 v : Nat) : Int) := by omega
  have HX := Lib.hid (show ((u64 v : Nat) : Int).toNat = u64 v by omega)
  obtain ⟨x, hx⟩ : ∃ x : Int, ((u64 v : Nat) : Int) = x := ⟨_, rfl⟩
  rw [hx] at hwv hx1 hx0 HX
  obtain ⟨s, hs⟩ : ∃ s, strB [] = s := ⟨_, rfl⟩
  rw [hs] at RT ⊢
  have t0 : 0 ≤ t := b1.1
  have t1 : t < 18446744073709551616 := by omega
  have n0 : 0 ≤ nw := b2.1
  have n1 : nw < 18446744073709551616 := by omega
  have hwt : IntKind.u64.wrap t = t := by rw [IntKind.wrap_u64]; omega
  have hwn : IntKind.u64.wrap nw = nw := by rw [IntKind.wrap_u64]; omega
  have HH := Lib.hid (holds_alloc w [.int .i64 2, .string s, .int .i64 0, .int .i64 0, .slice A n c, .int .i64 0, .int .i64 t, .int .i64 nw, .int .i64 v] 24)
  have HT2 := Lib.hid (show [2] ++ nB 8 t.toNat ++ nB 8 nw.toNat ++ nB 8 x.toNat = T by rw [HX.out]; exact HT.out)
  clear hro hok b1 b2 hT hx hs HT
  go_enter Tryd.func9, Tryd.ntmps9
  go_wp2_with fail
  refine (RT.out _ ((Below.refl _ _).alloc (Nat.le_refl _) _)).mono ?_; rintro _ w1 ⟨rfl, hb1⟩
  have hr1 : Holds w1 w.heap.size _ := HH.out.below hb1
  have hbw1 : Below w.heap.size w w1 := Below.trans ((Below.refl _ _).alloc (Nat.le_refl _) _) (hb1.mono (by simp))
  have hlt1 : w.heap.size < w1.heap.size := by have := hb1.size; simp at this; omega
  obtain ⟨r0, r1, r2, r3, r4, r5, r6, r7, r8⟩ := hr1.nine
  have HR1 := Lib.hid hr1; have B1 := Lib.hid hbw1
  clear hb1 hr1 hbw1
  have hst0 : PSt w (w1.alloc (.cells #[.int .u8 2] 5)) [.int .i64 2, .string s, .int .i64 0, .int .i64 0, .slice A n c, .int .i64 0, .int .i64 t, .int .i64 nw, .int .i64 v] (.slice (some ⟨w1.heap.size, 0, none⟩) 1 1) 1 [2] [] :=
    ⟨HR1.out.below (alloc_below _ _), by simp; omega, rfl, World.ownsRow_lit (base := w.heap.size + 1) (e := 5) (size := 1) w1 #[.int .u8 2] 1 hlt1 (by decide) rfl, fun x hx => (by cases hx), Below.trans B1.out ((alloc_below w1 _).mono B1.out.size)⟩
  have HST := Lib.hid hst0
  clear hst0
  go_wp2_with fail
  refine gen_last (F := fun W => PSt w W [.int .i64 2, .string s, .int .i64 0, .int .i64 0, .slice A n c, .int .i64 0, .int .i64 t, .int .i64 nw, .int .i64 v] (.slice (some ⟨w1.heap.size, 0, none⟩) 1 1) 1 [2] []) HST.out ?_
  intro w2 hst
  clear r0 r1 r2 r3 r4 r5 r6 r7 r8 HST HR1
  obtain ⟨r0, r1, r2, r3, r4, r5, r6, r7, r8⟩ := hst.box.nine
  have hlt := hst.lt
  have hst3 := hst.drew
  clear hst
  go_region_law (first
    | (refine step_app (by assumption) rfl (.tmp 88) (.tmp 92) rfl rfl rfl _ 8 _ rfl _ (nB_length _ _) (by first | exact List.mem_cons_self | exact List.mem_cons_of_mem _ List.mem_cons_self | exact List.mem_cons_of_mem _ (List.mem_cons_of_mem _ List.mem_cons_self)) (by decide) ?_; intro v4 w4 hst4; obtain ⟨q0, q1, q2, q3, q4, q5, q6, q7, q8⟩ := hst4.box.nine; have hlt4 := hst4.lt)
    | (refine step_app (by assumption) rfl (.tmp 93) (.tmp 97) rfl rfl rfl _ 8 _ rfl _ (nB_length _ _) (by first | exact List.mem_cons_self | exact List.mem_cons_of_mem _ List.mem_cons_self | exact List.mem_cons_of_mem _ (List.mem_cons_of_mem _ List.mem_cons_self)) (by decide) ?_; intro v4 w4 hst4; obtain ⟨q0, q1, q2, q3, q4, q5, q6, q7, q8⟩ := hst4.box.nine; have hlt4 := hst4.lt)
    | (refine step_app (by assumption) rfl (.tmp 98) (.tmp 102) rfl rfl rfl _ 8 _ rfl _ (nB_length _ _) (by first | exact List.mem_cons_self | exact List.mem_cons_of_mem _ List.mem_cons_self | exact List.mem_cons_of_mem _ (List.mem_cons_of_mem _ List.mem_cons_self)) (by decide) ?_; intro v4 w4 hst4; obtain ⟨q0, q1, q2, q3, q4, q5, q6, q7, q8⟩ := hst4.box.nine; have hlt4 := hst4.lt)
    | (refine step_num (by assumption) rfl (.tmp 91) 8 _ rfl (by decide) _ rfl (by assumption) (by assumption) ?_; intro A4 c4 w4 hst4; obtain ⟨q0, q1, q2, q3, q4, q5, q6, q7, q8⟩ := hst4.box.nine; have hlt4 := hst4.lt)
    | (refine step_num (by assumption) rfl (.tmp 96) 8 _ rfl (by decide) _ rfl (by assumption) (by assumption) ?_; intro A4 c4 w4 hst4; obtain ⟨q0, q1, q2, q3, q4, q5, q6, q7, q8⟩ := hst4.box.nine; have hlt4 := hst4.lt)
    | (refine step_num (by assumption) rfl (.tmp 101) 8 _ rfl (by decide) _ rfl (by assumption) (by assumption) ?_; intro A4 c4 w4 hst4; obtain ⟨q0, q1, q2, q3, q4, q5, q6, q7, q8⟩ := hst4.box.nine; have hlt4 := hst4.lt))
  all_goals
    have NW := Lib.hid (hst4.fin HT2.out)
    have BW := Lib.hid hst4.below
    clear q0 q1 q2 q3 q4 q5 q6 q7 q8 r0 r1 r2 r3 r4 r5 r6 r7 r8
    go_wp2
    exact bodyPost_ret (v := .tuple #[v4, .int .i64 0]) (by simp [results, Tryd.results9, go_sem]) rfl ⟨v4, rfl, NW.out, BW.out⟩
end Go.Proofs.YtabbpgnenmpacaaDoor.SR
