/-
  Contracts of the document's own functions of layer 8 (isobarref08): Frame.
-/
import Derived.Test.YtabbpgnenmpacaaDoorSegPutE
import Derived.Test.YtabbpgnenmpacaaDoorFrmRef
set_option linter.unusedSimpArgs false
set_option linter.unusedVariables false
namespace Go.Proofs.YtabbpgnenmpacaaDoor.SR
open Go Go.RowKit
open CR (below_next own_ge u8_wrap)
set_option maxRecDepth 100000 in
set_option maxHeartbeats 2000000 in
theorem frame_c (v : Value) (r : PR) (hp : Bytes r.path) (hl : r.rungs.length ≤ 100000) (w : World) (h : RcOut w v r) :
    Calls Tryd.prog 11 #[v] w fun e w' => ∃ v', e = .returned (.tuple #[v', .int .i64 (rFrame r).2]) ∧ ByNew w.heap.size w' v' (rFrame r).1 ∧ Below w.heap.size w w' := by
  obtain ⟨u, rfl, hro⟩ := h
  obtain ⟨A, c, rfl, hc, hx⟩ := id hro
  have PT := Lib.hid (fun (W : World) (hB : Below w.heap.size w W) => put_c (.agg (rcC (.slice A r.rungs.length c) r).toArray) r hp hl W ⟨_, rfl, hro.below hB⟩)
  by_cases hok : rRight r = true
  · have hP : rPut r = (rBytes r, 0) := by unfold rPut; rw [if_pos hok]
    have hF : rFrame r = (rFrm r, 0) := by unfold rFrame; rw [if_pos hok]
    have hf2 : fPut (rBytes r) = (rFrm r, 0) := by
      rcases fPut_two (rBytes r) with ⟨_, g⟩ | ⟨g, _⟩
      · exact g
      · exact absurd (rFrm_ok hok) g
    have FP := Lib.hid (fun v w h => FR.put_c v (rBytes r) (rBytes_bytes hok hp) w h)
    rw [hP] at PT
    rw [hf2] at FP
    rw [hF]
    have hbl := rBytes_len hok
    obtain ⟨k, p, m, f, l, g, t, nw, v0⟩ := r
    change Hid (∀ (W : World), Below w.heap.size w W → Calls Tryd.prog 9 #[.agg #[.int .i64 k, .string (strB p), .int .i64 m, .int .i64 f, .slice A l.length c, .int .i64 g, .int .i64 t, .int .i64 nw, .int .i64 v0]] W fun e w' => ∃ v', e = .returned (.tuple #[v', .int .i64 0]) ∧ ByNew W.heap.size w' v' (rBytes ⟨k, p, m, f, l, g, t, nw, v0⟩) ∧ Below W.heap.size W w') at PT
    change Calls Tryd.prog 11 #[.agg #[.int .i64 k, .string (strB p), .int .i64 m, .int .i64 f, .slice A l.length c, .int .i64 g, .int .i64 t, .int .i64 nw, .int .i64 v0]] w _
    obtain ⟨s, hs⟩ : ∃ s, strB p = s := ⟨_, rfl⟩
    obtain ⟨n, hn⟩ : ∃ n, l.length = n := ⟨_, rfl⟩
    rw [hs, hn] at PT ⊢
    clear hro hx hc hP hF hf2 hs hn hp hl hbl
    go_enter Tryd.func11, Tryd.ntmps11
    go_wp2_with fail
    refine (PT.out _ ((Below.refl _ _).alloc (Nat.le_refl _) _)).mono ?_; rintro _ w1 ⟨v1, rfl, hn1, hb1⟩
    have O1 := Lib.hid hn1.out
    have B1 := Lib.hid (show Below w.heap.size w w1 from Below.trans ((Below.refl _ _).alloc (Nat.le_refl _) _) (hb1.mono (by simp)))
    clear hn1 hb1
    go_wp2_with fail
    refine (FP.out _ _ O1.out).mono ?_; rintro _ w2 ⟨v2, rfl, hn2, hb2⟩
    have N2 := Lib.hid (hn2.mono B1.out.size); have B2 := Lib.hid (below_next B1.out hb2)
    clear hn2 hb2
    go_wp2
    exact bodyPost_ret (v := .tuple #[v2, .int .i64 0]) (by simp [results, Tryd.results11, go_sem]) rfl ⟨v2, rfl, N2.out, B2.out⟩
  · have hP : rPut r = ([], 1) := by unfold rPut; rw [if_neg hok]
    have hF : rFrame r = ([], 1) := by unfold rFrame; rw [if_neg hok]
    rw [hP] at PT
    rw [hF]
    obtain ⟨k, p, m, f, l, g, t, nw, v0⟩ := r
    change Hid (∀ (W : World), Below w.heap.size w W → Calls Tryd.prog 9 #[.agg #[.int .i64 k, .string (strB p), .int .i64 m, .int .i64 f, .slice A l.length c, .int .i64 g, .int .i64 t, .int .i64 nw, .int .i64 v0]] W fun e w' => ∃ v', e = .returned (.tuple #[v', .int .i64 1]) ∧ ByNew W.heap.size w' v' [] ∧ Below W.heap.size W w') at PT
    change Calls Tryd.prog 11 #[.agg #[.int .i64 k, .string (strB p), .int .i64 m, .int .i64 f, .slice A l.length c, .int .i64 g, .int .i64 t, .int .i64 nw, .int .i64 v0]] w _
    obtain ⟨s, hs⟩ : ∃ s, strB p = s := ⟨_, rfl⟩
    obtain ⟨n, hn⟩ : ∃ n, l.length = n := ⟨_, rfl⟩
    rw [hs, hn] at PT ⊢
    clear hro hx hc hP hF hs hn hp hl hok
    go_enter Tryd.func11, Tryd.ntmps11
    go_wp2_with fail
    refine (PT.out _ ((Below.refl _ _).alloc (Nat.le_refl _) _)).mono ?_; rintro _ w1 ⟨v1, rfl, hn1, hb1⟩
    have B1 := Lib.hid (show Below w.heap.size w w1 from Below.trans ((Below.refl _ _).alloc (Nat.le_refl _) _) (hb1.mono (by simp)))
    clear hn1 hb1
    go_wp2
    exact bodyPost_ret (v := .tuple #[.slice none 0 0, .int .i64 1]) (by simp [results, Tryd.results11, go_sem]) rfl ⟨.slice none 0 0, rfl, ByNew.none _ _, B1.out⟩
end Go.Proofs.YtabbpgnenmpacaaDoor.SR
