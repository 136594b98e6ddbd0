/-
  Contracts of the document's own functions of layer 8 (isobarref08): Put, of any record.
-/
import Derived.Test.YtabbpgnenmpacaaDoorSegPutBM
import Derived.Test.YtabbpgnenmpacaaDoorSegPutCM
import Derived.Test.YtabbpgnenmpacaaDoorSegPutDM
set_option linter.unusedSimpArgs false
set_option linter.unusedVariables false
namespace Go.Proofs.YtabbpgnenmpacaaDoor.SR
open Go Go.RowKit
open CR (below_next own_ge u8_wrap)
set_option maxRecDepth 100000 in
set_option maxHeartbeats 2000000 in
theorem put_no (k m f g t nw v : Int) (p : List Nat) (l : List (Int × Int)) (A : Option Addr) (n c : Nat) (hp : Bytes p) (hl : l.length ≤ 100000) (w : World) (hro : RgOut w (.slice A n c) l) (hok : rRight ⟨k, p, m, f, l, g, t, nw, v⟩ = false) :
    Calls Tryd.prog 9 #[.agg #[.int .i64 k, .string (strB p), .int .i64 m, .int .i64 f, .slice A n c, .int .i64 g, .int .i64 t, .int .i64 nw, .int .i64 v]] w fun e w' => e = .returned (.tuple #[.slice none 0 0, .int .i64 1]) ∧ Below w.heap.size w w' := by
  have RT := Lib.hid (fun (W : World) (hB : Below w.heap.size w W) => by
    have h := right_c (.agg #[.int .i64 k, .string (strB p), .int .i64 m, .int .i64 f, .slice A n c, .int .i64 g, .int .i64 t, .int .i64 nw, .int .i64 v]) ⟨k, p, m, f, l, g, t, nw, v⟩ hp hl W ⟨_, rfl, hro.below hB⟩
    rw [hok] at h
    exact h)
  obtain ⟨s, hs⟩ : ∃ s, strB p = s := ⟨_, rfl⟩
  rw [hs] at RT ⊢
  clear hro hok hs hp hl
  go_enter Tryd.func9, Tryd.ntmps9
  go_wp2_with fail
  refine (RT.out _ ((Below.refl _ _).alloc (Nat.le_refl _) _)).mono ?_; rintro _ w1 ⟨rfl, hb1⟩
  have B1 := Lib.hid (show Below w.heap.size w w1 from Below.trans ((Below.refl _ _).alloc (Nat.le_refl _) _) (hb1.mono (by simp)))
  clear hb1
  go_wp2
  exact bodyPost_ret (v := .tuple #[.slice none 0 0, .int .i64 1]) (by simp [results, Tryd.results9, go_sem]) rfl ⟨rfl, B1.out⟩
theorem put_c (v : Value) (r : PR) (hp : Bytes r.path) (hl : r.rungs.length ≤ 100000) (w : World) (h : RcOut w v r) :
    Calls Tryd.prog 9 #[v] w fun e w' => ∃ v', e = .returned (.tuple #[v', .int .i64 (rPut r).2]) ∧ ByNew w.heap.size w' v' (rPut r).1 ∧ Below w.heap.size w w' := by
  by_cases hok : rRight r = true
  · have hP : rPut r = (rBytes r, 0) := by unfold rPut; rw [if_pos hok]
    rw [hP]
    rcases right_cases hok with ⟨p, m, f, l, rfl, hk⟩ | ⟨t, n, v0, rfl, hk⟩ | ⟨g, t, v0, rfl, hk⟩
    · obtain ⟨u, rfl, hro⟩ := h
      obtain ⟨A, c, rfl, hc, hx⟩ := id hro
      exact put_one p m f l A _ c hp rfl w hro hk
    · obtain ⟨u, rfl, hro⟩ := h
      obtain ⟨A, c, rfl, hc, hx⟩ := id hro
      exact put_two t n v0 A _ c w hro hk
    · obtain ⟨u, rfl, hro⟩ := h
      obtain ⟨A, c, rfl, hc, hx⟩ := id hro
      exact put_three g t v0 A _ c w hro hk
  · have hk : rRight r = false := by simpa using hok
    have hP : rPut r = ([], 1) := by unfold rPut; rw [if_neg hok]
    rw [hP]
    obtain ⟨k, p, m, f, l, g, t, nw, v0⟩ := r
    obtain ⟨u, rfl, hro⟩ := h
    obtain ⟨A, c, rfl, hc, hx⟩ := id hro
    refine (put_no k m f g t nw v0 p l A _ c hp hl w hro hk).mono ?_
    rintro _ w' ⟨rfl, hb⟩
    exact ⟨_, rfl, ByNew.none _ _, hb⟩
end Go.Proofs.YtabbpgnenmpacaaDoor.SR
