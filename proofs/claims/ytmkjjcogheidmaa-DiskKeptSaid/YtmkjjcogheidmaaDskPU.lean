/-
  The boxes of a call on a disk: the disk, and what is answered; facts on files that are led to.
-/
import Derived.Test.YtmkjjcogheidmaaDskPT
import Derived.Test.YtmkjjcogheidmaaDskQB
import Derived.Test.YtmkjjcogheidmaaDskPK
set_option linter.unusedSimpArgs false
set_option linter.unusedVariables false
namespace Go.Proofs.Ytmkjjcogheidmaa.DP
open Go.RowKit
structure BoxR (B : Nat) (w W : World) (cs : List Value) : Prop where
  d : Holds W w.heap.size cs
  dv : DVar W w.heap.size cs.length
  rv : DVar W (w.heap.size + 1) 6
  below : Below B w W
  size : w.heap.size + 2 ≤ W.heap.size
theorem boxR_of {B : Nat} (w : World) (hB : B ≤ w.heap.size) (cs : Array Value) (t1 : TypeId) : BoxR B w ((w.alloc (.cells cs t1)).alloc (.cells #[.int .i64 0, .slice none 0 0, .slice none 0 0, .slice none 0 0, .slice none 0 0, .int .i64 0] 29)) cs.toList := by
  have a1 := alloc_below w (.cells cs t1)
  have h1 := holds_box w cs t1
  have d1 := DVar.alloc (w := w) cs t1
  have s1 : (w.alloc (.cells cs t1)).heap.size = w.heap.size + 1 := by simp
  generalize w.alloc (.cells cs t1) = w1 at *
  have a3 := alloc_below w1 (.cells #[.int .i64 0, .slice none 0 0, .slice none 0 0, .slice none 0 0, .slice none 0 0, .int .i64 0] 29)
  have d3 := DVar.alloc (w := w1) #[.int .i64 0, .slice none 0 0, .slice none 0 0, .slice none 0 0, .slice none 0 0, .int .i64 0] 29
  have s3 : (w1.alloc (.cells #[.int .i64 0, .slice none 0 0, .slice none 0 0, .slice none 0 0, .slice none 0 0, .int .i64 0] 29)).heap.size = w1.heap.size + 1 := by simp
  rw [s1] at d3
  refine ⟨h1.below a3, ?_, d3, (bnext a1 a3).mono hB, by omega⟩
  rw [Array.length_toList]
  exact d1.below a3
theorem BoxR.grown {B : Nat} {w W W' : World} {cs : List Value} {row : Option Nat} (h : BoxR B w W cs) (hg : W.grownBy W' row) (hB : B ≤ w.heap.size) (hr : ∀ g, row = some g → B ≤ g ∧ (g < w.heap.size ∨ w.heap.size + 2 ≤ g)) (hc : cs ≠ []) : BoxR B w W' cs := by
  have ne : ∀ b, w.heap.size ≤ b → b < w.heap.size + 2 → some b ≠ row := fun b h1 h2 e => by
    rcases (hr b e.symm).2 with h | h <;> omega
  have hs := h.size
  exact ⟨h.d.grown hg (ne _ (by omega) (by omega)) hc, DVar.grown h.dv hg (ne _ (by omega) (by omega)), DVar.grown h.rv hg (ne _ (by omega) (by omega)), h.below.grown hg (by omega) fun k e => (hr k e).1, Nat.le_trans h.size hg.size⟩
theorem BoxR.step {B : Nat} {w W W' : World} {cs : List Value} (h : BoxR B w W cs) (hb : Below W.heap.size W W') (hB : B ≤ w.heap.size) : BoxR B w W' cs := by
  have hs := h.size
  exact ⟨h.d.below hb, h.dv.below hb, h.rv.below hb, h.below.trans (hb.mono (by omega)), Nat.le_trans h.size hb.size⟩
theorem BoxR.store {B i : Nat} {w W : World} {cs : List Value} (h : BoxR B w W cs) (hB : B ≤ w.heap.size) (hi : i < cs.length) (u : Value) : BoxR B w (W.setCell ⟨w.heap.size, i, none⟩ u) (cs.set i u) := by
  refine ⟨holds_set h.d hi u, ?_, h.rv.set u, h.below.setCell (show B ≤ w.heap.size from hB) u, by simp; exact h.size⟩
  rw [List.length_set]
  exact h.dv.set u
theorem BoxR.put {B : Nat} {w W W' : World} {cs cs' : List Value} (h : BoxR B w W cs) (hp : Put W W' w.heap.size cs') (hB : B ≤ w.heap.size) : BoxR B w W' cs' := by
  have hs := h.size
  exact ⟨hp.at_, hp.var, DVar.grown h.rv hp.grown (by simp), hp.below hB h.below, by rw [hp.size]; exact h.size⟩
/-- Pairs. -/
theorem pairs {α β : Type} : ∀ R : List (α × β), (R.map (·.1)).zip (R.map (·.2)) = R
  | [] => rfl
  | p :: r => by rw [List.map_cons, List.map_cons, List.zip_cons_cons, pairs r]
theorem led_files {fs : List PF} {us : List Value} {ids : List Nat} (h : us.length = fs.length) : ((fs.zip us).filter (keepF ids)).map (·.1) = fs.filter (fun f => decide (f.id ∈ ids)) := by
  have e := zip_fst h
  have e2 : fs.filter (fun f => decide (f.id ∈ ids)) = ((fs.zip us).map (·.1)).filter (fun f => decide (f.id ∈ ids)) := by rw [e]
  rw [e2, List.filter_map]
  rfl
theorem zip_snd {α β : Type} : ∀ {l : List α} {u : List β}, u.length = l.length → (l.zip u).map (·.2) = u
  | [], [], _ => rfl
  | [], _ :: _, h => by simp at h
  | _ :: _, [], h => by simp at h
  | x :: l, y :: u, h => by rw [List.zip_cons_cons, List.map_cons, zip_snd (by simpa using h)]
theorem led_sub {fs : List PF} {us : List Value} {ids : List Nat} (h : us.length = fs.length) : (((fs.zip us).filter (keepF ids)).map (·.2)).Sublist us := by
  have := (List.filter_sublist (p := keepF ids) (l := fs.zip us)).map (·.2)
  rwa [zip_snd h] at this
end Go.Proofs.Ytmkjjcogheidmaa.DP
