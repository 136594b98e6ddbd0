/-
  While the document's own Take (isobarref08) reads a record: the state, and plain facts.
-/
import Derived.Test.YtabbpgnenmpacaaSegPutE
import Derived.Test.YtabbpgnenmpacaaSegPH
import Derived.Test.YtabbpgnenmpacaaByEqual
set_option linter.unusedSimpArgs false
set_option linter.unusedVariables false
namespace Go.Proofs.Ytabbpgnenmpacaa.SR
open Go Go.RowKit
open CR (below_next own_ge u8_wrap)
open SP (rc_plain rgsOf_length rgsOf_snoc nOf_one i64_small rRead_ok rTake_read rRead)
/-- The variable of what is answered, the record's own, and its archives in a block of their own. -/
structure TS (w W : World) (C : List Value) (u : Value) (g : List (Int × Int)) : Prop where
  bx : Holds W (w.heap.size + 1) C
  cl : C.length = 9
  dv : DVar W (w.heap.size + 1) 9
  d0 : DVar W w.heap.size 9
  row : RgNew (w.heap.size + 2) W u g
  below : Below w.heap.size w W
  sz : w.heap.size + 2 ≤ W.heap.size
theorem TS.next {w W W' : World} {C : List Value} {u : Value} {g : List (Int × Int)} (h : TS w W C u g) (hb : Below W.heap.size W W') : TS w W' C u g :=
  ⟨h.bx.below hb, h.cl, h.dv.below hb, h.d0.below hb, h.row.below hb, below_next h.below hb, Nat.le_trans h.sz hb.size⟩
theorem TS.set {w W : World} {C : List Value} {u : Value} {g : List (Int × Int)} (h : TS w W C u g) (j : Nat) (hj : j < 9) (v : Value) : TS w (W.setCell ⟨w.heap.size + 1, j, none⟩ v) (C.set j v) u g := by
  have k : ∀ i, i ≠ w.heap.size + 1 → (W.setCell ⟨w.heap.size + 1, j, none⟩ v).heap[i]? = W.heap[i]? := fun i hn => heap_setCell_other W ⟨w.heap.size + 1, j, none⟩ i v (fun e => hn e)
  refine ⟨h.bx.set (by rw [h.cl]; exact hj) v, by rw [List.length_set]; exact h.cl, h.dv.set v, h.d0.set v, ?_, h.below.setCell (p := ⟨w.heap.size + 1, j, none⟩) (by show w.heap.size ≤ w.heap.size + 1; omega) v, by simp; exact h.sz⟩
  refine ⟨h.row.1, ?_⟩
  rcases h.row.2 with ⟨rfl, h0⟩ | ⟨g', cap, cur, rfl, hg', hh, hr'⟩
  · exact Or.inl ⟨rfl, h0⟩
  · exact Or.inr ⟨g', cap, cur, rfl, hg', (k g' (by omega)).trans hh, hr'⟩
theorem TS.grown {w W W' : World} {C : List Value} {u u' : Value} {g g' : List (Int × Int)} (h : TS w W C u g) (hg : W.grownBy W' u.ownBlock) (hr : RgNew (w.heap.size + 2) W' u' g') : TS w W' C u' g' := by
  have hge := own_ge h.row
  have k : ∀ i, i < w.heap.size + 2 → W'.heap[i]? = W.heap[i]? := fun i hi => hg.block i (by have := h.sz; omega) (fun e => by have := hge i e.symm; omega)
  have dk : ∀ {x n : Nat}, x < w.heap.size + 2 → DVar W x n → DVar W' x n := fun {x n} hx d =>
    ⟨Nat.lt_of_lt_of_le d.lt hg.size, fun i hi => by obtain ⟨q, hq⟩ := d.c i hi; exact ⟨q, (World.cell?_of_block (k x hx)).trans hq⟩, fun i hi => (World.frozen?_of_block (a := ⟨x, i, none⟩) (k x hx)).trans (d.f i hi)⟩
  exact ⟨fun j v hj => (World.cell?_of_block (k (w.heap.size + 1) (by omega))).trans (h.bx j v hj), h.cl, dk (by omega) h.dv, dk (by omega) h.d0, hr, Below.grown h.below hg (by have := h.sz; omega) (fun i e => by have := hge i e; omega), Nat.le_trans h.sz hg.size⟩
theorem ts_start (w : World) (C0 C1 : List Value) (t : TypeId) (h0 : C0.length = 9) (h1 : C1.length = 9) : TS w ((w.alloc (.cells C0.toArray t)).alloc (.cells C1.toArray t)) C1 (.slice none 0 0) [] := by
  have e1 : (w.alloc (.cells C0.toArray t)).heap.size = w.heap.size + 1 := by simp
  have hh := holds_alloc (w.alloc (.cells C0.toArray t)) C1 t
  have d0 := DVar.below (alloc_below (w.alloc (.cells C0.toArray t)) (.cells C1.toArray t)) (DVar.alloc (w := w) C0.toArray t)
  have dv := dvar2 w C0 C1 t
  rw [e1] at hh
  rw [h1] at dv
  have e : C0.toArray.size = 9 := by simpa using h0
  rw [e] at d0
  exact ⟨hh, h1, dv, d0, RgNew.nil _ _, (alloc_below w _).trans ((alloc_below _ _).mono (by rw [e1]; omega)), by simp⟩
/-- A call's world as a letter. -/
theorem gen_calls {P : Program} {f : FuncId} {args : Array Value} {R : Ending → World → Prop} {W : World} (F : World → Prop) (hF : F W) (h : ∀ y, F y → Calls P f args y R) : Calls P f args W R := h W hF
/-- What is taken, by the record that was read. -/
theorem rTake_other {l : List Nat} {R : PR} (h : ¬ (l.headD 0 = 1 ∨ l.headD 0 = 2 ∨ l.headD 0 = 3)) (hk : R.kind = (l.headD 0 : Nat)) : rTake l = (PR.zero, 7) ∧ rRight R = false := by
  constructor
  · exact rTake_no (fun r h1 _ h2 => h (by rw [← h2]; exact SP.headD_bytes h1))
  · unfold rRight
    rw [if_neg (by rw [hk]; omega), if_neg (by rw [hk]; omega), if_neg (by rw [hk]; omega)]
theorem rTake_len {l : List Nat} (h : ∀ r, rRight r = true → vOk r → rBytes r = l → False) : rTake l = (PR.zero, 7) := rTake_no (fun r h1 h2 h3 => h r h1 h2 h3)
theorem rTake_empty : rTake [] = (PR.zero, 7) := rTake_no (fun r h1 _ h2 => by
  have := rBytes_len h1
  rw [h2] at this
  simp at this)
theorem rTake_two {l : List Nat} (h : l.headD 0 = 2) (hl : l.length ≠ 25) : rTake l = (PR.zero, 7) := rTake_no (fun r h1 _ h2 => by
  rcases right_cases h1 with ⟨p, m, f, q, rfl, hk⟩ | ⟨t, n, v, rfl, hk⟩ | ⟨g, t, v, rfl, hk⟩
  · rw [← h2] at h; cases h
  · apply hl
    rw [← h2, rBytes_pt]
    simp only [List.length_cons, List.length_append, nB_length]
  · rw [← h2] at h; cases h)
theorem rTake_three {l : List Nat} (h : l.headD 0 = 3) (hl : l.length ≠ 18) : rTake l = (PR.zero, 7) := rTake_no (fun r h1 _ h2 => by
  rcases right_cases h1 with ⟨p, m, f, q, rfl, hk⟩ | ⟨t, n, v, rfl, hk⟩ | ⟨g, t, v, rfl, hk⟩
  · rw [← h2] at h; cases h
  · rw [← h2] at h; cases h
  · apply hl
    rw [← h2, rBytes_sl]
    simp only [List.length_cons, List.length_append, nB_length])
/-- How long a head's payload is. -/
theorem head_len {l : List Nat} {r : PR} (h : l.headD 0 = 1) (h1 : rRight r = true) (hv : vOk r) (h2 : rBytes r = l) : l.length = 9 + nOf 2 (l.drop 1) + 6 * (l.drop (3 + nOf 2 (l.drop 1) + 5)).headD 0 := by
  have hg := guess_right h1 hv
  rw [h2] at hg
  rcases right_cases h1 with ⟨p, m, f, q, rfl, hk⟩ | ⟨t, n, v, rfl, hk⟩ | ⟨g, t, v, rfl, hk⟩
  · have hl : l.length = 9 + p.length + 6 * q.length := by
      rw [← h2, rBytes_hd]
      simp only [List.length_cons, List.length_append, nB_length, rgsB_length]
      omega
    unfold rGuess at hg
    rw [if_pos h] at hg
    have e1 : (l.drop 3).take (nOf 2 (l.drop 1)) = p := congrArg PR.path hg
    have e2 : rgsOf ((l.drop (3 + nOf 2 (l.drop 1) + 5)).headD 0) (l.drop (3 + nOf 2 (l.drop 1) + 6)) = q := congrArg PR.rungs hg
    have k2 := rgsOf_length ((l.drop (3 + nOf 2 (l.drop 1) + 5)).headD 0) (l.drop (3 + nOf 2 (l.drop 1) + 6))
    rw [e2] at k2
    have k1 : p.length = min (nOf 2 (l.drop 1)) (l.length - 3) := by rw [← e1, List.length_take, List.length_drop]
    omega
  · rw [← h2] at h; cases h
  · rw [← h2] at h; cases h
theorem rTake_short {l : List Nat} (h : l.headD 0 = 1) (hl : l.length < 9 + nOf 2 (l.drop 1) + 6 * (l.drop (3 + nOf 2 (l.drop 1) + 5)).headD 0) : rTake l = (PR.zero, 7) := rTake_no (fun r h1 hv h2 => by
  have := head_len h h1 hv h2
  omega)
end Go.Proofs.Ytabbpgnenmpacaa.SR
