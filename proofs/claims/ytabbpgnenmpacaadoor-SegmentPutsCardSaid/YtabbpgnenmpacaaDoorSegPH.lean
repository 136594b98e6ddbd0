/-
  Contracts of the program's functions of layer 8: read.
-/
import Derived.Test.YtabbpgnenmpacaaDoorSegPG
set_option linter.unusedSimpArgs false
set_option linter.unusedVariables false
namespace Go.Proofs.YtabbpgnenmpacaaDoor.SP
open Go.RowKit
open CR (below_next own_ge u8_wrap)
/-- While a record is read: the reader, the record's own variable, and that of what is answered. -/
structure RS (w : World) (R : Nat) (W : World) (l : List Nat) (C : List Value) : Prop where
  rd : RdSt W (w.heap.size + 1) l
  bx : Holds W R C
  cl : C.length = 9
  dv : DVar W R 9
  d0 : DVar W w.heap.size 9
  below : Below w.heap.size w W
  hR : w.heap.size + 1 < R
theorem RS.read {w : World} {R : Nat} {W W' : World} {l l' : List Nat} {C : List Value} (h : RS w R W l C) (hr : RdSt W' (w.heap.size + 1) l') (hg : W.grownBy W' (some (w.heap.size + 1))) : RS w R W' l' C := by
  have hR := h.hR
  have hs := h.below.size
  refine ⟨hr, fun j v hj => (World.cell?_of_block (hg.block R h.dv.lt (fun e => by injection e; omega))).trans (h.bx j v hj), h.cl, dvar_grown h.dv hg (by intro e; injection e; omega), dvar_grown h.d0 hg (by intro e; injection e; omega), Below.grown h.below hg hs (fun k e => by injection e; omega), hR⟩
theorem RS.set {w : World} {R : Nat} {W : World} {l : List Nat} {C : List Value} (h : RS w R W l C) (j : Nat) (hj : j < 9) (v : Value) : RS w R (W.setCell ⟨R, j, none⟩ v) l (C.set j v) := by
  have hR := h.hR
  have k : ∀ i, i ≠ R → (W.setCell ⟨R, j, none⟩ v).heap[i]? = W.heap[i]? := fun i hn => heap_setCell_other W ⟨R, j, none⟩ i v (fun e => hn e)
  exact ⟨h.rd.same (fun i hi => k i (by omega)), h.bx.set (by rw [h.cl]; exact hj) v, by rw [List.length_set]; exact h.cl, h.dv.set v, h.d0.set v, h.below.setCell (p := ⟨R, j, none⟩) (by show w.heap.size ≤ R; omega) v, hR⟩
theorem nOf_one (l : List Nat) : nOf 1 l = l.headD 0 := by
  show l.headD 0 + 256 * 0 = _
  omega
theorem hdRead_guess {l : List Nat} (h : l.headD 0 = 1) : hdRead (l.drop 1) = rGuess l := by
  unfold hdRead rGuess
  rw [if_pos h]
  simp only [List.drop_drop, nOf_one, ← Nat.add_assoc, show 1 + 2 = 3 from rfl]
/-- The record that bytes tell, whatever they are. -/
def rRead (l : List Nat) : PR := if l.headD 0 = 1 ∨ l.headD 0 = 2 ∨ l.headD 0 = 3 then rGuess l else ⟨(l.headD 0 : Nat), [], 0, 0, [], 0, 0, 0, i64 (nOf 8 (l.drop 1))⟩
theorem headD_bytes {r : PR} (h : rRight r = true) : ((rBytes r).headD 0 = 1 ∨ (rBytes r).headD 0 = 2 ∨ (rBytes r).headD 0 = 3) := by
  rcases right_cases h with ⟨p, m, f, l, rfl, hk⟩ | ⟨t, n, v, rfl, hk⟩ | ⟨g, t, v, rfl, hk⟩
  · exact Or.inl rfl
  · exact Or.inr (Or.inl rfl)
  · exact Or.inr (Or.inr rfl)
/-- What is taken is what is read, if that is right and laid again as the bytes stand. -/
theorem rTake_read (l : List Nat) : rTake l = if rRight (rRead l) = true ∧ rBytes (rRead l) = l then (rRead l, 0) else (PR.zero, 7) := by
  by_cases h : l.headD 0 = 1 ∨ l.headD 0 = 2 ∨ l.headD 0 = 3
  · have e : rRead l = rGuess l := if_pos h
    rw [e]
    rfl
  · have e : rRead l = ⟨(l.headD 0 : Nat), [], 0, 0, [], 0, 0, 0, i64 (nOf 8 (l.drop 1))⟩ := if_neg h
    have hr : rRight (rRead l) = false := by
      rw [e]
      unfold rRight
      rw [if_neg (by show ¬ ((l.headD 0 : Nat) : Int) = 1; omega), if_neg (by show ¬ ((l.headD 0 : Nat) : Int) = 2; omega), if_neg (by show ¬ ((l.headD 0 : Nat) : Int) = 3; omega)]
    rw [if_neg (fun g => by rw [hr] at g; cases g.1)]
    exact rTake_no (fun r h1 _ h2 => h (by rw [← h2]; exact headD_bytes h1))
/-- How long a read record is. -/
theorem rRead_ok {l : List Nat} (hb : Bytes l) : Bytes (rRead l).path ∧ (rRead l).rungs.length ≤ 100000 := by
  unfold rRead
  split
  · unfold rGuess
    split
    · refine ⟨(hb.drops 3).takes _, ?_⟩
      show (rgsOf _ _).length ≤ 100000
      rw [rgsOf_length]
      have : ∀ q : List Nat, Bytes q → q.headD 0 < 256 := fun q hq => by
        cases q with
        | nil => decide
        | cons a q => exact hq a List.mem_cons_self
      have := this _ (hb.drops (3 + nOf 2 (l.drop 1) + 5))
      omega
    · split
      · exact ⟨fun _ h => (by cases h), Nat.zero_le _⟩
      · exact ⟨fun _ h => (by cases h), Nat.zero_le _⟩
  · exact ⟨fun _ h => (by cases h), Nat.zero_le _⟩
/-- A record's variable is made. -/
theorem rs_start {w w2 w3 : World} {l : List Nat} {C0 C2 cs : List Value} {t : TypeId} {o : Obj} (hr : RdSt w2 (w.heap.size + 1) l) (hg : ((w.alloc (.cells C0.toArray t)).alloc o).grownBy w2 (some (w.heap.size + 1))) (h0 : C0.length = 9) (h2 : cs.length = 9)
    (hp : Put (w2.alloc (.cells C2.toArray t)) w3 w2.heap.size cs) : RS w w2.heap.size w3 l cs := by
  have e1 : (w.alloc (.cells C0.toArray t)).heap.size = w.heap.size + 1 := by simp
  have e2 : ((w.alloc (.cells C0.toArray t)).alloc o).heap.size = w.heap.size + 2 := by simp
  have hs := hg.size
  rw [e2] at hs
  have k3 : ∀ i, i < w2.heap.size → w3.heap[i]? = w2.heap[i]? := fun i hi => (hp.grown.block i (by simp; omega) (fun e => by injection e; omega)).trans (Below.heap_alloc w2 _ i hi)
  have hb1 : Below w.heap.size w ((w.alloc (.cells C0.toArray t)).alloc o) := (alloc_below w _).trans ((alloc_below _ _).mono (by rw [e1]; omega))
  have hb2 : Below w.heap.size w w2 := Below.grown hb1 hg (by rw [e2]; omega) (fun k e => by injection e; omega)
  have hb3 : Below w.heap.size w w3 := hp.below (by omega) (hb2.alloc (by omega) _)
  have d1 : DVar ((w.alloc (.cells C0.toArray t)).alloc o) w.heap.size 9 := by
    have d := DVar.below (alloc_below (w.alloc (.cells C0.toArray t)) o) (DVar.alloc (w := w) C0.toArray t)
    have e : C0.toArray.size = 9 := by simpa using h0
    rw [e] at d
    exact d
  have d2 := dvar_grown d1 hg (by intro e; injection e; omega)
  refine ⟨hr.same (fun i hi => k3 i (by omega)), hp.at_, h2, by have := hp.var; rw [h2] at this; exact this, ⟨by rw [hp.size]; simp; omega, fun i hi => ?_, fun i hi => ?_⟩, hb3, by omega⟩
  · obtain ⟨u, hu⟩ := d2.c i hi
    exact ⟨u, (World.cell?_of_block (k3 w.heap.size (by omega))).trans hu⟩
  · exact (World.frozen?_of_block (a := ⟨w.heap.size, i, none⟩) (k3 w.heap.size (by omega))).trans (d2.f i hi)
theorem RdSt.first {w : World} {v : Value} {l : List Nat} {C0 : Array Value} {t t2 : TypeId} (h : ByOut w v l) : RdSt ((w.alloc (.cells C0 t)).alloc (.cells #[v] t2)) (w.heap.size + 1) l := by
  have e1 : (w.alloc (.cells C0 t)).heap.size = w.heap.size + 1 := by simp
  have d := DVar.alloc (w := w.alloc (.cells C0 t)) #[v] t2
  have hh := holds_alloc (w.alloc (.cells C0 t)) [v] t2 0 v rfl
  rw [e1] at d hh
  refine ⟨v, hh, d.f 0 (by simp), ?_⟩
  have hu := ByUnder.of h
  obtain ⟨A, cap, hv, hc, hx⟩ := hu
  refine ⟨A, cap, hv, hc, fun hn => ?_⟩
  obtain ⟨b, off, hA, hB, hf⟩ := hx hn
  exact ⟨b, off, hA, by omega, (hf.below (alloc_below w _)).below (alloc_below _ _)⟩
theorem rc_plain (B : Nat) (w : World) (k g t n v : Int) : RcNew B w (.agg #[.int .i64 k, .string ByteArray.empty, .int .i64 0, .int .i64 0, .slice none 0 0, .int .i64 g, .int .i64 t, .int .i64 n, .int .i64 v]) ⟨k, [], 0, 0, [], g, t, n, v⟩ :=
  ⟨.slice none 0 0, rfl, RgNew.nil B w⟩
theorem rRead_other {l : List Nat} {K : Nat} {vv : Int} (h : l.headD 0 = K) (k9 : ¬ (K = 1 ∨ K = 2 ∨ K = 3)) (hv : i64 (nOf 8 (l.drop 1)) = vv) : rRead l = ⟨(K : Nat), [], 0, 0, [], 0, 0, 0, vv⟩ := by
  subst h hv
  exact if_neg k9
theorem rRead_two {l : List Nat} {K : Nat} {t nw vv : Int} (h : l.headD 0 = K) (k2 : K = 2) (ht : i64 (nOf 8 (l.drop 1)) = t) (hn : i64 (nOf 8 (l.drop 9)) = nw) (hv : i64 (nOf 8 (l.drop 17)) = vv) : rRead l = ⟨(K : Nat), [], 0, 0, [], 0, t, nw, vv⟩ := by
  subst ht hn hv k2
  unfold rRead
  rw [if_pos (Or.inr (Or.inl h))]
  unfold rGuess
  rw [if_neg (by rw [h]; decide), if_pos h]
  rfl
theorem rRead_three {l : List Nat} {K : Nat} {g t vv : Int} (h : l.headD 0 = K) (k3 : K = 3) (hg : i64 (nOf 1 (l.drop 1)) = g) (hb : (l.drop 1).headD 0 < 9223372036854775808) (ht : i64 (nOf 8 (l.drop 2)) = t) (hv : i64 (nOf 8 (l.drop 10)) = vv) : rRead l = ⟨(K : Nat), [], 0, 0, [], g, t, 0, vv⟩ := by
  subst hg ht hv k3
  unfold rRead
  rw [if_pos (Or.inr (Or.inr h))]
  unfold rGuess
  rw [if_neg (by rw [h]; decide), if_neg (by rw [h]; decide), nOf_one, i64_small hb]
  rfl
end Go.Proofs.YtabbpgnenmpacaaDoor.SP
