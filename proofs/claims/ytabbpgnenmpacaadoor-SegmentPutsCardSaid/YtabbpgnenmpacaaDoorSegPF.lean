/-
  Contracts of the program's functions of layer 8: readHead.
-/
import Derived.Test.YtabbpgnenmpacaaDoorSegPE
import Derived.Deep.RegionLaw
set_option linter.unusedSimpArgs false
set_option linter.unusedVariables false
namespace Go.Proofs.YtabbpgnenmpacaaDoor
open Go.RowKit
/-- The cells of a row of archives. -/
def rgC (l : List (Int × Int)) : List Value := l.flatMap fun g => [.int .i64 g.1, .int .i64 g.2]
theorem rgC_app (a b : List (Int × Int)) : rgC (a ++ b) = rgC a ++ rgC b := by unfold rgC; rw [List.flatMap_append]
theorem rgC_length : ∀ l : List (Int × Int), (rgC l).length = 2 * l.length
  | [] => rfl
  | g :: l => by
    have h := rgC_length l
    show (Value.int .i64 g.1 :: Value.int .i64 g.2 :: rgC l).length = _
    rw [List.length_cons, List.length_cons, h, List.length_cons]
    omega
theorem rgC_at : ∀ (l : List (Int × Int)) (k : Nat) (g : Int × Int), l[k]? = some g → (rgC l)[k * 2]? = some (.int .i64 g.1) ∧ (rgC l)[k * 2 + 1]? = some (.int .i64 g.2)
  | [], k, g, h => by simp at h
  | x :: l, 0, g, h => by
    obtain rfl : x = g := by simpa using h
    exact ⟨rfl, rfl⟩
  | x :: l, k + 1, g, h => by
    have ih := rgC_at l k g (by simpa using h)
    have e : rgC (x :: l) = .int .i64 x.1 :: .int .i64 x.2 :: rgC l := rfl
    rw [e, show (k + 1) * 2 = k * 2 + 1 + 1 from by omega, List.getElem?_cons_succ, List.getElem?_cons_succ, show k * 2 + 1 + 1 + 1 = k * 2 + 1 + 1 + 1 from rfl, List.getElem?_cons_succ, List.getElem?_cons_succ]
    exact ih
/-- A row of archives of a call's own. -/
def RgNew (B : Nat) (w : World) (v : Value) (l : List (Int × Int)) : Prop := w.ownsRow B 49 2 v l.length (rgC l)
theorem RgNew.out {B : Nat} {w : World} {v : Value} {l : List (Int × Int)} (h : RgNew B w v l) : RgOut w v l := by
  rcases h.2 with ⟨rfl, h0⟩ | ⟨g, cap, cur, rfl, hb, hh, hle, _, _, ht⟩
  · exact ⟨none, 0, by rw [h0], by omega, fun hn => absurd (List.eq_nil_of_length_eq_zero h0) hn⟩
  · refine ⟨_, cap, rfl, hle, fun _ => ⟨g, 0, rfl, fun k x hk => ?_⟩⟩
    have hlt : k < l.length := (List.getElem?_eq_some_iff.1 hk).1
    obtain ⟨e1, e2⟩ := rgC_at l k x hk
    have key : ∀ (j : Nat) (u : Value), j < l.length * 2 → (rgC l)[j]? = some u → w.cell? ⟨g, 0 + j, none⟩ = some u := fun j u hj hu => by
      rw [Nat.zero_add]
      refine (cell_of_row w g j cur _ (0, 0) hh).trans ?_
      have h5 : (cur.toList.take (l.length * 2))[j]? = some u := by rw [ht]; exact hu
      rw [List.getElem?_take, if_pos hj] at h5
      simpa using h5
    exact ⟨by have := key (k * 2) _ (by omega) e1; simpa using this, by have := key (k * 2 + 1) _ (by omega) e2; simpa [Nat.add_assoc] using this⟩
/-- A record as a value, with archives of a call's own. -/
def RcNew (B : Nat) (w : World) (v : Value) (r : PR) : Prop := ∃ u, v = .agg (rcC u r).toArray ∧ RgNew B w u r.rungs
theorem RcNew.out {B : Nat} {w : World} {v : Value} {r : PR} (h : RcNew B w v r) : RcOut w v r := by
  obtain ⟨u, hv, h⟩ := h
  exact ⟨u, hv, h.out⟩
theorem RgNew.mono {B B' : Nat} {w : World} {v : Value} {l : List (Int × Int)} (h : RgNew B' w v l) (hB : B ≤ B') : RgNew B w v l := by
  refine ⟨h.1, ?_⟩
  rcases h.2 with ⟨rfl, h0⟩ | ⟨g, cap, cur, rfl, hb, hr⟩
  · exact Or.inl ⟨rfl, h0⟩
  · exact Or.inr ⟨g, cap, cur, rfl, Nat.le_trans hB hb, hr⟩
theorem RgNew.nil (B : Nat) (w : World) : RgNew B w (.slice none 0 0) [] := ⟨rfl, .inl ⟨rfl, rfl⟩⟩
/-- Behind a store into a block that is older. -/
theorem RgNew.grown {B : Nat} {w w' : World} {v : Value} {l : List (Int × Int)} {row : Option Nat} (h : RgNew B w v l) (hg : w.grownBy w' row) (hr : ∀ g, row = some g → g < B) : RgNew B w' v l := by
  refine ⟨h.1, ?_⟩
  rcases h.2 with ⟨rfl, h0⟩ | ⟨g', cap, cur, rfl, hg', hh, hr'⟩
  · exact Or.inl ⟨rfl, h0⟩
  · have hlt' : g' < w.heap.size := ownsRow_lt h rfl
    exact Or.inr ⟨g', cap, cur, rfl, hg', (hg.block g' hlt' (fun e => by have := hr g' e.symm; omega)).trans hh, hr'⟩
theorem RgNew.below {B : Nat} {w w' : World} {v : Value} {l : List (Int × Int)} (h : RgNew B w v l) (hb : Below w.heap.size w w') : RgNew B w' v l := ownsRow_below h hb
theorem RcNew.below {B : Nat} {w w' : World} {v : Value} {r : PR} (h : RcNew B w v r) (hb : Below w.heap.size w w') : RcNew B w' v r := by
  obtain ⟨u, hv, h⟩ := h
  exact ⟨u, hv, h.below hb⟩
theorem RcNew.mono {B B' : Nat} {w : World} {v : Value} {r : PR} (h : RcNew B' w v r) (hB : B ≤ B') : RcNew B w v r := by
  obtain ⟨u, hv, h⟩ := h
  exact ⟨u, hv, h.mono hB⟩
end Go.Proofs.YtabbpgnenmpacaaDoor
namespace Go.Proofs.YtabbpgnenmpacaaDoor.SP
open Go.RowKit
open CR (below_next own_ge u8_wrap)
theorem dvar_grown {w w' : World} {b n : Nat} {row : Option Nat} (h : DVar w b n) (hg : w.grownBy w' row) (hn : row ≠ some b) : DVar w' b n := by
  have hb := hg.block b h.lt (fun e => hn e.symm)
  refine ⟨Nat.lt_of_lt_of_le h.lt hg.size, fun i hi => ?_, fun i hi => ?_⟩
  · obtain ⟨u, hu⟩ := h.c i hi
    exact ⟨u, (World.cell?_of_block hb).trans hu⟩
  · exact (World.frozen?_of_block hb).trans (h.f i hi)
/-- While a head is read: the reader, the variable of what is answered, the record's own, and its archives in a block of their own. -/
structure HS (w : World) (b : Nat) (W : World) (l : List Nat) (C : List Value) (u : Value) (g : List (Int × Int)) : Prop where
  rd : RdSt W b l
  bx : Holds W (w.heap.size + 1) C
  cl : C.length = 9
  dv : DVar W (w.heap.size + 1) 9
  d0 : DVar W w.heap.size 9
  row : RgNew (w.heap.size + 2) W u g
  gr : w.grownBy W (some b)
  sz : w.heap.size + 2 ≤ W.heap.size
  lt : b < w.heap.size
theorem HS.read {w : World} {b : Nat} {W W' : World} {l l' : List Nat} {C : List Value} {u : Value} {g : List (Int × Int)} (h : HS w b W l C u g) (hr : RdSt W' b l') (hg : W.grownBy W' (some b)) : HS w b W' l' C u g := by
  have hlt := h.lt
  have hsz := h.sz
  have k : ∀ i, i < W.heap.size → i ≠ b → W'.heap[i]? = W.heap[i]? := fun i hi hn => hg.block i hi (fun e => hn (by injection e))
  refine ⟨hr, fun j v hj => (World.cell?_of_block (k (w.heap.size + 1) (by omega) (by omega))).trans (h.bx j v hj), h.cl, dvar_grown h.dv hg (by intro e; injection e; omega), dvar_grown h.d0 hg (by intro e; injection e; omega), ?_, h.gr.trans hg, Nat.le_trans hsz hg.size, hlt⟩
  refine ⟨h.row.1, ?_⟩
  rcases h.row.2 with ⟨rfl, h0⟩ | ⟨g', cap, cur, rfl, hg', hh, hr'⟩
  · exact Or.inl ⟨rfl, h0⟩
  · have hlt' : g' < W.heap.size := ownsRow_lt h.row rfl
    exact Or.inr ⟨g', cap, cur, rfl, hg', (k g' hlt' (by omega)).trans hh, hr'⟩
theorem HS.other {w : World} {b : Nat} {W W' : World} {l : List Nat} {C : List Value} {u u' : Value} {g g' : List (Int × Int)} (h : HS w b W l C u g) (hs : ∀ i, i < w.heap.size + 2 → W'.heap[i]? = W.heap[i]?) (hz : W.heap.size ≤ W'.heap.size) (hq : W'.os = W.os ∧ W'.tape = W.tape ∧ W'.output = W.output) (hr : RgNew (w.heap.size + 2) W' u' g') : HS w b W' l C u' g' := by
  have hlt := h.lt
  have dk : ∀ {x n : Nat}, x < w.heap.size + 2 → DVar W x n → DVar W' x n := fun {x n} hx d =>
    ⟨Nat.lt_of_lt_of_le d.lt hz, fun i hi => by obtain ⟨q, hq⟩ := d.c i hi; exact ⟨q, (World.cell?_of_block (hs x hx)).trans hq⟩, fun i hi => (World.frozen?_of_block (a := ⟨x, i, none⟩) (hs x hx)).trans (d.f i hi)⟩
  exact ⟨h.rd.same (fun i hi => hs i (by omega)), fun j v hj => (World.cell?_of_block (hs (w.heap.size + 1) (by omega))).trans (h.bx j v hj), h.cl, dk (by omega) h.dv, dk (by omega) h.d0, hr, ⟨hq.1.trans h.gr.os, hq.2.1.trans h.gr.tape, hq.2.2.trans h.gr.output, Nat.le_trans h.gr.size hz, fun i hi hn => (hs i (by omega)).trans (h.gr.block i hi hn)⟩, Nat.le_trans h.sz hz, hlt⟩
theorem HS.set {w : World} {b : Nat} {W : World} {l : List Nat} {C : List Value} {u : Value} {g : List (Int × Int)} (h : HS w b W l C u g) (j : Nat) (hj : j < 9) (v : Value) : HS w b (W.setCell ⟨w.heap.size + 1, j, none⟩ v) l (C.set j v) u g := by
  have hlt := h.lt
  have k : ∀ i, i ≠ w.heap.size + 1 → (W.setCell ⟨w.heap.size + 1, j, none⟩ v).heap[i]? = W.heap[i]? := fun i hn => heap_setCell_other W ⟨w.heap.size + 1, j, none⟩ i v (fun e => hn e)
  refine ⟨h.rd.same (fun i hi => k i (by omega)), h.bx.set (by rw [h.cl]; exact hj) v, by rw [List.length_set]; exact h.cl, h.dv.set v, h.d0.set v, ?_, ⟨h.gr.os, h.gr.tape, h.gr.output, by simp; exact h.gr.size, fun i hi hn => (k i (by omega)).trans (h.gr.block i hi hn)⟩, by simp; exact h.sz, hlt⟩
  refine ⟨h.row.1, ?_⟩
  rcases h.row.2 with ⟨rfl, h0⟩ | ⟨g', cap, cur, rfl, hg', hh, hr'⟩
  · exact Or.inl ⟨rfl, h0⟩
  · exact Or.inr ⟨g', cap, cur, rfl, hg', (k g' (by omega)).trans hh, hr'⟩
theorem HS.alloc {w : World} {b : Nat} {W : World} {l : List Nat} {C : List Value} {u : Value} {g : List (Int × Int)} (h : HS w b W l C u g) (o : Obj) : HS w b (W.alloc o) l C u g :=
  h.other (fun i hi => Below.heap_alloc W o i (by have := h.sz; omega)) (by simp) ⟨rfl, rfl, rfl⟩ (ownsRow_below h.row (alloc_below W o))
theorem i64_small {n : Nat} (h : n < 9223372036854775808) : i64 n = (n : Int) := by
  unfold i64
  rw [Nat.mod_eq_of_lt (by omega), if_pos h]
theorem rgsOf_snoc : ∀ (q : Nat) (l : List Nat), rgsOf (q + 1) l = rgsOf q l ++ [(((nOf 4 (l.drop (6 * q)) : Nat) : Int), ((nOf 2 (l.drop (6 * q + 4)) : Nat) : Int))]
  | 0, l => rfl
  | q + 1, l => by
    have ih := rgsOf_snoc q (l.drop 6)
    show _ :: rgsOf (q + 1) (l.drop 6) = _ :: (rgsOf q (l.drop 6) ++ _)
    rw [ih, List.drop_drop, List.drop_drop, show 6 + 6 * q = 6 * (q + 1) from by omega, show 6 + (6 * q + 4) = 6 * (q + 1) + 4 from by omega]
theorem rgsOf_length : ∀ (q : Nat) (l : List Nat), (rgsOf q l).length = q
  | 0, _ => rfl
  | q + 1, l => by
    show (rgsOf q (l.drop 6)).length + 1 = q + 1
    rw [rgsOf_length q]
theorem hs_start {w w2 : World} {b : Nat} {l : List Nat} {C1 C2 cs : List Value} {t : TypeId} (h : RdSt w b l) (h1 : C1.length = 9) (h2 : cs.length = 9) (hp : Put ((w.alloc (.cells C1.toArray t)).alloc (.cells C2.toArray t)) w2 (w.heap.size + 1) cs) : HS w b w2 l cs (.slice none 0 0) [] := by
  have hlt := h.lt
  have e1 : (w.alloc (.cells C1.toArray t)).heap.size = w.heap.size + 1 := by simp
  have k : ∀ i, i < w.heap.size → w2.heap[i]? = w.heap[i]? := fun i hi =>
    (hp.grown.block i (by simp; omega) (fun e => by injection e; omega)).trans ((Below.heap_alloc _ _ i (by rw [e1]; omega)).trans (Below.heap_alloc w _ i hi))
  have d0 : DVar w2 w.heap.size 9 := by
    have d1 := DVar.alloc (w := w) C1.toArray t
    have d2 : DVar ((w.alloc (.cells C1.toArray t)).alloc (.cells C2.toArray t)) w.heap.size C1.toArray.size := d1.below (alloc_below _ _)
    have e : C1.toArray.size = 9 := by simpa using h1
    rw [e] at d2
    exact dvar_grown d2 hp.grown (by intro e; injection e; omega)
  refine ⟨h.same (fun i hi => k i (by omega)), hp.at_, h2, by have := hp.var; rw [h2] at this; exact this, d0, ⟨rfl, .inl ⟨rfl, rfl⟩⟩, ⟨hp.grown.os, hp.grown.tape, hp.grown.output, by rw [hp.size]; simp; omega, fun i hi _ => k i hi⟩, by rw [hp.size]; simp, hlt⟩
/-- A whole number is read, at a step of a region that draws. -/
theorem step_whole {ops : Array Oper} {o : Oper} {a : Act} {K : Act → World → Prop} {Q : Exit → Act → World → Prop} {E : Prop} {W : World} (hgd : o.guard = none) (x : Operand) (k : Nat) (T : Array TypeId) (b : Nat) (v : Value) (R : World → Prop)
    (ho : o.op = .call { callee := .value (.func 45), args := #[x, .const (.int .i64 (k : Nat))], argTypes := T }) (hx : a.eval x = .pointer (some ⟨b, 0, none⟩))
    (hcall : Calls Tryd.prog 45 #[.pointer (some ⟨b, 0, none⟩), .int .i64 (k : Nat)] W fun e w' => e = .returned v ∧ R w')
    (h : ∀ w', R w' → K (a.put o.dst v) w') : if Region.wanted o (yielded ops a.tmps) = true then Oper.wp Tryd.prog o a W K Q else E := by
  have hw : Region.wanted o (yielded ops a.tmps) = true := by simp [Region.wanted, hgd]
  rw [if_pos hw]
  have e : (execOp a.eval o).run Tryd.prog W = .ok (.enter 45 #[.pointer (some ⟨b, 0, none⟩), .int .i64 (k : Nat)]) W := by
    have hc : a.eval (.const (.int .i64 (k : Nat))) = .int .i64 (k : Nat) := rfl
    have hf : a.eval (.func 45) = .func (.func 45) #[] #[] := rfl
    have hb1 : (Tryd.f45.name == "runtime.NumGoroutine") = false := by kernel_rfl
    have hb2 : Tryd.f45.body.isNone = false := by kernel_rfl
    have hnm : ¬ Tryd.f45.name = "runtime.NumGoroutine" := fun h => by rw [h] at hb1; simp at hb1
    have hbd : ¬ Tryd.f45.body = none := fun h => by rw [h] at hb2; simp at hb2
    unfold execOp
    simp [ho, resolve, Deferred.ofValue, invoke, callFunc, hx, hc, hf, go_sem, hnm, hbd]
    first
      | exact hx
      | (unfold Act.eval at hx; exact hx)
      | (simp [Act.eval] at hx; exact hx)
      | (simp [Act.eval, go_sem] at hx; exact hx)
  unfold Oper.wp
  rw [e, Oper.upon_enter]
  refine hcall.mono ?_
  rintro _ w' ⟨rfl, h2⟩
  exact h w' h2
end Go.Proofs.YtabbpgnenmpacaaDoor.SP
