/-
  Variables that hold a struct or an array: stores and loads of the whole, what stays.
-/
import Derived.Test.YtkgmglncdiccfaaDoorGlbRow
import Derived.WalkKit
import Derived.WalkSmall
import Derived.Lib.Hide
import Derived.Deep.MidRow
import Derived.Maps.AppendAt
set_option linter.unusedSimpArgs false
set_option linter.unusedVariables false
namespace Go.Proofs.YtkgmglncdiccfaaDoor
open Go.RowKit
/-- What stays the same where S lets be. -/
def KeepS (S : Nat → Prop) (w w' : World) : Prop := ∀ b o, S b → w'.cell? ⟨b, o, none⟩ = w.cell? ⟨b, o, none⟩
theorem cell_below {w w' : World} (hb : Below w.heap.size w w') {b o : Nat} {u : Value} (h : w.cell? ⟨b, o, none⟩ = some u) : w'.cell? ⟨b, o, none⟩ = some u := cellb hb h
/-- A variable that holds n cells: its block's cells are there, and may be written. -/
structure DVar (w : World) (b n : Nat) : Prop where
  lt : b < w.heap.size
  c : ∀ i, i < n → ∃ u, w.cell? ⟨b, i, none⟩ = some u
  f : ∀ i, i < n → w.frozen? ⟨b, i, none⟩ = false
theorem DVar.below {w w' : World} {b n : Nat} (hb : Below w.heap.size w w') (h : DVar w b n) : DVar w' b n :=
  ⟨Nat.lt_of_lt_of_le h.lt hb.size, fun i hi => by obtain ⟨u, hu⟩ := h.c i hi; exact ⟨u, cell_below hb hu⟩, fun i hi => (hb.frozen (p := ⟨b, i, none⟩) h.lt).trans (h.f i hi)⟩
theorem DVar.alloc {w : World} (cs : Array Value) (t : TypeId) : DVar (w.alloc (.cells cs t)) w.heap.size cs.size := by
  have hh : (w.alloc (.cells cs t)).heap[w.heap.size]? = some (.cells cs t) := by
    show (w.heap.push (.cells cs t))[w.heap.size]? = _
    exact Array.getElem?_push_size
  refine ⟨by simp, fun i hi => ⟨cs[i], ?_⟩, fun i hi => frozen_of_row _ _ _ _ _ hh⟩
  rw [cell_of_row _ _ _ _ _ _ hh]
  simp [hi]
theorem DVar.set {w : World} {b n b' o : Nat} (h : DVar w b n) (u : Value) : DVar (w.setCell ⟨b', o, none⟩ u) b n := by
  refine ⟨by simp; exact h.lt, fun i hi => ?_, fun i hi => ?_⟩
  · obtain ⟨v, hv⟩ := h.c i hi
    by_cases e : (⟨b', o, none⟩ : Addr) = ⟨b, i, none⟩
    · exact ⟨u, by rw [e]; exact World.cell?_setCell_same w _ u hv⟩
    · exact ⟨v, (World.cell?_setCell_other w _ _ u e).trans hv⟩
  · rw [World.frozen?_setCell]
    exact h.f i hi
theorem DVar.mono {w : World} {b n m : Nat} (h : DVar w b n) (hm : m ≤ n) : DVar w b m := ⟨h.lt, fun i hi => h.c i (by omega), fun i hi => h.f i (by omega)⟩
theorem DVar.drew {w : World} {b n : Nat} (h : DVar w b n) : DVar w.drew b n := ⟨h.lt, h.c, h.f⟩
theorem DVar.four {w : World} {b : Nat} (h : DVar w b 4) : w.frozen? ⟨b, 0, none⟩ = false ∧ w.frozen? ⟨b, 1, none⟩ = false ∧ w.frozen? ⟨b, 2, none⟩ = false ∧ w.frozen? ⟨b, 3, none⟩ = false :=
  ⟨h.f 0 (by decide), h.f 1 (by decide), h.f 2 (by decide), h.f 3 (by decide)⟩
theorem keep_set {b o : Nat} (w : World) (u : Value) : KeepS (fun g => g ≠ b) w (w.setCell ⟨b, o, none⟩ u) := fun b' o' h => World.cell?_setCell_other w _ _ u (fun e => by injection e with e1; exact h e1.symm)
theorem KeepS.trans {S : Nat → Prop} {a b c : World} (h : KeepS S a b) (k : KeepS S b c) : KeepS S a c := fun x y hS => (k x y hS).trans (h x y hS)
theorem keep_sets {b : Nat} : ∀ (vs : List Value) (o : Nat) (w : World), KeepS (fun g => g ≠ b) w (w.setCells b o vs)
  | [], _, _ => fun _ _ _ => rfl
  | v :: r, o, w => KeepS.trans (keep_set w v) (keep_sets r (o + 1) _)
theorem below_sets {B b : Nat} (hb : B ≤ b) : ∀ (vs : List Value) (o : Nat) {w0 w : World}, Below B w0 w → Below B w0 (w.setCells b o vs)
  | [], _, _, _, h => h
  | v :: r, o, _, _, h => below_sets hb r (o + 1) (h.setCell hb v)
theorem var_sets {b n b' : Nat} : ∀ (vs : List Value) (o : Nat) {w : World}, DVar w b n → DVar (w.setCells b' o vs) b n
  | [], _, _, h => h
  | v :: r, o, _, h => var_sets r (o + 1) (h.set v)
theorem size_sets {b : Nat} : ∀ (vs : List Value) (o : Nat) (w : World), (w.setCells b o vs).heap.size = w.heap.size
  | [], _, _ => rfl
  | v :: r, o, w => (size_sets r (o + 1) _).trans (by simp)
/-- What lies in a variable. -/
def Holds (w : World) (b : Nat) (cs : List Value) : Prop := ∀ j v, cs[j]? = some v → w.cell? ⟨b, j, none⟩ = some v
theorem Holds.below {w w' : World} {b : Nat} {cs : List Value} (h : Holds w b cs) (hb : Below w.heap.size w w') : Holds w' b cs := fun j v hv => cell_below hb (h j v hv)
theorem Holds.keep {S : Nat → Prop} {w w' : World} {b : Nat} {cs : List Value} (h : Holds w b cs) (hk : KeepS S w w') (hS : S b) : Holds w' b cs := fun j v hv => (hk b j hS).trans (h j v hv)
theorem Holds.four {w : World} {b : Nat} {v0 v1 v2 v3 : Value} (h : Holds w b [v0, v1, v2, v3]) : w.cell? ⟨b, 0, none⟩ = some v0 ∧ w.cell? ⟨b, 1, none⟩ = some v1 ∧ w.cell? ⟨b, 2, none⟩ = some v2 ∧ w.cell? ⟨b, 3, none⟩ = some v3 :=
  ⟨h 0 _ rfl, h 1 _ rfl, h 2 _ rfl, h 3 _ rfl⟩
theorem Holds.cells5 {w : World} {b : Nat} {v0 v1 v2 v3 v4 : Value} (h : Holds w b [v0, v1, v2, v3, v4]) : w.cell? ⟨b, 0, none⟩ = some v0 ∧ w.cell? ⟨b, 1, none⟩ = some v1 ∧ w.cell? ⟨b, 2, none⟩ = some v2 ∧ w.cell? ⟨b, 3, none⟩ = some v3 ∧ w.cell? ⟨b, 4, none⟩ = some v4 :=
  ⟨h 0 _ rfl, h 1 _ rfl, h 2 _ rfl, h 3 _ rfl, h 4 _ rfl⟩
theorem Holds.three {w : World} {b : Nat} {v0 v1 v2 : Value} (h : Holds w b [v0, v1, v2]) : w.cell? ⟨b, 0, none⟩ = some v0 ∧ w.cell? ⟨b, 1, none⟩ = some v1 ∧ w.cell? ⟨b, 2, none⟩ = some v2 :=
  ⟨h 0 _ rfl, h 1 _ rfl, h 2 _ rfl⟩
theorem Holds.of4 {w : World} {b : Nat} {v0 v1 v2 v3 : Value} (h0 : w.cell? ⟨b, 0, none⟩ = some v0) (h1 : w.cell? ⟨b, 1, none⟩ = some v1) (h2 : w.cell? ⟨b, 2, none⟩ = some v2) (h3 : w.cell? ⟨b, 3, none⟩ = some v3) : Holds w b [v0, v1, v2, v3] := fun j v hj => by
  match j, hj with
  | 0, hj => obtain rfl := Option.some.inj hj; exact h0
  | 1, hj => obtain rfl := Option.some.inj hj; exact h1
  | 2, hj => obtain rfl := Option.some.inj hj; exact h2
  | 3, hj => obtain rfl := Option.some.inj hj; exact h3
  | j + 4, hj => simp at hj
theorem grown_set1 (w : World) (b o : Nat) (u : Value) : w.grownBy (w.setCell ⟨b, o, none⟩ u) (some b) := ⟨rfl, rfl, rfl, by simp, fun i _ hi => heap_setCell_other w ⟨b, o, none⟩ i u (fun e => hi (by rw [e]))⟩
theorem grown_sets {b : Nat} : ∀ (vs : List Value) (o : Nat) (w : World), w.grownBy (w.setCells b o vs) (some b)
  | [], _, _ => ⟨rfl, rfl, rfl, Nat.le_refl _, fun _ _ _ => rfl⟩
  | v :: r, o, w => (grown_set1 w b o v).trans (grown_sets r (o + 1) _)
theorem keep_off {b : Nat} : ∀ (vs : List Value) (o : Nat) (w : World) (j : Nat), o + vs.length ≤ j → (w.setCells b o vs).cell? ⟨b, j, none⟩ = w.cell? ⟨b, j, none⟩
  | [], _, _, _, _ => rfl
  | v :: r, o, w, j, h => (keep_off r (o + 1) _ j (by simp only [List.length_cons] at h; omega)).trans (World.cell?_setCell_other w _ _ v (by intro e; simp only [Addr.mk.injEq, List.length_cons] at e h; omega))
/-- What is known behind a store of a whole variable. -/
structure Put (w w' : World) (b : Nat) (cs : List Value) : Prop where
  var : DVar w' b cs.length
  at_ : Holds w' b cs
  keep : KeepS (fun g => g ≠ b) w w'
  below : ∀ {B : Nat} {w0 : World}, B ≤ b → Below B w0 w → Below B w0 w'
  size : w'.heap.size = w.heap.size
  frozen : ∀ b' o', w'.frozen? ⟨b', o', none⟩ = w.frozen? ⟨b', o', none⟩
  grown : w.grownBy w' (some b)
  vars : ∀ (b' n : Nat), DVar w b' n → DVar w' b' n
  off : ∀ j, cs.length ≤ j → w'.cell? ⟨b, j, none⟩ = w.cell? ⟨b, j, none⟩
theorem wpList_put {P : Program} {ops : Array Oper} {rest : List Oper} {op : Oper} {a : Act} {w : World} {Q : Exit → Act → World → Prop} (hgd : op.guard = none) (ty : TypeId) (x y : Operand) (ho : op.op = .store ty x y)
    (b : Nat) (cs : List Value) (hx : a.eval x = .pointer (some ⟨b, 0, none⟩)) (hy : a.eval y = .agg cs.toArray) (hv : DVar w b cs.length)
    (hi : (P.info? ty).map (·.size) = some cs.length) (h1 : ∀ v ∈ cs, v.oneCell' = true)
    (h : ∀ w', Put w w' b cs → wpList P ops Q rest (a.put op.dst undef) w') : wpList P ops Q (op :: rest) a w := by
  have ht : w.there b 0 cs.length := fun j hj => by
    rw [Nat.zero_add]
    obtain ⟨u, hu⟩ := hv.c j hj
    exact ⟨by rw [hu]; rfl, hv.f j hj⟩
  refine wpList_store_mid hgd ty x y ho b 0 cs.toArray hx hy (by simpa using ht) (by simpa using hi) (all_oneCell_toArray h1) ?_
  have e : cs.toArray.toList = cs := by simp
  rw [e]
  refine h _ ⟨var_sets cs 0 hv, fun j v hj => ?_, keep_sets cs 0 w, fun hB hb => below_sets hB cs 0 hb, size_sets cs 0 w, fun b' o' => World.frozen?_setCells b cs 0 w _, grown_sets cs 0 w, fun b' n h => var_sets cs 0 h, fun j hj => keep_off cs 0 w j (by omega)⟩
  have := World.rangeAt_setCells_same w b 0 cs ht j v hj
  rw [Nat.zero_add] at this
  exact this
/-- A goal's world as a letter. -/
theorem gen_last {G : World → Prop} {W : World} (F : World → Prop) (hF : F W) (h : ∀ y, F y → G y) : G W := h W hF
theorem Holds.set {w : World} {b j : Nat} {cs : List Value} (h : Holds w b cs) (hj : j < cs.length) (u : Value) : Holds (w.setCell ⟨b, j, none⟩ u) b (cs.set j u) := fun i v hv => by
  rw [List.getElem?_set] at hv
  by_cases e : j = i
  · subst e
    rw [if_pos rfl, if_pos hj] at hv
    obtain rfl := Option.some.inj hv
    exact World.cell?_setCell_same _ _ _ (h j _ (List.getElem?_eq_getElem hj))
  · rw [if_neg e] at hv
    exact (World.cell?_setCell_other _ _ _ _ (by intro e'; simp only [Addr.mk.injEq] at e'; omega)).trans (h i v hv)
theorem Holds.setOther {w : World} {b b' j : Nat} {cs : List Value} (h : Holds w b cs) (hb : b' ≠ b) (u : Value) : Holds (w.setCell ⟨b', j, none⟩ u) b cs := fun i v hv =>
  (World.cell?_setCell_other _ _ _ _ (by intro e'; simp only [Addr.mk.injEq] at e'; exact hb e'.1)).trans (h i v hv)
theorem Holds.drew {w : World} {b : Nat} {cs : List Value} (h : Holds w b cs) : Holds w.drew b cs := h
theorem holds_alloc (w : World) (C : List Value) (t : TypeId) : Holds (w.alloc (.cells C.toArray t)) w.heap.size C := fun j x h => by
  have hh : (w.alloc (.cells C.toArray t)).heap[w.heap.size]? = some (.cells C.toArray t) := by
    show (w.heap.push _)[w.heap.size]? = _
    exact Array.getElem?_push_size
  rw [cell_of_row _ _ _ _ _ _ hh]
  simpa using h
end Go.Proofs.YtkgmglncdiccfaaDoor
