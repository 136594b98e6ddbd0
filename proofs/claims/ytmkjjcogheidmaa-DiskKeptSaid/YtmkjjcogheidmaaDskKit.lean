/-
  Variables that hold a disk: stores and loads of the whole, what stays.
-/
import Derived.Test.YtmkjjcogheidmaaDskRow
import Derived.WalkKit
import Derived.WalkSmall
import Derived.Lib.Hide
import Derived.Deep.MidRow
import Derived.Maps.AppendAt
set_option linter.unusedSimpArgs false
set_option linter.unusedVariables false
namespace Go.Proofs.Ytmkjjcogheidmaa
open Go.RowKit
theorem bnext {a b c : World} (h : Below a.heap.size a b) (k : Below b.heap.size b c) : Below a.heap.size a c := h.trans (k.mono h.size)
theorem keep_set {b o : Nat} (w : World) (u : Value) : KeepS (fun g => g ≠ b) w (w.setCell ⟨b, o, none⟩ u) := fun b' o' h => World.cell?_setCell_other w _ _ u (fun e => by injection e with e1; exact h e1.symm)
theorem KeepS.trans {S : Nat → Prop} {a b c : World} (h : KeepS S a b) (k : KeepS S b c) : KeepS S a c := fun x y hS => (k x y hS).trans (h x y hS)
theorem keep_sets {b : Nat} : ∀ (vs : List Value) (o : Nat) (w : World), KeepS (fun g => g ≠ b) w (w.setCells b o vs)
  | [], _, _ => fun _ _ _ => rfl
  | v :: r, o, w => KeepS.trans (keep_set w v) (keep_sets r (o + 1) _)
theorem below_sets {B b : Nat} (hb : B ≤ b) : ∀ (vs : List Value) (o : Nat) {w0 w : World}, Below B w0 w → Below B w0 (w.setCells b o vs)
  | [], _, _, _, h => h
  | v :: r, o, _, _, h => below_sets hb r (o + 1) (h.setCell hb v)
theorem var_sets {b n b' : Nat} : ∀ (vs : List Value) (o : Nat) {w : World}, DVar w b n → DVar (w.setCells b' o vs) b n
  | [], _, _, h => h
  | v :: r, o, _, h => var_sets r (o + 1) (h.set v)
theorem size_sets {b : Nat} : ∀ (vs : List Value) (o : Nat) (w : World), (w.setCells b o vs).heap.size = w.heap.size
  | [], _, _ => rfl
  | v :: r, o, w => (size_sets r (o + 1) _).trans (by simp)
/-- What lies in a variable. -/
def Holds (w : World) (b : Nat) (cs : List Value) : Prop := ∀ j v, cs[j]? = some v → w.cell? ⟨b, j, none⟩ = some v
theorem Holds.below {w w' : World} {b : Nat} {cs : List Value} (h : Holds w b cs) (hb : Below w.heap.size w w') : Holds w' b cs := fun j v hv => cell_below hb (h j v hv)
theorem Holds.keep {S : Nat → Prop} {w w' : World} {b : Nat} {cs : List Value} (h : Holds w b cs) (hk : KeepS S w w') (hS : S b) : Holds w' b cs := fun j v hv => (hk b j hS).trans (h j v hv)
theorem Holds.six {w : World} {b : Nat} {v0 v1 v2 v3 v4 v5 : Value} (h : Holds w b [v0, v1, v2, v3, v4, v5]) :
    w.cell? ⟨b, 0, none⟩ = some v0 ∧ w.cell? ⟨b, 1, none⟩ = some v1 ∧ w.cell? ⟨b, 2, none⟩ = some v2 ∧ w.cell? ⟨b, 3, none⟩ = some v3 ∧ w.cell? ⟨b, 4, none⟩ = some v4 ∧ w.cell? ⟨b, 5, none⟩ = some v5 :=
  ⟨h 0 _ rfl, h 1 _ rfl, h 2 _ rfl, h 3 _ rfl, h 4 _ rfl, h 5 _ rfl⟩
theorem grown_set1 (w : World) (b o : Nat) (u : Value) : w.grownBy (w.setCell ⟨b, o, none⟩ u) (some b) := ⟨rfl, rfl, rfl, by simp, fun i _ hi => heap_setCell_other w ⟨b, o, none⟩ i u (fun e => hi (by rw [e]))⟩
theorem grown_sets {b : Nat} : ∀ (vs : List Value) (o : Nat) (w : World), w.grownBy (w.setCells b o vs) (some b)
  | [], _, _ => ⟨rfl, rfl, rfl, Nat.le_refl _, fun _ _ _ => rfl⟩
  | v :: r, o, w => (grown_set1 w b o v).trans (grown_sets r (o + 1) _)
/-- What is known behind a store of a whole variable. -/
structure Put (w w' : World) (b : Nat) (cs : List Value) : Prop where
  var : DVar w' b cs.length
  at_ : Holds w' b cs
  keep : KeepS (fun g => g ≠ b) w w'
  below : ∀ {B : Nat} {w0 : World}, B ≤ b → Below B w0 w → Below B w0 w'
  size : w'.heap.size = w.heap.size
  frozen : ∀ b' o', w'.frozen? ⟨b', o', none⟩ = w.frozen? ⟨b', o', none⟩
  grown : w.grownBy w' (some b)
theorem wpList_put {P : Program} {ops : Array Oper} {rest : List Oper} {op : Oper} {a : Act} {w : World} {Q : Exit → Act → World → Prop} (hgd : op.guard = none) (ty : TypeId) (x y : Operand) (ho : op.op = .store ty x y)
    (b : Nat) (cs : List Value) (hx : a.eval x = .pointer (some ⟨b, 0, none⟩)) (hy : a.eval y = .agg cs.toArray) (hv : DVar w b cs.length)
    (hi : (P.info? ty).map (·.size) = some cs.length) (h1 : ∀ v ∈ cs, v.oneCell' = true)
    (h : ∀ w', Put w w' b cs → wpList P ops Q rest (a.put op.dst undef) w') : wpList P ops Q (op :: rest) a w := by
  have ht : w.there b 0 cs.length := fun j hj => by
    rw [Nat.zero_add]
    obtain ⟨u, hu⟩ := hv.c j hj
    exact ⟨by rw [hu]; rfl, hv.f j hj⟩
  refine wpList_store_mid hgd ty x y ho b 0 cs.toArray hx hy (by simpa using ht) (by simpa using hi) (all_oneCell_toArray h1) ?_
  have e : cs.toArray.toList = cs := by simp
  rw [e]
  refine h _ ⟨var_sets cs 0 hv, fun j v hj => ?_, keep_sets cs 0 w, fun hB hb => below_sets hB cs 0 hb, size_sets cs 0 w, fun b' o' => World.frozen?_setCells b cs 0 w _, grown_sets cs 0 w⟩
  have := World.rangeAt_setCells_same w b 0 cs ht j v hj
  rw [Nat.zero_add] at this
  exact this
theorem DkOut.put {S : Nat → Prop} {w w' : World} {v : Value} {D : PD} {b : Nat} {cs : List Value} (h : DkOut S w v D) (hs : ∀ g, g < w.heap.size → S g → g ≠ b) (hp : Put w w' b cs) : DkOut (fun g => g ≠ b) w' v D := (h.mono hs).keep hp.keep
theorem DkOut.ne {W w : World} {b n : Nat} {v : Value} {D : PD} (h : DkOut (fun g => g ≠ b ∨ W.heap.size ≤ g) w v D) (hV : DVar W b n) : DkOut (fun g => g ≠ b) w v D :=
  h.mono fun g _ h => h.elim id fun h => Nat.ne_of_gt (Nat.lt_of_lt_of_le hV.lt h)
theorem DkOut.apart {S : Nat → Prop} {w : World} {v : Value} {D : PD} (h : DkOut S w v D) : DkOut (fun g => g ≠ w.heap.size) w v D := h.mono fun g hg _ => Nat.ne_of_lt hg
theorem DkOut.old {S : Nat → Prop} {w : World} {v : Value} {D : PD} (h : DkOut S w v D) : DkOut (fun g => g < w.heap.size) w v D := h.mono fun g hg _ => hg
theorem DkOut.put_lt {w w' : World} {v : Value} {D : PD} {b : Nat} {cs : List Value} (h : DkOut (fun g => g < b) w v D) (hp : Put w w' b cs) : DkOut (fun g => g < b) w' v D := h.keep fun x y hx => hp.keep x y (Nat.ne_of_lt hx)
theorem DkOut.up {w : World} {b : Nat} {v : Value} {D : PD} (h : DkOut (fun g => g < b) w v D) : DkOut (fun g => g ≠ b) w v D := h.mono fun _ _ h => Nat.ne_of_lt h
theorem lit_out (w : World) (vs : List Nat) (c : Nat) (fz : Nat × Nat) (h : vs.length ≤ c) : ByOut (w.alloc (.cells (vs.map fun (n : Nat) => Value.int .u8 (n : Int)).toArray 5 fz)) (.slice (some ⟨w.heap.size, 0, none⟩) vs.length c) vs := by
  refine ⟨_, c, rfl, h, fun _ => ⟨w.heap.size, 0, rfl, fun i n hi => ?_⟩⟩
  have hh : (w.alloc (.cells (vs.map fun (n : Nat) => Value.int .u8 (n : Int)).toArray 5 fz)).heap[w.heap.size]? = some (.cells (vs.map fun (n : Nat) => Value.int .u8 (n : Int)).toArray 5 fz) := by
    generalize (vs.map fun (n : Nat) => Value.int .u8 (n : Int)).toArray = cs
    show (w.heap.push (.cells cs 5 fz))[w.heap.size]? = _
    exact Array.getElem?_push_size
  rw [cell_of_row _ _ _ _ _ _ hh]
  simp [hi]
theorem alloc_below (w : World) (o : Obj) : Below w.heap.size w (w.alloc o) := (Below.refl _ _).alloc (Nat.le_refl _) o
/-- A store of six cells, cell by cell, as a drawn region leaves it. -/
abbrev put6 (w : World) (b : Nat) (v0 v1 v2 v3 v4 v5 : Value) : World := (((((w.setCell ⟨b, 0, none⟩ v0).setCell ⟨b, 1, none⟩ v1).setCell ⟨b, 2, none⟩ v2).setCell ⟨b, 3, none⟩ v3).setCell ⟨b, 4, none⟩ v4).setCell ⟨b, 5, none⟩ v5
theorem put6_of {w : World} {b : Nat} {v0 v1 v2 v3 v4 v5 : Value} (hv : DVar w b 6) : Put w (put6 w b v0 v1 v2 v3 v4 v5) b [v0, v1, v2, v3, v4, v5] := by
  have ht : w.there b 0 6 := fun j hj => by
    rw [Nat.zero_add]
    obtain ⟨u, hu⟩ := hv.c j hj
    exact ⟨by rw [hu]; rfl, hv.f j hj⟩
  have e : put6 w b v0 v1 v2 v3 v4 v5 = w.setCells b 0 [v0, v1, v2, v3, v4, v5] := rfl
  rw [e]
  refine ⟨var_sets _ 0 hv, fun j v hj => ?_, keep_sets _ 0 w, fun hB hb => below_sets hB _ 0 hb, size_sets _ 0 w, fun b' o' => World.frozen?_setCells b _ 0 w _, grown_sets _ 0 w⟩
  have := World.rangeAt_setCells_same w b 0 [v0, v1, v2, v3, v4, v5] ht j v hj
  rw [Nat.zero_add] at this
  exact this
theorem keep6 {w : World} {b : Nat} {v0 v1 v2 v3 v4 v5 : Value} : KeepS (fun g => g ≠ b) w (put6 w b v0 v1 v2 v3 v4 v5) := keep_sets [v0, v1, v2, v3, v4, v5] 0 w
/-- A goal's world as a letter. -/
theorem gen_last {G : World → Prop} {W : World} (F : World → Prop) (hF : F W) (h : ∀ y, F y → G y) : G W := h W hF
theorem keeps_lit (w : World) (a b : Int) (t : TypeId) : KsOut (w.alloc (.cells #[.int .i64 a, .int .i64 b] t)) (.slice (some ⟨w.heap.size, 0, none⟩) 1 1) [(a, b)] := by
  have hh : (w.alloc (.cells #[.int .i64 a, .int .i64 b] t)).heap[w.heap.size]? = some (.cells #[.int .i64 a, .int .i64 b] t) := by
    show (w.heap.push _)[w.heap.size]? = _
    exact Array.getElem?_push_size
  refine ⟨_, 1, rfl, Nat.le_refl _, fun _ => ⟨w.heap.size, 0, rfl, trivial, fun k hk => ?_⟩⟩
  obtain rfl : k = 0 := by simp at hk; exact hk
  refine ⟨(a, b), rfl, ?_, ?_⟩
  · rw [cell_of_row _ _ _ _ _ _ hh]; rfl
  · rw [cell_of_row _ _ _ _ _ _ hh]; rfl
end Go.Proofs.Ytmkjjcogheidmaa
