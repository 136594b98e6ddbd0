/-
  Contracts of the document's own functions of layer 9: class.
-/
import Derived.Test.YtodigfdhhndboaaNdlRA
import Derived.Deep.QuietTactic
import Derived.BigQuiet
import Derived.BigRegion
import Derived.Deep.Cut
set_option linter.unusedSimpArgs false
set_option linter.unusedVariables false
namespace Go.Proofs.Ytodigfdhhndboaa.NR
open Go.RowKit
theorem bools_info : (Try.prog.info? 58).map (fun i => i.zero) = some (some (.agg (Array.replicate 256 (.bool false)))) := by kernel_rfl
theorem zero256 : ∃ zs : Array Value, (∀ W : World, Sem.run Try.prog (zeroValue 58) W = .ok (.agg zs) W) ∧ zs.size = 256 ∧ ¬ zs = #[] ∧ ∀ j, j < 256 → zs[j]? = some (.bool false) := by
  have h := bools_info
  cases hi : Try.prog.info? 58 with
  | none => rw [hi] at h; cases h
  | some i =>
    rw [hi] at h
    have hz : i.zero = some (.agg (Array.replicate 256 (.bool false))) := Option.some.inj h
    refine ⟨Array.replicate 256 (.bool false), fun W => ?_, Array.size_replicate, fun e => ?_, fun j hj => ?_⟩
    · simp [zeroValue, typeInfo, hi, hz]
    · have := congrArg Array.size e
      rw [Array.size_replicate] at this
      cases this
    · rw [Array.getElem?_replicate, if_pos hj]
theorem bs_at {p : ByteArray} {q : Nat} (h : q < p.size) : ∃ a, (bs p).drop q = a :: (bs p).drop (q + 1) ∧ (p[q]'h).toNat = a ∧ a < 256 := by
  have h2 : q < (bs p).length := by rw [bs_length]; exact h
  have e := at_byte h
  have hb := byte_le p q
  have e2 : byteAt (bs p) q = (bs p)[q] := by
    unfold byteAt
    rw [List.getD_eq_getElem?_getD, List.getElem?_eq_getElem h2]
    rfl
  refine ⟨(bs p)[q], List.drop_eq_getElem_cons h2, by rw [e, e2], by omega⟩
theorem drop_end {p : ByteArray} : (bs p).drop p.size = [] := List.drop_eq_nil_of_le (by rw [bs_length]; exact Nat.le_refl _)
theorem drop_getD (p : ByteArray) (q j : Nat) : ((bs p).drop q).getD j 0 = byteAt (bs p) (q + j) := by
  unfold byteAt
  rw [List.getD_eq_getElem?_getD, List.getD_eq_getElem?_getD, List.getElem?_drop]
def strPos : Value → Int := intOf
theorem two_more {p : ByteArray} {q : Nat} {a : Nat} : ndMemb a ((bs p).drop (q + 1)) = if q + 2 < p.size ∧ byteAt (bs p) (q + 1) = 45 ∧ byteAt (bs p) (q + 2) ≠ 93 then (a, byteAt (bs p) (q + 2), (bs p).drop (q + 3)) else (a, a, (bs p).drop (q + 1)) := by
  unfold ndMemb
  rw [drop_getD, drop_getD, List.length_drop, bs_length, List.drop_drop]
  have e : (2 ≤ p.size - (q + 1)) ↔ q + 2 < p.size := by omega
  by_cases h : q + 2 < p.size ∧ byteAt (bs p) (q + 1) = 45 ∧ byteAt (bs p) (q + 2) ≠ 93
  · rw [if_pos h, if_pos ⟨e.2 h.1, h.2.1, h.2.2⟩]
  · rw [if_neg h, if_neg (fun x => h ⟨e.1 x.1, x.2.1, x.2.2⟩)]
/-- The 256 marks. -/
def Marks (w : World) (g : Nat) (f : Nat → Bool) : Prop := ∀ j, j < 256 → w.cell? ⟨g, j, none⟩ = some (.bool (f j))
theorem Marks.first {w : World} {zs : Array Value} {t : TypeId} (hz : ∀ j, j < 256 → zs[j]? = some (.bool false)) : Marks (w.alloc (.cells zs t)) w.heap.size (ndIn []) := fun j hj => by
  have hh : (w.alloc (.cells zs t)).heap[w.heap.size]? = some (.cells zs t) := by
    show (w.heap.push (.cells zs t))[w.heap.size]? = _
    exact Array.getElem?_push_size
  rw [cell_of_row _ _ _ _ _ _ hh]
  exact hz j hj
theorem Marks.set {w : World} {g b : Nat} {f h : Nat → Bool} (hm : Marks w g f) (hb : b < 256) (hf : ∀ j, j < 256 → h j = if j = b then true else f j) : Marks (w.setCell ⟨g, b, none⟩ (.bool true)) g h := fun j hj => by
  rw [hf j hj]
  by_cases e : j = b
  · subst e
    rw [if_pos rfl]
    exact World.cell?_setCell_same w _ _ (hm j hj)
  · rw [if_neg e]
    exact (World.cell?_setCell_other w _ _ _ (by intro e2; simp only [Addr.mk.injEq] at e2; omega)).trans (hm j hj)
theorem Marks.drew {w : World} {g : Nat} {f : Nat → Bool} (h : Marks w g f) : Marks w.drew g f := h
theorem Marks.drewN {w : World} {g n : Nat} {f : Nat → Bool} (h : Marks w g f) : Marks (w.drewN n) g f := h
theorem Marks.low {w w' : World} {g B : Nat} {f : Nat → Bool} (h : Marks w g f) (hb : Below B w w') (hg : g < B) : Marks w' g f := fun j hj => (hb.cell (p := ⟨g, j, none⟩) hg).trans (h j hj)
theorem DVar.drewN {w : World} {b n m : Nat} (h : DVar w b n) : DVar (w.drewN m) b n := ⟨h.lt, h.c, h.f⟩
theorem below_drewN {B : Nat} {w0 w : World} (h : Below B w0 w) (m : Nat) : Below B w0 (w.drewN m) := ⟨h.os, h.tape, h.output, h.size, h.block⟩
theorem ClsI.empty {l r : List Nat} (h : ndMem ((cutB 94 l).length + 1) (cutB 94 l) = some ([], r)) (a0 a1 a2 a3 : Nat) (r2 : List Nat) : ClsI l a0 a1 a2 a3 r2 false := by
  unfold ClsI
  rw [ndClass_is, h]
  rfl
theorem Wd.skip {f : Nat → Bool} {b a0 a1 a2 a3 : Nat} (h : Wd (fun x => f x && decide (x < b)) a0 a1 a2 a3) (hf : f b = false) : Wd (fun x => f x && decide (x < b + 1)) a0 a1 a2 a3 := h.congr fun x _ => by
  show (f x && decide (x < b)) = (f x && decide (x < b + 1))
  by_cases e : x = b
  · rw [e, hf]; rfl
  · congr 1
    rw [decide_eq_decide]; omega
theorem Wd.take {f : Nat → Bool} {b a0 a1 a2 a3 : Nat} (h : Wd (fun x => f x && decide (x < b)) a0 a1 a2 a3) (hf : f b = true) : Wd (fun x => f x && decide (x < b + 1)) (if b / 64 = 0 then a0 ||| 2 ^ (b % 64) else a0) (if b / 64 = 1 then a1 ||| 2 ^ (b % 64) else a1) (if b / 64 = 2 then a2 ||| 2 ^ (b % 64) else a2) (if b / 64 = 3 then a3 ||| 2 ^ (b % 64) else a3) := (h.put (b := b)).congr fun x _ => by
  show ((f x && decide (x < b)) || decide (x = b)) = (f x && decide (x < b + 1))
  by_cases e : x = b
  · subst e; rw [hf]; simp
  · rw [decide_eq_false e, Bool.or_false]
    congr 1
    rw [decide_eq_decide]; omega
end Go.Proofs.Ytodigfdhhndboaa.NR
