/-
  Contracts of the document's own functions of layer 9: Found, what its walk wants.
-/
import Derived.Test.YtodigfdhhndboaaNdlRef
import Derived.Test.YtodigfdhhndboaaNdlRA
import Derived.Test.YtodigfdhhndboaaNdlPlc
import Derived.Deep.QuietTactic
import Derived.BigQuiet
import Derived.BigRegion
import Derived.Deep.RegionWith
import Derived.Deep.RegionHeld3
import Derived.Deep.Cut
import Derived.Deep.CutRange
import Derived.Deep.CutBlock
set_option linter.unusedSimpArgs false
set_option linter.unusedVariables false
namespace Go.Proofs.Ytodigfdhhndboaa.NR
open Go.RowKit
theorem bool_info : (Try.prog.info? 4).map (fun i => (i.zero, i.size, i.bytes)) = some (some (.bool false), 1, 1) := by kernel_rfl
/-- A row of truths in a block. -/
structure BRow (w : World) (g n : Nat) (f : Nat → Bool) : Prop where
  lt : g < w.heap.size
  c : ∀ j, j < n → w.cell? ⟨g, j, none⟩ = some (.bool (f j))
  fz : ∀ j, j < n → w.frozen? ⟨g, j, none⟩ = false
theorem BRow.low {B g n : Nat} {w w' : World} {f : Nat → Bool} (h : BRow w g n f) (hb : Below B w w') (hg : g < B) : BRow w' g n f :=
  ⟨Nat.lt_of_lt_of_le h.lt hb.size, fun j hj => (hb.cell (p := ⟨g, j, none⟩) hg).trans (h.c j hj), fun j hj => (hb.frozen (p := ⟨g, j, none⟩) hg).trans (h.fz j hj)⟩
theorem BRow.below {g n : Nat} {w w' : World} {f : Nat → Bool} (h : BRow w g n f) (hb : Below w.heap.size w w') : BRow w' g n f := h.low hb h.lt
theorem BRow.made {w w' : World} {n : Nat} (h : w'.ownsRow 0 4 1 (.slice (some ⟨w.heap.size, 0, none⟩) n n) n (madeCells (Value.bool false).cells (n * 1)).toList) (hn : 0 < n) : BRow w' w.heap.size n (fun _ => false) := by
  refine ⟨(World.ownsRow.lt h _ rfl).2, fun j hj => ?_, fun j hj => h.frozenAt j⟩
  rw [h.cellAt j (by omega)]
  rw [Nat.mul_one]
  have e : (Value.bool false).cells = #[.bool false] := rfl
  rw [e]
  unfold madeCells
  simp [hj, Nat.mod_one]
theorem BRow.set {w : World} {g n k : Nat} {f h : Nat → Bool} {x : Bool} (hr : BRow w g n f) (hk : k < n) (hf : ∀ j, j < n → h j = if j = k then x else f j) : BRow (w.setCell ⟨g, k, none⟩ (.bool x)) g n h := by
  refine ⟨by simp; exact hr.lt, fun j hj => ?_, fun j hj => by rw [World.frozen?_setCell]; exact hr.fz j hj⟩
  rw [hf j hj]
  by_cases e : j = k
  · subst e
    rw [if_pos rfl]
    exact World.cell?_setCell_same w _ _ (hr.c j hj)
  · rw [if_neg e]
    exact (World.cell?_setCell_other w _ _ _ (by intro e2; simp only [Addr.mk.injEq] at e2; omega)).trans (hr.c j hj)
theorem BRow.other {w : World} {g n b o : Nat} {f : Nat → Bool} {u : Value} (hr : BRow w g n f) (hne : ¬ b = g) : BRow (w.setCell ⟨b, o, none⟩ u) g n f := by
  refine ⟨by simp; exact hr.lt, fun j hj => ?_, fun j hj => by rw [World.frozen?_setCell]; exact hr.fz j hj⟩
  exact (World.cell?_setCell_other w _ _ _ (by intro e2; simp only [Addr.mk.injEq] at e2; exact hne e2.1)).trans (hr.c j hj)
theorem BRow.drew {w : World} {g n : Nat} {f : Nat → Bool} (h : BRow w g n f) : BRow w.drew g n f := ⟨h.lt, h.c, h.fz⟩
theorem BRow.congr {w : World} {g n : Nat} {f h : Nat → Bool} (hr : BRow w g n f) (he : ∀ j, j < n → f j = h j) : BRow w g n h := ⟨hr.lt, fun j hj => by rw [← he j hj]; exact hr.c j hj, hr.fz⟩
theorem bs_get {s : ByteArray} {k : Nat} (h : k < s.size) : ∃ c, (bs s).getD k 0 = c ∧ (s[k]'h).toNat = c ∧ c < 256 := ⟨_, rfl, at_byte h, by have := byte_le s k; unfold byteAt at this; omega⟩
/-- The needle's cells stand, its items lie below. -/
structure RfW (w : World) (st fin : Bool) (u : Value) (is : List NI) (wr : World) : Prop where
  low : Below w.heap.size w wr
  size : w.heap.size < wr.heap.size
  b0 : wr.cell? ⟨w.heap.size, 0, none⟩ = some (.bool st)
  b1 : wr.cell? ⟨w.heap.size, 1, none⟩ = some (.bool fin)
  b2 : wr.cell? ⟨w.heap.size, 2, none⟩ = some u
  it : ItLow (w.heap.size + 1) wr u is
theorem RfW.next {w : World} {st fin : Bool} {u : Value} {is : List NI} {wr w' : World} (h : RfW w st fin u is wr) (hb : Below (w.heap.size + 1) wr w') : RfW w st fin u is w' :=
  ⟨h.low.trans (hb.mono (Nat.le_succ _)), Nat.lt_of_lt_of_le h.size hb.size, (hb.cell (p := ⟨_, _, _⟩) (Nat.lt_succ_self _)).trans h.b0, (hb.cell (p := ⟨_, _, _⟩) (Nat.lt_succ_self _)).trans h.b1, (hb.cell (p := ⟨_, _, _⟩) (Nat.lt_succ_self _)).trans h.b2, h.it.below hb⟩
theorem itLow_mono {B B' : Nat} {w : World} {v : Value} {l : List NI} (h : ItLow B w v l) (hB : B ≤ B') : ItLow B' w v l := by
  obtain ⟨A, cap, hv, hc, hx⟩ := h
  refine ⟨A, cap, hv, hc, fun hn => ?_⟩
  obtain ⟨b, off, hA, hlt, hf⟩ := hx hn
  exact ⟨b, off, hA, by omega, hf⟩
theorem RfW.first {w : World} {st fin : Bool} {u : Value} {is : List NI} (hu : ItOut w u is) (T : TypeId) : RfW w st fin u is (w.alloc (.cells #[.bool st, .bool fin, u] T)) := by
  have hb : Below w.heap.size w (w.alloc (.cells #[.bool st, .bool fin, u] T)) := (Below.refl _ _).alloc (Nat.le_refl _) _
  exact ⟨hb, by simp, by simp, by simp, by simp, itLow_mono ((hu.low (Nat.le_refl _)).below hb) (Nat.le_succ _)⟩
theorem RfW.set {w : World} {st fin : Bool} {u : Value} {is : List NI} {wr : World} (h : RfW w st fin u is wr) {g o : Nat} {x : Value} (hg : w.heap.size < g) : RfW w st fin u is (wr.setCell ⟨g, o, none⟩ x) := h.next ((Below.refl _ wr).setCell (p := ⟨_, _, _⟩) hg x)
theorem RfW.drew {w : World} {st fin : Bool} {u : Value} {is : List NI} {wr : World} (h : RfW w st fin u is wr) : RfW w st fin u is wr.drew := ⟨h.low.drew, h.size, h.b0, h.b1, h.b2, h.it⟩
theorem below_none {w w' : World} (h : w.grownBy w' none) : Below w.heap.size w w' := ⟨h.os, h.tape, h.output, h.size, fun k hk => h.block k hk (by simp)⟩
theorem cell_off {w : World} {b o b2 o2 : Nat} {x u : Value} (hn : ¬ (b2 = b ∧ o2 = o)) (h : w.cell? ⟨b2, o2, none⟩ = some u) : (w.setCell ⟨b, o, none⟩ x).cell? ⟨b2, o2, none⟩ = some u :=
  (World.cell?_setCell_other w _ _ _ (by intro e; simp only [Addr.mk.injEq] at e; exact hn ⟨e.1.symm, e.2.1.symm⟩)).trans h
theorem V_zero_star {t : List Nat} {st : Bool} {is : List NI} {i : Nat} {it : NI} (h : is.getD i NI.zero = it) : ndV t st is (i + 1) 0 = (it.star && ndV t st is i 0) := by rw [← h]; rfl
theorem V_star_k {t : List Nat} {st : Bool} {is : List NI} {i k c : Nat} {it : NI} (h : is.getD i NI.zero = it) (hs : it.star = true) (hc : t.getD k 0 = c) : ndV t st is (i + 1) (k + 1) = (ndV t st is i (k + 1) || (ndV t st is (i + 1) k && ndFits it c)) := by
  rw [V_succ, h, if_pos hs, hc]
theorem V_plain_k {t : List Nat} {st : Bool} {is : List NI} {i k c : Nat} {it : NI} (h : is.getD i NI.zero = it) (hs : it.star = false) (hc : t.getD k 0 = c) : ndV t st is (i + 1) (k + 1) = (ndV t st is i k && ndFits it c) := by
  rw [V_succ, h, if_neg (by rw [hs]; decide), hc]
theorem item_form (i : NI) : ∃ s0 s1 s2 s3 st, i = ⟨s0, s1, s2, s3, st⟩ := ⟨i.s0, i.s1, i.s2, i.s3, i.star, rfl⟩
/-- A row of which the places below k are made. -/
theorem BRow.step {w : World} {g n k : Nat} {f : Nat → Bool} {x : Bool} (hr : BRow w g n (fun j => if j < k then f j else false)) (hk : k < n) (hx : f k = x) : BRow (w.setCell ⟨g, k, none⟩ (.bool x)) g n (fun j => if j < k + 1 then f j else false) := hr.set hk fun j hj => by
  show (if j < k + 1 then f j else false) = if j = k then x else if j < k then f j else false
  by_cases e : j = k
  · subst e
    rw [if_pos rfl, if_pos (Nat.lt_succ_self _), hx]
  · rw [if_neg e]
    by_cases e2 : j < k
    · rw [if_pos e2, if_pos (by omega)]
    · rw [if_neg e2, if_neg (by omega)]
end Go.Proofs.Ytodigfdhhndboaa.NR
