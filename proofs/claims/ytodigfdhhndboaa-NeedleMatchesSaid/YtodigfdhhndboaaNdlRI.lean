/-
  Contracts of the document's own functions of layer 9: Compile, what its walk wants.
-/
import Derived.Test.YtodigfdhhndboaaNdlRC
import Derived.Test.YtodigfdhhndboaaNdlOwn
import Derived.Deep.CutRange
import Derived.Deep.CutBlock
set_option linter.unusedSimpArgs false
set_option linter.unusedVariables false
namespace Go.Proofs.Ytodigfdhhndboaa.NR
open Go.RowKit
theorem own_slice {B : Nat} {w : World} {e : TypeId} {sz n : Nat} {v : Value} {us : List Value} (h : w.ownsRow B e sz v n us) : ∃ A c, v = .slice A n c := by
  rcases h.2 with ⟨rfl, h0⟩ | ⟨g, cap, cur, rfl, _⟩
  · exact ⟨none, 0, by rw [h0]⟩
  · exact ⟨_, cap, rfl⟩
theorem ownsRow_next {B : Nat} {w w' : World} {e : TypeId} {sz n : Nat} {v : Value} {us : List Value} (h : w.ownsRow B e sz v n us) (hb : Below w.heap.size w w') : w'.ownsRow B e sz v n us := by
  refine ⟨h.1, ?_⟩
  rcases h.2 with ⟨rfl, h0⟩ | ⟨g, cap, cur, rfl, hg, hh, hr⟩
  · exact Or.inl ⟨rfl, h0⟩
  · exact Or.inr ⟨g, cap, cur, rfl, hg, (hb.block g (Array.getElem?_eq_some_iff.1 hh).1).trans hh, hr⟩
theorem dvar_low {B b n : Nat} {w w' : World} (hb : Below B w w') (hlt : b < B) (h : DVar w b n) : DVar w' b n :=
  ⟨Nat.lt_of_lt_of_le h.lt hb.size, fun i hi => by obtain ⟨u, hu⟩ := h.c i hi; exact ⟨u, (hb.cell (p := ⟨b, i, none⟩) hlt).trans hu⟩, fun i hi => (hb.frozen (p := ⟨b, i, none⟩) hlt).trans (h.f i hi)⟩
theorem cell_low {B b o : Nat} {w w' : World} {u : Value} (hb : Below B w w') (hlt : b < B) (h : w.cell? ⟨b, o, none⟩ = some u) : w'.cell? ⟨b, o, none⟩ = some u := (hb.cell (p := ⟨b, o, none⟩) hlt).trans h
theorem itm_none {l : List Nat} {a : Nat} {m : List Nat} {L : List NI} (h : ItmI l (a :: m) L) (hm : ¬ (a = 36 ∧ m = [])) (hn : ndAt (a :: m) = none) : ndItems (l.length + 1) l = none :=
  ItmI.fail (i := NI.zero) (r := []) h hm (by unfold ItI; rw [hn])
theorem set_one (b : Nat) : NI.set (ndOne b).s0 (ndOne b).s1 (ndOne b).s2 (ndOne b).s3 = ndOne b := rfl
theorem one_lt {b : Nat} (hb : b < 256) : (ndOne b).s0 < 18446744073709551616 ∧ (ndOne b).s1 < 18446744073709551616 ∧ (ndOne b).s2 < 18446744073709551616 ∧ (ndOne b).s3 < 18446744073709551616 := by
  have h : 2 ^ (b % 64) ≤ 2 ^ 63 := Nat.pow_le_pow_right (by decide) (by omega)
  unfold ndOne
  generalize 2 ^ (b % 64) = x at *
  refine ⟨?_, ?_, ?_, ?_⟩ <;> (show ite _ _ _ < _) <;> split <;> omega
theorem cls_at {l r : List Nat} {a0 a1 a2 a3 : Nat} (h : ClsI l a0 a1 a2 a3 r true) : ndAt (91 :: l) = some (NI.set a0 a1 a2 a3, r) := by
  rw [ndAt_cls]
  unfold ClsI at h
  cases hc : ndClass l with
  | none => rw [hc] at h; have h2 : true = false := h; cases h2
  | some x =>
    obtain ⟨i, r'⟩ := x
    rw [hc] at h
    obtain ⟨_, h2, h3⟩ := h
    rw [h2, h3]
theorem cls_no {l r : List Nat} {a0 a1 a2 a3 : Nat} (h : ClsI l a0 a1 a2 a3 r false) : ndAt (91 :: l) = none := by
  rw [ndAt_cls]
  unfold ClsI at h
  cases hc : ndClass l with
  | none => rfl
  | some x =>
    obtain ⟨i, r'⟩ := x
    rw [hc] at h
    exact absurd h.1 (by decide)
/-- What Compile's loop keeps. -/
structure CmpI (w : World) (p : ByteArray) (q n : Nat) (vr : Value) (L : List NI) (wr : World) : Prop where
  new : ItNew (w.heap.size + 2) wr vr L
  len : L.length = n
  itm : ItmI (cutB 94 (bs p)) ((bs p).drop q) L
  ok : ∀ i ∈ L, i.ok
  d0 : DVar wr w.heap.size 3
  d1 : DVar wr (w.heap.size + 1) 3
  low : Below w.heap.size w wr
  size : w.heap.size + 2 ≤ wr.heap.size
theorem item_star {l : List Nat} {a0 a1 a2 a3 : Nat} {r : List Nat} (h : ndAt l = some (NI.set a0 a1 a2 a3, r)) {st : Bool} (hs : (r.getD 0 0 == 42) = st) {r2 : List Nat} (hr : cutB 42 r = r2) : ItI l ⟨a0, a1, a2, a3, st⟩ r2 true := by
  unfold ItI
  rw [h]
  exact ⟨rfl, by rw [hs]; rfl, hr.symm⟩
/-- Behind an item that is put onto the row. -/
theorem CmpI.next {w : World} {p : ByteArray} {q n q3 : Nat} {vr v3 : Value} {L : List NI} {wo w3 : World} {a : Nat} {i : NI} (h : CmpI w p q n vr L wo) (hd : (bs p).drop q = a :: (bs p).drop (q + 1)) (hi : ItI (a :: (bs p).drop (q + 1)) i ((bs p).drop q3) true) (hio : i.ok)
    (hown : w3.ownsRow (w.heap.size + 2) 25 5 v3 (n + 1) (itsC L ++ itC i)) {b : Nat} (hb : Below (w.heap.size + 2) wo w3) {u : Value} : CmpI w p q3 (n + 1) v3 (L ++ [i]) (w3.setCell ⟨w.heap.size + 1, b, none⟩ u) := by
  have hm := h.itm
  rw [hd] at hm
  have hown2 : ItNew (w.heap.size + 2) w3 v3 (L ++ [i]) := ItNew.push (by rw [h.len]; exact hown)
  refine ⟨hown2.kept (grown_set1 w3 (w.heap.size + 1) b u) (by omega), by rw [List.length_append, h.len]; rfl, (ItmI.next hm hi).1, fun x hx => ?_, (dvar_low hb (by omega) h.d0).set u, (dvar_low hb (by omega) h.d1).set u, (h.low.trans (hb.mono (by omega))).setCell (p := ⟨_, _, _⟩) (by simp) u, ?_⟩
  · rcases List.mem_append.1 hx with hx | hx
    · exact h.ok x hx
    · obtain rfl := List.mem_singleton.1 hx
      exact hio
  · have := hb.size
    have := h.size
    simp
    omega
end Go.Proofs.Ytodigfdhhndboaa.NR
