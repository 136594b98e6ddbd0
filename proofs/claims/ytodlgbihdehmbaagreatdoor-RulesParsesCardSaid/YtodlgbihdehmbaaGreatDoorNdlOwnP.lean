/-
  Rows of items of a call's own (layer 9).
-/
import Derived.Test.YtodlgbihdehmbaaGreatDoorNdlRowP
import Derived.Test.YtodlgbihdehmbaaGreatDoorNdlRunP
import Derived.Test.YtodlgbihdehmbaaGreatDoorMemRowP
import Derived.WalkKit
set_option linter.unusedSimpArgs false
set_option linter.unusedVariables false
namespace Go.Proofs.YtodlgbihdehmbaaGreatDoor.Nd
open Go.RowKit
theorem items_info : (Tryz.prog.info? 103).map (fun i => (i.zero, i.size, i.bytes)) = some (some (.agg #[.int .u64 0, .int .u64 0, .int .u64 0, .int .u64 0, .bool false]), 5, 40) := by kernel_rfl
def itsC (l : List NI) : List Value := l.flatMap itC
theorem itsC_at : ∀ (l : List NI) (k : Nat) (x : NI) (j : Nat) (u : Value), l[k]? = some x → (itC x)[j]? = some u → (itsC l)[k * 5 + j]? = some u
  | [], k, x, j, u, h, _ => by simp at h
  | y :: l, 0, x, j, u, h, hj => by
    obtain rfl : y = x := by simpa using h
    unfold itsC
    rw [List.flatMap_cons, Nat.zero_mul, Nat.zero_add, List.getElem?_append_left (List.getElem?_eq_some_iff.1 hj).1]
    exact hj
  | y :: l, k + 1, x, j, u, h, hj => by
    have ih := itsC_at l k x j u (by simpa using h) hj
    unfold itsC at ih ⊢
    have e : (itC y).length = 5 := rfl
    rw [List.flatMap_cons, List.getElem?_append_right (by rw [e]; omega), e, show (k + 1) * 5 + j - 5 = k * 5 + j from by omega]
    exact ih
/-- A row of items of the call's own. -/
def ItNew (B : Nat) (w : World) (v : Value) (l : List NI) : Prop := w.ownsRow B 103 5 v l.length (itsC l)
theorem ItNew.nil (B : Nat) (w : World) : ItNew B w (.slice none 0 0) [] := ⟨rfl, .inl ⟨rfl, rfl⟩⟩
theorem ItNew.below {B : Nat} {w w' : World} {v : Value} {l : List NI} (h : ItNew B w v l) (hb : Below w.heap.size w w') : ItNew B w' v l := by
  refine ⟨h.1, ?_⟩
  rcases h.2 with ⟨rfl, h0⟩ | ⟨g, cap, cur, rfl, hg, hh, hr⟩
  · exact Or.inl ⟨rfl, h0⟩
  · exact Or.inr ⟨g, cap, cur, rfl, hg, (hb.block g (Array.getElem?_eq_some_iff.1 hh).1).trans hh, hr⟩
theorem ItNew.kept {B b : Nat} {w w' : World} {v : Value} {l : List NI} (h : ItNew B w v l) (hg : w.grownBy w' (some b)) (hb : b < B) : ItNew B w' v l := by
  refine ⟨h.1, ?_⟩
  rcases h.2 with ⟨rfl, h0⟩ | ⟨g, cap, cur, rfl, hg', hh, hr⟩
  · exact Or.inl ⟨rfl, h0⟩
  · exact Or.inr ⟨g, cap, cur, rfl, hg', (hg.block g (Array.getElem?_eq_some_iff.1 hh).1 (fun e => by injection e with e; omega)).trans hh, hr⟩
theorem ItNew.push {B : Nat} {w : World} {v : Value} {l : List NI} {i : NI} (h : w.ownsRow B 103 5 v (l.length + 1) (itsC l ++ itC i)) : ItNew B w v (l ++ [i]) := by
  unfold ItNew itsC
  rw [List.length_append, List.length_singleton, List.flatMap_append, List.flatMap_cons, List.flatMap_nil, List.append_nil]
  exact h
theorem ItNew.out {B : Nat} {w : World} {v : Value} {l : List NI} (h : ItNew B w v l) : ItOut w v l := by
  rcases h.2 with ⟨rfl, h0⟩ | ⟨g, cap, cur, rfl, hb, hh, hle, _, _, ht⟩
  · exact ⟨none, 0, by rw [h0], by omega, fun hn => absurd (List.eq_nil_of_length_eq_zero h0) hn⟩
  · refine ⟨_, cap, rfl, hle, fun _ => ⟨g, 0, rfl, fun k r hk j u hj => ?_⟩⟩
    have hlt : k < l.length := (List.getElem?_eq_some_iff.1 hk).1
    have hj5 : j < 5 := (List.getElem?_eq_some_iff.1 hj).1
    have e1 := itsC_at l k r j u hk hj
    rw [Nat.zero_add]
    refine (cell_of_row w g (k * 5 + j) cur _ (0, 0) hh).trans ?_
    have h5 : (cur.toList.take (l.length * 5))[k * 5 + j]? = some u := by rw [ht]; exact e1
    rw [List.getElem?_take, if_pos (by omega)] at h5
    simpa using h5
theorem it_one (i : NI) : ∀ u ∈ itC i, u.oneCell' = true := by
  intro u hu
  unfold itC at hu
  simp only [List.mem_cons, List.not_mem_nil, or_false] at hu
  rcases hu with rfl | rfl | rfl | rfl | rfl <;> rfl
end Go.Proofs.YtodlgbihdehmbaaGreatDoor.Nd
