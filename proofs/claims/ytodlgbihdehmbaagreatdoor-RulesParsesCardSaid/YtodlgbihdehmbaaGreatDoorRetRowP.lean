/-
  Archives in memory, variables that hold one, for the contracts of layer 10.
-/
import Derived.Test.YtodlgbihdehmbaaGreatDoorRetMathP
import Derived.Test.YtodlgbihdehmbaaGreatDoorProg
import Derived.WalkKit
import Derived.WalkSmall
import Derived.Lib.Hide
import Derived.Deep.MidRow
import Derived.Deep.DeepCutAuto
import Derived.Maps.AppendAt
import Derived.Laws.OwnMore
import Derived.Laws.Strings2
import Derived.Laws.DeepStrings4
import Derived.BigQuiet
import Derived.BigRegion
set_option linter.unusedSimpArgs false
set_option linter.unusedVariables false
namespace Go.Proofs.YtodlgbihdehmbaaGreatDoor
open Go.RowKit
theorem bnext {a b c : World} (h : Below a.heap.size a b) (k : Below b.heap.size b c) : Below a.heap.size a c := h.trans (k.mono h.size)
theorem alloc_below (w : World) (o : Obj) : Below w.heap.size w (w.alloc o) := (Below.refl _ _).alloc (Nat.le_refl _) o
theorem cellb {w w' : World} (hb : Below w.heap.size w w') {b o : Nat} {u : Value} (h : w.cell? ⟨b, o, none⟩ = some u) : w'.cell? ⟨b, o, none⟩ = some u := (hb.cell (World.block_lt_of_cell? w _ h)).trans h
/-- A row of archives. -/
def RgAt (w : World) (b off : Nat) (l : List (Int × Int)) : Prop := ∀ (k : Nat) (g : Int × Int), l[k]? = some g → w.cell? ⟨b, off + k * 2, none⟩ = some (.int .i64 g.1) ∧ w.cell? ⟨b, off + k * 2 + 1, none⟩ = some (.int .i64 g.2)
def RgOut (w : World) (v : Value) (l : List (Int × Int)) : Prop := ∃ A cap, v = .slice A l.length cap ∧ l.length ≤ cap ∧ (l ≠ [] → ∃ b off, A = some ⟨b, off, none⟩ ∧ RgAt w b off l)
theorem RgAt.below {w w' : World} {b off : Nat} {l : List (Int × Int)} (h : RgAt w b off l) (hb : Below w.heap.size w w') : RgAt w' b off l := fun k g hk => ⟨cellb hb (h k g hk).1, cellb hb (h k g hk).2⟩
theorem RgOut.below {w w' : World} {v : Value} {l : List (Int × Int)} (h : RgOut w v l) (hb : Below w.heap.size w w') : RgOut w' v l := by
  obtain ⟨A, cap, hv, hc, hx⟩ := h
  refine ⟨A, cap, hv, hc, fun hn => ?_⟩
  obtain ⟨b, off, hA, hf⟩ := hx hn
  exact ⟨b, off, hA, hf.below hb⟩
theorem RgOut.nil (w : World) : RgOut w (.slice none 0 0) [] := ⟨none, 0, rfl, Nat.le_refl _, fun h => absurd rfl h⟩
/-- The cells of a row of archives. -/
def rgC (l : List (Int × Int)) : List Value := l.flatMap fun g => [.int .i64 g.1, .int .i64 g.2]
theorem rgC_app (a b : List (Int × Int)) : rgC (a ++ b) = rgC a ++ rgC b := by unfold rgC; rw [List.flatMap_append]
theorem rgC_at : ∀ (l : List (Int × Int)) (k : Nat) (g : Int × Int), l[k]? = some g → (rgC l)[k * 2]? = some (.int .i64 g.1) ∧ (rgC l)[k * 2 + 1]? = some (.int .i64 g.2)
  | [], k, g, h => by simp at h
  | x :: l, 0, g, h => by
    obtain rfl : x = g := by simpa using h
    exact ⟨rfl, rfl⟩
  | x :: l, k + 1, g, h => by
    have ih := rgC_at l k g (by simpa using h)
    have e : rgC (x :: l) = .int .i64 x.1 :: .int .i64 x.2 :: rgC l := rfl
    rw [e, show (k + 1) * 2 = k * 2 + 1 + 1 from by omega, List.getElem?_cons_succ, List.getElem?_cons_succ, show k * 2 + 1 + 1 + 1 = k * 2 + 1 + 1 + 1 from rfl, List.getElem?_cons_succ, List.getElem?_cons_succ]
    exact ih
/-- A row of archives of a call's own. -/
def RgNew (B : Nat) (w : World) (v : Value) (l : List (Int × Int)) : Prop := w.ownsRow B 49 2 v l.length (rgC l)
theorem RgNew.nil (B : Nat) (w : World) : RgNew B w (.slice none 0 0) [] := ⟨rfl, .inl ⟨rfl, rfl⟩⟩
theorem RgNew.below {B : Nat} {w w' : World} {v : Value} {l : List (Int × Int)} (h : RgNew B w v l) (hb : Below w.heap.size w w') : RgNew B w' v l := by
  refine ⟨h.1, ?_⟩
  rcases h.2 with ⟨rfl, h0⟩ | ⟨g, cap, cur, rfl, hg, hh, hr⟩
  · exact Or.inl ⟨rfl, h0⟩
  · exact Or.inr ⟨g, cap, cur, rfl, hg, (hb.block g (Array.getElem?_eq_some_iff.1 hh).1).trans hh, hr⟩
/-- Behind a turn of other blocks. -/
theorem RgNew.keep {B : Nat} {w w' : World} {v : Value} {l : List (Int × Int)} (h : RgNew B w v l) (hk : ∀ g, B ≤ g → g < w.heap.size → v.ownBlock = some g → w'.heap[g]? = w.heap[g]?) : RgNew B w' v l := by
  refine ⟨h.1, ?_⟩
  rcases h.2 with ⟨rfl, h0⟩ | ⟨g, cap, cur, rfl, hg, hh, hr⟩
  · exact Or.inl ⟨rfl, h0⟩
  · exact Or.inr ⟨g, cap, cur, rfl, hg, (hk g hg (Array.getElem?_eq_some_iff.1 hh).1 rfl).trans hh, hr⟩
theorem RgNew.out {B : Nat} {w : World} {v : Value} {l : List (Int × Int)} (h : RgNew B w v l) : RgOut w v l := by
  rcases h.2 with ⟨rfl, h0⟩ | ⟨g, cap, cur, rfl, hb, hh, hle, _, _, ht⟩
  · exact ⟨none, 0, by rw [h0], by omega, fun hn => absurd (List.eq_nil_of_length_eq_zero h0) hn⟩
  · refine ⟨_, cap, rfl, hle, fun _ => ⟨g, 0, rfl, fun k x hk => ?_⟩⟩
    have hlt : k < l.length := (List.getElem?_eq_some_iff.1 hk).1
    obtain ⟨e1, e2⟩ := rgC_at l k x hk
    have key : ∀ (j : Nat) (u : Value), j < l.length * 2 → (rgC l)[j]? = some u → w.cell? ⟨g, 0 + j, none⟩ = some u := fun j u hj hu => by
      rw [Nat.zero_add]
      refine (cell_of_row w g j cur _ (0, 0) hh).trans ?_
      have h5 : (cur.toList.take (l.length * 2))[j]? = some u := by rw [ht]; exact hu
      rw [List.getElem?_take, if_pos hj] at h5
      simpa using h5
    exact ⟨by have := key (k * 2) _ (by omega) e1; simpa using this, by have := key (k * 2 + 1) _ (by omega) e2; simpa [Nat.add_assoc] using this⟩
theorem RgNew.push {B : Nat} {w : World} {v : Value} {l : List (Int × Int)} {g : Int × Int} (h : w.ownsRow B 49 2 v (l.length + 1) (rgC l ++ [.int .i64 g.1, .int .i64 g.2])) : RgNew B w v (l ++ [g]) := by
  unfold RgNew
  rw [rgC_app, List.length_append, List.length_singleton]
  exact h
theorem RgNew.mono {B B' : Nat} {w : World} {v : Value} {l : List (Int × Int)} (h : RgNew B' w v l) (hB : B ≤ B') : RgNew B w v l := by
  refine ⟨h.1, ?_⟩
  rcases h.2 with h0 | ⟨g, cap, cur, hv, hg, hr⟩
  · exact Or.inl h0
  · exact Or.inr ⟨g, cap, cur, hv, Nat.le_trans hB hg, hr⟩
theorem RgNew.form {B : Nat} {w : World} {v : Value} {l : List (Int × Int)} (h : RgNew B w v l) : ∃ A c, v = .slice A l.length c ∧ l.length ≤ c := by
  obtain ⟨A, c, hv, hc, _⟩ := h.out
  exact ⟨A, c, hv, hc⟩
theorem rung_info : (Tryz.prog.info? 49).map (fun i => (i.zero, i.size, i.bytes)) = some (some (.agg #[.int .i64 0, .int .i64 0]), 2, 16) := by kernel_rfl
theorem ret_str {a b : ByteArray} (h : a = b) : Ending.returned (.string a) = .returned (.string b) := by rw [h]
theorem bs_small (s : ByteArray) : ∀ c ∈ bs s, c < 256 := fun c hc => by
  unfold bs at hc
  rw [List.mem_map] at hc
  obtain ⟨b, _, rfl⟩ := hc
  exact UInt8.toNat_lt b
theorem bs_nil_iff (s : ByteArray) : s.toList.isEmpty = true ↔ bs s = [] := by
  rw [List.isEmpty_iff, ByteArray.toList_eq]; simp [bs]
theorem str_extract {l : List Nat} (i j : Nat) : (str l).extract i j = str ((l.drop i).take (j - i)) := by
  unfold str
  rw [ByteArray.extract_mk, List.map_take, List.map_drop]
end Go.Proofs.YtodlgbihdehmbaaGreatDoor
