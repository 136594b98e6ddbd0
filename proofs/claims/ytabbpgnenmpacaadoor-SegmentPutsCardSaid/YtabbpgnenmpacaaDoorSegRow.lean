/-
  Records in memory, for the contracts of layer 8.
-/
import Derived.Test.YtabbpgnenmpacaaDoorSegScan
import Derived.Test.YtabbpgnenmpacaaDoorFrmRow
import Derived.Test.YtabbpgnenmpacaaDoorByConv
set_option linter.unusedSimpArgs false
set_option linter.unusedVariables false
namespace Go.Proofs.YtabbpgnenmpacaaDoor
open Go.RowKit
theorem cellb {w w' : World} (hb : Below w.heap.size w w') {b o : Nat} {u : Value} (h : w.cell? ⟨b, o, none⟩ = some u) : w'.cell? ⟨b, o, none⟩ = some u := (hb.cell (World.block_lt_of_cell? w _ h)).trans h
/-- A row of archives. -/
def RgAt (w : World) (b off : Nat) (l : List (Int × Int)) : Prop := ∀ (k : Nat) (g : Int × Int), l[k]? = some g → w.cell? ⟨b, off + k * 2, none⟩ = some (.int .i64 g.1) ∧ w.cell? ⟨b, off + k * 2 + 1, none⟩ = some (.int .i64 g.2)
def RgOut (w : World) (v : Value) (l : List (Int × Int)) : Prop := ∃ A cap, v = .slice A l.length cap ∧ l.length ≤ cap ∧ (l ≠ [] → ∃ b off, A = some ⟨b, off, none⟩ ∧ RgAt w b off l)
theorem RgAt.below {w w' : World} {b off : Nat} {l : List (Int × Int)} (h : RgAt w b off l) (hb : Below w.heap.size w w') : RgAt w' b off l := fun k g hk => ⟨cellb hb (h k g hk).1, cellb hb (h k g hk).2⟩
theorem RgOut.below {w w' : World} {v : Value} {l : List (Int × Int)} (h : RgOut w v l) (hb : Below w.heap.size w w') : RgOut w' v l := by
  obtain ⟨A, cap, hv, hc, hx⟩ := h
  refine ⟨A, cap, hv, hc, fun hn => ?_⟩
  obtain ⟨b, off, hA, hf⟩ := hx hn
  exact ⟨b, off, hA, hf.below hb⟩
theorem RgOut.nil (w : World) : RgOut w (.slice none 0 0) [] := ⟨none, 0, rfl, Nat.le_refl _, fun h => absurd rfl h⟩
/-- The cells of a record. -/
def rcC (v : Value) (r : PR) : List Value := [.int .i64 r.kind, .string (strB r.path), .int .i64 r.method, .int .i64 r.factor, v, .int .i64 r.rung, .int .i64 r.time, .int .i64 r.now, .int .i64 r.value]
/-- A record as a value. -/
def RcOut (w : World) (v : Value) (r : PR) : Prop := ∃ u, v = .agg (rcC u r).toArray ∧ RgOut w u r.rungs
theorem RcOut.below {w w' : World} {v : Value} {r : PR} (h : RcOut w v r) (hb : Below w.heap.size w w') : RcOut w' v r := by
  obtain ⟨u, hv, h⟩ := h
  exact ⟨u, hv, h.below hb⟩
theorem RcOut.zero (w : World) : RcOut w (.agg #[.int .i64 0, .string (strB []), .int .i64 0, .int .i64 0, .slice none 0 0, .int .i64 0, .int .i64 0, .int .i64 0, .int .i64 0]) PR.zero := ⟨_, rfl, RgOut.nil w⟩
/-- A row of records in memory. -/
def RcAt (w : World) (b off : Nat) (l : List PR) : Prop := ∀ (k : Nat) (r : PR), l[k]? = some r → ∃ u, RgOut w u r.rungs ∧ ∀ (j : Nat) (x : Value), (rcC u r)[j]? = some x → w.cell? ⟨b, off + k * 9 + j, none⟩ = some x
def RsOut (w : World) (v : Value) (l : List PR) : Prop := ∃ A cap, v = .slice A l.length cap ∧ l.length ≤ cap ∧ (l ≠ [] → ∃ b off, A = some ⟨b, off, none⟩ ∧ RcAt w b off l)
theorem RcAt.below {w w' : World} {b off : Nat} {l : List PR} (h : RcAt w b off l) (hb : Below w.heap.size w w') : RcAt w' b off l := fun k r hk => by
  obtain ⟨u, hu, hc⟩ := h k r hk
  exact ⟨u, hu.below hb, fun j x hx => cellb hb (hc j x hx)⟩
theorem RsOut.below {w w' : World} {v : Value} {l : List PR} (h : RsOut w v l) (hb : Below w.heap.size w w') : RsOut w' v l := by
  obtain ⟨A, cap, hv, hc, hx⟩ := h
  refine ⟨A, cap, hv, hc, fun hn => ?_⟩
  obtain ⟨b, off, hA, hf⟩ := hx hn
  exact ⟨b, off, hA, hf.below hb⟩
theorem RsOut.nil (w : World) : RsOut w (.slice none 0 0) [] := ⟨none, 0, rfl, Nat.le_refl _, fun h => absurd rfl h⟩
theorem RsOut.take {w : World} {A : Option Addr} {n c m : Nat} {ls : List PR} (h : RsOut w (.slice A n c) ls) (hm : m ≤ n) : RsOut w (.slice A m c) (ls.take m) := by
  obtain ⟨A', c', hv, hc, hx⟩ := h
  injection hv with h1 h2 h3
  subst h1 h2 h3
  have hl : (ls.take m).length = m := by rw [List.length_take]; omega
  refine ⟨A, c, by rw [hl], by omega, fun hn => ?_⟩
  obtain ⟨b, off, hA, hf⟩ := hx (fun e => hn (by rw [e]; simp))
  refine ⟨b, off, hA, fun k l hk => hf k l ?_⟩
  rw [List.getElem?_take] at hk
  split at hk
  · exact hk
  · cases hk
/-- What lies in a variable, or in a row's place: nine cells. -/
theorem nine {w : World} {b o : Nat} {v0 v1 v2 v3 v4 v5 v6 v7 v8 : Value} (h : ∀ (j : Nat) (x : Value), [v0, v1, v2, v3, v4, v5, v6, v7, v8][j]? = some x → w.cell? ⟨b, o + j, none⟩ = some x) :
    w.cell? ⟨b, o, none⟩ = some v0 ∧ w.cell? ⟨b, o + 1, none⟩ = some v1 ∧ w.cell? ⟨b, o + 2, none⟩ = some v2 ∧ w.cell? ⟨b, o + 3, none⟩ = some v3 ∧ w.cell? ⟨b, o + 4, none⟩ = some v4 ∧ w.cell? ⟨b, o + 5, none⟩ = some v5 ∧ w.cell? ⟨b, o + 6, none⟩ = some v6 ∧ w.cell? ⟨b, o + 7, none⟩ = some v7 ∧ w.cell? ⟨b, o + 8, none⟩ = some v8 :=
  ⟨h 0 _ rfl, h 1 _ rfl, h 2 _ rfl, h 3 _ rfl, h 4 _ rfl, h 5 _ rfl, h 6 _ rfl, h 7 _ rfl, h 8 _ rfl⟩
end Go.Proofs.YtabbpgnenmpacaaDoor
