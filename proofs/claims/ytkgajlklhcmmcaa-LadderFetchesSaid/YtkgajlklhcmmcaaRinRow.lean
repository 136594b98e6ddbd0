/-
  Archives in memory, variables that hold one, for the contracts of layer 13.
-/
import Derived.Test.YtkgajlklhcmmcaaRinMath
import Derived.Test.YtkgajlklhcmmcaaProg
import Derived.Test.YtkgajlklhcmmcaaMemRow
import Derived.WalkKit
import Derived.WalkSmall
import Derived.Lib.Hide
import Derived.Deep.MidRow
import Derived.Deep.DeepCutAuto
import Derived.Deep.QuietTactic
import Derived.Deep.AppendLies
import Derived.Deep.RegionHeld3
import Derived.Maps.AppendAt
import Derived.Laws.OwnMore
import Derived.Laws.Cover1
import Derived.Lib.SliceRun
import Derived.OwnWalk
import Derived.BigQuiet
import Derived.BigRegion
set_option linter.unusedSimpArgs false
set_option linter.unusedVariables false
namespace Go.Proofs.Ytkgajlklhcmmcaa
open Go.RowKit
theorem bnext {a b c : World} (h : Below a.heap.size a b) (k : Below b.heap.size b c) : Below a.heap.size a c := h.trans (k.mono h.size)
theorem alloc_below (w : World) (o : Obj) : Below w.heap.size w (w.alloc o) := (Below.refl _ _).alloc (Nat.le_refl _) o
theorem cellb {w w' : World} (hb : Below w.heap.size w w') {b o : Nat} {u : Value} (h : w.cell? ⟨b, o, none⟩ = some u) : w'.cell? ⟨b, o, none⟩ = some u := (hb.cell (World.block_lt_of_cell? w _ h)).trans h
/-- A row of slots. -/
def RgAt (w : World) (b off : Nat) (l : List (Int × Int)) : Prop := ∀ (k : Nat) (g : Int × Int), l[k]? = some g → w.cell? ⟨b, off + k * 2, none⟩ = some (.int .i64 g.1) ∧ w.cell? ⟨b, off + k * 2 + 1, none⟩ = some (.int .i64 g.2)
def RgOut (w : World) (v : Value) (l : List (Int × Int)) : Prop := ∃ A cap, v = .slice A l.length cap ∧ l.length ≤ cap ∧ (l ≠ [] → ∃ b off, A = some ⟨b, off, none⟩ ∧ RgAt w b off l)
theorem RgAt.below {w w' : World} {b off : Nat} {l : List (Int × Int)} (h : RgAt w b off l) (hb : Below w.heap.size w w') : RgAt w' b off l := fun k g hk => ⟨cellb hb (h k g hk).1, cellb hb (h k g hk).2⟩
theorem RgOut.below {w w' : World} {v : Value} {l : List (Int × Int)} (h : RgOut w v l) (hb : Below w.heap.size w w') : RgOut w' v l := by
  obtain ⟨A, cap, hv, hc, hx⟩ := h
  refine ⟨A, cap, hv, hc, fun hn => ?_⟩
  obtain ⟨b, off, hA, hf⟩ := hx hn
  exact ⟨b, off, hA, hf.below hb⟩
theorem RgOut.nil (w : World) : RgOut w (.slice none 0 0) [] := ⟨none, 0, rfl, Nat.le_refl _, fun h => absurd rfl h⟩
/-- The cells of a row of slots. -/
def rgC (l : List (Int × Int)) : List Value := l.flatMap fun g => [.int .i64 g.1, .int .i64 g.2]
theorem rgC_app (a b : List (Int × Int)) : rgC (a ++ b) = rgC a ++ rgC b := by unfold rgC; rw [List.flatMap_append]
theorem rgC_at : ∀ (l : List (Int × Int)) (k : Nat) (g : Int × Int), l[k]? = some g → (rgC l)[k * 2]? = some (.int .i64 g.1) ∧ (rgC l)[k * 2 + 1]? = some (.int .i64 g.2)
  | [], k, g, h => by simp at h
  | x :: l, 0, g, h => by
    obtain rfl : x = g := by simpa using h
    exact ⟨rfl, rfl⟩
  | x :: l, k + 1, g, h => by
    have ih := rgC_at l k g (by simpa using h)
    have e : rgC (x :: l) = .int .i64 x.1 :: .int .i64 x.2 :: rgC l := rfl
    rw [e, show (k + 1) * 2 = k * 2 + 1 + 1 from by omega, List.getElem?_cons_succ, List.getElem?_cons_succ, show k * 2 + 1 + 1 + 1 = k * 2 + 1 + 1 + 1 from rfl, List.getElem?_cons_succ, List.getElem?_cons_succ]
    exact ih
/-- A row of slots of a call's own. -/
def RgNew (B : Nat) (w : World) (v : Value) (l : List (Int × Int)) : Prop := w.ownsRow B 50 2 v l.length (rgC l)
theorem RgNew.nil (B : Nat) (w : World) : RgNew B w (.slice none 0 0) [] := ⟨rfl, .inl ⟨rfl, rfl⟩⟩
theorem RgNew.below {B : Nat} {w w' : World} {v : Value} {l : List (Int × Int)} (h : RgNew B w v l) (hb : Below w.heap.size w w') : RgNew B w' v l := by
  refine ⟨h.1, ?_⟩
  rcases h.2 with ⟨rfl, h0⟩ | ⟨g, cap, cur, rfl, hg, hh, hr⟩
  · exact Or.inl ⟨rfl, h0⟩
  · exact Or.inr ⟨g, cap, cur, rfl, hg, (hb.block g (Array.getElem?_eq_some_iff.1 hh).1).trans hh, hr⟩
/-- Behind a turn of other blocks. -/
theorem RgNew.keep {B : Nat} {w w' : World} {v : Value} {l : List (Int × Int)} (h : RgNew B w v l) (hk : ∀ g, B ≤ g → g < w.heap.size → v.ownBlock = some g → w'.heap[g]? = w.heap[g]?) : RgNew B w' v l := by
  refine ⟨h.1, ?_⟩
  rcases h.2 with ⟨rfl, h0⟩ | ⟨g, cap, cur, rfl, hg, hh, hr⟩
  · exact Or.inl ⟨rfl, h0⟩
  · exact Or.inr ⟨g, cap, cur, rfl, hg, (hk g hg (Array.getElem?_eq_some_iff.1 hh).1 rfl).trans hh, hr⟩
theorem RgNew.out {B : Nat} {w : World} {v : Value} {l : List (Int × Int)} (h : RgNew B w v l) : RgOut w v l := by
  rcases h.2 with ⟨rfl, h0⟩ | ⟨g, cap, cur, rfl, hb, hh, hle, _, _, ht⟩
  · exact ⟨none, 0, by rw [h0], by omega, fun hn => absurd (List.eq_nil_of_length_eq_zero h0) hn⟩
  · refine ⟨_, cap, rfl, hle, fun _ => ⟨g, 0, rfl, fun k x hk => ?_⟩⟩
    have hlt : k < l.length := (List.getElem?_eq_some_iff.1 hk).1
    obtain ⟨e1, e2⟩ := rgC_at l k x hk
    have key : ∀ (j : Nat) (u : Value), j < l.length * 2 → (rgC l)[j]? = some u → w.cell? ⟨g, 0 + j, none⟩ = some u := fun j u hj hu => by
      rw [Nat.zero_add]
      refine (cell_of_row w g j cur _ (0, 0) hh).trans ?_
      have h5 : (cur.toList.take (l.length * 2))[j]? = some u := by rw [ht]; exact hu
      rw [List.getElem?_take, if_pos hj] at h5
      simpa using h5
    exact ⟨by have := key (k * 2) _ (by omega) e1; simpa using this, by have := key (k * 2 + 1) _ (by omega) e2; simpa [Nat.add_assoc] using this⟩
theorem RgNew.push {B : Nat} {w : World} {v : Value} {l : List (Int × Int)} {g : Int × Int} (h : w.ownsRow B 50 2 v (l.length + 1) (rgC l ++ [.int .i64 g.1, .int .i64 g.2])) : RgNew B w v (l ++ [g]) := by
  unfold RgNew
  rw [rgC_app, List.length_append, List.length_singleton]
  exact h
theorem RgNew.mono {B B' : Nat} {w : World} {v : Value} {l : List (Int × Int)} (h : RgNew B' w v l) (hB : B ≤ B') : RgNew B w v l := by
  refine ⟨h.1, ?_⟩
  rcases h.2 with h0 | ⟨g, cap, cur, hv, hg, hr⟩
  · exact Or.inl h0
  · exact Or.inr ⟨g, cap, cur, hv, Nat.le_trans hB hg, hr⟩
theorem RgNew.form {B : Nat} {w : World} {v : Value} {l : List (Int × Int)} (h : RgNew B w v l) : ∃ A c, v = .slice A l.length c ∧ l.length ≤ c := by
  obtain ⟨A, c, hv, hc, _⟩ := h.out
  exact ⟨A, c, hv, hc⟩
theorem slot_info : (Try.prog.info? 50).map (fun i => (i.zero, i.size, i.bytes)) = some (some (.agg #[.int .i64 0, .int .i64 0]), 2, 16) := by kernel_rfl
/-! ### Rows of a call's own, boxes -/
theorem heap_alloc_new (w : World) (o : Obj) : (w.alloc o).heap[w.heap.size]? = some o := by
  show (w.heap.push o)[w.heap.size]? = some o
  exact Array.getElem?_push_size
theorem own_form {B n : Nat} {e : TypeId} {size : Nat} {w : World} {v : Value} {xs : List Value} (h : w.ownsRow B e size v n xs) : ∃ A c, v = .slice A n c ∧ n ≤ c ∧ (0 < n → ∃ g, A = some ⟨g, 0, none⟩ ∧ B ≤ g ∧ g < w.heap.size) := by
  rcases h.2 with ⟨rfl, h0⟩ | ⟨g, cap, cur, rfl, hb, hh, hle, _⟩
  · exact ⟨none, 0, by rw [h0], by omega, fun h => by omega⟩
  · exact ⟨_, cap, rfl, hle, fun _ => ⟨g, rfl, hb, (Array.getElem?_eq_some_iff.1 hh).1⟩⟩
theorem own_keep {B n : Nat} {e : TypeId} {size : Nat} {w w' : World} {v : Value} {xs : List Value} (h : w.ownsRow B e size v n xs) (hk : ∀ g, B ≤ g → g < w.heap.size → v.ownBlock = some g → w'.heap[g]? = w.heap[g]?) : w'.ownsRow B e size v n xs := by
  refine ⟨h.1, ?_⟩
  rcases h.2 with ⟨rfl, h0⟩ | ⟨g, cap, cur, rfl, hg, hh, hr⟩
  · exact Or.inl ⟨rfl, h0⟩
  · exact Or.inr ⟨g, cap, cur, rfl, hg, (hk g hg (Array.getElem?_eq_some_iff.1 hh).1 rfl).trans hh, hr⟩
theorem own_lt {B n : Nat} {e : TypeId} {size : Nat} {w : World} {v : Value} {xs : List Value} (h : w.ownsRow B e size v n xs) {g : Nat} (hg : v.ownBlock = some g) : B ≤ g ∧ g < w.heap.size := by
  rcases h.2 with ⟨rfl, _⟩ | ⟨g', cap, cur, rfl, hb, hh, _⟩
  · cases hg
  · obtain rfl : g' = g := by simpa [Value.ownBlock] using hg
    exact ⟨hb, (Array.getElem?_eq_some_iff.1 hh).1⟩
theorem own_cell {B n : Nat} {e : TypeId} {size g c : Nat} {w : World} {xs : List Value} (h : w.ownsRow B e size (.slice (some ⟨g, 0, none⟩) n c) n xs) {j : Nat} {u : Value} (hj : xs[j]? = some u) : w.cell? ⟨g, j, none⟩ = some u ∧ w.frozen? ⟨g, j, none⟩ = false := by
  rcases h.2 with ⟨hv, _⟩ | ⟨g', cap, cur, hv, hb, hh, hle, _, _, ht⟩
  · cases hv
  · injection hv with e1 e2 e3
    injection e1 with e1
    injection e1 with e1 _ _
    subst e1
    refine ⟨(cell_of_row w g j cur _ (0, 0) hh).trans ?_, frozen_of_row w g j cur _ hh⟩
    have hlt := (List.getElem?_eq_some_iff.1 hj).1
    have h5 : (cur.toList.take (n * size))[j]? = some u := by rw [ht]; exact hj
    have hl := h.1
    rw [List.getElem?_take, if_pos (by omega)] at h5
    simpa using h5
theorem two_new (w : World) (x y : Value) (t : TypeId) : (w.alloc (.cells #[x, y] t)).cell? ⟨w.heap.size, 0, none⟩ = some x ∧ (w.alloc (.cells #[x, y] t)).cell? ⟨w.heap.size, 1, none⟩ = some y ∧
    (w.alloc (.cells #[x, y] t)).frozen? ⟨w.heap.size, 0, none⟩ = false ∧ (w.alloc (.cells #[x, y] t)).frozen? ⟨w.heap.size, 1, none⟩ = false := by
  have h := heap_alloc_new w (.cells #[x, y] t)
  exact ⟨cell_of_row _ _ 0 _ _ (0, 0) h, cell_of_row _ _ 1 _ _ (0, 0) h, frozen_of_row _ _ 0 _ _ h, frozen_of_row _ _ 1 _ _ h⟩
theorem rgC_one (l : List (Int × Int)) : ∀ u ∈ rgC l, u.oneCell' = true := by
  intro u hu
  unfold rgC at hu
  rw [List.mem_flatMap] at hu
  obtain ⟨g, _, h⟩ := hu
  simp at h
  rcases h with rfl | rfl <;> rfl
theorem rgC_length (l : List (Int × Int)) : (rgC l).length = l.length * 2 := by
  induction l with
  | nil => rfl
  | cons g l ih => show ([_, _] ++ rgC l).length = _; rw [List.length_append, ih, List.length_cons]; simp; omega
theorem rg_reads {w : World} {A : Option Addr} {c : Nat} {l : List (Int × Int)} (h : RgOut w (.slice A l.length c) l) : Reads w w.heap.size 2 A l.length (rgC l) := by
  obtain ⟨A', c', hv, hc, hx⟩ := h
  obtain rfl : A = A' := by injection hv
  have hl : (rgC l).length = l.length * 2 := rgC_length l
  refine ⟨hl, fun h0 => ?_⟩
  obtain ⟨b, off, rfl, ha⟩ := hx (List.length_pos_iff.1 h0)
  have hlt : b < w.heap.size := World.block_lt_of_cell? w _ (ha 0 _ (List.getElem?_eq_getElem h0)).1
  refine ⟨⟨b, off, none⟩, rfl, hlt, fun j u hj => ?_⟩
  have hjl := (List.getElem?_eq_some_iff.1 hj).1
  have hk : j / 2 < l.length := by omega
  obtain ⟨c0, c1⟩ := ha (j / 2) _ (List.getElem?_eq_getElem hk)
  obtain ⟨e0, e1⟩ := rgC_at l (j / 2) _ (List.getElem?_eq_getElem hk)
  have ea : (⟨b, off, none⟩ : Addr).add j = ⟨b, off + j, none⟩ := by unfold Addr.add; split <;> simp_all
  rw [ea]
  rcases Nat.mod_two_eq_zero_or_one j with h2 | h2
  · have ej : j / 2 * 2 = j := by omega
    rw [ej] at c0 e0
    rw [c0, ← e0, hj]
  · have ej : j / 2 * 2 + 1 = j := by omega
    rw [ej] at e1
    rw [Nat.add_assoc, ej] at c1
    rw [c1, ← e1, hj]
/-- A world that has grown out of another. -/
structure Laid (w : World) where
  W : World
  h : Below w.heap.size w W
instance (w : World) : Inhabited (Laid w) := ⟨⟨w, Below.refl _ _⟩⟩
theorem wp_region_laid {P : Program} {id : Nat} {Q : Exit → Act → World → Prop} {a : Act} {w : World} {l : List Oper} (hm : P.follows .mixedOrders = true) (hB : Region.lexB .any l.toArray = true)
    (h : wpQuiet P l.toArray (fun w' => ∃ p : Laid w, w' = p.W) (fun a' => ∀ w', (∃ p : Laid w, w' = p.W) → Q .normal a' w') l a) : (Code.region id l.toArray true).wp P Q a w :=
  wp_region_quiet (C := fun w' => ∃ p : Laid w, w' = p.W) hm hB ⟨⟨w.drew, (Below.refl _ _).drew⟩, rfl⟩ (by simpa using h)
theorem Calls.laid {P : Program} {f : FuncId} {args : Array Value} {w : World} {p : Laid w} {v : Value} (h : Calls P f args p.W fun e w' => e = .returned v ∧ Below p.W.heap.size p.W w') : Calls P f args p.W fun e w'' => e = .returned v ∧ ∃ p : Laid w, w'' = p.W :=
  h.mono fun _ _ ⟨he, hb⟩ => ⟨he, ⟨_, bnext p.h hb⟩, rfl⟩
theorem below_put2 {B b : Nat} {a w : World} (h : Below B a w) (hB : B ≤ b) (x y : Value) : Below B a ((w.setCell ⟨b, 0, none⟩ x).setCell ⟨b, 1, none⟩ y) :=
  (h.setCell (p := ⟨b, 0, none⟩) hB x).setCell (p := ⟨b, 1, none⟩) hB y
/-! ### Rows of numbers -/
def nuC (o : Option Int) : List Value := [.bool o.isNone, .int .i64 (o.getD 0)]
def nusC (l : List (Option Int)) : List Value := l.flatMap nuC
theorem nusC_app (a b : List (Option Int)) : nusC (a ++ b) = nusC a ++ nusC b := by unfold nusC; rw [List.flatMap_append]
theorem nusC_length (l : List (Option Int)) : (nusC l).length = l.length * 2 := by
  induction l with
  | nil => rfl
  | cons g l ih => show ([_, _] ++ nusC l).length = _; rw [List.length_append, ih, List.length_cons]; simp; omega
theorem nusC_at : ∀ (l : List (Option Int)) (k : Nat) (g : Option Int), l[k]? = some g → (nusC l)[k * 2]? = some (.bool g.isNone) ∧ (nusC l)[k * 2 + 1]? = some (.int .i64 (g.getD 0))
  | [], k, g, h => by simp at h
  | x :: l, 0, g, h => by
    obtain rfl : x = g := by simpa using h
    exact ⟨rfl, rfl⟩
  | x :: l, k + 1, g, h => by
    have ih := nusC_at l k g (by simpa using h)
    have e : nusC (x :: l) = .bool x.isNone :: .int .i64 (x.getD 0) :: nusC l := rfl
    rw [e, show (k + 1) * 2 = k * 2 + 1 + 1 from by omega, List.getElem?_cons_succ, List.getElem?_cons_succ, show k * 2 + 1 + 1 + 1 = k * 2 + 1 + 1 + 1 from rfl, List.getElem?_cons_succ, List.getElem?_cons_succ]
    exact ih
theorem nusC_one (l : List (Option Int)) : ∀ u ∈ nusC l, u.oneCell' = true := by
  intro u hu
  unfold nusC at hu
  rw [List.mem_flatMap] at hu
  obtain ⟨g, _, h⟩ := hu
  simp [nuC] at h
  rcases h with rfl | rfl <;> rfl
def NuAt (w : World) (b off : Nat) (l : List (Option Int)) : Prop := ∀ (k : Nat) (g : Option Int), l[k]? = some g → w.cell? ⟨b, off + k * 2, none⟩ = some (.bool g.isNone) ∧ w.cell? ⟨b, off + k * 2 + 1, none⟩ = some (.int .i64 (g.getD 0))
def NuOut (w : World) (v : Value) (l : List (Option Int)) : Prop := ∃ A cap, v = .slice A l.length cap ∧ l.length ≤ cap ∧ (l ≠ [] → ∃ b off, A = some ⟨b, off, none⟩ ∧ NuAt w b off l)
theorem NuAt.below {w w' : World} {b off : Nat} {l : List (Option Int)} (h : NuAt w b off l) (hb : Below w.heap.size w w') : NuAt w' b off l := fun k g hk => ⟨cellb hb (h k g hk).1, cellb hb (h k g hk).2⟩
theorem NuOut.below {w w' : World} {v : Value} {l : List (Option Int)} (h : NuOut w v l) (hb : Below w.heap.size w w') : NuOut w' v l := by
  obtain ⟨A, cap, hv, hc, hx⟩ := h
  refine ⟨A, cap, hv, hc, fun hn => ?_⟩
  obtain ⟨b, off, hA, hf⟩ := hx hn
  exact ⟨b, off, hA, hf.below hb⟩
def NuNew (B : Nat) (w : World) (v : Value) (l : List (Option Int)) : Prop := w.ownsRow B 61 2 v l.length (nusC l)
theorem NuNew.nil (B : Nat) (w : World) : NuNew B w (.slice none 0 0) [] := ⟨rfl, .inl ⟨rfl, rfl⟩⟩
theorem NuNew.below {B : Nat} {w w' : World} {v : Value} {l : List (Option Int)} (h : NuNew B w v l) (hb : Below w.heap.size w w') : NuNew B w' v l := own_keep h (fun g _ hl _ => hb.block g hl)
theorem NuNew.mono {B B' : Nat} {w : World} {v : Value} {l : List (Option Int)} (h : NuNew B' w v l) (hB : B ≤ B') : NuNew B w v l := by
  refine ⟨h.1, ?_⟩
  rcases h.2 with h0 | ⟨g, cap, cur, hv, hg, hr⟩
  · exact Or.inl h0
  · exact Or.inr ⟨g, cap, cur, hv, Nat.le_trans hB hg, hr⟩
theorem NuNew.form {B : Nat} {w : World} {v : Value} {l : List (Option Int)} (h : NuNew B w v l) : ∃ A c, v = .slice A l.length c ∧ l.length ≤ c ∧ (∀ g, v.ownBlock = some g → B ≤ g ∧ g < w.heap.size) := by
  obtain ⟨A, c, hv, hc, _⟩ := own_form h
  exact ⟨A, c, hv, hc, fun g hg => own_lt h hg⟩
theorem NuNew.out {B : Nat} {w : World} {v : Value} {l : List (Option Int)} (h : NuNew B w v l) : NuOut w v l := by
  obtain ⟨A, c, rfl, hc, hx⟩ := own_form h
  refine ⟨A, c, rfl, hc, fun hn => ?_⟩
  obtain ⟨g, rfl, _, _⟩ := hx (List.length_pos_iff.2 hn)
  refine ⟨g, 0, rfl, fun k s hk => ?_⟩
  obtain ⟨e1, e2⟩ := nusC_at l k s hk
  rw [Nat.zero_add]
  exact ⟨(own_cell h e1).1, (own_cell h e2).1⟩
theorem NuNew.push {B : Nat} {w : World} {v : Value} {l : List (Option Int)} {g : Option Int} (h : w.ownsRow B 61 2 v (l.length + 1) (nusC l ++ [.bool g.isNone, .int .i64 (g.getD 0)])) : NuNew B w v (l ++ [g]) := by
  unfold NuNew
  rw [nusC_app, List.length_append, List.length_singleton]
  exact h
theorem num_info : (Try.prog.info? 61).map (fun i => (i.zero, i.size, i.bytes)) = some (some (.agg #[.bool false, .int .i64 0]), 2, 16) := by kernel_rfl
theorem nu_reads {w : World} {A : Option Addr} {c : Nat} {l : List (Option Int)} (h : NuOut w (.slice A l.length c) l) : Reads w w.heap.size 2 A l.length (nusC l) := by
  obtain ⟨A', c', hv, hc, hx⟩ := h
  obtain rfl : A = A' := by injection hv
  refine ⟨nusC_length l, fun h0 => ?_⟩
  obtain ⟨b, off, rfl, ha⟩ := hx (List.length_pos_iff.1 h0)
  have hlt : b < w.heap.size := World.block_lt_of_cell? w _ (ha 0 _ (List.getElem?_eq_getElem h0)).1
  have hl := nusC_length l
  refine ⟨⟨b, off, none⟩, rfl, hlt, fun j u hj => ?_⟩
  have hjl := (List.getElem?_eq_some_iff.1 hj).1
  have hk : j / 2 < l.length := by omega
  obtain ⟨c0, c1⟩ := ha (j / 2) _ (List.getElem?_eq_getElem hk)
  obtain ⟨e0, e1⟩ := nusC_at l (j / 2) _ (List.getElem?_eq_getElem hk)
  have ea : (⟨b, off, none⟩ : Addr).add j = ⟨b, off + j, none⟩ := by unfold Addr.add; split <;> simp_all
  rw [ea]
  rcases Nat.mod_two_eq_zero_or_one j with h2 | h2
  · have ej : j / 2 * 2 = j := by omega
    rw [ej] at c0 e0
    rw [c0, ← e0, hj]
  · have ej : j / 2 * 2 + 1 = j := by omega
    rw [ej] at e1
    rw [Nat.add_assoc, ej] at c1
    rw [c1, ← e1, hj]
/-! ### Rows of acts -/
def AcAt (w : World) (b off : Nat) (l : List (Nat × Int)) : Prop := ∀ (k : Nat) (g : Nat × Int), l[k]? = some g → w.cell? ⟨b, off + k * 2, none⟩ = some (.int .u16 (g.1 : Int)) ∧ w.cell? ⟨b, off + k * 2 + 1, none⟩ = some (.int .i64 g.2)
def AcOut (w : World) (v : Value) (l : List (Nat × Int)) : Prop := ∃ A cap, v = .slice A l.length cap ∧ l.length ≤ cap ∧ (l ≠ [] → ∃ b off, A = some ⟨b, off, none⟩ ∧ AcAt w b off l)
theorem AcAt.below {w w' : World} {b off : Nat} {l : List (Nat × Int)} (h : AcAt w b off l) (hb : Below w.heap.size w w') : AcAt w' b off l := fun k g hk => ⟨cellb hb (h k g hk).1, cellb hb (h k g hk).2⟩
end Go.Proofs.Ytkgajlklhcmmcaa
