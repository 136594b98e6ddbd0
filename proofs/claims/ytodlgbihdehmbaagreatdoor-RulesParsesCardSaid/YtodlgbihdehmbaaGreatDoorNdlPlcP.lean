/-
  Rows of places in memory (layer 9): rows of whole numbers of a call's own, and what an append onto one leaves.
-/
import Derived.Test.YtodlgbihdehmbaaGreatDoorNdlRunP
import Derived.Test.YtodlgbihdehmbaaGreatDoorNdlRowP
import Derived.Test.YtodlgbihdehmbaaGreatDoorMemRowP
import Derived.WalkKit
set_option linter.unusedSimpArgs false
set_option linter.unusedVariables false
namespace Go.Proofs.YtodlgbihdehmbaaGreatDoor.Nd
open Go.RowKit
def plcs (l : List Nat) : List Value := l.map fun (n : Nat) => .int .i64 (n : Int)
theorem plcs_app (a b : List Nat) : plcs (a ++ b) = plcs a ++ plcs b := by simp [plcs]
/-- A row of places of the call's own, in a block from B on. -/
def PlNew (B : Nat) (w : World) (v : Value) (l : List Nat) : Prop := w.ownsRow B 3 1 v l.length (plcs l)
theorem PlNew.nil (B : Nat) (w : World) : PlNew B w (.slice none 0 0) [] := ⟨rfl, .inl ⟨rfl, rfl⟩⟩
theorem PlNew.form {B : Nat} {w : World} {v : Value} {l : List Nat} (h : PlNew B w v l) : ∃ A cap, v = .slice A l.length cap ∧ l.length ≤ cap ∧ (l ≠ [] → ∃ g, A = some ⟨g, 0, none⟩) := by
  rcases h.2 with ⟨rfl, h0⟩ | ⟨g, cap, cur, rfl, hb, hh, hle, _, _, ht⟩
  · exact ⟨none, 0, by rw [h0], by omega, fun hn => absurd (List.eq_nil_of_length_eq_zero h0) hn⟩
  · exact ⟨_, cap, rfl, hle, fun _ => ⟨g, rfl⟩⟩
theorem PlNew.cellAt {B : Nat} {w : World} {g n c : Nat} {l : List Nat} (h : PlNew B w (.slice (some ⟨g, 0, none⟩) n c) l) {k : Nat} (hk : k < l.length) : w.cell? ⟨g, k, none⟩ = some (.int .i64 (l.getD k 0 : Nat)) := by
  have hn : n = l.length := by
    rcases h.2 with ⟨h0, _⟩ | ⟨g', cap, cur, hv, _⟩
    · cases h0
    · injection hv
  subst hn
  have h2 : w.ownsRow B 3 1 (.slice (some ⟨g, 0, none⟩) l.length c) l.length (plcs l) := h
  rw [h2.cellAt k (by omega)]
  simp [plcs, List.getD_eq_getElem?_getD, hk]
theorem PlNew.lt {B : Nat} {w : World} {v : Value} {l : List Nat} (h : PlNew B w v l) {g : Nat} (hg : v.ownBlock = some g) : B ≤ g ∧ g < w.heap.size := World.ownsRow.lt h g hg
theorem PlNew.below {B : Nat} {w w' : World} {v : Value} {l : List Nat} (h : PlNew B w v l) (hb : Below w.heap.size w w') : PlNew B w' v l := by
  refine ⟨h.1, ?_⟩
  rcases h.2 with ⟨rfl, h0⟩ | ⟨g, cap, cur, rfl, hg, hh, hr⟩
  · exact Or.inl ⟨rfl, h0⟩
  · exact Or.inr ⟨g, cap, cur, rfl, hg, (hb.block g (Array.getElem?_eq_some_iff.1 hh).1).trans hh, hr⟩
theorem PlNew.cut {B : Nat} {w : World} {A : Option Addr} {n c : Nat} {l : List Nat} (h : PlNew B w (.slice A n c) l) : PlNew B w (.slice A 0 c) [] := by
  rcases h.2 with ⟨h1, h0⟩ | ⟨g, cap, cur, h1, hg, hh, hle, hm, hs, ht⟩
  · injection h1 with e1 e2 e3
    subst e1 e3
    exact PlNew.nil B w
  · injection h1 with e1 e2 e3
    subst e1 e3
    exact ⟨rfl, .inr ⟨g, c, cur, rfl, hg, hh, Nat.zero_le _, hm, hs, by simp [plcs]⟩⟩
/-- Items that lie below a block. -/
def ItLow (B : Nat) (w : World) (v : Value) (l : List NI) : Prop := ∃ A cap, v = .slice A l.length cap ∧ l.length ≤ cap ∧ (l ≠ [] → ∃ b off, A = some ⟨b, off, none⟩ ∧ b < B ∧ ItAt w b off l)
theorem ItLow.below {B : Nat} {w w' : World} {v : Value} {l : List NI} (h : ItLow B w v l) (hb : Below B w w') : ItLow B w' v l := by
  obtain ⟨A, cap, hv, hc, hx⟩ := h
  refine ⟨A, cap, hv, hc, fun hn => ?_⟩
  obtain ⟨b, off, hA, hlt, hf⟩ := hx hn
  exact ⟨b, off, hA, hlt, fun k i hk j x hx => (hb.cell hlt).trans (hf k i hk j x hx)⟩
theorem ItOut.low {w : World} {v : Value} {l : List NI} (h : ItOut w v l) {B : Nat} (hB : w.heap.size ≤ B) : ItLow B w v l := by
  obtain ⟨A, cap, hv, hc, hx⟩ := h
  refine ⟨A, cap, hv, hc, fun hn => ?_⟩
  obtain ⟨b, off, hA, hf⟩ := hx hn
  refine ⟨b, off, hA, ?_, hf⟩
  have h0 := List.getElem?_eq_getElem (List.length_pos_iff.2 hn)
  have := World.block_lt_of_cell? w _ (hf 0 _ h0 0 _ rfl)
  exact Nat.lt_of_lt_of_le this hB
/-- The items' cells, one by one. -/
theorem ItAt.five {w : World} {b off : Nat} {l : List NI} (h : ItAt w b off l) {k : Nat} (hk : k < l.length) :
    w.cell? ⟨b, off + k * 5, none⟩ = some (.int .u64 ((l.getD k NI.zero).s0 : Nat)) ∧ w.cell? ⟨b, off + k * 5 + 1, none⟩ = some (.int .u64 ((l.getD k NI.zero).s1 : Nat)) ∧ w.cell? ⟨b, off + k * 5 + 2, none⟩ = some (.int .u64 ((l.getD k NI.zero).s2 : Nat)) ∧
    w.cell? ⟨b, off + k * 5 + 3, none⟩ = some (.int .u64 ((l.getD k NI.zero).s3 : Nat)) ∧ w.cell? ⟨b, off + k * 5 + 4, none⟩ = some (.bool (l.getD k NI.zero).star) := by
  have e : l.getD k NI.zero = l[k] := by rw [List.getD_eq_getElem?_getD, List.getElem?_eq_getElem hk]; rfl
  rw [e]
  exact Go.Proofs.YtodlgbihdehmbaaGreatDoor.Nd.five (h k _ (List.getElem?_eq_getElem hk))
/-- What a call that puts places onto a row leaves of it, and of all else. -/
structure Rch (B : Nat) (w : World) (v : Value) (w' : World) (v' : Value) (l : List Nat) : Prop where
  new : PlNew B w' v' l
  keep : w.grownBy w' v.ownBlock
  at' : v'.ownBlock = v.ownBlock ∨ ∃ g, w.heap.size ≤ g ∧ v'.ownBlock = some g
theorem Rch.start {B : Nat} {w : World} {v : Value} {l : List Nat} (h : PlNew B w v l) : Rch B w v w v l := ⟨h, World.grownBy.refl _ _, .inl rfl⟩
theorem Rch.below {B : Nat} {w w1 w2 : World} {v v1 : Value} {l : List Nat} (h : Rch B w v w1 v1 l) (hb : Below w1.heap.size w1 w2) : Rch B w v w2 v1 l :=
  ⟨h.new.below hb, ⟨hb.os.trans h.keep.os, hb.tape.trans h.keep.tape, hb.output.trans h.keep.output, Nat.le_trans h.keep.size hb.size, fun k hk hne => (hb.block k (Nat.lt_of_lt_of_le hk h.keep.size)).trans (h.keep.block k hk hne)⟩, h.at'⟩
theorem Rch.next {B : Nat} {w w1 w2 : World} {v v1 v2 : Value} {l l2 : List Nat} (h : Rch B w v w1 v1 l) (k : Rch B w1 v1 w2 v2 l2) : Rch B w v w2 v2 l2 := by
  have hs := h.keep.size
  refine ⟨k.new, ⟨k.keep.os.trans h.keep.os, k.keep.tape.trans h.keep.tape, k.keep.output.trans h.keep.output, Nat.le_trans hs k.keep.size, fun i hi hne => ?_⟩, ?_⟩
  · refine (k.keep.block i (by omega) ?_).trans (h.keep.block i hi hne)
    rcases h.at' with e | ⟨g, hg, e⟩
    · rw [e]; exact hne
    · rw [e]; intro e2; injection e2 with e2; omega
  · rcases k.at' with e | ⟨g, hg, e⟩
    · rw [e]; exact h.at'
    · exact .inr ⟨g, by omega, e⟩
/-- Behind an append of a place. -/
theorem Rch.push {B : Nat} {w w1 w2 : World} {v v1 v2 : Value} {l : List Nat} {x : Nat} {o : Obj} (h : Rch B w v w1 v1 l) (hg : (w1.alloc o).grownBy w2 v1.ownBlock) (hn : w2.ownsRow B 3 1 v2 (l.length + 1) (plcs l ++ [.int .i64 (x : Int)]))
    (hat : v2.ownBlock = v1.ownBlock ∨ v2.ownBlock = some (w1.alloc o).heap.size) : Rch B w v w2 v2 (l ++ [x]) := by
  refine h.next ⟨?_, ?_, ?_⟩
  · unfold PlNew
    rw [plcs_app, List.length_append, List.length_singleton]
    exact hn
  · have e := (Below.refl w1.heap.size w1).alloc (Nat.le_refl _) o
    refine ⟨hg.os, hg.tape, hg.output, Nat.le_trans e.size hg.size, fun k hk hne => ?_⟩
    exact (hg.block k (Nat.lt_of_lt_of_le hk e.size) hne).trans (e.block k hk)
  · rcases hat with e | e
    · exact .inl e
    · refine .inr ⟨_, ?_, e⟩
      simp
/-- All below a block stays. -/
theorem Rch.low {B : Nat} {w w' : World} {v v' : Value} {l0 l : List Nat} (h : Rch B w v w' v' l) (h0 : PlNew B w v l0) (hB : B ≤ w.heap.size) : Below B w w' :=
  ⟨h.keep.os, h.keep.tape, h.keep.output, h.keep.size, fun k hk => h.keep.block k (by omega) (fun e => by have := (h0.lt e.symm).1; omega)⟩
/-- Another row stays, and stays another one. -/
def Apart (v u : Value) : Prop := ∀ g, v.ownBlock = some g → u.ownBlock = some g → False
theorem Apart.symm {v u : Value} (h : Apart v u) : Apart u v := fun g h1 h2 => h g h2 h1
theorem Rch.other {B : Nat} {w w' : World} {v v' u : Value} {l l2 : List Nat} (h : Rch B w v w' v' l) (hu : PlNew B w u l2) (ha : Apart v u) : PlNew B w' u l2 ∧ Apart v' u := by
  constructor
  · refine ⟨hu.1, ?_⟩
    rcases hu.2 with ⟨rfl, h0⟩ | ⟨g, cap, cur, rfl, hg, hh, hr⟩
    · exact Or.inl ⟨rfl, h0⟩
    · exact Or.inr ⟨g, cap, cur, rfl, hg, (h.keep.block g (Array.getElem?_eq_some_iff.1 hh).1 (fun e => ha g e.symm rfl)).trans hh, hr⟩
  · intro g h1 h2
    rcases h.at' with e | ⟨g', hg, e⟩
    · exact ha g (e ▸ h1) h2
    · rw [e] at h1
      injection h1 with h1
      have := (hu.lt h2).2
      omega
end Go.Proofs.YtodlgbihdehmbaaGreatDoor.Nd
