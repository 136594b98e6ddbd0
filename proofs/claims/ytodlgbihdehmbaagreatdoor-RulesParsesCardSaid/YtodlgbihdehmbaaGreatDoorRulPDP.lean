/-
  A range over an iterator that keeps a state of its own in three variables: what the loop owes, what the iterator owes.
-/
import Derived.RangeFuncBox
import Derived.RangeFuncCalls
import Derived.RangeFuncLeaves
import Derived.Test.YtodlgbihdehmbaaGreatDoorRetGP
import Derived.Test.YtodlgbihdehmbaaGreatDoorRetRBP
import Derived.Test.YtodlgbihdehmbaaGreatDoorRetREP
import Derived.Test.YtodlgbihdehmbaaGreatDoorRetRowP
import Derived.Lib.IndexBytes
import Derived.Lib.IndexLaws
import Derived.Lib.IndexMore
import Derived.Lib.TrimByte
import Derived.Test.YtodlgbihdehmbaaGreatDoorRetRIP
import Derived.Test.YtodlgbihdehmbaaGreatDoorShelfP
import Derived.Shelf.Abstract
import Derived.Shelf.RegionOpen
import Derived.OwnWalkIn
import Derived.TacticsInMore
import Derived.LoopNIn
import Derived.LoopIn
import Derived.Test.YtodlgbihdehmbaaGreatDoorRetPEP
import Derived.Test.YtodlgbihdehmbaaGreatDoorRulPBP
set_option linter.unusedSimpArgs false
set_option linter.unusedVariables false
namespace Go.Proofs.YtodlgbihdehmbaaGreatDoor
open Go Go.RowKit
/-- Nothing turns but new blocks and those of S. -/
structure Turns (S : Nat → Prop) (W W' : World) : Prop where
  os : W'.os = W.os
  tape : W'.tape = W.tape
  output : W'.output = W.output
  size : W.heap.size ≤ W'.heap.size
  block : ∀ k, k < W.heap.size → ¬ S k → W'.heap[k]? = W.heap[k]?
theorem Turns.trans {S : Nat → Prop} {A B C : World} (h : Turns S A B) (k : Turns S B C) : Turns S A C :=
  ⟨k.os.trans h.os, k.tape.trans h.tape, k.output.trans h.output, Nat.le_trans h.size k.size, fun i hi hn => (k.block i (Nat.lt_of_lt_of_le hi h.size) hn).trans (h.block i hi hn)⟩
theorem Turns.mono {S S' : Nat → Prop} {A B : World} (h : Turns S A B) (hs : ∀ k, S k → S' k) : Turns S' A B := ⟨h.os, h.tape, h.output, h.size, fun i hi hn => h.block i hi (fun e => hn (hs i e))⟩
theorem Turns.of_below {S : Nat → Prop} {W W' : World} (h : Below W.heap.size W W') : Turns S W W' := ⟨h.os, h.tape, h.output, h.size, fun k hk _ => h.block k hk⟩
theorem Turns.putObj (W : World) (l : Nat) (o : Obj) : Turns (· = l) W (W.putObj l o) := ⟨rfl, rfl, rfl, by simp, fun k _ hk => World.putObj_heap_other hk⟩
theorem Turns.setCell (W : World) (b o : Nat) (v : Value) : Turns (· = b) W (W.setCell ⟨b, o, none⟩ v) := ⟨rfl, rfl, rfl, (KeepsWalks.setCell W _ v).size, fun k _ hk => Below.heap_setCell _ _ _ k (fun e => hk e)⟩
theorem Turns.alloc (S : Nat → Prop) (W : World) (o : Obj) : Turns S W (W.alloc o) := Turns.of_below ((Below.refl _ W).alloc (Nat.le_refl _) o)
theorem Turns.low {S : Nat → Prop} {N : Nat} {w A B : World} (h : Turns S A B) (hb : Below N w A) (hN : N ≤ A.heap.size) (hs : ∀ k, S k → N ≤ k) : Below N w B :=
  hb.trans ⟨h.os, h.tape, h.output, h.size, fun k hk => h.block k (by omega) (fun e => by have := hs k e; omega)⟩
theorem Turns.cell {S : Nat → Prop} {A B : World} (h : Turns S A B) {b o : Nat} {v : Value} (hc : A.cell? ⟨b, o, none⟩ = some v) (hb : ¬ S b) : B.cell? ⟨b, o, none⟩ = some v :=
  (World.cell?_of_block (h.block b (World.block_lt_of_cell? A _ hc) hb)).trans hc
theorem Turns.frozen {S : Nat → Prop} {A B : World} (h : Turns S A B) {b o : Nat} (hb : ¬ S b) (hlt : b < A.heap.size) : B.frozen? ⟨b, o, none⟩ = A.frozen? ⟨b, o, none⟩ := World.frozen?_of_block (h.block b hlt hb)
/-- Some blocks lie as they lay. -/
def KeepB (S : Nat → Prop) (W W' : World) : Prop := ∀ k, S k → W'.heap[k]? = W.heap[k]?
theorem KeepB.trans {S : Nat → Prop} {A B C : World} (h : KeepB S A B) (k : KeepB S B C) : KeepB S A C := fun i hi => (k i hi).trans (h i hi)
theorem KeepB.refl (S : Nat → Prop) (W : World) : KeepB S W W := fun _ _ => rfl
theorem Turns.keep {S T : Nat → Prop} {W W' : World} (h : Turns S W W') (hlt : ∀ k, T k → k < W.heap.size ∧ ¬ S k) : KeepB T W W' := fun k hk => h.block k (hlt k hk).1 (hlt k hk).2
/-- The three variables of the iterator. -/
def Own3 (B k : Nat) : Prop := B ≤ k ∧ k < B + 3
/-- What an iterator owes that gives xs, one by one, and keeps its place in block B. -/
def Iter {α : Type} (F : Fence) (n : Nat) (P : Program) (gf : Nat) (lb : Array Value) (enc : α → Value) (B : Nat) (xs : List α) (w : World) : Prop :=
  ∀ (l : Nat) (J Jx : List α → World → Prop) (W : World), KeepB (Own3 B) w W → B + 3 ≤ W.heap.size →
    (∀ pre A A', J pre A → Turns (· = B) A A' → J pre A') →
    (∀ pre x A, J pre A → pre ++ [x] <+: xs → YieldAt F (n - 1) P l #[enc x] A fun e A' => (e = .returned (.bool true) ∧ J (pre ++ [x]) A' ∧ KeepB (Own3 B) A A' ∧ A.heap.size ≤ A'.heap.size) ∨ (e = .returned (.bool false) ∧ Jx (pre ++ [x]) A')) →
    J [] W →
    CallsIn F n P gf (#[.func (.yield l) #[] #[]] ++ lb) W fun e W' => (∃ v, e = .returned v) ∧ (J xs W' ∨ ∃ pre, Jx pre W')
variable {F : Fence} {n : Nat} {P : Program}
/-- How a round's body may be left. -/
def leftPost {α : Type} (S : Nat → Prop) (I : List α → World → Prop) (Ix : Code → List α → World → Prop) (pre : List α) (W : World) : Exit → Act → World → Prop
  | .normal, _, W' => KeepB S W W' ∧ W.heap.size ≤ W'.heap.size ∧ I pre W'
  | .ret, _, W' => KeepB S W W' ∧ W.heap.size ≤ W'.heap.size ∧ Ix .ret pre W'
  | .exit id, _, W' => KeepB S W W' ∧ W.heap.size ≤ W'.heap.size ∧ Ix (.exit id) pre W'
  | _, _, _ => False
/-- What a loop over such an iterator owes. -/
theorem wp_range {α : Type} {g : Operand} {ps : Array Tmp} {assign body : Code} {Q : Exit → Act → World → Prop} {a : Act} {w : World}
    (hro : F.round = none) (h1 : 1 ≤ n) {gf : Nat} {lb : Array Value} (hg : a.eval g = .func (.func gf) #[] lb) (hFg : F.fn gf) (eg : ∀ args w, (callFunc gf args).run P w = .ok (.enter gf args) w)
    {enc : α → Value} {B : Nat} {xs : List α} {w0 : World} (hit : Iter F (n - 1) P gf lb enc B xs w0) (hk0 : KeepB (Own3 B) w0 w) (hB : B + 3 ≤ w.heap.size) (hps : ps.size = 1)
    (I : List α → World → Prop) (Ix : Code → List α → World → Prop)
    (hI : ∀ pre A A', I pre A → Turns (fun k => k = B ∨ k = w.heap.size ∨ k = w.heap.size + 1) A A' → I pre A')
    (hIx : ∀ c pre A A', Ix c pre A → Turns (fun k => k = w.heap.size + 1) A A' → Ix c pre A')
    (h0 : I [] w) (a₁ : α → Act)
    (hassign : ∀ (l : Nat) (x : α) (W : World) (K : Act → World → Prop), K (a₁ x) W →
      assign.wpIn (F.inRound l) (n - 1 - 1) P (Exit.then K (fun _ _ _ => False)) { tmps := (ps.zip #[enc x]).foldl (fun t (p, v) => t.setIfInBounds p v) a.tmps, defers := [] } W)
    (hbody : ∀ (l : Nat) (pre : List α) (x : α) (W : World), I pre W → w.heap.size + 2 ≤ W.heap.size → pre ++ [x] <+: xs →
      body.wpIn (F.inRound l) (n - 1 - 1) P (leftPost (fun k => Own3 B k ∨ k = w.heap.size ∨ k = w.heap.size + 1) I Ix (pre ++ [x]) W) (a₁ x) W)
    (hdone : ∀ (W : World), I xs W → W.heap[w.heap.size]? = some (.deferred (some [])) → Q .normal { a with defers := { target := .collected w.heap.size, args := #[] } :: a.defers } W)
    (hstop : ∀ (c : Code) (pre : List α) (W : World), Ix c pre W → W.heap[w.heap.size]? = some (.deferred (some [])) → c.wpIn F n P Q { a with defers := { target := .collected w.heap.size, args := #[] } :: a.defers } W) :
    (Code.rangeFunc g ps assign body).wpIn F n P Q a w := by
  refine wpIn_rangeFunc fun fn hfn => ?_
  rw [hro]
  -- the loop's record, in each of its states
  obtain ⟨R, hR⟩ : ∃ R : LoopState → Option Code → Loop, R = fun st pe => { state := st, pending := pe, fn := fn, tmps := a.tmps, params := ps, assign := assign, body := body, defers := w.heap.size } := ⟨_, rfl⟩
  obtain ⟨l, hl⟩ : ∃ l, w.heap.size + 1 = l := ⟨_, rfl⟩
  obtain ⟨V, hV⟩ : ∃ V, (w.alloc (.deferred (some []))).alloc (.loop (R .ready none)) = V := ⟨_, rfl⟩
  have tV : Turns (fun _ => False) w V := by rw [← hV]; exact (Turns.alloc _ _ _).trans (Turns.alloc _ _ _)
  have sV : V.heap.size = w.heap.size + 2 := by rw [← hV]; simp
  have lV : V.heap[l]? = some (.loop (R .ready none)) := by
    rw [← hV, ← hl]
    have h := World.alloc_heap_new (w.alloc (.deferred (some []))) (.loop (R .ready none))
    rwa [World.size_alloc] at h
  have dV : V.heap[w.heap.size]? = some (.deferred (some [])) := by
    rw [← hV]
    exact (Below.heap_alloc _ _ _ (by simp)).trans (World.alloc_heap_new w _)
  refine ⟨l, [{ target := .collected w.heap.size, args := #[] }], V, { target := .fn (.func gf) lb, args := #[.func (.yield l) #[] #[]] }, V, gf, #[.func (.yield l) #[] #[]] ++ lb, V, ?_, ?_, ?_, ?_, fun _ => h1, ?_⟩
  · rw [← hV, ← hl, hR]; exact run_enterLoop_outer _ _ _ _ _
  · simp only [resolve, hg]; simp [go_sem]
  · intro f' hf'; simp [Target.leads] at hf'; subst hf'; exact hFg
  · simp [invoke, go_sem, eg]
  -- what is handed through the iterator
  have fits : ∀ {A A' : World} {st : LoopState} {pe : Option Code}, (A.heap[l]? = some (.loop (R st pe)) ∧ A.heap[w.heap.size]? = some (.deferred (some []))) → Turns (· = B) A A' → (A'.heap[l]? = some (.loop (R st pe)) ∧ A'.heap[w.heap.size]? = some (.deferred (some []))) := fun h t =>
    ⟨(t.block l (Array.getElem?_eq_some_iff.1 h.1).1 (by omega)).trans h.1, (t.block _ (Array.getElem?_eq_some_iff.1 h.2).1 (by omega)).trans h.2⟩
  refine (hit l (fun pre A => I pre A ∧ w.heap.size + 2 ≤ A.heap.size ∧ (A.heap[l]? = some (.loop (R .ready none)) ∧ A.heap[w.heap.size]? = some (.deferred (some []))))
    (fun pre A => ∃ c, Ix c pre A ∧ (A.heap[l]? = some (.loop (R .done (some c))) ∧ A.heap[w.heap.size]? = some (.deferred (some [])))) V
    (hk0.trans (tV.keep fun k hk => ⟨by have := hk.2; omega, fun e => e⟩)) (by omega)
    (fun pre A A' h t => ⟨hI pre A A' h.1 (t.mono fun k e => .inl e), Nat.le_trans h.2.1 t.size, fits h.2.2 t⟩) ?_ ⟨hI [] w V h0 (tV.mono fun _ e => e.elim), by omega, lV, dV⟩).mono ?_
  · -- one round
    rintro pre x A ⟨hi, hs, hA, hD⟩ hpre
    have hlt : l < A.heap.size := by omega
    have hy := run_yield (P := P) (args := #[enc x]) hA (by rw [hR]; simp [hps])
    rw [hR] at hy
    refine ⟨fn, _, assign, body, hy, roundIn_of_wpIn hfn (hassign l x A _ ⟨_, run_beginRound hA (by rw [hR]), ?_⟩)⟩
    obtain ⟨A1, hA1⟩ : ∃ A1, A.putObj l (.loop { R .ready none with state := .busy }) = A1 := ⟨_, rfl⟩
    rw [hA1]
    have t1 : Turns (· = l) A A1 := by rw [← hA1]; exact Turns.putObj _ _ _
    have l1 : A1.heap[l]? = some (.loop { R .ready none with state := .busy }) := by rw [← hA1]; exact World.putObj_heap_same hlt
    refine wpIn_mono (hbody l pre x A1 (hI pre A A1 hi (t1.mono fun k e => .inr (.inr (by omega)))) (Nat.le_trans hs t1.size) hpre) ?_
    -- the round is over
    have over : ∀ (jump : Option Code) (A2 : World), KeepB (fun k => Own3 B k ∨ k = w.heap.size ∨ k = w.heap.size + 1) A1 A2 → A1.heap.size ≤ A2.heap.size → ∃ A3, (Instr.endRound l jump).run P A2 = .ok (.bool jump.isNone) A3 ∧ Turns (· = l) A2 A3 ∧ w.heap.size + 2 ≤ A3.heap.size ∧
        (A3.heap[l]? = some (.loop (R (if jump.isNone then .ready else .done) jump)) ∧ A3.heap[w.heap.size]? = some (.deferred (some []))) ∧ KeepB (Own3 B) A A3 ∧ A.heap.size ≤ A3.heap.size := fun jump A2 hk hz => by
      have l2 := (hk l (.inr (.inr hl.symm))).trans l1
      have hlt2 := (Array.getElem?_eq_some_iff.1 l2).1
      have he := run_endRound (P := P) jump l2
      rw [hR] at he
      refine ⟨_, by rw [he], Turns.putObj _ _ _, by have := t1.size; simp; omega, ⟨by rw [hR]; exact World.putObj_heap_same hlt2, ?_⟩, ?_, by have := t1.size; simp; omega⟩
      · refine (World.putObj_heap_other (by omega)).trans ((hk w.heap.size (.inr (.inl rfl))).trans ?_)
        exact (t1.block _ (by omega) (by omega)).trans hD
      · intro k ho
        have := ho.2
        exact (World.putObj_heap_other (by omega)).trans ((hk k (.inl ho)).trans (t1.block k (by omega) (by omega)))
    rintro e a3 A2 hp
    cases e with
    | normal =>
      obtain ⟨hk, hz, hi2⟩ := hp
      obtain ⟨A3, hr, t3, hs3, h3, hk3, hz3⟩ := over none A2 hk hz
      exact ⟨_, A3, hr, .inl ⟨rfl, ⟨hI _ _ _ hi2 (t3.mono fun k e => .inr (.inr (by omega))), hs3, h3⟩, hk3, hz3⟩⟩
    | ret =>
      obtain ⟨hk, hz, hi2⟩ := hp
      obtain ⟨A3, hr, t3, hs3, h3, hk3, hz3⟩ := over (some .ret) A2 hk hz
      exact ⟨_, A3, hr, .inr ⟨rfl, .ret, hIx _ _ _ _ hi2 (t3.mono fun k e => by omega), h3⟩⟩
    | exit id =>
      obtain ⟨hk, hz, hi2⟩ := hp
      obtain ⟨A3, hr, t3, hs3, h3, hk3, hz3⟩ := over (some (.exit id)) A2 hk hz
      exact ⟨_, A3, hr, .inr ⟨rfl, .exit id, hIx _ _ _ _ hi2 (t3.mono fun k e => by omega), h3⟩⟩
    | goto t => exact hp.elim
    | panic ch => exact hp.elim
    | outgrown => exact hp.elim
  · -- behind the iterator
    rintro e A ⟨⟨v, rfl⟩, (⟨hi, hs, hA, hD⟩ | ⟨pre, c, hi, hA, hD⟩)⟩
    · have he := run_endLoop (P := P) hA (by rw [hR]; simp)
      rw [hR] at he
      exact ⟨none, _, he, hdone _ (hI _ _ _ hi ((Turns.putObj _ _ _).mono fun k e => .inr (.inr (by omega)))) ((World.putObj_heap_other (by omega)).trans hD)⟩
    · have he := run_endLoop (P := P) hA (by rw [hR]; simp)
      rw [hR] at he
      exact ⟨some c, _, he, hstop c pre _ (hIx _ _ _ _ hi ((Turns.putObj _ _ _).mono fun k e => by omega)) ((World.putObj_heap_other (by omega)).trans hD)⟩
end Go.Proofs.YtodlgbihdehmbaaGreatDoor
/-
  Contracts of the program's functions of layer 10: units.
-/
set_option linter.unusedSimpArgs false
set_option linter.unusedVariables false
namespace Go.Proofs.YtodlgbihdehmbaaGreatDoor.RP
open Go.RowKit
def utab : List Nat := [115, 109, 104, 100, 119, 121]
theorem ret_ib {a b : Int} {x y : Bool} (h : a = b) (k : x = y) : Ending.returned (.tuple #[.int .i64 a, .bool x]) = .returned (.tuple #[.int .i64 b, .bool y]) := by rw [h, k]
theorem ix0 (w : World) : (Instr.index 204 (.agg #[.int .u8 115, .int .i64 1, .int .u8 109, .int .i64 60, .int .u8 104, .int .i64 3600, .int .u8 100, .int .i64 86400, .int .u8 119, .int .i64 604800, .int .u8 121, .int .i64 31536000]) (.int .i64 0)).run Tryz.prog w = .ok (.agg #[.int .u8 115, .int .i64 1]) w := by kernel_rfl
theorem ix1 (w : World) : (Instr.index 204 (.agg #[.int .u8 115, .int .i64 1, .int .u8 109, .int .i64 60, .int .u8 104, .int .i64 3600, .int .u8 100, .int .i64 86400, .int .u8 119, .int .i64 604800, .int .u8 121, .int .i64 31536000]) (.int .i64 1)).run Tryz.prog w = .ok (.agg #[.int .u8 109, .int .i64 60]) w := by kernel_rfl
theorem ix2 (w : World) : (Instr.index 204 (.agg #[.int .u8 115, .int .i64 1, .int .u8 109, .int .i64 60, .int .u8 104, .int .i64 3600, .int .u8 100, .int .i64 86400, .int .u8 119, .int .i64 604800, .int .u8 121, .int .i64 31536000]) (.int .i64 2)).run Tryz.prog w = .ok (.agg #[.int .u8 104, .int .i64 3600]) w := by kernel_rfl
theorem ix3 (w : World) : (Instr.index 204 (.agg #[.int .u8 115, .int .i64 1, .int .u8 109, .int .i64 60, .int .u8 104, .int .i64 3600, .int .u8 100, .int .i64 86400, .int .u8 119, .int .i64 604800, .int .u8 121, .int .i64 31536000]) (.int .i64 3)).run Tryz.prog w = .ok (.agg #[.int .u8 100, .int .i64 86400]) w := by kernel_rfl
theorem ix4 (w : World) : (Instr.index 204 (.agg #[.int .u8 115, .int .i64 1, .int .u8 109, .int .i64 60, .int .u8 104, .int .i64 3600, .int .u8 100, .int .i64 86400, .int .u8 119, .int .i64 604800, .int .u8 121, .int .i64 31536000]) (.int .i64 4)).run Tryz.prog w = .ok (.agg #[.int .u8 119, .int .i64 604800]) w := by kernel_rfl
theorem ix5 (w : World) : (Instr.index 204 (.agg #[.int .u8 115, .int .i64 1, .int .u8 109, .int .i64 60, .int .u8 104, .int .i64 3600, .int .u8 100, .int .i64 86400, .int .u8 119, .int .i64 604800, .int .u8 121, .int .i64 31536000]) (.int .i64 5)).run Tryz.prog w = .ok (.agg #[.int .u8 121, .int .i64 31536000]) w := by kernel_rfl
theorem un_zero {c : Nat} (h : ∀ j x, j < 6 → utab[j]? = some x → c ≠ x) : un c = 0 := by
  have h0 := h 0 115 (by decide) rfl
  have h1 := h 1 109 (by decide) rfl
  have h2 := h 2 104 (by decide) rfl
  have h3 := h 3 100 (by decide) rfl
  have h4 := h 4 119 (by decide) rfl
  have h5 := h 5 121 (by decide) rfl
  unfold un
  rw [if_neg h0, if_neg h1, if_neg h2, if_neg h3, if_neg h4, if_neg h5]
set_option maxRecDepth 100000 in
set_option maxHeartbeats 2000000 in
theorem unitOf_c (c : Nat) (hc : c ≤ 255) (w : World) (g : G w) :
    Calls Tryz.prog 140 #[.int .u8 (c : Int)] w fun e w' => e = .returned (.tuple #[.int .i64 (if un c = 0 then 1 else un c : Nat), .bool (decide (un c ≠ 0))]) ∧ Below w.heap.size w w' := by
  obtain ⟨U, hU⟩ : ∃ U, (if un c = 0 then 1 else un c : Nat) = U := ⟨_, rfl⟩
  obtain ⟨d, hd⟩ : ∃ d, decide (un c ≠ 0) = d := ⟨_, rfl⟩
  rw [hU, hd]
  have HU := Lib.hid hU; have HD := Lib.hid hd
  obtain ⟨a0, b0⟩ := g.un0
  obtain ⟨a1, b1⟩ := g.un1
  obtain ⟨a2, b2⟩ := g.un2
  obtain ⟨a3, b3⟩ := g.un3
  obtain ⟨a4, b4⟩ := g.un4
  obtain ⟨a5, b5⟩ := g.un5
  have x0 := ix0; have x1 := ix1; have x2 := ix2; have x3 := ix3; have x4 := ix4; have x5 := ix5
  clear hU hd g
  go_enter Tryz.func140, Tryz.ntmps140
  go_wp2
  go_loopw [7] (fun i wr => ∃ k : Nat, k ≤ 6 ∧ i = .int .i64 (([0, 1, 2, 3, 4, 5, 6] : List Int).getD k 0) ∧ Hid ((∀ j x, j < k → utab[j]? = some x → c ≠ x) ∧ Below w.heap.size w wr)) (fun i _ => 6 - (intOf i).toNat)
  case atStart => exact ⟨0, Nat.zero_le _, rfl, fun j x h => absurd h (Nat.not_lt_zero j), Below.refl _ _⟩
  case round =>
    clear a0 b0 a1 b1 a2 b2 a3 b3 a4 b4 a5 b5
    obtain ⟨k, hk, rfl, HI⟩ := hrel
    have NEXT := Lib.hid (show ∀ x, utab[k]? = some x → c ≠ x → ∀ j y, j < k + 1 → utab[j]? = some y → c ≠ y from fun x hx hcx j y hj hy => by
      rcases Nat.lt_or_ge j k with h | h
      · exact HI.out.1 j y h hy
      · obtain rfl : j = k := by omega
        rw [hx] at hy
        obtain rfl := Option.some.inj hy
        exact hcx)
    have BEL := Lib.hid HI.out.2
    have ZERO := Lib.hid (fun (h : k = 6) => un_zero (c := c) (by subst h; exact HI.out.1))
    clear HI
    rcases (show k = 0 ∨ k = 1 ∨ k = 2 ∨ k = 3 ∨ k = 4 ∨ k = 5 ∨ k = 6 by omega) with rfl | rfl | rfl | rfl | rfl | rfl | rfl
    · simp only [List.getD_cons_zero, List.getD_cons_succ]
      by_cases hcx : c = 115
      · obtain rfl : U = 1 := by rw [← HU.out, hcx]; rfl
        obtain rfl : d = true := by rw [← HD.out, hcx]; rfl
        subst hcx
        clear NEXT ZERO
        go_wp2
        go_ret2
        exact ⟨rfl, bnext BEL.out (alloc_below _ _)⟩
      · have NX := Lib.hid (NEXT.out 115 rfl hcx)
        have hci : ((c : Int) == 115) = false := by rw [beq_eq_false_iff_ne]; omega
        have hci2 : ((115 : Int) == (c : Int)) = false := by rw [beq_eq_false_iff_ne]; omega
        clear NEXT ZERO hcx
        go_wp2
        go_roundw
        case rel => exact ⟨1, by decide, rfl, NX.out, bnext BEL.out (alloc_below _ _)⟩
        case measure => simp [intOf]
    · simp only [List.getD_cons_zero, List.getD_cons_succ]
      by_cases hcx : c = 109
      · obtain rfl : U = 60 := by rw [← HU.out, hcx]; rfl
        obtain rfl : d = true := by rw [← HD.out, hcx]; rfl
        subst hcx
        clear NEXT ZERO
        go_wp2
        go_ret2
        exact ⟨rfl, bnext BEL.out (alloc_below _ _)⟩
      · have NX := Lib.hid (NEXT.out 109 rfl hcx)
        have hci : ((c : Int) == 109) = false := by rw [beq_eq_false_iff_ne]; omega
        have hci2 : ((109 : Int) == (c : Int)) = false := by rw [beq_eq_false_iff_ne]; omega
        clear NEXT ZERO hcx
        go_wp2
        go_roundw
        case rel => exact ⟨2, by decide, rfl, NX.out, bnext BEL.out (alloc_below _ _)⟩
        case measure => simp [intOf]
    · simp only [List.getD_cons_zero, List.getD_cons_succ]
      by_cases hcx : c = 104
      · obtain rfl : U = 3600 := by rw [← HU.out, hcx]; rfl
        obtain rfl : d = true := by rw [← HD.out, hcx]; rfl
        subst hcx
        clear NEXT ZERO
        go_wp2
        go_ret2
        exact ⟨rfl, bnext BEL.out (alloc_below _ _)⟩
      · have NX := Lib.hid (NEXT.out 104 rfl hcx)
        have hci : ((c : Int) == 104) = false := by rw [beq_eq_false_iff_ne]; omega
        have hci2 : ((104 : Int) == (c : Int)) = false := by rw [beq_eq_false_iff_ne]; omega
        clear NEXT ZERO hcx
        go_wp2
        go_roundw
        case rel => exact ⟨3, by decide, rfl, NX.out, bnext BEL.out (alloc_below _ _)⟩
        case measure => simp [intOf]
    · simp only [List.getD_cons_zero, List.getD_cons_succ]
      by_cases hcx : c = 100
      · obtain rfl : U = 86400 := by rw [← HU.out, hcx]; rfl
        obtain rfl : d = true := by rw [← HD.out, hcx]; rfl
        subst hcx
        clear NEXT ZERO
        go_wp2
        go_ret2
        exact ⟨rfl, bnext BEL.out (alloc_below _ _)⟩
      · have NX := Lib.hid (NEXT.out 100 rfl hcx)
        have hci : ((c : Int) == 100) = false := by rw [beq_eq_false_iff_ne]; omega
        have hci2 : ((100 : Int) == (c : Int)) = false := by rw [beq_eq_false_iff_ne]; omega
        clear NEXT ZERO hcx
        go_wp2
        go_roundw
        case rel => exact ⟨4, by decide, rfl, NX.out, bnext BEL.out (alloc_below _ _)⟩
        case measure => simp [intOf]
    · simp only [List.getD_cons_zero, List.getD_cons_succ]
      by_cases hcx : c = 119
      · obtain rfl : U = 604800 := by rw [← HU.out, hcx]; rfl
        obtain rfl : d = true := by rw [← HD.out, hcx]; rfl
        subst hcx
        clear NEXT ZERO
        go_wp2
        go_ret2
        exact ⟨rfl, bnext BEL.out (alloc_below _ _)⟩
      · have NX := Lib.hid (NEXT.out 119 rfl hcx)
        have hci : ((c : Int) == 119) = false := by rw [beq_eq_false_iff_ne]; omega
        have hci2 : ((119 : Int) == (c : Int)) = false := by rw [beq_eq_false_iff_ne]; omega
        clear NEXT ZERO hcx
        go_wp2
        go_roundw
        case rel => exact ⟨5, by decide, rfl, NX.out, bnext BEL.out (alloc_below _ _)⟩
        case measure => simp [intOf]
    · simp only [List.getD_cons_zero, List.getD_cons_succ]
      by_cases hcx : c = 121
      · obtain rfl : U = 31536000 := by rw [← HU.out, hcx]; rfl
        obtain rfl : d = true := by rw [← HD.out, hcx]; rfl
        subst hcx
        clear NEXT ZERO
        go_wp2
        go_ret2
        exact ⟨rfl, bnext BEL.out (alloc_below _ _)⟩
      · have NX := Lib.hid (NEXT.out 121 rfl hcx)
        have hci : ((c : Int) == 121) = false := by rw [beq_eq_false_iff_ne]; omega
        have hci2 : ((121 : Int) == (c : Int)) = false := by rw [beq_eq_false_iff_ne]; omega
        clear NEXT ZERO hcx
        go_wp2
        go_roundw
        case rel => exact ⟨6, by decide, rfl, NX.out, bnext BEL.out (alloc_below _ _)⟩
        case measure => simp [intOf]
    · simp only [List.getD_cons_zero, List.getD_cons_succ]
      have hz := ZERO.out rfl
      obtain rfl : U = 1 := by rw [← HU.out, hz]; rfl
      obtain rfl : d = false := by rw [← HD.out, hz]; rfl
      clear NEXT ZERO hz
      go_wp2
      go_ret2
      exact ⟨rfl, BEL.out⟩
end Go.Proofs.YtodlgbihdehmbaaGreatDoor.RP
/-
  Contracts of the program's functions of layer 10: numbers, amounts, spans.
-/
set_option linter.unusedSimpArgs false
set_option linter.unusedVariables false
namespace Go.Proofs.YtodlgbihdehmbaaGreatDoor.RP
open Go.RowKit RR
set_option maxRecDepth 100000 in
set_option maxHeartbeats 1000000 in
theorem number_c (s : ByteArray) (hs : s.size ≤ 9223372036854775807) (w : World) :
    Calls Tryz.prog 141 #[.string s] w fun e w' => e = .returned (.tuple #[.int .i64 (if allD (bs s) = true then capV (bs s) else 0 : Nat), .bool (allD (bs s) && !(bs s).isEmpty)]) ∧ w = w' := by
  obtain ⟨z, hz⟩ : ∃ z, s.toList.isEmpty = z := ⟨_, rfl⟩
  have HZ := Lib.hid (show (bs s).isEmpty = z from by
    rw [← hz, ByteArray.toList_eq]
    simp [bs])
  obtain ⟨A, hA⟩ : ∃ A, (if allD (bs s) = true then capV (bs s) else 0 : Nat) = A := ⟨_, rfl⟩
  obtain ⟨d, hd⟩ : ∃ d, (allD (bs s) && !(bs s).isEmpty) = d := ⟨_, rfl⟩
  rw [hA, hd]
  have HA := Lib.hid hA; have HD := Lib.hid hd
  clear hA hd
  go_enter Tryz.func141, Tryz.ntmps141
  go_wp2
  go_loop [4, 8] (fun n i => ∃ (k : Nat) (N : Int), k ≤ s.size ∧ i = .int .i64 k ∧ n = .int .i64 N ∧ 0 ≤ N ∧ N ≤ 1099511627777 ∧ Hid (N = (capV ((bs s).take k) : Nat) ∧ ∀ j, j < k → isD (byteAt (bs s) j) = true)) (fun _ i => s.size - (intOf i).toNat)
  case atStart => exact ⟨0, 0, Nat.zero_le _, rfl, rfl, by omega, by omega, rfl, fun j h => absurd h (Nat.not_lt_zero j)⟩
  case round =>
    obtain ⟨k, N, hk, rfl, rfl, hN0, hN1, HI⟩ := hrel
    by_cases hlt : k < s.size
    · obtain ⟨c, hc⟩ : ∃ c, byteAt (bs s) k = c := ⟨_, rfl⟩
      have hb : (s[k]'hlt).toNat = c := (at_byte hlt).trans hc
      have hc1 : c ≤ 255 := by rw [← hc]; exact byte_le s k
      have hlt' : k < (bs s).length := by rw [bs_length]; exact hlt
      have HC := Lib.hid hc
      have STOP := Lib.hid (show isD c = false → A = 0 ∧ d = false from fun h => by
        have hn := allD_no hlt' (by rw [hc]; exact h)
        rw [← HA.out, ← HD.out, hn]
        exact ⟨rfl, rfl⟩)
      have hv := capV_snoc ((bs s).take k) c
      rw [← hc, ← take_snoc hlt', hc] at hv
      have HV := Lib.hid hv
      clear hc hlt' hv
      by_cases h1 : 48 ≤ c
      · by_cases h2 : c ≤ 57
        · have hdc := Lib.hid (show isD (c : Int) = true by simp [isD]; omega)
          obtain ⟨M, hM⟩ : ∃ M, min (N * 10 + ((c : Int) - 48)) 1099511627777 = M := ⟨_, rfl⟩
          have hM0 : 0 ≤ M := by omega
          have hM1 : M ≤ 1099511627777 := by omega
          have HMV := Lib.hid (show M = (capV ((bs s).take (k + 1)) : Nat) by
            rw [HV.out]
            have := HI.out.1
            omega)
          go_wp2
          refine ⟨⟨k + 1, M, by omega, by go_num, ?_, hM0, hM1, HMV.out, fun j hj => ?_⟩, by simp [intOf]; omega⟩
          · first
            | (congr 1; done)
            | (congr 1; rw [← hM]; split <;> omega)
          · by_cases he : j = k
            · rw [he, HC.out]; exact hdc.out
            · exact HI.out.2 j (by omega)
        · obtain ⟨rfl, rfl⟩ := STOP.out (by simp [isD]; omega)
          go_wp2
          go_ret2
          exact ⟨rfl, rfl⟩
      · obtain ⟨rfl, rfl⟩ := STOP.out (by simp [isD]; omega)
        go_wp2
        go_ret2
        exact ⟨rfl, rfl⟩
    · obtain rfl : k = s.size := by omega
      have hall : allD (bs s) = true := allD_yes fun j hj => HI.out.2 j (by rw [bs_length] at hj; exact hj)
      have hT : (bs s).take s.size = bs s := by rw [← bs_length, List.take_length]
      have EA := Lib.hid (show N = (A : Int) by rw [← HA.out, if_pos hall, HI.out.1, hT])
      have ED := Lib.hid (show (!z) = d by rw [← HD.out, hall, HZ.out]; rfl)
      clear hall hT
      go_wp2
      go_ret2
      exact ⟨ret_ib EA.out ED.out, rfl⟩
/-- What the program says of an amount. -/
def amP (l : List Nat) : Int × Bool × Bool := match amt l with
  | none => (0, false, false)
  | some (n, s) => ((min n 1099511627777 : Nat), s, true)
theorem ret_ibb {a b : Int} {x y p q : Bool} (h : a = b) (k : x = y) (j : p = q) : Ending.returned (.tuple #[.int .i64 a, .bool x, .bool p]) = .returned (.tuple #[.int .i64 b, .bool y, .bool q]) := by rw [h, k, j]
theorem t40 (u : Nat) : Int.tdiv (1099511627776 : Int) (u : Int) = ((1099511627776 / u : Nat) : Int) := by
  rw [Int.tdiv_eq_ediv_of_nonneg (by decide)]; exact q40 u
theorem far_cap {v u : Nat} (hu : 0 < u) (h : 1099511627776 / u < min v 1099511627777) : min (v * u) 1099511627777 = 1099511627777 := by
  have := span_far hu h; omega
theorem near_cap {v u : Nat} (hu : 0 < u) (h : ¬ 1099511627776 / u < min v 1099511627777) : min v 1099511627777 * u = min (v * u) 1099511627777 ∧ min v 1099511627777 * u ≤ 1099511627776 := by
  obtain ⟨h1, h2⟩ := span_near hu h
  rw [h1]; omega
set_option maxRecDepth 100000 in
set_option maxHeartbeats 2000000 in
theorem amount_c (s : ByteArray) (hs : s.size ≤ 9223372036854775807) (w : World) (g : G w) :
    Calls Tryz.prog 107 #[.string s] w fun e w' => e = .returned (.tuple #[.int .i64 (amP (bs s)).1, .bool (amP (bs s)).2.1, .bool (amP (bs s)).2.2]) ∧ Below w.heap.size w w' := by
  obtain ⟨z, hz⟩ : ∃ z, s.toList.isEmpty = z := ⟨_, rfl⟩
  have HZ := Lib.hid (show z = true ↔ bs s = [] from by rw [← hz]; exact bs_nil_iff s)
  obtain ⟨⟨x1, x2, x3⟩, hX⟩ : ∃ X, amP (bs s) = X := ⟨_, rfl⟩
  have hV : amP (bs s) = match amt (bs s) with
    | none => (0, false, false)
    | some (n, s) => ((min n 1099511627777 : Nat), s, true) := rfl
  rw [hX] at hV ⊢
  have hnone : amt (bs s) = none → x1 = 0 ∧ x2 = false ∧ x3 = false := fun h => by
    rw [h] at hV
    injection hV with h1 h2
    injection h2 with h2 h3
    exact ⟨h1, h2, h3⟩
  have hsome : ∀ n b, amt (bs s) = some (n, b) → x1 = ((min n 1099511627777 : Nat) : Int) ∧ x2 = b ∧ x3 = true := fun n b h => by
    rw [h] at hV
    injection hV with h1 h2
    injection h2 with h2 h3
    exact ⟨h1, h2, h3⟩
  have HN := Lib.hid hnone; have HS := Lib.hid hsome
  clear hV hX hnone hsome
  have nw := fun W => number_c s hs W
  cases z
  · have hne : bs s ≠ [] := fun e => by have := HZ.out.2 e; cases this
    have hp : 0 < s.size := by rw [← bs_length]; exact List.length_pos_iff.2 hne
    have hl : s.size - 1 < s.size := by omega
    obtain ⟨c, hc⟩ : ∃ c, byteAt (bs s) (s.size - 1) = c := ⟨_, rfl⟩
    have hb : (s[s.size - 1]'hl).toNat = c := (at_byte hl).trans hc
    have hc1 : c ≤ 255 := by rw [← hc]; exact byte_le s _
    have hlast : lastB (bs s) = c := by unfold lastB; rw [bs_length, hc]
    have hq1 : (s.size : Int) - 1 = ((s.size - 1 : Nat) : Int) := by omega
    have hin := str_init s
    have hbb : bs (str (bs s).dropLast) = (bs s).dropLast := bs_str (fun c hc => bs_small s c (List.dropLast_subset _ hc))
    have hsz : (str (bs s).dropLast).size ≤ 9223372036854775807 := by rw [str_size, List.length_dropLast, bs_length]; omega
    have nd := fun W => number_c (str (bs s).dropLast) hsz W
    rw [hbb] at nd
    have uw := unitOf_c c hc1 w g
    by_cases hu : un c = 0
    · rw [hu] at uw
      have hA : amt (bs s) = if allD (bs s) = true ∧ bs s ≠ [] then some (val (bs s), false) else none := by
        unfold amt; rw [hlast, if_neg (by rw [hu]; simp)]
      obtain ⟨o, ho⟩ : ∃ o, (allD (bs s) && !(bs s).isEmpty) = o := ⟨_, rfl⟩
      obtain ⟨m, hm⟩ : ∃ m, (if allD (bs s) = true then capV (bs s) else 0 : Nat) = m := ⟨_, rfl⟩
      have hie : (bs s).isEmpty = false := by simpa using hne
      have NONE := Lib.hid (show o = false → x1 = 0 ∧ x2 = false ∧ x3 = false from fun h => HN.out (by
        rw [hA, if_neg]
        rintro ⟨h1, -⟩
        rw [← ho, h1, hie] at h; cases h))
      obtain ⟨v, hv⟩ : ∃ v, val (bs s) = v := ⟨_, rfl⟩
      have SOME := Lib.hid (show o = true → x1 = ((min (v * 1) 1099511627777 : Nat) : Int) ∧ x2 = false ∧ x3 = true from fun h => by
        rw [← ho, Bool.and_eq_true] at h
        rw [Nat.mul_one, ← hv]
        exact HS.out _ _ (by rw [hA, if_pos ⟨h.1, hne⟩]))
      have HMV := Lib.hid (show o = true → min v 1099511627777 = m from fun h => by
        rw [← ho, Bool.and_eq_true] at h
        rw [← hm, if_pos h.1, ← hv]; rfl)
      rw [ho, hm] at nw
      have hm1 : m ≤ 1099511627777 := by rw [← hm]; split; exact capV_le _; omega
      have UP := Lib.hid (show 0 < 1 by decide)
      have UW := Lib.hid uw; have NW := Lib.hid nw
      generalize s.size - 1 = k at *
      clear uw nw nd ho hm hv hA hie hne hbb hsz hin hlast hc HN HS g HZ hu
      go_enter Tryz.func107, Tryz.ntmps107
      go_wp2_with fail
      refine UW.out.mono ?_; rintro _ w1 ⟨rfl, hb1⟩
      have BEL := Lib.hid hb1
      clear hb1 UW
      simp only [if_true, ne_eq, not_true_eq_false, decide_false]
      go_wp2_with fail
      refine (NW.out _).mono ?_; rintro _ w2 ⟨rfl, rfl⟩
      clear NW
      cases o
      · obtain ⟨e1, e2, e3⟩ := NONE.out rfl
        subst e1 e2 e3
        go_wp2
        refine bodyPost_ret (results_tmp3 rfl _ _ _) rfl ?_
        exact ⟨rfl, BEL.out⟩
      · obtain ⟨e1, e2, e3⟩ := SOME.out rfl
        subst e2 e3
        have hmv := HMV.out rfl
        rw [Nat.mul_one, hmv] at e1
        subst e1
        clear hmv
        by_cases hf : 1099511627776 < m
        · have hm2 : m = 1099511627777 := by omega
          have E1 := Lib.hid (show (1099511627777 : Int) = (m : Int) by omega)
          have hfi : (1099511627776 : Int) < (m : Int) := by omega
          clear hm2 hf
          go_wp2
          refine bodyPost_ret (results_tmp3 rfl _ _ _) rfl ?_
          exact ⟨ret_ibb E1.out rfl rfl, BEL.out⟩
        · have hfi : (m : Int) ≤ 1099511627776 := by omega
          clear hf
          go_wp2
          refine bodyPost_ret (results_tmp3 rfl _ _ _) rfl ?_
          exact ⟨rfl, BEL.out⟩
    · rw [if_neg hu, decide_eq_true hu] at uw
      have hA : amt (bs s) = if allD (bs s).dropLast = true ∧ (bs s).dropLast ≠ [] then some (val (bs s).dropLast * un c, true) else none := by
        unfold amt; rw [hlast, if_pos hu]
      obtain ⟨o, ho⟩ : ∃ o, (allD (bs s).dropLast && !(bs s).dropLast.isEmpty) = o := ⟨_, rfl⟩
      obtain ⟨m, hm⟩ : ∃ m, (if allD (bs s).dropLast = true then capV (bs s).dropLast else 0 : Nat) = m := ⟨_, rfl⟩
      have NONE := Lib.hid (show o = false → x1 = 0 ∧ x2 = false ∧ x3 = false from fun h => HN.out (by
        rw [hA, if_neg]
        rintro ⟨h1, h2⟩
        rw [← ho, h1, Bool.true_and] at h
        rw [Bool.not_eq_false', List.isEmpty_iff] at h
        exact h2 h))
      obtain ⟨v, hv⟩ : ∃ v, val (bs s).dropLast = v := ⟨_, rfl⟩
      obtain ⟨U, hU⟩ : ∃ U, un c = U := ⟨_, rfl⟩
      have hU1 : U ≤ 31536000 := by rw [← hU]; exact un_le c
      have UP := Lib.hid (show 0 < U by omega)
      rw [hU] at uw hA
      have SOME := Lib.hid (show o = true → x1 = ((min (v * U) 1099511627777 : Nat) : Int) ∧ x2 = true ∧ x3 = true from fun h => by
        rw [← ho, Bool.and_eq_true] at h
        rw [← hv]
        refine HS.out _ _ (by rw [hA, if_pos ⟨h.1, fun e => ?_⟩])
        rw [e] at h
        exact absurd h.2 (by decide))
      have HMV := Lib.hid (show o = true → min v 1099511627777 = m from fun h => by
        rw [← ho, Bool.and_eq_true] at h
        rw [← hm, if_pos h.1, ← hv]; rfl)
      rw [ho, hm] at nd
      have hm1 : m ≤ 1099511627777 := by rw [← hm]; split; exact capV_le _; omega
      have UI : ((U : Int) == 0) = false := by rw [beq_eq_false_iff_ne]; have := UP.out; omega
      have UW := Lib.hid uw; have ND := Lib.hid nd
      generalize str (bs s).dropLast = D at *
      generalize s.size - 1 = k at *
      clear uw nw nd ho hm hv hA hne hbb hsz hlast hc HN HS g HZ hu hU
      go_enter Tryz.func107, Tryz.ntmps107
      go_wp2_with fail
      refine UW.out.mono ?_; rintro _ w1 ⟨rfl, hb1⟩
      have BEL := Lib.hid hb1
      clear hb1 UW
      go_wp2_with fail
      refine (ND.out _).mono ?_; rintro _ w2 ⟨rfl, rfl⟩
      clear ND
      cases o
      · obtain ⟨e1, e2, e3⟩ := NONE.out rfl
        subst e1 e2 e3
        go_wp2
        refine bodyPost_ret (results_tmp3 rfl _ _ _) rfl ?_
        exact ⟨rfl, BEL.out⟩
      · obtain ⟨e1, e2, e3⟩ := SOME.out rfl
        subst e2 e3
        have hq := q40 U
        have ht := t40 U
        have hU0 : ¬ U = 0 := by have := UP.out; omega
        have hqle : 1099511627776 / U ≤ 1099511627776 := Nat.div_le_self _ _
        have far := far_cap (v := v) (u := U) UP.out
        have near := near_cap (v := v) (u := U) UP.out
        rw [HMV.out rfl] at far near
        generalize 1099511627776 / U = q at *
        by_cases hf : q < m
        · have E1 := Lib.hid (e1.trans (congrArg Int.ofNat (far hf)))
          clear far near e1
          go_wp2
          refine bodyPost_ret (results_tmp3 rfl _ _ _) rfl ?_
          exact ⟨ret_ibb E1.out.symm rfl rfl, BEL.out⟩
        · obtain ⟨n1, n2⟩ := near hf
          have hmi : (m : Int) * (U : Int) ≤ 1099511627776 := by rw [← Int.natCast_mul]; omega
          have hmi0 : (0 : Int) ≤ (m : Int) * (U : Int) := by rw [← Int.natCast_mul]; omega
          have E1 := Lib.hid (show (m : Int) * (U : Int) = x1 by rw [e1, ← n1]; exact (Int.natCast_mul m U).symm)
          generalize hmul : (m : Int) * (U : Int) = MU at *
          clear far near e1 n1 n2
          go_wp2
          refine bodyPost_ret (results_tmp3 rfl _ _ _) rfl ?_
          exact ⟨ret_ibb E1.out rfl rfl, BEL.out⟩
  · have he : bs s = [] := HZ.out.1 rfl
    obtain ⟨rfl, rfl, rfl⟩ := HN.out (by rw [he]; exact amt_nil)
    rw [he] at nw
    have NW := Lib.hid nw
    clear HZ HN HS nw he
    go_enter Tryz.func107, Tryz.ntmps107
    go_wp2_with fail
    refine (NW.out _).mono ?_; rintro _ w2 ⟨rfl, rfl⟩
    go_wp2
    refine bodyPost_ret (results_tmp3 rfl _ _ _) rfl ?_
    exact ⟨rfl, Below.refl _ _⟩
end Go.Proofs.YtodlgbihdehmbaaGreatDoor.RP
/-
  What the library's own words say of texts in the plain words of layer 10: a place of a byte, a cut, blanks.
-/
set_option linter.unusedSimpArgs false
set_option linter.unusedVariables false
namespace Go.Proofs.YtodlgbihdehmbaaGreatDoor
theorem bs_at (s : ByteArray) (k : Nat) : (bs s)[k]? = (s.data.toList[k]?).map (·.toNat) := by unfold bs; rw [List.getElem?_map]
theorem index_part (s : ByteArray) (c : UInt8) : (Lib.indexByte s.data.toList c = -1 ∧ c.toNat ∉ bs s) ∨
    (∃ o : Nat, Lib.indexByte s.data.toList c = (o : Int) ∧ o < s.size ∧ bs s = (bs s).take o ++ c.toNat :: (bs s).drop (o + 1) ∧ c.toNat ∉ (bs s).take o) := by
  have hge := Lib.indexByte_ge s.data.toList c
  by_cases h : Lib.indexByte s.data.toList c = -1
  · refine .inl ⟨h, fun hm => ?_⟩
    obtain ⟨k, hk⟩ := List.getElem?_of_mem hm
    rw [bs_at] at hk
    obtain ⟨b, hb, he⟩ := Option.map_eq_some_iff.1 hk
    exact Lib.indexByte_none h k (by rw [hb]; exact congrArg some (UInt8.toNat_inj.1 he))
  · right
    obtain ⟨o, ho⟩ : ∃ o : Nat, Lib.indexByte s.data.toList c = (o : Int) := ⟨(Lib.indexByte s.data.toList c).toNat, by omega⟩
    obtain ⟨h1, h2⟩ := Lib.indexByte_some ho
    have hlt : o < s.data.toList.length := (List.getElem?_eq_some_iff.1 h1).1
    have hlt2 : o < (bs s).length := by unfold bs; rw [List.length_map]; exact hlt
    have ha : (bs s)[o]? = some c.toNat := by rw [bs_at, h1]; rfl
    refine ⟨o, ho, by rw [← bs_length]; exact hlt2, ?_, fun hm => ?_⟩
    · have e := List.getElem?_eq_getElem hlt2
      rw [ha] at e
      conv => lhs; rw [← List.take_append_drop o (bs s), List.drop_eq_getElem_cons hlt2, ← Option.some.inj e]
    · obtain ⟨k, hk⟩ := List.getElem?_of_mem hm
      rw [List.getElem?_take] at hk
      split at hk
      · rename_i hko
        rw [bs_at] at hk
        obtain ⟨b, hb, he⟩ := Option.map_eq_some_iff.1 hk
        exact h2 k hko (by rw [hb]; exact congrArg some (UInt8.toNat_inj.1 he))
      · cases hk
theorem mk_strU (l : List UInt8) : (⟨l.toArray⟩ : ByteArray) = str (l.map (·.toNat)) := by
  have h := str_bs (⟨l.toArray⟩ : ByteArray)
  have e : bs (⟨l.toArray⟩ : ByteArray) = l.map (·.toNat) := by simp [bs]
  rw [e] at h; exact h.symm
theorem cut_part (s : ByteArray) (c : UInt8) : (c.toNat ∉ bs s ∧ (⟨(Lib.cut s.data.toList [c]).1.toArray⟩ : ByteArray) = str (bs s) ∧ (⟨(Lib.cut s.data.toList [c]).2.1.toArray⟩ : ByteArray) = str []) ∨
    (∃ a b, bs s = a ++ c.toNat :: b ∧ c.toNat ∉ a ∧ (⟨(Lib.cut s.data.toList [c]).1.toArray⟩ : ByteArray) = str a ∧ (⟨(Lib.cut s.data.toList [c]).2.1.toArray⟩ : ByteArray) = str b) := by
  rw [mk_strU, mk_strU]
  unfold Lib.cut
  rw [Lib.index_one]
  rcases index_part s c with ⟨h1, h2⟩ | ⟨o, h1, h2, h3, h4⟩
  · left
    rw [h1, if_neg (by omega)]
    exact ⟨h2, rfl, rfl⟩
  · right
    rw [h1, if_pos (by omega)]
    refine ⟨(bs s).take o, (bs s).drop (o + 1), h3, h4, ?_, ?_⟩
    · congr 1
      show List.map _ (List.take (o : Int).toNat _) = _
      rw [List.map_take]; rfl
    · congr 1
      show List.map _ (List.drop ((o : Int).toNat + [c].length) _) = _
      rw [List.map_drop]; rfl
theorem trimR_cons (c : Nat) (l : List Nat) : trimR (c :: l) = if trimR l = [] then (if c = 32 then [] else [c]) else c :: trimR l := by
  unfold trimR
  rw [List.reverse_cons, List.dropWhile_append]
  by_cases h : (l.reverse.dropWhile (· == 32)) = []
  · have hi : (List.dropWhile (· == 32) l.reverse).isEmpty = true := by rw [h]; rfl
    rw [if_pos hi, if_pos (by rw [h]; rfl)]
    by_cases hc : c = 32
    · subst hc; rfl
    · rw [if_neg hc, List.dropWhile_cons_of_neg (by simpa using hc)]; rfl
  · have hi : ¬ (List.dropWhile (· == 32) l.reverse).isEmpty = true := by rw [List.isEmpty_iff]; exact h
    rw [if_neg hi, if_neg (by rw [List.reverse_eq_nil_iff]; exact h)]
    simp
theorem trim_swap : ∀ l : List Nat, trimL (trimR l) = trimR (trimL l)
  | [] => rfl
  | c :: l => by
    have ih := trim_swap l
    by_cases hc : c = 32
    · have e : trimL (c :: l) = trimL l := List.dropWhile_cons_of_pos (by simpa using hc)
      rw [e, trimR_cons]
      by_cases h : trimR l = []
      · rw [if_pos h, if_pos hc, ← ih, h]
      · rw [if_neg h, ← ih]
        exact List.dropWhile_cons_of_pos (by simpa using hc)
    · have e : trimL (c :: l) = c :: l := List.dropWhile_cons_of_neg (by simpa using hc)
      rw [e, trimR_cons]
      by_cases h : trimR l = []
      · rw [if_pos h, if_neg hc]
        exact List.dropWhile_cons_of_neg (by simpa using hc)
      · rw [if_neg h]
        exact List.dropWhile_cons_of_neg (by simpa using hc)
theorem drop32 : ∀ m : List UInt8, (m.dropWhile (· == 32)).map (·.toNat) = (m.map (·.toNat)).dropWhile (· == 32)
  | [] => rfl
  | d :: m => by
    by_cases h : d = 32
    · subst h
      rw [List.dropWhile_cons_of_pos (by simp), List.map_cons, List.dropWhile_cons_of_pos (by simp), drop32 m]
    · have : ¬ d.toNat = 32 := fun e => h (UInt8.toNat_inj.1 (by rw [e]; rfl))
      rw [List.dropWhile_cons_of_neg (by simpa using h), List.map_cons, List.dropWhile_cons_of_neg (by simpa using this)]
theorem trim_text (s : ByteArray) : (⟨(Lib.trimB s.data.toList 32).toArray⟩ : ByteArray) = str (trimB (bs s)) := by
  rw [mk_strU]
  congr 1
  unfold Lib.trimB Lib.trimLeftB Lib.trimRightB trimB
  rw [drop32, ← trim_swap]
  unfold trimL trimR
  rw [List.map_reverse, drop32, List.map_reverse]; rfl
end Go.Proofs.YtodlgbihdehmbaaGreatDoor
/-
  Contracts of the program's functions of layer 10: Span; an archive's text.
-/
set_option linter.unusedSimpArgs false
set_option linter.unusedVariables false
namespace Go.Proofs.YtodlgbihdehmbaaGreatDoor.RP
open Go.RowKit RR
theorem below_drewN (w : World) (k : Nat) : Below w.heap.size w (w.drewN k) := ⟨rfl, rfl, rfl, Nat.le_refl _, fun _ _ => rfl⟩
theorem am_bd (l : List Nat) : 0 ≤ (amP l).1 ∧ (amP l).1 ≤ 1099511627777 := by
  unfold amP
  split
  · exact ⟨Int.le_refl _, by omega⟩
  · exact ⟨by omega, by omega⟩
theorem spl_two {c : Nat} : ∀ {l : List Nat}, c ∈ l → 2 ≤ (spl c l).length
  | [], h => by cases h
  | x :: l, h => by
    have hp := List.length_pos_iff.2 (spl_ne c l)
    unfold spl
    by_cases hx : x = c
    · rw [if_pos hx, List.length_cons]; omega
    · rw [if_neg hx, List.length_cons, List.length_tail]
      have := spl_two (c := c) (l := l) (by rcases List.mem_cons.1 h with e | e; exact absurd e.symm hx; exact e)
      omega
theorem rg_am {t a b : List Nat} (ht : t = a ++ 58 :: b) (ha : 58 ∉ a) :
    rgV t = if (amP a).2.2 = false ∨ (amP b).2.2 = false then ((0, 0), 7) else if (amP a).1 = 0 ∨ (amP a).1 = 1099511627777 ∨ (amP b).1 = 1099511627777 then ((0, 0), 3) else (((amP a).1, if (amP b).2.1 then (amP b).1 / (amP a).1 else (amP b).1), 0) := by
  by_cases hb : 58 ∈ b
  · have hn : amP b = (0, false, false) := by
      unfold amP
      rw [amt_colon hb (by decide) (by decide)]
    rw [hn, if_pos (.inr rfl)]
    refine rg_other ?_
    rw [ht, spl_at _ ha, List.length_cons]
    have := spl_two hb
    omega
  · have hs : spl 58 t = [a, b] := by rw [ht, spl_at _ ha, spl_no hb]
    have hr : rgV t = match amt a, amt b with
      | some (x, _), some (y, s) => if x = 0 ∨ 1099511627776 < x ∨ 1099511627776 < y then ((0, 0), 3) else (((x : Int), if s then (y : Int) / (x : Int) else (y : Int)), 0)
      | _, _ => ((0, 0), 7) := by unfold rgV; rw [hs]; rfl
    rw [hr]
    unfold amP
    cases amt a with
    | none => rfl
    | some A =>
      obtain ⟨m, r⟩ := A
      cases amt b with
      | none => rfl
      | some B =>
        obtain ⟨n, s⟩ := B
        simp only
        rw [if_neg (by simp : ¬ (true = false ∨ true = false))]
        by_cases h : m = 0 ∨ 1099511627776 < m ∨ 1099511627776 < n
        · rw [if_pos h, if_pos (by omega)]
        · have n3 : ¬ (((min m 1099511627777 : Nat) : Int) = 0 ∨ ((min m 1099511627777 : Nat) : Int) = 1099511627777 ∨ ((min n 1099511627777 : Nat) : Int) = 1099511627777) := by omega
          rw [if_neg h, if_neg n3, show min m 1099511627777 = m from by omega, show min n 1099511627777 = n from by omega]
theorem cut_c (s : ByteArray) (hs : s.size ≤ 100000) (w : World) (g : G w) :
    Calls Tryz.prog 86 #[.string s, .string ⟨#[58]⟩] w fun e w' => (∃ a b z, e = .returned (.tuple #[.string (str a), .string (str b), .bool z]) ∧ ((58 ∉ bs s ∧ a = bs s ∧ b = []) ∨ (bs s = a ++ 58 :: b ∧ 58 ∉ a))) ∧ Below w.heap.size w w' := by
  obtain ⟨m, hm⟩ := g.len
  refine (Tryz.strings_Cut s ⟨#[58]⟩ m w (by omega) hm).mono ?_
  rintro e w' ⟨rfl, n, rfl⟩
  refine ⟨?_, below_drewN _ _⟩
  rcases cut_part s 58 with ⟨h1, h2, h3⟩ | ⟨a, b, h1, h2, h3, h4⟩
  · exact ⟨bs s, [], _, by rw [← h2, ← h3], .inl ⟨h1, rfl, rfl⟩⟩
  · exact ⟨a, b, _, by rw [← h3, ← h4], .inr ⟨h1, h2⟩⟩
theorem rung_cells (w : World) (b : Nat) (x y : Value) (u0 u1 : Value) (h0 : w.cell? ⟨b, 0, none⟩ = some u0) (h1 : w.cell? ⟨b, 1, none⟩ = some u1) :
    ((w.setCell ⟨b, 0, none⟩ x).setCell ⟨b, 1, none⟩ y).cell? ⟨b, 0, none⟩ = some x ∧ ((w.setCell ⟨b, 0, none⟩ x).setCell ⟨b, 1, none⟩ y).cell? ⟨b, 1, none⟩ = some y :=
  ⟨(World.cell?_setCell_other _ _ _ _ (by simp)).trans (World.cell?_setCell_same _ _ _ h0), World.cell?_setCell_same _ _ _ ((World.cell?_setCell_other _ _ _ _ (by simp)).trans h1)⟩
set_option maxRecDepth 100000 in
set_option maxHeartbeats 2000000 in
theorem rung_c (s : ByteArray) (hs : s.size ≤ 100000) (w : World) (g : G w) :
    Calls Tryz.prog 79 #[.string s] w fun e w' => e = .returned (.tuple #[.agg #[.int .i64 (rgV (bs s)).1.1, .int .i64 (rgV (bs s)).1.2], .int .i64 (rgV (bs s)).2]) ∧ Below w.heap.size w w' := by
  have hc := cut_c s hs (w.alloc (.cells #[.int .i64 0, .int .i64 0] 49)) (g.alloc _)
  obtain ⟨⟨⟨p, q⟩, r⟩, hR⟩ : ∃ R, rgV (bs s) = R := ⟨_, rfl⟩
  rw [hR]
  simp only
  have HR := Lib.hid hR; have HC := Lib.hid hc; have GG := Lib.hid g
  have HZ := Lib.hid hs
  clear hR hc g hs
  go_enter Tryz.func79, Tryz.ntmps79
  go_wp2_with fail
  refine HC.out.mono ?_; rintro _ w1 ⟨⟨a, b, z, rfl, hab⟩, hb1⟩
  have hal : a.length ≤ 100000 ∧ b.length ≤ 100000 ∧ (∀ c ∈ a, c < 256) ∧ (∀ c ∈ b, c < 256) := by
    have h8 := bs_small s
    have hl := bs_length s
    have := HZ.out
    rcases hab with ⟨_, rfl, rfl⟩ | ⟨h, _⟩
    · exact ⟨by omega, by simp, h8, fun c hc => by cases hc⟩
    · rw [h] at h8 hl
      rw [List.length_append, List.length_cons] at hl
      exact ⟨by omega, by omega, fun c hc => h8 c (by simp [hc]), fun c hc => h8 c (by simp [hc])⟩
  obtain ⟨la, lb, a8, b8⟩ := hal
  have HB1 := Lib.hid (bnext (alloc_below w (.cells #[.int .i64 0, .int .i64 0] 49)) hb1)
  have hlt1 : w.heap.size < w1.heap.size := by have := hb1.size; simp at this; omega
  have g1 := GG.out.below HB1.out
  have aA := amount_c (str a) (by rw [str_size]; omega) w1 g1
  rw [bs_str a8] at aA
  have aB := fun W gW => amount_c (str b) (by rw [str_size]; omega) W gW
  rw [bs_str b8] at aB
  have k0 : w1.cell? ⟨w.heap.size, 0, none⟩ = some (.int .i64 0) ∧ w1.cell? ⟨w.heap.size, 1, none⟩ = some (.int .i64 0) := ⟨(hb1.cell (by simp)).trans (by simp [go_sem]), (hb1.cell (by simp)).trans (by simp [go_sem])⟩
  have f0 : w1.frozen? ⟨w.heap.size, 0, none⟩ = false ∧ w1.frozen? ⟨w.heap.size, 1, none⟩ = false := ⟨(hb1.frozen (by simp)).trans (by simp [go_sem]), (hb1.frozen (by simp)).trans (by simp [go_sem])⟩
  have RG := Lib.hid (show (amP b).2.2 = false ∨ (bs s = a ++ 58 :: b ∧ 58 ∉ a) from by
    rcases hab with ⟨_, _, rfl⟩ | h
    · exact .inl (by decide)
    · exact .inr h)
  have R7 := Lib.hid (show (amP b).2.2 = false → ((p, q), r) = ((0, 0), 7) from fun h => by
    rw [← HR.out]
    rcases hab with ⟨hn, _, _⟩ | ⟨h1, h2⟩
    · exact rg_other (by rw [spl_no hn]; simp)
    · rw [rg_am h1 h2, if_pos (.inr h)])
  have RM := Lib.hid (show (bs s = a ++ 58 :: b ∧ 58 ∉ a) → ((p, q), r) = _ from fun h => HR.out.symm.trans (rg_am h.1 h.2))
  obtain ⟨x0, x1⟩ := am_bd a
  obtain ⟨y0, y1⟩ := am_bd b
  obtain ⟨⟨x, sx, ox⟩, hx⟩ : ∃ X, amP a = X := ⟨_, rfl⟩
  obtain ⟨⟨y, sy, oy⟩, hy⟩ : ∃ X, amP b = X := ⟨_, rfl⟩
  rw [hx] at x0 x1 aA
  rw [hy] at y0 y1 aB
  rw [hx, hy] at RM
  rw [hy] at R7 RG
  simp only at x0 x1 y0 y1 aA aB
  have AA := Lib.hid aA; have AB := Lib.hid aB; have G1 := Lib.hid g1
  generalize str a = SA at *
  generalize str b = SB at *
  clear hx hy aA aB g1 hb1 la lb a8 b8 hab HZ HC GG
  go_wp2_with fail
  refine AA.out.mono ?_; rintro _ w2 ⟨rfl, hb2⟩
  go_wp2_with fail
  refine (AB.out _ (G1.out.below hb2)).mono ?_; rintro _ w3 ⟨rfl, hb3⟩
  have hb13 := bnext hb2 hb3
  have k3 : w3.cell? ⟨w.heap.size, 0, none⟩ = some (.int .i64 0) ∧ w3.cell? ⟨w.heap.size, 1, none⟩ = some (.int .i64 0) := ⟨cellb hb13 k0.1, cellb hb13 k0.2⟩
  have f3 : w3.frozen? ⟨w.heap.size, 0, none⟩ = false ∧ w3.frozen? ⟨w.heap.size, 1, none⟩ = false := ⟨(hb13.frozen hlt1).trans f0.1, (hb13.frozen hlt1).trans f0.2⟩
  have HB3 := Lib.hid (bnext HB1.out hb13)
  obtain ⟨k30, k31⟩ := k3
  obtain ⟨f30, f31⟩ := f3
  clear hb2 hb3 hb13 k0 f0 AA AB G1 HB1
  have FIN := Lib.hid (show ∀ (X Y : Int), Below w.heap.size w ((w3.setCell ⟨w.heap.size, 0, none⟩ (.int .i64 X)).setCell ⟨w.heap.size, 1, none⟩ (.int .i64 Y)) ∧ _ from fun X Y => ⟨(HB3.out.setCell (Nat.le_refl _) _).setCell (Nat.le_refl _) _, rung_cells w3 w.heap.size (.int .i64 X) (.int .i64 Y) _ _ k30 k31⟩)
  have ovr : ∀ {a b c : Int}, ((p, q), r) = ((a, b), c) → Hid (a = p ∧ b = q ∧ c = r) := fun h => by
    injection h with h1 h2
    injection h1 with h1 h3
    exact Lib.hid ⟨h1.symm, h3.symm, h2.symm⟩
  cases oy
  · cases ox
    · have F := ovr (R7.out rfl)
      obtain ⟨lb, c0, c1⟩ := FIN.out 0 0
      clear ovr RG R7 RM
      go_wp2
      obtain ⟨e1, e2, e3⟩ := F.out
      subst e1 e2 e3
      exact bodyPost_ret (v := .tuple #[.agg #[.int .i64 0, .int .i64 0], .int .i64 7]) (by simp [results, Tryz.results79, go_sem, c0, c1]) rfl ⟨rfl, lb⟩
    · have F := ovr (R7.out rfl)
      obtain ⟨lb, c0, c1⟩ := FIN.out 0 0
      clear ovr RG R7 RM
      go_wp2
      obtain ⟨e1, e2, e3⟩ := F.out
      subst e1 e2 e3
      exact bodyPost_ret (v := .tuple #[.agg #[.int .i64 0, .int .i64 0], .int .i64 7]) (by simp [results, Tryz.results79, go_sem, c0, c1]) rfl ⟨rfl, lb⟩
  · have rm := RM.out (by
      rcases RG.out with h | h
      · cases h
      · exact h)
    cases ox
    · have F := ovr (rm.trans (if_pos (.inl rfl)))
      obtain ⟨lb, c0, c1⟩ := FIN.out 0 0
      clear ovr RG R7 RM
      go_wp2
      obtain ⟨e1, e2, e3⟩ := F.out
      subst e1 e2 e3
      exact bodyPost_ret (v := .tuple #[.agg #[.int .i64 0, .int .i64 0], .int .i64 7]) (by simp [results, Tryz.results79, go_sem, c0, c1]) rfl ⟨rfl, lb⟩
    · rw [if_neg (by simp : ¬ (true = false ∨ true = false))] at rm
      by_cases h0 : x = 0
      · have h0b : (x == 0) = true := by rw [h0]; rfl
        have F := ovr (rm.trans (if_pos (.inl h0)))
        obtain ⟨lb, c0, c1⟩ := FIN.out 0 0
        clear ovr RG R7 RM
        go_wp2
        obtain ⟨e1, e2, e3⟩ := F.out
        subst e1 e2 e3
        exact bodyPost_ret (v := .tuple #[.agg #[.int .i64 0, .int .i64 0], .int .i64 3]) (by simp [results, Tryz.results79, go_sem, c0, c1]) rfl ⟨rfl, lb⟩
      · have h0b : (x == 0) = false := beq_false_of_ne h0
        by_cases h1 : x = 1099511627777
        · have h1b : (x == 1099511627777) = true := by rw [h1]; rfl
          have F := ovr (rm.trans (if_pos (.inr (.inl h1))))
          obtain ⟨lb, c0, c1⟩ := FIN.out 0 0
          clear ovr RG R7 RM
          go_wp2
          obtain ⟨e1, e2, e3⟩ := F.out
          subst e1 e2 e3
          exact bodyPost_ret (v := .tuple #[.agg #[.int .i64 0, .int .i64 0], .int .i64 3]) (by simp [results, Tryz.results79, go_sem, c0, c1]) rfl ⟨rfl, lb⟩
        · have h1b : (x == 1099511627777) = false := beq_false_of_ne h1
          by_cases h2 : y = 1099511627777
          · have h2b : (y == 1099511627777) = true := by rw [h2]; rfl
            have F := ovr (rm.trans (if_pos (.inr (.inr h2))))
            obtain ⟨lb, c0, c1⟩ := FIN.out 0 0
            clear ovr RG R7 RM
            go_wp2
            obtain ⟨e1, e2, e3⟩ := F.out
            subst e1 e2 e3
            exact bodyPost_ret (v := .tuple #[.agg #[.int .i64 0, .int .i64 0], .int .i64 3]) (by simp [results, Tryz.results79, go_sem, c0, c1]) rfl ⟨rfl, lb⟩
          · have h2b : (y == 1099511627777) = false := beq_false_of_ne h2
            have rm2 := rm.trans (if_neg (by omega))
            clear rm
            cases sy
            · have F := ovr rm2
              obtain ⟨lb, c0, c1⟩ := FIN.out x y
              clear ovr RG R7 RM
              go_wp2
              obtain ⟨e1, e2, e3⟩ := F.out
              subst e1 e2 e3
              exact bodyPost_ret (v := .tuple #[.agg #[.int .i64 x, .int .i64 y], .int .i64 0]) (by simp [results, Tryz.results79, go_sem, c0, c1]) rfl ⟨rfl, lb⟩
            · have xp : 0 < x := by omega
              obtain ⟨D, hD⟩ : ∃ D, y / x = D := ⟨_, rfl⟩
              have rm3 : ((p, q), r) = ((x, D), 0) := by rw [rm2, ← hD]; rfl
              clear rm2
              have F := ovr rm3
              obtain ⟨lb, c0, c1⟩ := FIN.out x D
              clear ovr RG R7 RM
              go_wp2
              obtain ⟨e1, e2, e3⟩ := F.out
              subst e1 e2 e3
              exact bodyPost_ret (v := .tuple #[.agg #[.int .i64 x, .int .i64 D], .int .i64 0]) (by simp [results, Tryz.results79, go_sem, c0, c1]) rfl ⟨rfl, lb⟩
end Go.Proofs.YtodlgbihdehmbaaGreatDoor.RP
/-
  strings.SplitSeq at a comma: what it hands back goes through a text's parts, one by one, and keeps its place in a variable of its own.
-/
set_option linter.unusedSimpArgs false
set_option linter.unusedVariables false
namespace Go.Proofs.YtodlgbihdehmbaaGreatDoor.RP
open Go.RowKit Go.Shelf RR
theorem index_c (s : ByteArray) (c : UInt8) (w : World) : Calls Tryz.prog 139 #[.string s, .string ⟨#[c]⟩] w fun e w' => e = .returned (.int .i64 (Lib.indexByte s.data.toList c)) ∧ w' = w := by
  have h := Lib.hid (Tryz.stringslite_Index_one s c w)
  generalize Lib.indexByte s.data.toList c = i at *
  generalize (ByteArray.mk #[c]) = C at *
  go_enter Tryz.func139, Tryz.ntmps139
  go_wp2_with fail
  refine h.out.mono ?_; rintro _ w1 ⟨rfl, rfl⟩
  go_wp2
  go_ret
  exact ⟨rfl, rfl⟩
/-- How much is left. -/
def leftAt (B : Nat) (w : World) : Nat := match w.cell? ⟨B, 0, none⟩ with
  | some (.string r) => r.size
  | _ => 0
theorem leftAt_eq {B : Nat} {w : World} {r : ByteArray} (h : w.cell? ⟨B, 0, none⟩ = some (.string r)) : leftAt B w = r.size := by unfold leftAt; rw [h]
theorem cell_keepB {S : Nat → Prop} {w w' : World} (h : KeepB S w w') {b o : Nat} (hb : S b) : w'.cell? ⟨b, o, none⟩ = w.cell? ⟨b, o, none⟩ := World.cell?_of_block (h b hb)
theorem frozen_keepB {S : Nat → Prop} {w w' : World} (h : KeepB S w w') {b o : Nat} (hb : S b) : w'.frozen? ⟨b, o, none⟩ = w.frozen? ⟨b, o, none⟩ := World.frozen?_of_block (h b hb)
theorem yield_str {F : Fence} {m : Nat} {P : Program} {l : Nat} {v v' : Value} {W : World} {R : Ending → World → Prop} (h : YieldAt F m P l #[v] W R) (he : v = v') : YieldAt F m P l #[v'] W R := he ▸ h
attribute [local go_sem] Oper.semAt_some
set_option maxRecDepth 100000 in
set_option maxHeartbeats 2000000 in
theorem seq_iter (n B : Nat) (hn : 1 ≤ n) (s : ByteArray) (hs : s.size ≤ 100000) (w : World)
    (h0 : w.cell? ⟨B, 0, none⟩ = some (.string s)) (f0 : w.frozen? ⟨B, 0, none⟩ = false) (h1 : w.cell? ⟨B + 1, 0, none⟩ = some (.string ⟨#[44]⟩)) (h2 : w.cell? ⟨B + 2, 0, none⟩ = some (.int .i64 0)) :
    Iter Fence.wide n Tryz.prog 137 #[.pointer (some ⟨B + 1, 0, none⟩), .pointer (some ⟨B, 0, none⟩), .pointer (some ⟨B + 2, 0, none⟩)] (fun p : List Nat => .string (str p)) B (spl 44 (bs s)) w := by
  intro l J Jx W hK hBs hJ hY hJ0
  have c0 := (cell_keepB hK (o := 0) (b := B) ⟨Nat.le_refl _, by omega⟩).trans h0
  have c1 := (cell_keepB hK (o := 0) (b := B + 1) ⟨by omega, by omega⟩).trans h1
  have c2 := (cell_keepB hK (o := 0) (b := B + 2) ⟨by omega, by omega⟩).trans h2
  have g0 := (frozen_keepB hK (o := 0) (b := B) ⟨Nat.le_refl _, by omega⟩).trans f0
  obtain ⟨xs, hxs⟩ : ∃ xs, spl 44 (bs s) = xs := ⟨_, rfl⟩
  rw [hxs] at hY ⊢
  have HJ := Lib.hid hJ; have HY := Lib.hid hY
  have ST := Lib.hid (show (xs = [] ++ spl 44 (bs s)) ∧ W.cell? ⟨B, 0, none⟩ = some (.string s) ∧ s.size ≤ 100000 ∧ W.frozen? ⟨B, 0, none⟩ = false ∧ W.cell? ⟨B + 1, 0, none⟩ = some (.string ⟨#[44]⟩) ∧ W.cell? ⟨B + 2, 0, none⟩ = some (.int .i64 0) ∧ J [] W from ⟨hxs.symm, c0, hs, g0, c1, c2, hJ0⟩)
  obtain ⟨C, hC⟩ : ∃ C, (ByteArray.mk #[44]) = C := ⟨_, rfl⟩
  have hCs : C.size = 1 := by rw [← hC]; rfl
  rw [hC] at c1
  have HC := Lib.hid hC
  clear hJ hY hK h0 f0 h1 h2 hs hxs hC hBs hJ0
  refine callsIn_of_wp Tryz.func137 rfl trivial ?_ rfl
  simp only [Tryz.ntmps137, List.size_toArray, List.length_cons, List.length_nil, Nat.reduceAdd, Nat.reduceSub, Array.replicate_succ, Array.replicate_zero, List.push_toArray, List.append_toArray, List.nil_append, List.cons_append]
  gi_wp2_with fail
  gi_loopw [7] (fun _ wr => ∃ (pre : List (List Nat)) (r : ByteArray), Hid (xs = pre ++ spl 44 (bs r)) ∧ wr.cell? ⟨B, 0, none⟩ = some (.string r) ∧ r.size ≤ 100000 ∧ wr.frozen? ⟨B, 0, none⟩ = false ∧ wr.cell? ⟨B + 1, 0, none⟩ = some (.string C) ∧ wr.cell? ⟨B + 2, 0, none⟩ = some (.int .i64 0) ∧ Hid (J pre wr)) (fun _ wr => leftAt B wr)
  case atStart =>
    obtain ⟨q1, q2, q3, q4, q5, q6, q7⟩ := ST.out
    exact ⟨[], s, Lib.hid q1, q2, q3, q4, by rw [← HC.out]; exact q5, q6, Lib.hid q7⟩
  case round =>
    clear ST c0 c1 c2 g0
    obtain ⟨pre, r, HX, r0, hr, rf, r1, r2, HJ0⟩ := hrel
    have ix := fun X => index_c r 44 X
    rw [HC.out] at ix
    have LE := leftAt_eq r0
    rcases index_part r 44 with ⟨hi, hno⟩ | ⟨o, hi, ho, hsp, hno⟩
    · have hx1 : spl 44 (bs r) = [bs r] := spl_no hno
      have hX2 : xs = pre ++ [bs r] := by rw [HX.out, hx1]
      have hy := yield_str (HY.out pre (bs r) wr HJ0.out (by rw [hX2]; exact List.prefix_rfl)) (v' := .string r) (by show Value.string (str (bs r)) = _; rw [str_bs])
      obtain ⟨fn, tmps, assign, body, hyy, hR⟩ := hy
      rw [hi] at ix
      have IX := Lib.hid ix; have HX2 := Lib.hid hX2; have HRR := Lib.hid hR
      clear ix hx1 hX2 hi hno hR HY HX
      gi_wp2_with (refine ⟨trivial, ?_⟩; gi_at_call 139; refine (callsIn_wide.2 (IX.out _)).mono ?_; rintro _ w1 ⟨rfl, rfl⟩)
      refine HRR.out.mono ?_
      rintro e W3 (⟨rfl, hJ3, hk3, hz3⟩ | ⟨rfl, hJx3⟩)
      · gi_wp2
        go_end0
        exact ⟨⟨_, rfl⟩, .inl (by rw [HX2.out]; exact hJ3)⟩
      · gi_wp2
        go_end0
        exact ⟨⟨_, rfl⟩, .inr ⟨_, hJx3⟩⟩
    · obtain ⟨x, hxd⟩ : ∃ x, (bs r).take o = x := ⟨_, rfl⟩
      have hso : spl 44 (bs r) = x :: spl 44 ((bs r).drop (o + 1)) := by
        conv => lhs; rw [hsp]
        rw [hxd] at hno ⊢
        exact spl_at _ hno
      have hbr : bs (str ((bs r).drop (o + 1))) = (bs r).drop (o + 1) := bs_str (fun c hc => bs_small r c (List.mem_of_mem_drop hc))
      have hst : r.extract 0 o = str x := by
        have e : r = str (bs r) := (str_bs r).symm
        have h1 : (str (bs r)).extract 0 o = str x := by rw [str_extract, List.drop_zero, Nat.sub_zero, hxd]
        rwa [← e] at h1
      have hst2 : r.extract (o + 1) r.size = str ((bs r).drop (o + 1)) := by
        have e : r = str (bs r) := (str_bs r).symm
        have h1 : (str (bs r)).extract (o + 1) r.size = str ((bs r).drop (o + 1)) := by
          rw [str_extract, List.take_of_length_le (by rw [List.length_drop, bs_length]; exact Nat.le_refl _)]
        rwa [← e] at h1
      have hts : (str ((bs r).drop (o + 1))).size = r.size - (o + 1) := by rw [str_size, List.length_drop, bs_length]
      rw [← hbr] at hso
      generalize str ((bs r).drop (o + 1)) = T at *
      have hX2 : xs = (pre ++ [x]) ++ spl 44 (bs T) := by rw [HX.out, hso, List.append_assoc]; rfl
      have hy := HY.out pre x wr HJ0.out (by rw [hX2]; exact List.prefix_append _ _)
      obtain ⟨fn, tmps, assign, body, hyy, hR⟩ := hy
      generalize hXS : str x = XS at *
      rw [hi] at ix
      have IX := Lib.hid ix; have HX2 := Lib.hid hX2; have HRR := Lib.hid hR
      have oi0 : (0 : Int) ≤ (o : Int) := by omega
      clear ix hX2 hi hno hR HX hso hbr hsp hxd
      gi_wp2_with (refine ⟨trivial, ?_⟩; gi_at_call 139; refine (callsIn_wide.2 (IX.out _)).mono ?_; rintro _ w1 ⟨rfl, rfl⟩)
      refine HRR.out.mono ?_
      rintro e W3 (⟨rfl, hJ3, hk3, hz3⟩ | ⟨rfl, hJx3⟩)
      · have k0 := (cell_keepB hk3 (o := 0) (b := B) ⟨Nat.le_refl _, by omega⟩).trans r0
        have k1 := (cell_keepB hk3 (o := 0) (b := B + 1) ⟨by omega, by omega⟩).trans r1
        have k2 := (cell_keepB hk3 (o := 0) (b := B + 2) ⟨by omega, by omega⟩).trans r2
        have kf := (frozen_keepB hk3 (o := 0) (b := B) ⟨Nat.le_refl _, by omega⟩).trans rf
        have J3 := Lib.hid hJ3
        clear hk3 hJ3
        gi_wp2
        have e0 := World.cell?_setCell_same W3 ⟨B, 0, none⟩ (.string T) k0
        refine ⟨⟨pre ++ [x], T, HX2, e0, by omega, by rw [World.frozen?_setCell]; exact kf, (World.cell?_setCell_other _ _ _ _ (by simp)).trans k1, (World.cell?_setCell_other _ _ _ _ (by simp)).trans k2, Lib.hid (HJ.out _ _ _ J3.out (Turns.setCell W3 B 0 (.string T)))⟩, ?_⟩
        rw [leftAt_eq e0, LE]
        omega
      · gi_wp2
        refine bodyPost_ret (results_none rfl _ _ _) rfl ?_
        exact ⟨⟨_, rfl⟩, .inr ⟨_, hJx3⟩⟩
end Go.Proofs.YtodlgbihdehmbaaGreatDoor.RP
/-
  Contracts of the program's functions of layer 10: Parse, what its walk wants.
-/
set_option linter.unusedSimpArgs false
set_option linter.unusedVariables false
namespace Go.Proofs.YtodlgbihdehmbaaGreatDoor.RP
open Go.RowKit Go.Shelf RR
theorem splitSeq_c (s sep : ByteArray) (w : World) : Calls Tryz.prog 106 #[.string s, .string sep, .int .i64 0] w fun e w' => e = .returned (.func (.func 137) #[] #[.pointer (some ⟨w.heap.size + 1, 0, none⟩), .pointer (some ⟨w.heap.size, 0, none⟩), .pointer (some ⟨w.heap.size + 2, 0, none⟩)]) ∧ w' = ((w.alloc (.cells #[.string s] 9)).alloc (.cells #[.string sep] 9)).alloc (.cells #[.int .i64 0] 3) := by
  go_enter Tryz.func106, Tryz.ntmps106
  go_wp2
  go_ret
  exact ⟨rfl, rfl⟩
theorem seq_c (s sep : ByteArray) (w : World) : Calls Tryz.prog 78 #[.string s, .string sep] w fun e w' => e = .returned (.func (.func 137) #[] #[.pointer (some ⟨w.heap.size + 1, 0, none⟩), .pointer (some ⟨w.heap.size, 0, none⟩), .pointer (some ⟨w.heap.size + 2, 0, none⟩)]) ∧ w' = ((w.alloc (.cells #[.string s] 9)).alloc (.cells #[.string sep] 9)).alloc (.cells #[.int .i64 0] 3) := by
  have h := Lib.hid (splitSeq_c s sep w)
  go_enter Tryz.func78, Tryz.ntmps78
  go_wp2_with fail
  refine h.out.mono ?_; rintro _ w1 ⟨rfl, rfl⟩
  go_wp2
  go_ret
  exact ⟨rfl, rfl⟩
theorem trim_c (s : ByteArray) (hs : s.size ≤ 100000) (w : World) : Calls Tryz.prog 80 #[.string s, .string ⟨#[32]⟩] w fun e w' => e = .returned (.string (str (trimB (bs s)))) ∧ Below w.heap.size w w' := by
  refine (Tryz.strings_Trim_one s 32 (by decide) w (by omega)).mono ?_
  rintro e w' ⟨rfl, h⟩
  refine ⟨by rw [trim_text], ?_⟩
  rcases h with rfl | rfl
  · exact Below.refl _ _
  · exact (Below.refl _ _).drew
/-- The blocks that a round may turn: the call's own variables, and what is laid behind the loop's own. -/
def Free (N k : Nat) : Prop := (N ≤ k ∧ k < N + 4) ∨ N + 9 ≤ k
/-- While the parts are gone through. -/
structure PI (w : World) (pre : List (List Nat)) (v : Value) (L : List (Int × Int)) (ok : Bool) (W : World) : Prop where
  low : Below w.heap.size w W
  r0 : W.cell? ⟨w.heap.size, 0, none⟩ = some (.slice none 0 0) ∧ W.frozen? ⟨w.heap.size, 0, none⟩ = false
  r1 : W.cell? ⟨w.heap.size + 1, 0, none⟩ = some (.int .i64 0) ∧ W.frozen? ⟨w.heap.size + 1, 0, none⟩ = false
  l : W.cell? ⟨w.heap.size + 2, 0, none⟩ = some v ∧ W.frozen? ⟨w.heap.size + 2, 0, none⟩ = false
  k : W.cell? ⟨w.heap.size + 3, 0, none⟩ = some (.bool ok) ∧ W.frozen? ⟨w.heap.size + 3, 0, none⟩ = false
  row : RgNew (w.heap.size + 9) W v L
  sev : ∀ r ∈ rsV pre, r.2 ≠ 7
  ran : ok = decide (worstV (rsV pre) = 0)
  lst : L = ((rsV pre).map (·.1)).take 5
theorem PI.turn {w W W' : World} {pre : List (List Nat)} {v : Value} {L : List (Int × Int)} {ok : Bool} {S : Nat → Prop} (h : PI w pre v L ok W) (t : Turns S W W') (hS : ∀ k, S k → w.heap.size + 4 ≤ k ∧ k < w.heap.size + 9) (hz : w.heap.size ≤ W.heap.size) : PI w pre v L ok W' := by
  have no : ∀ k, k < w.heap.size + 4 → ¬ S k := fun k hk hs => by have := hS k hs; omega
  have cf : ∀ {k : Nat} {u : Value}, k < w.heap.size + 4 → W.cell? ⟨k, 0, none⟩ = some u ∧ W.frozen? ⟨k, 0, none⟩ = false → W'.cell? ⟨k, 0, none⟩ = some u ∧ W'.frozen? ⟨k, 0, none⟩ = false := fun hk h => ⟨t.cell h.1 (no _ hk), (t.frozen (no _ hk) (World.block_lt_of_cell? W _ h.1)).trans h.2⟩
  exact ⟨t.low h.low hz (fun k hs => by have := hS k hs; omega), cf (by omega) h.r0, cf (by omega) h.r1, cf (by omega) h.l, cf (by omega) h.k, h.row.keep (fun g hg hl _ => t.block g hl (fun hs => by have := hS g hs; omega)), h.sev, h.ran, h.lst⟩
theorem PI.lt {w W : World} {pre : List (List Nat)} {v : Value} {L : List (Int × Int)} {ok : Bool} (h : PI w pre v L ok W) : w.heap.size + 4 ≤ W.heap.size := by
  have := World.block_lt_of_cell? W _ h.k.1
  simp only at this
  omega
theorem worst_pre (pre : List (List Nat)) (x : List Nat) : worstV (rsV (pre ++ [x])) = if (rgV (trimB x)).2 = 3 then 3 else worstV (rsV pre) := by
  unfold rsV
  rw [List.map_append]
  exact worst_snoc _ _
theorem rsV_pre (pre : List (List Nat)) (x : List Nat) : rsV (pre ++ [x]) = rsV pre ++ [rgV (trimB x)] := by unfold rsV; rw [List.map_append]; rfl
theorem chain7 (w : World) (o0 o1 o2 o3 o4 o5 o6 : Obj) :
    (((((((w.alloc o0).alloc o1).alloc o2).alloc o3).alloc o4).alloc o5).alloc o6).heap.size = w.heap.size + 7 ∧
    Below w.heap.size w (((((((w.alloc o0).alloc o1).alloc o2).alloc o3).alloc o4).alloc o5).alloc o6) ∧
    (((((((w.alloc o0).alloc o1).alloc o2).alloc o3).alloc o4).alloc o5).alloc o6).heap[w.heap.size]? = some o0 ∧
    (((((((w.alloc o0).alloc o1).alloc o2).alloc o3).alloc o4).alloc o5).alloc o6).heap[w.heap.size + 1]? = some o1 ∧
    (((((((w.alloc o0).alloc o1).alloc o2).alloc o3).alloc o4).alloc o5).alloc o6).heap[w.heap.size + 2]? = some o2 ∧
    (((((((w.alloc o0).alloc o1).alloc o2).alloc o3).alloc o4).alloc o5).alloc o6).heap[w.heap.size + 3]? = some o3 ∧
    (((((((w.alloc o0).alloc o1).alloc o2).alloc o3).alloc o4).alloc o5).alloc o6).heap[w.heap.size + 4]? = some o4 ∧
    (((((((w.alloc o0).alloc o1).alloc o2).alloc o3).alloc o4).alloc o5).alloc o6).heap[w.heap.size + 5]? = some o5 ∧
    (((((((w.alloc o0).alloc o1).alloc o2).alloc o3).alloc o4).alloc o5).alloc o6).heap[w.heap.size + 6]? = some o6 := by
  have n : ∀ (v : World) (o : Obj), (v.alloc o).heap[v.heap.size]? = some o := fun v o => World.alloc_heap_new v o
  have k : ∀ (v : World) (o : Obj) (i : Nat), i < v.heap.size → (v.alloc o).heap[i]? = v.heap[i]? := fun v o i h => Below.heap_alloc v o i h
  refine ⟨by simp, ?_, ?_, ?_, ?_, ?_, ?_, ?_, ?_⟩
  · exact bnext (bnext (bnext (bnext (bnext (bnext (alloc_below _ _) (alloc_below _ _)) (alloc_below _ _)) (alloc_below _ _)) (alloc_below _ _)) (alloc_below _ _)) (alloc_below _ _)
  · rw [k _ _ _ (by simp only [World.size_alloc]; omega), k _ _ _ (by simp only [World.size_alloc]; omega), k _ _ _ (by simp only [World.size_alloc]; omega), k _ _ _ (by simp only [World.size_alloc]; omega), k _ _ _ (by simp only [World.size_alloc]; omega), k _ _ _ (by simp)]; exact n w o0
  · rw [k _ _ _ (by simp only [World.size_alloc]; omega), k _ _ _ (by simp only [World.size_alloc]; omega), k _ _ _ (by simp only [World.size_alloc]; omega), k _ _ _ (by simp only [World.size_alloc]; omega), k _ _ _ (by simp)]; have := n (w.alloc o0) o1; simpa using this
  · rw [k _ _ _ (by simp only [World.size_alloc]; omega), k _ _ _ (by simp only [World.size_alloc]; omega), k _ _ _ (by simp only [World.size_alloc]; omega), k _ _ _ (by simp)]; have := n ((w.alloc o0).alloc o1) o2; simpa using this
  · rw [k _ _ _ (by simp only [World.size_alloc]; omega), k _ _ _ (by simp only [World.size_alloc]; omega), k _ _ _ (by simp)]; have := n (((w.alloc o0).alloc o1).alloc o2) o3; simpa using this
  · rw [k _ _ _ (by simp only [World.size_alloc]; omega), k _ _ _ (by simp)]; have := n ((((w.alloc o0).alloc o1).alloc o2).alloc o3) o4; simpa using this
  · rw [k _ _ _ (by simp)]; have := n (((((w.alloc o0).alloc o1).alloc o2).alloc o3).alloc o4) o5; simpa using this
  · have := n ((((((w.alloc o0).alloc o1).alloc o2).alloc o3).alloc o4).alloc o5) o6; simpa using this
theorem Turns.of_grown {W W' : World} {row : Option Nat} (hg : W.grownBy W' row) : Turns (fun k => some k = row) W W' := ⟨hg.os, hg.tape, hg.output, hg.size, fun k hk hn => hg.block k hk hn⟩
/-- A round of a part without an error, as far as its archive's own variable. -/
theorem take5_push {m : List (Int × Int)} {g : Int × Int} {L : List (Int × Int)} (h : L = m.take 5) (hl : L.length ≤ 4) : L ++ [g] = (m ++ [g]).take 5 := by
  have : m.length ≤ 4 := by rw [h, List.length_take] at hl; omega
  rw [h, List.take_of_length_le (by omega), List.take_of_length_le (by simp; omega)]
theorem take5_full {m : List (Int × Int)} {g : Int × Int} {L : List (Int × Int)} (h : L = m.take 5) (hl : ¬ L.length ≤ 4) : L = (m ++ [g]).take 5 := by
  have : 5 ≤ m.length := by rw [h, List.length_take] at hl; omega
  rw [h, List.take_append_of_le_length this]
theorem cells_two (w : World) (x y : Value) (t : TypeId) : ∀ (j : Nat) (u : Value), [x, y][j]? = some u → (w.alloc (.cells #[x, y] t)).cell? ((⟨w.heap.size, 0, none⟩ : Addr).add j) = some u := fun j u hj => by
  have e : (⟨w.heap.size, 0, none⟩ : Addr).add j = ⟨w.heap.size, j, none⟩ := by unfold Addr.add; split <;> simp_all
  rw [e]
  refine (cell_of_row _ _ j _ _ (0, 0) (heap_alloc_new w _)).trans ?_
  simpa using hj
theorem par_end {ps : List (List Nat)} (h7 : ∀ r ∈ rsV ps, r.2 ≠ 7) {L : List (Int × Int)} (hL : L = ((rsV ps).map (·.1)).take 5) :
    (worstV (rsV ps) ≠ 0 → lstV (rsV ps) = ([], 3)) ∧ (worstV (rsV ps) = 0 → lstV (rsV ps) = if 4 < L.length then ([], 11) else if tog L then (L, 0) else ([], 1)) := by
  obtain ⟨f1, f2⟩ := lst_end (rs := rsV ps) (fun r hr => by
    unfold rsV at hr
    obtain ⟨p, _, rfl⟩ := List.mem_map.1 hr
    exact rgV_err _) h7
  refine ⟨fun h => (f1 h).2, fun h => ?_⟩
  have h0 : ∀ r ∈ rsV ps, r.2 = 0 := fun r hr => by
    have hr2 := hr
    unfold rsV at hr2
    obtain ⟨p, _, rfl⟩ := List.mem_map.1 hr2
    rcases rgV_err (trimB p) with e | e | e
    · exact absurd e (h7 _ hr)
    · exfalso
      unfold worstV at h
      rw [if_pos (by rw [List.any_eq_true]; exact ⟨_, hr, by rw [e]; rfl⟩)] at h
      cases h
    · exact e
  rw [f2 h, okV_all h0]
  generalize (rsV ps).map (·.1) = M at *
  by_cases h4 : 4 < M.length
  · rw [if_pos h4, if_pos (by rw [hL, List.length_take]; omega)]
  · rw [List.take_of_length_le (by omega)] at hL
    rw [hL]
/-- Behind the stores of what is answered, and the last step of the loop's own block. -/
theorem last_cells {N D : Nat} {w W : World} {v0 u : Value} {a0 a1 : Value} {o : Obj} (hb : Below N w W) (hN : N ≤ W.heap.size) (h0 : W.cell? ⟨N, 0, none⟩ = some a0) (h1 : W.cell? ⟨N + 1, 0, none⟩ = some a1) (hD : N + 2 ≤ D) (hK : W.heap[D]? = some (.deferred (some []))) :
    ((W.setCell ⟨N, 0, none⟩ v0).setCell ⟨N + 1, 0, none⟩ u).heap[D]? = some (.deferred (some [])) ∧
    Turns (fun k => k = N ∨ k = N + 1 ∨ k = D) W (((W.setCell ⟨N, 0, none⟩ v0).setCell ⟨N + 1, 0, none⟩ u).putObj D o) ∧
    Below N w (((W.setCell ⟨N, 0, none⟩ v0).setCell ⟨N + 1, 0, none⟩ u).putObj D o) ∧
    (((W.setCell ⟨N, 0, none⟩ v0).setCell ⟨N + 1, 0, none⟩ u).putObj D o).cell? ⟨N, 0, none⟩ = some v0 ∧
    (((W.setCell ⟨N, 0, none⟩ v0).setCell ⟨N + 1, 0, none⟩ u).putObj D o).cell? ⟨N + 1, 0, none⟩ = some u := by
  have t1 := Turns.setCell W N 0 v0
  have t2 := Turns.setCell (W.setCell ⟨N, 0, none⟩ v0) (N + 1) 0 u
  have t3 := Turns.putObj ((W.setCell ⟨N, 0, none⟩ v0).setCell ⟨N + 1, 0, none⟩ u) D o
  have T : Turns (fun k => k = N ∨ k = N + 1 ∨ k = D) W (((W.setCell ⟨N, 0, none⟩ v0).setCell ⟨N + 1, 0, none⟩ u).putObj D o) :=
    (t1.mono fun k e => .inl e).trans ((t2.mono fun k e => .inr (.inl e)).trans (t3.mono fun k e => .inr (.inr e)))
  have hlt := (Array.getElem?_eq_some_iff.1 hK).1
  refine ⟨(t2.block D (Nat.lt_of_lt_of_le hlt t1.size) (by omega)).trans ((t1.block D hlt (by omega)).trans hK), T, T.low hb hN (fun k hk => by rcases hk with e | e | e <;> omega), ?_, ?_⟩
  · refine t3.cell ?_ (by omega)
    exact (World.cell?_setCell_other _ _ _ _ (by simp)).trans (World.cell?_setCell_same _ _ _ h0)
  · refine t3.cell ?_ (by omega)
    exact World.cell?_setCell_same _ _ _ ((World.cell?_setCell_other _ _ _ _ (by simp)).trans h1)
theorem rsV_facts {pre : List (List Nat)} {x : List Nat} {p q e : Int} (hR : rgV (trimB x) = ((p, q), e)) (h7 : e ≠ 7) {L : List (Int × Int)} {ok ok' : Bool} (hs : ∀ r ∈ rsV pre, r.2 ≠ 7) (hr : ok = decide (worstV (rsV pre) = 0)) (ho : ok' = (ok && decide (e = 0))) :
    (∀ r ∈ rsV (pre ++ [x]), r.2 ≠ 7) ∧ ok' = decide (worstV (rsV (pre ++ [x])) = 0) ∧ (rsV (pre ++ [x])).map (·.1) = (rsV pre).map (·.1) ++ [(p, q)] := by
  have he : e = 3 ∨ e = 0 := by
    have := rgV_err (trimB x)
    rw [hR] at this
    rcases this with h | h | h
    · exact absurd h h7
    · exact .inl h
    · exact .inr h
  refine ⟨fun r h => ?_, ?_, ?_⟩
  · rw [rsV_pre, List.mem_append] at h
    rcases h with h | h
    · exact hs r h
    · rw [List.mem_singleton] at h
      rw [h, hR]; exact h7
  · rw [worst_pre, hR, ho, hr]
    rcases he with rfl | rfl
    · simp
    · simp
  · rw [rsV_pre, List.map_append, hR]; rfl
/-- Behind the archive's variable and the store of whether all may be told. -/
theorem PI.mid {w W w2 : World} {pre : List (List Nat)} {v : Value} {L : List (Int × Int)} {ok : Bool} (h : PI w pre v L ok W) (hz : w.heap.size + 9 ≤ W.heap.size) (hb : Below W.heap.size W w2) (o : Obj) (b : Bool) :
    Turns (Free w.heap.size) W ((w2.alloc o).setCell ⟨w.heap.size + 3, 0, none⟩ (.bool b)) ∧ Below w.heap.size w ((w2.alloc o).setCell ⟨w.heap.size + 3, 0, none⟩ (.bool b)) ∧
    (((w2.alloc o).setCell ⟨w.heap.size + 3, 0, none⟩ (.bool b)).cell? ⟨w.heap.size, 0, none⟩ = some (.slice none 0 0) ∧ ((w2.alloc o).setCell ⟨w.heap.size + 3, 0, none⟩ (.bool b)).frozen? ⟨w.heap.size, 0, none⟩ = false) ∧
    (((w2.alloc o).setCell ⟨w.heap.size + 3, 0, none⟩ (.bool b)).cell? ⟨w.heap.size + 1, 0, none⟩ = some (.int .i64 0) ∧ ((w2.alloc o).setCell ⟨w.heap.size + 3, 0, none⟩ (.bool b)).frozen? ⟨w.heap.size + 1, 0, none⟩ = false) ∧
    (((w2.alloc o).setCell ⟨w.heap.size + 3, 0, none⟩ (.bool b)).cell? ⟨w.heap.size + 2, 0, none⟩ = some v ∧ ((w2.alloc o).setCell ⟨w.heap.size + 3, 0, none⟩ (.bool b)).frozen? ⟨w.heap.size + 2, 0, none⟩ = false) ∧
    (((w2.alloc o).setCell ⟨w.heap.size + 3, 0, none⟩ (.bool b)).cell? ⟨w.heap.size + 3, 0, none⟩ = some (.bool b) ∧ ((w2.alloc o).setCell ⟨w.heap.size + 3, 0, none⟩ (.bool b)).frozen? ⟨w.heap.size + 3, 0, none⟩ = false) ∧
    RgNew (w.heap.size + 9) ((w2.alloc o).setCell ⟨w.heap.size + 3, 0, none⟩ (.bool b)) v L := by
  have t : Turns (fun k => k = w.heap.size + 3) W ((w2.alloc o).setCell ⟨w.heap.size + 3, 0, none⟩ (.bool b)) :=
    (Turns.of_below hb).trans ((Turns.alloc _ _ _).trans (Turns.setCell _ _ _ _))
  have cf : ∀ {k : Nat} {u : Value}, k < w.heap.size + 3 → W.cell? ⟨k, 0, none⟩ = some u ∧ W.frozen? ⟨k, 0, none⟩ = false → ((w2.alloc o).setCell ⟨w.heap.size + 3, 0, none⟩ (.bool b)).cell? ⟨k, 0, none⟩ = some u ∧ ((w2.alloc o).setCell ⟨w.heap.size + 3, 0, none⟩ (.bool b)).frozen? ⟨k, 0, none⟩ = false := fun {k} {u} hk h => ⟨t.cell h.1 (by omega), (t.frozen (b := k) (by omega) (World.block_lt_of_cell? W _ h.1)).trans h.2⟩
  refine ⟨t.mono fun k e => .inl (by omega), t.low h.low (by omega) (fun k e => by omega), cf (by omega) h.r0, cf (by omega) h.r1, cf (by omega) h.l, ⟨?_, ?_⟩, h.row.keep (fun g hg hl _ => t.block g hl (by omega))⟩
  · exact World.cell?_setCell_same _ _ _ (cellb (bnext hb (alloc_below _ _)) h.k.1)
  · rw [World.frozen?_setCell]
    exact ((bnext hb (alloc_below _ _)).frozen (p := ⟨w.heap.size + 3, 0, none⟩) (by simp only; omega)).trans h.k.2
theorem PI.skip {w W w2 : World} {pre : List (List Nat)} {x : List Nat} {v : Value} {L : List (Int × Int)} {ok ok' : Bool} {p q e : Int} (h : PI w pre v L ok W) (hz : w.heap.size + 9 ≤ W.heap.size) (hb : Below W.heap.size W w2) (o : Obj)
    (hR : rgV (trimB x) = ((p, q), e)) (h7 : e ≠ 7) (ho : ok' = (ok && decide (e = 0))) (hl : ¬ L.length ≤ 4) : PI w (pre ++ [x]) v L ok' ((w2.alloc o).setCell ⟨w.heap.size + 3, 0, none⟩ (.bool ok')) := by
  obtain ⟨_, m1, m2, m3, m4, m5, m6⟩ := h.mid hz hb o ok'
  obtain ⟨s1, s2, s3⟩ := rsV_facts (L := L) hR h7 h.sev h.ran ho
  exact ⟨m1, m2, m3, m4, m5, m6, s1, s2, by rw [s3]; exact take5_full h.lst hl⟩
theorem PI.app {w W w2 w3 : World} {pre : List (List Nat)} {x : List Nat} {v v' : Value} {L : List (Int × Int)} {ok ok' : Bool} {p q e : Int} {o o2 : Obj} (h : PI w pre v L ok W) (hz : w.heap.size + 9 ≤ W.heap.size) (hb : Below W.heap.size W w2)
    (hR : rgV (trimB x) = ((p, q), e)) (h7 : e ≠ 7) (ho : ok' = (ok && decide (e = 0))) (hl : L.length ≤ 4)
    (hown : w3.ownsRow (w.heap.size + 9) 49 2 v' (L.length + 1) (rgC L ++ [.int .i64 p, .int .i64 q])) (hg : (((w2.alloc o).setCell ⟨w.heap.size + 3, 0, none⟩ (.bool ok')).alloc o2).grownBy w3 v.ownBlock) :
    (w3.cell? ⟨w.heap.size + 2, 0, none⟩ = some v ∧ w3.frozen? ⟨w.heap.size + 2, 0, none⟩ = false) ∧
    PI w (pre ++ [x]) v' (L ++ [(p, q)]) ok' (w3.setCell ⟨w.heap.size + 2, 0, none⟩ v') ∧ Turns (Free w.heap.size) W (w3.setCell ⟨w.heap.size + 2, 0, none⟩ v') := by
  obtain ⟨m0, m1, m2, m3, m4, m5, m6⟩ := h.mid hz hb o ok'
  obtain ⟨s1, s2, s3⟩ := rsV_facts (L := L) hR h7 h.sev h.ran ho
  generalize ((w2.alloc o).setCell ⟨w.heap.size + 3, 0, none⟩ (.bool ok')) = M at *
  have hv : ∀ g, v.ownBlock = some g → w.heap.size + 9 ≤ g := fun g hg => (World.ownsRow.lt m6 g hg).1
  have t : Turns (fun k => w.heap.size + 9 ≤ k) M w3 := (Turns.alloc _ _ _).trans ((Turns.of_grown hg).mono fun k e => hv k e.symm)
  have cf : ∀ {k : Nat} {u : Value}, k < w.heap.size + 4 → M.cell? ⟨k, 0, none⟩ = some u ∧ M.frozen? ⟨k, 0, none⟩ = false → w3.cell? ⟨k, 0, none⟩ = some u ∧ w3.frozen? ⟨k, 0, none⟩ = false := fun {k} {u} hk h => ⟨t.cell h.1 (by omega), (t.frozen (b := k) (by omega) (World.block_lt_of_cell? M _ h.1)).trans h.2⟩
  have hl3 := cf (by omega) m4
  have ts := Turns.setCell w3 (w.heap.size + 2) 0 v'
  have t2 : Turns (Free w.heap.size) M (w3.setCell ⟨w.heap.size + 2, 0, none⟩ v') := (t.mono fun k e => .inr e).trans (ts.mono fun k e => .inl (by omega))
  have cs : ∀ {k : Nat} {u : Value}, k < w.heap.size + 4 → k ≠ w.heap.size + 2 → w3.cell? ⟨k, 0, none⟩ = some u ∧ w3.frozen? ⟨k, 0, none⟩ = false → (w3.setCell ⟨w.heap.size + 2, 0, none⟩ v').cell? ⟨k, 0, none⟩ = some u ∧ (w3.setCell ⟨w.heap.size + 2, 0, none⟩ v').frozen? ⟨k, 0, none⟩ = false := fun hk hn h => ⟨ts.cell h.1 (fun e => hn e), by rw [World.frozen?_setCell]; exact h.2⟩
  have hzM : w.heap.size ≤ M.heap.size := m1.size
  refine ⟨hl3, ⟨t2.low m1 hzM (fun k hk => by rcases hk with e | e <;> omega), cs (by omega) (by omega) (cf (by omega) m2), cs (by omega) (by omega) (cf (by omega) m3), ⟨World.cell?_setCell_same _ _ _ hl3.1, by rw [World.frozen?_setCell]; exact hl3.2⟩, cs (by omega) (by omega) (cf (by omega) m5), (RgNew.push (g := (p, q)) hown).keep (fun g hg hl _ => ts.block g hl (by omega)), s1, s2, by rw [s3]; exact take5_push h.lst hl⟩, m0.trans t2⟩
attribute [local go_sem] Oper.semAt_some
set_option maxRecDepth 100000 in
set_option maxHeartbeats 4000000 in
theorem parse_in (s : ByteArray) (hs : s.size ≤ 5000) (w : World) (g : G w) :
    CallsIn Fence.wide 3 Tryz.prog 53 #[.string s] w fun e w' => ∃ v, e = .returned (.tuple #[v, .int .i64 (parseV (bs s)).2]) ∧ RgNew w.heap.size w' v (parseV (bs s)).1 ∧ Below w.heap.size w w' := by
  refine callsIn_of_wp_marks Tryz.func53 rfl trivial ?_ rfl
  simp only [Tryz.ntmps53, List.size_toArray, List.length_cons, List.length_nil, Nat.reduceAdd, Nat.reduceSub, Array.replicate_succ, Array.replicate_zero, List.push_toArray, List.append_toArray, List.nil_append, List.cons_append]
  gi_wp2_with (refine ⟨trivial, ?_⟩; gi_at_call 78; refine (callsIn_wide.2 (seq_c s ⟨#[44]⟩ _)).mono ?_; rintro _ w1 ⟨rfl, rfl⟩)
  simp only [Nat.add_assoc, Nat.reduceAdd]
  obtain ⟨z0, zb, q0, q1, q2, q3, q4, q5, q6⟩ := chain7 w (.cells #[.slice none 0 0] 39) (.cells #[.int .i64 0] 24) (.cells #[.slice none 0 0] 39) (.cells #[.bool true] 4) (.cells #[.string s] 9) (.cells #[.string ⟨#[44]⟩] 9) (.cells #[.int .i64 0] 3)
  obtain ⟨W0, hW0⟩ : ∃ W0, (((((((w.alloc (.cells #[.slice none 0 0] 39)).alloc (.cells #[.int .i64 0] 24)).alloc (.cells #[.slice none 0 0] 39)).alloc (.cells #[.bool true] 4)).alloc (.cells #[.string s] 9)).alloc (.cells #[.string ⟨#[44]⟩] 9)).alloc (.cells #[.int .i64 0] 3)) = W0 := ⟨_, rfl⟩
  rw [hW0] at z0 zb q0 q1 q2 q3 q4 q5 q6 ⊢
  clear hW0
  have cof : ∀ {k : Nat} {u : Value} {t : TypeId}, W0.heap[k]? = some (.cells #[u] t) → W0.cell? ⟨k, 0, none⟩ = some u ∧ W0.frozen? ⟨k, 0, none⟩ = false := fun h => ⟨cell_of_row _ _ 0 _ _ (0, 0) h, frozen_of_row _ _ 0 _ _ h⟩
  have P0 : PI w [] (.slice none 0 0) [] true W0 := ⟨zb, cof q0, cof q1, cof q2, cof q3, RgNew.nil _ _, fun r h => (by cases h), rfl, rfl⟩
  have it := seq_iter 2 (w.heap.size + 4) (by decide) s (by omega) W0 (cof q4).1 (cof q4).2 (cof q5).1 (cof q6).1
  clear q0 q1 q2 q3 q4 q5 q6 cof zb
  refine wp_range (w0 := W0) (B := w.heap.size + 4) (xs := spl 44 (bs s)) (enc := fun p : List Nat => .string (str p)) rfl (by decide) (gf := 137) (lb := #[.pointer (some ⟨w.heap.size + 5, 0, none⟩), .pointer (some ⟨w.heap.size + 4, 0, none⟩), .pointer (some ⟨w.heap.size + 6, 0, none⟩)]) rfl trivial (enters_of Tryz.func137 (by kernel_rfl) rfl)
    it (KeepB.refl _ _) (by omega) rfl
    (fun pre A => ∃ v L ok, PI w pre v L ok A)
    (fun c _ A => c = .ret ∧ Below w.heap.size w A ∧ A.cell? ⟨w.heap.size, 0, none⟩ = some (.slice none 0 0) ∧ A.cell? ⟨w.heap.size + 1, 0, none⟩ = some (.int .i64 7) ∧ parseV (bs s) = ([], 7))
    ?hI ?hIx ⟨_, _, _, P0⟩
    (fun x => { tmps := #[.string s, undef, .pointer (some ⟨w.heap.size, 0, none⟩), .pointer (some ⟨w.heap.size + 1, 0, none⟩), .pointer (some ⟨w.heap.size + 2, 0, none⟩), .pointer (some ⟨w.heap.size + 3, 0, none⟩), .string (str x), undef, undef, .string s, .func (.func 137) #[] #[.pointer (some ⟨w.heap.size + 5, 0, none⟩), .pointer (some ⟨w.heap.size + 4, 0, none⟩), .pointer (some ⟨w.heap.size + 6, 0, none⟩)], .string (str x), undef, undef, undef, undef, undef, undef, undef, undef, undef, undef, undef, undef, undef, undef, undef, undef, undef, undef, undef, undef, undef, undef, undef, undef, undef, undef, undef, undef, undef, undef, undef, undef, undef], defers := [] }) ?assign ?body ?done ?stop
  case hI =>
    rintro pre A A' ⟨v, L, ok, h⟩ t
    exact ⟨v, L, ok, h.turn t (fun k hk => by rcases hk with e | e | e <;> omega) (by have := h.lt; omega)⟩
  case hIx =>
    rintro c pre A A' ⟨hc, hb, h0, h1, hp⟩ t
    have hl := World.block_lt_of_cell? A _ h1
    simp only at hl
    exact ⟨hc, t.low hb (by omega) (fun k hk => by omega), t.cell h0 (by omega), t.cell h1 (by omega), hp⟩
  case assign =>
    intro l x W K hK
    gi_wp2
    exact hK
  case body =>
    rintro l pre x W ⟨v, L, ok, hP⟩ hz hpre
    rw [z0] at hz
    have hx : x ∈ spl 44 (bs s) := hpre.subset (by simp)
    have x8 : ∀ c ∈ x, c < 256 := fun c hc => bs_small s c (spl_mem 44 _ x hx c hc)
    have x5 : x.length ≤ 5000 := by have := spl_part_length 44 _ x hx; rw [bs_length] at this; omega
    have t8 : ∀ c ∈ trimB x, c < 256 := fun c hc => x8 c (trimB_mem hc)
    have t5 : (trimB x).length ≤ 5000 := Nat.le_trans (trimB_length x) x5
    have tr := trim_c (str x) (by rw [str_size]; omega) W
    rw [bs_str x8] at tr
    have ru := fun (X : World) (gX : G X) => rung_c (str (trimB x)) (by rw [str_size]; omega) X gX
    rw [bs_str t8] at ru
    obtain ⟨⟨⟨p, q⟩, e⟩, hR⟩ : ∃ R, rgV (trimB x) = R := ⟨_, rfl⟩
    rw [hR] at ru
    have he : e = 7 ∨ e = 3 ∨ e = 0 := by have := rgV_err (trimB x); rw [hR] at this; exact this
    have NEXT := Lib.hid (rsV_pre pre x)
    rw [hR] at NEXT
    have BAD := Lib.hid (show e = 7 → parseV (bs s) = ([], 7) from fun h => by
      obtain ⟨k, hk⟩ := List.getElem?_of_mem hx
      exact lst_seven hk (by rw [hR]; exact h))
    obtain ⟨T, hT⟩ : ∃ T, str x = T := ⟨_, rfl⟩
    obtain ⟨V, hV⟩ : ∃ V, str (trimB x) = V := ⟨_, rfl⟩
    rw [hT, hV] at tr
    rw [hV] at ru
    simp only [hT] at *
    have gW := g.below hP.low
    have TR := Lib.hid tr; have RU := Lib.hid ru; have GW := Lib.hid gW
    obtain ⟨AL, cl, rfl, hlc⟩ := hP.row.form
    obtain ⟨n, hn⟩ : ∃ n, L.length = n := ⟨_, rfl⟩
    have hn5 : n ≤ 5 := by rw [← hn, hP.lst, List.length_take]; omega
    rw [hn] at hP hlc
    have HN := Lib.hid hn
    have HP := Lib.hid hP
    have HR := Lib.hid hR
    clear tr ru gW hT hV hx x8 x5 t8 t5 hR it P0 hP g hn NEXT
    obtain ⟨i0, hi0, hz0, hz1, hz2⟩ := info_parts rung_info
    rcases he with rfl | rfl | rfl
    · gi_wp2_with (first
        | (refine ⟨trivial, ?_⟩; gi_at_call 80; refine (CallsIn.inRound l (callsIn_wide.2 TR.out)).mono ?_; rintro _ w1 ⟨rfl, hb1⟩)
        | (refine ⟨trivial, ?_⟩; gi_at_call 79; refine (CallsIn.inRound l (callsIn_wide.2 (RU.out _ (GW.out.below hb1)))).mono ?_; rintro _ w2 ⟨rfl, hb2⟩; have HB2 := Lib.hid (bnext hb1 hb2); clear hb1 hb2; have P2 := HP.out.turn ((Turns.of_below (S := fun _ => False) HB2.out).trans (Turns.alloc (fun _ => False) w2 (.cells #[.int .i64 p, .int .i64 q] 49))) (fun k h => h.elim) (by omega); obtain ⟨r0, rf0⟩ := P2.r0; obtain ⟨r1, rf1⟩ := P2.r1; obtain ⟨l0, lf0⟩ := P2.l; obtain ⟨k0, kf0⟩ := P2.k; have lt2 : w.heap.size + 9 ≤ w2.heap.size := Nat.le_trans hz HB2.out.size; have P2' := Lib.hid P2; clear P2))
      have t : Turns (Free w.heap.size) W (((w2.alloc (.cells #[.int .i64 p, .int .i64 q] 49)).setCell ⟨w.heap.size, 0, none⟩ (.slice none 0 0)).setCell ⟨w.heap.size + 1, 0, none⟩ (.int .i64 7)) :=
        (Turns.of_below HB2.out).trans ((Turns.alloc _ _ _).trans (((Turns.setCell _ _ _ _).mono fun k e => .inl (by omega)).trans ((Turns.setCell _ _ _ _).mono fun k e => .inl (by omega))))
      refine ⟨(t.keep (fun k hk => by rw [z0] at hk; unfold Own3 at hk; unfold Free; omega)), t.size, rfl, t.low HP.out.low (by omega) (fun k hk => by unfold Free at hk; omega), ?_, ?_, BAD.out (by first | rfl | trivial)⟩
      · exact (World.cell?_setCell_other _ _ _ _ (by simp)).trans (World.cell?_setCell_same _ _ _ r0)
      · exact World.cell?_setCell_same _ _ _ ((World.cell?_setCell_other _ _ _ _ (by simp)).trans r1)
    · cases ok
      · by_cases h4 : n ≤ 4
        · have hni : (n : Int) ≤ 4 := by omega
          have B63 := Lib.hid (show n + 1 ≤ maxLen by simp only [maxLen]; omega)
          have B48 := Lib.hid (show (n + 1) * 16 ≤ 140737488355328 by omega)
          have MID := Lib.hid (fun (w2 : World) (hb : Below W.heap.size W w2) => HP.out.mid hz hb (.cells #[.int .i64 p, .int .i64 q] 49) false)
          have APP := Lib.hid (fun (w2 w3 : World) (v' : Value) (hb : Below W.heap.size W w2) => @PI.app w W w2 w3 pre x (.slice AL n cl) v' L false false p q 3 (.cells #[.int .i64 p, .int .i64 q] 49) (.cells #[.int .i64 p, .int .i64 q] 49) HP.out hz hb HR.out (by decide) rfl (by rw [HN.out]; exact h4))
          rw [HN.out] at APP
          have FORM := Lib.hid (show ∀ (W' : World) (v' : Value), W'.ownsRow (w.heap.size + 9) 49 2 v' (n + 1) (rgC L ++ [.int .i64 p, .int .i64 q]) → ∃ A c, v' = .slice A (n + 1) c from fun W' v' h => by
            rcases h.2 with ⟨_, h0⟩ | ⟨g', cap, cur, rfl, _⟩
            · omega
            · exact ⟨_, _, rfl⟩)
          gi_wp2_with (first
            | (refine ⟨trivial, ?_⟩; gi_at_call 80; refine (CallsIn.inRound l (callsIn_wide.2 TR.out)).mono ?_; rintro _ w1 ⟨rfl, hb1⟩)
            | (refine ⟨trivial, ?_⟩; gi_at_call 79; refine (CallsIn.inRound l (callsIn_wide.2 (RU.out _ (GW.out.below hb1)))).mono ?_; rintro _ w2 ⟨rfl, hb2⟩; have HB2 := Lib.hid (bnext hb1 hb2); clear hb1 hb2; have P2 := HP.out.turn ((Turns.of_below (S := fun _ => False) HB2.out).trans (Turns.alloc (fun _ => False) w2 (.cells #[.int .i64 p, .int .i64 q] 49))) (fun k h => h.elim) (by omega); obtain ⟨r0, rf0⟩ := P2.r0; obtain ⟨r1, rf1⟩ := P2.r1; obtain ⟨l0, lf0⟩ := P2.l; obtain ⟨k0, kf0⟩ := P2.k; have lt2 : w.heap.size + 9 ≤ w2.heap.size := Nat.le_trans hz HB2.out.size; have P2' := Lib.hid P2; clear P2)
            | (gi_at_builtin; refine wpListIn_append_own _ rfl (.tmp 29) (.tmp 31) _ rfl (w.heap.size + 9) 49 i0 (.agg #[.int .i64 0, .int .i64 0]) 2 16 Tryz.underlying39 hi0 hz0 hz1 hz2 rfl (by decide) (.slice AL n cl) n (rgC L) rfl (World.ownsRow.alloc (by have h9 := (MID.out w2 HB2.out).2.2.2.2.2.2; unfold RgNew at h9; rw [HN.out] at h9; exact h9) _) ⟨w2.heap.size + 1, 0, none⟩ 1 1 [.int .i64 p, .int .i64 q] rfl rfl (by have h9 := cells_two ((w2.alloc (.cells #[.int .i64 p, .int .i64 q] 49)).setCell ⟨w.heap.size + 3, 0, none⟩ (.bool false)) (.int .i64 p) (.int .i64 q) 49; simpa using h9) (by simp [Value.oneCell']) B63.out B48.out (by have := lt2; simp; omega) ?_; intro v3 w3 hown3 hg3 hnil3; obtain ⟨A3, c3, hv3⟩ := FORM.out _ _ hown3; subst hv3; obtain ⟨⟨l3, lf3⟩, HP3, HT3⟩ := APP.out w2 w3 _ HB2.out hown3 hg3; have HP4 := Lib.hid HP3; have HT4 := Lib.hid HT3; clear hown3 hg3 hnil3 HP3 HT3))
          have t := HT4.out
          exact ⟨(t.keep (fun k hk => by rw [z0] at hk; unfold Own3 at hk; unfold Free; omega)), t.size, _, _, _, HP4.out⟩
        · have hni : ¬ (n : Int) ≤ 4 := by omega
          have SK := Lib.hid (fun (w2 : World) (hb : Below W.heap.size W w2) => @PI.skip w W w2 pre x (.slice AL n cl) L false false p q 3 HP.out hz hb (.cells #[.int .i64 p, .int .i64 q] 49) HR.out (by decide) rfl (by rw [HN.out]; exact h4))
          have MID := Lib.hid (fun (w2 : World) (hb : Below W.heap.size W w2) => (HP.out.mid hz hb (.cells #[.int .i64 p, .int .i64 q] 49) false).1)
          gi_wp2_with (first
            | (refine ⟨trivial, ?_⟩; gi_at_call 80; refine (CallsIn.inRound l (callsIn_wide.2 TR.out)).mono ?_; rintro _ w1 ⟨rfl, hb1⟩)
            | (refine ⟨trivial, ?_⟩; gi_at_call 79; refine (CallsIn.inRound l (callsIn_wide.2 (RU.out _ (GW.out.below hb1)))).mono ?_; rintro _ w2 ⟨rfl, hb2⟩; have HB2 := Lib.hid (bnext hb1 hb2); clear hb1 hb2; have P2 := HP.out.turn ((Turns.of_below (S := fun _ => False) HB2.out).trans (Turns.alloc (fun _ => False) w2 (.cells #[.int .i64 p, .int .i64 q] 49))) (fun k h => h.elim) (by omega); obtain ⟨r0, rf0⟩ := P2.r0; obtain ⟨r1, rf1⟩ := P2.r1; obtain ⟨l0, lf0⟩ := P2.l; obtain ⟨k0, kf0⟩ := P2.k; have lt2 : w.heap.size + 9 ≤ w2.heap.size := Nat.le_trans hz HB2.out.size; have P2' := Lib.hid P2; clear P2))
          have t := MID.out w2 HB2.out
          exact ⟨(t.keep (fun k hk => by rw [z0] at hk; unfold Own3 at hk; unfold Free; omega)), t.size, _, _, _, SK.out w2 HB2.out⟩
      · by_cases h4 : n ≤ 4
        · have hni : (n : Int) ≤ 4 := by omega
          have B63 := Lib.hid (show n + 1 ≤ maxLen by simp only [maxLen]; omega)
          have B48 := Lib.hid (show (n + 1) * 16 ≤ 140737488355328 by omega)
          have MID := Lib.hid (fun (w2 : World) (hb : Below W.heap.size W w2) => HP.out.mid hz hb (.cells #[.int .i64 p, .int .i64 q] 49) false)
          have APP := Lib.hid (fun (w2 w3 : World) (v' : Value) (hb : Below W.heap.size W w2) => @PI.app w W w2 w3 pre x (.slice AL n cl) v' L true false p q 3 (.cells #[.int .i64 p, .int .i64 q] 49) (.cells #[.int .i64 p, .int .i64 q] 49) HP.out hz hb HR.out (by decide) rfl (by rw [HN.out]; exact h4))
          rw [HN.out] at APP
          have FORM := Lib.hid (show ∀ (W' : World) (v' : Value), W'.ownsRow (w.heap.size + 9) 49 2 v' (n + 1) (rgC L ++ [.int .i64 p, .int .i64 q]) → ∃ A c, v' = .slice A (n + 1) c from fun W' v' h => by
            rcases h.2 with ⟨_, h0⟩ | ⟨g', cap, cur, rfl, _⟩
            · omega
            · exact ⟨_, _, rfl⟩)
          gi_wp2_with (first
            | (refine ⟨trivial, ?_⟩; gi_at_call 80; refine (CallsIn.inRound l (callsIn_wide.2 TR.out)).mono ?_; rintro _ w1 ⟨rfl, hb1⟩)
            | (refine ⟨trivial, ?_⟩; gi_at_call 79; refine (CallsIn.inRound l (callsIn_wide.2 (RU.out _ (GW.out.below hb1)))).mono ?_; rintro _ w2 ⟨rfl, hb2⟩; have HB2 := Lib.hid (bnext hb1 hb2); clear hb1 hb2; have P2 := HP.out.turn ((Turns.of_below (S := fun _ => False) HB2.out).trans (Turns.alloc (fun _ => False) w2 (.cells #[.int .i64 p, .int .i64 q] 49))) (fun k h => h.elim) (by omega); obtain ⟨r0, rf0⟩ := P2.r0; obtain ⟨r1, rf1⟩ := P2.r1; obtain ⟨l0, lf0⟩ := P2.l; obtain ⟨k0, kf0⟩ := P2.k; have lt2 : w.heap.size + 9 ≤ w2.heap.size := Nat.le_trans hz HB2.out.size; have P2' := Lib.hid P2; clear P2)
            | (gi_at_builtin; refine wpListIn_append_own _ rfl (.tmp 29) (.tmp 31) _ rfl (w.heap.size + 9) 49 i0 (.agg #[.int .i64 0, .int .i64 0]) 2 16 Tryz.underlying39 hi0 hz0 hz1 hz2 rfl (by decide) (.slice AL n cl) n (rgC L) rfl (World.ownsRow.alloc (by have h9 := (MID.out w2 HB2.out).2.2.2.2.2.2; unfold RgNew at h9; rw [HN.out] at h9; exact h9) _) ⟨w2.heap.size + 1, 0, none⟩ 1 1 [.int .i64 p, .int .i64 q] rfl rfl (by have h9 := cells_two ((w2.alloc (.cells #[.int .i64 p, .int .i64 q] 49)).setCell ⟨w.heap.size + 3, 0, none⟩ (.bool false)) (.int .i64 p) (.int .i64 q) 49; simpa using h9) (by simp [Value.oneCell']) B63.out B48.out (by have := lt2; simp; omega) ?_; intro v3 w3 hown3 hg3 hnil3; obtain ⟨A3, c3, hv3⟩ := FORM.out _ _ hown3; subst hv3; obtain ⟨⟨l3, lf3⟩, HP3, HT3⟩ := APP.out w2 w3 _ HB2.out hown3 hg3; have HP4 := Lib.hid HP3; have HT4 := Lib.hid HT3; clear hown3 hg3 hnil3 HP3 HT3))
          have t := HT4.out
          exact ⟨(t.keep (fun k hk => by rw [z0] at hk; unfold Own3 at hk; unfold Free; omega)), t.size, _, _, _, HP4.out⟩
        · have hni : ¬ (n : Int) ≤ 4 := by omega
          have SK := Lib.hid (fun (w2 : World) (hb : Below W.heap.size W w2) => @PI.skip w W w2 pre x (.slice AL n cl) L true false p q 3 HP.out hz hb (.cells #[.int .i64 p, .int .i64 q] 49) HR.out (by decide) rfl (by rw [HN.out]; exact h4))
          have MID := Lib.hid (fun (w2 : World) (hb : Below W.heap.size W w2) => (HP.out.mid hz hb (.cells #[.int .i64 p, .int .i64 q] 49) false).1)
          gi_wp2_with (first
            | (refine ⟨trivial, ?_⟩; gi_at_call 80; refine (CallsIn.inRound l (callsIn_wide.2 TR.out)).mono ?_; rintro _ w1 ⟨rfl, hb1⟩)
            | (refine ⟨trivial, ?_⟩; gi_at_call 79; refine (CallsIn.inRound l (callsIn_wide.2 (RU.out _ (GW.out.below hb1)))).mono ?_; rintro _ w2 ⟨rfl, hb2⟩; have HB2 := Lib.hid (bnext hb1 hb2); clear hb1 hb2; have P2 := HP.out.turn ((Turns.of_below (S := fun _ => False) HB2.out).trans (Turns.alloc (fun _ => False) w2 (.cells #[.int .i64 p, .int .i64 q] 49))) (fun k h => h.elim) (by omega); obtain ⟨r0, rf0⟩ := P2.r0; obtain ⟨r1, rf1⟩ := P2.r1; obtain ⟨l0, lf0⟩ := P2.l; obtain ⟨k0, kf0⟩ := P2.k; have lt2 : w.heap.size + 9 ≤ w2.heap.size := Nat.le_trans hz HB2.out.size; have P2' := Lib.hid P2; clear P2))
          have t := MID.out w2 HB2.out
          exact ⟨(t.keep (fun k hk => by rw [z0] at hk; unfold Own3 at hk; unfold Free; omega)), t.size, _, _, _, SK.out w2 HB2.out⟩
    · cases ok
      · by_cases h4 : n ≤ 4
        · have hni : (n : Int) ≤ 4 := by omega
          have B63 := Lib.hid (show n + 1 ≤ maxLen by simp only [maxLen]; omega)
          have B48 := Lib.hid (show (n + 1) * 16 ≤ 140737488355328 by omega)
          have MID := Lib.hid (fun (w2 : World) (hb : Below W.heap.size W w2) => HP.out.mid hz hb (.cells #[.int .i64 p, .int .i64 q] 49) false)
          have APP := Lib.hid (fun (w2 w3 : World) (v' : Value) (hb : Below W.heap.size W w2) => @PI.app w W w2 w3 pre x (.slice AL n cl) v' L false false p q 0 (.cells #[.int .i64 p, .int .i64 q] 49) (.cells #[.int .i64 p, .int .i64 q] 49) HP.out hz hb HR.out (by decide) rfl (by rw [HN.out]; exact h4))
          rw [HN.out] at APP
          have FORM := Lib.hid (show ∀ (W' : World) (v' : Value), W'.ownsRow (w.heap.size + 9) 49 2 v' (n + 1) (rgC L ++ [.int .i64 p, .int .i64 q]) → ∃ A c, v' = .slice A (n + 1) c from fun W' v' h => by
            rcases h.2 with ⟨_, h0⟩ | ⟨g', cap, cur, rfl, _⟩
            · omega
            · exact ⟨_, _, rfl⟩)
          gi_wp2_with (first
            | (refine ⟨trivial, ?_⟩; gi_at_call 80; refine (CallsIn.inRound l (callsIn_wide.2 TR.out)).mono ?_; rintro _ w1 ⟨rfl, hb1⟩)
            | (refine ⟨trivial, ?_⟩; gi_at_call 79; refine (CallsIn.inRound l (callsIn_wide.2 (RU.out _ (GW.out.below hb1)))).mono ?_; rintro _ w2 ⟨rfl, hb2⟩; have HB2 := Lib.hid (bnext hb1 hb2); clear hb1 hb2; have P2 := HP.out.turn ((Turns.of_below (S := fun _ => False) HB2.out).trans (Turns.alloc (fun _ => False) w2 (.cells #[.int .i64 p, .int .i64 q] 49))) (fun k h => h.elim) (by omega); obtain ⟨r0, rf0⟩ := P2.r0; obtain ⟨r1, rf1⟩ := P2.r1; obtain ⟨l0, lf0⟩ := P2.l; obtain ⟨k0, kf0⟩ := P2.k; have lt2 : w.heap.size + 9 ≤ w2.heap.size := Nat.le_trans hz HB2.out.size; have P2' := Lib.hid P2; clear P2)
            | (gi_at_builtin; refine wpListIn_append_own _ rfl (.tmp 29) (.tmp 31) _ rfl (w.heap.size + 9) 49 i0 (.agg #[.int .i64 0, .int .i64 0]) 2 16 Tryz.underlying39 hi0 hz0 hz1 hz2 rfl (by decide) (.slice AL n cl) n (rgC L) rfl (World.ownsRow.alloc (by have h9 := (MID.out w2 HB2.out).2.2.2.2.2.2; unfold RgNew at h9; rw [HN.out] at h9; exact h9) _) ⟨w2.heap.size + 1, 0, none⟩ 1 1 [.int .i64 p, .int .i64 q] rfl rfl (by have h9 := cells_two ((w2.alloc (.cells #[.int .i64 p, .int .i64 q] 49)).setCell ⟨w.heap.size + 3, 0, none⟩ (.bool false)) (.int .i64 p) (.int .i64 q) 49; simpa using h9) (by simp [Value.oneCell']) B63.out B48.out (by have := lt2; simp; omega) ?_; intro v3 w3 hown3 hg3 hnil3; obtain ⟨A3, c3, hv3⟩ := FORM.out _ _ hown3; subst hv3; obtain ⟨⟨l3, lf3⟩, HP3, HT3⟩ := APP.out w2 w3 _ HB2.out hown3 hg3; have HP4 := Lib.hid HP3; have HT4 := Lib.hid HT3; clear hown3 hg3 hnil3 HP3 HT3))
          have t := HT4.out
          exact ⟨(t.keep (fun k hk => by rw [z0] at hk; unfold Own3 at hk; unfold Free; omega)), t.size, _, _, _, HP4.out⟩
        · have hni : ¬ (n : Int) ≤ 4 := by omega
          have SK := Lib.hid (fun (w2 : World) (hb : Below W.heap.size W w2) => @PI.skip w W w2 pre x (.slice AL n cl) L false false p q 0 HP.out hz hb (.cells #[.int .i64 p, .int .i64 q] 49) HR.out (by decide) rfl (by rw [HN.out]; exact h4))
          have MID := Lib.hid (fun (w2 : World) (hb : Below W.heap.size W w2) => (HP.out.mid hz hb (.cells #[.int .i64 p, .int .i64 q] 49) false).1)
          gi_wp2_with (first
            | (refine ⟨trivial, ?_⟩; gi_at_call 80; refine (CallsIn.inRound l (callsIn_wide.2 TR.out)).mono ?_; rintro _ w1 ⟨rfl, hb1⟩)
            | (refine ⟨trivial, ?_⟩; gi_at_call 79; refine (CallsIn.inRound l (callsIn_wide.2 (RU.out _ (GW.out.below hb1)))).mono ?_; rintro _ w2 ⟨rfl, hb2⟩; have HB2 := Lib.hid (bnext hb1 hb2); clear hb1 hb2; have P2 := HP.out.turn ((Turns.of_below (S := fun _ => False) HB2.out).trans (Turns.alloc (fun _ => False) w2 (.cells #[.int .i64 p, .int .i64 q] 49))) (fun k h => h.elim) (by omega); obtain ⟨r0, rf0⟩ := P2.r0; obtain ⟨r1, rf1⟩ := P2.r1; obtain ⟨l0, lf0⟩ := P2.l; obtain ⟨k0, kf0⟩ := P2.k; have lt2 : w.heap.size + 9 ≤ w2.heap.size := Nat.le_trans hz HB2.out.size; have P2' := Lib.hid P2; clear P2))
          have t := MID.out w2 HB2.out
          exact ⟨(t.keep (fun k hk => by rw [z0] at hk; unfold Own3 at hk; unfold Free; omega)), t.size, _, _, _, SK.out w2 HB2.out⟩
      · by_cases h4 : n ≤ 4
        · have hni : (n : Int) ≤ 4 := by omega
          have B63 := Lib.hid (show n + 1 ≤ maxLen by simp only [maxLen]; omega)
          have B48 := Lib.hid (show (n + 1) * 16 ≤ 140737488355328 by omega)
          have MID := Lib.hid (fun (w2 : World) (hb : Below W.heap.size W w2) => HP.out.mid hz hb (.cells #[.int .i64 p, .int .i64 q] 49) true)
          have APP := Lib.hid (fun (w2 w3 : World) (v' : Value) (hb : Below W.heap.size W w2) => @PI.app w W w2 w3 pre x (.slice AL n cl) v' L true true p q 0 (.cells #[.int .i64 p, .int .i64 q] 49) (.cells #[.int .i64 p, .int .i64 q] 49) HP.out hz hb HR.out (by decide) rfl (by rw [HN.out]; exact h4))
          rw [HN.out] at APP
          have FORM := Lib.hid (show ∀ (W' : World) (v' : Value), W'.ownsRow (w.heap.size + 9) 49 2 v' (n + 1) (rgC L ++ [.int .i64 p, .int .i64 q]) → ∃ A c, v' = .slice A (n + 1) c from fun W' v' h => by
            rcases h.2 with ⟨_, h0⟩ | ⟨g', cap, cur, rfl, _⟩
            · omega
            · exact ⟨_, _, rfl⟩)
          gi_wp2_with (first
            | (refine ⟨trivial, ?_⟩; gi_at_call 80; refine (CallsIn.inRound l (callsIn_wide.2 TR.out)).mono ?_; rintro _ w1 ⟨rfl, hb1⟩)
            | (refine ⟨trivial, ?_⟩; gi_at_call 79; refine (CallsIn.inRound l (callsIn_wide.2 (RU.out _ (GW.out.below hb1)))).mono ?_; rintro _ w2 ⟨rfl, hb2⟩; have HB2 := Lib.hid (bnext hb1 hb2); clear hb1 hb2; have P2 := HP.out.turn ((Turns.of_below (S := fun _ => False) HB2.out).trans (Turns.alloc (fun _ => False) w2 (.cells #[.int .i64 p, .int .i64 q] 49))) (fun k h => h.elim) (by omega); obtain ⟨r0, rf0⟩ := P2.r0; obtain ⟨r1, rf1⟩ := P2.r1; obtain ⟨l0, lf0⟩ := P2.l; obtain ⟨k0, kf0⟩ := P2.k; have lt2 : w.heap.size + 9 ≤ w2.heap.size := Nat.le_trans hz HB2.out.size; have P2' := Lib.hid P2; clear P2)
            | (gi_at_builtin; refine wpListIn_append_own _ rfl (.tmp 29) (.tmp 31) _ rfl (w.heap.size + 9) 49 i0 (.agg #[.int .i64 0, .int .i64 0]) 2 16 Tryz.underlying39 hi0 hz0 hz1 hz2 rfl (by decide) (.slice AL n cl) n (rgC L) rfl (World.ownsRow.alloc (by have h9 := (MID.out w2 HB2.out).2.2.2.2.2.2; unfold RgNew at h9; rw [HN.out] at h9; exact h9) _) ⟨w2.heap.size + 1, 0, none⟩ 1 1 [.int .i64 p, .int .i64 q] rfl rfl (by have h9 := cells_two ((w2.alloc (.cells #[.int .i64 p, .int .i64 q] 49)).setCell ⟨w.heap.size + 3, 0, none⟩ (.bool true)) (.int .i64 p) (.int .i64 q) 49; simpa using h9) (by simp [Value.oneCell']) B63.out B48.out (by have := lt2; simp; omega) ?_; intro v3 w3 hown3 hg3 hnil3; obtain ⟨A3, c3, hv3⟩ := FORM.out _ _ hown3; subst hv3; obtain ⟨⟨l3, lf3⟩, HP3, HT3⟩ := APP.out w2 w3 _ HB2.out hown3 hg3; have HP4 := Lib.hid HP3; have HT4 := Lib.hid HT3; clear hown3 hg3 hnil3 HP3 HT3))
          have t := HT4.out
          exact ⟨(t.keep (fun k hk => by rw [z0] at hk; unfold Own3 at hk; unfold Free; omega)), t.size, _, _, _, HP4.out⟩
        · have hni : ¬ (n : Int) ≤ 4 := by omega
          have SK := Lib.hid (fun (w2 : World) (hb : Below W.heap.size W w2) => @PI.skip w W w2 pre x (.slice AL n cl) L true true p q 0 HP.out hz hb (.cells #[.int .i64 p, .int .i64 q] 49) HR.out (by decide) rfl (by rw [HN.out]; exact h4))
          have MID := Lib.hid (fun (w2 : World) (hb : Below W.heap.size W w2) => (HP.out.mid hz hb (.cells #[.int .i64 p, .int .i64 q] 49) true).1)
          gi_wp2_with (first
            | (refine ⟨trivial, ?_⟩; gi_at_call 80; refine (CallsIn.inRound l (callsIn_wide.2 TR.out)).mono ?_; rintro _ w1 ⟨rfl, hb1⟩)
            | (refine ⟨trivial, ?_⟩; gi_at_call 79; refine (CallsIn.inRound l (callsIn_wide.2 (RU.out _ (GW.out.below hb1)))).mono ?_; rintro _ w2 ⟨rfl, hb2⟩; have HB2 := Lib.hid (bnext hb1 hb2); clear hb1 hb2; have P2 := HP.out.turn ((Turns.of_below (S := fun _ => False) HB2.out).trans (Turns.alloc (fun _ => False) w2 (.cells #[.int .i64 p, .int .i64 q] 49))) (fun k h => h.elim) (by omega); obtain ⟨r0, rf0⟩ := P2.r0; obtain ⟨r1, rf1⟩ := P2.r1; obtain ⟨l0, lf0⟩ := P2.l; obtain ⟨k0, kf0⟩ := P2.k; have lt2 : w.heap.size + 9 ≤ w2.heap.size := Nat.le_trans hz HB2.out.size; have P2' := Lib.hid P2; clear P2))
          have t := MID.out w2 HB2.out
          exact ⟨(t.keep (fun k hk => by rw [z0] at hk; unfold Own3 at hk; unfold Free; omega)), t.size, _, _, _, SK.out w2 HB2.out⟩
  case done =>
    rintro W ⟨v, L, ok, hP⟩ hK
    rw [z0] at hK ⊢
    obtain ⟨f1, f2⟩ := par_end hP.sev hP.lst
    have hps : lstV (rsV (spl 44 (bs s))) = parseV (bs s) := rfl
    rw [hps] at f1 f2
    have hok := hP.ran
    generalize spl 44 (bs s) = ps at *
    obtain ⟨AL, cl, rfl, hlc⟩ := hP.row.form
    obtain ⟨q, hq⟩ : ∃ q, L.length = q := ⟨_, rfl⟩
    have TG := Lib.hid (together_c (.slice AL q cl) L (by rw [hP.lst, List.length_take]; omega) W (by rw [← hq]; exact hP.row.out))
    rw [hq] at f2 hP hlc
    obtain ⟨r0, rf0⟩ := hP.r0
    obtain ⟨r1, rf1⟩ := hP.r1
    obtain ⟨l0, -⟩ := hP.l
    obtain ⟨k0, -⟩ := hP.k
    have lt := hP.lt
    have FIN := Lib.hid (fun (X : World) (hX : Below W.heap.size W X) (v0 u : Value) (hb : Below w.heap.size w X) => last_cells (v0 := v0) (u := u) (D := w.heap.size + 7) (o := .deferred none) hb (by have := hX.size; omega) (cellb hX r0) (cellb hX r1) (by omega) ((hX.block _ (Array.getElem?_eq_some_iff.1 hK).1).trans hK))
    have LOW := Lib.hid hP.low
    have ROW := Lib.hid hP.row
    have F1 := Lib.hid f1; have F2 := Lib.hid f2
    clear f1 f2 hps hP it P0 hK hq
    cases ok
    · have hw : worstV (rsV ps) ≠ 0 := of_decide_eq_false hok.symm
      have SEV := Lib.hid (F1.out hw)
      clear hw hok F1 F2 TG
      gi_wp2
      obtain ⟨d1, d2, d3, d4, d5⟩ := FIN.out W (Below.refl _ _) (.slice none 0 0) (.int .i64 3) LOW.out
      refine ⟨by simp, .inl ⟨_, _, rfl, run_takeDeferred d1, ?_⟩⟩
      refine ⟨.tuple #[.slice none 0 0, .int .i64 3], ?_, ⟨_, by rw [SEV.out], by rw [SEV.out]; exact RgNew.nil _ _, d3⟩⟩
      simp [results, Tryz.results53, go_sem, d4, d5]
    · have hw : worstV (rsV ps) = 0 := of_decide_eq_true hok.symm
      have FF := Lib.hid (F2.out hw)
      clear hw hok F1 F2
      by_cases h4 : 4 < q
      · have SEV := Lib.hid (FF.out.trans (if_pos h4))
        have h4i : (4 : Int) < (q : Int) := by omega
        clear TG
        gi_wp2
        obtain ⟨d1, d2, d3, d4, d5⟩ := FIN.out W (Below.refl _ _) (.slice none 0 0) (.int .i64 11) LOW.out
        refine ⟨by simp, .inl ⟨_, _, rfl, run_takeDeferred d1, ?_⟩⟩
        refine ⟨.tuple #[.slice none 0 0, .int .i64 11], ?_, ⟨_, by rw [SEV.out], by rw [SEV.out]; exact RgNew.nil _ _, d3⟩⟩
        simp [results, Tryz.results53, go_sem, d4, d5]
      · have h4i : (q : Int) ≤ 4 := by omega
        cases ht : tog L
        · have SEV := Lib.hid (FF.out.trans ((if_neg h4).trans (by rw [ht]; rfl) : _ = (([] : List (Int × Int)), (1 : Int))))
          rw [ht] at TG
          clear ht h4
          gi_wp2_with (refine ⟨trivial, ?_⟩; gi_at_call 45; refine (callsIn_wide.2 TG.out).mono ?_; rintro _ w3 ⟨rfl, hb3⟩; have r0' := cellb hb3 r0; have r1' := cellb hb3 r1; have rf0' := (hb3.frozen (p := ⟨w.heap.size, 0, none⟩) (by simp only; omega)).trans rf0; have rf1' := (hb3.frozen (p := ⟨w.heap.size + 1, 0, none⟩) (by simp only; omega)).trans rf1)
          obtain ⟨d1, d2, d3, d4, d5⟩ := FIN.out w3 hb3 (.slice none 0 0) (.int .i64 1) (LOW.out.trans (hb3.mono (by omega)))
          refine ⟨by simp, .inl ⟨_, _, rfl, run_takeDeferred d1, ?_⟩⟩
          refine ⟨.tuple #[.slice none 0 0, .int .i64 1], ?_, ⟨_, by rw [SEV.out], by rw [SEV.out]; exact RgNew.nil _ _, d3⟩⟩
          simp [results, Tryz.results53, go_sem, d4, d5]
        · have SEV := Lib.hid (FF.out.trans ((if_neg h4).trans (by rw [ht]; rfl) : _ = (L, (0 : Int))))
          rw [ht] at TG
          clear ht h4
          gi_wp2_with (refine ⟨trivial, ?_⟩; gi_at_call 45; refine (callsIn_wide.2 TG.out).mono ?_; rintro _ w3 ⟨rfl, hb3⟩; have r0' := cellb hb3 r0; have r1' := cellb hb3 r1; have l0' := cellb hb3 l0; have rf0' := (hb3.frozen (p := ⟨w.heap.size, 0, none⟩) (by simp only; omega)).trans rf0; have rf1' := (hb3.frozen (p := ⟨w.heap.size + 1, 0, none⟩) (by simp only; omega)).trans rf1)
          obtain ⟨d1, d2, d3, d4, d5⟩ := FIN.out w3 hb3 (.slice AL q cl) (.int .i64 0) (LOW.out.trans (hb3.mono (by omega)))
          refine ⟨by simp, .inl ⟨_, _, rfl, run_takeDeferred d1, ?_⟩⟩
          refine ⟨.tuple #[.slice AL q cl, .int .i64 0], ?_, ⟨_, by rw [SEV.out], by rw [SEV.out]; exact ((ROW.out.below hb3).keep (fun g hg hl _ => d2.block g hl (by omega))).mono (by omega), d3⟩⟩
          simp [results, Tryz.results53, go_sem, d4, d5]
  case stop =>
    rintro c pre W ⟨rfl, hb, h0, h1, hp⟩ hK
    rw [z0] at hK ⊢
    gi_wp2
    refine ⟨by simp, .inl ⟨_, _, rfl, run_takeDeferred hK, ?_⟩⟩
    have hl := World.block_lt_of_cell? W _ h1
    simp only at hl
    have t := Turns.putObj W (w.heap.size + 7) (.deferred none)
    have d4 := t.cell h0 (by omega)
    have d5 := t.cell h1 (by omega)
    refine ⟨.tuple #[.slice none 0 0, .int .i64 7], ?_, ⟨_, by rw [hp], by rw [hp]; exact RgNew.nil _ _, t.low hb (by omega) (fun k hk => by omega)⟩⟩
    simp [results, Tryz.results53, go_sem, d4, d5]
end Go.Proofs.YtodlgbihdehmbaaGreatDoor.RP
/-
  Contracts of the program's functions of layer 12: a store of a section.
-/
set_option linter.unusedSimpArgs false
set_option linter.unusedVariables false
namespace Go.Proofs.YtodlgbihdehmbaaGreatDoor.LP
open Go.RowKit Cf Cf.KR Cf.KP
theorem RgNew.puts3 {B b : Nat} {w : World} {v : Value} {l : List (Int × Int)} (h : RgNew B w v l) (hb : b < B) (x y z : Value) : RgNew B (((w.setCell ⟨b, 0, none⟩ x).setCell ⟨b, 1, none⟩ y).setCell ⟨b, 2, none⟩ z) v l :=
  h.keep fun g hg hl _ => (Below.heap_setCell _ _ _ g (by simp only; omega)).trans ((Below.heap_setCell _ _ _ g (by simp only; omega)).trans (Below.heap_setCell _ _ _ g (by simp only; omega)))
theorem below_puts3 {B b : Nat} {a w : World} (h : Below B a w) (hB : B ≤ b) (x y z : Value) : Below B a (((w.setCell ⟨b, 0, none⟩ x).setCell ⟨b, 1, none⟩ y).setCell ⟨b, 2, none⟩ z) :=
  ((h.setCell (p := ⟨b, 0, none⟩) hB x).setCell (p := ⟨b, 1, none⟩) hB y).setCell (p := ⟨b, 2, none⟩) hB z
/-- What store answers. -/
def StAns (w : World) (nm pat : ByteArray) (R : List (Int × Int) × Int) (e : Ending) (w' : World) : Prop :=
  ∃ (a b : ByteArray) (A : Option Addr) (n c : Nat), e = .returned (.tuple #[.agg #[.string a, .string b, .slice A n c], .int .i64 R.2]) ∧ (R.2 = 0 → a = nm ∧ b = pat ∧ RgNew w.heap.size w' (.slice A n c) R.1) ∧ Below w.heap.size w w'
set_option maxRecDepth 100000 in
set_option maxHeartbeats 2000000 in
theorem store_p (nm pat : ByteArray) (v : Value) (L : List KV) (hl : L.length ≤ 100000) (hL : ∀ x ∈ L, Byt x.1 ∧ Byt x.2 ∧ x.2.length ≤ 5000) (w : World) (g : G w) (f : KvOut w v L) :
    Calls Tryz.prog 26 #[.agg #[.string nm, v], .string pat] w (StAns w nm pat (parseV ((getV L retB).getD []))) := by
  have hT : Byt ((getV L retB).getD []) ∧ ((getV L retB).getD []).length ≤ 5000 := by
    unfold getV
    cases hf : L.find? (fun p => p.1 == retB) with
    | none => exact ⟨fun c h => (by cases h), Nat.zero_le _⟩
    | some x => exact ⟨(hL x (List.mem_of_find?_eq_some hf)).2.1, (hL x (List.mem_of_find?_eq_some hf)).2.2⟩
  have GET := (fun (W : World) (h : Below w.heap.size w W) => get_p nm v L hl (fun x hx => (hL x hx).1) (str retB) W (f.below h))
  rw [bs_str (by unfold Byt retB; decide : Byt retB)] at GET
  obtain ⟨T, hTT⟩ : ∃ T, (getV L retB).getD [] = T := ⟨_, rfl⟩
  obtain ⟨gd, hgd⟩ : ∃ gd, (getV L retB).isSome = gd := ⟨_, rfl⟩
  rw [hTT, hgd] at GET
  rw [hTT] at hT ⊢
  have PRS := (fun (W : World) (h : G W) => callsIn_wide.1 (RP.parse_in (str T) (by rw [str_size]; exact hT.2) W h))
  rw [bs_str hT.1] at PRS
  obtain ⟨⟨R, E⟩, hR⟩ : ∃ R, parseV T = R := ⟨_, rfl⟩
  rw [hR] at PRS ⊢
  simp only at PRS
  obtain ⟨A, c, rfl, hc, -⟩ := f
  generalize L.length = n at *
  obtain ⟨S, hS⟩ : ∃ S, str T = S := ⟨_, rfl⟩
  rw [hS] at GET PRS
  obtain ⟨k0, k1, -, -⟩ := two_new w (.string nm) (.slice A n c) 63
  obtain ⟨wb, hwb⟩ : ∃ wb, w.alloc (.cells #[.string nm, .slice A n c] 63) = wb := ⟨_, rfl⟩
  have hbw := alloc_below w (.cells #[.string nm, .slice A n c] 63)
  have hsz : wb.heap.size = w.heap.size + 1 := by rw [← hwb]; simp
  rw [hwb] at k0 k1 hbw
  have hb2 := alloc_below wb (.cells #[.string ⟨#[]⟩, .string ⟨#[]⟩, .slice none 0 0] 47)
  have hw2s : (wb.alloc (.cells #[.string ⟨#[]⟩, .string ⟨#[]⟩, .slice none 0 0] 47)).heap.size = w.heap.size + 2 := by simp [hsz]
  have d3 : DVar (wb.alloc (.cells #[.string ⟨#[]⟩, .string ⟨#[]⟩, .slice none 0 0] 47)) wb.heap.size 3 := DVar.alloc _ _
  obtain ⟨w2, hw2⟩ : ∃ w2, wb.alloc (.cells #[.string ⟨#[]⟩, .string ⟨#[]⟩, .slice none 0 0] 47) = w2 := ⟨_, rfl⟩
  rw [hw2] at hb2 hw2s d3
  have k0 := cellb hb2 k0
  have k1 := cellb hb2 k1
  have HB := Lib.hid (bnext hbw hb2)
  have GW := Lib.hid (g.below HB.out)
  have GET2 := Lib.hid (GET w2 HB.out)
  have PRS2 := Lib.hid PRS
  have HS := Lib.hid hw2s
  have HSB := Lib.hid hsz
  have D3 := Lib.hid d3
  clear GET PRS hT hTT hgd hR hS g hbw hb2 hw2s d3 hL hl hsz
  go_enter Tryz.func26, Tryz.ntmps26
  go_wp2_with fail
  (try rw [hwb]); (try rw [hw2])
  refine GET2.out.mono ?_; rintro _ w3 ⟨rfl, hb3⟩
  have k0 := cellb hb3 k0
  have k1 := cellb hb3 k1
  go_wp2_with fail
  refine (PRS2.out w3 (GW.out.below hb3)).mono ?_; rintro _ w4 ⟨u, rfl, hu, hb4⟩
  have k0 := cellb hb4 k0
  have k1 := cellb hb4 k1
  have HB4 := Lib.hid (bnext HB.out (bnext hb3 hb4))
  have hs3 := hb3.size
  have HU := Lib.hid hu
  have D4 := D3.out.below (bnext hb3 hb4)
  obtain ⟨Au, cu, rfl, hcu⟩ := hu.form
  clear hu hcu
  generalize R.length = m at *
  have ne1 : wb.heap.size ≠ w.heap.size := by rw [HSB.out]; omega
  have lt4 : wb.heap.size < w3.heap.size := by have := HS.out; have := HSB.out; omega
  obtain ⟨x0, p0⟩ := D4.c 0 (by decide); obtain ⟨x1, p1⟩ := D4.c 1 (by decide); obtain ⟨x2, p2⟩ := D4.c 2 (by decide)
  have f0 := D4.f 0 (by decide); have f1 := D4.f 1 (by decide); have f2 := D4.f 2 (by decide)
  have PUT := Lib.hid (fun x y z => below_puts3 HB4.out (by rw [HSB.out]; omega : w.heap.size ≤ wb.heap.size) x y z)
  have RGP := Lib.hid (fun x y z => (RgNew.puts3 HU.out lt4 x y z).mono (by have := HS.out; omega : w.heap.size ≤ w3.heap.size))
  clear D4 lt4
  by_cases h0 : E = 0
  · subst h0
    go_wp2
    have q0 : ((((w4.setCell ⟨wb.heap.size, 0, none⟩ (.string nm)).setCell ⟨wb.heap.size, 1, none⟩ (.string pat)).setCell ⟨wb.heap.size, 2, none⟩ (.slice Au m cu))).cell? ⟨wb.heap.size, 0, none⟩ = some (.string nm) := by go_simp
    have q1 : ((((w4.setCell ⟨wb.heap.size, 0, none⟩ (.string nm)).setCell ⟨wb.heap.size, 1, none⟩ (.string pat)).setCell ⟨wb.heap.size, 2, none⟩ (.slice Au m cu))).cell? ⟨wb.heap.size, 1, none⟩ = some (.string pat) := by go_simp
    have q2 : ((((w4.setCell ⟨wb.heap.size, 0, none⟩ (.string nm)).setCell ⟨wb.heap.size, 1, none⟩ (.string pat)).setCell ⟨wb.heap.size, 2, none⟩ (.slice Au m cu))).cell? ⟨wb.heap.size, 2, none⟩ = some (.slice Au m cu) := by go_simp
    exact bodyPost_ret (v := .tuple #[.agg #[.string nm, .string pat, .slice Au m cu], .int .i64 0]) (by simp [results, Tryz.results26, go_sem, q0, q1, q2]) rfl ⟨nm, pat, Au, m, cu, rfl, fun _ => ⟨rfl, rfl, RGP.out _ _ _⟩, PUT.out _ _ _⟩
  · have h1 : (E == 0) = false := beq_false_of_ne h0
    go_wp2
    have q0 : ((((w4.setCell ⟨wb.heap.size, 0, none⟩ (.string ⟨#[]⟩)).setCell ⟨wb.heap.size, 1, none⟩ (.string ⟨#[]⟩)).setCell ⟨wb.heap.size, 2, none⟩ (.slice none 0 0))).cell? ⟨wb.heap.size, 0, none⟩ = some (.string ⟨#[]⟩) := by go_simp
    have q1 : ((((w4.setCell ⟨wb.heap.size, 0, none⟩ (.string ⟨#[]⟩)).setCell ⟨wb.heap.size, 1, none⟩ (.string ⟨#[]⟩)).setCell ⟨wb.heap.size, 2, none⟩ (.slice none 0 0))).cell? ⟨wb.heap.size, 1, none⟩ = some (.string ⟨#[]⟩) := by go_simp
    have q2 : ((((w4.setCell ⟨wb.heap.size, 0, none⟩ (.string ⟨#[]⟩)).setCell ⟨wb.heap.size, 1, none⟩ (.string ⟨#[]⟩)).setCell ⟨wb.heap.size, 2, none⟩ (.slice none 0 0))).cell? ⟨wb.heap.size, 2, none⟩ = some (.slice none 0 0) := by go_simp
    exact bodyPost_ret (v := .tuple #[.agg #[.string ⟨#[]⟩, .string ⟨#[]⟩, .slice none 0 0], .int .i64 E]) (by simp [results, Tryz.results26, go_sem, q0, q1, q2]) rfl ⟨_, _, _, _, _, rfl, fun h => absurd h h0, PUT.out _ _ _⟩
end Go.Proofs.YtodlgbihdehmbaaGreatDoor.LP
/-
  Contracts of the program's functions of layer 12: the stores of a configuration.
-/
set_option linter.unusedSimpArgs false
set_option linter.unusedVariables false
namespace Go.Proofs.YtodlgbihdehmbaaGreatDoor
open Cf
def SecL (M : Nat) (L : List Sec) : Prop := ∀ x ∈ L, ∀ p ∈ x.2, p.2.length ≤ M
theorem cutC_len (t : List Nat) : (cutC t).1.2.length ≤ t.length := by
  unfold cutC
  split
  · exact Nat.zero_le _
  · exact Nat.zero_le _
  · refine Nat.le_trans (blB_length _) ?_
    rw [List.length_drop]; omega
theorem step_len {M : Nat} {out : List Sec} {t : List Nat} (ho : SecL M out) (ht : t.length ≤ M) : SecL M (stepV out t).1 := by
  have h0 : SecL M [] := fun x hx => nomatch hx
  cases hh : headV t with
  | some n =>
    rw [step_head hh]
    split
    · exact h0
    · split
      · exact h0
      · intro x hx
        rcases List.mem_append.1 hx with hx | hx
        · exact ho x hx
        · obtain rfl := List.mem_singleton.1 hx
          exact fun p hp => nomatch hp
  | none =>
    rcases List.eq_nil_or_concat out with rfl | ⟨m, x, rfl⟩
    · rw [step_none hh]; exact h0
    · rw [List.concat_eq_append] at ho ⊢
      rw [step_key hh]
      split
      · exact h0
      · split
        · exact h0
        · split
          · exact h0
          · intro y hy
            rcases List.mem_append.1 hy with hy | hy
            · exact ho y (List.mem_append_left _ hy)
            · obtain rfl := List.mem_singleton.1 hy
              have hx := ho x (List.mem_append_right _ (List.mem_singleton.2 rfl))
              intro p hp
              rcases List.mem_append.1 hp with hp | hp
              · exact hx p hp
              · obtain rfl := List.mem_singleton.1 hp
                exact Nat.le_trans (cutC_len t) ht
theorem run_len {M : Nat} : ∀ (L : List (List Nat)) {out : List Sec}, SecL M out → (∀ t ∈ L, t.length ≤ M) → SecL M (runV out L).1
  | [], out, h, _ => h
  | s :: L, out, h, hL => by
    unfold runV
    split
    · exact run_len L (step_len h (hL s List.mem_cons_self)) fun t ht => hL t (List.mem_cons_of_mem _ ht)
    · exact fun x hx => nomatch hx
theorem conf_len (l : List Nat) : SecL 4096 (confV l).1 := by
  unfold confV
  split
  · exact fun x hx => nomatch hx
  · refine run_len _ (fun x hx => nomatch hx) fun t ht => ?_
    unfold linesV keepV at ht
    obtain ⟨h1, _⟩ := List.mem_filter.1 ht
    obtain ⟨p, hp, rfl⟩ := List.mem_map.1 h1
    have h2 := spl_part_length 10 l p hp
    have h3 := lnV_length p
    omega
theorem conf_byt {l : List Nat} (h : Byt l) : SecB (confV l).1 := by
  unfold confV
  split
  · exact fun x hx => nomatch hx
  · exact run_byt _ (fun x hx => nomatch hx) (lines_byt h)
/-- What is asked of a section of a configuration, all at once. -/
structure SecOk (x : Sec) : Prop where
  nm : Byt x.1
  few : x.2.length ≤ 16
  kv : ∀ p ∈ x.2, Byt p.1 ∧ Byt p.2 ∧ p.2.length ≤ 5000
theorem conf_ok {l : List Nat} (h : Byt l) : ∀ x ∈ (confV l).1, SecOk x := fun x hx => by
  have h1 := conf_byt h x hx
  have h2 := conf_len l x hx
  have h3 := (conf_few l).keys x hx
  exact ⟨h1.1, h3, fun p hp => ⟨(h1.2 p hp).1, (h1.2 p hp).2, Nat.le_trans (h2 p hp) (by decide)⟩⟩
theorem SecOk.val {x : Sec} (h : SecOk x) (k : List Nat) : Byt ((getV x.2 k).getD []) ∧ ((getV x.2 k).getD []).length ≤ 5000 := by
  unfold getV
  cases hf : x.2.find? (fun p => p.1 == k) with
  | none => exact ⟨fun c h => (by cases h), Nat.zero_le _⟩
  | some y => exact ⟨(h.kv y (List.mem_of_find?_eq_some hf)).2.1, (h.kv y (List.mem_of_find?_eq_some hf)).2.2⟩
namespace LP
open Go.RowKit Cf.KR Cf.KP
theorem stoV_no {x : Sec} (h : keysV [patB, retB] [] x.2 = false) : stoV x = (Sto.none, 7) := by
  unfold stoV
  refine if_neg fun ⟨h1, h2, h3⟩ => ?_
  have : keysV [patB, retB] [] x.2 = true := by
    unfold keysV
    rw [Bool.and_eq_true]
    refine ⟨by simp [h1, h2], ?_⟩
    unfold onlyV at h3
    rw [List.all_eq_true] at h3 ⊢
    intro p hp
    have := h3 p hp
    rw [List.any_eq_true] at this
    obtain ⟨k, hk, e⟩ := this
    rw [Bool.or_eq_true, List.any_eq_true]
    exact .inl ⟨k, hk, by rw [beq_iff_eq] at e ⊢; exact e.symm⟩
  rw [h] at this; cases this
theorem stoV_yes {x : Sec} (h : keysV [patB, retB] [] x.2 = true) : stoV x = if (Nd.ndComp ((getV x.2 patB).getD [])).2 ≠ 0 then (Sto.none, (Nd.ndComp ((getV x.2 patB).getD [])).2)
    else if (parseV ((getV x.2 retB).getD [])).2 ≠ 0 then (Sto.none, (parseV ((getV x.2 retB).getD [])).2)
    else ((x.1, (getV x.2 patB).getD [], (parseV ((getV x.2 retB).getD [])).1), 0) := by
  unfold stoV
  refine if_pos ?_
  unfold keysV at h
  rw [Bool.and_eq_true] at h
  obtain ⟨h1, h2⟩ := h
  simp only [List.all_cons, List.all_nil, Bool.and_true, Bool.and_eq_true] at h1
  refine ⟨h1.1, h1.2, ?_⟩
  unfold onlyV
  rw [List.all_eq_true] at h2 ⊢
  intro p hp
  have := h2 p hp
  rw [Bool.or_eq_true] at this
  rcases this with e | e
  · rw [List.any_eq_true] at e ⊢
    obtain ⟨k, hk, e⟩ := e
    exact ⟨k, hk, by rw [beq_iff_eq] at e ⊢; exact e.symm⟩
  · simp at e
/-- The stores so far. -/
def stsV (L : List Sec) : List Sto := L.map fun x => (stoV x).1
theorem stores_err {l : List Nat} {k : Nat} {x : Sec} (hc : (confV l).2 = 0) (hk : (confV l).1[k]? = some x) (h : ∀ y ∈ (confV l).1.take k, (stoV y).2 = 0) (hx : (stoV x).2 ≠ 0) : storesV l = ([], (stoV x).2) := by
  unfold storesV
  rw [if_neg (fun e => e hc)]
  exact rulV_take stoV _ k x hk h hx
theorem stores_ok {l : List Nat} (hc : (confV l).2 = 0) (h : ∀ y ∈ (confV l).1, (stoV y).2 = 0) : storesV l = (stsV (confV l).1, 0) := by
  unfold storesV
  rw [if_neg (fun e => e hc)]
  exact rulV_all stoV _ h
theorem eg_store : ∀ args w, (callFunc 26 args).run Tryz.prog w = .ok (.enter 26 args) w := enters_of Tryz.func26 (by kernel_rfl) rfl
end LP
end Go.Proofs.YtodlgbihdehmbaaGreatDoor
