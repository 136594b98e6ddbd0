/-
  A range over an iterator that keeps a state of its own: in blocks that lay ahead of the loop, and in such as it lays when it begins: what the loop owes, what the iterator owes.
-/
import Derived.RangeFuncBox
import Derived.RangeFuncCalls
import Derived.RangeFuncLeaves
set_option linter.unusedSimpArgs false
set_option linter.unusedVariables false
namespace Go.Proofs.YtgdjmbekamdlgaaDoor
open Go Go.RowKit
/-- Nothing turns but new blocks and those of S. -/
structure Turns (S : Nat → Prop) (W W' : World) : Prop where
  os : W'.os = W.os
  tape : W'.tape = W.tape
  output : W'.output = W.output
  size : W.heap.size ≤ W'.heap.size
  block : ∀ k, k < W.heap.size → ¬ S k → W'.heap[k]? = W.heap[k]?
theorem Turns.refl (S : Nat → Prop) (W : World) : Turns S W W := ⟨rfl, rfl, rfl, Nat.le_refl _, fun _ _ _ => rfl⟩
theorem Turns.trans {S : Nat → Prop} {A B C : World} (h : Turns S A B) (k : Turns S B C) : Turns S A C :=
  ⟨k.os.trans h.os, k.tape.trans h.tape, k.output.trans h.output, Nat.le_trans h.size k.size, fun i hi hn => (k.block i (Nat.lt_of_lt_of_le hi h.size) hn).trans (h.block i hi hn)⟩
theorem Turns.mono {S S' : Nat → Prop} {A B : World} (h : Turns S A B) (hs : ∀ k, S k → S' k) : Turns S' A B := ⟨h.os, h.tape, h.output, h.size, fun i hi hn => h.block i hi (fun e => hn (hs i e))⟩
theorem Turns.of_below {S : Nat → Prop} {W W' : World} (h : Below W.heap.size W W') : Turns S W W' := ⟨h.os, h.tape, h.output, h.size, fun k hk _ => h.block k hk⟩
theorem Turns.putObj (W : World) (l : Nat) (o : Obj) : Turns (· = l) W (W.putObj l o) := ⟨rfl, rfl, rfl, by simp, fun k _ hk => World.putObj_heap_other hk⟩
theorem Turns.setCell (W : World) (b o : Nat) (v : Value) : Turns (· = b) W (W.setCell ⟨b, o, none⟩ v) := ⟨rfl, rfl, rfl, (KeepsWalks.setCell W _ v).size, fun k _ hk => Below.heap_setCell _ _ _ k (fun e => hk e)⟩
theorem Turns.alloc (S : Nat → Prop) (W : World) (o : Obj) : Turns S W (W.alloc o) := Turns.of_below ((Below.refl _ W).alloc (Nat.le_refl _) o)
theorem Turns.low {S : Nat → Prop} {N : Nat} {w A B : World} (h : Turns S A B) (hb : Below N w A) (hN : N ≤ A.heap.size) (hs : ∀ k, S k → N ≤ k) : Below N w B :=
  hb.trans ⟨h.os, h.tape, h.output, h.size, fun k hk => h.block k (by omega) (fun e => by have := hs k e; omega)⟩
theorem Turns.cell {S : Nat → Prop} {A B : World} (h : Turns S A B) {b o : Nat} {v : Value} (hc : A.cell? ⟨b, o, none⟩ = some v) (hb : ¬ S b) : B.cell? ⟨b, o, none⟩ = some v :=
  (World.cell?_of_block (h.block b (World.block_lt_of_cell? A _ hc) hb)).trans hc
theorem Turns.frozen {S : Nat → Prop} {A B : World} (h : Turns S A B) {b o : Nat} (hb : ¬ S b) (hlt : b < A.heap.size) : B.frozen? ⟨b, o, none⟩ = A.frozen? ⟨b, o, none⟩ := World.frozen?_of_block (h.block b hlt hb)
/-- Some blocks lie as they lay. -/
def KeepB (S : Nat → Prop) (W W' : World) : Prop := ∀ k, S k → W'.heap[k]? = W.heap[k]?
theorem KeepB.trans {S : Nat → Prop} {A B C : World} (h : KeepB S A B) (k : KeepB S B C) : KeepB S A C := fun i hi => (k i hi).trans (h i hi)
theorem KeepB.mono {S S' : Nat → Prop} {A B : World} (h : KeepB S A B) (hs : ∀ k, S' k → S k) : KeepB S' A B := fun i hi => h i (hs i hi)
theorem KeepB.refl (S : Nat → Prop) (W : World) : KeepB S W W := fun _ _ => rfl
theorem Turns.keep {S T : Nat → Prop} {W W' : World} (h : Turns S W W') (hlt : ∀ k, T k → k < W.heap.size ∧ ¬ S k) : KeepB T W W' := fun k hk => h.block k (hlt k hk).1 (hlt k hk).2
/-- The blocks of the iterator: such as lay ahead, and c that it lays itself. -/
def OwnB (K : Nat → Prop) (B c k : Nat) : Prop := K k ∨ (B ≤ k ∧ k < B + c)
/-- What an iterator owes that gives xs, one by one. -/
def Iter {α : Type} (F : Fence) (n : Nat) (P : Program) (gf : Nat) (lb : Array Value) (enc : α → Value) (K M : Nat → Prop) (c : Nat) (xs : List α) (w : World) : Prop :=
  ∀ (l : Nat) (J Jx : List α → World → Prop) (W : World), KeepB K w W → (∀ k, K k → k < W.heap.size) →
    (∀ pre A A', J pre A → Turns (OwnB M W.heap.size c) A A' → J pre A') →
    (∀ pre A A', Jx pre A → Turns (OwnB M W.heap.size c) A A' → Jx pre A') →
    (∀ pre x A, J pre A → W.heap.size + c ≤ A.heap.size → pre ++ [x] <+: xs → YieldAt F (n - 1) P l #[enc x] A fun e A' => (e = .returned (.bool true) ∧ J (pre ++ [x]) A' ∧ KeepB (OwnB K W.heap.size c) A A' ∧ A.heap.size ≤ A'.heap.size) ∨ (e = .returned (.bool false) ∧ Jx (pre ++ [x]) A' ∧ KeepB (OwnB K W.heap.size c) A A' ∧ A.heap.size ≤ A'.heap.size)) →
    J [] W →
    CallsIn F n P gf (#[.func (.yield l) #[] #[]] ++ lb) W fun e W' => (∃ v, e = .returned v) ∧ (J xs W' ∨ ∃ pre, Jx pre W')
variable {F : Fence} {n : Nat} {P : Program}
/-- How a round's body may be left. -/
def leftPost {α : Type} (S : Nat → Prop) (I : List α → World → Prop) (Ix : Code → List α → World → Prop) (pre : List α) (W : World) : Exit → Act → World → Prop
  | .normal, _, W' => KeepB S W W' ∧ W.heap.size ≤ W'.heap.size ∧ I pre W'
  | .ret, _, W' => KeepB S W W' ∧ W.heap.size ≤ W'.heap.size ∧ Ix .ret pre W'
  | .exit id, _, W' => KeepB S W W' ∧ W.heap.size ≤ W'.heap.size ∧ Ix (.exit id) pre W'
  | _, _, _ => False
/-- What a loop over such an iterator owes. -/
theorem wp_range {α : Type} {g : Operand} {ps : Array Tmp} {assign body : Code} {Q : Exit → Act → World → Prop} {a : Act} {w : World}
    (hro : F.round = none) (h1 : 1 ≤ n) {gf : Nat} {lb : Array Value} (hg : a.eval g = .func (.func gf) #[] lb) (hFg : F.fn gf) (eg : ∀ args w, (callFunc gf args).run P w = .ok (.enter gf args) w)
    {enc : α → Value} {K M : Nat → Prop} {c : Nat} {xs : List α} {w0 : World} (hit : Iter F (n - 1) P gf lb enc K M c xs w0) (hM : ∀ k, M k → K k) (hk0 : KeepB K w0 w) (hB : ∀ k, K k → k < w.heap.size) (hps : ps.size = 1)
    (I : List α → World → Prop) (Ix : Code → List α → World → Prop)
    (hI : ∀ pre A A', I pre A → Turns (OwnB M w.heap.size (c + 2)) A A' → I pre A')
    (hIx : ∀ c' pre A A', Ix c' pre A → Turns (OwnB M w.heap.size (c + 2)) A A' → Ix c' pre A')
    (h0 : I [] w) (a₁ : α → Act)
    (hassign : ∀ (l : Nat) (x : α) (W : World) (G : Act → World → Prop), G (a₁ x) W →
      assign.wpIn (F.inRound l) (n - 1 - 1) P (Exit.then G (fun _ _ _ => False)) { tmps := (ps.zip #[enc x]).foldl (fun t (p, v) => t.setIfInBounds p v) a.tmps, defers := [] } W)
    (hbody : ∀ (l : Nat) (pre : List α) (x : α) (W : World), I pre W → w.heap.size + (c + 2) ≤ W.heap.size → pre ++ [x] <+: xs →
      body.wpIn (F.inRound l) (n - 1 - 1) P (leftPost (OwnB K w.heap.size (c + 2)) I Ix (pre ++ [x]) W) (a₁ x) W)
    (hdone : ∀ (W : World), I xs W → W.heap[w.heap.size]? = some (.deferred (some [])) → Q .normal { a with defers := { target := .collected w.heap.size, args := #[] } :: a.defers } W)
    (hstop : ∀ (c : Code) (pre : List α) (W : World), Ix c pre W → W.heap[w.heap.size]? = some (.deferred (some [])) → c.wpIn F n P Q { a with defers := { target := .collected w.heap.size, args := #[] } :: a.defers } W) :
    (Code.rangeFunc g ps assign body).wpIn F n P Q a w := by
  refine wpIn_rangeFunc fun fn hfn => ?_
  rw [hro]
  -- the loop's record, in each of its states
  obtain ⟨R, hR⟩ : ∃ R : LoopState → Option Code → Loop, R = fun st pe => { state := st, pending := pe, fn := fn, tmps := a.tmps, params := ps, assign := assign, body := body, defers := w.heap.size } := ⟨_, rfl⟩
  obtain ⟨l, hl⟩ : ∃ l, w.heap.size + 1 = l := ⟨_, rfl⟩
  obtain ⟨V, hV⟩ : ∃ V, (w.alloc (.deferred (some []))).alloc (.loop (R .ready none)) = V := ⟨_, rfl⟩
  have tV : Turns (fun _ => False) w V := by rw [← hV]; exact (Turns.alloc _ _ _).trans (Turns.alloc _ _ _)
  have sV : V.heap.size = w.heap.size + 2 := by rw [← hV]; simp
  have lV : V.heap[l]? = some (.loop (R .ready none)) := by
    rw [← hV, ← hl]
    have h := World.alloc_heap_new (w.alloc (.deferred (some []))) (.loop (R .ready none))
    rwa [World.size_alloc] at h
  have dV : V.heap[w.heap.size]? = some (.deferred (some [])) := by
    rw [← hV]
    exact (Below.heap_alloc _ _ _ (by simp)).trans (World.alloc_heap_new w _)
  refine ⟨l, [{ target := .collected w.heap.size, args := #[] }], V, { target := .fn (.func gf) lb, args := #[.func (.yield l) #[] #[]] }, V, gf, #[.func (.yield l) #[] #[]] ++ lb, V, ?_, ?_, ?_, ?_, fun _ => h1, ?_⟩
  · rw [← hV, ← hl, hR]; exact run_enterLoop_outer _ _ _ _ _
  · simp only [resolve, hg]; simp [go_sem]
  · intro f' hf'; simp [Target.leads] at hf'; subst hf'; exact hFg
  · simp [invoke, go_sem, eg]
  have own : ∀ k, OwnB K V.heap.size c k → OwnB K w.heap.size (c + 2) k := fun k hk => hk.imp id (fun h => by rw [sV] at h; omega)
  have ownM : ∀ k, OwnB M V.heap.size c k → OwnB M w.heap.size (c + 2) k := fun k hk => hk.imp id (fun h => by rw [sV] at h; omega)
  have ownR : ∀ k, OwnB K V.heap.size c k → k ≠ l ∧ k ≠ w.heap.size := fun k hk => by
    rcases hk with hk | hk
    · have := hB k hk; omega
    · rw [sV] at hk; omega
  -- what is handed through the iterator
  have fits : ∀ {A A' : World} {st : LoopState} {pe : Option Code}, (A.heap[l]? = some (.loop (R st pe)) ∧ A.heap[w.heap.size]? = some (.deferred (some []))) → Turns (OwnB M V.heap.size c) A A' → (A'.heap[l]? = some (.loop (R st pe)) ∧ A'.heap[w.heap.size]? = some (.deferred (some []))) := fun h t =>
    ⟨(t.block l (Array.getElem?_eq_some_iff.1 h.1).1 (fun h => (ownR l (h.imp (hM _) id)).1 rfl)).trans h.1, (t.block _ (Array.getElem?_eq_some_iff.1 h.2).1 (fun h => (ownR _ (h.imp (hM _) id)).2 rfl)).trans h.2⟩
  refine (hit l (fun pre A => I pre A ∧ (A.heap[l]? = some (.loop (R .ready none)) ∧ A.heap[w.heap.size]? = some (.deferred (some []))))
    (fun pre A => ∃ c', Ix c' pre A ∧ (A.heap[l]? = some (.loop (R .done (some c'))) ∧ A.heap[w.heap.size]? = some (.deferred (some [])))) V
    (hk0.trans (tV.keep fun k hk => ⟨hB k hk, fun e => e⟩)) (fun k hk => by have := hB k hk; omega)
    (fun pre A A' h t => ⟨hI pre A A' h.1 (t.mono ownM), fits h.2 t⟩)
    (fun pre A A' h t => by
      obtain ⟨c', h1, h2⟩ := h
      exact ⟨c', hIx c' pre A A' h1 (t.mono ownM), fits h2 t⟩) ?_ ⟨hI [] w V h0 (tV.mono fun _ e => e.elim), lV, dV⟩).mono ?_
  · -- one round
    rintro pre x A ⟨hi, hA, hD⟩ hs hpre
    rw [sV] at hs
    have hlt : l < A.heap.size := by omega
    have hy := run_yield (P := P) (args := #[enc x]) hA (by rw [hR]; simp [hps])
    rw [hR] at hy
    refine ⟨fn, _, assign, body, hy, roundIn_of_wpIn hfn (hassign l x A _ ⟨_, run_beginRound hA (by rw [hR]), ?_⟩)⟩
    obtain ⟨A1, hA1⟩ : ∃ A1, A.putObj l (.loop { R .ready none with state := .busy }) = A1 := ⟨_, rfl⟩
    rw [hA1]
    have t1 : Turns (· = l) A A1 := by rw [← hA1]; exact Turns.putObj _ _ _
    have l1 : A1.heap[l]? = some (.loop { R .ready none with state := .busy }) := by rw [← hA1]; exact World.putObj_heap_same hlt
    have inL : ∀ k, k = l → OwnB K w.heap.size (c + 2) k := fun k e => .inr (by omega)
    have inM : ∀ k, k = l → OwnB M w.heap.size (c + 2) k := fun k e => .inr (by omega)
    refine wpIn_mono (hbody l pre x A1 (hI pre A A1 hi (t1.mono inM)) (Nat.le_trans (by omega) t1.size) hpre) ?_
    -- the round is over
    have over : ∀ (jump : Option Code) (A2 : World), KeepB (OwnB K w.heap.size (c + 2)) A1 A2 → A1.heap.size ≤ A2.heap.size → ∃ A3, (Instr.endRound l jump).run P A2 = .ok (.bool jump.isNone) A3 ∧ Turns (· = l) A2 A3 ∧
        (A3.heap[l]? = some (.loop (R (if jump.isNone then .ready else .done) jump)) ∧ A3.heap[w.heap.size]? = some (.deferred (some []))) ∧ KeepB (OwnB K V.heap.size c) A A3 ∧ A.heap.size ≤ A3.heap.size := fun jump A2 hk hz => by
      have l2 := (hk l (inL l rfl)).trans l1
      have hlt2 := (Array.getElem?_eq_some_iff.1 l2).1
      have he := run_endRound (P := P) jump l2
      rw [hR] at he
      refine ⟨_, by rw [he], Turns.putObj _ _ _, ⟨by rw [hR]; exact World.putObj_heap_same hlt2, ?_⟩, ?_, by have := t1.size; simp; omega⟩
      · refine (World.putObj_heap_other (by omega)).trans ((hk w.heap.size (.inr (by omega))).trans ?_)
        exact (t1.block _ (by omega) (by omega)).trans hD
      · intro k ho
        have h1 := ownR k ho
        have h2 : k < A.heap.size := by
          rcases ho with ho | ho
          · have := hB k ho; omega
          · rw [sV] at ho; omega
        exact (World.putObj_heap_other h1.1).trans ((hk k (own k ho)).trans (t1.block k h2 h1.1))
    rintro e a3 A2 hp
    cases e with
    | normal =>
      obtain ⟨hk, hz, hi2⟩ := hp
      obtain ⟨A3, hr, t3, h3, hk3, hz3⟩ := over none A2 hk hz
      exact ⟨_, A3, hr, .inl ⟨rfl, ⟨hI _ _ _ hi2 (t3.mono inM), h3⟩, hk3, hz3⟩⟩
    | ret =>
      obtain ⟨hk, hz, hi2⟩ := hp
      obtain ⟨A3, hr, t3, h3, hk3, hz3⟩ := over (some .ret) A2 hk hz
      exact ⟨_, A3, hr, .inr ⟨rfl, ⟨.ret, hIx _ _ _ _ hi2 (t3.mono inM), h3⟩, hk3, hz3⟩⟩
    | exit id =>
      obtain ⟨hk, hz, hi2⟩ := hp
      obtain ⟨A3, hr, t3, h3, hk3, hz3⟩ := over (some (.exit id)) A2 hk hz
      exact ⟨_, A3, hr, .inr ⟨rfl, ⟨.exit id, hIx _ _ _ _ hi2 (t3.mono inM), h3⟩, hk3, hz3⟩⟩
    | goto t => exact hp.elim
    | panic ch => exact hp.elim
    | outgrown => exact hp.elim
  · -- behind the iterator
    have inL : ∀ k, k = l → OwnB M w.heap.size (c + 2) k := fun k e => .inr (by omega)
    rintro e A ⟨⟨v, rfl⟩, (⟨hi, hA, hD⟩ | ⟨pre, c', hi, hA, hD⟩)⟩
    · have he := run_endLoop (P := P) hA (by rw [hR]; simp)
      rw [hR] at he
      exact ⟨none, _, he, hdone _ (hI _ _ _ hi ((Turns.putObj _ _ _).mono inL)) ((World.putObj_heap_other (by omega)).trans hD)⟩
    · have he := run_endLoop (P := P) hA (by rw [hR]; simp)
      rw [hR] at he
      exact ⟨some c', _, he, hstop c' pre _ (hIx _ _ _ _ hi ((Turns.putObj _ _ _).mono inL)) ((World.putObj_heap_other (by omega)).trans hD)⟩
theorem room_of_none {F : Fence} (hd : F.depth = none) (k : Nat) : F.room k := fun d h => by rw [hd] at h; cases h
/-- Where no depth is asked a call of yield may be met at any. -/
theorem YieldAt.any {F : Fence} (hd : F.depth = none) {m : Nat} (m' : Nat) {P : Program} {l : Nat} {args : Array Value} {W : World} {R : Ending → World → Prop} (h : YieldAt F m P l args W R) : YieldAt F m' P l args W R := by
  obtain ⟨fn, tmps, assign, body, hy, hR⟩ := h
  exact ⟨fn, tmps, assign, body, hy, hR.1, fun c cs _ => hR.2 c cs (room_of_none hd _)⟩
theorem YieldAt.inR {F : Fence} {m : Nat} (l' : Nat) {P : Program} {l : Nat} {args : Array Value} {W : World} {R : Ending → World → Prop} (h : YieldAt F m P l args W R) : YieldAt (F.inRound l') m P l args W R := h
theorem RoundIn.any {F : Fence} (hd : F.depth = none) {m : Nat} (l' m' : Nat) {P : Program} {l : Nat} {f : FuncId} {tmps : Array Value} {assign body : Code} {w : World} {R : Ending → World → Prop}
    (h : RoundIn F m P l f tmps assign body w R) : RoundIn (F.inRound l') m' P l f tmps assign body w R := ⟨h.1, fun c cs _ => h.2 c cs (room_of_none hd _)⟩
theorem KeepB.below {S : Nat → Prop} {A B : World} (h : Below A.heap.size A B) (hs : ∀ k, S k → k < A.heap.size) : KeepB S A B := fun k hk => h.block k (hs k hk)
end Go.Proofs.YtgdjmbekamdlgaaDoor
