/-
  A row that is laid piece by piece, in whatever order its pieces are made: the state, and the steps of regions that draw.
-/
import Derived.Test.YtabbpgnenmpacaaDoorSegRefBM
import Derived.Test.YtabbpgnenmpacaaDoorSegRefEM
import Derived.Deep.RegionLaw
import Derived.Deep.RegionWith
set_option linter.unusedSimpArgs false
set_option linter.unusedVariables false
namespace Go.Proofs.YtabbpgnenmpacaaDoor.SR
open Go Go.RowKit
open CR (below_next own_ge u8_wrap)
/-- The box that came in, the row so far, the pieces that are made. -/
structure PSt (w W : World) (C : List Value) (vb : Value) (n : Nat) (acc : List Nat) (L : List (Value × List Nat)) : Prop where
  box : Holds W w.heap.size C
  lt : w.heap.size < W.heap.size
  len : acc.length = n
  own : W.ownsRow (w.heap.size + 1) 5 1 vb n (bys acc)
  pend : ∀ x ∈ L, ByApart vb.ownBlock W x.1 x.2
  below : Below w.heap.size w W
theorem PSt.step {w W W' : World} {C : List Value} {vb : Value} {n : Nat} {acc : List Nat} {L : List (Value × List Nat)} (h : PSt w W C vb n acc L) (hb : Below W.heap.size W W') : PSt w W' C vb n acc L :=
  ⟨h.box.below hb, Nat.lt_of_lt_of_le h.lt hb.size, h.len, ownsRow_below h.own hb, fun x hx => (h.pend x hx).below hb, below_next h.below hb⟩
theorem PSt.drew {w W : World} {C : List Value} {vb : Value} {n : Nat} {acc : List Nat} {L : List (Value × List Nat)} (h : PSt w W C vb n acc L) : PSt w W.drew C vb n acc L := h.step (Below.refl _ _).drew
theorem PSt.lit {w W : World} {C : List Value} {vb : Value} {n : Nat} {acc : List Nat} {L : List (Value × List Nat)} (h : PSt w W C vb n acc L) (x : Int) (h0 : 0 ≤ x) (fz : Nat × Nat) :
    PSt w (W.alloc (.cells #[.int .u8 x] 5 fz)) C vb n acc ((.slice (some ⟨W.heap.size, 0, none⟩) 1 1, [x.toNat]) :: L) := by
  have hb : Below W.heap.size W (W.alloc (.cells #[.int .u8 x] 5 fz)) := (Below.refl _ _).alloc (Nat.le_refl _) _
  have h2 := h.step hb
  refine ⟨h2.box, h2.lt, h2.len, h2.own, fun y hy => ?_, h2.below⟩
  rcases List.mem_cons.1 hy with rfl | hy
  · refine ⟨_, 1, rfl, Nat.le_refl _, fun _ => ⟨W.heap.size, 0, rfl, fun e => ?_, fun i m hi => ?_⟩⟩
    · have := ownsRow_lt h.own e.symm
      omega
    · have hh : (W.alloc (.cells #[.int .u8 x] 5 fz)).heap[W.heap.size]? = some (.cells #[.int .u8 x] 5 fz) := by
        show (W.heap.push _)[W.heap.size]? = _
        exact Array.getElem?_push_size
      rw [cell_of_row _ _ _ _ _ _ hh]
      cases i with
      | zero =>
        obtain rfl : x.toNat = m := by simpa using hi
        rw [Int.toNat_of_nonneg h0]
        rfl
      | succ j => simp at hi
  · exact h2.pend y hy
/-- A piece is made. -/
theorem num_step {w W : World} {C : List Value} {vb : Value} {n : Nat} {acc : List Nat} {L : List (Value × List Nat)} (h : PSt w W C vb n acc L) (N : Int) (h0 : 0 ≤ N) (h1 : N < 18446744073709551616) (k : Nat) (hk : k ≤ 100) :
    Calls Tryd.prog 25 #[.int .u64 N, .int .i64 (k : Nat)] W fun e W' => ∃ A c, e = .returned (.slice A k c) ∧ PSt w W' C vb n acc ((.slice A k c, nB k N.toNat) :: L) := by
  refine (number_c N h0 h1 k hk W).mono ?_
  rintro _ W' ⟨v', rfl, hn, hb⟩
  obtain ⟨A, c, hv, _, _⟩ := hn.form
  rw [nB_length] at hv
  subst hv
  have h2 := h.step hb
  refine ⟨A, c, rfl, h2.box, h2.lt, h2.len, h2.own, fun y hy => ?_, h2.below⟩
  rcases List.mem_cons.1 hy with rfl | hy
  · exact (ByFrom.of hn).apart (fun g hg => ownsRow_lt h.own hg)
  · exact h2.pend y hy
theorem app_run {w W : World} {C : List Value} {vb : Value} {n : Nat} {acc : List Nat} {L : List (Value × List Nat)} (h : PSt w W C vb n acc L) (A : Option Addr) (m c : Nat) (l : List Nat) (hm : l.length = m) (hl : (Value.slice A m c, l) ∈ L) (hn : n + m ≤ 100000) :
    ∃ v' w', (Builtin.append_ #[27, 27] 27 #[vb, .slice A m c]).run Tryd.prog W = .ok v' w' ∧ PSt w w' C v' (n + m) (acc ++ l) L := by
  obtain ⟨i0, hi0, hz0, hz1, hz2⟩ := info_parts (P := Tryd.prog) (e := 5) (z := .int .u8 0) (size := 1) (bytes := 1) (by kernel_rfl)
  have hp := h.pend _ hl
  obtain ⟨A', c', hv, hc, hx⟩ := hp.out
  injection hv with e1 e2 e3
  subst e1
  have hR := reads_by hx
  rw [hm] at hR
  obtain ⟨v', w', hrun, ho, hg, hat⟩ := run_append_any (P := Tryd.prog) W (w.heap.size + 1) 27 27 5 i0 (.int .u8 0) 1 1 Tryd.underlying27 hi0 hz0 hz1 hz2 rfl (by decide) vb n (bys acc) h.own W.heap.size A m c (bys l) hR (bys_one _) (by simp only [maxLen]; omega) (by omega) h.lt
  have hbox : w.heap.size < W.heap.size := h.lt
  have hne : vb.ownBlock ≠ some w.heap.size := fun e => by have := own_ge h.own _ e; omega
  refine ⟨v', w', hrun, fun j u hj => ?_, Nat.lt_of_lt_of_le h.lt hg.size, by rw [List.length_append, h.len, hm], by rw [bys_app]; exact ho, fun x hx' => ?_, Below.grown h.below hg (Nat.le_of_lt h.lt) (fun g hg' => by have := own_ge h.own g hg'; omega)⟩
  · exact (World.cell?_of_block (hg.block w.heap.size hbox (fun e => hne e.symm))).trans (h.box j u hj)
  · obtain ⟨A1, c1, hv1, hc1, hx1⟩ := h.pend x hx'
    refine ⟨A1, c1, hv1, hc1, fun hn1 => ?_⟩
    obtain ⟨b, off, hA, hB, hf⟩ := hx1 hn1
    have h0 := List.getElem?_eq_getElem (List.length_pos_iff.2 hn1)
    have hlt : b < W.heap.size := World.block_lt_of_cell? W _ (hf 0 _ h0)
    refine ⟨b, off, hA, ?_, fun i q hi => (World.cell?_of_block (hg.block b hlt hB)).trans (hf i q hi)⟩
    rcases hat with e | e
    · rw [e]; exact hB
    · rw [e]; intro e2; injection e2 with e2; omega
/-- A piece is appended, at a step of a region that draws. -/
theorem step_app {ops : Array Oper} {o : Oper} {a : Act} {K : Act → World → Prop} {Q : Exit → Act → World → Prop} {E : Prop} {w W : World} {C : List Value} {vb : Value} {n : Nat} {acc : List Nat} {L : List (Value × List Nat)} (hst : PSt w W C vb n acc L)
    (hgd : o.guard = none) (s x : Operand) (ho : o.op = .call { callee := .builtin .append, args := #[s, x], argTypes := #[27, 27] }) (ht : o.type = 27)
    (hs : a.eval s = vb) (A : Option Addr) (m c : Nat) (hx : a.eval x = .slice A m c) (l : List Nat) (hm : l.length = m) (hl : (Value.slice A m c, l) ∈ L) (hn : n + m ≤ 100000)
    (h : ∀ v' w', PSt w w' C v' (n + m) (acc ++ l) L → K (a.put o.dst v') w') :
    if Region.wanted o (yielded ops a.tmps) = true then Oper.wp Tryd.prog o a W K Q else E := by
  have hw : Region.wanted o (yielded ops a.tmps) = true := by simp [Region.wanted, hgd]
  rw [if_pos hw]
  obtain ⟨v', w', hrun, h2⟩ := app_run hst A m c l hm hl hn
  unfold Oper.wp execOp
  simp only [ho, ht, resolve, invoke, builtin, Sem.run_bind, Sem.run_pure, Result.andThen_ok, List.map_toArray, List.map_cons, List.map_nil, hs, hx, hrun]
  exact h v' w' h2
theorem num2 {w W : World} {C : List Value} {vb : Value} {n : Nat} {acc : List Nat} {L : List (Value × List Nat)} (h : PSt w W C vb n acc L) (N : Int) (h0 : 0 ≤ N) (h1 : N < 18446744073709551616) :
    Calls Tryd.prog 25 #[.int .u64 N, .int .i64 2] W fun e W' => ∃ A c, e = .returned (.slice A 2 c) ∧ PSt w W' C vb n acc ((.slice A 2 c, nB 2 N.toNat) :: L) := num_step h N h0 h1 2 (by decide)
theorem num4 {w W : World} {C : List Value} {vb : Value} {n : Nat} {acc : List Nat} {L : List (Value × List Nat)} (h : PSt w W C vb n acc L) (N : Int) (h0 : 0 ≤ N) (h1 : N < 18446744073709551616) :
    Calls Tryd.prog 25 #[.int .u64 N, .int .i64 4] W fun e W' => ∃ A c, e = .returned (.slice A 4 c) ∧ PSt w W' C vb n acc ((.slice A 4 c, nB 4 N.toNat) :: L) := num_step h N h0 h1 4 (by decide)
theorem num8 {w W : World} {C : List Value} {vb : Value} {n : Nat} {acc : List Nat} {L : List (Value × List Nat)} (h : PSt w W C vb n acc L) (N : Int) (h0 : 0 ≤ N) (h1 : N < 18446744073709551616) :
    Calls Tryd.prog 25 #[.int .u64 N, .int .i64 8] W fun e W' => ∃ A c, e = .returned (.slice A 8 c) ∧ PSt w W' C vb n acc ((.slice A 8 c, nB 8 N.toNat) :: L) := num_step h N h0 h1 8 (by decide)
/-- A piece is made, at a step of a region that draws. -/
theorem step_num {ops : Array Oper} {o : Oper} {a : Act} {K : Act → World → Prop} {Q : Exit → Act → World → Prop} {E : Prop} {w W : World} {C : List Value} {vb : Value} {n : Nat} {acc : List Nat} {L : List (Value × List Nat)} (hst : PSt w W C vb n acc L)
    (hgd : o.guard = none) (x : Operand) (k : Nat) (T : Array TypeId) (ho : o.op = .call { callee := .value (.func 25), args := #[x, .const (.int .i64 (k : Nat))], argTypes := T }) (hk : k ≤ 100)
    (N : Int) (hx : a.eval x = .int .u64 N) (h0 : 0 ≤ N) (h1 : N < 18446744073709551616)
    (h : ∀ A c w', PSt w w' C vb n acc ((.slice A k c, nB k N.toNat) :: L) → K (a.put o.dst (.slice A k c)) w') :
    if Region.wanted o (yielded ops a.tmps) = true then Oper.wp Tryd.prog o a W K Q else E := by
  have hw : Region.wanted o (yielded ops a.tmps) = true := by simp [Region.wanted, hgd]
  rw [if_pos hw]
  have e : (execOp a.eval o).run Tryd.prog W = .ok (.enter 25 #[.int .u64 N, .int .i64 (k : Nat)]) W := by
    have hc : a.eval (.const (.int .i64 (k : Nat))) = .int .i64 (k : Nat) := rfl
    have hf : a.eval (.func 25) = .func (.func 25) #[] #[] := rfl
    have hb1 : (Tryd.f25.name == "runtime.NumGoroutine") = false := by kernel_rfl
    have hb2 : Tryd.f25.body.isNone = false := by kernel_rfl
    have hnm : ¬ Tryd.f25.name = "runtime.NumGoroutine" := fun h => by rw [h] at hb1; simp at hb1
    have hbd : ¬ Tryd.f25.body = none := fun h => by rw [h] at hb2; simp at hb2
    unfold execOp
    simp [ho, resolve, Deferred.ofValue, invoke, callFunc, hx, hc, hf, go_sem, hnm, hbd]
    first
      | exact hx
      | (unfold Act.eval at hx; exact hx)
      | (simp [Act.eval] at hx; exact hx)
      | (simp [Act.eval, go_sem] at hx; exact hx)
  unfold Oper.wp
  rw [e, Oper.upon_enter]
  refine (num_step hst N h0 h1 k hk).mono ?_
  rintro _ w' ⟨A, c, rfl, h2⟩
  exact h A c w' h2
theorem PSt.fin {w W : World} {C : List Value} {vb : Value} {n : Nat} {acc T : List Nat} {L : List (Value × List Nat)} (h : PSt w W C vb n acc L) (hT : acc = T) : ByNew w.heap.size W vb T := by
  have h2 : ByNew (w.heap.size + 1) W vb acc := by
    unfold ByNew
    rw [h.len]
    exact h.own
  rw [← hT]
  exact h2.mono (by omega)
theorem PSt.drop {w W : World} {C : List Value} {vb : Value} {n : Nat} {acc : List Nat} {L : List (Value × List Nat)} (h : PSt w W C vb n acc L) : PSt w W C vb n acc [] := ⟨h.box, h.lt, h.len, h.own, fun x hx => (by cases hx), h.below⟩
end Go.Proofs.YtabbpgnenmpacaaDoor.SR
