/-
  Any floats are sorted as the document says, bit by bit, and what was handed in stays: for every input, with no condition.
-/
import Derived.Test.YtcppcfjejalggaaFloF
import Derived.Test.YtcppcfjejalggaaFloWS
import Derived.Test.YtcppcfjejalggaaFloRefG
import Derived.Carry
set_option linter.unusedSimpArgs false
set_option linter.unusedVariables false
namespace Go.Proofs.Ytcppcfjejalggaa
open Go.ChangeShapes Go.WideShapes Go.ChangeAt Go.RowKit Go.Joins

theorem sorts_laid : laidOutB Try.prog = true := by kernel_rfl
section
variable {H : Type} {enc : TypeId × Value → H} {P : Program} {w : World} {base : Nat} {sp : Nat → Bool} {held : Bool}
theorem float_cell {e : TypeId} {a : Addr} {n : Nat} {y : DataW H × List MemPlace} (he : P.underlying e = some (.float .f64)) (hc : P.cellsOf e = 1)
    (h : (w.cells? base a (P.cellsOf e)).bind (DataW.trod enc P w base sp held n e) = some y) : ∃ b, w.cell? a = some (.float .f64 b) ∧ b < 18446744073709551616 := by
  rw [hc] at h
  simp only [Option.bind_eq_some_iff] at h
  obtain ⟨cs, h1, h2⟩ := h
  have e0 : a.add 0 = a := by simp [Addr.add]
  unfold World.cells? at h1
  split at h1
  · simp only [List.range_succ, List.range_zero, List.nil_append, List.mapM_cons, List.mapM_nil, e0] at h1
    cases hcc : w.cell? a with
    | none => simp [hcc] at h1
    | some c =>
      simp [hcc] at h1
      subst h1
      cases n with
      | zero => simp [DataW.trod] at h2
      | succ m =>
        cases c <;> simp [DataW.trod, he] at h2
        obtain ⟨⟨rfl, hw⟩, _⟩ := h2
        exact ⟨_, rfl, float_lt hw⟩
  · cases h1
theorem rows_exist : ∀ (n : Nat) (f : Nat → Nat → Prop), (∀ i, i < n → ∃ b, f i b) → ∃ l : List Nat, l.length = n ∧ ∀ i b, l[i]? = some b → f i b
  | 0, f, h => ⟨[], rfl, fun i b hi => by simp at hi⟩
  | n + 1, f, h => by
    obtain ⟨b0, h0⟩ := h 0 (by omega)
    obtain ⟨l, hl, hr⟩ := rows_exist n (fun i => f (i + 1)) (fun i hi => h (i + 1) (by omega))
    refine ⟨b0 :: l, by simp [hl], fun i b hi => ?_⟩
    cases i with
    | zero => simp at hi; subst hi; exact h0
    | succ j => exact hr j b (by simpa using hi)
theorem open_floats {r : Reach} {b0 : Nat} {t e : TypeId} {v : Value} {d : DataW H} {ps : List MemPlace} (ht : P.underlying t = some (.slice e)) (he : P.underlying e = some (.float .f64)) (hc : P.cellsOf e = 1)
    (hval : Value.okWide P w r b0 t v) (hd : DataW.Trod enc P w base sp held t v d ps) : ∃ l, FlOut w v l ∧ ∀ n ∈ l, n < 18446744073709551616 := by
  obtain ⟨a0, len0, cap0, rfl⟩ := okWide_slice ht hval
  obtain ⟨fuel, hf⟩ := hd
  rcases DataW.trod_slice ht hf with ⟨hcs, _⟩ | ⟨a, len, cap, elems, rest, n, _, hcs, _, _, hl, _, hlen, hel, _⟩
  · simp [Value.cells] at hcs
    obtain ⟨rfl, rfl, rfl⟩ := hcs
    exact ⟨[], ⟨none, 0, rfl, Nat.le_refl _, fun h => absurd rfl h⟩, fun n hn => by cases hn⟩
  · simp [Value.cells] at hcs
    obtain ⟨rfl, rfl, rfl⟩ := hcs
    obtain ⟨l, hl2, hr⟩ := rows_exist len0 (fun i b => w.cell? (a.add i) = some (.float .f64 b) ∧ b < 18446744073709551616) (fun i hi => by
      have hE := hel i hi
      rw [List.getElem?_eq_getElem (by omega)] at hE
      have := float_cell he hc hE
      rw [hc, Nat.mul_one] at this
      exact this)
    refine ⟨l, ⟨some a, cap0, by rw [hl2], by omega, fun hn => ?_⟩, fun n hn => ?_⟩
    · have h0 : 0 < l.length := List.length_pos_iff.2 hn
      have c0 := (hr 0 _ (List.getElem?_eq_getElem h0)).1
      obtain ⟨b, off, spot⟩ := a
      have hspot : spot = none := by simpa [Addr.add] using World.cell?_spot c0
      subst hspot
      refine ⟨b, off, rfl, fun i n hi => ?_⟩
      have := (hr i n hi).1
      have e : (⟨b, off, none⟩ : Addr).add i = ⟨b, off + i, none⟩ := by unfold Addr.add; split <;> simp_all
      rwa [e] at this
    · obtain ⟨i, hi⟩ := List.getElem?_of_mem hn
      exact (hr i n hi).2
end

/-! ### FloatsSorts -/
section
set_option maxRecDepth 100000 in
theorem floatsSorts_lifted (os : Os) (started : os.Started) (H : Type) (enc : TypeId × Value → H) :
    ReturnsInHanded {} Try.checked os 6 .any (Rows.floatsSortsSpec.pre6 enc Try.prog Try.f6 Rows.floatsSortsRow.domain false) (Rows.floatsSortsSpec.post enc Try.prog Try.f6 false true false false) := by
  refine returnsInHanded_of_change (C := Try.checked) own started (by kernel_rfl) Try.func6
    (ChangeSpec.witness6 (enc := enc) (C := Try.checked) false ⟨#[], #[.slice none 0 0], []⟩ 8 (by kernel_rfl) (by kernel_rfl) (by kernel_rfl) (by kernel_rfl)) ?_
  intro W base args ds gs before hval0 hW hcnd _
  have hval : ∀ (j : Nat) t v, Try.f6.params[j]? = some t → args[j]? = some v → Value.okWide Try.prog W .any base t v := hval0
  have hW' := hW
  obtain ⟨p, q, hA0, hV, rfl, hfz, hnd⟩ := hW
  have hA : DataW.TrodAll enc Try.prog W 0 (fun _ => true) true Try.f6.params.toList args.toList ds p := hA0
  rw [Try.params6] at hA hval
  obtain ⟨v0, vs0, d0, ds0, p0, q0, hargs, rfl, rfl, h0, r0⟩ := trodAll_cons hA
  obtain ⟨rfl, rfl, rfl⟩ := trodAll_nil r0
  obtain rfl : args = #[v0] := by cases args; simp_all
  obtain ⟨rfl, rfl⟩ := trodVars_none hV
  obtain ⟨l, ho, hl⟩ := open_floats Try.underlying37 Try.underlying22 (by kernel_rfl) (hval 0 37 v0 rfl rfl) h0
  clear hA0 hval0
  simp only [List.append_nil] at hW'
  refine (LW.floatsSorts_c v0 l hl W ho (fun h300 w h => LR.sorted_c v0 l h300 hl w h)).mono fun e W' ⟨he, hg⟩ => ?_
  subst he
  exact ⟨_, rfl, post_of_below (pa := p0) (pv := []) hW' (fun _ _ _ => trodAll_mk1 (shut_bool Try.underlying4 _)) (fun sp hsp => trodAll_mk1 (WideElems.Trod_stays sorts_laid (by kernel_rfl) (of_decide_eq_true (by kernel_rfl)) h0 (fun x hx => hg.same (hW'.lt x hx)) (fun x hx => hsp x hx))) (fun _ _ => rfl) (by simp)
    hg (ok_one (by kernel_rfl) rfl (okWide_bool_mk Try.underlying4 _))⟩
/-- FloatsSorts, as given. -/
theorem floatsSorts_holds : Rows.FloatsSortsSaid :=
  OpenClaim.holds_of_wide 6 Try.f6 rfl rfl rfl rfl rfl rfl rfl ⟨rfl, rfl, rfl, rfl, rfl⟩ rfl rfl rfl rfl rfl (by kernel_rfl) Try.func6 (by kernel_rfl)
    (of_decide_eq_true (by kernel_rfl)) (by unfold Func.isWrapper; first | (rw [if_pos (by decide +kernel)]; kernel_rfl) | (rw [if_neg (by decide +kernel)]; exact ⟨rfl, rfl⟩))
    (fun os started H enc _ => floatsSorts_lifted os started H enc)
end
end Go.Proofs.Ytcppcfjejalggaa
