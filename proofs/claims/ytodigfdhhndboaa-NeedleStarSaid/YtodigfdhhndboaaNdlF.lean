/-
  What the last step of each statement of layer 9 wants: how items and compiled patterns read, and how a walk that leaves all as it was pays the row.
-/
import Derived.Test.YtodigfdhhndboaaRows
import Derived.Test.YtodigfdhhndboaaNdlRow
import Derived.WalkKit
import Derived.ProofKit
import Derived.OpenShut
import Derived.ChangeMaps5
import Derived.Lib.SmallJoins
import Derived.Laws.Cover2
import Derived.Laws.IdiomArrays
import Derived.Deep.Slices
import Derived.SizedLaws
import Derived.Carry
import Derived.Maps.StringElems
set_option linter.unusedSimpArgs false
set_option linter.unusedVariables false
namespace Go.Proofs.Ytodigfdhhndboaa
open Go.ChangeShapes Go.WideShapes Go.ChangeAt Go.RowKit Go.Joins Go.Deep

theorem own : ownKnob Try.prog.godebug = none := by kernel_rfl
theorem laid_out : laidOutB Try.prog = true := by kernel_rfl
section
variable {H : Type} {enc : TypeId × Value → H} {P : Program}
/-- The row's last step where of the world behind the call 'Below' alone is known. -/
theorem post_of_below {f : Func} {s : ChangeSpec} {apart fresh handsOn again : Bool} {W W' : World} {args : Array Value} {v : Value} {ds gs : List (DataW H)} {before pa pv : List MemPlace}
    (hW : DataW.Whole enc P f.params.toList s.vars apart W args.toList ds gs before)
    (hres : ∀ (b : Nat) (sp : Nat → Bool) (hd : Bool), DataW.TrodAll enc P W' b sp hd f.resultTypes.toList (v.resultList f.resultTypes.size) (s.fn H (ds ++ gs)).results [])
    (hargs : ∀ sp : Nat → Bool, (∀ p ∈ before, sp p.block = true) → DataW.TrodAll enc P W' 0 sp true f.params.toList args.toList (s.fn H (ds ++ gs)).args pa)
    (hvars : ∀ sp : Nat → Bool, (∀ p ∈ before, sp p.block = true) → DataW.TrodVars enc P W' sp s.vars (s.fn H (ds ++ gs)).vars pv)
    (hps : before = pa ++ pv) (hb : Below W.heap.size W W')
    (hok : ∀ (j : Nat) (t : TypeId) (r : Value), f.resultTypes[j]? = some t → (v.resultList f.resultTypes.size)[j]? = some r → Value.okWide P W' .any 0 t r) :
    s.post enc P f apart fresh handsOn again W args v W' := by
  have hlt : ∀ p ∈ before, p.block < W.heap.size := fun p hp => hW.lt p hp
  have hold : ∀ p ∈ before, (fun b => decide (b < W.heap.size)) p.block = true := fun p hp => by simpa using hlt p hp
  refine ⟨ds, gs, before, [], pa, pv, hW, hres _ _ _, hargs _ hold, hvars _ hold, World.keptBut_mono (fun p hp => ⟨hp, ?_⟩) (hb.frame (· ∈ before)), fun _ => ?_⟩
  · rw [hps, List.mem_append] at hp
    exact Or.inr hp
  · obtain ⟨_, _, _, _, _, hz, hn⟩ := hW
    refine ⟨hok, _, _, ([] ++ pa) ++ pv, ⟨[] ++ pa, pv, trodAll_append (hargs _ (fun _ _ => rfl)) (hres _ _ _), hvars _ (fun _ _ => rfl), rfl, ?_, ?_⟩, ?_⟩
    · intro b off hp
      have hin : MemPlace.cell b off ∈ before := by rw [hps]; simpa using hp
      rw [hb.frozen (hlt _ hin)]
      exact hz b off hin
    · intro ha
      have := hn ha
      rw [hps] at this
      simpa using this
    · intro p hp _
      rw [hps]
      simpa using hp
end
section
variable {H : Type} {enc : TypeId × Value → H} {P : Program} {w : World} {base : Nat} {sp : Nat → Bool} {held : Bool}
theorem byte_is {e : TypeId} {c : Value} {n : Nat} {y : DataW H × List MemPlace} (he : P.underlying e = some (.int .u8)) (h : DataW.trod enc P w base sp held n e [c] = some y) : ∃ b : Nat, c = .int .u8 (b : Int) ∧ b < 256 := by
  obtain ⟨m, hm, _, hw⟩ := DataW.trod_int he h
  have hc : c = .int .u8 m := by simpa using hm
  obtain ⟨k0, k1⟩ := bounds_u8 hw
  refine ⟨m.toNat, ?_, by omega⟩
  rw [hc, Int.toNat_of_nonneg k0]
theorem okWide_array {r : Reach} {b0 : Nat} {t e : TypeId} {v : Value} {k : Nat} (ht : P.underlying t = some (.array k e)) (h : Value.okWide P w r b0 t v) : ∃ cs, v = .agg cs ∧ cs.size = P.cellsOf t := by
  simp only [Value.okWide, ht] at h
  obtain ⟨cs, h1, h2, _⟩ := h
  exact ⟨cs, h1, h2⟩
theorem rows_exist {α : Type} : ∀ (n : Nat) (f : Nat → α → Prop), (∀ i, i < n → ∃ b, f i b) → ∃ l : List α, l.length = n ∧ ∀ i b, l[i]? = some b → f i b
  | 0, f, h => ⟨[], rfl, fun i b hi => by simp at hi⟩
  | n + 1, f, h => by
    obtain ⟨b0, h0⟩ := h 0 (by omega)
    obtain ⟨l, hl, hr⟩ := rows_exist n (fun i => f (i + 1)) (fun i hi => h (i + 1) (by omega))
    refine ⟨b0 :: l, by simp [hl], fun i b hi => ?_⟩
    cases i with
    | zero => simp at hi; subst hi; exact h0
    | succ j => exact hr j b (by simpa using hi)
theorem int_is {e : TypeId} {c : Value} {n : Nat} {y : DataW H × List MemPlace} (he : P.underlying e = some (.int .i64)) (h : DataW.trod enc P w base sp held n e [c] = some y) : ∃ m : Int, c = .int .i64 m ∧ -9223372036854775808 ≤ m ∧ m ≤ 9223372036854775807 := by
  obtain ⟨m, hm, _, hw⟩ := DataW.trod_int he h
  have hc : c = .int .i64 m := by simpa using hm
  obtain ⟨k0, k1⟩ := bounds_i64 hw
  exact ⟨m, hc, k0, by omega⟩
/-- A row of things of k cells each, out of its reading. -/
theorem row_in {α : Type} {t e : TypeId} {k : Nat} {n : Nat} {v : Value} {y : DataW H × List MemPlace} (R : α → List Value → Prop) (ht : P.underlying t = some (.slice e)) (hk : P.cellsOf e = k) (hk0 : 0 < k)
    (hR : ∀ (m : Nat) (cs : List Value) (z : DataW H × List MemPlace), DataW.trod enc P w base sp held m e cs = some z → cs.length = k → ∃ x, R x cs)
    (h : DataW.trod enc P w base sp held n t [v] = some y) :
    ∃ (A : Option Addr) (len cap : Nat) (l : List α), v = .slice A len cap ∧ len ≤ cap ∧ len ≤ 9223372036854775807 ∧ l.length = len ∧ (0 < len → ∃ b off, A = some ⟨b, off, none⟩ ∧ ∀ i x, l[i]? = some x → ∃ cs, cs.length = k ∧ R x cs ∧ ∀ j u, cs[j]? = some u → w.cell? ⟨b, off + i * k + j, none⟩ = some u) := by
  rcases open_slice ht h with ⟨hcs, _⟩ | ⟨a, len, cap, m, n', D, Pl, hcs, hb, hl, hm, hmm, _, hi⟩
  · exact ⟨none, 0, 0, [], by simpa using hcs, Nat.le_refl _, Nat.zero_le _, rfl, fun h => absurd h (Nat.lt_irrefl _)⟩
  · have hv : v = .slice (some a) len cap := by simpa using hcs
    have hlm : len ≤ m := by rw [hmm]; split <;> omega
    obtain ⟨l, hl2, hr⟩ := rows_exist len (fun i (x : α) => ∃ cs : List Value, cs.length = k ∧ R x cs ∧ ∀ j u, cs[j]? = some u → w.cell? ((a.add (i * k)).add j) = some u) (fun i hil => by
      obtain ⟨cs, hc, hd⟩ := hi i (by omega)
      rw [hk] at hc
      obtain ⟨_, hcl, hat⟩ := World.cells?_some hc
      obtain ⟨x, hx⟩ := hR _ _ _ hd hcl
      refine ⟨x, cs, hcl, hx, fun j u hu => ?_⟩
      have hj : j < k := by rw [← hcl]; exact (List.getElem?_eq_some_iff.1 hu).1
      rw [hat j hj, hu])
    refine ⟨some a, len, cap, l, hv, hl, by unfold maxLen at hm; omega, hl2, fun h0 => ?_⟩
    obtain ⟨cs0, hk1, _, hc0⟩ := hr 0 _ (List.getElem?_eq_getElem (by omega))
    have h0c := hc0 0 _ (List.getElem?_eq_getElem (by omega))
    obtain ⟨b, off, spot⟩ := a
    have hspot : spot = none := by
      have := World.cell?_spot h0c
      simpa [Addr.add] using this
    subst hspot
    refine ⟨b, off, rfl, fun i x hx => ?_⟩
    obtain ⟨cs, h1, h2, h3⟩ := hr i x hx
    refine ⟨cs, h1, h2, fun j u hu => ?_⟩
    have := h3 j u hu
    have e : ((⟨b, off, none⟩ : Addr).add (i * k)).add j = ⟨b, off + i * k + j, none⟩ := by unfold Addr.add; split <;> split <;> simp_all [Nat.add_assoc]
    rwa [e] at this
end
section
variable {H : Type} {enc : TypeId × Value → H} {w : World} {base : Nat} {sp : Nat → Bool} {held : Bool}
theorem field_in {n : Nat} {t : TypeId} {fs : Array Field} {cs : List Value} {y : DataW H × List MemPlace} (ht : Try.prog.underlying t = some (.struct fs)) (h : DataW.trod enc Try.prog w base sp held n t cs = some y) (i : Nat) (f : Field) (hf : fs[i]? = some f) (c : Value)
    (hk : Try.prog.cellsOf f.type = 1) (hc : (cs.drop f.offset).take 1 = [c]) : ∃ m z, DataW.trod enc Try.prog w base sp held m f.type [c] = some z := by
  obtain ⟨xs, m, _, _, _, hl, hg⟩ := DataW.trod_struct ht h
  have h1 := hg i f hf
  rw [hk, hc] at h1
  have hi : i < fs.size := (Array.getElem?_eq_some_iff.1 hf).1
  have hxs : xs[i]? = some (xs[i]'(by omega)) := List.getElem?_eq_getElem (by omega)
  exact ⟨m, _, h1.trans hxs⟩
/-- A field of several cells, read. -/
theorem field_all {n : Nat} {t : TypeId} {fs : Array Field} {cs ds : List Value} {y : DataW H × List MemPlace} (ht : Try.prog.underlying t = some (.struct fs)) (h : DataW.trod enc Try.prog w base sp held n t cs = some y) (i : Nat) (f : Field) (hf : fs[i]? = some f)
    (k : Nat) (hk : Try.prog.cellsOf f.type = k) (hc : (cs.drop f.offset).take k = ds) : ∃ m z, DataW.trod enc Try.prog w base sp held m f.type ds = some z := by
  obtain ⟨xs, m, _, _, _, hl, hg⟩ := DataW.trod_struct ht h
  have h1 := hg i f hf
  rw [hk, hc] at h1
  have hi : i < fs.size := (Array.getElem?_eq_some_iff.1 hf).1
  have hxs : xs[i]? = some (xs[i]'(by omega)) := List.getElem?_eq_getElem (by omega)
  exact ⟨m, _, h1.trans hxs⟩
theorem word_is {e : TypeId} {c : Value} {n : Nat} {y : DataW H × List MemPlace} {P : Program} (he : P.underlying e = some (.int .u64)) (h : DataW.trod enc P w base sp held n e [c] = some y) : ∃ b : Nat, c = .int .u64 (b : Int) ∧ b < 18446744073709551616 := by
  obtain ⟨m, hm, _, hw⟩ := DataW.trod_int he h
  have hc : c = .int .u64 m := by simpa using hm
  obtain ⟨k0, k1⟩ := bounds_u64 hw
  refine ⟨m.toNat, ?_, by omega⟩
  rw [hc, Int.toNat_of_nonneg k0]
/-- An item's cells, read. -/
theorem item_in {n : Nat} {c0 c1 c2 c3 c4 : Value} {y : DataW H × List MemPlace} (hz : DataW.trod enc Try.prog w base sp held n 25 [c0, c1, c2, c3, c4] = some y) : ∃ i : NI, [c0, c1, c2, c3, c4] = itC i ∧ i.ok := by
  obtain ⟨_, _, g0⟩ := field_all (ds := [c0, c1, c2, c3]) Try.underlying25 hz 0 _ rfl 4 (by kernel_rfl) rfl
  obtain ⟨_, _, g1⟩ := field_all (ds := [c4]) Try.underlying25 hz 1 _ rfl 1 (by kernel_rfl) rfl
  obtain ⟨_, _, _, _, _, _, h0, h1, h2, h3⟩ := trod_array4 Try.underlying23 (by kernel_rfl) g0
  obtain ⟨x0, rfl, b0⟩ := word_is Try.underlying22 h0
  obtain ⟨x1, rfl, b1⟩ := word_is Try.underlying22 h1
  obtain ⟨x2, rfl, b2⟩ := word_is Try.underlying22 h2
  obtain ⟨x3, rfl, b3⟩ := word_is Try.underlying22 h3
  obtain ⟨x4, e4, _⟩ := DataW.trod_bool Try.underlying4 g1
  obtain rfl : c4 = .bool x4 := by simpa using e4
  exact ⟨⟨x0, x1, x2, x3, x4⟩, rfl, b0, b1, b2, b3⟩
/-- A row of items, read. -/
theorem items_in {n : Nat} {v : Value} {y : DataW H × List MemPlace} (h : DataW.trod enc Try.prog w base sp held n 27 [v] = some y) : ∃ l, ItOut w v l ∧ ∀ i ∈ l, i.ok := by
  obtain ⟨A, len, cap, l, rfl, hc, hl, hll, hx⟩ := row_in (α := NI) (fun i cs => cs = itC i ∧ i.ok) Try.underlying27 (k := 5) (by kernel_rfl) (by decide) (fun m cs z hz hk => by
    match cs, hk with
    | [c0, c1, c2, c3, c4], _ =>
      obtain ⟨i, hi⟩ := item_in hz
      exact ⟨i, hi⟩) h
  refine ⟨l, ⟨A, cap, by rw [hll], by omega, fun hn => ?_⟩, fun i hi => ?_⟩
  · obtain ⟨b, off, hA, hf⟩ := hx (by rw [← hll]; exact List.length_pos_iff.2 hn)
    refine ⟨b, off, hA, fun k i hk j x hj => ?_⟩
    obtain ⟨cs, _, ⟨rfl, _⟩, hcell⟩ := hf k i hk
    exact hcell j x hj
  · obtain ⟨k, hk⟩ := List.getElem?_of_mem hi
    have h0 : 0 < len := by have := (List.getElem?_eq_some_iff.1 hk).1; omega
    obtain ⟨_, _, _, hf⟩ := hx h0
    obtain ⟨_, _, ⟨_, ho⟩, _⟩ := hf k i hk
    exact ho
/-- An item, read. -/
theorem open_item {r : Reach} {b0 : Nat} {v : Value} {d : DataW H} {ps : List MemPlace} (hval : Value.okWide Try.prog w r b0 25 v) (hd : DataW.Trod enc Try.prog w base sp held 25 v d ps) :
    ∃ (s0 s1 s2 s3 : Nat) (st : Bool), v = .agg #[.int .u64 (s0 : Nat), .int .u64 (s1 : Nat), .int .u64 (s2 : Nat), .int .u64 (s3 : Nat), .bool st] ∧ (⟨s0, s1, s2, s3, st⟩ : NI).ok := by
  obtain ⟨cs, rfl, hsz⟩ := okWide_struct Try.underlying25 hval
  have h2 : Try.prog.cellsOf 25 = 5 := by kernel_rfl
  obtain ⟨l⟩ := cs
  match l, hsz.trans h2 with
  | [c0, c1, c2, c3, c4], _ =>
    obtain ⟨fuel, hf⟩ := hd
    obtain ⟨⟨s0, s1, s2, s3, st⟩, he, ho⟩ := item_in hf
    exact ⟨s0, s1, s2, s3, st, by rw [he]; rfl, ho⟩
/-- A compiled pattern, read. -/
theorem open_needle {r : Reach} {b0 : Nat} {v : Value} {d : DataW H} {ps : List MemPlace} (hval : Value.okWide Try.prog w r b0 29 v) (hd : DataW.Trod enc Try.prog w base sp held 29 v d ps) :
    ∃ (st fin : Bool) (u : Value) (l : List NI), v = .agg #[.bool st, .bool fin, u] ∧ ItOut w u l ∧ ∀ i ∈ l, i.ok := by
  obtain ⟨cs, rfl, hsz⟩ := okWide_struct Try.underlying29 hval
  have h2 : Try.prog.cellsOf 29 = 3 := by kernel_rfl
  obtain ⟨l⟩ := cs
  match l, hsz.trans h2 with
  | [c0, c1, c2], _ =>
    obtain ⟨fuel, hf⟩ := hd
    obtain ⟨_, _, g0⟩ := field_in Try.underlying29 hf 0 _ rfl c0 (by kernel_rfl) rfl
    obtain ⟨_, _, g1⟩ := field_in Try.underlying29 hf 1 _ rfl c1 (by kernel_rfl) rfl
    obtain ⟨_, _, g2⟩ := field_in Try.underlying29 hf 2 _ rfl c2 (by kernel_rfl) rfl
    obtain ⟨x0, e0, _⟩ := DataW.trod_bool Try.underlying4 g0
    obtain ⟨x1, e1, _⟩ := DataW.trod_bool Try.underlying4 g1
    obtain rfl : c0 = .bool x0 := by simpa using e0
    obtain rfl : c1 = .bool x1 := by simpa using e1
    obtain ⟨l, hl, ho⟩ := items_in g2
    exact ⟨x0, x1, c2, l, rfl, hl, ho⟩
theorem open_u8 {P : Program} {r : Reach} {b0 : Nat} {t : TypeId} {v : Value} {d : DataW H} {ps : List MemPlace} (ht : P.underlying t = some (.int .u8)) (hval : Value.okWide P w r b0 t v) (hd : DataW.Trod enc P w base sp held t v d ps) : ∃ b : Nat, v = .int .u8 (b : Nat) ∧ b < 256 := by
  obtain ⟨n, rfl, _, _, hw⟩ := open_int ht hval hd
  obtain ⟨k0, k1⟩ := bounds_u8 hw
  refine ⟨n.toNat, ?_, by omega⟩
  rw [Int.toNat_of_nonneg k0]
theorem open_yn {P : Program} {r : Reach} {b0 : Nat} {t : TypeId} {v : Value} {d : DataW H} {ps : List MemPlace} (ht : P.underlying t = some .bool) (hval : Value.okWide P w r b0 t v) (hd : DataW.Trod enc P w base sp held t v d ps) : ∃ b : Bool, v = .bool b := by
  obtain ⟨b, rfl⟩ := okWide_bool ht hval
  exact ⟨b, rfl⟩
end
theorem returns_plain {H : Type} {enc : TypeId × Value → H} {a : Assume} {C : Checked} {os : Os} {f : FuncId} {fn : Func} {s : ChangeSpec} {conds : List PathCond} {apart fresh handsOn again : Bool}
    (own : ownKnob C.prog.godebug = none) (started : os.Started) (noInit : C.prog.inits.idxOf? f = none) (hfn : C.prog.funcs[f]? = some fn)
    (witness : ∃ (w : World) (tape : Tape) (i : Input), w.os = os ∧ (w.forCall tape i).Shaped C.prog ∧ i.vars = [] ∧ Input.okWide C.prog (w.forCall tape i) .any w.heap.size f i ∧
      s.pre6 enc C.prog fn conds apart (w.forCall tape i).memory i.args ∧ a.holds C.prog (lone (Frame.enter C.prog f i.args .normal) [] (w.forCall tape i)))
    (contract : ∀ (W : World) (base : Nat) (args : Array Value) (ds gs : List (DataW H)) (before : List MemPlace),
      (∀ (j : Nat) t v, fn.params[j]? = some t → args[j]? = some v → Value.okWide C.prog W .any base t v) →
      DataW.Whole enc C.prog fn.params.toList s.vars apart W args.toList ds gs before →
      (DataW.weightsEach C.prog (fn.params.toList ++ s.plain.varTypes C.prog) (ds ++ gs)).all (· ≤ reachBytes) = true →
      Calls C.prog f args W fun e W' => ∃ v, e = .returned v ∧ s.post enc C.prog fn apart fresh handsOn again W args v W') :
    ReturnsInHanded a C os f .any (s.pre6 enc C.prog fn conds apart) (s.post enc C.prog fn apart fresh handsOn again) := by
  refine returnsInHanded_of_calls own started noInit witness ?_
  intro w tape i _ _ _ hok hpre _
  obtain ⟨_, _, _, fn', hfn', _, _, _, _, hval⟩ := hok
  have e : fn' = fn := Option.some.inj (hfn'.symm.trans hfn)
  subst e
  obtain ⟨⟨ds, gs, before, hw, hc⟩, hz⟩ := hpre
  have hw' := DataW.Whole.of_heap (w' := w.forCall tape i) (by rfl) hw
  refine (contract (w.forCall tape i) w.heap.size i.args ds gs before hval hw' (hz.weights hw)).mono fun e W' ⟨v, he, hp⟩ => ?_
  subst he
  exact ChangeSpec.post_blind hp
end Go.Proofs.Ytodigfdhhndboaa
