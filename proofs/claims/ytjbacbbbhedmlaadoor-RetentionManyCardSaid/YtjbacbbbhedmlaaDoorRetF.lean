/-
  What the last step of each statement of layer 10 wants: how archives read, what the listed variables hold, and how a walk that leaves all as it was pays the row.
-/
import Derived.Test.YtjbacbbbhedmlaaDoorRows
import Derived.Test.YtjbacbbbhedmlaaDoorTie
import Derived.Test.YtjbacbbbhedmlaaDoorCards
import Derived.Test.YtjbacbbbhedmlaaDoorRetPF
import Derived.Test.YtjbacbbbhedmlaaDoorRetPG
import Derived.LaidMore
import Derived.Lay
import Derived.SevenTiedAt
import Derived.Stop.Joined
import Derived.Stop.LaidErr
import Derived.Shelf.Vars
import Derived.HandedShaped
import Derived.WalkKit
import Derived.ProofKit
import Derived.OpenShut
import Derived.ChangeMaps5
import Derived.Lib.SmallJoins
import Derived.Lib.LaidTab
import Derived.Laws.Cover2
import Derived.Laws.IdiomArrays
import Derived.Deep.Slices
import Derived.Carry
set_option linter.unusedSimpArgs false
set_option linter.unusedVariables false
namespace Go.Proofs.YtjbacbbbhedmlaaDoor
open Go.ChangeShapes Go.WideShapes Go.ChangeAt Go.RowKit Go.Joins Go.Deep

theorem own : ownKnob Tryd.prog.godebug = none := by kernel_rfl
theorem laid_out : laidOutB Tryd.prog = true := by kernel_rfl

section
variable {H : Type} {enc : TypeId × Value → H} {P : Program}
/-- The row's last step where of the world behind the call 'Below' alone is known. -/
theorem post_of_below {f : Func} {s : ChangeSpec} {apart fresh handsOn again : Bool} {W W' : World} {args : Array Value} {v : Value} {ds gs : List (DataW H)} {before pa pv : List MemPlace}
    (hW : DataW.Whole enc P f.params.toList s.vars apart W args.toList ds gs before)
    (hres : ∀ (b : Nat) (sp : Nat → Bool) (hd : Bool), DataW.TrodAll enc P W' b sp hd f.resultTypes.toList (v.resultList f.resultTypes.size) (s.fn H (ds ++ gs)).results [])
    (hargs : ∀ sp : Nat → Bool, (∀ p ∈ before, sp p.block = true) → DataW.TrodAll enc P W' 0 sp true f.params.toList args.toList (s.fn H (ds ++ gs)).args pa)
    (hvars : ∀ sp : Nat → Bool, (∀ p ∈ before, sp p.block = true) → DataW.TrodVars enc P W' sp s.vars (s.fn H (ds ++ gs)).vars pv)
    (hps : before = pa ++ pv) (hb : Below W.heap.size W W')
    (hok : ∀ (j : Nat) (t : TypeId) (r : Value), f.resultTypes[j]? = some t → (v.resultList f.resultTypes.size)[j]? = some r → Value.okWide P W' .any 0 t r) :
    s.post enc P f apart fresh handsOn again W args v W' := by
  have hlt : ∀ p ∈ before, p.block < W.heap.size := fun p hp => hW.lt p hp
  have hold : ∀ p ∈ before, (fun b => decide (b < W.heap.size)) p.block = true := fun p hp => by simpa using hlt p hp
  refine ⟨ds, gs, before, [], pa, pv, hW, hres _ _ _, hargs _ hold, hvars _ hold, World.keptBut_mono (fun p hp => ⟨hp, ?_⟩) (hb.frame (· ∈ before)), fun _ => ?_⟩
  · rw [hps, List.mem_append] at hp
    exact Or.inr hp
  · obtain ⟨_, _, _, _, _, hz, hn⟩ := hW
    refine ⟨hok, _, _, ([] ++ pa) ++ pv, ⟨[] ++ pa, pv, trodAll_append (hargs _ (fun _ _ => rfl)) (hres _ _ _), hvars _ (fun _ _ => rfl), rfl, ?_, ?_⟩, ?_⟩
    · intro b off hp
      have hin : MemPlace.cell b off ∈ before := by rw [hps]; simpa using hp
      rw [hb.frozen (hlt _ hin)]
      exact hz b off hin
    · intro ha
      have := hn ha
      rw [hps] at this
      simpa using this
    · intro p hp _
      rw [hps]
      simpa using hp
end

section
variable {H : Type} {enc : TypeId × Value → H} {P : Program} {w : World} {base : Nat} {sp : Nat → Bool} {held : Bool}
theorem rows_exist {α : Type} : ∀ (n : Nat) (f : Nat → α → Prop), (∀ i, i < n → ∃ b, f i b) → ∃ l : List α, l.length = n ∧ ∀ i b, l[i]? = some b → f i b
  | 0, f, h => ⟨[], rfl, fun i b hi => by simp at hi⟩
  | n + 1, f, h => by
    obtain ⟨b0, h0⟩ := h 0 (by omega)
    obtain ⟨l, hl, hr⟩ := rows_exist n (fun i => f (i + 1)) (fun i hi => h (i + 1) (by omega))
    refine ⟨b0 :: l, by simp [hl], fun i b hi => ?_⟩
    cases i with
    | zero => simp at hi; subst hi; exact h0
    | succ j => exact hr j b (by simpa using hi)
theorem int_is {e : TypeId} {c : Value} {n : Nat} {y : DataW H × List MemPlace} (he : P.underlying e = some (.int .i64)) (h : DataW.trod enc P w base sp held n e [c] = some y) : ∃ m : Int, c = .int .i64 m ∧ -9223372036854775808 ≤ m ∧ m ≤ 9223372036854775807 := by
  obtain ⟨m, hm, _, hw⟩ := DataW.trod_int he h
  have hc : c = .int .i64 m := by simpa using hm
  obtain ⟨k0, k1⟩ := bounds_i64 hw
  exact ⟨m, hc, k0, by omega⟩
/-- A row of things of k cells each, out of its reading. -/
theorem row_in {α : Type} {t e : TypeId} {k : Nat} {n : Nat} {v : Value} {y : DataW H × List MemPlace} (R : α → List Value → Prop) (ht : P.underlying t = some (.slice e)) (hk : P.cellsOf e = k) (hk0 : 0 < k)
    (hR : ∀ (m : Nat) (cs : List Value) (z : DataW H × List MemPlace), DataW.trod enc P w base sp held m e cs = some z → cs.length = k → ∃ x, R x cs)
    (h : DataW.trod enc P w base sp held n t [v] = some y) :
    ∃ (A : Option Addr) (len cap : Nat) (l : List α), v = .slice A len cap ∧ len ≤ cap ∧ len ≤ 9223372036854775807 ∧ l.length = len ∧ (0 < len → ∃ b off, A = some ⟨b, off, none⟩ ∧ ∀ i x, l[i]? = some x → ∃ cs, cs.length = k ∧ R x cs ∧ ∀ j u, cs[j]? = some u → w.cell? ⟨b, off + i * k + j, none⟩ = some u) := by
  rcases open_slice ht h with ⟨hcs, _⟩ | ⟨a, len, cap, m, n', D, Pl, hcs, hb, hl, hm, hmm, _, hi⟩
  · exact ⟨none, 0, 0, [], by simpa using hcs, Nat.le_refl _, Nat.zero_le _, rfl, fun h => absurd h (Nat.lt_irrefl _)⟩
  · have hv : v = .slice (some a) len cap := by simpa using hcs
    have hlm : len ≤ m := by rw [hmm]; split <;> omega
    obtain ⟨l, hl2, hr⟩ := rows_exist len (fun i (x : α) => ∃ cs : List Value, cs.length = k ∧ R x cs ∧ ∀ j u, cs[j]? = some u → w.cell? ((a.add (i * k)).add j) = some u) (fun i hil => by
      obtain ⟨cs, hc, hd⟩ := hi i (by omega)
      rw [hk] at hc
      obtain ⟨_, hcl, hat⟩ := World.cells?_some hc
      obtain ⟨x, hx⟩ := hR _ _ _ hd hcl
      refine ⟨x, cs, hcl, hx, fun j u hu => ?_⟩
      have hj : j < k := by rw [← hcl]; exact (List.getElem?_eq_some_iff.1 hu).1
      rw [hat j hj, hu])
    refine ⟨some a, len, cap, l, hv, hl, by unfold maxLen at hm; omega, hl2, fun h0 => ?_⟩
    obtain ⟨cs0, hk1, _, hc0⟩ := hr 0 _ (List.getElem?_eq_getElem (by omega))
    have h0c := hc0 0 _ (List.getElem?_eq_getElem (by omega))
    obtain ⟨b, off, spot⟩ := a
    have hspot : spot = none := by
      have := World.cell?_spot h0c
      simpa [Addr.add] using this
    subst hspot
    refine ⟨b, off, rfl, fun i x hx => ?_⟩
    obtain ⟨cs, h1, h2, h3⟩ := hr i x hx
    refine ⟨cs, h1, h2, fun j u hu => ?_⟩
    have := h3 j u hu
    have e : ((⟨b, off, none⟩ : Addr).add (i * k)).add j = ⟨b, off + i * k + j, none⟩ := by unfold Addr.add; split <;> split <;> simp_all [Nat.add_assoc]
    rwa [e] at this
end
section
variable {H : Type} {enc : TypeId × Value → H} {w : World} {base : Nat} {sp : Nat → Bool} {held : Bool}
theorem field_in {n : Nat} {t : TypeId} {fs : Array Field} {cs : List Value} {y : DataW H × List MemPlace} (ht : Tryd.prog.underlying t = some (.struct fs)) (h : DataW.trod enc Tryd.prog w base sp held n t cs = some y) (i : Nat) (f : Field) (hf : fs[i]? = some f) (c : Value)
    (hk : Tryd.prog.cellsOf f.type = 1) (hc : (cs.drop f.offset).take 1 = [c]) : ∃ m z, DataW.trod enc Tryd.prog w base sp held m f.type [c] = some z := by
  obtain ⟨xs, m, _, _, _, hl, hg⟩ := DataW.trod_struct ht h
  have h1 := hg i f hf
  rw [hk, hc] at h1
  have hi : i < fs.size := (Array.getElem?_eq_some_iff.1 hf).1
  have hxs : xs[i]? = some (xs[i]'(by omega)) := List.getElem?_eq_getElem (by omega)
  exact ⟨m, _, h1.trans hxs⟩
/-- A row of archives, read. -/
theorem rungs_in {n : Nat} {v : Value} {y : DataW H × List MemPlace} (h : DataW.trod enc Tryd.prog w base sp held n 23 [v] = some y) : ∃ l, RgOut w v l := by
  obtain ⟨A, len, cap, l, rfl, hc, hl, hll, hx⟩ := row_in (α := Int × Int) (fun g cs => cs = [.int .i64 g.1, .int .i64 g.2]) Tryd.underlying23 (k := 2) (by kernel_rfl) (by decide) (fun m cs z hz hk => by
    match cs, hk with
    | [c0, c1], _ =>
      obtain ⟨_, _, g0⟩ := field_in Tryd.underlying32 hz 0 _ rfl c0 (by kernel_rfl) rfl
      obtain ⟨_, _, g1⟩ := field_in Tryd.underlying32 hz 1 _ rfl c1 (by kernel_rfl) rfl
      obtain ⟨x0, rfl, _⟩ := int_is Tryd.underlying3 g0
      obtain ⟨x1, rfl, _⟩ := int_is Tryd.underlying3 g1
      exact ⟨(x0, x1), rfl⟩) h
  refine ⟨l, A, cap, by rw [hll], by omega, fun hn => ?_⟩
  obtain ⟨b, off, hA, hf⟩ := hx (by rw [← hll]; exact List.length_pos_iff.2 hn)
  refine ⟨b, off, hA, fun k g hk => ?_⟩
  obtain ⟨cs, _, rfl, hcell⟩ := hf k g hk
  exact ⟨by have := hcell 0 _ rfl; simpa using this, hcell 1 _ rfl⟩
set_option maxRecDepth 100000 in
theorem rungs_of {r : Reach} {b0 : Nat} {v : Value} {d : DataW H} {ps : List MemPlace} (hval : Value.okWide Tryd.prog w r b0 23 v) (hd : DataW.Trod enc Tryd.prog w base sp held 23 v d ps) : ∃ l, RgOut w v l := by
  obtain ⟨a0, len0, cap0, rfl⟩ := okWide_slice Tryd.underlying23 hval
  obtain ⟨fuel, hf⟩ := hd
  exact rungs_in hf
set_option maxRecDepth 100000 in
/-- An archive, read. -/
theorem open_rung {r : Reach} {b0 : Nat} {v : Value} {d : DataW H} {ps : List MemPlace} (hval : Value.okWide Tryd.prog w r b0 32 v) (hd : DataW.Trod enc Tryd.prog w base sp held 32 v d ps) :
    ∃ x y : Int, v = .agg #[.int .i64 x, .int .i64 y] := by
  obtain ⟨cs, rfl, hsz⟩ := okWide_struct Tryd.underlying32 hval
  have h2 : Tryd.prog.cellsOf 32 = 2 := by kernel_rfl
  obtain ⟨l⟩ := cs
  match l, hsz.trans h2 with
  | [c0, c1], _ =>
    obtain ⟨fuel, hf⟩ := hd
    obtain ⟨_, _, g0⟩ := field_in Tryd.underlying32 hf 0 _ rfl c0 (by kernel_rfl) rfl
    obtain ⟨_, _, g1⟩ := field_in Tryd.underlying32 hf 1 _ rfl c1 (by kernel_rfl) rfl
    obtain ⟨x0, rfl, _⟩ := int_is Tryd.underlying3 g0
    obtain ⟨x1, rfl, _⟩ := int_is Tryd.underlying3 g1
    exact ⟨x0, x1, rfl⟩
end
/-! ### A row that lists variables: its premise and the world's shape are handed to the walk -/
theorem returns_laid {H : Type} {enc : TypeId × Value → H} {a : Assume} {C : Checked} {os : Os} {f : FuncId} {fn : Func} {s : ChangeSpec} {conds : List PathCond} {apart fresh handsOn again : Bool} {X : World → Array Value → Prop}
    (hX : ∀ (w w' : World) (args : Array Value), w.heap = w'.heap → X w args → X w' args)
    (own : ownKnob C.prog.godebug = none) (started : os.Started) (noInit : C.prog.inits.idxOf? f = none) (hfn : C.prog.funcs[f]? = some fn)
    (witness : ∃ (w : World) (tape : Tape) (i : Input), w.os = os ∧ (w.forCall tape i).Shaped C.prog ∧ i.vars = [] ∧ Input.okWide C.prog (w.forCall tape i) .any w.heap.size f i ∧
      ((s.pre enc C.prog fn conds apart (w.forCall tape i).memory i.args ∧ X (w.forCall tape i).memory i.args) ∧ sizedMet enc C.prog fn (OpenSpec.ofChange s) apart (w.forCall tape i).memory i.args) ∧ a.holds C.prog (lone (Frame.enter C.prog f i.args .normal) [] (w.forCall tape i)))
    (contract : ∀ (W : World) (base : Nat) (args : Array Value) (ds gs : List (DataW H)) (before : List MemPlace),
      (∀ (j : Nat) t v, fn.params[j]? = some t → args[j]? = some v → Value.okWide C.prog W .any base t v) →
      DataW.Whole enc C.prog fn.params.toList s.vars apart W args.toList ds gs before →
      X W args → W.ShapedOpen C.prog →
      Calls C.prog f args W fun e W' => ∃ v, e = .returned v ∧ s.post enc C.prog fn apart fresh handsOn again W args v W') :
    ReturnsInHanded a C os f .any (fun w args => (s.pre enc C.prog fn conds apart w args ∧ X w args) ∧ sizedMet enc C.prog fn (OpenSpec.ofChange s) apart w args) (s.post enc C.prog fn apart fresh handsOn again) := by
  refine returnsInHanded_of_calls own started noInit witness ?_
  intro w tape i _ hsh _ hok hpre _
  obtain ⟨_, _, _, fn', hfn', _, _, _, _, hval⟩ := hok
  have e : fn' = fn := Option.some.inj (hfn'.symm.trans hfn)
  subst e
  obtain ⟨⟨⟨ds, gs, before, hw, _⟩, hx⟩, _⟩ := hpre
  have hw' := DataW.Whole.of_heap (w' := w.forCall tape i) (by rfl) hw
  refine (contract (w.forCall tape i) w.heap.size i.args ds gs before hval hw' (hX _ _ _ (by rfl) hx) hsh).mono fun e W' ⟨v, he, hp⟩ => ?_
  subst he
  exact ChangeSpec.post_blind hp

/-! ### What the listed variables hold -/
/-- An array of pairs that reads as the table holds the table's numbers, cell for cell. -/
theorem cells_of_pairs {H : Type} {enc : TypeId × Value → H} {P : Program} {w : World} {base : Nat} {sp : Nat → Bool} {held : Bool} {fuel : Nat} {t e : TypeId} {n : Nat} {f0 f1 : Field} {k0 k1 : IntKind} {cs : List Value} {zs : List (Int × Int)} {p : List MemPlace}
    (ht : P.underlying t = some (.array n e)) (he : P.underlying e = some (.struct #[f0, f1])) (h0 : P.underlying f0.type = some (.int k0)) (h1 : P.underlying f1.type = some (.int k1)) (o0 : f0.offset = 0) (o1 : f1.offset = 1) (c0 : P.cellsOf f0.type = 1) (c1 : P.cellsOf f1.type = 1) (hce : P.cellsOf e = 2)
    (h : DataW.trod enc P w base sp held fuel t cs = some (.agg (zs.map fun z => .agg [.lit (.int k0 z.1), .lit (.int k1 z.2)]), p)) :
    ∀ (i : Nat) (z : Int × Int), zs[i]? = some z → cs[i * 2]? = some (.int k0 z.1) ∧ cs[i * 2 + 1]? = some (.int k1 z.2) := by
  intro i z hz
  cases fuel with
  | zero => simp [DataW.trod] at h
  | succ fuel =>
    simp only [DataW.trod, ht, hce] at h
    split at h
    · rename_i hl
      obtain ⟨xs, hm, hx⟩ := Option.map_eq_some_iff.1 h
      have hxs : xs.map (·.1) = zs.map fun z => (DataW.agg [.lit (.int k0 z.1), .lit (.int k1 z.2)] : DataW H) := by
        have := congrArg Prod.fst hx
        simpa using this
      have hxl : xs.length = n := by simpa using Lib.mapM_length hm
      have hzl : zs.length = n := by
        have := congrArg List.length hxs
        simp at this
        omega
      have hi : i < n := by rw [← hzl]; exact (List.getElem?_eq_some_iff.1 hz).1
      obtain ⟨b, hb, hf⟩ := Lib.mapM_at hm i i (by simp [hi])
      have h2 : (xs.map (·.1))[i]? = some b.1 := by simp [hb]
      rw [hxs, List.getElem?_map, hz] at h2
      have h3 : (DataW.agg [.lit (.int k0 z.1), .lit (.int k1 z.2)] : DataW H) = b.1 := by simpa using h2
      obtain ⟨y0, y1, m, hbe, _, g0, g1⟩ := trod_struct2 he hf
      rw [o0, c0] at g0
      rw [o1, c1] at g1
      obtain ⟨m0, e0, e0', _⟩ := DataW.trod_int h0 g0
      obtain ⟨m1, e1, e1', _⟩ := DataW.trod_int h1 g1
      rw [hbe, e0', e1'] at h3
      simp only [DataW.agg.injEq, List.cons.injEq, DataW.lit.injEq, Lit.int.injEq, true_and, and_true] at h3
      obtain ⟨a0, a1⟩ := h3
      subst a0; subst a1
      constructor
      · have := congrArg (·[0]?) e0
        simpa [List.getElem?_take, List.getElem?_drop] using this
      · have := congrArg (·[0]?) e1
        simpa [List.getElem?_take, List.getElem?_drop] using this
    · cases h
theorem g_units : Tryd.prog.globalNamed "isobar/retention.units" = some 0 := by kernel_rfl
theorem g_unitsType : (Tryd.prog.globals[0]?).map (·.type) = some 89 := by kernel_rfl
theorem g_tabType : (Tryd.prog.globals[4]?).map (·.type) = some 110 := by kernel_rfl
def unitsTab : List (Int × Int) := [(115, 1), (109, 60), (104, 3600), (100, 86400), (119, 604800), (121, 31536000)]
theorem units_at {W : World} {rest : List (String × DataW Unit)} (h : laidMet Tryd.prog (("isobar/retention.units", Rows.laid_isobar_retention_units) :: rest) W) :
    ∀ (i : Nat) (z : Int × Int), unitsTab[i]? = some z → W.cell? ⟨0, i * 2, none⟩ = some (.int .u8 z.1) ∧ W.cell? ⟨0, i * 2 + 1, none⟩ = some (.int .i64 z.2) := by
  obtain ⟨ps, ⟨g', t', cs, fuel, p, q, hg', ht', hvar, hd, _, _⟩, _⟩ := h
  obtain rfl := Option.some.inj (g_units.symm.trans hg')
  obtain rfl := Option.some.inj (g_unitsType.symm.trans ht')
  intro i z hz
  have := cells_of_pairs (zs := unitsTab) Tryd.underlying89 Tryd.underlying88 Tryd.underlying5 Tryd.underlying3 rfl rfl (by kernel_rfl) (by kernel_rfl) (by kernel_rfl) hd i z hz
  rw [World.var?_cell g_units hvar, World.var?_cell g_units hvar]
  simpa using this
theorem g_len {W : World} (hs : W.ShapedOpen Tryd.prog) : ∃ m, W.cell? ⟨3, 0, none⟩ = some (.int .i64 m) :=
  Proofs.cell_of_shapedOpen_int hs (g := 3) (t := 3) (zero := #[.int .i64 0]) (by decide +kernel) (by kernel_rfl) rfl (by kernel_rfl) (by kernel_rfl) Tryd.underlying3
theorem g_units_all {W : World} {rest : List (String × DataW Unit)} (h : laidMet Tryd.prog (("isobar/retention.units", Rows.laid_isobar_retention_units) :: rest) W) (hs : W.ShapedOpen Tryd.prog) : G W :=
  ⟨g_len hs, units_at h 0 _ rfl, units_at h 1 _ rfl, units_at h 2 _ rfl, units_at h 3 _ rfl, units_at h 4 _ rfl, units_at h 5 _ rfl⟩
/-- What the rows of Parses and Many list. -/
def laid : List (String × DataW Unit) := Rows.retentionParsesRow.laid
/-- What the rows of Together and Back list. -/
def laidP : List (String × DataW Unit) := Rows.retentionTogetherRow.laid
theorem g_of {W : World} (hL : laidMetH Tryd.prog laid W) (hs : W.ShapedOpen Tryd.prog) : G W := by
  rw [MakeChecks.laidMetH_plain _ _ _ (by kernel_rfl)] at hL
  exact g_units_all (laidMet.tail hL) hs
theorem g_ofP {W : World} (hL : laidMetH Tryd.prog laidP W) (hs : W.ShapedOpen Tryd.prog) : G W := by
  rw [MakeChecks.laidMetH_plain _ _ _ (by kernel_rfl)] at hL
  exact g_units_all (laidMet.tail (laidMet.tail (laidMet.tail (laidMet.tail hL)))) hs
theorem pw_of {W : World} (hL : laidMetH Tryd.prog laidP W) : RP.Pw W := by
  rw [MakeChecks.laidMetH_plain _ _ _ (by kernel_rfl)] at hL
  exact ⟨Lib.tabIs_of_head RP.g_tab g_tabType Tryd.underlying110 Tryd.underlying57 (by kernel_rfl) (by kernel_rfl) (laidMet.tail (laidMet.tail hL))⟩
end Go.Proofs.YtjbacbbbhedmlaaDoor
