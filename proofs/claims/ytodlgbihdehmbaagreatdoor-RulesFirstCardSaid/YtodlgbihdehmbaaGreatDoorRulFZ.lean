/-
  What the last step of each statement of layer 12 wants: how rules read, what the listed variables hold, and how a walk that leaves all as it was pays the row.
-/
import Derived.Test.YtodlgbihdehmbaaGreatDoorRows
import Derived.Test.YtodlgbihdehmbaaGreatDoorTie
import Derived.Test.YtodlgbihdehmbaaGreatDoorCards
import Derived.Test.YtodlgbihdehmbaaGreatDoorRetGZ
import Derived.Test.YtodlgbihdehmbaaGreatDoorRulPJZ
import Derived.LaidMore
import Derived.Lay
import Derived.SevenTiedAt
import Derived.Stop.Joined
import Derived.Stop.LaidErr
import Derived.Shelf.Vars
import Derived.HandedShaped
import Derived.WalkKit
import Derived.ProofKit
import Derived.OpenShut
import Derived.ChangeMaps5
import Derived.SizedLaws
import Derived.Lib.SmallJoins
import Derived.Lib.LaidTab
import Derived.Laws.Cover2
import Derived.Laws.IdiomArrays
import Derived.Deep.Slices
import Derived.Carry
import Derived.Maps.StringElems
set_option linter.unusedSimpArgs false
set_option linter.unusedVariables false
namespace Go.Proofs.YtodlgbihdehmbaaGreatDoor
open Go.ChangeShapes Go.WideShapes Go.ChangeAt Go.RowKit Go.Joins Go.Deep

theorem own : ownKnob Tryz.prog.godebug = none := by kernel_rfl
theorem laid_out : laidOutB Tryz.prog = true := by kernel_rfl

section
variable {H : Type} {enc : TypeId × Value → H} {P : Program}
/-- The row's last step where of the world behind the call 'Below' alone is known. -/
theorem post_of_below {f : Func} {s : ChangeSpec} {apart fresh handsOn again : Bool} {W W' : World} {args : Array Value} {v : Value} {ds gs : List (DataW H)} {before pa pv : List MemPlace}
    (hW : DataW.Whole enc P f.params.toList s.vars apart W args.toList ds gs before)
    (hres : ∀ (b : Nat) (sp : Nat → Bool) (hd : Bool), DataW.TrodAll enc P W' b sp hd f.resultTypes.toList (v.resultList f.resultTypes.size) (s.fn H (ds ++ gs)).results [])
    (hargs : ∀ sp : Nat → Bool, (∀ p ∈ before, sp p.block = true) → DataW.TrodAll enc P W' 0 sp true f.params.toList args.toList (s.fn H (ds ++ gs)).args pa)
    (hvars : ∀ sp : Nat → Bool, (∀ p ∈ before, sp p.block = true) → DataW.TrodVars enc P W' sp s.vars (s.fn H (ds ++ gs)).vars pv)
    (hps : before = pa ++ pv) (hb : Below W.heap.size W W')
    (hok : ∀ (j : Nat) (t : TypeId) (r : Value), f.resultTypes[j]? = some t → (v.resultList f.resultTypes.size)[j]? = some r → Value.okWide P W' .any 0 t r) :
    s.post enc P f apart fresh handsOn again W args v W' := by
  have hlt : ∀ p ∈ before, p.block < W.heap.size := fun p hp => hW.lt p hp
  have hold : ∀ p ∈ before, (fun b => decide (b < W.heap.size)) p.block = true := fun p hp => by simpa using hlt p hp
  refine ⟨ds, gs, before, [], pa, pv, hW, hres _ _ _, hargs _ hold, hvars _ hold, World.keptBut_mono (fun p hp => ⟨hp, ?_⟩) (hb.frame (· ∈ before)), fun _ => ?_⟩
  · rw [hps, List.mem_append] at hp
    exact Or.inr hp
  · obtain ⟨_, _, _, _, _, hz, hn⟩ := hW
    refine ⟨hok, _, _, ([] ++ pa) ++ pv, ⟨[] ++ pa, pv, trodAll_append (hargs _ (fun _ _ => rfl)) (hres _ _ _), hvars _ (fun _ _ => rfl), rfl, ?_, ?_⟩, ?_⟩
    · intro b off hp
      have hin : MemPlace.cell b off ∈ before := by rw [hps]; simpa using hp
      rw [hb.frozen (hlt _ hin)]
      exact hz b off hin
    · intro ha
      have := hn ha
      rw [hps] at this
      simpa using this
    · intro p hp _
      rw [hps]
      simpa using hp
end

/-- What a reading reaches is no greater than what memory bears. -/
def Light {H : Type} (P : Program) (t : TypeId) (d : DataW H) : Prop := ∀ n ∈ DataW.weights P t d, n ≤ reachBytes
theorem weightsAll_mem {H : Type} {P : Program} {e : TypeId} : ∀ {l : List (DataW H)} {d : DataW H}, d ∈ l → ∀ n ∈ DataW.weights P e d, n ∈ DataW.weightsAll P e l
  | x :: l, d, h, n, hn => by
    simp only [DataW.weightsAll, List.mem_append]
    rcases List.mem_cons.1 h with rfl | h
    · exact .inl hn
    · exact .inr (weightsAll_mem h n hn)
theorem light_of {H : Type} {P : Program} {ts : List TypeId} {ds : List (DataW H)} {j : Nat} {t : TypeId} {d : DataW H} (h : (DataW.weightsEach P ts ds).all (· ≤ reachBytes) = true) (ht : ts[j]? = some t) (hd : ds[j]? = some d) : Light P t d := fun n hn => by
  simpa using List.all_eq_true.1 h n (DataW.weights_mem_each ht hd n hn)
section
variable {H : Type} {enc : TypeId × Value → H} {P : Program} {w : World} {base : Nat} {sp : Nat → Bool} {held : Bool}
theorem rows_exist {α : Type} : ∀ (n : Nat) (f : Nat → α → Prop), (∀ i, i < n → ∃ b, f i b) → ∃ l : List α, l.length = n ∧ ∀ i b, l[i]? = some b → f i b
  | 0, f, h => ⟨[], rfl, fun i b hi => by simp at hi⟩
  | n + 1, f, h => by
    obtain ⟨b0, h0⟩ := h 0 (by omega)
    obtain ⟨l, hl, hr⟩ := rows_exist n (fun i => f (i + 1)) (fun i hi => h (i + 1) (by omega))
    refine ⟨b0 :: l, by simp [hl], fun i b hi => ?_⟩
    cases i with
    | zero => simp at hi; subst hi; exact h0
    | succ j => exact hr j b (by simpa using hi)
theorem int_is {e : TypeId} {c : Value} {n : Nat} {y : DataW H × List MemPlace} (he : P.underlying e = some (.int .i64)) (h : DataW.trod enc P w base sp held n e [c] = some y) : ∃ m : Int, c = .int .i64 m ∧ -9223372036854775808 ≤ m ∧ m ≤ 9223372036854775807 := by
  obtain ⟨m, hm, _, hw⟩ := DataW.trod_int he h
  have hc : c = .int .i64 m := by simpa using hm
  obtain ⟨k0, k1⟩ := bounds_i64 hw
  exact ⟨m, hc, k0, by omega⟩
/-- A row of things of k cells each, out of its reading. -/
theorem row_inW {α : Type} {t e : TypeId} {k : Nat} {n : Nat} {v : Value} {y : DataW H × List MemPlace} (R : α → List Value → Prop) (ht : P.underlying t = some (.slice e)) (hk : P.cellsOf e = k) (hk0 : 0 < k) (hL : Light P t y.1)
    (hR : ∀ (m : Nat) (cs : List Value) (z : DataW H × List MemPlace), DataW.trod enc P w base sp held m e cs = some z → cs.length = k → Light P e z.1 → ∃ x, R x cs)
    (h : DataW.trod enc P w base sp held n t [v] = some y) :
    ∃ (A : Option Addr) (len cap : Nat) (l : List α), v = .slice A len cap ∧ len ≤ cap ∧ len ≤ 9223372036854775807 ∧ len * P.bytesOf e ≤ reachBytes ∧ l.length = len ∧ (0 < len → ∃ b off, A = some ⟨b, off, none⟩ ∧ ∀ i x, l[i]? = some x → ∃ cs, cs.length = k ∧ R x cs ∧ ∀ j u, cs[j]? = some u → w.cell? ⟨b, off + i * k + j, none⟩ = some u) := by
  rcases open_slice ht h with ⟨hcs, _⟩ | ⟨a, len, cap, m, n', D, Pl, hcs, hb, hl, hm, hmm, hy, hi⟩
  · exact ⟨none, 0, 0, [], by simpa using hcs, Nat.le_refl _, Nat.zero_le _, by rw [Nat.zero_mul]; exact Nat.zero_le _, rfl, fun h => absurd h (Nat.lt_irrefl _)⟩
  · have hv : v = .slice (some a) len cap := by simpa using hcs
    have hlm : len ≤ m := by rw [hmm]; split <;> omega
    rw [hy] at hL
    have hLb : len * P.bytesOf e ≤ reachBytes := by
      have := hL ((len + (m - len)) * P.bytesOf e) (by simp [DataW.weights, ht])
      exact Nat.le_trans (Nat.mul_le_mul_right _ (Nat.le_add_right _ _)) this
    have hLi : ∀ i, i < len → Light P e (D i) := fun i hil n hn => hL n (by
      unfold DataW.weights
      rw [ht]
      simp only [List.mem_cons, List.mem_append]
      exact .inr (.inl (weightsAll_mem (List.mem_map.2 ⟨i, List.mem_range.2 hil, rfl⟩) n hn)))
    obtain ⟨l, hl2, hr⟩ := rows_exist len (fun i (x : α) => ∃ cs : List Value, cs.length = k ∧ R x cs ∧ ∀ j u, cs[j]? = some u → w.cell? ((a.add (i * k)).add j) = some u) (fun i hil => by
      obtain ⟨cs, hc, hd⟩ := hi i (by omega)
      rw [hk] at hc
      obtain ⟨_, hcl, hat⟩ := World.cells?_some hc
      obtain ⟨x, hx⟩ := hR _ _ _ hd hcl (hLi i hil)
      refine ⟨x, cs, hcl, hx, fun j u hu => ?_⟩
      have hj : j < k := by rw [← hcl]; exact (List.getElem?_eq_some_iff.1 hu).1
      rw [hat j hj, hu])
    refine ⟨some a, len, cap, l, hv, hl, by unfold maxLen at hm; omega, hLb, hl2, fun h0 => ?_⟩
    obtain ⟨cs0, hk1, _, hc0⟩ := hr 0 _ (List.getElem?_eq_getElem (by omega))
    have h0c := hc0 0 _ (List.getElem?_eq_getElem (by omega))
    obtain ⟨b, off, spot⟩ := a
    have hspot : spot = none := by
      have := World.cell?_spot h0c
      simpa [Addr.add] using this
    subst hspot
    refine ⟨b, off, rfl, fun i x hx => ?_⟩
    obtain ⟨cs, h1, h2, h3⟩ := hr i x hx
    refine ⟨cs, h1, h2, fun j u hu => ?_⟩
    have := h3 j u hu
    have e : ((⟨b, off, none⟩ : Addr).add (i * k)).add j = ⟨b, off + i * k + j, none⟩ := by unfold Addr.add; split <;> split <;> simp_all [Nat.add_assoc]
    rwa [e] at this
end
theorem returns_laid {H : Type} {enc : TypeId × Value → H} {a : Assume} {C : Checked} {os : Os} {f : FuncId} {fn : Func} {s : ChangeSpec} {conds : List PathCond} {apart fresh handsOn again : Bool} {X : World → Array Value → Prop}
    (hX : ∀ (w w' : World) (args : Array Value), w.heap = w'.heap → X w args → X w' args)
    (own : ownKnob C.prog.godebug = none) (started : os.Started) (noInit : C.prog.inits.idxOf? f = none) (hfn : C.prog.funcs[f]? = some fn)
    (witness : ∃ (w : World) (tape : Tape) (i : Input), w.os = os ∧ (w.forCall tape i).Shaped C.prog ∧ i.vars = [] ∧ Input.okWide C.prog (w.forCall tape i) .any w.heap.size f i ∧
      ((s.pre enc C.prog fn conds apart (w.forCall tape i).memory i.args ∧ X (w.forCall tape i).memory i.args) ∧ sizedMet enc C.prog fn (OpenSpec.ofChange s) apart (w.forCall tape i).memory i.args) ∧ a.holds C.prog (lone (Frame.enter C.prog f i.args .normal) [] (w.forCall tape i)))
    (contract : ∀ (W : World) (base : Nat) (args : Array Value) (ds gs : List (DataW H)) (before : List MemPlace),
      (∀ (j : Nat) t v, fn.params[j]? = some t → args[j]? = some v → Value.okWide C.prog W .any base t v) →
      DataW.Whole enc C.prog fn.params.toList s.vars apart W args.toList ds gs before →
      X W args → W.ShapedOpen C.prog → (DataW.weightsEach C.prog (fn.params.toList ++ s.plain.varTypes C.prog) (ds ++ gs)).all (· ≤ reachBytes) = true →
      Calls C.prog f args W fun e W' => ∃ v, e = .returned v ∧ s.post enc C.prog fn apart fresh handsOn again W args v W') :
    ReturnsInHanded a C os f .any (fun w args => (s.pre enc C.prog fn conds apart w args ∧ X w args) ∧ sizedMet enc C.prog fn (OpenSpec.ofChange s) apart w args) (s.post enc C.prog fn apart fresh handsOn again) := by
  refine returnsInHanded_of_calls own started noInit witness ?_
  intro w tape i _ hsh _ hok hpre _
  obtain ⟨_, _, _, fn', hfn', _, _, _, _, hval⟩ := hok
  have e : fn' = fn := Option.some.inj (hfn'.symm.trans hfn)
  subst e
  obtain ⟨⟨⟨ds, gs, before, hw, _⟩, hx⟩, hz⟩ := hpre
  have hw' := DataW.Whole.of_heap (w' := w.forCall tape i) (by rfl) hw
  refine (contract (w.forCall tape i) w.heap.size i.args ds gs before hval hw' (hX _ _ _ (by rfl) hx) hsh (hz.weights hw)).mono fun e W' ⟨v, he, hp⟩ => ?_
  subst he
  exact ChangeSpec.post_blind hp

/-- An array of pairs that reads as the table holds the table's numbers, cell for cell. -/
theorem cells_of_pairs {H : Type} {enc : TypeId × Value → H} {P : Program} {w : World} {base : Nat} {sp : Nat → Bool} {held : Bool} {fuel : Nat} {t e : TypeId} {n : Nat} {f0 f1 : Field} {k0 k1 : IntKind} {cs : List Value} {zs : List (Int × Int)} {p : List MemPlace}
    (ht : P.underlying t = some (.array n e)) (he : P.underlying e = some (.struct #[f0, f1])) (h0 : P.underlying f0.type = some (.int k0)) (h1 : P.underlying f1.type = some (.int k1)) (o0 : f0.offset = 0) (o1 : f1.offset = 1) (c0 : P.cellsOf f0.type = 1) (c1 : P.cellsOf f1.type = 1) (hce : P.cellsOf e = 2)
    (h : DataW.trod enc P w base sp held fuel t cs = some (.agg (zs.map fun z => .agg [.lit (.int k0 z.1), .lit (.int k1 z.2)]), p)) :
    ∀ (i : Nat) (z : Int × Int), zs[i]? = some z → cs[i * 2]? = some (.int k0 z.1) ∧ cs[i * 2 + 1]? = some (.int k1 z.2) := by
  intro i z hz
  cases fuel with
  | zero => simp [DataW.trod] at h
  | succ fuel =>
    simp only [DataW.trod, ht, hce] at h
    split at h
    · rename_i hl
      obtain ⟨xs, hm, hx⟩ := Option.map_eq_some_iff.1 h
      have hxs : xs.map (·.1) = zs.map fun z => (DataW.agg [.lit (.int k0 z.1), .lit (.int k1 z.2)] : DataW H) := by
        have := congrArg Prod.fst hx
        simpa using this
      have hxl : xs.length = n := by simpa using Lib.mapM_length hm
      have hzl : zs.length = n := by
        have := congrArg List.length hxs
        simp at this
        omega
      have hi : i < n := by rw [← hzl]; exact (List.getElem?_eq_some_iff.1 hz).1
      obtain ⟨b, hb, hf⟩ := Lib.mapM_at hm i i (by simp [hi])
      have h2 : (xs.map (·.1))[i]? = some b.1 := by simp [hb]
      rw [hxs, List.getElem?_map, hz] at h2
      have h3 : (DataW.agg [.lit (.int k0 z.1), .lit (.int k1 z.2)] : DataW H) = b.1 := by simpa using h2
      obtain ⟨y0, y1, m, hbe, _, g0, g1⟩ := trod_struct2 he hf
      rw [o0, c0] at g0
      rw [o1, c1] at g1
      obtain ⟨m0, e0, e0', _⟩ := DataW.trod_int h0 g0
      obtain ⟨m1, e1, e1', _⟩ := DataW.trod_int h1 g1
      rw [hbe, e0', e1'] at h3
      simp only [DataW.agg.injEq, List.cons.injEq, DataW.lit.injEq, Lit.int.injEq, true_and, and_true] at h3
      obtain ⟨a0, a1⟩ := h3
      subst a0; subst a1
      constructor
      · have := congrArg (·[0]?) e0
        simpa [List.getElem?_take, List.getElem?_drop] using this
      · have := congrArg (·[0]?) e1
        simpa [List.getElem?_take, List.getElem?_drop] using this
    · cases h
theorem g_units : Tryz.prog.globalNamed "isobar/retention.units" = some 1 := by kernel_rfl
theorem g_unitsType : (Tryz.prog.globals[1]?).map (·.type) = some 204 := by kernel_rfl
def unitsTab : List (Int × Int) := [(115, 1), (109, 60), (104, 3600), (100, 86400), (119, 604800), (121, 31536000)]
theorem units_at {W : World} {rest : List (String × DataW Unit)} (h : laidMet Tryz.prog (("isobar/retention.units", Rows.laid_isobar_retention_units) :: rest) W) :
    ∀ (i : Nat) (z : Int × Int), unitsTab[i]? = some z → W.cell? ⟨1, i * 2, none⟩ = some (.int .u8 z.1) ∧ W.cell? ⟨1, i * 2 + 1, none⟩ = some (.int .i64 z.2) := by
  obtain ⟨ps, ⟨g', t', cs, fuel, p, q, hg', ht', hvar, hd, _, _⟩, _⟩ := h
  obtain rfl := Option.some.inj (g_units.symm.trans hg')
  obtain rfl := Option.some.inj (g_unitsType.symm.trans ht')
  intro i z hz
  have := cells_of_pairs (zs := unitsTab) Tryz.underlying204 Tryz.underlying203 Tryz.underlying5 Tryz.underlying3 rfl rfl (by kernel_rfl) (by kernel_rfl) (by kernel_rfl) hd i z hz
  rw [World.var?_cell g_units hvar, World.var?_cell g_units hvar]
  simpa using this
theorem g_len {W : World} (hs : W.ShapedOpen Tryz.prog) : ∃ m, W.cell? ⟨2, 0, none⟩ = some (.int .i64 m) :=
  Proofs.cell_of_shapedOpen_int hs (g := 2) (t := 3) (zero := #[.int .i64 0]) (by decide +kernel) (by kernel_rfl) rfl (by kernel_rfl) (by kernel_rfl) Tryz.underlying3
theorem g_units_all {W : World} {rest : List (String × DataW Unit)} (h : laidMet Tryz.prog (("isobar/retention.units", Rows.laid_isobar_retention_units) :: rest) W) (hs : W.ShapedOpen Tryz.prog) : G W :=
  ⟨g_len hs, units_at h 0 _ rfl, units_at h 1 _ rfl, units_at h 2 _ rfl, units_at h 3 _ rfl, units_at h 4 _ rfl, units_at h 5 _ rfl⟩
/-- An array of texts that reads as the table holds the table's texts. -/
theorem cells_of_strings {H : Type} {enc : TypeId × Value → H} {P : Program} {w : World} {base : Nat} {sp : Nat → Bool} {held : Bool} {fuel : Nat} {t e : TypeId} {n : Nat} {cs : List Value} {zs : List (List UInt8)} {p : List MemPlace}
    (ht : P.underlying t = some (.array n e)) (he : P.underlying e = some .string) (hce : P.cellsOf e = 1)
    (h : DataW.trod enc P w base sp held fuel t cs = some (.agg (zs.map fun z => .lit (.string z)), p)) :
    ∀ (i : Nat) (z : List UInt8), zs[i]? = some z → cs[i]? = some (.string ⟨⟨z⟩⟩) := by
  intro i z hz
  cases fuel with
  | zero => simp [DataW.trod] at h
  | succ fuel =>
    simp only [DataW.trod, ht, hce] at h
    split at h
    · rename_i hl
      obtain ⟨xs, hm, hx⟩ := Option.map_eq_some_iff.1 h
      have hxs : xs.map (·.1) = zs.map fun z => (DataW.lit (.string z) : DataW H) := by
        have := congrArg Prod.fst hx
        simpa using this
      have hxl : xs.length = n := by simpa using Lib.mapM_length hm
      have hzl : zs.length = n := by
        have := congrArg List.length hxs
        simp at this
        omega
      have hi : i < n := by rw [← hzl]; exact (List.getElem?_eq_some_iff.1 hz).1
      obtain ⟨b, hb, hf⟩ := Lib.mapM_at hm i i (by simp [hi])
      have h2 : (xs.map (·.1))[i]? = some b.1 := by simp [hb]
      rw [hxs, List.getElem?_map, hz] at h2
      have h3 : (DataW.lit (.string z) : DataW H) = b.1 := by simpa using h2
      obtain ⟨s, e0, e1, _⟩ := DataW.trod_string he hf
      rw [e1] at h3
      simp only [DataW.lit.injEq, Lit.string.injEq] at h3
      have := congrArg (·[0]?) e0
      rw [h3]
      simpa [List.getElem?_take, List.getElem?_drop] using this
    · cases h
theorem g_methods : Tryz.prog.globalNamed "isobar/rules.methods" = some 0 := by kernel_rfl
theorem g_methodsType : (Tryz.prog.globals[0]?).map (·.type) = some 80 := by kernel_rfl
def mtTab : List (List UInt8) := [[], [97, 118, 101, 114, 97, 103, 101], [115, 117, 109], [109, 105, 110], [109, 97, 120], [108, 97, 115, 116]]
theorem mt_at {W : World} {rest : List (String × DataW Unit)} (h : laidMet Tryz.prog (("isobar/rules.methods", Rows.laid_isobar_rules_methods) :: rest) W) : Mt W := by
  obtain ⟨ps, ⟨g', t', cs, fuel, p, q, hg', ht', hvar, hd, _, _⟩, _⟩ := h
  obtain rfl := Option.some.inj (g_methods.symm.trans hg')
  obtain rfl := Option.some.inj (g_methodsType.symm.trans ht')
  have key := cells_of_strings (zs := mtTab) Tryz.underlying80 Tryz.underlying9 (by kernel_rfl) hd
  intro k hk
  rw [World.var?_cell g_methods hvar]
  rcases (show k = 0 ∨ k = 1 ∨ k = 2 ∨ k = 3 ∨ k = 4 ∨ k = 5 by omega) with rfl | rfl | rfl | rfl | rfl | rfl
  · rw [← Array.getElem?_toList]; exact key 0 _ rfl
  · rw [← Array.getElem?_toList]; exact key 1 _ rfl
  · rw [← Array.getElem?_toList]; exact key 2 _ rfl
  · rw [← Array.getElem?_toList]; exact key 3 _ rfl
  · rw [← Array.getElem?_toList]; exact key 4 _ rfl
  · rw [← Array.getElem?_toList]; exact key 5 _ rfl
/-- What the row of RulesNames lists. -/
def laidN : List (String × DataW Unit) := Rows.rulesNamesRow.laid
/-- What the rows of RulesFinds and RulesFirst list. -/
def laidF : List (String × DataW Unit) := Rows.rulesFindsRow.laid
theorem g_ofN {W : World} (hL : laidMetH Tryz.prog laidN W) (hs : W.ShapedOpen Tryz.prog) : G W := by
  rw [MakeChecks.laidMetH_plain _ _ _ (by kernel_rfl)] at hL
  exact g_units_all (laidMet.tail hL) hs
theorem mt_ofN {W : World} (hL : laidMetH Tryz.prog laidN W) : Mt W := by
  rw [MakeChecks.laidMetH_plain _ _ _ (by kernel_rfl)] at hL
  exact mt_at (laidMet.tail (laidMet.tail hL))
theorem g_ofF {W : World} (hL : laidMetH Tryz.prog laidF W) (hs : W.ShapedOpen Tryz.prog) : G W := by
  rw [MakeChecks.laidMetH_plain _ _ _ (by kernel_rfl)] at hL
  exact g_units_all (laidMet.tail hL) hs
end Go.Proofs.YtodlgbihdehmbaaGreatDoor
