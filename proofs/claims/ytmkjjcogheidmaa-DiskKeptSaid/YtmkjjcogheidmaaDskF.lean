/-
  What the last step of each statement of layer 6 wants: how steps, keeps and two rows of bytes read, and how a walk that leaves all as it was pays the row.
-/
import Derived.Test.YtmkjjcogheidmaaRows
import Derived.Test.YtmkjjcogheidmaaDskWB
import Derived.WalkKit
import Derived.ProofKit
import Derived.OpenShut
import Derived.ChangeMaps5
import Derived.Lib.SmallJoins
import Derived.Laws.Cover2
import Derived.Laws.IdiomArrays
import Derived.Deep.Slices
set_option linter.unusedSimpArgs false
set_option linter.unusedVariables false
namespace Go.Proofs.Ytmkjjcogheidmaa
open Go.ChangeShapes Go.WideShapes Go.ChangeAt Go.RowKit Go.Joins Go.Deep

theorem own : ownKnob Try.prog.godebug = none := by kernel_rfl
theorem laid_out : laidOutB Try.prog = true := by kernel_rfl
section
variable {H : Type} {enc : TypeId × Value → H} {P : Program}
/-- The row's last step where of the world behind the call 'Below' alone is known. -/
theorem post_of_below {f : Func} {s : ChangeSpec} {apart fresh handsOn again : Bool} {W W' : World} {args : Array Value} {v : Value} {ds gs : List (DataW H)} {before pa pv : List MemPlace}
    (hW : DataW.Whole enc P f.params.toList s.vars apart W args.toList ds gs before)
    (hres : ∀ (b : Nat) (sp : Nat → Bool) (hd : Bool), DataW.TrodAll enc P W' b sp hd f.resultTypes.toList (v.resultList f.resultTypes.size) (s.fn H (ds ++ gs)).results [])
    (hargs : ∀ sp : Nat → Bool, (∀ p ∈ before, sp p.block = true) → DataW.TrodAll enc P W' 0 sp true f.params.toList args.toList (s.fn H (ds ++ gs)).args pa)
    (hvars : ∀ sp : Nat → Bool, (∀ p ∈ before, sp p.block = true) → DataW.TrodVars enc P W' sp s.vars (s.fn H (ds ++ gs)).vars pv)
    (hps : before = pa ++ pv) (hb : Below W.heap.size W W')
    (hok : ∀ (j : Nat) (t : TypeId) (r : Value), f.resultTypes[j]? = some t → (v.resultList f.resultTypes.size)[j]? = some r → Value.okWide P W' .any 0 t r) :
    s.post enc P f apart fresh handsOn again W args v W' := by
  have hlt : ∀ p ∈ before, p.block < W.heap.size := fun p hp => hW.lt p hp
  have hold : ∀ p ∈ before, (fun b => decide (b < W.heap.size)) p.block = true := fun p hp => by simpa using hlt p hp
  refine ⟨ds, gs, before, [], pa, pv, hW, hres _ _ _, hargs _ hold, hvars _ hold, World.keptBut_mono (fun p hp => ⟨hp, ?_⟩) (hb.frame (· ∈ before)), fun _ => ?_⟩
  · rw [hps, List.mem_append] at hp
    exact Or.inr hp
  · obtain ⟨_, _, _, _, _, hz, hn⟩ := hW
    refine ⟨hok, _, _, ([] ++ pa) ++ pv, ⟨[] ++ pa, pv, trodAll_append (hargs _ (fun _ _ => rfl)) (hres _ _ _), hvars _ (fun _ _ => rfl), rfl, ?_, ?_⟩, ?_⟩
    · intro b off hp
      have hin : MemPlace.cell b off ∈ before := by rw [hps]; simpa using hp
      rw [hb.frozen (hlt _ hin)]
      exact hz b off hin
    · intro ha
      have := hn ha
      rw [hps] at this
      simpa using this
    · intro p hp _
      rw [hps]
      simpa using hp
end
section
variable {H : Type} {enc : TypeId × Value → H} {P : Program} {w : World} {base : Nat} {sp : Nat → Bool} {held : Bool}
theorem byte_is {e : TypeId} {c : Value} {n : Nat} {y : DataW H × List MemPlace} (he : P.underlying e = some (.int .u8)) (h : DataW.trod enc P w base sp held n e [c] = some y) : ∃ b : Nat, c = .int .u8 (b : Int) ∧ b < 256 := by
  obtain ⟨m, hm, _, hw⟩ := DataW.trod_int he h
  have hc : c = .int .u8 m := by simpa using hm
  obtain ⟨k0, k1⟩ := bounds_u8 hw
  refine ⟨m.toNat, ?_, by omega⟩
  rw [hc, Int.toNat_of_nonneg k0]
theorem okWide_array {r : Reach} {b0 : Nat} {t e : TypeId} {v : Value} {k : Nat} (ht : P.underlying t = some (.array k e)) (h : Value.okWide P w r b0 t v) : ∃ cs, v = .agg cs ∧ cs.size = P.cellsOf t := by
  simp only [Value.okWide, ht] at h
  obtain ⟨cs, h1, h2, _⟩ := h
  exact ⟨cs, h1, h2⟩
theorem rows_exist {α : Type} : ∀ (n : Nat) (f : Nat → α → Prop), (∀ i, i < n → ∃ b, f i b) → ∃ l : List α, l.length = n ∧ ∀ i b, l[i]? = some b → f i b
  | 0, f, h => ⟨[], rfl, fun i b hi => by simp at hi⟩
  | n + 1, f, h => by
    obtain ⟨b0, h0⟩ := h 0 (by omega)
    obtain ⟨l, hl, hr⟩ := rows_exist n (fun i => f (i + 1)) (fun i hi => h (i + 1) (by omega))
    refine ⟨b0 :: l, by simp [hl], fun i b hi => ?_⟩
    cases i with
    | zero => simp at hi; subst hi; exact h0
    | succ j => exact hr j b (by simpa using hi)
theorem int_is {e : TypeId} {c : Value} {n : Nat} {y : DataW H × List MemPlace} (he : P.underlying e = some (.int .i64)) (h : DataW.trod enc P w base sp held n e [c] = some y) : ∃ m : Int, c = .int .i64 m ∧ -9223372036854775808 ≤ m ∧ m ≤ 9223372036854775807 := by
  obtain ⟨m, hm, _, hw⟩ := DataW.trod_int he h
  have hc : c = .int .i64 m := by simpa using hm
  obtain ⟨k0, k1⟩ := bounds_i64 hw
  exact ⟨m, hc, k0, by omega⟩
/-- A row of things of k cells each, out of its reading. -/
theorem row_in {α : Type} {t e : TypeId} {k : Nat} {n : Nat} {v : Value} {y : DataW H × List MemPlace} (R : α → List Value → Prop) (ht : P.underlying t = some (.slice e)) (hk : P.cellsOf e = k) (hk0 : 0 < k)
    (hR : ∀ (m : Nat) (cs : List Value) (z : DataW H × List MemPlace), DataW.trod enc P w base sp held m e cs = some z → cs.length = k → ∃ x, R x cs)
    (h : DataW.trod enc P w base sp held n t [v] = some y) :
    ∃ (A : Option Addr) (len cap : Nat) (l : List α), v = .slice A len cap ∧ len ≤ cap ∧ len ≤ 9223372036854775807 ∧ l.length = len ∧ (0 < len → ∃ b off, A = some ⟨b, off, none⟩ ∧ ∀ i x, l[i]? = some x → ∃ cs, cs.length = k ∧ R x cs ∧ ∀ j u, cs[j]? = some u → w.cell? ⟨b, off + i * k + j, none⟩ = some u) := by
  rcases open_slice ht h with ⟨hcs, _⟩ | ⟨a, len, cap, m, n', D, Pl, hcs, hb, hl, hm, hmm, _, hi⟩
  · exact ⟨none, 0, 0, [], by simpa using hcs, Nat.le_refl _, Nat.zero_le _, rfl, fun h => absurd h (Nat.lt_irrefl _)⟩
  · have hv : v = .slice (some a) len cap := by simpa using hcs
    have hlm : len ≤ m := by rw [hmm]; split <;> omega
    obtain ⟨l, hl2, hr⟩ := rows_exist len (fun i (x : α) => ∃ cs : List Value, cs.length = k ∧ R x cs ∧ ∀ j u, cs[j]? = some u → w.cell? ((a.add (i * k)).add j) = some u) (fun i hil => by
      obtain ⟨cs, hc, hd⟩ := hi i (by omega)
      rw [hk] at hc
      obtain ⟨_, hcl, hat⟩ := World.cells?_some hc
      obtain ⟨x, hx⟩ := hR _ _ _ hd hcl
      refine ⟨x, cs, hcl, hx, fun j u hu => ?_⟩
      have hj : j < k := by rw [← hcl]; exact (List.getElem?_eq_some_iff.1 hu).1
      rw [hat j hj, hu])
    refine ⟨some a, len, cap, l, hv, hl, by unfold maxLen at hm; omega, hl2, fun h0 => ?_⟩
    obtain ⟨cs0, hk1, _, hc0⟩ := hr 0 _ (List.getElem?_eq_getElem (by omega))
    have h0c := hc0 0 _ (List.getElem?_eq_getElem (by omega))
    obtain ⟨b, off, spot⟩ := a
    have hspot : spot = none := by
      have := World.cell?_spot h0c
      simpa [Addr.add] using this
    subst hspot
    refine ⟨b, off, rfl, fun i x hx => ?_⟩
    obtain ⟨cs, h1, h2, h3⟩ := hr i x hx
    refine ⟨cs, h1, h2, fun j u hu => ?_⟩
    have := h3 j u hu
    have e : ((⟨b, off, none⟩ : Addr).add (i * k)).add j = ⟨b, off + i * k + j, none⟩ := by unfold Addr.add; split <;> split <;> simp_all [Nat.add_assoc]
    rwa [e] at this
end
section
variable {H : Type} {enc : TypeId × Value → H} {w : World} {base : Nat} {sp : Nat → Bool} {held : Bool}
theorem bytes_in {n : Nat} {v : Value} {y : DataW H × List MemPlace} (h : DataW.trod enc Try.prog w base sp held n 34 [v] = some y) : ∃ l, ByOut w v l ∧ Bytes l ∧ l.length ≤ 9223372036854775807 := by
  obtain ⟨A, len, cap, l, rfl, hc, hl, hll, hx⟩ := row_in (α := Nat) (fun x cs => x < 256 ∧ cs = [.int .u8 (x : Int)]) Try.underlying34 (k := 1) (by kernel_rfl) (by decide) (fun m cs z hz hk => by
    match cs, hk with
    | [c], _ =>
      obtain ⟨b, hb, hlt⟩ := byte_is Try.underlying5 hz
      exact ⟨b, hlt, by rw [hb]⟩) h
  have hby : Bytes l := fun b hb => by
    obtain ⟨i, hi⟩ := List.getElem?_of_mem hb
    have h0 : 0 < len := by have := (List.getElem?_eq_some_iff.1 hi).1; omega
    obtain ⟨_, _, _, hf⟩ := hx h0
    obtain ⟨_, _, ⟨hlt, _⟩, _⟩ := hf i b hi
    exact hlt
  refine ⟨l, ⟨A, cap, by rw [hll], by omega, fun hn => ?_⟩, hby, by omega⟩
  obtain ⟨b, off, hA, hf⟩ := hx (by rw [← hll]; exact List.length_pos_iff.2 hn)
  refine ⟨b, off, hA, fun i y hi => ?_⟩
  obtain ⟨cs, _, ⟨_, rfl⟩, hcell⟩ := hf i y hi
  have := hcell 0 _ rfl
  simpa using this
theorem field_in {n : Nat} {t : TypeId} {fs : Array Field} {cs : List Value} {y : DataW H × List MemPlace} (ht : Try.prog.underlying t = some (.struct fs)) (h : DataW.trod enc Try.prog w base sp held n t cs = some y) (i : Nat) (f : Field) (hf : fs[i]? = some f) (c : Value)
    (hk : Try.prog.cellsOf f.type = 1) (hc : (cs.drop f.offset).take 1 = [c]) : ∃ m z, DataW.trod enc Try.prog w base sp held m f.type [c] = some z := by
  obtain ⟨xs, m, _, _, _, hl, hg⟩ := DataW.trod_struct ht h
  have h1 := hg i f hf
  rw [hk, hc] at h1
  have hi : i < fs.size := (Array.getElem?_eq_some_iff.1 hf).1
  have hxs : xs[i]? = some (xs[i]'(by omega)) := List.getElem?_eq_getElem (by omega)
  exact ⟨m, _, h1.trans hxs⟩
/-- A row of steps, read. -/
theorem open_steps {v : Value} {d : DataW H} {ps : List MemPlace} (hd : DataW.Trod enc Try.prog w base sp held 22 v d ps) (hv : ∃ A l c, v = .slice A l c) :
    ∃ l, DW.StOut w v l ∧ (∀ s ∈ l, DW.StOk s) ∧ (∀ s ∈ l, s.data.length ≤ 9223372036854775807) ∧ l.length ≤ 9223372036854775807 := by
  obtain ⟨A0, l0, c0, rfl⟩ := hv
  obtain ⟨fuel, hf⟩ := hd
  have hcells : (Value.slice A0 l0 c0).cells.toList = [.slice A0 l0 c0] := rfl
  rw [hcells] at hf
  obtain ⟨A, len, cap, l, hvv, hc, hl, hll, hx⟩ := row_in (α := DW.PSt) (fun s cs => DW.StOk s ∧ s.data.length ≤ 9223372036854775807 ∧ ∃ u, cs = [.int .u8 (s.kind : Nat), .int .u8 (s.name : Nat), .int .u8 (s.to : Nat), u] ∧ ByOut w u s.data) Try.underlying22 (k := 4) (by kernel_rfl) (by decide) (fun m cs z hz hk => by
    match cs, hk with
    | [c0, c1, c2, c3], _ =>
      obtain ⟨_, _, g0⟩ := field_in Try.underlying36 hz 0 _ rfl c0 (by kernel_rfl) rfl
      obtain ⟨_, _, g1⟩ := field_in Try.underlying36 hz 1 _ rfl c1 (by kernel_rfl) rfl
      obtain ⟨_, _, g2⟩ := field_in Try.underlying36 hz 2 _ rfl c2 (by kernel_rfl) rfl
      obtain ⟨_, _, g3⟩ := field_in Try.underlying36 hz 3 _ rfl c3 (by kernel_rfl) rfl
      obtain ⟨x0, rfl, y0⟩ := byte_is Try.underlying5 g0
      obtain ⟨x1, rfl, y1⟩ := byte_is Try.underlying5 g1
      obtain ⟨x2, rfl, y2⟩ := byte_is Try.underlying5 g2
      obtain ⟨dl, hb1, hb2, hb3⟩ := bytes_in g3
      exact ⟨⟨x0, x1, x2, dl⟩, ⟨y0, y1, y2, hb2⟩, hb3, c3, rfl, hb1⟩) hf
  injection hvv with e1 e2 e3
  subst e1 e2 e3
  have hall : ∀ s ∈ l, DW.StOk s ∧ s.data.length ≤ 9223372036854775807 := fun s hs => by
    obtain ⟨i, hi⟩ := List.getElem?_of_mem hs
    have h0 : 0 < l0 := by have := (List.getElem?_eq_some_iff.1 hi).1; omega
    obtain ⟨_, _, _, hf⟩ := hx h0
    obtain ⟨_, _, ⟨h1, h2, _⟩, _⟩ := hf i s hi
    exact ⟨h1, h2⟩
  refine ⟨l, ⟨A0, c0, by rw [hll], by omega, fun hn => ?_⟩, fun s hs => (hall s hs).1, fun s hs => (hall s hs).2, by omega⟩
  obtain ⟨b, off, hA, hf⟩ := hx (by omega)
  refine ⟨b, off, hA, trivial, fun k hk => ?_⟩
  have hi := List.getElem?_eq_getElem hk
  obtain ⟨cs, _, ⟨_, _, u, rfl, hu⟩, hcell⟩ := hf k _ hi
  exact ⟨_, hi, hcell 0 _ rfl, hcell 1 _ rfl, hcell 2 _ rfl, u, hcell 3 _ rfl, hu⟩
/-- A row of keeps, read. -/
theorem open_keeps {v : Value} {d : DataW H} {ps : List MemPlace} (hd : DataW.Trod enc Try.prog w base sp held 41 v d ps) (hv : ∃ A l c, v = .slice A l c) :
    ∃ l, KsOut w v l ∧ ∀ k ∈ l, (-9223372036854775808 ≤ k.1 ∧ k.1 ≤ 9223372036854775807) ∧ -9223372036854775808 ≤ k.2 ∧ k.2 ≤ 9223372036854775807 := by
  obtain ⟨A0, l0, c0, rfl⟩ := hv
  obtain ⟨fuel, hf⟩ := hd
  have hcells : (Value.slice A0 l0 c0).cells.toList = [.slice A0 l0 c0] := rfl
  rw [hcells] at hf
  obtain ⟨A, len, cap, l, hvv, hc, hl, hll, hx⟩ := row_in (α := Int × Int) (fun k cs => ((-9223372036854775808 ≤ k.1 ∧ k.1 ≤ 9223372036854775807) ∧ -9223372036854775808 ≤ k.2 ∧ k.2 ≤ 9223372036854775807) ∧ cs = [.int .i64 k.1, .int .i64 k.2]) Try.underlying41 (k := 2) (by kernel_rfl) (by decide) (fun m cs z hz hk => by
    match cs, hk with
    | [c0, c1], _ =>
      obtain ⟨_, _, g0⟩ := field_in Try.underlying61 hz 0 _ rfl c0 (by kernel_rfl) rfl
      obtain ⟨_, _, g1⟩ := field_in Try.underlying61 hz 1 _ rfl c1 (by kernel_rfl) rfl
      obtain ⟨x0, rfl, y0⟩ := int_is Try.underlying3 g0
      obtain ⟨x1, rfl, y1⟩ := int_is Try.underlying3 g1
      exact ⟨(x0, x1), ⟨y0, y1⟩, rfl⟩) hf
  injection hvv with e1 e2 e3
  subst e1 e2 e3
  refine ⟨l, ⟨A0, c0, by rw [hll], by omega, fun hn => ?_⟩, fun s hs => ?_⟩
  · obtain ⟨b, off, hA, hf⟩ := hx (by omega)
    refine ⟨b, off, hA, trivial, fun k hk => ?_⟩
    have hi := List.getElem?_eq_getElem hk
    obtain ⟨cs, _, ⟨_, rfl⟩, hcell⟩ := hf k _ hi
    exact ⟨_, hi, hcell 0 _ rfl, hcell 1 _ rfl⟩
  · obtain ⟨i, hi⟩ := List.getElem?_of_mem hs
    have h0 : 0 < l0 := by have := (List.getElem?_eq_some_iff.1 hi).1; omega
    obtain ⟨_, _, _, hf⟩ := hx h0
    obtain ⟨_, _, ⟨h1, _⟩, _⟩ := hf i s hi
    exact h1
theorem trod_two {P : Program} {t e : TypeId} {fuel : Nat} {c0 c1 : Value} {x : DataW H × List MemPlace} (ht : P.underlying t = some (.array 2 e)) (hce : P.cellsOf e = 1) (h : DataW.trod enc P w base sp held fuel t [c0, c1] = some x) :
    ∃ y0 y1 n, DataW.trod enc P w base sp held n e [c0] = some y0 ∧ DataW.trod enc P w base sp held n e [c1] = some y1 := by
  cases fuel with
  | zero => simp [DataW.trod] at h
  | succ n =>
    unfold DataW.trod at h
    rw [ht] at h
    have r2 : List.range 2 = [0, 1] := rfl
    simp [r2, hce] at h
    obtain ⟨_, h⟩ := h
    cases h0 : DataW.trod enc P w base sp held n e [c0] with
    | none => simp [h0] at h
    | some y0 =>
      cases h1 : DataW.trod enc P w base sp held n e [c1] with
      | none => simp [h0, h1] at h
      | some y1 => exact ⟨y0, y1, n, h0, h1⟩
/-- Two rows of bytes in an array, read. -/
theorem open_two {r : Reach} {b0 : Nat} {v : Value} {d : DataW H} {ps : List MemPlace} (hval : Value.okWide Try.prog w r b0 49 v) (hd : DataW.Trod enc Try.prog w base sp held 49 v d ps) :
    ∃ u1 u2 a b, v = .agg #[u1, u2] ∧ ByOut w u1 a ∧ Bytes a ∧ ByOut w u2 b ∧ Bytes b := by
  obtain ⟨cs, rfl, hsz⟩ := okWide_array Try.underlying49 hval
  have h2 : Try.prog.cellsOf 49 = 2 := by kernel_rfl
  obtain ⟨l⟩ := cs
  match l, hsz.trans h2 with
  | [c0, c1], _ =>
    obtain ⟨fuel, hf⟩ := hd
    obtain ⟨_, _, n, g0, g1⟩ := trod_two Try.underlying49 (by kernel_rfl) hf
    obtain ⟨a, ha, hab, _⟩ := bytes_in g0
    obtain ⟨b, hb, hbb, _⟩ := bytes_in g1
    exact ⟨c0, c1, a, b, rfl, ha, hab, hb, hbb⟩
end
end Go.Proofs.Ytmkjjcogheidmaa
