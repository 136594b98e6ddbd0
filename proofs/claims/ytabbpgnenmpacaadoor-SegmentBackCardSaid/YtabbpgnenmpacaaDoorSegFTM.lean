/-
  What the last step of each statement of layer 8 wants: how bytes, records and rows of records read, and how a walk that leaves all as it was pays the row.
-/
import Derived.Test.YtabbpgnenmpacaaDoorSegWBM
import Derived.WalkKit
import Derived.ProofKit
import Derived.OpenShut
import Derived.ChangeMaps5
import Derived.Lib.SmallJoins
import Derived.Laws.Cover2
import Derived.Laws.IdiomArrays
import Derived.Deep.Slices
import Derived.SizedLaws
import Derived.Carry
import Derived.Maps.StringElems
import Derived.Test.YtabbpgnenmpacaaDoorRows
import Derived.Test.YtabbpgnenmpacaaDoorTie
import Derived.Test.YtabbpgnenmpacaaDoorCards
import Derived.Test.YtabbpgnenmpacaaDoorCrcGM
import Derived.LaidMore
import Derived.Lay
import Derived.SevenTiedAt
import Derived.Stop.Joined
import Derived.HandedShaped
set_option linter.unusedSimpArgs false
set_option linter.unusedVariables false
namespace Go.Proofs.YtabbpgnenmpacaaDoor
open Go.ChangeShapes Go.WideShapes Go.ChangeAt Go.RowKit Go.Joins Go.Deep

theorem own : ownKnob Tryd.prog.godebug = none := by kernel_rfl
theorem laid_out : laidOutB Tryd.prog = true := by kernel_rfl
section
variable {H : Type} {enc : TypeId × Value → H} {P : Program}
/-- The row's last step where of the world behind the call 'Below' alone is known. -/
theorem post_of_below {f : Func} {s : ChangeSpec} {apart fresh handsOn again : Bool} {W W' : World} {args : Array Value} {v : Value} {ds gs : List (DataW H)} {before pa pv : List MemPlace}
    (hW : DataW.Whole enc P f.params.toList s.vars apart W args.toList ds gs before)
    (hres : ∀ (b : Nat) (sp : Nat → Bool) (hd : Bool), DataW.TrodAll enc P W' b sp hd f.resultTypes.toList (v.resultList f.resultTypes.size) (s.fn H (ds ++ gs)).results [])
    (hargs : ∀ sp : Nat → Bool, (∀ p ∈ before, sp p.block = true) → DataW.TrodAll enc P W' 0 sp true f.params.toList args.toList (s.fn H (ds ++ gs)).args pa)
    (hvars : ∀ sp : Nat → Bool, (∀ p ∈ before, sp p.block = true) → DataW.TrodVars enc P W' sp s.vars (s.fn H (ds ++ gs)).vars pv)
    (hps : before = pa ++ pv) (hb : Below W.heap.size W W')
    (hok : ∀ (j : Nat) (t : TypeId) (r : Value), f.resultTypes[j]? = some t → (v.resultList f.resultTypes.size)[j]? = some r → Value.okWide P W' .any 0 t r) :
    s.post enc P f apart fresh handsOn again W args v W' := by
  have hlt : ∀ p ∈ before, p.block < W.heap.size := fun p hp => hW.lt p hp
  have hold : ∀ p ∈ before, (fun b => decide (b < W.heap.size)) p.block = true := fun p hp => by simpa using hlt p hp
  refine ⟨ds, gs, before, [], pa, pv, hW, hres _ _ _, hargs _ hold, hvars _ hold, World.keptBut_mono (fun p hp => ⟨hp, ?_⟩) (hb.frame (· ∈ before)), fun _ => ?_⟩
  · rw [hps, List.mem_append] at hp
    exact Or.inr hp
  · obtain ⟨_, _, _, _, _, hz, hn⟩ := hW
    refine ⟨hok, _, _, ([] ++ pa) ++ pv, ⟨[] ++ pa, pv, trodAll_append (hargs _ (fun _ _ => rfl)) (hres _ _ _), hvars _ (fun _ _ => rfl), rfl, ?_, ?_⟩, ?_⟩
    · intro b off hp
      have hin : MemPlace.cell b off ∈ before := by rw [hps]; simpa using hp
      rw [hb.frozen (hlt _ hin)]
      exact hz b off hin
    · intro ha
      have := hn ha
      rw [hps] at this
      simpa using this
    · intro p hp _
      rw [hps]
      simpa using hp
end
section
variable {H : Type} {enc : TypeId × Value → H} {P : Program} {w : World} {base : Nat} {sp : Nat → Bool} {held : Bool}
theorem byte_is {e : TypeId} {c : Value} {n : Nat} {y : DataW H × List MemPlace} (he : P.underlying e = some (.int .u8)) (h : DataW.trod enc P w base sp held n e [c] = some y) : ∃ b : Nat, c = .int .u8 (b : Int) ∧ b < 256 := by
  obtain ⟨m, hm, _, hw⟩ := DataW.trod_int he h
  have hc : c = .int .u8 m := by simpa using hm
  obtain ⟨k0, k1⟩ := bounds_u8 hw
  refine ⟨m.toNat, ?_, by omega⟩
  rw [hc, Int.toNat_of_nonneg k0]
theorem okWide_array {r : Reach} {b0 : Nat} {t e : TypeId} {v : Value} {k : Nat} (ht : P.underlying t = some (.array k e)) (h : Value.okWide P w r b0 t v) : ∃ cs, v = .agg cs ∧ cs.size = P.cellsOf t := by
  simp only [Value.okWide, ht] at h
  obtain ⟨cs, h1, h2, _⟩ := h
  exact ⟨cs, h1, h2⟩
theorem rows_exist {α : Type} : ∀ (n : Nat) (f : Nat → α → Prop), (∀ i, i < n → ∃ b, f i b) → ∃ l : List α, l.length = n ∧ ∀ i b, l[i]? = some b → f i b
  | 0, f, h => ⟨[], rfl, fun i b hi => by simp at hi⟩
  | n + 1, f, h => by
    obtain ⟨b0, h0⟩ := h 0 (by omega)
    obtain ⟨l, hl, hr⟩ := rows_exist n (fun i => f (i + 1)) (fun i hi => h (i + 1) (by omega))
    refine ⟨b0 :: l, by simp [hl], fun i b hi => ?_⟩
    cases i with
    | zero => simp at hi; subst hi; exact h0
    | succ j => exact hr j b (by simpa using hi)
theorem int_is {e : TypeId} {c : Value} {n : Nat} {y : DataW H × List MemPlace} (he : P.underlying e = some (.int .i64)) (h : DataW.trod enc P w base sp held n e [c] = some y) : ∃ m : Int, c = .int .i64 m ∧ -9223372036854775808 ≤ m ∧ m ≤ 9223372036854775807 := by
  obtain ⟨m, hm, _, hw⟩ := DataW.trod_int he h
  have hc : c = .int .i64 m := by simpa using hm
  obtain ⟨k0, k1⟩ := bounds_i64 hw
  exact ⟨m, hc, k0, by omega⟩
/-- A row of things of k cells each, out of its reading. -/
theorem row_in {α : Type} {t e : TypeId} {k : Nat} {n : Nat} {v : Value} {y : DataW H × List MemPlace} (R : α → List Value → Prop) (ht : P.underlying t = some (.slice e)) (hk : P.cellsOf e = k) (hk0 : 0 < k)
    (hR : ∀ (m : Nat) (cs : List Value) (z : DataW H × List MemPlace), DataW.trod enc P w base sp held m e cs = some z → cs.length = k → ∃ x, R x cs)
    (h : DataW.trod enc P w base sp held n t [v] = some y) :
    ∃ (A : Option Addr) (len cap : Nat) (l : List α), v = .slice A len cap ∧ len ≤ cap ∧ len ≤ 9223372036854775807 ∧ l.length = len ∧ (0 < len → ∃ b off, A = some ⟨b, off, none⟩ ∧ ∀ i x, l[i]? = some x → ∃ cs, cs.length = k ∧ R x cs ∧ ∀ j u, cs[j]? = some u → w.cell? ⟨b, off + i * k + j, none⟩ = some u) := by
  rcases open_slice ht h with ⟨hcs, _⟩ | ⟨a, len, cap, m, n', D, Pl, hcs, hb, hl, hm, hmm, _, hi⟩
  · exact ⟨none, 0, 0, [], by simpa using hcs, Nat.le_refl _, Nat.zero_le _, rfl, fun h => absurd h (Nat.lt_irrefl _)⟩
  · have hv : v = .slice (some a) len cap := by simpa using hcs
    have hlm : len ≤ m := by rw [hmm]; split <;> omega
    obtain ⟨l, hl2, hr⟩ := rows_exist len (fun i (x : α) => ∃ cs : List Value, cs.length = k ∧ R x cs ∧ ∀ j u, cs[j]? = some u → w.cell? ((a.add (i * k)).add j) = some u) (fun i hil => by
      obtain ⟨cs, hc, hd⟩ := hi i (by omega)
      rw [hk] at hc
      obtain ⟨_, hcl, hat⟩ := World.cells?_some hc
      obtain ⟨x, hx⟩ := hR _ _ _ hd hcl
      refine ⟨x, cs, hcl, hx, fun j u hu => ?_⟩
      have hj : j < k := by rw [← hcl]; exact (List.getElem?_eq_some_iff.1 hu).1
      rw [hat j hj, hu])
    refine ⟨some a, len, cap, l, hv, hl, by unfold maxLen at hm; omega, hl2, fun h0 => ?_⟩
    obtain ⟨cs0, hk1, _, hc0⟩ := hr 0 _ (List.getElem?_eq_getElem (by omega))
    have h0c := hc0 0 _ (List.getElem?_eq_getElem (by omega))
    obtain ⟨b, off, spot⟩ := a
    have hspot : spot = none := by
      have := World.cell?_spot h0c
      simpa [Addr.add] using this
    subst hspot
    refine ⟨b, off, rfl, fun i x hx => ?_⟩
    obtain ⟨cs, h1, h2, h3⟩ := hr i x hx
    refine ⟨cs, h1, h2, fun j u hu => ?_⟩
    have := h3 j u hu
    have e : ((⟨b, off, none⟩ : Addr).add (i * k)).add j = ⟨b, off + i * k + j, none⟩ := by unfold Addr.add; split <;> split <;> simp_all [Nat.add_assoc]
    rwa [e] at this
theorem byte_cell {e : TypeId} {a : Addr} {n : Nat} {y : DataW H × List MemPlace} (he : P.underlying e = some (.int .u8)) (hc : P.cellsOf e = 1)
    (h : (w.cells? base a (P.cellsOf e)).bind (DataW.trod enc P w base sp held n e) = some y) : ∃ b : Nat, w.cell? a = some (.int .u8 (b : Int)) ∧ b < 256 := by
  rw [hc] at h
  simp only [Option.bind_eq_some_iff] at h
  obtain ⟨cs, h1, h2⟩ := h
  have e0 : a.add 0 = a := by simp [Addr.add]
  unfold World.cells? at h1
  split at h1
  · simp only [List.range_succ, List.range_zero, List.nil_append, List.mapM_cons, List.mapM_nil, e0] at h1
    cases hcc : w.cell? a with
    | none => simp [hcc] at h1
    | some c =>
      simp [hcc] at h1
      subst h1
      obtain ⟨b, rfl, hb⟩ := byte_is he h2
      exact ⟨b, rfl, hb⟩
  · cases h1
/-- Any bytes, read. -/
theorem open_bytes {r : Reach} {b0 : Nat} {t e : TypeId} {v : Value} {d : DataW H} {ps : List MemPlace} (ht : P.underlying t = some (.slice e)) (he : P.underlying e = some (.int .u8)) (hc : P.cellsOf e = 1)
    (hval : Value.okWide P w r b0 t v) (hd : DataW.Trod enc P w base sp held t v d ps) : ∃ l, ByOut w v l ∧ (∀ n ∈ l, n < 256) ∧ (l = [] ∨ ∃ el sr, d = .slice el sr ∧ l.length = el.length) := by
  obtain ⟨a0, len0, cap0, rfl⟩ := okWide_slice ht hval
  obtain ⟨fuel, hf⟩ := hd
  rcases DataW.trod_slice ht hf with ⟨hcs, _⟩ | ⟨a, len, cap, elems, rest, n, _, hcs, hd3, _, hl, _, hlen, hel, _⟩
  · simp [Value.cells] at hcs
    obtain ⟨rfl, rfl, rfl⟩ := hcs
    exact ⟨[], ⟨none, 0, rfl, Nat.le_refl _, fun h => absurd rfl h⟩, fun n hn => (by cases hn), .inl rfl⟩
  · simp [Value.cells] at hcs
    obtain ⟨rfl, rfl, rfl⟩ := hcs
    obtain ⟨l, hl2, hr⟩ := rows_exist len0 (fun i (b : Nat) => w.cell? (a.add i) = some (.int .u8 (b : Int)) ∧ b < 256) (fun i hi => by
      have hE := hel i hi
      rw [List.getElem?_eq_getElem (by omega)] at hE
      have := byte_cell he hc hE
      rw [hc, Nat.mul_one] at this
      exact this)
    refine ⟨l, ⟨some a, cap0, by rw [hl2], by omega, fun hn => ?_⟩, fun n hn => ?_, .inr ⟨_, _, congrArg (·.1) hd3, by rw [hl2, List.length_map]; omega⟩⟩
    · have h0 : 0 < l.length := List.length_pos_iff.2 hn
      have c0 := (hr 0 _ (List.getElem?_eq_getElem h0)).1
      obtain ⟨b, off, spot⟩ := a
      have hspot : spot = none := by simpa [Addr.add] using World.cell?_spot c0
      subst hspot
      refine ⟨b, off, rfl, fun i n hi => ?_⟩
      have := (hr i n hi).1
      have e : (⟨b, off, none⟩ : Addr).add i = ⟨b, off + i, none⟩ := by unfold Addr.add; split <;> simp_all
      rwa [e] at this
    · obtain ⟨i, hi⟩ := List.getElem?_of_mem hn
      exact (hr i n hi).2
end
section
variable {H : Type} {enc : TypeId × Value → H} {w : World} {base : Nat} {sp : Nat → Bool} {held : Bool}
theorem bytes_in {n : Nat} {v : Value} {y : DataW H × List MemPlace} (h : DataW.trod enc Tryd.prog w base sp held n 27 [v] = some y) : ∃ l, ByOut w v l ∧ Bytes l ∧ l.length ≤ 9223372036854775807 := by
  obtain ⟨A, len, cap, l, rfl, hc, hl, hll, hx⟩ := row_in (α := Nat) (fun x cs => x < 256 ∧ cs = [.int .u8 (x : Int)]) Tryd.underlying27 (k := 1) (by kernel_rfl) (by decide) (fun m cs z hz hk => by
    match cs, hk with
    | [c], _ =>
      obtain ⟨b, hb, hlt⟩ := byte_is Tryd.underlying5 hz
      exact ⟨b, hlt, by rw [hb]⟩) h
  have hby : Bytes l := fun b hb => by
    obtain ⟨i, hi⟩ := List.getElem?_of_mem hb
    have h0 : 0 < len := by have := (List.getElem?_eq_some_iff.1 hi).1; omega
    obtain ⟨_, _, _, hf⟩ := hx h0
    obtain ⟨_, _, ⟨hlt, _⟩, _⟩ := hf i b hi
    exact hlt
  refine ⟨l, ⟨A, cap, by rw [hll], by omega, fun hn => ?_⟩, hby, by omega⟩
  obtain ⟨b, off, hA, hf⟩ := hx (by rw [← hll]; exact List.length_pos_iff.2 hn)
  refine ⟨b, off, hA, fun i y hi => ?_⟩
  obtain ⟨cs, _, ⟨_, rfl⟩, hcell⟩ := hf i y hi
  have := hcell 0 _ rfl
  simpa using this
theorem field_in {n : Nat} {t : TypeId} {fs : Array Field} {cs : List Value} {y : DataW H × List MemPlace} (ht : Tryd.prog.underlying t = some (.struct fs)) (h : DataW.trod enc Tryd.prog w base sp held n t cs = some y) (i : Nat) (f : Field) (hf : fs[i]? = some f) (c : Value)
    (hk : Tryd.prog.cellsOf f.type = 1) (hc : (cs.drop f.offset).take 1 = [c]) : ∃ m z, DataW.trod enc Tryd.prog w base sp held m f.type [c] = some z := by
  obtain ⟨xs, m, _, _, _, hl, hg⟩ := DataW.trod_struct ht h
  have h1 := hg i f hf
  rw [hk, hc] at h1
  have hi : i < fs.size := (Array.getElem?_eq_some_iff.1 hf).1
  have hxs : xs[i]? = some (xs[i]'(by omega)) := List.getElem?_eq_getElem (by omega)
  exact ⟨m, _, h1.trans hxs⟩
theorem list_str (s : ByteArray) : ∃ p : List Nat, strB p = s ∧ Bytes p := by
  refine ⟨s.data.toList.map UInt8.toNat, ?_, fun x hx => ?_⟩
  · unfold strB
    rw [List.map_map]
    have e : (UInt8.ofNat ∘ UInt8.toNat : UInt8 → UInt8) = id := by
      funext x
      exact UInt8.ofNat_toNat
    rw [e, List.map_id]
  · obtain ⟨y, _, rfl⟩ := List.mem_map.1 hx
    exact y.toNat_lt
/-- A row of archives, read. -/
theorem rungs_in {n : Nat} {v : Value} {y : DataW H × List MemPlace} (h : DataW.trod enc Tryd.prog w base sp held n 22 [v] = some y) : ∃ l, RgOut w v l := by
  obtain ⟨A, len, cap, l, rfl, hc, hl, hll, hx⟩ := row_in (α := Int × Int) (fun g cs => cs = [.int .i64 g.1, .int .i64 g.2]) Tryd.underlying22 (k := 2) (by kernel_rfl) (by decide) (fun m cs z hz hk => by
    match cs, hk with
    | [c0, c1], _ =>
      obtain ⟨_, _, g0⟩ := field_in Tryd.underlying49 hz 0 _ rfl c0 (by kernel_rfl) rfl
      obtain ⟨_, _, g1⟩ := field_in Tryd.underlying49 hz 1 _ rfl c1 (by kernel_rfl) rfl
      obtain ⟨x0, rfl, _⟩ := int_is Tryd.underlying3 g0
      obtain ⟨x1, rfl, _⟩ := int_is Tryd.underlying3 g1
      exact ⟨(x0, x1), rfl⟩) h
  refine ⟨l, A, cap, by rw [hll], by omega, fun hn => ?_⟩
  obtain ⟨b, off, hA, hf⟩ := hx (by rw [← hll]; exact List.length_pos_iff.2 hn)
  refine ⟨b, off, hA, fun k g hk => ?_⟩
  obtain ⟨cs, _, rfl, hcell⟩ := hf k g hk
  exact ⟨by have := hcell 0 _ rfl; simpa using this, hcell 1 _ rfl⟩
/-- A record's cells, read. -/
theorem record_in {n : Nat} {c0 c1 c2 c3 c4 c5 c6 c7 c8 : Value} {y : DataW H × List MemPlace} (hz : DataW.trod enc Tryd.prog w base sp held n 24 [c0, c1, c2, c3, c4, c5, c6, c7, c8] = some y) :
    ∃ (r : PR) (u : Value), [c0, c1, c2, c3, c4, c5, c6, c7, c8] = rcC u r ∧ RgOut w u r.rungs ∧ Bytes r.path ∧ vOk r := by
  obtain ⟨_, _, g0⟩ := field_in Tryd.underlying24 hz 0 _ rfl c0 (by kernel_rfl) rfl
  obtain ⟨_, _, g1⟩ := field_in Tryd.underlying24 hz 1 _ rfl c1 (by kernel_rfl) rfl
  obtain ⟨_, _, g2⟩ := field_in Tryd.underlying24 hz 2 _ rfl c2 (by kernel_rfl) rfl
  obtain ⟨_, _, g3⟩ := field_in Tryd.underlying24 hz 3 _ rfl c3 (by kernel_rfl) rfl
  obtain ⟨_, _, g4⟩ := field_in Tryd.underlying24 hz 4 _ rfl c4 (by kernel_rfl) rfl
  obtain ⟨_, _, g5⟩ := field_in Tryd.underlying24 hz 5 _ rfl c5 (by kernel_rfl) rfl
  obtain ⟨_, _, g6⟩ := field_in Tryd.underlying24 hz 6 _ rfl c6 (by kernel_rfl) rfl
  obtain ⟨_, _, g7⟩ := field_in Tryd.underlying24 hz 7 _ rfl c7 (by kernel_rfl) rfl
  obtain ⟨_, _, g8⟩ := field_in Tryd.underlying24 hz 8 _ rfl c8 (by kernel_rfl) rfl
  obtain ⟨x0, rfl, _⟩ := int_is Tryd.underlying3 g0
  obtain ⟨s, hs, _, _⟩ := DataW.trod_string Tryd.underlying9 g1
  obtain rfl : c1 = .string s := by simpa using hs
  obtain ⟨x2, rfl, _⟩ := int_is Tryd.underlying3 g2
  obtain ⟨x3, rfl, _⟩ := int_is Tryd.underlying2 g3
  obtain ⟨l, hl⟩ := rungs_in g4
  obtain ⟨x5, rfl, _⟩ := int_is Tryd.underlying3 g5
  obtain ⟨x6, rfl, _⟩ := int_is Tryd.underlying3 g6
  obtain ⟨x7, rfl, _⟩ := int_is Tryd.underlying3 g7
  obtain ⟨x8, rfl, y8⟩ := int_is Tryd.underlying2 g8
  obtain ⟨p, rfl, hp⟩ := list_str s
  exact ⟨⟨x0, p, x2, x3, l, x5, x6, x7, x8⟩, c4, rfl, hl, hp, y8⟩
/-- A record, read. -/
theorem open_record {r : Reach} {b0 : Nat} {v : Value} {d : DataW H} {ps : List MemPlace} (hval : Value.okWide Tryd.prog w r b0 24 v) (hd : DataW.Trod enc Tryd.prog w base sp held 24 v d ps) :
    ∃ r, RcOut w v r ∧ Bytes r.path ∧ vOk r := by
  obtain ⟨cs, rfl, hsz⟩ := okWide_struct Tryd.underlying24 hval
  have h2 : Tryd.prog.cellsOf 24 = 9 := by kernel_rfl
  obtain ⟨l⟩ := cs
  match l, hsz.trans h2 with
  | [c0, c1, c2, c3, c4, c5, c6, c7, c8], _ =>
    obtain ⟨fuel, hf⟩ := hd
    obtain ⟨r, u, he, hu, hp, hv⟩ := record_in hf
    exact ⟨r, ⟨u, by rw [← he], hu⟩, hp, hv⟩
/-- How long a row of bytes is that came in. -/
theorem bytes_len {ts : List TypeId} {ds : List (DataW H)} {d : DataW H} {l : List Nat} {j : Nat} (h : (DataW.weightsEach Tryd.prog ts ds).all (· ≤ reachBytes) = true) (ht : ts[j]? = some 27) (hd : ds[j]? = some d)
    (hl : l = [] ∨ ∃ el sr, d = .slice el sr ∧ l.length = el.length) : l.length ≤ 140737488351232 := by
  rcases hl with rfl | ⟨el, sr, rfl, he⟩
  · exact Nat.zero_le _
  · have h1 := sized_slice h ht hd Tryd.underlying27
    have h2 : Tryd.prog.bytesOf 5 = 1 := by kernel_rfl
    have h3 : reachBytes = 140737488351232 := by decide
    rw [h2, h3] at h1
    omega
end
end Go.Proofs.YtabbpgnenmpacaaDoor
/-
  What the last step of the tied statements of layer 8 wants: the row's premise and the world's shape are handed to the walk.
-/
set_option linter.unusedSimpArgs false
set_option linter.unusedVariables false
namespace Go.Proofs.YtabbpgnenmpacaaDoor
open Go.ChangeShapes Go.WideShapes Go.ChangeAt Go.RowKit Go.Joins Go.Deep
/-! ### A row that lists variables: its premise and the world's shape are handed to the walk -/
theorem returns_laid {H : Type} {enc : TypeId × Value → H} {a : Assume} {C : Checked} {os : Os} {f : FuncId} {fn : Func} {s : ChangeSpec} {conds : List PathCond} {apart fresh handsOn again : Bool} {X : World → Array Value → Prop}
    (hX : ∀ (w w' : World) (args : Array Value), w.heap = w'.heap → X w args → X w' args)
    (own : ownKnob C.prog.godebug = none) (started : os.Started) (noInit : C.prog.inits.idxOf? f = none) (hfn : C.prog.funcs[f]? = some fn)
    (witness : ∃ (w : World) (tape : Tape) (i : Input), w.os = os ∧ (w.forCall tape i).Shaped C.prog ∧ i.vars = [] ∧ Input.okWide C.prog (w.forCall tape i) .any w.heap.size f i ∧
      ((s.pre enc C.prog fn conds apart (w.forCall tape i).memory i.args ∧ X (w.forCall tape i).memory i.args) ∧ sizedMet enc C.prog fn (OpenSpec.ofChange s) apart (w.forCall tape i).memory i.args) ∧ a.holds C.prog (lone (Frame.enter C.prog f i.args .normal) [] (w.forCall tape i)))
    (contract : ∀ (W : World) (base : Nat) (args : Array Value) (ds gs : List (DataW H)) (before : List MemPlace),
      (∀ (j : Nat) t v, fn.params[j]? = some t → args[j]? = some v → Value.okWide C.prog W .any base t v) →
      DataW.Whole enc C.prog fn.params.toList s.vars apart W args.toList ds gs before →
      X W args → W.ShapedOpen C.prog → (DataW.weightsEach C.prog (fn.params.toList ++ s.plain.varTypes C.prog) (ds ++ gs)).all (· ≤ reachBytes) = true →
      Calls C.prog f args W fun e W' => ∃ v, e = .returned v ∧ s.post enc C.prog fn apart fresh handsOn again W args v W') :
    ReturnsInHanded a C os f .any (fun w args => (s.pre enc C.prog fn conds apart w args ∧ X w args) ∧ sizedMet enc C.prog fn (OpenSpec.ofChange s) apart w args) (s.post enc C.prog fn apart fresh handsOn again) := by
  refine returnsInHanded_of_calls own started noInit witness ?_
  intro w tape i _ hsh _ hok hpre _
  obtain ⟨_, _, _, fn', hfn', _, _, _, _, hval⟩ := hok
  have e : fn' = fn := Option.some.inj (hfn'.symm.trans hfn)
  subst e
  obtain ⟨⟨⟨ds, gs, before, hw, _⟩, hx⟩, hz⟩ := hpre
  have hw' := DataW.Whole.of_heap (w' := w.forCall tape i) (by rfl) hw
  refine (contract (w.forCall tape i) w.heap.size i.args ds gs before hval hw' (hX _ _ _ (by rfl) hx) hsh (hz.weights hw)).mono fun e W' ⟨v, he, hp⟩ => ?_
  subst he
  exact ChangeSpec.post_blind hp

/-- What the rows list. -/
def laid : List (String × DataW Unit) := Rows.segmentPutsRow.laid
theorem g_tabType : (Tryd.prog.globals[0]?).map (·.type) = some 73 := by kernel_rfl
theorem g_of {W : World} (hL : laidMetH Tryd.prog laid W) : G W := by
  rw [MakeChecks.laidMetH_plain _ _ _ (by kernel_rfl)] at hL
  exact ⟨Lib.tabIs_of_head g_tab g_tabType Tryd.underlying73 Tryd.underlying69 (by kernel_rfl) (by kernel_rfl) hL⟩
end Go.Proofs.YtabbpgnenmpacaaDoor
