/-
  Rules, and a store, read.
-/
import Derived.Test.YtodlgbihdehmbaaGreatDoorRulFZ
set_option linter.unusedSimpArgs false
set_option linter.unusedVariables false
namespace Go.Proofs.YtodlgbihdehmbaaGreatDoor
open Go.ChangeShapes Go.WideShapes Go.ChangeAt Go.RowKit Go.Joins Go.Deep Cf
section
variable {H : Type} {enc : TypeId × Value → H} {w : World} {base : Nat} {sp : Nat → Bool} {held : Bool}
theorem field_inW {n : Nat} {t : TypeId} {fs : Array Field} {cs : List Value} {y : DataW H × List MemPlace} (ht : Tryz.prog.underlying t = some (.struct fs)) (h : DataW.trod enc Tryz.prog w base sp held n t cs = some y) (hL : Light Tryz.prog t y.1) (i : Nat) (f : Field) (hf : fs[i]? = some f) (c : Value)
    (hk : Tryz.prog.cellsOf f.type = 1) (hc : (cs.drop f.offset).take 1 = [c]) : ∃ m z, DataW.trod enc Tryz.prog w base sp held m f.type [c] = some z ∧ Light Tryz.prog f.type z.1 := by
  obtain ⟨xs, m, _, hy, _, hl, hg⟩ := DataW.trod_struct ht h
  have h1 := hg i f hf
  rw [hk, hc] at h1
  have hi : i < fs.size := (Array.getElem?_eq_some_iff.1 hf).1
  have hxs : xs[i]? = some (xs[i]'(by omega)) := List.getElem?_eq_getElem (by omega)
  refine ⟨m, _, h1.trans hxs, fun k hk2 => hL k ?_⟩
  rw [hy]
  unfold DataW.weights
  rw [ht]
  refine DataW.weights_mem_each (j := i) (t := f.type) (d := (xs[i]'(by omega)).1) ?_ ?_ k hk2
  · rw [List.getElem?_map, Array.getElem?_toList, hf]; rfl
  · rw [List.getElem?_map, hxs]; rfl
/-- A row of archives, read. -/
theorem rungs_inW {n : Nat} {v : Value} {y : DataW H × List MemPlace} (h : DataW.trod enc Tryz.prog w base sp held n 39 [v] = some y) (hL : Light Tryz.prog 39 y.1) : ∃ l, RgOut w v l ∧ l.length ≤ 140737488351232 := by
  obtain ⟨A, len, cap, l, rfl, hc, hl, hb, hll, hx⟩ := row_inW (α := Int × Int) (fun g cs => cs = [.int .i64 g.1, .int .i64 g.2]) Tryz.underlying39 (k := 2) (by kernel_rfl) (by decide) hL (fun m cs z hz hk hLz => by
    match cs, hk with
    | [c0, c1], _ =>
      obtain ⟨_, _, g0, _⟩ := field_inW Tryz.underlying49 hz hLz 0 _ rfl c0 (by kernel_rfl) rfl
      obtain ⟨_, _, g1, _⟩ := field_inW Tryz.underlying49 hz hLz 1 _ rfl c1 (by kernel_rfl) rfl
      obtain ⟨x0, rfl, _⟩ := int_is Tryz.underlying3 g0
      obtain ⟨x1, rfl, _⟩ := int_is Tryz.underlying3 g1
      exact ⟨(x0, x1), rfl⟩) h
  have h2 : Tryz.prog.bytesOf 49 = 16 := by kernel_rfl
  have h3 : reachBytes = 140737488351232 := by decide
  rw [h2, h3] at hb
  refine ⟨l, ⟨A, cap, by rw [hll], by omega, fun hn => ?_⟩, by omega⟩
  obtain ⟨b, off, hA, hf⟩ := hx (by rw [← hll]; exact List.length_pos_iff.2 hn)
  refine ⟨b, off, hA, fun k g hk => ?_⟩
  obtain ⟨cs, _, rfl, hcell⟩ := hf k g hk
  exact ⟨by have := hcell 0 _ rfl; simpa using this, hcell 1 _ rfl⟩
/-- A store, read. -/
def StIn (w : World) (s : Sto) (cs : List Value) : Prop := (Byt s.1 ∧ Byt s.2.1) ∧ StLong s ∧ ∃ u, cs = [.string (str s.1), .string (str s.2.1), u] ∧ RgOut w u s.2.2
theorem store_in {n : Nat} {c0 c1 c2 : Value} {y : DataW H × List MemPlace} (hz : DataW.trod enc Tryz.prog w base sp held n 47 [c0, c1, c2] = some y) (hL : Light Tryz.prog 47 y.1) : ∃ s : Sto, StIn w s [c0, c1, c2] := by
  obtain ⟨_, _, g0, _⟩ := field_inW Tryz.underlying47 hz hL 0 _ rfl c0 (by kernel_rfl) rfl
  obtain ⟨_, _, g1, _⟩ := field_inW Tryz.underlying47 hz hL 1 _ rfl c1 (by kernel_rfl) rfl
  obtain ⟨_, _, g2, l2⟩ := field_inW Tryz.underlying47 hz hL 2 _ rfl c2 (by kernel_rfl) rfl
  obtain ⟨a, ha, _, _⟩ := DataW.trod_string Tryz.underlying9 g0
  obtain ⟨b, hb, _, hbs⟩ := DataW.trod_string Tryz.underlying9 g1
  obtain ⟨l, hl, hll⟩ := rungs_inW g2 l2
  obtain rfl : c0 = .string a := by simpa using ha
  obtain rfl : c1 = .string b := by simpa using hb
  refine ⟨(bs a, bs b, l), ⟨bs_small a, bs_small b⟩, ⟨by simp only; rw [bs_length]; unfold maxLen at hbs; omega, hll⟩, c2, by simp only [str_bs], hl⟩
theorem stores_in {n : Nat} {v : Value} {y : DataW H × List MemPlace} (h : DataW.trod enc Tryz.prog w base sp held n 23 [v] = some y) (hL : Light Tryz.prog 23 y.1) : ∃ L, StOut w v L ∧ (∀ s ∈ L, StLong s) ∧ L.length ≤ 140737488351232 := by
  obtain ⟨A, len, cap, l, rfl, hc, hl, hb, hll, hx⟩ := row_inW (α := Sto) (StIn w) Tryz.underlying23 (k := 3) (by kernel_rfl) (by decide) hL (fun m cs z hz hk hLz => by
    match cs, hk with
    | [c0, c1, c2], _ => exact store_in hz hLz) h
  have h2 : Tryz.prog.bytesOf 47 = 56 := by kernel_rfl
  have h3 : reachBytes = 140737488351232 := by decide
  rw [h2, h3] at hb
  refine ⟨l, ⟨A, cap, by rw [hll], by omega, fun hn => ?_⟩, fun s hs => ?_, by omega⟩
  · obtain ⟨b, off, hA, hf⟩ := hx (by rw [← hll]; exact List.length_pos_iff.2 hn)
    refine ⟨b, off, hA, fun k s hk => ?_⟩
    obtain ⟨cs, _, ⟨hy, _, u, rfl, hu⟩, hcell⟩ := hf k s hk
    exact ⟨hy, u, by have := hcell 0 _ rfl; simpa using this, hcell 1 _ rfl, hcell 2 _ rfl, hu⟩
  · obtain ⟨i, hi⟩ := List.getElem?_of_mem hs
    have h0 : 0 < len := by have := (List.getElem?_eq_some_iff.1 hi).1; omega
    obtain ⟨_, _, _, hf⟩ := hx h0
    obtain ⟨_, _, ⟨_, h1, _⟩, _⟩ := hf i s hi
    exact h1
theorem folds_in {n : Nat} {v : Value} {y : DataW H × List MemPlace} (h : DataW.trod enc Tryz.prog w base sp held n 27 [v] = some y) (hL : Light Tryz.prog 27 y.1) : ∃ L, FoOut w v L ∧ (∀ f ∈ L, f.2.1.length ≤ 9223372036854775807) ∧ L.length ≤ 140737488351232 := by
  obtain ⟨A, len, cap, l, rfl, hc, hl, hb, hll, hx⟩ := row_inW (α := Fol) (fun f cs => (Byt f.1 ∧ Byt f.2.1) ∧ f.2.1.length ≤ 9223372036854775807 ∧ cs = [.string (str f.1), .string (str f.2.1), .int .i64 f.2.2.1, .int .i64 f.2.2.2]) Tryz.underlying27 (k := 4) (by kernel_rfl) (by decide) hL (fun m cs z hz hk hLz => by
    match cs, hk with
    | [c0, c1, c2, c3], _ =>
      obtain ⟨_, _, g0, _⟩ := field_inW Tryz.underlying74 hz hLz 0 _ rfl c0 (by kernel_rfl) rfl
      obtain ⟨_, _, g1, _⟩ := field_inW Tryz.underlying74 hz hLz 1 _ rfl c1 (by kernel_rfl) rfl
      obtain ⟨_, _, g2, _⟩ := field_inW Tryz.underlying74 hz hLz 2 _ rfl c2 (by kernel_rfl) rfl
      obtain ⟨_, _, g3, _⟩ := field_inW Tryz.underlying74 hz hLz 3 _ rfl c3 (by kernel_rfl) rfl
      obtain ⟨a, ha, _, _⟩ := DataW.trod_string Tryz.underlying9 g0
      obtain ⟨b, hb, _, hbs⟩ := DataW.trod_string Tryz.underlying9 g1
      obtain ⟨x2, rfl, _⟩ := int_is Tryz.underlying2 g2
      obtain ⟨x3, rfl, _⟩ := int_is Tryz.underlying3 g3
      obtain rfl : c0 = .string a := by simpa using ha
      obtain rfl : c1 = .string b := by simpa using hb
      exact ⟨(bs a, bs b, x2, x3), ⟨bs_small a, bs_small b⟩, by simp only; rw [bs_length]; unfold maxLen at hbs; omega, by simp only [str_bs]⟩) h
  have h2 : Tryz.prog.bytesOf 74 = 48 := by kernel_rfl
  have h3 : reachBytes = 140737488351232 := by decide
  rw [h2, h3] at hb
  refine ⟨l, ⟨A, cap, by rw [hll], by omega, fun hn => ?_⟩, fun s hs => ?_, by omega⟩
  · obtain ⟨b, off, hA, hf⟩ := hx (by rw [← hll]; exact List.length_pos_iff.2 hn)
    refine ⟨b, off, hA, fun k s hk => ?_⟩
    obtain ⟨cs, _, ⟨hy, _, rfl⟩, hcell⟩ := hf k s hk
    exact ⟨hy, by have := hcell 0 _ rfl; simpa using this, hcell 1 _ rfl, hcell 2 _ rfl, hcell 3 _ rfl⟩
  · obtain ⟨i, hi⟩ := List.getElem?_of_mem hs
    have h0 : 0 < len := by have := (List.getElem?_eq_some_iff.1 hi).1; omega
    obtain ⟨_, _, _, hf⟩ := hx h0
    obtain ⟨_, _, ⟨_, h1, _⟩, _⟩ := hf i s hi
    exact h1
set_option maxRecDepth 100000 in
theorem open_rules {r : Reach} {b0 : Nat} {v : Value} {d : DataW H} {ps : List MemPlace} (hval : Value.okWide Tryz.prog w r b0 37 v) (hd : DataW.Trod enc Tryz.prog w base sp held 37 v d ps) (hL : Light Tryz.prog 37 d) :
    ∃ vs vf ss fs, v = .agg #[vs, vf] ∧ StOut w vs ss ∧ FoOut w vf fs ∧ RuLong ss fs := by
  obtain ⟨cs, rfl, hsz⟩ := okWide_struct Tryz.underlying37 hval
  have h2 : Tryz.prog.cellsOf 37 = 2 := by kernel_rfl
  obtain ⟨l⟩ := cs
  match l, hsz.trans h2 with
  | [c0, c1], _ =>
    obtain ⟨fuel, hf⟩ := hd
    obtain ⟨_, _, g0, l0⟩ := field_inW Tryz.underlying37 hf hL 0 _ rfl c0 (by kernel_rfl) rfl
    obtain ⟨_, _, g1, l1⟩ := field_inW Tryz.underlying37 hf hL 1 _ rfl c1 (by kernel_rfl) rfl
    obtain ⟨ss, hs, h3, h4⟩ := stores_in g0 l0
    obtain ⟨fs, hf2, h5, h6⟩ := folds_in g1 l1
    exact ⟨c0, c1, ss, fs, rfl, hs, hf2, ⟨h3, h5, h4, h6⟩⟩
set_option maxRecDepth 100000 in
theorem open_store {r : Reach} {b0 : Nat} {v : Value} {d : DataW H} {ps : List MemPlace} (hval : Value.okWide Tryz.prog w r b0 47 v) (hd : DataW.Trod enc Tryz.prog w base sp held 47 v d ps) (hL : Light Tryz.prog 47 d) :
    ∃ s u, v = .agg #[.string (str s.1), .string (str s.2.1), u] ∧ (Byt s.1 ∧ Byt s.2.1) ∧ StLong s ∧ RgOut w u s.2.2 := by
  obtain ⟨cs, rfl, hsz⟩ := okWide_struct Tryz.underlying47 hval
  have h2 : Tryz.prog.cellsOf 47 = 3 := by kernel_rfl
  obtain ⟨l⟩ := cs
  match l, hsz.trans h2 with
  | [c0, c1, c2], _ =>
    obtain ⟨fuel, hf⟩ := hd
    obtain ⟨s, hy, hl, u, he, hu⟩ := store_in hf hL
    exact ⟨s, u, by rw [← he], hy, hl, hu⟩
end
end Go.Proofs.YtodlgbihdehmbaaGreatDoor
