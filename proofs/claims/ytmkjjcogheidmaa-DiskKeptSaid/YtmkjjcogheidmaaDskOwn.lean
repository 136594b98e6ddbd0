/-
  Rows of names, moves and files that a call has made itself, as rows of a disk.
-/
import Derived.Test.YtmkjjcogheidmaaDskRow
set_option linter.unusedSimpArgs false
set_option linter.unusedVariables false
namespace Go.Proofs.Ytmkjjcogheidmaa
open Go.RowKit
theorem flat_at {α : Type} (g : α → List Value) (k : Nat) (hg : ∀ a, (g a).length = k) : ∀ (l : List α) (i : Nat) (a : α), l[i]? = some a → ∀ j, j < k → (l.flatMap g)[i * k + j]? = (g a)[j]?
  | [], i, a, h, _, _ => by simp at h
  | x :: r, 0, a, h, j, hj => by
    have e : x = a := by simpa using h
    rw [List.flatMap_cons, Nat.zero_mul, Nat.zero_add, List.getElem?_append_left (by rw [hg]; exact hj), e]
  | x :: r, i + 1, a, h, j, hj => by
    have ih := flat_at g k hg r i a (by simpa using h) j hj
    rw [List.flatMap_cons, List.getElem?_append_right (by rw [hg, Nat.succ_mul]; omega), hg, ← ih]
    congr 1
    rw [Nat.succ_mul]
    omega
theorem flat_length {α : Type} (g : α → List Value) (k : Nat) (hg : ∀ a, (g a).length = k) (l : List α) : (l.flatMap g).length = l.length * k := by
  induction l with
  | nil => simp
  | cons x r ih => rw [List.flatMap_cons, List.length_append, hg, ih, List.length_cons, Nat.succ_mul]; omega
theorem own_sl {w : World} {base : Nat} {e : TypeId} {k n : Nat} {v : Value} {xs : List Value} {R : World → Nat → Nat → Nat → Prop} (h : w.ownsRow base e k v n xs)
    (hR : ∀ g, (∀ j u, xs[j]? = some u → w.cell? ⟨g, j, none⟩ = some u) → ∀ i, i < n → R w g (0 + i * k) i) : SlOut (fun g => base ≤ g) w v n k R := by
  rcases h.2 with ⟨rfl, h0⟩ | ⟨g, cap, cur, rfl, hb, hh, hle, _, _, ht⟩
  · exact ⟨none, 0, by rw [h0], by omega, fun hn => absurd hn (by omega)⟩
  · refine ⟨_, cap, rfl, hle, fun hn => ⟨g, 0, rfl, hb, hR g fun j u hu => ?_⟩⟩
    have hc := h.cells (g := g) (by rfl) j u hu
    have e2 : (⟨g, 0, none⟩ : Addr).add j = ⟨g, j, none⟩ := by unfold Addr.add; split <;> simp_all
    rwa [e2] at hc
def cN (n : PN) : List Value := [.string n.name, .int .i64 (n.id : Nat)]
def cM (m : PM) : List Value := [.int .i64 (m.kind : Nat), .string m.name, .string m.to, .int .i64 (m.id : Nat)]
theorem names_own {w : World} {base : Nat} {e : TypeId} {v : Value} {l : List PN} (h : w.ownsRow base e 2 v l.length (l.flatMap cN)) : NsOut (fun g => base ≤ g) w v l :=
  own_sl h fun g hg i hi => by
    have hx := List.getElem?_eq_getElem hi
    have f := flat_at cN 2 (fun _ => rfl) l i _ hx
    rw [Nat.zero_add]
    exact ⟨_, hx, hg _ _ (f 0 (by decide)), hg _ _ (f 1 (by decide))⟩
theorem moves_own {w : World} {base : Nat} {e : TypeId} {v : Value} {l : List PM} (h : w.ownsRow base e 4 v l.length (l.flatMap cM)) : MsOut (fun g => base ≤ g) w v l :=
  own_sl h fun g hg i hi => by
    have hx := List.getElem?_eq_getElem hi
    have f := flat_at cM 4 (fun _ => rfl) l i _ hx
    rw [Nat.zero_add]
    exact ⟨_, hx, hg _ _ (f 0 (by decide)), hg _ _ (f 1 (by decide)), hg _ _ (f 2 (by decide)), hg _ _ (f 3 (by decide))⟩
/-- Files with the values that their bytes lie in. -/
def cF (p : PF × Value) : List Value := [.int .i64 (p.1.id : Nat), p.2, .int .i64 (p.1.sure : Nat)]
theorem files_own {S : Nat → Prop} {w : World} {base : Nat} {e : TypeId} {v : Value} {l : List (PF × Value)} (h : w.ownsRow base e 3 v l.length (l.flatMap cF)) (hb : ∀ p ∈ l, ByS S w p.2 p.1.bytes) (hS : ∀ g, base ≤ g → S g) : FsOut S w v (l.map (·.1)) := by
  have h1 : SlOut (fun g => base ≤ g) w v l.length 3 (FAt S (l.map (·.1))) := own_sl h fun g hg i hi => by
    have hx := List.getElem?_eq_getElem hi
    have f := flat_at cF 3 (fun _ => rfl) l i _ hx
    rw [Nat.zero_add]
    exact ⟨l[i].1, by rw [List.getElem?_map, hx]; rfl, hg _ _ (f 0 (by decide)), ⟨l[i].2, hg _ _ (f 1 (by decide)), hb _ (List.getElem_mem hi)⟩, hg _ _ (f 2 (by decide))⟩
  unfold FsOut
  rw [List.length_map]
  exact h1.imp fun _ _ _ hs hr => ⟨hS _ hs, hr⟩
/-- A row of a disk's names, read, as an append's source. -/
theorem sl_reads {S : Nat → Prop} {w : World} {A : Option Addr} {n c k : Nat} {R : World → Nat → Nat → Nat → Prop} {xs : List Value} (h : SlOut S w (.slice A n c) n k R) (hk : 0 < k) (hx : xs.length = n * k)
    (hR : ∀ b o i, i < n → R w b o i → ∀ j u, j < k → xs[i * k + j]? = some u → w.cell? ⟨b, o + j, none⟩ = some u) : Reads w w.heap.size k A n xs := by
  obtain ⟨A', c', hv, _, hf⟩ := h
  injection hv with h1 _ _
  subst h1
  refine ⟨hx, fun hn => ?_⟩
  obtain ⟨b, off, rfl, _, hr⟩ := hf hn
  have hcell : ∀ j u, xs[j]? = some u → w.cell? ⟨b, off + j, none⟩ = some u := fun j u hu => by
    have hj : j < n * k := by rw [← hx]; exact (List.getElem?_eq_some_iff.1 hu).1
    have hd := Nat.div_add_mod j k
    have hq : j / k < n := by rw [Nat.div_lt_iff_lt_mul hk]; exact hj
    have := hR b (off + j / k * k) (j / k) hq (hr _ hq) (j % k) u (Nat.mod_lt _ hk) (by rw [Nat.mul_comm, hd]; exact hu)
    rw [show off + j / k * k + j % k = off + j from by rw [Nat.mul_comm, Nat.add_assoc, hd]] at this
    exact this
  have h0 : 0 < xs.length := by rw [hx]; exact Nat.mul_pos hn hk
  refine ⟨_, rfl, World.block_lt_of_cell? w _ (hcell 0 _ (List.getElem?_eq_getElem h0)), fun j u hu => ?_⟩
  have e2 : (⟨b, off, none⟩ : Addr).add j = ⟨b, off + j, none⟩ := by unfold Addr.add; split <;> simp_all
  rw [e2]
  exact hcell j u hu
theorem names_reads {S : Nat → Prop} {w : World} {A : Option Addr} {c : Nat} {l : List PN} (h : NsOut S w (.slice A l.length c) l) : Reads w w.heap.size 2 A l.length (l.flatMap cN) :=
  sl_reads h (by decide) (flat_length cN 2 (fun _ => rfl) l) fun b o i hi ⟨f, hf, h1, h2⟩ j u hj hu => by
    rw [flat_at cN 2 (fun _ => rfl) l i f hf j hj] at hu
    match j, hj with
    | 0, _ => obtain rfl : Value.string f.name = u := by simpa [cN] using hu
              exact h1
    | 1, _ => obtain rfl : Value.int .i64 (f.id : Nat) = u := by simpa [cN] using hu
              exact h2
theorem moves_reads {S : Nat → Prop} {w : World} {A : Option Addr} {c : Nat} {l : List PM} (h : MsOut S w (.slice A l.length c) l) : Reads w w.heap.size 4 A l.length (l.flatMap cM) :=
  sl_reads h (by decide) (flat_length cM 4 (fun _ => rfl) l) fun b o i hi ⟨f, hf, h1, h2, h3, h4⟩ j u hj hu => by
    rw [flat_at cM 4 (fun _ => rfl) l i f hf j hj] at hu
    match j, hj with
    | 0, _ => obtain rfl : Value.int .i64 (f.kind : Nat) = u := by simpa [cM] using hu
              exact h1
    | 1, _ => obtain rfl : Value.string f.name = u := by simpa [cM] using hu
              exact h2
    | 2, _ => obtain rfl : Value.string f.to = u := by simpa [cM] using hu
              exact h3
    | 3, _ => obtain rfl : Value.int .i64 (f.id : Nat) = u := by simpa [cM] using hu
              exact h4
theorem rowsEx {α : Type} : ∀ (n : Nat) (f : Nat → α → Prop), (∀ i, i < n → ∃ b, f i b) → ∃ l : List α, l.length = n ∧ ∀ i b, l[i]? = some b → f i b
  | 0, f, h => ⟨[], rfl, fun i b hi => by simp at hi⟩
  | n + 1, f, h => by
    obtain ⟨b0, h0⟩ := h 0 (by omega)
    obtain ⟨l, hl, hr⟩ := rowsEx n (fun i => f (i + 1)) (fun i hi => h (i + 1) (by omega))
    refine ⟨b0 :: l, by simp [hl], fun i b hi => ?_⟩
    cases i with
    | zero => simp at hi; subst hi; exact h0
    | succ j => exact hr j b (by simpa using hi)
theorem files_reads {S : Nat → Prop} {w : World} {A : Option Addr} {c : Nat} {l : List PF} (h : FsOut S w (.slice A l.length c) l) :
    ∃ us : List Value, us.length = l.length ∧ Reads w w.heap.size 3 A l.length ((l.zip us).flatMap cF) ∧ ∀ p ∈ l.zip us, ByS S w p.2 p.1.bytes := by
  obtain ⟨A', c', hv, hc, hf⟩ := h
  injection hv with h1 _ hcc
  subst h1
  rcases Nat.eq_zero_or_pos l.length with h0 | h0
  · obtain rfl : l = [] := List.eq_nil_of_length_eq_zero h0
    exact ⟨[], rfl, ⟨rfl, fun h => absurd h (Nat.lt_irrefl _)⟩, fun p hp => absurd hp (by simp)⟩
  · obtain ⟨b, off, hA, hS, hr⟩ := hf h0
    obtain ⟨us, hul, hus⟩ := rowsEx l.length (fun i u => ∃ f, l[i]? = some f ∧ w.cell? ⟨b, off + i * 3 + 1, none⟩ = some u ∧ ByS S w u f.bytes) (fun i hi => by
      obtain ⟨f, hfi, _, ⟨u, h2, h3⟩, _⟩ := hr i hi
      exact ⟨u, f, hfi, h2, h3⟩)
    have hzl : (l.zip us).length = l.length := by rw [List.length_zip, hul, Nat.min_self]
    have hz : ∀ i f u, l[i]? = some f → us[i]? = some u → (l.zip us)[i]? = some (f, u) := fun i f u h1 h2 => by rw [List.getElem?_zip_eq_some]; exact ⟨h1, h2⟩
    refine ⟨us, hul, ?_, fun p hp => ?_⟩
    · have hs : SlOut S w (.slice A l.length c) l.length 3 (fun w b o i => ∃ p, (l.zip us)[i]? = some p ∧ w.cell? ⟨b, o, none⟩ = some (.int .i64 (p.1.id : Nat)) ∧ w.cell? ⟨b, o + 1, none⟩ = some p.2 ∧ w.cell? ⟨b, o + 2, none⟩ = some (.int .i64 (p.1.sure : Nat))) := by
        refine ⟨A, c, rfl, by omega, fun _ => ⟨b, off, hA, hS, fun k hk => ?_⟩⟩
        obtain ⟨f, hfi, c0, _, c2⟩ := hr k hk
        have hu := List.getElem?_eq_getElem (show k < us.length by omega)
        obtain ⟨f', hf', c1, _⟩ := hus k _ hu
        obtain rfl : f = f' := Option.some.inj (hfi.symm.trans hf')
        exact ⟨_, hz k f _ hfi hu, c0, c1, c2⟩
      refine sl_reads hs (by decide) (by rw [flat_length cF 3 (fun _ => rfl), hzl]) fun b o i hi ⟨q, hq, h1, h2, h3⟩ j u hj hu => ?_
      rw [flat_at cF 3 (fun _ => rfl) (l.zip us) i q hq j hj] at hu
      match j, hj with
      | 0, _ => obtain rfl : Value.int .i64 (q.1.id : Nat) = u := by simpa [cF] using hu
                exact h1
      | 1, _ => obtain rfl : q.2 = u := by simpa [cF] using hu
                exact h2
      | 2, _ => obtain rfl : Value.int .i64 (q.1.sure : Nat) = u := by simpa [cF] using hu
                exact h3
    · obtain ⟨i, hi⟩ := List.getElem?_of_mem hp
      obtain ⟨h1, h2⟩ := List.getElem?_zip_eq_some.1 hi
      obtain ⟨f, hf, _, hb⟩ := hus i _ h2
      rw [h1] at hf
      rw [Option.some.inj hf]
      exact hb
end Go.Proofs.Ytmkjjcogheidmaa
