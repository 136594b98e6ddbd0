/-
  A disk whose rows a call has made itself, each in a block of its own.
-/
import Derived.Test.YtmkjjcogheidmaaDskPO
import Derived.Test.YtmkjjcogheidmaaDskClone
set_option linter.unusedSimpArgs false
set_option linter.unusedVariables false
namespace Go.Proofs.Ytmkjjcogheidmaa
open Go.RowKit
/-- Two rows that lie in two blocks, or in none. -/
def Sep (a b : Value) : Prop := ∀ g, a.ownBlock = some g → b.ownBlock ≠ some g
theorem Sep.symm {a b : Value} (h : Sep a b) : Sep b a := fun g h1 h2 => h g h2 h1
def Apart (l : List Value) : Prop := l.Pairwise Sep
structure DkOwn (base : Nat) (w : World) (vf vn vk vm : Value) (us : List Value) (D : PD) : Prop where
  hu : us.length = D.files.length
  f : w.ownsRow base 58 3 vf D.files.length ((D.files.zip us).flatMap cF)
  n : w.ownsRow base 79 2 vn D.names.length (D.names.flatMap cN)
  k : w.ownsRow base 79 2 vk D.kept.length (D.kept.flatMap cN)
  m : w.ownsRow base 66 4 vm D.moves.length (D.moves.flatMap cM)
  by_ : ∀ p ∈ D.files.zip us, ByNew base w p.2 p.1.bytes
  apart : Apart (vn :: vk :: vm :: vf :: us)
theorem zip_fst {α β : Type} : ∀ {l : List α} {u : List β}, u.length = l.length → (l.zip u).map (·.1) = l
  | [], [], _ => rfl
  | [], _ :: _, h => by simp at h
  | _ :: _, [], h => by simp at h
  | x :: l, y :: u, h => by rw [List.zip_cons_cons, List.map_cons, zip_fst (by simpa using h)]
theorem zip_mem {α β : Type} {l : List α} {u : List β} (h : u.length = l.length) {y : β} (hy : y ∈ u) : ∃ x, (x, y) ∈ l.zip u := by
  obtain ⟨i, hi⟩ := List.getElem?_of_mem hy
  have hlt := (List.getElem?_eq_some_iff.1 hi).1
  exact ⟨l[i]'(by omega), List.mem_of_getElem? (i := i) (by rw [List.getElem?_zip_eq_some]; exact ⟨List.getElem?_eq_getElem (by omega), hi⟩)⟩
/-- A change of one row's block, and new blocks, leave the other rows. -/
theorem own_kept {w w' : World} {base : Nat} {e : TypeId} {k n : Nat} {v v0 : Value} {xs : List Value} (h : w.ownsRow base e k v n xs) (hg : w.grownBy w' v0.ownBlock) (hs : Sep v v0) : w'.ownsRow base e k v n xs := h.kept hg (by
  cases hv : v.ownBlock with
  | none => exact .inl rfl
  | some g => exact .inr fun e => hs g hv e.symm)
theorem DkOwn.below {base : Nat} {w w' : World} {vf vn vk vm : Value} {us : List Value} {D : PD} (h : DkOwn base w vf vn vk vm us D) (hb : Below w.heap.size w w') : DkOwn base w' vf vn vk vm us D :=
  ⟨h.hu, own_below h.f hb, own_below h.n hb, own_below h.k hb, own_below h.m hb, fun p hp => own_below (h.by_ p hp) hb, h.apart⟩
theorem DkOwn.at_ {base : Nat} {w : World} {vf vn vk vm : Value} {us : List Value} {D : PD} (h : DkOwn base w vf vn vk vm us D) : DkAt (fun g => base ≤ g) w vf vn vk vm D := by
  refine ⟨?_, names_own h.n, names_own h.k, moves_own h.m⟩
  have := files_own (S := fun g => base ≤ g) (l := D.files.zip us) (by rw [List.length_zip, h.hu, Nat.min_self]; exact h.f) (fun p hp => (h.by_ p hp).s) (fun _ h => h)
  rwa [zip_fst h.hu] at this
theorem DkOwn.out {base : Nat} {w : World} {vf vn vk vm : Value} {us : List Value} {D : PD} (h : DkOwn base w vf vn vk vm us D) : DkOut (fun g => base ≤ g) w (.agg #[.int .i64 (D.quota : Nat), vf, vn, vk, vm, .int .i64 (D.next : Nat)]) D := ⟨vf, vn, vk, vm, rfl, h.at_⟩
theorem own_setCell {w : World} {base : Nat} {e : TypeId} {k n b o : Nat} {v u : Value} {xs : List Value} (h : w.ownsRow base e k v n xs) (hb : b < base) : (w.setCell ⟨b, o, none⟩ u).ownsRow base e k v n xs := by
  refine h.kept (row := some b) ⟨rfl, rfl, rfl, by simp, fun i _ hi => heap_setCell_other w ⟨b, o, none⟩ i u (fun e => hi (by rw [e]))⟩ ?_
  cases hv : v.ownBlock with
  | none => exact .inl rfl
  | some g =>
    have := (h.lt g hv).1
    exact .inr fun e => by have e := Option.some.inj e; omega
theorem DkOwn.setCell {base b o : Nat} {w : World} {vf vn vk vm u : Value} {us : List Value} {D : PD} (h : DkOwn base w vf vn vk vm us D) (hb : b < base) : DkOwn base (w.setCell ⟨b, o, none⟩ u) vf vn vk vm us D :=
  ⟨h.hu, own_setCell h.f hb, own_setCell h.n hb, own_setCell h.k hb, own_setCell h.m hb, fun p hp => own_setCell (h.by_ p hp) hb, h.apart⟩
theorem own_put {w w' : World} {base : Nat} {e : TypeId} {k n b : Nat} {v : Value} {xs cs : List Value} (h : w.ownsRow base e k v n xs) (hp : ∀ i, i ≠ b → i < w.heap.size → w'.heap[i]? = w.heap[i]?) (hb : b < base) (hs : w'.heap.size = w.heap.size) (h1 : w'.os = w.os) (h2 : w'.tape = w.tape) (h3 : w'.output = w.output) : w'.ownsRow base e k v n xs := by
  refine h.kept (row := some b) ⟨h1, h2, h3, by omega, fun i hi hne => hp i (fun e => hne (by rw [e])) hi⟩ ?_
  cases hv : v.ownBlock with
  | none => exact .inl rfl
  | some g =>
    have := (h.lt g hv).1
    exact .inr fun e => by have e := Option.some.inj e; omega
theorem own_far {w w' : World} {base b : Nat} {e : TypeId} {k n : Nat} {v : Value} {xs : List Value} (h : w.ownsRow base e k v n xs) (hg : w.grownBy w' (some b)) (hb : b < base) : w'.ownsRow base e k v n xs := by
  refine h.kept hg ?_
  cases hv : v.ownBlock with
  | none => exact .inl rfl
  | some g =>
    have := (h.lt g hv).1
    exact .inr fun e => by have e := Option.some.inj e; omega
theorem DkOwn.put {base b : Nat} {w w' : World} {vf vn vk vm : Value} {us : List Value} {D : PD} (h : DkOwn base w vf vn vk vm us D) (hg : w.grownBy w' (some b)) (hb : b < base) : DkOwn base w' vf vn vk vm us D :=
  ⟨h.hu, own_far h.f hg hb, own_far h.n hg hb, own_far h.k hg hb, own_far h.m hg hb, fun p hp => own_far (h.by_ p hp) hg hb, h.apart⟩
theorem DkOwn.base {base base' : Nat} {w : World} {vf vn vk vm : Value} {us : List Value} {D : PD} (h : DkOwn base w vf vn vk vm us D) (hb : base' ≤ base) : DkOwn base' w vf vn vk vm us D :=
  ⟨h.hu, own_base h.f hb, own_base h.n hb, own_base h.k hb, own_base h.m hb, fun p hp => own_base (h.by_ p hp) hb, h.apart⟩
theorem sep_new {w : World} {base : Nat} {e : TypeId} {k n : Nat} {v v' : Value} {xs : List Value} (h : w.ownsRow base e k v n xs) (h' : ∀ g, v'.ownBlock = some g → w.heap.size ≤ g) : Sep v v' := fun g h1 h2 => by
  have := (h.lt g h1).2
  have := h' g h2
  omega
theorem own_new {w w' : World} {base : Nat} {e : TypeId} {k n : Nat} {v : Value} {xs : List Value} (h : w'.ownsRow base e k v n xs) : ∀ g, v.ownBlock = some g → base ≤ g := fun g hg => (h.lt g hg).1
end Go.Proofs.Ytmkjjcogheidmaa
