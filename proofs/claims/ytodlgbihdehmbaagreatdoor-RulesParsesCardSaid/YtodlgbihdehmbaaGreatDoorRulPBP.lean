/-
  Plain facts on rules (layer 12): methods' names, stores and folds read out of sections, what is found of a path. Nothing of the program is imported.
-/
import Derived.Test.YtodlgbihdehmbaaGreatDoorCfgMathP
import Derived.Test.YtodlgbihdehmbaaGreatDoorNdlCompP
import Derived.Test.YtodlgbihdehmbaaGreatDoorDecCanBP
import Derived.Test.YtodlgbihdehmbaaGreatDoorCfgBoxP
import Derived.Test.YtodlgbihdehmbaaGreatDoorCfgREP
import Derived.Test.YtodlgbihdehmbaaGreatDoorRetTxP
import Derived.RangeFuncBox
import Derived.RangeFuncCalls
import Derived.RangeFuncLeaves
import Derived.Test.YtodlgbihdehmbaaGreatDoorCfgLibP
import Derived.Shelf.Abstract
import Derived.Shelf.RegionOpen
import Derived.OwnWalkIn
import Derived.TacticsInMore
import Derived.LoopNIn
import Derived.LoopIn
import Derived.Test.YtodlgbihdehmbaaGreatDoorCfgTrP
import Derived.Test.YtodlgbihdehmbaaGreatDoorCfgGkP
import Derived.RangeFuncOwn
import Derived.Test.YtodlgbihdehmbaaGreatDoorNdlPJP
set_option linter.unusedSimpArgs false
set_option linter.unusedVariables false
namespace Go.Proofs.YtodlgbihdehmbaaGreatDoor.Nd
end Go.Proofs.YtodlgbihdehmbaaGreatDoor.Nd
namespace Go.Proofs.YtodlgbihdehmbaaGreatDoor
open Nd
def mName (m : Int) : List Nat :=
  if m = 1 then [97, 118, 101, 114, 97, 103, 101] else if m = 2 then [115, 117, 109] else if m = 3 then [109, 105, 110]
  else if m = 4 then [109, 97, 120] else if m = 5 then [108, 97, 115, 116] else []
def mNum (n : List Nat) : Int × Bool :=
  if n = mName 1 then (1, true) else if n = mName 2 then (2, true) else if n = mName 3 then (3, true)
  else if n = mName 4 then (4, true) else if n = mName 5 then (5, true) else (0, false)
theorem mName_far {m : Int} (h : m < 1 ∨ 5 < m) : mName m = [] := by
  unfold mName
  rw [if_neg (by omega), if_neg (by omega), if_neg (by omega), if_neg (by omega), if_neg (by omega)]
theorem mNum_near {m : Int} (h : 1 ≤ m ∧ m ≤ 5) : mNum (mName m) = (m, true) := by
  obtain ⟨h1, h2⟩ := h
  rcases (show m = 1 ∨ m = 2 ∨ m = 3 ∨ m = 4 ∨ m = 5 by omega) with rfl | rfl | rfl | rfl | rfl <;> decide
/-- A list read piece by piece: the first error is the answer's. -/
def rulV {α β : Type} (f : α → β × Int) : List α → List β × Int
  | [] => ([], 0)
  | x :: t => if (f x).2 = 0 then (if (rulV f t).2 = 0 then ((f x).1 :: (rulV f t).1, 0) else ([], (rulV f t).2)) else ([], (f x).2)
theorem rulV_all {α β : Type} (f : α → β × Int) : ∀ (l : List α), (∀ x ∈ l, (f x).2 = 0) → rulV f l = (l.map fun x => (f x).1, 0)
  | [], _ => rfl
  | x :: t, h => by
    have h1 := rulV_all f t fun y hy => h y (List.mem_cons_of_mem _ hy)
    unfold rulV
    rw [if_pos (h x (List.mem_cons_self ..)), h1, if_pos rfl]
    rfl
theorem rulV_stop {α β : Type} (f : α → β × Int) : ∀ (l : List α) (x : α) (t : List α), (∀ y ∈ l, (f y).2 = 0) → (f x).2 ≠ 0 → rulV f (l ++ x :: t) = ([], (f x).2)
  | [], x, t, _, hx => by
    show rulV f (x :: t) = _
    unfold rulV
    rw [if_neg hx]
  | y :: l, x, t, h, hx => by
    have h1 := rulV_stop f l x t (fun z hz => h z (List.mem_cons_of_mem _ hz)) hx
    show rulV f (y :: (l ++ x :: t)) = _
    unfold rulV
    rw [if_pos (h y (List.mem_cons_self ..)), h1, if_neg hx]
theorem rulV_length {α β : Type} (f : α → β × Int) : ∀ (l : List α), (rulV f l).1.length ≤ l.length
  | [] => Nat.le_refl _
  | x :: t => by
    have h := rulV_length f t
    unfold rulV
    split
    · split
      · simp only [List.length_cons]; omega
      · exact Nat.zero_le _
    · exact Nat.zero_le _
/-- At a place k of a list: all ahead are right; what comes next says whether the answer goes on. -/
theorem rulV_take {α β : Type} (f : α → β × Int) (l : List α) (k : Nat) (x : α) (hk : l[k]? = some x) (h : ∀ y ∈ l.take k, (f y).2 = 0) (hx : (f x).2 ≠ 0) : rulV f l = ([], (f x).2) := by
  have hlt := (List.getElem?_eq_some_iff.1 hk).1
  have e : l = l.take k ++ x :: l.drop (k + 1) := by
    have h1 := List.getElem?_eq_some_iff.1 hk
    rw [← h1.2, List.getElem_cons_drop, List.take_append_drop]
  rw [e]
  exact rulV_stop f _ x _ h hx
def patB : List Nat := [112, 97, 116, 116, 101, 114, 110]
def retB : List Nat := [114, 101, 116, 101, 110, 116, 105, 111, 110, 115]
def xffB : List Nat := [120, 70, 105, 108, 101, 115, 70, 97, 99, 116, 111, 114]
def aggB : List Nat := [97, 103, 103, 114, 101, 103, 97, 116, 105, 111, 110, 77, 101, 116, 104, 111, 100]
def onlyV (ks : List (List Nat)) (l : List KV) : Bool := l.all fun p => ks.any fun k => p.1 == k
/-- A store: its name, its pattern, its archives. -/
abbrev Sto := List Nat × List Nat × List (Int × Int)
/-- A fold: its name, its pattern, its factor, its method. -/
abbrev Fol := List Nat × List Nat × Int × Int
def Sto.none : Sto := ([], [], [])
def Fol.none : Fol := ([], [], 0, 0)
def stoV (x : Sec) : Sto × Int :=
  if (getV x.2 patB).isSome = true ∧ (getV x.2 retB).isSome = true ∧ onlyV [patB, retB] x.2 = true then
    if (ndComp ((getV x.2 patB).getD [])).2 ≠ 0 then (Sto.none, (ndComp ((getV x.2 patB).getD [])).2)
    else if (parseV ((getV x.2 retB).getD [])).2 ≠ 0 then (Sto.none, (parseV ((getV x.2 retB).getD [])).2)
    else ((x.1, (getV x.2 patB).getD [], (parseV ((getV x.2 retB).getD [])).1), 0)
  else (Sto.none, 7)
/-- A fold's factor: what its text says, if it has one. -/
def xffV (x : Option (List Nat)) : Int × Int := match x with
  | none => (500000, 0)
  | some t => if (refP t).2 ≠ 0 then (0, (refP t).2) else if (refP t).1 < 0 ∨ 1000000 < (refP t).1 then (0, 3) else ((refP t).1, 0)
def aggV (x : Option (List Nat)) : Int × Int := match x with
  | none => (1, 0)
  | some t => if (mNum t).2 = true then ((mNum t).1, 0) else (0, 7)
def folV (x : Sec) : Fol × Int :=
  if (getV x.2 patB).isSome = true ∧ onlyV [patB, xffB, aggB] x.2 = true then
    if (ndComp ((getV x.2 patB).getD [])).2 ≠ 0 then (Fol.none, (ndComp ((getV x.2 patB).getD [])).2)
    else if (xffV (getV x.2 xffB)).2 ≠ 0 then (Fol.none, (xffV (getV x.2 xffB)).2)
    else if (aggV (getV x.2 aggB)).2 ≠ 0 then (Fol.none, (aggV (getV x.2 aggB)).2)
    else ((x.1, (getV x.2 patB).getD [], (xffV (getV x.2 xffB)).1, (aggV (getV x.2 aggB)).1), 0)
  else (Fol.none, 7)
def storesV (l : List Nat) : List Sto × Int := if (confV l).2 ≠ 0 then ([], (confV l).2) else rulV stoV (confV l).1
def foldsV (l : List Nat) : List Fol × Int := if (confV l).2 ≠ 0 then ([], (confV l).2) else rulV folV (confV l).1
def stoOk (s : Sto) : Bool := decide ((ndComp s.2.1).2 = 0) && tog s.2.2
def folOk (f : Fol) : Bool := decide ((ndComp f.2.1).2 = 0) && decide (0 ≤ f.2.2.1 ∧ f.2.2.1 ≤ 1000000 ∧ 1 ≤ f.2.2.2 ∧ f.2.2.2 ≤ 5)
def rightR (ss : List Sto) (fs : List Fol) : Bool := decide (ss.length ≤ 16 ∧ fs.length ≤ 16) && (ss.all stoOk && fs.all folOk)
/-- What is found: archives, method, factor. -/
abbrev Sch := List (Int × Int) × Int × Int
def Sch.none : Sch := ([], 0, 0)
def stoHit (t : List Nat) (s : Sto) : Bool := (ndMatch s.2.1 t).1
def folHit (t : List Nat) (f : Fol) : Bool := (ndMatch f.2.1 t).1
def foldOf (fs : List Fol) (t : List Nat) : Int × Int := match fs.find? (folHit t) with
  | none => (1, 500000)
  | some f => (f.2.2.2, f.2.2.1)
def pickV (ss : List Sto) (fs : List Fol) (t : List Nat) : Sch × Int := match ss.find? (stoHit t) with
  | none => (Sch.none, 15)
  | some s => ((s.2.2, foldOf fs t), 0)
def findV (ss : List Sto) (fs : List Fol) (t : List Nat) : Sch × Int := if rightR ss fs = true then pickV ss fs t else (Sch.none, 1)
theorem rightR_iff {ss : List Sto} {fs : List Fol} : rightR ss fs = true ↔ (ss.length ≤ 16 ∧ fs.length ≤ 16) ∧ ss.all stoOk = true ∧ fs.all folOk = true := by
  unfold rightR
  simp only [Bool.and_eq_true, decide_eq_true_eq]
end Go.Proofs.YtodlgbihdehmbaaGreatDoor
/-
  Stores and folds in memory, for the contracts of layer 12.
-/
set_option linter.unusedSimpArgs false
set_option linter.unusedVariables false
namespace Go.Proofs.YtodlgbihdehmbaaGreatDoor
open Go.RowKit Cf
theorem flatn_at {α : Type} (m : Nat) (f : α → List Value) (hf : ∀ x, (f x).length = m) : ∀ (l : List α) (k : Nat) (x : α) (j : Nat) (u : Value), l[k]? = some x → (f x)[j]? = some u → (l.flatMap f)[k * m + j]? = some u
  | [], k, x, j, u, h, _ => by simp at h
  | y :: l, 0, x, j, u, h, hj => by
    obtain rfl : y = x := by simpa using h
    rw [List.flatMap_cons, Nat.zero_mul, Nat.zero_add, List.getElem?_append_left (List.getElem?_eq_some_iff.1 hj).1]
    exact hj
  | y :: l, k + 1, x, j, u, h, hj => by
    have ih := flatn_at m f hf l k x j u (by simpa using h) hj
    have e : (k + 1) * m = k * m + m := by rw [Nat.add_mul, Nat.one_mul]
    rw [List.flatMap_cons, List.getElem?_append_right (by rw [hf]; omega), hf, show (k + 1) * m + j - m = k * m + j from by omega]
    exact ih
def StAt (w : World) (b off : Nat) (L : List Sto) : Prop := ∀ (k : Nat) (s : Sto), L[k]? = some s → (Byt s.1 ∧ Byt s.2.1) ∧ ∃ u, w.cell? ⟨b, off + k * 3, none⟩ = some (.string (str s.1)) ∧ w.cell? ⟨b, off + k * 3 + 1, none⟩ = some (.string (str s.2.1)) ∧ w.cell? ⟨b, off + k * 3 + 2, none⟩ = some u ∧ RgOut w u s.2.2
def StOut (w : World) (v : Value) (L : List Sto) : Prop := ∃ A cap, v = .slice A L.length cap ∧ L.length ≤ cap ∧ (L ≠ [] → ∃ b off, A = some ⟨b, off, none⟩ ∧ StAt w b off L)
theorem StAt.below {w w' : World} {b off : Nat} {L : List Sto} (h : StAt w b off L) (hb : Below w.heap.size w w') : StAt w' b off L := fun k s hk => by
  obtain ⟨hy, u, h1, h2, h3, h4⟩ := h k s hk
  exact ⟨hy, u, cellb hb h1, cellb hb h2, cellb hb h3, h4.below hb⟩
theorem StOut.below {w w' : World} {v : Value} {L : List Sto} (h : StOut w v L) (hb : Below w.heap.size w w') : StOut w' v L := by
  obtain ⟨A, cap, hv, hc, hx⟩ := h
  refine ⟨A, cap, hv, hc, fun hn => ?_⟩
  obtain ⟨b, off, hA, hf⟩ := hx hn
  exact ⟨b, off, hA, hf.below hb⟩
theorem StOut.nil (w : World) : StOut w (.slice none 0 0) [] := ⟨none, 0, rfl, Nat.le_refl _, fun h => absurd rfl h⟩
/-- Archives in another block than one. -/
def RgFar (row : Option Nat) (w : World) (v : Value) (l : List (Int × Int)) : Prop := ∃ A cap, v = .slice A l.length cap ∧ l.length ≤ cap ∧ (l ≠ [] → ∃ b off, A = some ⟨b, off, none⟩ ∧ some b ≠ row ∧ RgAt w b off l)
theorem RgFar.out {row : Option Nat} {w : World} {v : Value} {l : List (Int × Int)} (h : RgFar row w v l) : RgOut w v l := by
  obtain ⟨A, cap, hv, hc, hx⟩ := h
  refine ⟨A, cap, hv, hc, fun hn => ?_⟩
  obtain ⟨b, off, hA, _, hf⟩ := hx hn
  exact ⟨b, off, hA, hf⟩
theorem RgFar.below {row : Option Nat} {w w' : World} {v : Value} {l : List (Int × Int)} (h : RgFar row w v l) (hb : Below w.heap.size w w') : RgFar row w' v l := by
  obtain ⟨A, cap, hv, hc, hx⟩ := h
  refine ⟨A, cap, hv, hc, fun hn => ?_⟩
  obtain ⟨b, off, hA, hB, hf⟩ := hx hn
  exact ⟨b, off, hA, hB, hf.below hb⟩
theorem RgFar.grown {row row' : Option Nat} {w w' : World} {v : Value} {l : List (Int × Int)} (h : RgFar row w v l) (hg : w.grownBy w' row) (hat : row' = row ∨ ∃ g, row' = some g ∧ w.heap.size ≤ g) : RgFar row' w' v l := by
  obtain ⟨A, cap, hv, hc, hx⟩ := h
  refine ⟨A, cap, hv, hc, fun hn => ?_⟩
  obtain ⟨b, off, hA, hB, hf⟩ := hx hn
  have h0 := List.getElem?_eq_getElem (List.length_pos_iff.2 hn)
  have hlt : b < w.heap.size := World.block_lt_of_cell? w _ (hf 0 _ h0).1
  have hk : ∀ off, w'.cell? ⟨b, off, none⟩ = w.cell? ⟨b, off, none⟩ := fun off => World.cell?_of_block (hg.block b hlt (fun e => hB e))
  refine ⟨b, off, hA, ?_, fun i n hi => ⟨(hk _).trans (hf i n hi).1, (hk _).trans (hf i n hi).2⟩⟩
  rcases hat with e | ⟨g, e, hl⟩
  · rw [e]; exact hB
  · rw [e]; intro e2; injection e2 with e2; omega
theorem RgNew.far {N : Nat} {row : Option Nat} {w : World} {v : Value} {l : List (Int × Int)} (h : RgNew N w v l) (hr : ∀ g, row = some g → g < N) : RgFar row w v l := by
  have h2 := h.out
  obtain ⟨A, cap, hv, hc, hx⟩ := id h2
  refine ⟨A, cap, hv, hc, fun hn => ?_⟩
  obtain ⟨b, off, hA, hf⟩ := hx hn
  have h3 := (own_lt h (g := b) (by rw [hv, hA]; rfl)).1
  refine ⟨b, off, hA, fun e => ?_, hf⟩
  have := hr b e.symm
  omega
def stC1 (x : Value × Sto) : List Value := [.string (str x.2.1), .string (str x.2.2.1), x.1]
def stC (us : List (Value × Sto)) : List Value := us.flatMap stC1
theorem stC_app (a b : List (Value × Sto)) : stC (a ++ b) = stC a ++ stC b := by unfold stC; rw [List.flatMap_append]
/-- Stores of a call's own. -/
structure StNew (B : Nat) (w : World) (v : Value) (L : List Sto) : Prop where
  byt : ∀ s ∈ L, Byt s.1 ∧ Byt s.2.1
  row : ∃ us : List (Value × Sto), us.map Prod.snd = L ∧ w.ownsRow B 47 3 v L.length (stC us) ∧ ∀ x ∈ us, RgFar v.ownBlock w x.1 x.2.2.2
theorem StNew.nil (B : Nat) (w : World) : StNew B w (.slice none 0 0) [] := ⟨fun s h => (by cases h), [], rfl, ⟨rfl, .inl ⟨rfl, rfl⟩⟩, fun x h => (by cases h)⟩
theorem StNew.below {B : Nat} {w w' : World} {v : Value} {L : List Sto} (h : StNew B w v L) (hb : Below w.heap.size w w') : StNew B w' v L := by
  obtain ⟨h0, us, h1, h2, h3⟩ := h
  exact ⟨h0, us, h1, own_keep h2 (fun g _ hl _ => hb.block g hl), fun x hx => (h3 x hx).below hb⟩
theorem StNew.form {B : Nat} {w : World} {v : Value} {L : List Sto} (h : StNew B w v L) : ∃ A c, v = .slice A L.length c ∧ L.length ≤ c ∧ (∀ g, v.ownBlock = some g → B ≤ g ∧ g < w.heap.size) := by
  obtain ⟨h0, us, h1, h2, h3⟩ := h
  obtain ⟨A, c, hv, hc, _⟩ := own_form h2
  exact ⟨A, c, hv, hc, fun g hg => own_lt h2 hg⟩
theorem StNew.out {B : Nat} {w : World} {v : Value} {L : List Sto} (h : StNew B w v L) : StOut w v L := by
  obtain ⟨h0, us, rfl, h2, h3⟩ := h
  obtain ⟨A, c, rfl, hc, hx⟩ := own_form h2
  refine ⟨A, c, rfl, hc, fun hn => ?_⟩
  obtain ⟨g, rfl, _, _⟩ := hx (List.length_pos_iff.2 hn)
  refine ⟨g, 0, rfl, fun k s hk => ⟨h0 s (List.mem_of_getElem? hk), ?_⟩⟩
  rw [List.getElem?_map] at hk
  obtain ⟨y, hy, rfl⟩ := Option.map_eq_some_iff.1 hk
  have cj : ∀ (j : Nat) (u : Value), (stC1 y)[j]? = some u → w.cell? ⟨g, 0 + k * 3 + j, none⟩ = some u := fun j u hj => by
    rw [Nat.zero_add]
    exact (own_cell h2 (flatn_at 3 stC1 (fun _ => rfl) us k y j u hy hj)).1
  exact ⟨y.1, cj 0 _ rfl, cj 1 _ rfl, cj 2 _ rfl, (h3 y (List.mem_of_getElem? hy)).out⟩
/-- One store more. -/
theorem StNew.push {B : Nat} {w w1 w2 : World} {v u : Value} {L : List Sto} {s : Sto} (h : StNew B w v L) (hb : Below w.heap.size w w1) (hs : Byt s.1 ∧ Byt s.2.1) (hu : RgFar v.ownBlock w1 u s.2.2) : ∃ xs, w1.ownsRow B 47 3 v L.length xs ∧
    ∀ (g cap : Nat) (w2 : World), w2.ownsRow B 47 3 (.slice (some ⟨g, 0, none⟩) (L.length + 1) cap) (L.length + 1) (xs ++ [.string (str s.1), .string (str s.2.1), u]) → w1.grownBy w2 v.ownBlock → (v.ownBlock = some g ∨ w1.heap.size ≤ g) → StNew B w2 (.slice (some ⟨g, 0, none⟩) (L.length + 1) cap) (L ++ [s]) := by
  obtain ⟨h0, us, h1, h2, h3⟩ := h.below hb
  refine ⟨stC us, h2, fun g cap w2 hn hg hat => ⟨fun x hx => ?_, us ++ [(u, s)], by rw [List.map_append, h1]; rfl, ?_, fun x hx => ?_⟩⟩
  · rcases List.mem_append.1 hx with hx | hx
    · exact h0 x hx
    · obtain rfl := List.mem_singleton.1 hx
      exact hs
  · rw [stC_app, List.length_append, List.length_singleton]
    exact hn
  · have hat2 : (Value.slice (some ⟨g, 0, none⟩) (L.length + 1) cap).ownBlock = v.ownBlock ∨ ∃ k, (Value.slice (some ⟨g, 0, none⟩) (L.length + 1) cap).ownBlock = some k ∧ w1.heap.size ≤ k := by
      rcases hat with e | e
      · exact .inl e.symm
      · exact .inr ⟨g, rfl, e⟩
    rcases List.mem_append.1 hx with hx | hx
    · exact (h3 x hx).grown hg hat2
    · obtain rfl := List.mem_singleton.1 hx
      exact hu.grown hg hat2
theorem store_info : (Tryz.prog.info? 47).map (fun i => (i.zero, i.size, i.bytes)) = some (some (.agg #[.string ⟨#[]⟩, .string ⟨#[]⟩, .slice none 0 0]), 3, 56) := by kernel_rfl
def FoAt (w : World) (b off : Nat) (L : List Fol) : Prop := ∀ (k : Nat) (f : Fol), L[k]? = some f → (Byt f.1 ∧ Byt f.2.1) ∧ w.cell? ⟨b, off + k * 4, none⟩ = some (.string (str f.1)) ∧ w.cell? ⟨b, off + k * 4 + 1, none⟩ = some (.string (str f.2.1)) ∧ w.cell? ⟨b, off + k * 4 + 2, none⟩ = some (.int .i64 f.2.2.1) ∧ w.cell? ⟨b, off + k * 4 + 3, none⟩ = some (.int .i64 f.2.2.2)
def FoOut (w : World) (v : Value) (L : List Fol) : Prop := ∃ A cap, v = .slice A L.length cap ∧ L.length ≤ cap ∧ (L ≠ [] → ∃ b off, A = some ⟨b, off, none⟩ ∧ FoAt w b off L)
theorem FoAt.below {w w' : World} {b off : Nat} {L : List Fol} (h : FoAt w b off L) (hb : Below w.heap.size w w') : FoAt w' b off L := fun k s hk => by
  obtain ⟨hy, h1, h2, h3, h4⟩ := h k s hk
  exact ⟨hy, cellb hb h1, cellb hb h2, cellb hb h3, cellb hb h4⟩
theorem FoOut.below {w w' : World} {v : Value} {L : List Fol} (h : FoOut w v L) (hb : Below w.heap.size w w') : FoOut w' v L := by
  obtain ⟨A, cap, hv, hc, hx⟩ := h
  refine ⟨A, cap, hv, hc, fun hn => ?_⟩
  obtain ⟨b, off, hA, hf⟩ := hx hn
  exact ⟨b, off, hA, hf.below hb⟩
theorem FoOut.nil (w : World) : FoOut w (.slice none 0 0) [] := ⟨none, 0, rfl, Nat.le_refl _, fun h => absurd rfl h⟩
def foC1 (f : Fol) : List Value := [.string (str f.1), .string (str f.2.1), .int .i64 f.2.2.1, .int .i64 f.2.2.2]
def foC (L : List Fol) : List Value := L.flatMap foC1
theorem foC_app (a b : List Fol) : foC (a ++ b) = foC a ++ foC b := by unfold foC; rw [List.flatMap_append]
/-- Folds of a call's own. -/
structure FoNew (B : Nat) (w : World) (v : Value) (L : List Fol) : Prop where
  byt : ∀ s ∈ L, Byt s.1 ∧ Byt s.2.1
  row : w.ownsRow B 74 4 v L.length (foC L)
theorem FoNew.nil (B : Nat) (w : World) : FoNew B w (.slice none 0 0) [] := ⟨fun s h => (by cases h), rfl, .inl ⟨rfl, rfl⟩⟩
theorem FoNew.below {B : Nat} {w w' : World} {v : Value} {L : List Fol} (h : FoNew B w v L) (hb : Below w.heap.size w w') : FoNew B w' v L := ⟨h.byt, own_keep h.row (fun g _ hl _ => hb.block g hl)⟩
theorem FoNew.form {B : Nat} {w : World} {v : Value} {L : List Fol} (h : FoNew B w v L) : ∃ A c, v = .slice A L.length c ∧ L.length ≤ c ∧ (∀ g, v.ownBlock = some g → B ≤ g ∧ g < w.heap.size) := by
  obtain ⟨A, c, hv, hc, _⟩ := own_form h.row
  exact ⟨A, c, hv, hc, fun g hg => own_lt h.row hg⟩
theorem FoNew.out {B : Nat} {w : World} {v : Value} {L : List Fol} (h : FoNew B w v L) : FoOut w v L := by
  obtain ⟨h0, h2⟩ := h
  obtain ⟨A, c, rfl, hc, hx⟩ := own_form h2
  refine ⟨A, c, rfl, hc, fun hn => ?_⟩
  obtain ⟨g, rfl, _, _⟩ := hx (List.length_pos_iff.2 hn)
  refine ⟨g, 0, rfl, fun k s hk => ⟨h0 s (List.mem_of_getElem? hk), ?_⟩⟩
  have cj : ∀ (j : Nat) (u : Value), (foC1 s)[j]? = some u → w.cell? ⟨g, 0 + k * 4 + j, none⟩ = some u := fun j u hj => by
    rw [Nat.zero_add]
    exact (own_cell h2 (flatn_at 4 foC1 (fun _ => rfl) L k s j u hk hj)).1
  exact ⟨cj 0 _ rfl, cj 1 _ rfl, cj 2 _ rfl, cj 3 _ rfl⟩
theorem FoNew.push {B : Nat} {w w1 : World} {v : Value} {L : List Fol} {s : Fol} (h : FoNew B w v L) (hb : Below w.heap.size w w1) (hs : Byt s.1 ∧ Byt s.2.1) : ∃ xs, w1.ownsRow B 74 4 v L.length xs ∧
    ∀ (g cap : Nat) (w2 : World), w2.ownsRow B 74 4 (.slice (some ⟨g, 0, none⟩) (L.length + 1) cap) (L.length + 1) (xs ++ [.string (str s.1), .string (str s.2.1), .int .i64 s.2.2.1, .int .i64 s.2.2.2]) → FoNew B w2 (.slice (some ⟨g, 0, none⟩) (L.length + 1) cap) (L ++ [s]) := by
  obtain ⟨h0, h2⟩ := h.below hb
  refine ⟨foC L, h2, fun g cap w2 hn => ⟨fun x hx => ?_, ?_⟩⟩
  · rcases List.mem_append.1 hx with hx | hx
    · exact h0 x hx
    · obtain rfl := List.mem_singleton.1 hx
      exact hs
  · rw [foC_app, List.length_append, List.length_singleton]
    exact hn
theorem fold_info : (Tryz.prog.info? 74).map (fun i => (i.zero, i.size, i.bytes)) = some (some (.agg #[.string ⟨#[]⟩, .string ⟨#[]⟩, .int .i64 0, .int .i64 0]), 4, 48) := by kernel_rfl
/-- How long rules may be that come in. -/
structure StLong (s : Sto) : Prop where
  pat : s.2.1.length ≤ 9223372036854775807
  rg : s.2.2.length ≤ 140737488351232
theorem three_new (w : World) (x y z : Value) (t : TypeId) : (w.alloc (.cells #[x, y, z] t)).cell? ⟨w.heap.size, 0, none⟩ = some x ∧ (w.alloc (.cells #[x, y, z] t)).cell? ⟨w.heap.size, 1, none⟩ = some y ∧ (w.alloc (.cells #[x, y, z] t)).cell? ⟨w.heap.size, 2, none⟩ = some z := by
  have h := heap_alloc_new w (.cells #[x, y, z] t)
  exact ⟨cell_of_row _ _ 0 _ _ (0, 0) h, cell_of_row _ _ 1 _ _ (0, 0) h, cell_of_row _ _ 2 _ _ (0, 0) h⟩
theorem row_news (w : World) (xs : List Value) (t : TypeId) : ∀ (j : Nat) (u : Value), xs[j]? = some u → (w.alloc (.cells xs.toArray t)).cell? ((⟨w.heap.size, 0, none⟩ : Addr).add j) = some u := fun j u hj => by
  have e : (⟨w.heap.size, 0, none⟩ : Addr).add j = ⟨w.heap.size, j, none⟩ := by unfold Addr.add; split <;> simp_all
  rw [e]
  refine (cell_of_row _ _ j _ _ (0, 0) (heap_alloc_new w _)).trans ?_
  simpa using hj
theorem row_newsd (w : World) (xs : List Value) (t : TypeId) (H : Nat) (hH : w.heap.size = H) : ∀ (j : Nat) (u : Value), xs[j]? = some u → (w.alloc (.cells xs.toArray t)).cell? ((⟨H, 0, none⟩ : Addr).add j) = some u := fun j u hj => by
  subst hH
  exact row_news w xs t j u hj
end Go.Proofs.YtodlgbihdehmbaaGreatDoor
/-
  A range over an iterator that keeps a state of its own: in blocks that lay ahead of the loop, and in such as it lays when it begins: what the loop owes, what the iterator owes.
-/
set_option linter.unusedSimpArgs false
set_option linter.unusedVariables false
namespace Go.Proofs.YtodlgbihdehmbaaGreatDoor.Cf
open Go Go.RowKit
/-- Nothing turns but new blocks and those of S. -/
structure Turns (S : Nat → Prop) (W W' : World) : Prop where
  os : W'.os = W.os
  tape : W'.tape = W.tape
  output : W'.output = W.output
  size : W.heap.size ≤ W'.heap.size
  block : ∀ k, k < W.heap.size → ¬ S k → W'.heap[k]? = W.heap[k]?
theorem Turns.trans {S : Nat → Prop} {A B C : World} (h : Turns S A B) (k : Turns S B C) : Turns S A C :=
  ⟨k.os.trans h.os, k.tape.trans h.tape, k.output.trans h.output, Nat.le_trans h.size k.size, fun i hi hn => (k.block i (Nat.lt_of_lt_of_le hi h.size) hn).trans (h.block i hi hn)⟩
theorem Turns.mono {S S' : Nat → Prop} {A B : World} (h : Turns S A B) (hs : ∀ k, S k → S' k) : Turns S' A B := ⟨h.os, h.tape, h.output, h.size, fun i hi hn => h.block i hi (fun e => hn (hs i e))⟩
theorem Turns.of_below {S : Nat → Prop} {W W' : World} (h : Below W.heap.size W W') : Turns S W W' := ⟨h.os, h.tape, h.output, h.size, fun k hk _ => h.block k hk⟩
theorem Turns.putObj (W : World) (l : Nat) (o : Obj) : Turns (· = l) W (W.putObj l o) := ⟨rfl, rfl, rfl, by simp, fun k _ hk => World.putObj_heap_other hk⟩
theorem Turns.setCell (W : World) (b o : Nat) (v : Value) : Turns (· = b) W (W.setCell ⟨b, o, none⟩ v) := ⟨rfl, rfl, rfl, (KeepsWalks.setCell W _ v).size, fun k _ hk => Below.heap_setCell _ _ _ k (fun e => hk e)⟩
theorem Turns.alloc (S : Nat → Prop) (W : World) (o : Obj) : Turns S W (W.alloc o) := Turns.of_below ((Below.refl _ W).alloc (Nat.le_refl _) o)
theorem Turns.low {S : Nat → Prop} {N : Nat} {w A B : World} (h : Turns S A B) (hb : Below N w A) (hN : N ≤ A.heap.size) (hs : ∀ k, S k → N ≤ k) : Below N w B :=
  hb.trans ⟨h.os, h.tape, h.output, h.size, fun k hk => h.block k (by omega) (fun e => by have := hs k e; omega)⟩
theorem Turns.cell {S : Nat → Prop} {A B : World} (h : Turns S A B) {b o : Nat} {v : Value} (hc : A.cell? ⟨b, o, none⟩ = some v) (hb : ¬ S b) : B.cell? ⟨b, o, none⟩ = some v :=
  (World.cell?_of_block (h.block b (World.block_lt_of_cell? A _ hc) hb)).trans hc
theorem Turns.frozen {S : Nat → Prop} {A B : World} (h : Turns S A B) {b o : Nat} (hb : ¬ S b) (hlt : b < A.heap.size) : B.frozen? ⟨b, o, none⟩ = A.frozen? ⟨b, o, none⟩ := World.frozen?_of_block (h.block b hlt hb)
/-- Some blocks lie as they lay. -/
def KeepB (S : Nat → Prop) (W W' : World) : Prop := ∀ k, S k → W'.heap[k]? = W.heap[k]?
theorem KeepB.trans {S : Nat → Prop} {A B C : World} (h : KeepB S A B) (k : KeepB S B C) : KeepB S A C := fun i hi => (k i hi).trans (h i hi)
theorem KeepB.mono {S S' : Nat → Prop} {A B : World} (h : KeepB S A B) (hs : ∀ k, S' k → S k) : KeepB S' A B := fun i hi => h i (hs i hi)
theorem KeepB.refl (S : Nat → Prop) (W : World) : KeepB S W W := fun _ _ => rfl
theorem Turns.keep {S T : Nat → Prop} {W W' : World} (h : Turns S W W') (hlt : ∀ k, T k → k < W.heap.size ∧ ¬ S k) : KeepB T W W' := fun k hk => h.block k (hlt k hk).1 (hlt k hk).2
/-- The blocks of the iterator: such as lay ahead, and c that it lays itself. -/
def OwnB (K : Nat → Prop) (B c k : Nat) : Prop := K k ∨ (B ≤ k ∧ k < B + c)
/-- What an iterator owes that gives xs, one by one. -/
def Iter {α : Type} (F : Fence) (n : Nat) (P : Program) (gf : Nat) (lb : Array Value) (enc : α → Value) (K M : Nat → Prop) (c : Nat) (xs : List α) (w : World) : Prop :=
  ∀ (l : Nat) (J Jx : List α → World → Prop) (W : World), KeepB K w W → (∀ k, K k → k < W.heap.size) →
    (∀ pre A A', J pre A → Turns (OwnB M W.heap.size c) A A' → J pre A') →
    (∀ pre A A', Jx pre A → Turns (OwnB M W.heap.size c) A A' → Jx pre A') →
    (∀ pre x A, J pre A → W.heap.size + c ≤ A.heap.size → pre ++ [x] <+: xs → YieldAt F (n - 1) P l #[enc x] A fun e A' => (e = .returned (.bool true) ∧ J (pre ++ [x]) A' ∧ KeepB (OwnB K W.heap.size c) A A' ∧ A.heap.size ≤ A'.heap.size) ∨ (e = .returned (.bool false) ∧ Jx (pre ++ [x]) A' ∧ KeepB (OwnB K W.heap.size c) A A' ∧ A.heap.size ≤ A'.heap.size)) →
    J [] W →
    CallsIn F n P gf (#[.func (.yield l) #[] #[]] ++ lb) W fun e W' => (∃ v, e = .returned v) ∧ (J xs W' ∨ ∃ pre, Jx pre W')
variable {F : Fence} {n : Nat} {P : Program}
/-- How a round's body may be left. -/
def leftPost {α : Type} (S : Nat → Prop) (I : List α → World → Prop) (Ix : Code → List α → World → Prop) (pre : List α) (W : World) : Exit → Act → World → Prop
  | .normal, _, W' => KeepB S W W' ∧ W.heap.size ≤ W'.heap.size ∧ I pre W'
  | .ret, _, W' => KeepB S W W' ∧ W.heap.size ≤ W'.heap.size ∧ Ix .ret pre W'
  | .exit id, _, W' => KeepB S W W' ∧ W.heap.size ≤ W'.heap.size ∧ Ix (.exit id) pre W'
  | _, _, _ => False
/-- What a loop over such an iterator owes. -/
theorem wp_range {α : Type} {g : Operand} {ps : Array Tmp} {assign body : Code} {Q : Exit → Act → World → Prop} {a : Act} {w : World}
    (hro : F.round = none) (h1 : 1 ≤ n) {gf : Nat} {lb : Array Value} (hg : a.eval g = .func (.func gf) #[] lb) (hFg : F.fn gf) (eg : ∀ args w, (callFunc gf args).run P w = .ok (.enter gf args) w)
    {enc : α → Value} {K M : Nat → Prop} {c : Nat} {xs : List α} {w0 : World} (hit : Iter F (n - 1) P gf lb enc K M c xs w0) (hM : ∀ k, M k → K k) (hk0 : KeepB K w0 w) (hB : ∀ k, K k → k < w.heap.size) (hps : ps.size = 1)
    (I : List α → World → Prop) (Ix : Code → List α → World → Prop)
    (hI : ∀ pre A A', I pre A → Turns (OwnB M w.heap.size (c + 2)) A A' → I pre A')
    (hIx : ∀ c' pre A A', Ix c' pre A → Turns (OwnB M w.heap.size (c + 2)) A A' → Ix c' pre A')
    (h0 : I [] w) (a₁ : α → Act)
    (hassign : ∀ (l : Nat) (x : α) (W : World) (G : Act → World → Prop), G (a₁ x) W →
      assign.wpIn (F.inRound l) (n - 1 - 1) P (Exit.then G (fun _ _ _ => False)) { tmps := (ps.zip #[enc x]).foldl (fun t (p, v) => t.setIfInBounds p v) a.tmps, defers := [] } W)
    (hbody : ∀ (l : Nat) (pre : List α) (x : α) (W : World), I pre W → w.heap.size + (c + 2) ≤ W.heap.size → pre ++ [x] <+: xs →
      body.wpIn (F.inRound l) (n - 1 - 1) P (leftPost (OwnB K w.heap.size (c + 2)) I Ix (pre ++ [x]) W) (a₁ x) W)
    (hdone : ∀ (W : World), I xs W → W.heap[w.heap.size]? = some (.deferred (some [])) → Q .normal { a with defers := { target := .collected w.heap.size, args := #[] } :: a.defers } W)
    (hstop : ∀ (c : Code) (pre : List α) (W : World), Ix c pre W → W.heap[w.heap.size]? = some (.deferred (some [])) → c.wpIn F n P Q { a with defers := { target := .collected w.heap.size, args := #[] } :: a.defers } W) :
    (Code.rangeFunc g ps assign body).wpIn F n P Q a w := by
  refine wpIn_rangeFunc fun fn hfn => ?_
  rw [hro]
  -- the loop's record, in each of its states
  obtain ⟨R, hR⟩ : ∃ R : LoopState → Option Code → Loop, R = fun st pe => { state := st, pending := pe, fn := fn, tmps := a.tmps, params := ps, assign := assign, body := body, defers := w.heap.size } := ⟨_, rfl⟩
  obtain ⟨l, hl⟩ : ∃ l, w.heap.size + 1 = l := ⟨_, rfl⟩
  obtain ⟨V, hV⟩ : ∃ V, (w.alloc (.deferred (some []))).alloc (.loop (R .ready none)) = V := ⟨_, rfl⟩
  have tV : Turns (fun _ => False) w V := by rw [← hV]; exact (Turns.alloc _ _ _).trans (Turns.alloc _ _ _)
  have sV : V.heap.size = w.heap.size + 2 := by rw [← hV]; simp
  have lV : V.heap[l]? = some (.loop (R .ready none)) := by
    rw [← hV, ← hl]
    have h := World.alloc_heap_new (w.alloc (.deferred (some []))) (.loop (R .ready none))
    rwa [World.size_alloc] at h
  have dV : V.heap[w.heap.size]? = some (.deferred (some [])) := by
    rw [← hV]
    exact (Below.heap_alloc _ _ _ (by simp)).trans (World.alloc_heap_new w _)
  refine ⟨l, [{ target := .collected w.heap.size, args := #[] }], V, { target := .fn (.func gf) lb, args := #[.func (.yield l) #[] #[]] }, V, gf, #[.func (.yield l) #[] #[]] ++ lb, V, ?_, ?_, ?_, ?_, fun _ => h1, ?_⟩
  · rw [← hV, ← hl, hR]; exact run_enterLoop_outer _ _ _ _ _
  · simp only [resolve, hg]; simp [go_sem]
  · intro f' hf'; simp [Target.leads] at hf'; subst hf'; exact hFg
  · simp [invoke, go_sem, eg]
  have own : ∀ k, OwnB K V.heap.size c k → OwnB K w.heap.size (c + 2) k := fun k hk => hk.imp id (fun h => by rw [sV] at h; omega)
  have ownM : ∀ k, OwnB M V.heap.size c k → OwnB M w.heap.size (c + 2) k := fun k hk => hk.imp id (fun h => by rw [sV] at h; omega)
  have ownR : ∀ k, OwnB K V.heap.size c k → k ≠ l ∧ k ≠ w.heap.size := fun k hk => by
    rcases hk with hk | hk
    · have := hB k hk; omega
    · rw [sV] at hk; omega
  -- what is handed through the iterator
  have fits : ∀ {A A' : World} {st : LoopState} {pe : Option Code}, (A.heap[l]? = some (.loop (R st pe)) ∧ A.heap[w.heap.size]? = some (.deferred (some []))) → Turns (OwnB M V.heap.size c) A A' → (A'.heap[l]? = some (.loop (R st pe)) ∧ A'.heap[w.heap.size]? = some (.deferred (some []))) := fun h t =>
    ⟨(t.block l (Array.getElem?_eq_some_iff.1 h.1).1 (fun h => (ownR l (h.imp (hM _) id)).1 rfl)).trans h.1, (t.block _ (Array.getElem?_eq_some_iff.1 h.2).1 (fun h => (ownR _ (h.imp (hM _) id)).2 rfl)).trans h.2⟩
  refine (hit l (fun pre A => I pre A ∧ (A.heap[l]? = some (.loop (R .ready none)) ∧ A.heap[w.heap.size]? = some (.deferred (some []))))
    (fun pre A => ∃ c', Ix c' pre A ∧ (A.heap[l]? = some (.loop (R .done (some c'))) ∧ A.heap[w.heap.size]? = some (.deferred (some [])))) V
    (hk0.trans (tV.keep fun k hk => ⟨hB k hk, fun e => e⟩)) (fun k hk => by have := hB k hk; omega)
    (fun pre A A' h t => ⟨hI pre A A' h.1 (t.mono ownM), fits h.2 t⟩)
    (fun pre A A' h t => by
      obtain ⟨c', h1, h2⟩ := h
      exact ⟨c', hIx c' pre A A' h1 (t.mono ownM), fits h2 t⟩) ?_ ⟨hI [] w V h0 (tV.mono fun _ e => e.elim), lV, dV⟩).mono ?_
  · -- one round
    rintro pre x A ⟨hi, hA, hD⟩ hs hpre
    rw [sV] at hs
    have hlt : l < A.heap.size := by omega
    have hy := run_yield (P := P) (args := #[enc x]) hA (by rw [hR]; simp [hps])
    rw [hR] at hy
    refine ⟨fn, _, assign, body, hy, roundIn_of_wpIn hfn (hassign l x A _ ⟨_, run_beginRound hA (by rw [hR]), ?_⟩)⟩
    obtain ⟨A1, hA1⟩ : ∃ A1, A.putObj l (.loop { R .ready none with state := .busy }) = A1 := ⟨_, rfl⟩
    rw [hA1]
    have t1 : Turns (· = l) A A1 := by rw [← hA1]; exact Turns.putObj _ _ _
    have l1 : A1.heap[l]? = some (.loop { R .ready none with state := .busy }) := by rw [← hA1]; exact World.putObj_heap_same hlt
    have inL : ∀ k, k = l → OwnB K w.heap.size (c + 2) k := fun k e => .inr (by omega)
    have inM : ∀ k, k = l → OwnB M w.heap.size (c + 2) k := fun k e => .inr (by omega)
    refine wpIn_mono (hbody l pre x A1 (hI pre A A1 hi (t1.mono inM)) (Nat.le_trans (by omega) t1.size) hpre) ?_
    -- the round is over
    have over : ∀ (jump : Option Code) (A2 : World), KeepB (OwnB K w.heap.size (c + 2)) A1 A2 → A1.heap.size ≤ A2.heap.size → ∃ A3, (Instr.endRound l jump).run P A2 = .ok (.bool jump.isNone) A3 ∧ Turns (· = l) A2 A3 ∧
        (A3.heap[l]? = some (.loop (R (if jump.isNone then .ready else .done) jump)) ∧ A3.heap[w.heap.size]? = some (.deferred (some []))) ∧ KeepB (OwnB K V.heap.size c) A A3 ∧ A.heap.size ≤ A3.heap.size := fun jump A2 hk hz => by
      have l2 := (hk l (inL l rfl)).trans l1
      have hlt2 := (Array.getElem?_eq_some_iff.1 l2).1
      have he := run_endRound (P := P) jump l2
      rw [hR] at he
      refine ⟨_, by rw [he], Turns.putObj _ _ _, ⟨by rw [hR]; exact World.putObj_heap_same hlt2, ?_⟩, ?_, by have := t1.size; simp; omega⟩
      · refine (World.putObj_heap_other (by omega)).trans ((hk w.heap.size (.inr (by omega))).trans ?_)
        exact (t1.block _ (by omega) (by omega)).trans hD
      · intro k ho
        have h1 := ownR k ho
        have h2 : k < A.heap.size := by
          rcases ho with ho | ho
          · have := hB k ho; omega
          · rw [sV] at ho; omega
        exact (World.putObj_heap_other h1.1).trans ((hk k (own k ho)).trans (t1.block k h2 h1.1))
    rintro e a3 A2 hp
    cases e with
    | normal =>
      obtain ⟨hk, hz, hi2⟩ := hp
      obtain ⟨A3, hr, t3, h3, hk3, hz3⟩ := over none A2 hk hz
      exact ⟨_, A3, hr, .inl ⟨rfl, ⟨hI _ _ _ hi2 (t3.mono inM), h3⟩, hk3, hz3⟩⟩
    | ret =>
      obtain ⟨hk, hz, hi2⟩ := hp
      obtain ⟨A3, hr, t3, h3, hk3, hz3⟩ := over (some .ret) A2 hk hz
      exact ⟨_, A3, hr, .inr ⟨rfl, ⟨.ret, hIx _ _ _ _ hi2 (t3.mono inM), h3⟩, hk3, hz3⟩⟩
    | exit id =>
      obtain ⟨hk, hz, hi2⟩ := hp
      obtain ⟨A3, hr, t3, h3, hk3, hz3⟩ := over (some (.exit id)) A2 hk hz
      exact ⟨_, A3, hr, .inr ⟨rfl, ⟨.exit id, hIx _ _ _ _ hi2 (t3.mono inM), h3⟩, hk3, hz3⟩⟩
    | goto t => exact hp.elim
    | panic ch => exact hp.elim
    | outgrown => exact hp.elim
  · -- behind the iterator
    have inL : ∀ k, k = l → OwnB M w.heap.size (c + 2) k := fun k e => .inr (by omega)
    rintro e A ⟨⟨v, rfl⟩, (⟨hi, hA, hD⟩ | ⟨pre, c', hi, hA, hD⟩)⟩
    · have he := run_endLoop (P := P) hA (by rw [hR]; simp)
      rw [hR] at he
      exact ⟨none, _, he, hdone _ (hI _ _ _ hi ((Turns.putObj _ _ _).mono inL)) ((World.putObj_heap_other (by omega)).trans hD)⟩
    · have he := run_endLoop (P := P) hA (by rw [hR]; simp)
      rw [hR] at he
      exact ⟨some c', _, he, hstop c' pre _ (hIx _ _ _ _ hi ((Turns.putObj _ _ _).mono inL)) ((World.putObj_heap_other (by omega)).trans hD)⟩
theorem room_of_none {F : Fence} (hd : F.depth = none) (k : Nat) : F.room k := fun d h => by rw [hd] at h; cases h
theorem RoundIn.any {F : Fence} (hd : F.depth = none) {m : Nat} (l' m' : Nat) {P : Program} {l : Nat} {f : FuncId} {tmps : Array Value} {assign body : Code} {w : World} {R : Ending → World → Prop}
    (h : RoundIn F m P l f tmps assign body w R) : RoundIn (F.inRound l') m' P l f tmps assign body w R := ⟨h.1, fun c cs _ => h.2 c cs (room_of_none hd _)⟩
theorem KeepB.below {S : Nat → Prop} {A B : World} (h : Below A.heap.size A B) (hs : ∀ k, S k → k < A.heap.size) : KeepB S A B := fun k hk => h.block k (hs k hk)
end Go.Proofs.YtodlgbihdehmbaaGreatDoor.Cf
/-
  strings.SplitSeq at a line feed: what it hands back goes through a text's parts, one by one, and keeps its place in a variable of its own.
-/
set_option linter.unusedSimpArgs false
set_option linter.unusedVariables false
namespace Go.Proofs.YtodlgbihdehmbaaGreatDoor.Cf.KP
open Go.RowKit Go.Shelf KR
/-- The three variables of the iterator. -/
def Own3 (B k : Nat) : Prop := B ≤ k ∧ k < B + 3
/-- How much is left. -/
def leftAt (B : Nat) (w : World) : Nat := match w.cell? ⟨B, 0, none⟩ with
  | some (.string r) => r.size
  | _ => 0
theorem leftAt_eq {B : Nat} {w : World} {r : ByteArray} (h : w.cell? ⟨B, 0, none⟩ = some (.string r)) : leftAt B w = r.size := by unfold leftAt; rw [h]
theorem cell_keepB {S : Nat → Prop} {w w' : World} (h : KeepB S w w') {b o : Nat} (hb : S b) : w'.cell? ⟨b, o, none⟩ = w.cell? ⟨b, o, none⟩ := World.cell?_of_block (h b hb)
theorem frozen_keepB {S : Nat → Prop} {w w' : World} (h : KeepB S w w') {b o : Nat} (hb : S b) : w'.frozen? ⟨b, o, none⟩ = w.frozen? ⟨b, o, none⟩ := World.frozen?_of_block (h b hb)
theorem yield_str {F : Fence} {m : Nat} {P : Program} {l : Nat} {v v' : Value} {W : World} {R : Ending → World → Prop} (h : YieldAt F m P l #[v] W R) (he : v = v') : YieldAt F m P l #[v'] W R := he ▸ h
attribute [local go_sem] Oper.semAt_some
set_option maxRecDepth 100000 in
set_option maxHeartbeats 2000000 in
theorem seq_iter (n B : Nat) (hn : 1 ≤ n) (s : ByteArray) (hs : s.size ≤ 100000) (w : World)
    (h0 : w.cell? ⟨B, 0, none⟩ = some (.string s)) (f0 : w.frozen? ⟨B, 0, none⟩ = false) (h1 : w.cell? ⟨B + 1, 0, none⟩ = some (.string ⟨#[10]⟩)) (h2 : w.cell? ⟨B + 2, 0, none⟩ = some (.int .i64 0)) :
    Iter Fence.wide n Tryz.prog 137 #[.pointer (some ⟨B + 1, 0, none⟩), .pointer (some ⟨B, 0, none⟩), .pointer (some ⟨B + 2, 0, none⟩)] (fun p : List Nat => .string (str p)) (Own3 B) (Own3 B) 0 (spl 10 (bs s)) w := by
  intro l J Jx W hK hBs hJ hJx hY hJ0
  have c0 := (cell_keepB hK (o := 0) (b := B) ⟨Nat.le_refl _, by omega⟩).trans h0
  have c1 := (cell_keepB hK (o := 0) (b := B + 1) ⟨by omega, by omega⟩).trans h1
  have c2 := (cell_keepB hK (o := 0) (b := B + 2) ⟨by omega, by omega⟩).trans h2
  have g0 := (frozen_keepB hK (o := 0) (b := B) ⟨Nat.le_refl _, by omega⟩).trans f0
  obtain ⟨xs, hxs⟩ : ∃ xs, spl 10 (bs s) = xs := ⟨_, rfl⟩
  rw [hxs] at hY ⊢
  have HJ := Lib.hid hJ; have HY := Lib.hid hY
  have ST := Lib.hid (show (xs = [] ++ spl 10 (bs s)) ∧ W.cell? ⟨B, 0, none⟩ = some (.string s) ∧ s.size ≤ 100000 ∧ W.frozen? ⟨B, 0, none⟩ = false ∧ W.cell? ⟨B + 1, 0, none⟩ = some (.string ⟨#[10]⟩) ∧ W.cell? ⟨B + 2, 0, none⟩ = some (.int .i64 0) ∧ (J [] W ∧ W.heap.size ≤ W.heap.size) from ⟨hxs.symm, c0, hs, g0, c1, c2, hJ0, Nat.le_refl _⟩)
  obtain ⟨C, hC⟩ : ∃ C, (ByteArray.mk #[10]) = C := ⟨_, rfl⟩
  have hCs : C.size = 1 := by rw [← hC]; rfl
  rw [hC] at c1
  have HC := Lib.hid hC
  clear hJ hY hK h0 f0 h1 h2 hs hxs hC hBs hJ0 hJx
  refine callsIn_of_wp Tryz.func137 rfl trivial ?_ rfl
  simp only [Tryz.ntmps137, List.size_toArray, List.length_cons, List.length_nil, Nat.reduceAdd, Nat.reduceSub, Array.replicate_succ, Array.replicate_zero, List.push_toArray, List.append_toArray, List.nil_append, List.cons_append]
  gi_wp2_with fail
  gi_loopw [7] (fun _ wr => ∃ (pre : List (List Nat)) (r : ByteArray), Hid (xs = pre ++ spl 10 (bs r)) ∧ wr.cell? ⟨B, 0, none⟩ = some (.string r) ∧ r.size ≤ 100000 ∧ wr.frozen? ⟨B, 0, none⟩ = false ∧ wr.cell? ⟨B + 1, 0, none⟩ = some (.string C) ∧ wr.cell? ⟨B + 2, 0, none⟩ = some (.int .i64 0) ∧ Hid (J pre wr ∧ W.heap.size ≤ wr.heap.size)) (fun _ wr => leftAt B wr)
  case atStart =>
    obtain ⟨q1, q2, q3, q4, q5, q6, q7⟩ := ST.out
    exact ⟨[], s, Lib.hid q1, q2, q3, q4, by rw [← HC.out]; exact q5, q6, Lib.hid q7⟩
  case round =>
    clear ST c0 c1 c2 g0
    obtain ⟨pre, r, HX, r0, hr, rf, r1, r2, HJ0⟩ := hrel
    have ix := fun X => index_c r 10 X
    rw [HC.out] at ix
    have LE := leftAt_eq r0
    rcases index_part r 10 with ⟨hi, hno⟩ | ⟨o, hi, ho, hsp, hno⟩
    · have hx1 : spl 10 (bs r) = [bs r] := spl_no hno
      have hX2 : xs = pre ++ [bs r] := by rw [HX.out, hx1]
      have hy := yield_str (HY.out pre (bs r) wr HJ0.out.1 HJ0.out.2 (by rw [hX2]; exact List.prefix_rfl)) (v' := .string r) (by show Value.string (str (bs r)) = _; rw [str_bs])
      obtain ⟨fn, tmps, assign, body, hyy, hR⟩ := hy
      rw [hi] at ix
      have IX := Lib.hid ix; have HX2 := Lib.hid hX2; have HRR := Lib.hid hR
      clear ix hx1 hX2 hi hno hR HY HX
      gi_wp2_with (refine ⟨trivial, ?_⟩; gi_at_call 139; refine (callsIn_wide.2 (IX.out _)).mono ?_; rintro _ w1 ⟨rfl, rfl⟩)
      refine HRR.out.mono ?_
      rintro e W3 (⟨rfl, hJ3, hk3, hz3⟩ | ⟨rfl, hJx3, -, -⟩)
      · gi_wp2
        go_end0
        exact ⟨⟨_, rfl⟩, .inl (by rw [HX2.out]; exact hJ3)⟩
      · gi_wp2
        go_end0
        exact ⟨⟨_, rfl⟩, .inr ⟨_, hJx3⟩⟩
    · obtain ⟨x, hxd⟩ : ∃ x, (bs r).take o = x := ⟨_, rfl⟩
      have hso : spl 10 (bs r) = x :: spl 10 ((bs r).drop (o + 1)) := by
        conv => lhs; rw [hsp]
        rw [hxd] at hno ⊢
        exact spl_at _ hno
      have hbr : bs (str ((bs r).drop (o + 1))) = (bs r).drop (o + 1) := bs_str (fun c hc => bs_small r c (List.mem_of_mem_drop hc))
      have hst : r.extract 0 o = str x := by
        have e : r = str (bs r) := (str_bs r).symm
        have h1 : (str (bs r)).extract 0 o = str x := by rw [str_extract, List.drop_zero, Nat.sub_zero, hxd]
        rwa [← e] at h1
      have hst2 : r.extract (o + 1) r.size = str ((bs r).drop (o + 1)) := by
        have e : r = str (bs r) := (str_bs r).symm
        have h1 : (str (bs r)).extract (o + 1) r.size = str ((bs r).drop (o + 1)) := by
          rw [str_extract, List.take_of_length_le (by rw [List.length_drop, bs_length]; exact Nat.le_refl _)]
        rwa [← e] at h1
      have hts : (str ((bs r).drop (o + 1))).size = r.size - (o + 1) := by rw [str_size, List.length_drop, bs_length]
      rw [← hbr] at hso
      generalize str ((bs r).drop (o + 1)) = T at *
      have hX2 : xs = (pre ++ [x]) ++ spl 10 (bs T) := by rw [HX.out, hso, List.append_assoc]; rfl
      have hy := HY.out pre x wr HJ0.out.1 HJ0.out.2 (by rw [hX2]; exact List.prefix_append _ _)
      obtain ⟨fn, tmps, assign, body, hyy, hR⟩ := hy
      generalize hXS : str x = XS at *
      rw [hi] at ix
      have IX := Lib.hid ix; have HX2 := Lib.hid hX2; have HRR := Lib.hid hR
      have oi0 : (0 : Int) ≤ (o : Int) := by omega
      clear ix hX2 hi hno hR HX hso hbr hsp hxd
      gi_wp2_with (refine ⟨trivial, ?_⟩; gi_at_call 139; refine (callsIn_wide.2 (IX.out _)).mono ?_; rintro _ w1 ⟨rfl, rfl⟩)
      refine HRR.out.mono ?_
      rintro e W3 (⟨rfl, hJ3, hk3, hz3⟩ | ⟨rfl, hJx3, -, -⟩)
      · have k0 := (cell_keepB hk3 (o := 0) (b := B) (.inl ⟨Nat.le_refl _, by omega⟩)).trans r0
        have k1 := (cell_keepB hk3 (o := 0) (b := B + 1) (.inl ⟨by omega, by omega⟩)).trans r1
        have k2 := (cell_keepB hk3 (o := 0) (b := B + 2) (.inl ⟨by omega, by omega⟩)).trans r2
        have kf := (frozen_keepB hk3 (o := 0) (b := B) (.inl ⟨Nat.le_refl _, by omega⟩)).trans rf
        have J3 := Lib.hid (show J (pre ++ [x]) W3 ∧ W.heap.size ≤ W3.heap.size from ⟨hJ3, Nat.le_trans HJ0.out.2 hz3⟩)
        clear hk3 hJ3
        gi_wp2
        have e0 := World.cell?_setCell_same W3 ⟨B, 0, none⟩ (.string T) k0
        refine ⟨⟨pre ++ [x], T, HX2, e0, by omega, by rw [World.frozen?_setCell]; exact kf, (World.cell?_setCell_other _ _ _ _ (by simp)).trans k1, (World.cell?_setCell_other _ _ _ _ (by simp)).trans k2, Lib.hid ⟨HJ.out _ _ _ J3.out.1 ((Turns.setCell W3 B 0 (.string T)).mono fun k e => .inl (by subst e; exact ⟨Nat.le_refl _, by omega⟩)), by simp; exact J3.out.2⟩⟩, ?_⟩
        rw [leftAt_eq e0, LE]
        omega
      · gi_wp2
        refine bodyPost_ret (results_none rfl _ _ _) rfl ?_
        exact ⟨⟨_, rfl⟩, .inr ⟨_, hJx3⟩⟩
end Go.Proofs.YtodlgbihdehmbaaGreatDoor.Cf.KP
/-
  The program's own iterator over a text's lines that are not idle (layer 11): what it owes.
-/
set_option linter.unusedSimpArgs false
set_option linter.unusedVariables false
namespace Go.Proofs.YtodlgbihdehmbaaGreatDoor.Cf.KP
open Go.RowKit Go.Shelf KR
theorem splitSeq_c (s sep : ByteArray) (w : World) : Calls Tryz.prog 106 #[.string s, .string sep, .int .i64 0] w fun e w' => e = .returned (.func (.func 137) #[] #[.pointer (some ⟨w.heap.size + 1, 0, none⟩), .pointer (some ⟨w.heap.size, 0, none⟩), .pointer (some ⟨w.heap.size + 2, 0, none⟩)]) ∧ w' = ((w.alloc (.cells #[.string s] 9)).alloc (.cells #[.string sep] 9)).alloc (.cells #[.int .i64 0] 3) := by
  go_enter Tryz.func106, Tryz.ntmps106
  go_wp2
  go_ret
  exact ⟨rfl, rfl⟩
theorem seq_c (s sep : ByteArray) (w : World) : Calls Tryz.prog 78 #[.string s, .string sep] w fun e w' => e = .returned (.func (.func 137) #[] #[.pointer (some ⟨w.heap.size + 1, 0, none⟩), .pointer (some ⟨w.heap.size, 0, none⟩), .pointer (some ⟨w.heap.size + 2, 0, none⟩)]) ∧ w' = ((w.alloc (.cells #[.string s] 9)).alloc (.cells #[.string sep] 9)).alloc (.cells #[.int .i64 0] 3) := by
  have h := Lib.hid (splitSeq_c s sep w)
  go_enter Tryz.func78, Tryz.ntmps78
  go_wp2_with fail
  refine h.out.mono ?_; rintro _ w1 ⟨rfl, rfl⟩
  go_wp2
  go_ret
  exact ⟨rfl, rfl⟩
theorem lines_c0 (s : ByteArray) (w : World) : Calls Tryz.prog 71 #[.string s] w fun e w' => e = .returned (.func (.func 94) #[] #[.pointer (some ⟨w.heap.size, 0, none⟩)]) ∧ w' = w.alloc (.cells #[.string s] 9) := by
  go_enter Tryz.func71, Tryz.ntmps71
  go_wp2
  go_ret
  exact ⟨rfl, rfl⟩
theorem chain4 (w : World) (o0 o1 o2 o3 : Obj) :
    ((((w.alloc o0).alloc o1).alloc o2).alloc o3).heap.size = w.heap.size + 4 ∧ Below w.heap.size w ((((w.alloc o0).alloc o1).alloc o2).alloc o3) ∧
    ((((w.alloc o0).alloc o1).alloc o2).alloc o3).heap[w.heap.size]? = some o0 ∧ ((((w.alloc o0).alloc o1).alloc o2).alloc o3).heap[w.heap.size + 1]? = some o1 ∧
    ((((w.alloc o0).alloc o1).alloc o2).alloc o3).heap[w.heap.size + 2]? = some o2 ∧ ((((w.alloc o0).alloc o1).alloc o2).alloc o3).heap[w.heap.size + 3]? = some o3 := by
  have n : ∀ (v : World) (o : Obj), (v.alloc o).heap[v.heap.size]? = some o := fun v o => World.alloc_heap_new v o
  have k : ∀ (v : World) (o : Obj) (i : Nat), i < v.heap.size → (v.alloc o).heap[i]? = v.heap[i]? := fun v o i h => Below.heap_alloc v o i h
  refine ⟨by simp, bnext (bnext (bnext (alloc_below _ _) (alloc_below _ _)) (alloc_below _ _)) (alloc_below _ _), ?_, ?_, ?_, ?_⟩
  · rw [k _ _ _ (by simp only [World.size_alloc]; omega), k _ _ _ (by simp only [World.size_alloc]; omega), k _ _ _ (by simp)]; exact n w o0
  · rw [k _ _ _ (by simp only [World.size_alloc]; omega), k _ _ _ (by simp)]; have := n (w.alloc o0) o1; simpa using this
  · rw [k _ _ _ (by simp)]; have := n ((w.alloc o0).alloc o1) o2; simpa using this
  · have := n (((w.alloc o0).alloc o1).alloc o2) o3; simpa using this
theorem keep_prefix {l : List Nat} {pre : List (List Nat)} {x : List Nat} (h : pre ++ [x] <+: spl 10 l) : keepV (pre ++ [x]) <+: linesV l := by
  obtain ⟨r, hr⟩ := h
  unfold linesV
  rw [← hr, keepV_app (pre ++ [x]) r]
  exact List.prefix_append _ _
attribute [local go_sem] Oper.semAt_some
set_option maxRecDepth 100000 in
set_option maxHeartbeats 2000000 in
theorem lines_iter (n T : Nat) (hn : 3 ≤ n) (s : ByteArray) (hs : s.size ≤ 100000) (w : World) (h0 : w.cell? ⟨T, 0, none⟩ = some (.string s)) :
    Iter Fence.wide n Tryz.prog 94 #[.pointer (some ⟨T, 0, none⟩)] (fun p : List Nat => .string (str p)) (· = T) (fun _ => False) 6 (linesV (bs s)) w := by
  intro l J Jx W hK hB hJ hJx hY hJ0
  have hn1 : 1 ≤ n := by omega
  have hn2 : 1 ≤ n - 1 := by omega
  have hn3 : 1 ≤ n - 1 - 1 := by omega
  have c0 := (cell_keepB hK (o := 0) (b := T) rfl).trans h0
  have hT : T < W.heap.size := hB T rfl
  have HJ := Lib.hid hJ; have HJx := Lib.hid hJx; have HY := Lib.hid hY; have HJ0 := Lib.hid hJ0; have HT := Lib.hid hT
  clear hK hB hJ hJx hY hJ0 h0 hT
  refine callsIn_of_wp_marks Tryz.func94 rfl trivial ?_ rfl
  simp only [Tryz.ntmps94, List.size_toArray, List.length_cons, List.length_nil, Nat.reduceAdd, Nat.reduceSub, Array.replicate_succ, Array.replicate_zero, List.push_toArray, List.append_toArray, List.nil_append, List.cons_append]
  have c1 := cellb (alloc_below W (.cells #[.func (.yield l) #[] #[]] 84)) c0
  gi_wp2_with (refine ⟨trivial, ?_⟩; gi_at_call 78; refine (callsIn_wide.2 (seq_c s ⟨#[10]⟩ _)).mono ?_; rintro _ w1 ⟨rfl, rfl⟩)
  obtain ⟨z0, zb, q0, q1, q2, q3⟩ := chain4 W (.cells #[.func (.yield l) #[] #[]] 84) (.cells #[.string s] 9) (.cells #[.string ⟨#[10]⟩] 9) (.cells #[.int .i64 0] 3)
  (try simp only [World.size_alloc, Nat.add_assoc, Nat.reduceAdd])
  obtain ⟨W0, hW0⟩ : ∃ W0, ((((W.alloc (.cells #[.func (.yield l) #[] #[]] 84)).alloc (.cells #[.string s] 9)).alloc (.cells #[.string ⟨#[10]⟩] 9)).alloc (.cells #[.int .i64 0] 3)) = W0 := ⟨_, rfl⟩
  rw [hW0] at z0 zb q0 q1 q2 q3 ⊢
  clear hW0
  have cof : ∀ {k : Nat} {u : Value} {t : TypeId}, W0.heap[k]? = some (.cells #[u] t) → W0.cell? ⟨k, 0, none⟩ = some u ∧ W0.frozen? ⟨k, 0, none⟩ = false := fun h => ⟨cell_of_row _ _ 0 _ _ (0, 0) h, frozen_of_row _ _ 0 _ _ h⟩
  have it := seq_iter (n - 1) (W.heap.size + 1) (by omega) s (by omega) W0 (cof q1).1 (cof q1).2 (cof q2).1 (cof q3).1
  have yb := (cof q0).1
  have OW : ∀ k, OwnB (Own3 (W.heap.size + 1)) W0.heap.size (0 + 2) k → OwnB (· = T) W.heap.size 6 k := fun k hk => by
    rw [z0] at hk
    rcases hk with hk | hk
    · unfold Own3 at hk; exact .inr (by omega)
    · exact .inr (by omega)
  have OM : ∀ k, OwnB (Own3 (W.heap.size + 1)) W0.heap.size (0 + 2) k → OwnB (fun _ => False) W.heap.size 6 k := fun k hk => by
    rw [z0] at hk
    rcases hk with hk | hk
    · unfold Own3 at hk; exact .inr (by omega)
    · exact .inr (by omega)
  have NY : ∀ k, OwnB (Own3 (W.heap.size + 1)) W0.heap.size (0 + 2) k → k ≠ W.heap.size := fun k hk => by
    rw [z0] at hk
    rcases hk with hk | hk
    · unfold Own3 at hk; omega
    · omega
  have J0 : J [] W0 := HJ.out _ _ _ HJ0.out ((Turns.of_below (S := fun _ => False) zb).mono fun _ e => e.elim)
  clear q0 q1 q2 q3 cof c0 c1
  refine wp_range (w0 := W0) (K := Own3 (W.heap.size + 1)) (c := 0) (xs := spl 10 (bs s)) (enc := fun p : List Nat => .string (str p)) rfl hn1 (gf := 137) (lb := #[.pointer (some ⟨W.heap.size + 1 + 1, 0, none⟩), .pointer (some ⟨W.heap.size + 1, 0, none⟩), .pointer (some ⟨W.heap.size + 1 + 2, 0, none⟩)]) rfl trivial (enters_of Tryz.func137 (by kernel_rfl) rfl)
    it (fun _ h => h) (KeepB.refl _ _) (fun k hk => by unfold Own3 at hk; omega) rfl
    (fun pre A => J (keepV pre) A ∧ A.cell? ⟨W.heap.size, 0, none⟩ = some (.func (.yield l) #[] #[]))
    (fun c' _ A => c' = .ret ∧ ∃ q, Jx q A)
    ?hI ?hIx ⟨J0, yb⟩
    (fun x => { tmps := #[.func (.yield l) #[] #[], .pointer (some ⟨T, 0, none⟩), .pointer (some ⟨W.heap.size, 0, none⟩), .string (str x), undef, .string s, .func (.func 137) #[] #[.pointer (some ⟨W.heap.size + 2, 0, none⟩), .pointer (some ⟨W.heap.size + 1, 0, none⟩), .pointer (some ⟨W.heap.size + 3, 0, none⟩)], .string (str x), undef, undef, undef, undef, undef, undef, undef, undef, undef, undef, undef, undef], defers := [] }) ?assign ?body ?done ?stop
  case hI =>
    rintro pre A A' ⟨h1, h2⟩ t
    exact ⟨HJ.out _ _ _ h1 (t.mono OM), t.cell h2 (fun h => NY _ h rfl)⟩
  case hIx =>
    rintro c' pre A A' ⟨hc, q, hq⟩ t
    exact ⟨hc, q, HJx.out _ _ _ hq (t.mono OM)⟩
  case assign =>
    intro l' x A G hG
    gi_wp2
    exact hG
  case body =>
    rintro l' pre x A ⟨h1, h2⟩ hz hpre
    rw [z0] at hz
    have hx : x ∈ spl 10 (bs s) := hpre.subset (by simp)
    have x8 : Byt x := fun c hc => bs_small s c (spl_mem 10 _ x hx c hc)
    have x5 : x.length ≤ 100000 := by have := spl_part_length 10 _ x hx; rw [bs_length] at this; omega
    have ts := fun X => trimSuffix_c (str x) (by rw [str_size]; omega) X
    rw [bs_str x8] at ts
    have m1 : Byt (crV x) := fun c hc => x8 c (crV_mem hc)
    have tr := fun X => trim_c (str (crV x)) (by rw [str_size]; have := crV_length x; omega) X
    rw [bs_str m1, show blB (crV x) = lnV x from rfl] at tr
    have m2 : Byt (lnV x) := fun c hc => x8 c (lnV_mem hc)
    have idl := fun X => isIdle_c (str (lnV x)) X
    rw [bs_str m2] at idl
    have KS := keepV_snoc pre x
    have KP := keep_prefix hpre
    have OA : ∀ k, OwnB (· = T) W.heap.size 6 k → k < A.heap.size := fun k hk => by
      have := HT.out
      rcases hk with hk | hk <;> omega
    obtain ⟨XS, hXS⟩ : ∃ XS, str x = XS := ⟨_, rfl⟩
    obtain ⟨CS, hCS⟩ : ∃ CS, str (crV x) = CS := ⟨_, rfl⟩
    obtain ⟨LS, hLS⟩ : ∃ LS, str (lnV x) = LS := ⟨_, rfl⟩
    rw [hXS] at ts ⊢
    rw [hCS] at ts tr
    rw [hLS] at tr idl
    have TS := Lib.hid ts; have TR := Lib.hid tr; have ID := Lib.hid idl; have H1 := Lib.hid h1; have HOA := Lib.hid OA
    cases hk : kept (lnV x) with
    | false =>
      rw [hk, if_neg (by decide)] at KS
      rw [hk] at ID
      have FIN := Lib.hid (show ∀ A2, Below A.heap.size A A2 → KeepB (OwnB (Own3 (W.heap.size + 1)) W0.heap.size (0 + 2)) A A2 ∧ A.heap.size ≤ A2.heap.size ∧ J (keepV (pre ++ [x])) A2 ∧ A2.cell? ⟨W.heap.size, 0, none⟩ = some (.func (.yield l) #[] #[]) from fun A2 hb =>
        ⟨KeepB.below hb (fun k hk => OA k (OW k hk)), hb.size, by rw [KS]; exact HJ.out _ _ _ h1 ((Turns.of_below (S := fun _ => False) hb).mono fun _ e => e.elim), cellb hb h2⟩)
      clear ts tr idl hx x8 x5 m1 m2 KS KP hXS hCS hLS hk h1 OA it J0 OW OM NY yb zb
      gi_wp2_with (first
        | (refine ⟨trivial, ?_⟩; gi_at_call 95; refine (CallsIn.inRound l' (callsIn_wide.2 (TS.out _))).mono ?_; rintro _ w1 ⟨rfl, rfl⟩)
        | (refine ⟨trivial, ?_⟩; gi_at_call 80; refine (CallsIn.inRound l' (callsIn_wide.2 (TR.out _))).mono ?_; rintro _ w2 ⟨rfl, hb2⟩; have y2 := cellb hb2 h2)
        | (refine ⟨trivial, ?_⟩; gi_at_call 96; refine (CallsIn.inRound l' (callsIn_wide.2 (ID.out _))).mono ?_; rintro _ w3 ⟨rfl, rfl⟩))
      refine ⟨fun _ h => (by cases h), ?_⟩
      gi_wp2
      exact FIN.out _ hb2
    | true =>
      rw [hk, if_pos rfl] at KS
      rw [hk] at ID
      rw [KS] at KP
      have HYB := Lib.hid (show ∀ A2, Below A.heap.size A A2 → YieldAt Fence.wide (n - 1) Tryz.prog l #[.string LS] A2 fun e A' => (e = .returned (.bool true) ∧ J (keepV pre ++ [lnV x]) A' ∧ KeepB (OwnB (· = T) W.heap.size 6) A2 A' ∧ A2.heap.size ≤ A'.heap.size) ∨ (e = .returned (.bool false) ∧ Jx (keepV pre ++ [lnV x]) A' ∧ KeepB (OwnB (· = T) W.heap.size 6) A2 A' ∧ A2.heap.size ≤ A'.heap.size) from fun A2 hb => by
        have h3 := HY.out (keepV pre) (lnV x) A2 (HJ.out _ _ _ h1 ((Turns.of_below (S := fun _ => False) hb).mono fun _ e => e.elim)) (by have := hb.size; omega) KP
        rw [hLS] at h3
        exact h3)
      have FIN := Lib.hid (show ∀ A2 A3, Below A.heap.size A A2 → KeepB (OwnB (· = T) W.heap.size 6) A2 A3 → A2.heap.size ≤ A3.heap.size → KeepB (OwnB (Own3 (W.heap.size + 1)) W0.heap.size (0 + 2)) A A3 ∧ A.heap.size ≤ A3.heap.size ∧ A3.cell? ⟨W.heap.size, 0, none⟩ = some (.func (.yield l) #[] #[]) from fun A2 A3 hb hkb hz3 =>
        ⟨(KeepB.below hb (fun k hk => OA k (OW k hk))).trans (hkb.mono OW), Nat.le_trans hb.size hz3, (cell_keepB hkb (b := W.heap.size) (o := 0) (.inr (by omega))).trans (cellb hb h2)⟩)
      have HKS := Lib.hid KS
      clear ts tr idl hx x8 x5 m1 m2 KS KP hXS hCS hLS hk h1 OA it J0 OW OM NY yb zb
      gi_wp2_with (first
        | (refine ⟨trivial, ?_⟩; gi_at_call 95; refine (CallsIn.inRound l' (callsIn_wide.2 (TS.out _))).mono ?_; rintro _ w1 ⟨rfl, rfl⟩)
        | (refine ⟨trivial, ?_⟩; gi_at_call 80; refine (CallsIn.inRound l' (callsIn_wide.2 (TR.out _))).mono ?_; rintro _ w2 ⟨rfl, hb2⟩; have y2 := cellb hb2 h2; obtain ⟨fn, tmps, assign, body, hyy, hR⟩ := HYB.out w2 hb2; have HRR := Lib.hid hR; clear hR)
        | (refine ⟨trivial, ?_⟩; gi_at_call 96; refine (CallsIn.inRound l' (callsIn_wide.2 (ID.out _))).mono ?_; rintro _ w3 ⟨rfl, rfl⟩))
      refine (RoundIn.any rfl l' _ HRR.out).mono ?_
      rintro e A3 (⟨rfl, hJ3, hk3, hz3⟩ | ⟨rfl, hJx3, hk3, hz3⟩)
      · have F3 := Lib.hid (FIN.out _ _ hb2 hk3 hz3)
        gi_wp2
        exact ⟨F3.out.1, F3.out.2.1, by rw [HKS.out]; exact hJ3, F3.out.2.2⟩
      · have F3 := Lib.hid (FIN.out _ _ hb2 hk3 hz3)
        gi_wp2
        exact ⟨F3.out.1, F3.out.2.1, rfl, _, hJx3⟩
  case done =>
    rintro A ⟨h1, h2⟩ hD
    have J1 := Lib.hid (HJ.out _ _ _ h1 ((Turns.putObj A W0.heap.size (.deferred none)).mono fun k e => .inr (by omega)))
    gi_wp2
    refine ⟨by simp, .inl ⟨_, _, rfl, run_takeDeferred hD, ?_⟩⟩
    exact ⟨_, results_none rfl _ _ _, ⟨_, rfl⟩, .inl J1.out⟩
  case stop =>
    rintro c' pre A ⟨rfl, q, hq⟩ hD
    have J1 := Lib.hid (HJx.out _ _ _ hq ((Turns.putObj A W0.heap.size (.deferred none)).mono fun k e => .inr (by omega)))
    gi_wp2
    refine ⟨by simp, .inl ⟨_, _, rfl, run_takeDeferred hD, ?_⟩⟩
    exact ⟨_, results_none rfl _ _ _, ⟨_, rfl⟩, .inr ⟨q, J1.out⟩⟩
end Go.Proofs.YtodlgbihdehmbaaGreatDoor.Cf.KP
/-
  Contracts of the program's functions of layer 11: Parse.
-/
set_option linter.unusedSimpArgs false
set_option linter.unusedVariables false
namespace Go.Proofs.YtodlgbihdehmbaaGreatDoor.Cf.KP
open Go.RowKit Go.Shelf KR
theorem grown_c (B : Nat) (A : Option Addr) (nu c : Nat) (us : List (Value × Sec)) (s : ByteArray) (hs : s.size ≤ 100000) (w : World) (hB : B ≤ w.heap.size) (HU : ScUs B w (.slice A nu c) us) (hnu : us.length = nu) (hfew : Few (us.map Prod.snd)) (hbyt : SecB (us.map Prod.snd)) :
    Calls Tryz.prog 72 #[.slice A nu c, .string s] w (Grew B w (us.map Prod.snd) (bs s)) := by
  have h16 : nu ≤ 16 := by have := hfew.secs; rw [List.length_map] at this; omega
  cases hh : headV (bs s) with
  | some n => exact grown_head B A nu c us s hs n hh w hB HU hnu h16 hbyt
  | none =>
    cases hc : (cutC (bs s)).2 with
    | false => exact grown_wrong B A nu c (us.map Prod.snd) (by rw [List.length_map, hnu]) s hs hh (.inl hc) h16 w hB
    | true =>
      rcases List.eq_nil_or_concat us with rfl | ⟨ui, z, rfl⟩
      · exact grown_wrong B A nu c _ (by rw [List.length_map, hnu]) s hs hh (.inr hnu.symm) h16 w hB
      · rw [List.concat_eq_append] at *
        obtain ⟨u, nm, kl⟩ := z
        have hmem : ((u, nm, kl) : Value × Sec) ∈ ui ++ [(u, nm, kl)] := List.mem_append_right _ (List.mem_singleton.2 rfl)
        obtain ⟨A', c', hv, _, hx⟩ := HU.form
        injection hv with e1 e2 e3
        obtain ⟨gs, hgs, _, _⟩ := hx (by simp)
        obtain rfl := e1.trans hgs
        have hkv : KvNew B w u kl := HU.kv _ hmem
        obtain ⟨Au, cu, hu, _, _⟩ := own_form hkv
        subst hu
        have hm2 : ((nm, kl) : Sec) ∈ (ui ++ [((.slice Au kl.length cu : Value), ((nm, kl) : Sec))]).map Prod.snd := List.mem_map.2 ⟨_, hmem, rfl⟩
        rw [List.length_append, List.length_singleton] at hnu
        exact grown_key B gs nu c ui.length ui Au kl.length cu nm kl s hs hh hc w hB HU rfl hnu h16 rfl (hfew.keys _ hm2) (fun p hp => ((hbyt _ hm2).2 p hp).1)
/-- While the lines are gone through. -/
structure PI (w : World) (pre : List (List Nat)) (v : Value) (us : List (Value × Sec)) (W : World) : Prop where
  low : Below w.heap.size w W
  r0 : W.cell? ⟨w.heap.size, 0, none⟩ = some (.slice none 0 0) ∧ W.frozen? ⟨w.heap.size, 0, none⟩ = false
  r1 : W.cell? ⟨w.heap.size + 1, 0, none⟩ = some (.int .i64 0) ∧ W.frozen? ⟨w.heap.size + 1, 0, none⟩ = false
  l : W.cell? ⟨w.heap.size + 2, 0, none⟩ = some v ∧ W.frozen? ⟨w.heap.size + 2, 0, none⟩ = false
  row : ScUs (w.heap.size + 12) W v us
  run : us.map Prod.snd = (runV [] pre).1 ∧ (runV [] pre).2 = 0
theorem PI.turn {w W W' : World} {pre : List (List Nat)} {v : Value} {us : List (Value × Sec)} {S : Nat → Prop} (h : PI w pre v us W) (t : Turns S W W') (hS : ∀ k, S k → w.heap.size + 3 ≤ k ∧ k < w.heap.size + 12) : PI w pre v us W' := by
  have no : ∀ k, k < w.heap.size + 3 → ¬ S k := fun k hk hs => by have := hS k hs; omega
  have cf : ∀ {k : Nat} {u : Value}, k < w.heap.size + 3 → W.cell? ⟨k, 0, none⟩ = some u ∧ W.frozen? ⟨k, 0, none⟩ = false → W'.cell? ⟨k, 0, none⟩ = some u ∧ W'.frozen? ⟨k, 0, none⟩ = false := fun hk h => ⟨t.cell h.1 (no _ hk), (t.frozen (no _ hk) (World.block_lt_of_cell? W _ h.1)).trans h.2⟩
  have hz : w.heap.size ≤ W.heap.size := h.low.size
  exact ⟨t.low h.low hz (fun k hs => by have := hS k hs; omega), cf (by omega) h.r0, cf (by omega) h.r1, cf (by omega) h.l, h.row.keep (fun g hg hl => t.block g hl (fun hs => by have := hS g hs; omega)), h.run⟩
/-- Behind a call that grows the sections, and the store of what it answers. -/
theorem PI.put {w W W1 : World} {pre : List (List Nat)} {v v' : Value} {us : List (Value × Sec)} (h : PI w pre v us W) (hb : Below (w.heap.size + 12) W W1) (hz : w.heap.size + 12 ≤ W.heap.size) :
    (W1.cell? ⟨w.heap.size + 2, 0, none⟩ = some v ∧ W1.frozen? ⟨w.heap.size + 2, 0, none⟩ = false) ∧
    Below w.heap.size w (W1.setCell ⟨w.heap.size + 2, 0, none⟩ v') ∧
    ((W1.setCell ⟨w.heap.size + 2, 0, none⟩ v').cell? ⟨w.heap.size, 0, none⟩ = some (.slice none 0 0) ∧ (W1.setCell ⟨w.heap.size + 2, 0, none⟩ v').frozen? ⟨w.heap.size, 0, none⟩ = false) ∧
    ((W1.setCell ⟨w.heap.size + 2, 0, none⟩ v').cell? ⟨w.heap.size + 1, 0, none⟩ = some (.int .i64 0) ∧ (W1.setCell ⟨w.heap.size + 2, 0, none⟩ v').frozen? ⟨w.heap.size + 1, 0, none⟩ = false) ∧
    ((W1.setCell ⟨w.heap.size + 2, 0, none⟩ v').cell? ⟨w.heap.size + 2, 0, none⟩ = some v' ∧ (W1.setCell ⟨w.heap.size + 2, 0, none⟩ v').frozen? ⟨w.heap.size + 2, 0, none⟩ = false) ∧
    (∀ k, w.heap.size + 3 ≤ k → k < w.heap.size + 12 → (W1.setCell ⟨w.heap.size + 2, 0, none⟩ v').heap[k]? = W.heap[k]?) ∧
    (∀ g, w.heap.size + 12 ≤ g → (W1.setCell ⟨w.heap.size + 2, 0, none⟩ v').heap[g]? = W1.heap[g]?) ∧ W.heap.size ≤ (W1.setCell ⟨w.heap.size + 2, 0, none⟩ v').heap.size := by
  have cf : ∀ {k : Nat} {u : Value}, k < w.heap.size + 12 → W.cell? ⟨k, 0, none⟩ = some u ∧ W.frozen? ⟨k, 0, none⟩ = false → W1.cell? ⟨k, 0, none⟩ = some u ∧ W1.frozen? ⟨k, 0, none⟩ = false := fun {k} {u} hk h => ⟨(hb.cell (p := ⟨k, 0, none⟩) hk).trans h.1, (hb.frozen (p := ⟨k, 0, none⟩) hk).trans h.2⟩
  have l := cf (by omega) h.l
  have cs : ∀ {k : Nat} {u : Value}, k ≠ w.heap.size + 2 → W1.cell? ⟨k, 0, none⟩ = some u ∧ W1.frozen? ⟨k, 0, none⟩ = false → (W1.setCell ⟨w.heap.size + 2, 0, none⟩ v').cell? ⟨k, 0, none⟩ = some u ∧ (W1.setCell ⟨w.heap.size + 2, 0, none⟩ v').frozen? ⟨k, 0, none⟩ = false := fun {k} {u} hk h =>
    ⟨(World.cell?_setCell_other _ _ _ _ (fun e => hk (by injection e with e1; exact e1.symm))).trans h.1, by rw [World.frozen?_setCell]; exact h.2⟩
  refine ⟨l, (h.low.trans (hb.mono (by omega))).setCell (p := ⟨w.heap.size + 2, 0, none⟩) (by simp only; omega) _, cs (by omega) (cf (by omega) h.r0), cs (by omega) (cf (by omega) h.r1), ⟨World.cell?_setCell_same _ _ _ l.1, by rw [World.frozen?_setCell]; exact l.2⟩, fun k h1 h2 => ?_, fun g hg => Below.heap_setCell _ _ _ g (by simp only; omega), ?_⟩
  · exact (Below.heap_setCell _ _ _ k (by simp only; omega)).trans (hb.block k h2)
  · have := hb.size
    simp; omega
/-- Behind the stores of what is answered, and the last step of the loop's own block. -/
theorem last_cells {N D : Nat} {w W : World} {v0 u : Value} {a0 a1 : Value} {o : Obj} (hb : Below N w W) (hN : N ≤ W.heap.size) (h0 : W.cell? ⟨N, 0, none⟩ = some a0) (h1 : W.cell? ⟨N + 1, 0, none⟩ = some a1) (hD : N + 2 ≤ D) (hK : W.heap[D]? = some (.deferred (some []))) :
    ((W.setCell ⟨N, 0, none⟩ v0).setCell ⟨N + 1, 0, none⟩ u).heap[D]? = some (.deferred (some [])) ∧
    Turns (fun k => k = N ∨ k = N + 1 ∨ k = D) W (((W.setCell ⟨N, 0, none⟩ v0).setCell ⟨N + 1, 0, none⟩ u).putObj D o) ∧
    Below N w (((W.setCell ⟨N, 0, none⟩ v0).setCell ⟨N + 1, 0, none⟩ u).putObj D o) ∧
    (((W.setCell ⟨N, 0, none⟩ v0).setCell ⟨N + 1, 0, none⟩ u).putObj D o).cell? ⟨N, 0, none⟩ = some v0 ∧
    (((W.setCell ⟨N, 0, none⟩ v0).setCell ⟨N + 1, 0, none⟩ u).putObj D o).cell? ⟨N + 1, 0, none⟩ = some u := by
  have t1 := Turns.setCell W N 0 v0
  have t2 := Turns.setCell (W.setCell ⟨N, 0, none⟩ v0) (N + 1) 0 u
  have t3 := Turns.putObj ((W.setCell ⟨N, 0, none⟩ v0).setCell ⟨N + 1, 0, none⟩ u) D o
  have T : Turns (fun k => k = N ∨ k = N + 1 ∨ k = D) W (((W.setCell ⟨N, 0, none⟩ v0).setCell ⟨N + 1, 0, none⟩ u).putObj D o) :=
    (t1.mono fun k e => .inl e).trans ((t2.mono fun k e => .inr (.inl e)).trans (t3.mono fun k e => .inr (.inr e)))
  have hlt := (Array.getElem?_eq_some_iff.1 hK).1
  refine ⟨(t2.block D (Nat.lt_of_lt_of_le hlt t1.size) (by omega)).trans ((t1.block D hlt (by omega)).trans hK), T, T.low hb hN (fun k hk => by rcases hk with e | e | e <;> omega), ?_, ?_⟩
  · refine t3.cell ?_ (by omega)
    exact (World.cell?_setCell_other _ _ _ _ (by simp)).trans (World.cell?_setCell_same _ _ _ h0)
  · refine t3.cell ?_ (by omega)
    exact World.cell?_setCell_same _ _ _ ((World.cell?_setCell_other _ _ _ _ (by simp)).trans h1)
theorem last2 {N : Nat} {w W : World} {v0 u : Value} {a0 a1 : Value} (hb : Below N w W) (h0 : W.cell? ⟨N, 0, none⟩ = some a0) (h1 : W.cell? ⟨N + 1, 0, none⟩ = some a1) :
    Below N w ((W.setCell ⟨N, 0, none⟩ v0).setCell ⟨N + 1, 0, none⟩ u) ∧ ((W.setCell ⟨N, 0, none⟩ v0).setCell ⟨N + 1, 0, none⟩ u).cell? ⟨N, 0, none⟩ = some v0 ∧ ((W.setCell ⟨N, 0, none⟩ v0).setCell ⟨N + 1, 0, none⟩ u).cell? ⟨N + 1, 0, none⟩ = some u ∧
    (∀ k, N + 2 ≤ k → ((W.setCell ⟨N, 0, none⟩ v0).setCell ⟨N + 1, 0, none⟩ u).heap[k]? = W.heap[k]?) ∧ ((W.setCell ⟨N, 0, none⟩ v0).setCell ⟨N + 1, 0, none⟩ u).heap.size = W.heap.size := by
  refine ⟨(hb.setCell (p := ⟨N, 0, none⟩) (Nat.le_refl _) v0).setCell (p := ⟨N + 1, 0, none⟩) (Nat.le_succ _) u, ?_, ?_, fun k hk => ?_, by simp⟩
  · exact (World.cell?_setCell_other _ _ _ _ (by simp)).trans (World.cell?_setCell_same _ _ _ h0)
  · exact World.cell?_setCell_same _ _ _ ((World.cell?_setCell_other _ _ _ _ (by simp)).trans h1)
  · exact (Below.heap_setCell _ _ _ k (by simp only; omega)).trans (Below.heap_setCell _ _ _ k (by simp only; omega))
theorem run_pre0 {pre : List (List Nat)} {x : List Nat} (h0 : (runV [] pre).2 = 0) (hs : (stepV (runV [] pre).1 x).2 = 0) : (runV [] (pre ++ [x])).1 = (stepV (runV [] pre).1 x).1 ∧ (runV [] (pre ++ [x])).2 = 0 := by
  rw [runV_snoc]
  unfold nextV
  rw [if_pos h0, if_pos hs]
  exact ⟨rfl, rfl⟩
theorem run_pre1 {pre xs : List (List Nat)} {x : List Nat} (hp : pre ++ [x] <+: xs) (h0 : (runV [] pre).2 = 0) (hs : (stepV (runV [] pre).1 x).2 ≠ 0) : runV [] xs = ([], (stepV (runV [] pre).1 x).2) := by
  obtain ⟨r, rfl⟩ := hp
  have e : runV [] (pre ++ [x]) = ([], (stepV (runV [] pre).1 x).2) := by
    rw [runV_snoc]
    unfold nextV
    rw [if_pos h0, if_neg hs]
  rw [runV_app, e, if_neg hs]
attribute [local go_sem] Oper.semAt_some
set_option maxRecDepth 100000 in
set_option maxHeartbeats 2000000 in
theorem parse_in (s : ByteArray) (w : World) :
    CallsIn Fence.wide 6 Tryz.prog 49 #[.string s] w fun e w' => ∃ v, e = .returned (.tuple #[v, .int .i64 (confV (bs s)).2]) ∧ SecOut w' v (confV (bs s)).1 ∧ Below w.heap.size w w' := by
  refine callsIn_of_wp_marks Tryz.func49 rfl trivial ?_ rfl
  simp only [Tryz.ntmps49, List.size_toArray, List.length_cons, List.length_nil, Nat.reduceAdd, Nat.reduceSub, Array.replicate_succ, Array.replicate_zero, List.push_toArray, List.append_toArray, List.nil_append, List.cons_append]
  by_cases h4 : 4096 < s.size
  · have HE := Lib.hid (show confV (bs s) = ([], 12) by unfold confV; rw [bs_length, if_pos h4])
    have h4i : (4096 : Int) < (s.size : Int) := by omega
    gi_wp2
    obtain ⟨WX, hWX⟩ : ∃ WX, (w.alloc (.cells #[.slice none 0 0] 56)).alloc (.cells #[.int .i64 12] 24) = WX := ⟨_, rfl⟩
    have x0 : WX.cell? ⟨w.heap.size, 0, none⟩ = some (.slice none 0 0) := by
      rw [← hWX]
      exact cellb (alloc_below _ _) (cell_of_row _ _ 0 _ _ (0, 0) (heap_alloc_new w (.cells #[.slice none 0 0] 56)))
    have x1 : WX.cell? ⟨w.heap.size + 1, 0, none⟩ = some (.int .i64 12) := by
      rw [← hWX]
      have h := cell_of_row _ _ 0 _ _ (0, 0) (heap_alloc_new (w.alloc (.cells #[.slice none 0 0] 56)) (.cells #[.int .i64 12] 24))
      rw [World.size_alloc] at h
      exact h
    have hb : Below w.heap.size w WX := by rw [← hWX]; exact bnext (alloc_below _ _) (alloc_below _ _)
    (try rw [hWX])
    refine ⟨.tuple #[.slice none 0 0, .int .i64 12], ?_, ⟨_, by rw [HE.out], by rw [HE.out]; exact SecOut.nil _, hb⟩⟩
    simp [results, Tryz.results49, go_sem, x0, x1]
  · have h4' : s.size ≤ 4096 := by omega
    have hs : s.size ≤ 100000 := by omega
    have h4i : (s.size : Int) ≤ 4096 := by omega
    have HE := Lib.hid (show confV (bs s) = runV [] (linesV (bs s)) by unfold confV; rw [bs_length, if_neg h4])
    gi_wp2_with (refine ⟨trivial, ?_⟩; gi_at_call 71; refine (callsIn_wide.2 (lines_c0 s _)).mono ?_; rintro _ w1 ⟨rfl, rfl⟩)
    obtain ⟨z0, zb, q0, q1, q2, q3⟩ := chain4 w (.cells #[.slice none 0 0] 56) (.cells #[.int .i64 0] 24) (.cells #[.slice none 0 0] 56) (.cells #[.string s] 9)
    (try simp only [World.size_alloc, Nat.add_assoc, Nat.reduceAdd])
    obtain ⟨W0, hW0⟩ : ∃ W0, ((((w.alloc (.cells #[.slice none 0 0] 56)).alloc (.cells #[.int .i64 0] 24)).alloc (.cells #[.slice none 0 0] 56)).alloc (.cells #[.string s] 9)) = W0 := ⟨_, rfl⟩
    rw [hW0] at z0 zb q0 q1 q2 q3 ⊢
    clear hW0
    have cof : ∀ {k : Nat} {u : Value} {t : TypeId}, W0.heap[k]? = some (.cells #[u] t) → W0.cell? ⟨k, 0, none⟩ = some u ∧ W0.frozen? ⟨k, 0, none⟩ = false := fun h => ⟨cell_of_row _ _ 0 _ _ (0, 0) h, frozen_of_row _ _ 0 _ _ h⟩
    have P0 : PI w [] (.slice none 0 0) [] W0 := ⟨zb, cof q0, cof q1, cof q2, ScUs.nil _ _, rfl, rfl⟩
    have it := lines_iter 5 (w.heap.size + 3) (by decide) s hs W0 (cof q3).1
    have LBY := Lib.hid (lines_byt (byt_bs s))
    have LLN := Lib.hid (fun (t : List Nat) (ht : t ∈ linesV (bs s)) => Nat.le_trans (linesV_length ht) (show (bs s).length ≤ 4096 by rw [bs_length]; exact h4'))
    clear q0 q1 q2 q3 cof zb
    refine wp_range (w0 := W0) (K := (· = w.heap.size + 3)) (c := 6) (xs := linesV (bs s)) (enc := fun p : List Nat => .string (str p)) rfl (by decide) (gf := 94) (lb := #[.pointer (some ⟨w.heap.size + 3, 0, none⟩)]) rfl trivial (enters_of Tryz.func94 (by kernel_rfl) rfl)
      it (fun _ h => h.elim) (KeepB.refl _ _) (fun k hk => by omega) rfl
      (fun pre A => (∃ v us, PI w pre v us A) ∧ ∀ t ∈ pre, Byt t)
      (fun c' _ A => c' = .ret ∧ ∃ e : Int, Below w.heap.size w A ∧ A.cell? ⟨w.heap.size, 0, none⟩ = some (.slice none 0 0) ∧ A.cell? ⟨w.heap.size + 1, 0, none⟩ = some (.int .i64 e) ∧ confV (bs s) = ([], e))
      ?hI ?hIx ⟨⟨_, _, P0⟩, fun t h => nomatch h⟩
      (fun x => { tmps := #[.string s, undef, .pointer (some ⟨w.heap.size, 0, none⟩), .pointer (some ⟨w.heap.size + 1, 0, none⟩), .pointer (some ⟨w.heap.size + 2, 0, none⟩), .string (str x), undef, .string s, .int .i64 (s.size : Int), .bool (decide ((4096 : Int) < (s.size : Int))), .string s, .func (.func 94) #[] #[.pointer (some ⟨w.heap.size + 3, 0, none⟩)], .string (str x), undef, undef, undef, undef, undef, undef, undef, undef, undef, undef], defers := [] }) ?assign ?body ?done ?stop
    case hI =>
      rintro pre A A' ⟨⟨v, us, h⟩, hb⟩ t
      exact ⟨⟨v, us, h.turn t (fun k hk => hk.elim (fun e => False.elim e) (fun e => by omega))⟩, hb⟩
    case hIx =>
      rintro c' pre A A' ⟨hc, e, hb, h0, h1, hp⟩ t
      have hl := World.block_lt_of_cell? A _ h1
      simp only at hl
      exact ⟨hc, e, t.low hb (by omega) (fun k hk => hk.elim (fun e => False.elim e) (fun e => by omega)), t.cell h0 (fun h => h.elim (fun e => False.elim e) (fun e => by omega)), t.cell h1 (fun h => h.elim (fun e => False.elim e) (fun e => by omega)), hp⟩
    case assign =>
      intro l' x A G hG
      gi_wp2
      exact hG
    case body =>
      rintro l' pre x A ⟨⟨v, us, hP⟩, hby⟩ hz hpre
      rw [z0] at hz
      have hx : x ∈ linesV (bs s) := hpre.subset (by simp)
      have x8 := LBY.out x hx
      have x5 := LLN.out x hx
      obtain ⟨Av, cv, rfl, hcv, _⟩ := hP.row.form
      have hbp : ∀ t ∈ pre, Byt t := hby
      have few : Few (us.map Prod.snd) := by rw [hP.run.1]; exact run_few _ ⟨Nat.zero_le _, fun x hx => nomatch hx⟩
      have byt : SecB (us.map Prod.snd) := by rw [hP.run.1]; exact run_byt _ (fun x hx => nomatch hx) hbp
      have GC0 := grown_c (w.heap.size + 12) Av us.length cv us (str x) (by rw [str_size]; omega) A (by omega) hP.row rfl few byt
      rw [bs_str x8] at GC0
      have HP := Lib.hid hP
      obtain ⟨l0, lf0⟩ := hP.l
      obtain ⟨e', he'⟩ : ∃ e', (stepV (us.map Prod.snd) x).2 = e' := ⟨_, rfl⟩
      have GC := Lib.hid (GC0.mono fun e w' ⟨A2, n2, c2, h1, h2, h3⟩ => (show ∃ A2 n2 c2, e = Ending.returned (.tuple #[.slice A2 n2 c2, .int .i64 e']) ∧ Hid ((stepV (us.map Prod.snd) x).2 = 0 → ∃ us' : List (Value × Sec), us'.map Prod.snd = (stepV (us.map Prod.snd) x).1 ∧ ScUs (w.heap.size + 12) w' (.slice A2 n2 c2) us') ∧ Hid (Below (w.heap.size + 12) A w') from ⟨A2, n2, c2, by rw [h1, he'], h2, h3⟩))
      have GO := Lib.hid (show ∀ (A1 : World) (A2 : Option Addr) (n2 c2 : Nat), ((stepV (us.map Prod.snd) x).2 = 0 → ∃ us', us'.map Prod.snd = (stepV (us.map Prod.snd) x).1 ∧ ScUs (w.heap.size + 12) A1 (.slice A2 n2 c2) us') → Below (w.heap.size + 12) A A1 → e' = 0 →
          KeepB (OwnB (· = w.heap.size + 3) W0.heap.size (6 + 2)) A (A1.setCell ⟨w.heap.size + 2, 0, none⟩ (.slice A2 n2 c2)) ∧ A.heap.size ≤ (A1.setCell ⟨w.heap.size + 2, 0, none⟩ (.slice A2 n2 c2)).heap.size ∧ (∃ v us, PI w (pre ++ [x]) v us (A1.setCell ⟨w.heap.size + 2, 0, none⟩ (.slice A2 n2 c2))) ∧ ∀ t ∈ pre ++ [x], Byt t from fun A1 A2 n2 c2 hu hb h0 => by
        obtain ⟨m0, m1, m2, m3, m4, m5, m6, m7⟩ := hP.put (v' := .slice A2 n2 c2) hb (by omega)
        obtain ⟨us', hm', hU'⟩ := hu (he'.trans h0)
        refine ⟨fun k hk => m5 k (by rcases hk with e | e <;> omega) (by rcases hk with e | e <;> omega), m7, ⟨_, us', m1, m2, m3, m4, hU'.keep (fun g hg _ => m6 g hg), ?_⟩, fun t ht => ?_⟩
        · have hr := run_pre0 (x := x) hP.run.2 (by rw [← hP.run.1]; exact he'.trans h0)
          rw [← hP.run.1] at hr
          exact ⟨hm'.trans hr.1.symm, hr.2⟩
        · rcases List.mem_append.1 ht with ht | ht
          · exact hby t ht
          · obtain rfl := List.mem_singleton.1 ht
            exact x8)
      have NO := Lib.hid (show e' ≠ 0 → confV (bs s) = ([], e') from fun h => by
        rw [HE.out, run_pre1 hpre hP.run.2 (by rw [← hP.run.1, he']; exact h), ← hP.run.1, he'])
      have PUT := Lib.hid (fun (A1 : World) (A2 : Option Addr) (n2 c2 : Nat) (hb : Below (w.heap.size + 12) A A1) => hP.put (v' := .slice A2 n2 c2) hb (by omega))
      have HEE := Lib.hid he'
      generalize str x = XS at *
      obtain ⟨nu, hnu⟩ : ∃ nu, us.length = nu := ⟨_, rfl⟩
      rw [hnu] at l0 GC hcv
      clear GC0 hP hby hx x8 x5 few byt hbp hpre he' it P0
      by_cases h0 : e' = 0
      · subst h0
        gi_wp2_with (refine ⟨trivial, ?_⟩; gi_at_call 72; refine (CallsIn.inRound l' (callsIn_wide.2 GC.out)).mono ?_; rintro _ A1 ⟨A2, n2, c2, rfl, HU, HB⟩; obtain ⟨⟨m0, mf0⟩, -⟩ := PUT.out A1 A2 n2 c2 HB.out; rw [hnu] at m0)
        exact GO.out A1 A2 n2 c2 HU.out HB.out (by first | rfl | trivial)
      · have i1 : (e' != 0) = true := by rw [bne_iff_ne]; exact h0
        gi_wp2_with (refine ⟨trivial, ?_⟩; gi_at_call 72; refine (CallsIn.inRound l' (callsIn_wide.2 GC.out)).mono ?_; rintro _ A1 ⟨A2, n2, c2, rfl, HU, HB⟩; obtain ⟨⟨m0, mf0⟩, k1, ⟨k2, kf2⟩, ⟨k3, kf3⟩, -, k5, k6, k7⟩ := PUT.out A1 A2 n2 c2 HB.out; have K1 := Lib.hid k1; have K5 := Lib.hid k5; have K7 := Lib.hid k7; clear k1 k5 k6 k7; rw [hnu] at m0)
        obtain ⟨d1, d2, d3, d4, d5⟩ := last2 (v0 := .slice none 0 0) (u := .int .i64 e') K1.out k2 k3
        exact ⟨fun k hk => (d4 k (by rcases hk with e | e <;> omega)).trans (K5.out k (by rcases hk with e | e <;> omega) (by rcases hk with e | e <;> omega)), by rw [d5]; exact K7.out, rfl, e', d1, d2, d3, NO.out h0⟩
    case done =>
      rintro A ⟨⟨v, us, hP⟩, -⟩ hD
      rw [z0] at hD ⊢
      obtain ⟨AL, cl, rfl, hlc, _⟩ := hP.row.form
      obtain ⟨q, hq⟩ : ∃ q, us.length = q := ⟨_, rfl⟩
      have SEV := Lib.hid (show confV (bs s) = (us.map Prod.snd, 0) by
        have e := hP.run
        rw [HE.out]
        exact Prod.ext e.1.symm e.2)
      have ROW := Lib.hid hP.row
      rw [hq] at hP ROW
      obtain ⟨r0, rf0⟩ := hP.r0
      obtain ⟨r1, rf1⟩ := hP.r1
      obtain ⟨l0, -⟩ := hP.l
      have lt : w.heap.size + 4 < A.heap.size := (Array.getElem?_eq_some_iff.1 hD).1
      have FIN := Lib.hid (last_cells (v0 := .slice AL q cl) (u := .int .i64 0) (D := w.heap.size + 4) (o := .deferred none) hP.low (by omega) r0 r1 (by omega) hD)
      clear hP it P0 hq
      gi_wp2
      obtain ⟨d1, d2, d3, d4, d5⟩ := FIN.out
      refine ⟨by simp, .inl ⟨_, _, rfl, run_takeDeferred d1, ?_⟩⟩
      refine ⟨.tuple #[.slice AL q cl, .int .i64 0], ?_, ⟨_, by rw [SEV.out], by rw [SEV.out]; exact (ROW.out.keep (fun g hg hl => d2.block g hl (by omega))).out, d3⟩⟩
      simp [results, Tryz.results49, go_sem, d4, d5]
    case stop =>
      rintro c' pre A ⟨rfl, e, hb, h0, h1, hp⟩ hD
      rw [z0] at hD ⊢
      gi_wp2
      refine ⟨by simp, .inl ⟨_, _, rfl, run_takeDeferred hD, ?_⟩⟩
      have hl := World.block_lt_of_cell? A _ h1
      simp only at hl
      have t := Turns.putObj A (w.heap.size + 4) (.deferred none)
      have d4 := t.cell h0 (by omega)
      have d5 := t.cell h1 (by omega)
      refine ⟨.tuple #[.slice none 0 0, .int .i64 e], ?_, ⟨_, by rw [hp], by rw [hp]; exact SecOut.nil _, t.low hb (by omega) (fun k hk => by omega)⟩⟩
      simp [results, Tryz.results49, go_sem, d4, d5]
theorem parse_p (s : ByteArray) (w : World) : Calls Tryz.prog 49 #[.string s] w fun e w' => ∃ v, e = .returned (.tuple #[v, .int .i64 (confV (bs s)).2]) ∧ SecOut w' v (confV (bs s)).1 ∧ Below w.heap.size w w' := callsIn_wide.1 (parse_in s w)
end Go.Proofs.YtodlgbihdehmbaaGreatDoor.Cf.KP
/-
  Contracts of the program's functions of layer 12: a key's value, lists of keys, what a section must have.
-/
set_option linter.unusedSimpArgs false
set_option linter.unusedVariables false
namespace Go.Proofs.YtodlgbihdehmbaaGreatDoor.LP
open Go.RowKit Cf Cf.KR Cf.KP
theorem getV_at {L : List KV} {nm : List Nat} {k : Nat} {x : KV} (hk : L[k]? = some x) (hx : x.1 = nm) (h : ∀ (j : Nat) (y : KV), j < k → L[j]? = some y → y.1 ≠ nm) : getV L nm = some x.2 := by
  unfold getV
  have : L.find? (fun p => p.1 == nm) = some x := by
    rw [List.find?_eq_some_iff_getElem]
    obtain ⟨hlt, e⟩ := List.getElem?_eq_some_iff.1 hk
    refine ⟨by simpa using hx, k, hlt, e, fun j hj => ?_⟩
    have := h j _ hj (List.getElem?_eq_getElem (by omega))
    simpa using this
  rw [this]; rfl
theorem getV_no {L : List KV} {nm : List Nat} (h : ∀ (j : Nat) (y : KV), j < L.length → L[j]? = some y → y.1 ≠ nm) : getV L nm = none := by
  unfold getV
  have : L.find? (fun p => p.1 == nm) = none := by
    rw [List.find?_eq_none]
    intro x hx
    obtain ⟨j, hj⟩ := List.getElem?_of_mem hx
    have := h j x (List.getElem?_eq_some_iff.1 hj).1 hj
    simpa using this
  rw [this]; rfl
set_option maxRecDepth 100000 in
set_option maxHeartbeats 1000000 in
theorem indexG_c (v : Value) (L : List KV) (hl : L.length ≤ 100000) (hL : ∀ x ∈ L, Byt x.1) (b : Nat) (nm : ByteArray) (w : World) (hb : w.cell? ⟨b, 0, none⟩ = some (.string nm)) (f : KvOut w v L) :
    Calls Tryz.prog 74 #[v, .func (.func 103) #[] #[.pointer (some ⟨b, 0, none⟩)]] w fun e w' => ∃ i : Int, e = .returned (.int .i64 i) ∧ ((∃ (k : Nat) (x : KV), i = (k : Int) ∧ L[k]? = some x ∧ getV L (bs nm) = some x.2) ∨ (i = -1 ∧ getV L (bs nm) = none)) ∧ Below w.heap.size w w' := by
  have eg := eg_K
  obtain ⟨A, c, rfl, hc, hx⟩ := f
  obtain ⟨n, hn⟩ : ∃ n, L.length = n := ⟨_, rfl⟩
  rw [hn] at hl hc
  rw [hn]
  have HX := Lib.hid hx; have HN := Lib.hid hn; have HL := Lib.hid hL; have HB := Lib.hid hb
  clear hx hn hL hb
  go_enter Tryz.func74, Tryz.ntmps74
  go_wp2
  go_loopw [8] (fun i wr => ∃ k : Nat, i = .int .i64 (k : Nat) ∧ k ≤ n ∧ Hid ((∀ (j : Nat) (x : KV), j < k → L[j]? = some x → x.1 ≠ bs nm) ∧ Below w.heap.size w wr)) (fun i _ => n - (intOf i).toNat)
  case atStart => exact ⟨0, rfl, Nat.zero_le _, fun j x hj => absurd hj (Nat.not_lt_zero j), Below.refl _ _⟩
  case round =>
    obtain ⟨k, rfl, hk, HI⟩ := hrel
    by_cases hlt : k < n
    · have hkl : k < L.length := by rw [HN.out]; exact hlt
      obtain ⟨bb, rfl, ha⟩ := HX.out (by intro e; rw [e] at hkl; exact absurd hkl (Nat.not_lt_zero _))
      have hp := List.getElem?_eq_getElem hkl
      obtain ⟨x, hxx⟩ : ∃ x, L[k] = x := ⟨_, rfl⟩
      rw [hxx] at hp
      obtain ⟨c0, c1⟩ := (ha.below HI.out.2) k x hp
      have hbyt := HL.out x (List.mem_of_getElem? hp)
      have hcmp := toList_str hbyt nm
      have CL := Lib.hid (keyed1_c (str x.1) (str x.2) b nm wr (cellb HI.out.2 HB.out))
      rw [hcmp] at CL
      have HP := Lib.hid hp
      by_cases he : x.1 = bs nm
      · rw [decide_eq_true he] at CL
        have HE := Lib.hid (getV_at HP.out he HI.out.1)
        generalize str x.1 = X at *
        generalize str x.2 = Y at *
        clear hp hxx hbyt ha he hkl hcmp
        go_wp2_with (go_at_fn 103; refine (CL.out).mono ?_; rintro e w' ⟨rfl, hb1⟩)
        go_ret
        exact ⟨_, rfl, Or.inl ⟨k, x, rfl, HP.out, HE.out⟩, bnext HI.out.2 hb1⟩
      · rw [decide_eq_false he] at CL
        have NEXT := Lib.hid (show ∀ (j : Nat) (y : KV), j < k + 1 → L[j]? = some y → y.1 ≠ bs nm from fun j y hj hy => by
          by_cases e : j = k
          · rw [e, HP.out] at hy
            obtain rfl := Option.some.inj hy
            exact he
          · exact HI.out.1 j y (by omega) hy)
        generalize str x.1 = X at *
        generalize str x.2 = Y at *
        clear hp hxx hbyt ha he hkl hcmp
        go_wp2_with (go_at_fn 103; refine (CL.out).mono ?_; rintro e w' ⟨rfl, hb1⟩)
        go_roundw
        case rel => exact ⟨k + 1, by go_num, by omega, NEXT.out, bnext HI.out.2 hb1⟩
        case measure => simp [intOf]; omega
    · obtain rfl : k = n := by omega
      have HE := Lib.hid (getV_no (L := L) (nm := bs nm) (by rw [HN.out]; exact HI.out.1))
      go_wp2
      go_ret
      exact ⟨_, rfl, Or.inr ⟨rfl, HE.out⟩, HI.out.2⟩
theorem held_1 {x y : World} {b o : Nat} {v : Value} (h : x.cell? ⟨b, o, none⟩ = some v) (hb : Below x.heap.size x y) : y.cell? ⟨b, o, none⟩ = some v := cellb hb h
theorem ret_gt {a b : ByteArray} {p q : Bool} (h : a = b) (k : p = q) : Ending.returned (.tuple #[.string a, .bool p]) = .returned (.tuple #[.string b, .bool q]) := by rw [h, k]
set_option maxRecDepth 100000 in
set_option maxHeartbeats 1000000 in
/-- Get: what a key is worth. -/
theorem get_p (nm : ByteArray) (v : Value) (L : List KV) (hl : L.length ≤ 100000) (hL : ∀ x ∈ L, Byt x.1) (key : ByteArray) (w : World) (f : KvOut w v L) :
    Calls Tryz.prog 51 #[.agg #[.string nm, v], .string key] w fun e w' => e = .returned (.tuple #[.string (str ((getV L (bs key)).getD [])), .bool (getV L (bs key)).isSome]) ∧ Below w.heap.size w w' := by
  have IX := Lib.hid (fun (b : Nat) (W : World) (h1 : Below w.heap.size w W) (h2 : W.cell? ⟨b, 0, none⟩ = some (.string key)) => indexG_c v L hl hL b key W h2 (f.below h1))
  obtain ⟨A, c, rfl, hc, hx⟩ := id f
  obtain ⟨n, hn⟩ : ∃ n, L.length = n := ⟨_, rfl⟩
  rw [hn] at hl hc IX
  rw [hn]
  obtain ⟨k0, k1, -, -⟩ := two_new w (.string nm) (.slice A n c) 63
  obtain ⟨wb, hwb⟩ : ∃ wb, w.alloc (.cells #[.string nm, .slice A n c] 63) = wb := ⟨_, rfl⟩
  have hbw := alloc_below w (.cells #[.string nm, .slice A n c] 63)
  rw [hwb] at k0 k1 hbw
  have KB := Lib.hid (fun W => keyed_b key W)
  have HX := Lib.hid hx; have HN := Lib.hid hn; have HBW := Lib.hid hbw
  clear hx hn hL f hbw
  go_enter Tryz.func51, Tryz.ntmps51
  go_wp2_with fail
  go_region_held3 (fun y => y.cell? ⟨w.heap.size, 1, none⟩ = some (.slice A n c))
    (first | go_keep | (refine held_1 ?_ (by assumption); assumption))
    (first
      | (go_at_call 75; refine (KB.out _).mono ?_; rintro _ w2 ⟨b, rfl, hc2, hb2⟩)
      | (go_at_call 74; refine (IX.out b _ (bnext (HBW.out.drew) hb2) hc2).mono ?_; rintro _ w3 ⟨i, rfl, hi, hb3⟩; have k3 := cellb hb3 (cellb hb2 k1)))
  have HB3 := Lib.hid (bnext (bnext HBW.out.drew hb2) hb3)
  rcases hi with ⟨k, x, rfl, hk, hg⟩ | ⟨rfl, hg⟩
  · have hkl : k < n := by rw [← HN.out]; exact (List.getElem?_eq_some_iff.1 hk).1
    obtain ⟨bb, rfl, ha⟩ := HX.out (by rintro rfl; simp at hk)
    obtain ⟨c0, c1⟩ := (ha.below HB3.out) k x hk
    have HG := Lib.hid hg
    clear hg hk ha
    go_wp2
    go_ret2
    exact ⟨ret_gt (by rw [HG.out]; rfl) (by rw [HG.out]; rfl), HB3.out⟩
  · have HG := Lib.hid hg
    clear hg
    go_wp2
    go_ret2
    exact ⟨ret_gt (by rw [HG.out]; rfl) (by rw [HG.out]; rfl), HB3.out⟩
end Go.Proofs.YtodlgbihdehmbaaGreatDoor.LP
/-
  Contracts of the program's functions of layer 12: the keys that a section must have and may have; methods, factors, patterns.
-/
set_option linter.unusedSimpArgs false
set_option linter.unusedVariables false
namespace Go.Proofs.YtodlgbihdehmbaaGreatDoor.LP
open Go.RowKit Cf Cf.KR Cf.KP
theorem containsS_str {ms : List (List Nat)} (hms : ∀ m ∈ ms, Byt m) (x : ByteArray) : Lib.containsS (ms.map str) x = ms.any fun m => m == bs x := by
  rw [Bool.eq_iff_iff, Lib.containsS_iff, List.any_eq_true, List.mem_map]
  constructor
  · rintro ⟨m, hm, rfl⟩
    exact ⟨m, hm, by rw [bs_str (hms m hm)]; simp⟩
  · rintro ⟨m, hm, he⟩
    exact ⟨m, hm, by rw [show m = bs x by simpa using he, str_bs]⟩
theorem contains_p (v : Value) (ms : List (List Nat)) (hl : ms.length ≤ 100000) (hms : ∀ m ∈ ms, Byt m) (x : ByteArray) (w : World) (f : TxOut w v ms) :
    Calls Tryz.prog 73 #[v, .string x] w fun e w' => e = .returned (.bool (ms.any fun m => m == bs x)) ∧ w = w' := by
  obtain ⟨A, c, rfl, hc, hx⟩ := f
  by_cases h0 : ms = []
  · subst h0
    exact (Tryz.slices_Contains_string_empty A c x w).mono fun e w' ⟨h1, h2⟩ => ⟨h1, h2.symm⟩
  · obtain ⟨b, rfl, ha⟩ := hx h0
    have hz : ∀ j, j < (ms.map str).length → w.cell? ⟨b, 0 + j, none⟩ = some (.string ((ms.map str).getD j ByteArray.empty)) := fun j hj => by
      rw [Nat.zero_add]
      have hj2 : j < ms.length := by simpa using hj
      rw [ha j _ (List.getElem?_eq_getElem hj2)]
      simp [List.getD_eq_getElem?_getD, List.getElem?_eq_getElem hj2]
    have h := Tryz.slices_Contains_string b 0 ms.length c (ms.map str) x w (by simp) (by omega) hz
    rw [List.take_of_length_le (by simp), containsS_str hms] at h
    exact h.mono fun e w' ⟨h1, h2⟩ => ⟨h1, h2.symm⟩
/-- What a section must have, and may have. -/
def keysV (ms ns : List (List Nat)) (l : List KV) : Bool := (ms.all fun k => (getV l k).isSome) && l.all fun p => (ms.any fun k => k == p.1) || (ns.any fun k => k == p.1)
theorem keysV_lack {ms ns : List (List Nat)} {l : List KV} {k : Nat} {m : List Nat} (hk : ms[k]? = some m) (h : (getV l m).isSome = false) : keysV ms ns l = false := by
  unfold keysV
  rw [Bool.and_eq_false_iff]
  refine .inl (Bool.eq_false_iff.2 fun e => ?_)
  have := List.all_eq_true.1 e m (List.mem_of_getElem? hk)
  rw [h] at this; cases this
theorem keysV_other {ms ns : List (List Nat)} {l : List KV} {k : Nat} {p : KV} (hk : l[k]? = some p) (h1 : (ms.any fun k => k == p.1) = false) (h2 : (ns.any fun k => k == p.1) = false) : keysV ms ns l = false := by
  unfold keysV
  rw [Bool.and_eq_false_iff]
  refine .inr (Bool.eq_false_iff.2 fun e => ?_)
  have := List.all_eq_true.1 e p (List.mem_of_getElem? hk)
  rw [h1, h2] at this; cases this
theorem keysV_all {ms ns : List (List Nat)} {l : List KV} (h1 : ∀ (k : Nat) (m : List Nat), k < ms.length → ms[k]? = some m → (getV l m).isSome = true) (h2 : ∀ (k : Nat) (p : KV), k < l.length → l[k]? = some p → ((ms.any fun k => k == p.1) || (ns.any fun k => k == p.1)) = true) : keysV ms ns l = true := by
  unfold keysV
  rw [Bool.and_eq_true, List.all_eq_true, List.all_eq_true]
  refine ⟨fun m hm => ?_, fun p hp => ?_⟩
  · obtain ⟨k, hk⟩ := List.getElem?_of_mem hm
    exact h1 k m (List.getElem?_eq_some_iff.1 hk).1 hk
  · obtain ⟨k, hk⟩ := List.getElem?_of_mem hp
    exact h2 k p (List.getElem?_eq_some_iff.1 hk).1 hk
theorem ret_b {a b : Bool} (h : a = b) : Ending.returned (.bool a) = .returned (.bool b) := by rw [h]
set_option maxRecDepth 100000 in
set_option maxHeartbeats 2000000 in
theorem keys_p (nm : ByteArray) (v vm vn : Value) (L : List KV) (ms ns : List (List Nat)) (hl : L.length ≤ 100000) (hL : ∀ x ∈ L, Byt x.1) (hm : ms.length ≤ 100000) (hn : ns.length ≤ 100000) (hmB : ∀ m ∈ ms, Byt m) (hnB : ∀ m ∈ ns, Byt m) (w : World)
    (f : KvOut w v L) (fm : TxOut w vm ms) (fn : TxOut w vn ns) :
    Calls Tryz.prog 50 #[.agg #[.string nm, v], vm, vn] w fun e w' => e = .returned (.bool (keysV ms ns L)) ∧ Below w.heap.size w w' := by
  have GET := Lib.hid (fun (key : ByteArray) (W : World) (h : Below w.heap.size w W) => get_p nm v L hl hL key W (f.below h))
  have CM := Lib.hid (fun (x : ByteArray) (W : World) (h : Below w.heap.size w W) => contains_p vm ms hm hmB x W (fm.below h))
  have CN := Lib.hid (fun (x : ByteArray) (W : World) (h : Below w.heap.size w W) => contains_p vn ns hn hnB x W (fn.below h))
  obtain ⟨A, c, rfl, hc, hx⟩ := id f
  obtain ⟨Am, cm, rfl, hcm, hxm⟩ := id fm
  obtain ⟨An, cn, rfl, hcn, hxn⟩ := id fn
  obtain ⟨n, hn1⟩ : ∃ n, L.length = n := ⟨_, rfl⟩
  obtain ⟨m, hm1⟩ : ∃ m, ms.length = m := ⟨_, rfl⟩
  obtain ⟨q, hq1⟩ : ∃ q, ns.length = q := ⟨_, rfl⟩
  rw [hn1] at hl hc GET
  rw [hm1] at hm hcm CM
  rw [hq1] at hn hcn CN
  rw [hn1, hm1, hq1]
  obtain ⟨d, hd⟩ : ∃ d, keysV ms ns L = d := ⟨_, rfl⟩
  rw [hd]
  obtain ⟨k0, k1, -, -⟩ := two_new w (.string nm) (.slice A n c) 63
  obtain ⟨wb, hwb⟩ : ∃ wb, w.alloc (.cells #[.string nm, .slice A n c] 63) = wb := ⟨_, rfl⟩
  have hbw := alloc_below w (.cells #[.string nm, .slice A n c] 63)
  rw [hwb] at k0 k1 hbw
  have HX := Lib.hid hx; have HXM := Lib.hid hxm; have HN := Lib.hid hn1; have HM := Lib.hid hm1; have HD := Lib.hid hd; have HBW := Lib.hid hbw; have HLB := Lib.hid hL; have HMB := Lib.hid hmB
  have K0 := Lib.hid k0; have K1 := Lib.hid k1
  clear hx hxm hxn hn1 hm1 hq1 hd hL hmB hnB f fm fn hbw k0 k1
  go_enter Tryz.func50, Tryz.ntmps50
  go_wp2
  (try rw [hwb])
  go_loopw [15] (fun i wr => ∃ k : Nat, i = .int .i64 (k : Nat) ∧ k ≤ m ∧ Hid ((∀ (j : Nat) (x : List Nat), j < k → ms[j]? = some x → (getV L x).isSome = true) ∧ Below wb.heap.size wb wr)) (fun i _ => m - (intOf i).toNat)
  case atStart => exact ⟨0, rfl, Nat.zero_le _, fun j x hj => absurd hj (Nat.not_lt_zero j), Below.refl _ _⟩
  case round =>
    obtain ⟨k, rfl, hk, HI⟩ := hrel
    have k0 := cellb HI.out.2 K0.out
    have k1 := cellb HI.out.2 K1.out
    have HW := Lib.hid (bnext HBW.out HI.out.2)
    by_cases hlt : k < m
    · have hkl : k < ms.length := by rw [HM.out]; exact hlt
      obtain ⟨bb, rfl, ha⟩ := HXM.out (by intro e; rw [e] at hkl; exact absurd hkl (Nat.not_lt_zero _))
      have hp := List.getElem?_eq_getElem hkl
      obtain ⟨x, hxx⟩ : ∃ x, ms[k] = x := ⟨_, rfl⟩
      rw [hxx] at hp
      have c0 := (ha.below HW.out) k x hp
      have G1 := GET.out (str x) wr HW.out
      rw [bs_str (HMB.out x (List.mem_of_getElem? hp))] at G1
      have HP := Lib.hid hp
      obtain ⟨gd, hgd⟩ : ∃ gd, (getV L x).isSome = gd := ⟨_, rfl⟩
      rw [hgd] at G1
      have HG := Lib.hid hgd
      have G2 := Lib.hid G1
      generalize str x = X at *
      generalize str ((getV L x).getD []) = Y at *
      clear hp hxx ha hkl hgd G1
      cases gd
      · have HE := Lib.hid (HD.out.symm.trans (keysV_lack (ns := ns) HP.out HG.out))
        go_wp2_with (go_at_call 51; refine G2.out.mono ?_; rintro _ w2 ⟨rfl, hb2⟩)
        go_ret
        exact ⟨ret_b HE.out.symm, bnext HW.out hb2⟩
      · have NEXT := Lib.hid (show ∀ (j : Nat) (y : List Nat), j < k + 1 → ms[j]? = some y → (getV L y).isSome = true from fun j y hj hy => by
          by_cases e : j = k
          · rw [e, HP.out] at hy
            obtain rfl := Option.some.inj hy
            exact HG.out
          · exact HI.out.1 j y (by omega) hy)
        go_wp2_with (go_at_call 51; refine G2.out.mono ?_; rintro _ w2 ⟨rfl, hb2⟩)
        go_roundw
        case rel => exact ⟨k + 1, by go_num, by omega, NEXT.out, bnext HI.out.2 hb2⟩
        case measure => simp [intOf]; omega
    · obtain rfl : m = k := by omega
      go_wp2
      have HI2 := Lib.hid HI.out.2
      have ALLM := Lib.hid HI.out.1
      go_loopw [31] (fun i wx => ∃ k : Nat, i = .int .i64 (k : Nat) ∧ k ≤ n ∧ Hid ((∀ (j : Nat) (p : KV), j < k → L[j]? = some p → ((ms.any fun k => k == p.1) || (ns.any fun k => k == p.1)) = true) ∧ Below wb.heap.size wb wx)) (fun i _ => n - (intOf i).toNat)
      case atStart => exact ⟨0, rfl, Nat.zero_le _, fun j x hj => absurd hj (Nat.not_lt_zero j), HI2.out⟩
      case round =>
        clear HI k0 k1 HW
        obtain ⟨k, rfl, hk, HJ⟩ := hrel
        have k0 := cellb HJ.out.2 K0.out
        have k1 := cellb HJ.out.2 K1.out
        have HW := Lib.hid (bnext HBW.out HJ.out.2)
        by_cases hlt : k < n
        · have hkl : k < L.length := by rw [HN.out]; exact hlt
          obtain ⟨bb, rfl, ha⟩ := HX.out (by intro e; rw [e] at hkl; exact absurd hkl (Nat.not_lt_zero _))
          have hp := List.getElem?_eq_getElem hkl
          obtain ⟨x, hxx⟩ : ∃ x, L[k] = x := ⟨_, rfl⟩
          rw [hxx] at hp
          obtain ⟨c0, c1⟩ := (ha.below HW.out) k x hp
          obtain ⟨pa, pb, -, -⟩ := two_new wr (.string (str x.1)) (.string (str x.2)) 97
          have hba := alloc_below wr (.cells #[.string (str x.1), .string (str x.2)] 97)
          obtain ⟨wa, hwa⟩ : ∃ wa, wr.alloc (.cells #[.string (str x.1), .string (str x.2)] 97) = wa := ⟨_, rfl⟩
          rw [hwa] at pa pb hba
          have HBA := Lib.hid (bnext HW.out hba)
          have HBB := Lib.hid (HJ.out.2.trans (hba.mono HJ.out.2.size))
          have C1 := CM.out (str x.1) wa HBA.out
          have C2 := CN.out (str x.1) wa HBA.out
          rw [bs_str (HLB.out x (List.mem_of_getElem? hp))] at C1 C2
          have HP := Lib.hid hp
          obtain ⟨g1, hg1⟩ : ∃ g1, (ms.any fun k => k == x.1) = g1 := ⟨_, rfl⟩
          obtain ⟨g2, hg2⟩ : ∃ g2, (ns.any fun k => k == x.1) = g2 := ⟨_, rfl⟩
          rw [hg1] at C1
          rw [hg2] at C2
          have HG1 := Lib.hid hg1; have HG2 := Lib.hid hg2; have HC1 := Lib.hid C1; have HC2 := Lib.hid C2
          have NEXT := Lib.hid (show (g1 || g2) = true → ∀ (j : Nat) (y : KV), j < k + 1 → L[j]? = some y → ((ms.any fun k => k == y.1) || (ns.any fun k => k == y.1)) = true from fun hg j y hj hy => by
            by_cases e : j = k
            · rw [e, HP.out] at hy
              obtain rfl := Option.some.inj hy
              rw [HG1.out, HG2.out]; exact hg
            · exact HJ.out.1 j y (by omega) hy)
          generalize str x.1 = X at *
          generalize str x.2 = Y at *
          clear hp hxx ha hkl hg1 hg2 C1 C2 hba
          cases g1
          · cases g2
            · have HE := Lib.hid (HD.out.symm.trans (keysV_other HP.out HG1.out HG2.out))
              go_wp2_with fail
              (try rw [hwa])
              go_wp2_with (first
                | (go_at_call_of 73 (Value.slice Am m cm); refine HC1.out.mono ?_; rintro _ w2 ⟨rfl, rfl⟩)
                | (go_at_call_of 73 (Value.slice An q cn); refine HC2.out.mono ?_; rintro _ w2 ⟨rfl, rfl⟩))
              go_ret
              exact ⟨ret_b HE.out.symm, HBA.out⟩
            · go_wp2_with fail
              (try rw [hwa])
              go_wp2_with (first
                | (go_at_call_of 73 (Value.slice Am m cm); refine HC1.out.mono ?_; rintro _ w2 ⟨rfl, rfl⟩)
                | (go_at_call_of 73 (Value.slice An q cn); refine HC2.out.mono ?_; rintro _ w2 ⟨rfl, rfl⟩))
              go_roundw
              case rel => exact ⟨k + 1, by go_num, by omega, NEXT.out rfl, HBB.out⟩
              case measure => simp [intOf]; omega
          · go_wp2_with fail
            (try rw [hwa])
            go_wp2_with (first
              | (go_at_call_of 73 (Value.slice Am m cm); refine HC1.out.mono ?_; rintro _ w2 ⟨rfl, rfl⟩)
              | (go_at_call_of 73 (Value.slice An q cn); refine HC2.out.mono ?_; rintro _ w2 ⟨rfl, rfl⟩))
            go_roundw
            case rel => exact ⟨k + 1, by go_num, by omega, NEXT.out rfl, HBB.out⟩
            case measure => simp [intOf]; omega
        · obtain rfl : n = k := by omega
          have HE := Lib.hid (HD.out.symm.trans (keysV_all (ms := ms) (ns := ns) (l := L) (by rw [HM.out]; exact ALLM.out) (by rw [HN.out]; exact HJ.out.1)))
          go_wp2
          go_ret
          exact ⟨ret_b HE.out.symm, HW.out⟩
theorem isMethod_p (m : Int) (w : World) : Calls Tryz.prog 35 #[.int .i64 m] w fun e w' => e = .returned (.bool (decide (1 ≤ m ∧ m ≤ 5))) ∧ w = w' := by
  obtain ⟨d, hd⟩ : ∃ d, decide (1 ≤ m ∧ m ≤ 5) = d := ⟨_, rfl⟩
  rw [hd]
  by_cases h1 : 1 ≤ m
  · by_cases h2 : m ≤ 5
    · obtain rfl : true = d := by rw [← hd, decide_eq_true ⟨h1, h2⟩]
      go_enter Tryz.func35, Tryz.ntmps35
      go_wp2
      go_ret
      exact ⟨rfl, rfl⟩
    · obtain rfl : false = d := by rw [← hd, decide_eq_false (by omega)]
      go_enter Tryz.func35, Tryz.ntmps35
      go_wp2
      go_ret
      exact ⟨rfl, rfl⟩
  · obtain rfl : false = d := by rw [← hd, decide_eq_false (by omega)]
    go_enter Tryz.func35, Tryz.ntmps35
    go_wp2
    go_ret
    exact ⟨rfl, rfl⟩
theorem isFactor_p (m : Int) (w : World) : Calls Tryz.prog 46 #[.int .i64 m] w fun e w' => e = .returned (.bool (decide (0 ≤ m ∧ m ≤ 1000000))) ∧ w = w' := by
  obtain ⟨d, hd⟩ : ∃ d, decide (0 ≤ m ∧ m ≤ 1000000) = d := ⟨_, rfl⟩
  rw [hd]
  by_cases h1 : 0 ≤ m
  · by_cases h2 : m ≤ 1000000
    · obtain rfl : true = d := by rw [← hd, decide_eq_true ⟨h1, h2⟩]
      go_enter Tryz.func46, Tryz.ntmps46
      go_wp2
      go_ret
      exact ⟨rfl, rfl⟩
    · obtain rfl : false = d := by rw [← hd, decide_eq_false (by omega)]
      go_enter Tryz.func46, Tryz.ntmps46
      go_wp2
      go_ret
      exact ⟨rfl, rfl⟩
  · obtain rfl : false = d := by rw [← hd, decide_eq_false (by omega)]
    go_enter Tryz.func46, Tryz.ntmps46
    go_wp2
    go_ret
    exact ⟨rfl, rfl⟩
/-- What Compile answers, as a value of four parts. -/
theorem needle_form {w : World} {v : Value} {N : Nd.NN} (h : Nd.NnOut w v N) : ∃ s f A n c, v = .agg #[.bool s, .bool f, .slice A n c] := by
  obtain ⟨u, rfl, A, c, rfl, _⟩ := h
  exact ⟨_, _, _, _, _, rfl⟩
set_option maxRecDepth 100000 in
theorem isPattern_p (p : ByteArray) (hp : p.size ≤ 9223372036854775807) (w : World) : Calls Tryz.prog 44 #[.string p] w fun e w' => e = .returned (.bool (decide ((Nd.ndComp (bs p)).2 = 0))) ∧ Below w.heap.size w w' := by
  have CC := Lib.hid (Nd.NP.compile_c p hp w)
  obtain ⟨E, hE⟩ : ∃ E, (Nd.ndComp (bs p)).2 = E := ⟨_, rfl⟩
  rw [hE] at CC ⊢
  clear hE
  by_cases h0 : E = 0
  · subst h0
    go_enter Tryz.func44, Tryz.ntmps44
    go_wp2_with fail
    refine CC.out.mono ?_; rintro _ w1 ⟨v, rfl, hv, -, -, hb1⟩
    obtain ⟨s, f, A, n, c, rfl⟩ := needle_form hv
    clear hv
    go_wp2
    go_ret
    exact ⟨rfl, bnext hb1 (alloc_below _ _)⟩
  · have h1 : (E == 0) = false := beq_false_of_ne h0
    have h2 := decide_eq_false h0
    rw [h2]
    go_enter Tryz.func44, Tryz.ntmps44
    go_wp2_with fail
    refine CC.out.mono ?_; rintro _ w1 ⟨v, rfl, hv, -, -, hb1⟩
    obtain ⟨s, f, A, n, c, rfl⟩ := needle_form hv
    clear hv
    go_wp2
    go_ret
    exact ⟨rfl, bnext hb1 (alloc_below _ _)⟩
end Go.Proofs.YtodlgbihdehmbaaGreatDoor.LP
