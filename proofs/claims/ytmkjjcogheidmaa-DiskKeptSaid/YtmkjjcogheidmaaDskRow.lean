/-
  Disks in memory: rows of files, names, moves, and what is kept, read as plain lists; S says in which blocks they may lie.
-/
import Derived.Test.YtmkjjcogheidmaaDskOps
import Derived.Test.YtmkjjcogheidmaaByRow
import Derived.Test.YtmkjjcogheidmaaProg
set_option linter.unusedSimpArgs false
set_option linter.unusedVariables false
namespace Go.Proofs.Ytmkjjcogheidmaa
open Go.RowKit
/-- A row of bytes in a block that S lets be. -/
def ByS (S : Nat → Prop) (w : World) (v : Value) (l : List Nat) : Prop := ∃ A cap, v = .slice A l.length cap ∧ l.length ≤ cap ∧ (l ≠ [] → ∃ b off, A = some ⟨b, off, none⟩ ∧ S b ∧ ByAt w b off l)
theorem ByS.out {S : Nat → Prop} {w : World} {v : Value} {l : List Nat} (h : ByS S w v l) : ByOut w v l := by
  obtain ⟨A, cap, hv, hc, hx⟩ := h
  refine ⟨A, cap, hv, hc, fun hn => ?_⟩
  obtain ⟨b, off, hA, _, hf⟩ := hx hn
  exact ⟨b, off, hA, hf⟩
theorem ByOut.s {w : World} {v : Value} {l : List Nat} (h : ByOut w v l) : ByS (fun g => g < w.heap.size) w v l := by
  obtain ⟨A, cap, hv, hc, hx⟩ := h
  refine ⟨A, cap, hv, hc, fun hn => ?_⟩
  obtain ⟨b, off, hA, hf⟩ := hx hn
  have h0 := List.getElem?_eq_getElem (List.length_pos_iff.2 hn)
  exact ⟨b, off, hA, World.block_lt_of_cell? w _ (hf 0 _ h0), hf⟩
theorem ByNew.s {B : Nat} {w : World} {v : Value} {l : List Nat} (h : ByNew B w v l) : ByS (fun g => B ≤ g) w v l := by
  obtain ⟨A, cap, hv, hc, hx⟩ := h.form
  refine ⟨A, cap, hv, hc, fun hn => ?_⟩
  obtain ⟨g, hA, hB, _, hf, _⟩ := hx hn
  exact ⟨g, 0, hA, hB, hf⟩
/-- What stays the same where S lets be. -/
def KeepS (S : Nat → Prop) (w w' : World) : Prop := ∀ b o, S b → w'.cell? ⟨b, o, none⟩ = w.cell? ⟨b, o, none⟩
theorem ByS.keep {S : Nat → Prop} {w w' : World} {v : Value} {l : List Nat} (h : ByS S w v l) (hk : KeepS S w w') : ByS S w' v l := by
  obtain ⟨A, cap, hv, hc, hx⟩ := h
  refine ⟨A, cap, hv, hc, fun hn => ?_⟩
  obtain ⟨b, off, hA, hS, hf⟩ := hx hn
  exact ⟨b, off, hA, hS, fun i n hi => (hk _ _ hS).trans (hf i n hi)⟩
theorem ByS.mono {S S' : Nat → Prop} {w : World} {v : Value} {l : List Nat} (h : ByS S w v l) (hs : ∀ g, g < w.heap.size → S g → S' g) : ByS S' w v l := by
  obtain ⟨A, cap, hv, hc, hx⟩ := h
  refine ⟨A, cap, hv, hc, fun hn => ?_⟩
  obtain ⟨b, off, hA, hS, hf⟩ := hx hn
  have h0 := List.getElem?_eq_getElem (List.length_pos_iff.2 hn)
  exact ⟨b, off, hA, hs b (World.block_lt_of_cell? w _ (hf 0 _ h0)) hS, hf⟩
theorem ByS.below {S : Nat → Prop} {w w' : World} {v : Value} {l : List Nat} (h : ByS S w v l) (hb : Below w.heap.size w w') : ByS S w' v l := by
  obtain ⟨A, cap, hv, hc, hx⟩ := h
  refine ⟨A, cap, hv, hc, fun hn => ?_⟩
  obtain ⟨b, off, hA, hS, hf⟩ := hx hn
  exact ⟨b, off, hA, hS, hf.below hb⟩
/-- A slice value of n things, of which the k-th reads as R says at its address. -/
def SlOut (S : Nat → Prop) (w : World) (v : Value) (n size : Nat) (R : World → Nat → Nat → Nat → Prop) : Prop :=
  ∃ A cap, v = .slice A n cap ∧ n ≤ cap ∧ (0 < n → ∃ b off, A = some ⟨b, off, none⟩ ∧ S b ∧ ∀ k, k < n → R w b (off + k * size) k)
def FAt (S : Nat → Prop) (l : List PF) (w : World) (b o k : Nat) : Prop := ∃ f, l[k]? = some f ∧ w.cell? ⟨b, o, none⟩ = some (.int .i64 (f.id : Nat)) ∧ (∃ u, w.cell? ⟨b, o + 1, none⟩ = some u ∧ ByS S w u f.bytes) ∧ w.cell? ⟨b, o + 2, none⟩ = some (.int .i64 (f.sure : Nat))
def NAt (l : List PN) (w : World) (b o k : Nat) : Prop := ∃ f, l[k]? = some f ∧ w.cell? ⟨b, o, none⟩ = some (.string f.name) ∧ w.cell? ⟨b, o + 1, none⟩ = some (.int .i64 (f.id : Nat))
def MAt (l : List PM) (w : World) (b o k : Nat) : Prop := ∃ f, l[k]? = some f ∧ w.cell? ⟨b, o, none⟩ = some (.int .i64 (f.kind : Nat)) ∧ w.cell? ⟨b, o + 1, none⟩ = some (.string f.name) ∧ w.cell? ⟨b, o + 2, none⟩ = some (.string f.to) ∧ w.cell? ⟨b, o + 3, none⟩ = some (.int .i64 (f.id : Nat))
def KAt (l : List (Int × Int)) (w : World) (b o k : Nat) : Prop := ∃ f, l[k]? = some f ∧ w.cell? ⟨b, o, none⟩ = some (.int .i64 f.1) ∧ w.cell? ⟨b, o + 1, none⟩ = some (.int .i64 f.2)
def TAt (l : List ByteArray) (w : World) (b o k : Nat) : Prop := ∃ f, l[k]? = some f ∧ w.cell? ⟨b, o, none⟩ = some (.string f)
def FsOut (S : Nat → Prop) (w : World) (v : Value) (l : List PF) : Prop := SlOut S w v l.length 3 (FAt S l)
def NsOut (S : Nat → Prop) (w : World) (v : Value) (l : List PN) : Prop := SlOut S w v l.length 2 (NAt l)
def MsOut (S : Nat → Prop) (w : World) (v : Value) (l : List PM) : Prop := SlOut S w v l.length 4 (MAt l)
def KsOut (w : World) (v : Value) (l : List (Int × Int)) : Prop := SlOut (fun _ => True) w v l.length 2 (KAt l)
def TsOut (w : World) (v : Value) (l : List ByteArray) : Prop := SlOut (fun _ => True) w v l.length 1 (TAt l)
theorem cell_below {w w' : World} (hb : Below w.heap.size w w') {b o : Nat} {u : Value} (h : w.cell? ⟨b, o, none⟩ = some u) : w'.cell? ⟨b, o, none⟩ = some u := (hb.cell (World.block_lt_of_cell? w _ h)).trans h
theorem SlOut.imp {S S' : Nat → Prop} {w w' : World} {v : Value} {n size : Nat} {R R' : World → Nat → Nat → Nat → Prop} (h : SlOut S w v n size R) (hR : ∀ b o k, S b → R w b o k → S' b ∧ R' w' b o k) : SlOut S' w' v n size R' := by
  obtain ⟨A, cap, hv, hc, hx⟩ := h
  refine ⟨A, cap, hv, hc, fun hn => ?_⟩
  obtain ⟨b, off, hA, hS, hf⟩ := hx hn
  exact ⟨b, off, hA, (hR _ _ _ hS (hf 0 hn)).1, fun k hk => (hR _ _ _ hS (hf k hk)).2⟩
theorem SlOut.nil {S : Nat → Prop} {w : World} {size : Nat} {R : World → Nat → Nat → Nat → Prop} : SlOut S w (.slice none 0 0) 0 size R := ⟨none, 0, rfl, Nat.le_refl _, fun h => absurd h (Nat.lt_irrefl _)⟩
theorem NAt.below {l : List PN} {w w' : World} (hb : Below w.heap.size w w') {b o k : Nat} (h : NAt l w b o k) : NAt l w' b o k := by
  obtain ⟨f, hf, h1, h2⟩ := h
  exact ⟨f, hf, cell_below hb h1, cell_below hb h2⟩
theorem NAt.keep {S : Nat → Prop} {l : List PN} {w w' : World} (hk : KeepS S w w') {b o k : Nat} (hS : S b) (h : NAt l w b o k) : NAt l w' b o k := by
  obtain ⟨f, hf, h1, h2⟩ := h
  exact ⟨f, hf, (hk _ _ hS).trans h1, (hk _ _ hS).trans h2⟩
theorem NAt.lt {l : List PN} {w : World} {b o k : Nat} (h : NAt l w b o k) : b < w.heap.size := by
  obtain ⟨f, hf, h1, _⟩ := h
  exact World.block_lt_of_cell? w _ h1
theorem MAt.below {l : List PM} {w w' : World} (hb : Below w.heap.size w w') {b o k : Nat} (h : MAt l w b o k) : MAt l w' b o k := by
  obtain ⟨f, hf, h1, h2, h3, h4⟩ := h
  exact ⟨f, hf, cell_below hb h1, cell_below hb h2, cell_below hb h3, cell_below hb h4⟩
theorem MAt.keep {S : Nat → Prop} {l : List PM} {w w' : World} (hk : KeepS S w w') {b o k : Nat} (hS : S b) (h : MAt l w b o k) : MAt l w' b o k := by
  obtain ⟨f, hf, h1, h2, h3, h4⟩ := h
  exact ⟨f, hf, (hk _ _ hS).trans h1, (hk _ _ hS).trans h2, (hk _ _ hS).trans h3, (hk _ _ hS).trans h4⟩
theorem MAt.lt {l : List PM} {w : World} {b o k : Nat} (h : MAt l w b o k) : b < w.heap.size := by
  obtain ⟨f, hf, h1, _⟩ := h
  exact World.block_lt_of_cell? w _ h1
theorem KAt.below {l : List (Int × Int)} {w w' : World} (hb : Below w.heap.size w w') {b o k : Nat} (h : KAt l w b o k) : KAt l w' b o k := by
  obtain ⟨f, hf, h1, h2⟩ := h
  exact ⟨f, hf, cell_below hb h1, cell_below hb h2⟩
theorem KAt.keep {S : Nat → Prop} {l : List (Int × Int)} {w w' : World} (hk : KeepS S w w') {b o k : Nat} (hS : S b) (h : KAt l w b o k) : KAt l w' b o k := by
  obtain ⟨f, hf, h1, h2⟩ := h
  exact ⟨f, hf, (hk _ _ hS).trans h1, (hk _ _ hS).trans h2⟩
theorem KAt.lt {l : List (Int × Int)} {w : World} {b o k : Nat} (h : KAt l w b o k) : b < w.heap.size := by
  obtain ⟨f, hf, h1, _⟩ := h
  exact World.block_lt_of_cell? w _ h1
theorem TAt.below {l : List ByteArray} {w w' : World} (hb : Below w.heap.size w w') {b o k : Nat} (h : TAt l w b o k) : TAt l w' b o k := by
  obtain ⟨f, hf, h1⟩ := h
  exact ⟨f, hf, cell_below hb h1⟩
theorem TAt.keep {S : Nat → Prop} {l : List ByteArray} {w w' : World} (hk : KeepS S w w') {b o k : Nat} (hS : S b) (h : TAt l w b o k) : TAt l w' b o k := by
  obtain ⟨f, hf, h1⟩ := h
  exact ⟨f, hf, (hk _ _ hS).trans h1⟩
theorem TAt.lt {l : List ByteArray} {w : World} {b o k : Nat} (h : TAt l w b o k) : b < w.heap.size := by
  obtain ⟨f, hf, h1⟩ := h
  exact World.block_lt_of_cell? w _ h1
theorem FAt.below {S : Nat → Prop} {l : List PF} {w w' : World} (hb : Below w.heap.size w w') {b o k : Nat} (h : FAt S l w b o k) : FAt S l w' b o k := by
  obtain ⟨f, hf, h1, ⟨u, h2, hu⟩, h3⟩ := h
  exact ⟨f, hf, cell_below hb h1, ⟨u, cell_below hb h2, hu.below hb⟩, cell_below hb h3⟩
theorem FAt.keep {S : Nat → Prop} {l : List PF} {w w' : World} (hk : KeepS S w w') {b o k : Nat} (hS : S b) (h : FAt S l w b o k) : FAt S l w' b o k := by
  obtain ⟨f, hf, h1, ⟨u, h2, hu⟩, h3⟩ := h
  exact ⟨f, hf, (hk _ _ hS).trans h1, ⟨u, (hk _ _ hS).trans h2, hu.keep hk⟩, (hk _ _ hS).trans h3⟩
theorem FAt.lt {S : Nat → Prop} {l : List PF} {w : World} {b o k : Nat} (h : FAt S l w b o k) : b < w.heap.size := by
  obtain ⟨f, hf, h1, _⟩ := h
  exact World.block_lt_of_cell? w _ h1
theorem FAt.mono {S S' : Nat → Prop} {l : List PF} {w : World} (hs : ∀ g, g < w.heap.size → S g → S' g) {b o k : Nat} (h : FAt S l w b o k) : FAt S' l w b o k := by
  obtain ⟨f, hf, h1, ⟨u, h2, hu⟩, h3⟩ := h
  exact ⟨f, hf, h1, ⟨u, h2, hu.mono hs⟩, h3⟩
theorem FsOut.below {S : Nat → Prop} {l : List PF} {w w' : World} {v : Value} (h : FsOut S w v l) (hb : Below w.heap.size w w') : FsOut S w' v l := SlOut.imp h fun _ _ _ hS h => ⟨hS, FAt.below hb h⟩
theorem FsOut.keep {S : Nat → Prop} {l : List PF} {w w' : World} {v : Value} (h : FsOut S w v l) (hk : KeepS S w w') : FsOut S w' v l := SlOut.imp h fun _ _ _ hS h => ⟨hS, FAt.keep hk hS h⟩
theorem FsOut.mono {S S' : Nat → Prop} {l : List PF} {w : World} {v : Value} (h : FsOut S w v l) (hs : ∀ g, g < w.heap.size → S g → S' g) : FsOut S' w v l := SlOut.imp h fun _ _ _ hS h => ⟨hs _ h.lt hS, FAt.mono hs h⟩
theorem NsOut.below {S : Nat → Prop} {l : List PN} {w w' : World} {v : Value} (h : NsOut S w v l) (hb : Below w.heap.size w w') : NsOut S w' v l := SlOut.imp h fun _ _ _ hS h => ⟨hS, NAt.below hb h⟩
theorem NsOut.keep {S : Nat → Prop} {l : List PN} {w w' : World} {v : Value} (h : NsOut S w v l) (hk : KeepS S w w') : NsOut S w' v l := SlOut.imp h fun _ _ _ hS h => ⟨hS, NAt.keep hk hS h⟩
theorem NsOut.mono {S S' : Nat → Prop} {l : List PN} {w : World} {v : Value} (h : NsOut S w v l) (hs : ∀ g, g < w.heap.size → S g → S' g) : NsOut S' w v l := SlOut.imp h fun _ _ _ hS h => ⟨hs _ h.lt hS, h⟩
theorem MsOut.below {S : Nat → Prop} {l : List PM} {w w' : World} {v : Value} (h : MsOut S w v l) (hb : Below w.heap.size w w') : MsOut S w' v l := SlOut.imp h fun _ _ _ hS h => ⟨hS, MAt.below hb h⟩
theorem MsOut.keep {S : Nat → Prop} {l : List PM} {w w' : World} {v : Value} (h : MsOut S w v l) (hk : KeepS S w w') : MsOut S w' v l := SlOut.imp h fun _ _ _ hS h => ⟨hS, MAt.keep hk hS h⟩
theorem MsOut.mono {S S' : Nat → Prop} {l : List PM} {w : World} {v : Value} (h : MsOut S w v l) (hs : ∀ g, g < w.heap.size → S g → S' g) : MsOut S' w v l := SlOut.imp h fun _ _ _ hS h => ⟨hs _ h.lt hS, h⟩
theorem KsOut.below {l : List (Int × Int)} {w w' : World} {v : Value} (h : KsOut w v l) (hb : Below w.heap.size w w') : KsOut w' v l := SlOut.imp h fun _ _ _ hS h => ⟨hS, KAt.below hb h⟩
theorem TsOut.below {l : List ByteArray} {w w' : World} {v : Value} (h : TsOut w v l) (hb : Below w.heap.size w w') : TsOut w' v l := SlOut.imp h fun _ _ _ hS h => ⟨hS, TAt.below hb h⟩
/-- The lists of a disk, as four slice values. -/
structure DkAt (S : Nat → Prop) (w : World) (vf vn vk vm : Value) (D : PD) : Prop where
  f : FsOut S w vf D.files
  n : NsOut S w vn D.names
  k : NsOut S w vk D.kept
  m : MsOut S w vm D.moves
theorem DkAt.below {S : Nat → Prop} {w w' : World} {vf vn vk vm : Value} {D : PD} (h : DkAt S w vf vn vk vm D) (hb : Below w.heap.size w w') : DkAt S w' vf vn vk vm D := ⟨h.f.below hb, h.n.below hb, h.k.below hb, h.m.below hb⟩
theorem DkAt.keep {S : Nat → Prop} {w w' : World} {vf vn vk vm : Value} {D : PD} (h : DkAt S w vf vn vk vm D) (hk : KeepS S w w') : DkAt S w' vf vn vk vm D := ⟨h.f.keep hk, h.n.keep hk, h.k.keep hk, h.m.keep hk⟩
theorem DkAt.mono {S S' : Nat → Prop} {w : World} {vf vn vk vm : Value} {D : PD} (h : DkAt S w vf vn vk vm D) (hs : ∀ g, g < w.heap.size → S g → S' g) : DkAt S' w vf vn vk vm D := ⟨h.f.mono hs, h.n.mono hs, h.k.mono hs, h.m.mono hs⟩
theorem DkAt.forms {S : Nat → Prop} {w : World} {vf vn vk vm : Value} {D : PD} (h : DkAt S w vf vn vk vm D) : ∃ A1 c1 A2 c2 A3 c3 A4 c4, vf = .slice A1 D.files.length c1 ∧ vn = .slice A2 D.names.length c2 ∧ vk = .slice A3 D.kept.length c3 ∧ vm = .slice A4 D.moves.length c4 := by
  obtain ⟨A1, c1, h1, _⟩ := h.f
  obtain ⟨A2, c2, h2, _⟩ := h.n
  obtain ⟨A3, c3, h3, _⟩ := h.k
  obtain ⟨A4, c4, h4, _⟩ := h.m
  exact ⟨A1, c1, A2, c2, A3, c3, A4, c4, h1, h2, h3, h4⟩
/-- A disk as a value of six fields. -/
def DkOut (S : Nat → Prop) (w : World) (v : Value) (D : PD) : Prop := ∃ vf vn vk vm, v = .agg #[.int .i64 (D.quota : Nat), vf, vn, vk, vm, .int .i64 (D.next : Nat)] ∧ DkAt S w vf vn vk vm D
theorem DkOut.below {S : Nat → Prop} {w w' : World} {v : Value} {D : PD} (h : DkOut S w v D) (hb : Below w.heap.size w w') : DkOut S w' v D := by
  obtain ⟨vf, vn, vk, vm, hv, h⟩ := h
  exact ⟨vf, vn, vk, vm, hv, h.below hb⟩
theorem DkOut.keep {S : Nat → Prop} {w w' : World} {v : Value} {D : PD} (h : DkOut S w v D) (hk : KeepS S w w') : DkOut S w' v D := by
  obtain ⟨vf, vn, vk, vm, hv, h⟩ := h
  exact ⟨vf, vn, vk, vm, hv, h.keep hk⟩
theorem DkOut.mono {S S' : Nat → Prop} {w : World} {v : Value} {D : PD} (h : DkOut S w v D) (hs : ∀ g, g < w.heap.size → S g → S' g) : DkOut S' w v D := by
  obtain ⟨vf, vn, vk, vm, hv, h⟩ := h
  exact ⟨vf, vn, vk, vm, hv, h.mono hs⟩
theorem DkOut.form {S : Nat → Prop} {w : World} {v : Value} {D : PD} (h : DkOut S w v D) :
    ∃ (q : Int) (A1 : Option Addr) (n1 c1 : Nat) (A2 : Option Addr) (n2 c2 : Nat) (A3 : Option Addr) (n3 c3 : Nat) (A4 : Option Addr) (n4 c4 : Nat) (x : Int), v = .agg #[.int .i64 q, .slice A1 n1 c1, .slice A2 n2 c2, .slice A3 n3 c3, .slice A4 n4 c4, .int .i64 x] := by
  obtain ⟨vf, vn, vk, vm, hv, h⟩ := h
  obtain ⟨A1, c1, A2, c2, A3, c3, A4, c4, h1, h2, h3, h4⟩ := h.forms
  exact ⟨_, A1, _, c1, A2, _, c2, A3, _, c3, A4, _, c4, _, by rw [hv, h1, h2, h3, h4]⟩
/-- A variable that holds n cells: its block's cells are there, and may be written. -/
structure DVar (w : World) (b n : Nat) : Prop where
  lt : b < w.heap.size
  c : ∀ i, i < n → ∃ u, w.cell? ⟨b, i, none⟩ = some u
  f : ∀ i, i < n → w.frozen? ⟨b, i, none⟩ = false
theorem DVar.below {w w' : World} {b n : Nat} (hb : Below w.heap.size w w') (h : DVar w b n) : DVar w' b n :=
  ⟨Nat.lt_of_lt_of_le h.lt hb.size, fun i hi => by obtain ⟨u, hu⟩ := h.c i hi; exact ⟨u, cell_below hb hu⟩, fun i hi => (hb.frozen (p := ⟨b, i, none⟩) h.lt).trans (h.f i hi)⟩
theorem DVar.alloc {w : World} (cs : Array Value) (t : TypeId) : DVar (w.alloc (.cells cs t)) w.heap.size cs.size := by
  have hh : (w.alloc (.cells cs t)).heap[w.heap.size]? = some (.cells cs t) := by
    show (w.heap.push (.cells cs t))[w.heap.size]? = _
    exact Array.getElem?_push_size
  refine ⟨by simp, fun i hi => ⟨cs[i], ?_⟩, fun i hi => frozen_of_row _ _ _ _ _ hh⟩
  rw [cell_of_row _ _ _ _ _ _ hh]
  simp [hi]
theorem DVar.set {w : World} {b n b' o : Nat} (h : DVar w b n) (u : Value) : DVar (w.setCell ⟨b', o, none⟩ u) b n := by
  refine ⟨by simp; exact h.lt, fun i hi => ?_, fun i hi => ?_⟩
  · obtain ⟨v, hv⟩ := h.c i hi
    by_cases e : (⟨b', o, none⟩ : Addr) = ⟨b, i, none⟩
    · exact ⟨u, by rw [e]; exact World.cell?_setCell_same w _ u hv⟩
    · exact ⟨v, (World.cell?_setCell_other w _ _ u e).trans hv⟩
  · rw [World.frozen?_setCell]
    exact h.f i hi
theorem DVar.six {w : World} {b : Nat} (h : DVar w b 6) : ∃ u0 u1 u2 u3 u4 u5, w.cell? ⟨b, 0, none⟩ = some u0 ∧ w.cell? ⟨b, 1, none⟩ = some u1 ∧ w.cell? ⟨b, 2, none⟩ = some u2 ∧ w.cell? ⟨b, 3, none⟩ = some u3 ∧ w.cell? ⟨b, 4, none⟩ = some u4 ∧ w.cell? ⟨b, 5, none⟩ = some u5 ∧
    w.frozen? ⟨b, 0, none⟩ = false ∧ w.frozen? ⟨b, 1, none⟩ = false ∧ w.frozen? ⟨b, 2, none⟩ = false ∧ w.frozen? ⟨b, 3, none⟩ = false ∧ w.frozen? ⟨b, 4, none⟩ = false ∧ w.frozen? ⟨b, 5, none⟩ = false ∧ b < w.heap.size := by
  obtain ⟨u0, h0⟩ := h.c 0 (by decide)
  obtain ⟨u1, h1⟩ := h.c 1 (by decide)
  obtain ⟨u2, h2⟩ := h.c 2 (by decide)
  obtain ⟨u3, h3⟩ := h.c 3 (by decide)
  obtain ⟨u4, h4⟩ := h.c 4 (by decide)
  obtain ⟨u5, h5⟩ := h.c 5 (by decide)
  exact ⟨u0, u1, u2, u3, u4, u5, h0, h1, h2, h3, h4, h5, h.f 0 (by decide), h.f 1 (by decide), h.f 2 (by decide), h.f 3 (by decide), h.f 4 (by decide), h.f 5 (by decide), h.lt⟩
end Go.Proofs.Ytmkjjcogheidmaa
