/-
  Crash: worlds that only grew, rows that are cut one file at a time.
-/
import Derived.Test.YtmkjjcogheidmaaDskXC
import Derived.Test.YtmkjjcogheidmaaDskXE
import Derived.Deep.QuietTactic
import Derived.StillTailTactics
set_option linter.unusedSimpArgs false
set_option linter.unusedVariables false
namespace Go.Proofs.Ytmkjjcogheidmaa
open Go.RowKit
/-- A world that has grown out of another. -/
structure Laid (w : World) where
  W : World
  h : Below w.heap.size w W
instance (w : World) : Inhabited (Laid w) := ⟨⟨w, Below.refl _ _⟩⟩
theorem wp_region_laid {P : Program} {id : Nat} {Q : Exit → Act → World → Prop} {a : Act} {w : World} {l : List Oper} (hm : P.follows .mixedOrders = true) (hB : Region.lexB .any l.toArray = true)
    (h : wpQuiet P l.toArray (fun w' => ∃ p : Laid w, w' = p.W) (fun a' => ∀ w', (∃ p : Laid w, w' = p.W) → Q .normal a' w') l a) : (Code.region id l.toArray true).wp P Q a w :=
  wp_region_quiet (C := fun w' => ∃ p : Laid w, w' = p.W) hm hB ⟨⟨w.drew, (Below.refl _ _).drew⟩, rfl⟩ (by simpa using h)
theorem Calls.laid {P : Program} {f : FuncId} {args : Array Value} {w : World} {p : Laid w} {v : Value} (h : Calls P f args p.W fun e w' => e = .returned v ∧ Below p.W.heap.size p.W w') : Calls P f args p.W fun e w'' => e = .returned v ∧ ∃ p : Laid w, w'' = p.W :=
  h.mono fun _ _ ⟨he, hb⟩ => ⟨he, ⟨_, bnext p.h hb⟩, rfl⟩
theorem ByS.cut {S : Nat → Prop} {w : World} {A : Option Addr} {c st : Nat} {l : List Nat} (h : ByS S w (.slice A l.length c) l) (hs : st ≤ l.length) : ByS S w (.slice A st st) (l.take st) := by
  obtain ⟨A', c', e, _, hx⟩ := h
  injection e with e1 _ _
  subst e1
  refine ⟨A, st, by rw [List.length_take, Nat.min_eq_left hs], by rw [List.length_take]; omega, fun hn => ?_⟩
  obtain ⟨b, off, hA, hS, hf⟩ := hx (fun e => hn (by rw [e]; simp))
  exact ⟨b, off, hA, hS, fun i n hi => hf i n (by
    rw [List.getElem?_take] at hi
    split at hi
    · exact hi
    · cases hi)⟩
theorem SlOut.ne {S : Nat → Prop} {w : World} {v : Value} {n size gf : Nat} {R : World → Nat → Nat → Nat → Prop} (h : SlOut S w v n size R) (hv : v.ownBlock ≠ some gf) : SlOut (fun g => S g ∧ g ≠ gf) w v n size R := by
  obtain ⟨A, cap, e, hc, hx⟩ := h
  refine ⟨A, cap, e, hc, fun hn => ?_⟩
  obtain ⟨b, off, hA, hS, hr⟩ := hx hn
  refine ⟨b, off, hA, ⟨hS, fun hb => hv ?_⟩, hr⟩
  rw [e, hA, hb]
  rfl
theorem ByS.ne {S : Nat → Prop} {w : World} {v : Value} {gf : Nat} {l : List Nat} (h : ByS S w v l) (hv : v.ownBlock ≠ some gf) : ByS (fun g => S g ∧ g ≠ gf) w v l := by
  obtain ⟨A, cap, e, hc, hx⟩ := h
  refine ⟨A, cap, e, hc, fun hn => ?_⟩
  obtain ⟨b, off, hA, hS, hr⟩ := hx hn
  refine ⟨b, off, hA, ⟨hS, fun hb => hv ?_⟩, hr⟩
  rw [e, hA, hb]
  rfl
def CutAt (ks : List (Int × Int)) (base gf : Nat) (W : World) (vf : Value) (fs : List PF) (j : Nat) : Prop :=
  ∃ P : List (PF × Value), P.map (·.1) = (fs.take j).map (fCut ks) ++ fs.drop j ∧ W.ownsRow base 58 3 vf P.length (P.flatMap cF) ∧ ∀ p ∈ P, ByS (fun g => base ≤ g ∧ g ≠ gf) W p.2 p.1.bytes
theorem CutAt.below {ks : List (Int × Int)} {base gf : Nat} {W W' : World} {vf : Value} {fs : List PF} {j : Nat} (h : CutAt ks base gf W vf fs j) (hb : Below W.heap.size W W') : CutAt ks base gf W' vf fs j := by
  obtain ⟨P, h1, h2, h3⟩ := h
  exact ⟨P, h1, own_below h2 hb, fun p hp => (h3 p hp).below hb⟩
/-- What the calls on a disk leave is a disk whose rows lie apart. -/
structure CutI (ks : List (Int × Int)) (w W : World) (gf j : Nat) (q x : Int) (vf vn vk vm : Value) (D : PD) : Prop where
  box : DP.BoxR w.heap.size w W [.int .i64 q, vf, vn, vk, vm, .int .i64 x]
  n : NsOut (fun g => w.heap.size + 2 ≤ g ∧ g ≠ gf) W vn D.names
  k : NsOut (fun g => w.heap.size + 2 ≤ g ∧ g ≠ gf) W vk D.kept
  m : MsOut (fun g => w.heap.size + 2 ≤ g ∧ g ≠ gf) W vm D.moves
  f : CutAt ks (w.heap.size + 2) gf W vf D.files j
theorem CutI.below {ks : List (Int × Int)} {w W W' : World} {gf j : Nat} {q x : Int} {vf vn vk vm : Value} {D : PD} (h : CutI ks w W gf j q x vf vn vk vm D) (hb : Below W.heap.size W W') : CutI ks w W' gf j q x vf vn vk vm D :=
  ⟨h.box.step hb (Nat.le_refl _), h.n.below hb, h.k.below hb, h.m.below hb, h.f.below hb⟩
theorem CutI.start {ks : List (Int × Int)} {w W : World} {gf : Nat} {q x : Int} {vf vn vk vm : Value} {us : List Value} {D : PD} (h : DP.Mid w W q x vf vn vk vm us D) (hg : ∀ y ∈ vn :: vk :: vm :: us, y.ownBlock ≠ some gf) : CutI ks w W gf 0 q x vf vn vk vm D := by
  have hat := h.own.at_
  refine ⟨h.box, SlOut.ne hat.n (hg _ (by simp)), SlOut.ne hat.k (hg _ (by simp)), SlOut.ne hat.m (hg _ (by simp)), D.files.zip us, ?_, ?_, fun p hp => ?_⟩
  · rw [zip_fst h.own.hu]
    simp
  · rw [List.length_zip, h.own.hu, Nat.min_self]
    exact h.own.f
  · exact ((h.own.by_ p hp).s).ne (hg _ (by simp [(List.of_mem_zip hp).2]))
theorem CutI.len {ks : List (Int × Int)} {w W : World} {gf j n c : Nat} {q x : Int} {A : Option Addr} {vn vk vm : Value} {D : PD} (h : CutI ks w W gf j q x (.slice A n c) vn vk vm D) : n = D.files.length := by
  obtain ⟨P, h1, h2, _⟩ := h.f
  have e := own_len h2
  have := congrArg List.length h1
  simp at this
  omega
theorem CutI.read {ks : List (Int × Int)} {w W : World} {gf j n c : Nat} {q x : Int} {A : Option Addr} {vn vk vm : Value} {D : PD} (h : CutI ks w W gf j q x (.slice A n c) vn vk vm D) (hj : j < n) :
    ∃ g f Z d, A = some ⟨g, 0, none⟩ ∧ D.files[j]? = some f ∧ w.heap.size + 2 ≤ g ∧ g < W.heap.size ∧ f.bytes.length ≤ d ∧ W.cell? ⟨g, j * 3, none⟩ = some (.int .i64 (f.id : Nat)) ∧ W.cell? ⟨g, j * 3 + 1, none⟩ = some (.slice Z f.bytes.length d) ∧ W.cell? ⟨g, j * 3 + 2, none⟩ = some (.int .i64 (f.sure : Nat)) ∧
      (∀ i, i < 3 → W.frozen? ⟨g, j * 3 + i, none⟩ = false) ∧ ByS (fun k => w.heap.size + 2 ≤ k ∧ k ≠ gf) W (.slice Z f.bytes.length d) f.bytes := by
  have hn := h.len
  obtain ⟨P, h1, h2, h3⟩ := h.f
  have e := own_len h2
  obtain ⟨p, hp⟩ : ∃ p, P[j]? = some p := ⟨_, List.getElem?_eq_getElem (by omega)⟩
  have hf : D.files[j]? = some p.1 := by
    have h4 := congrArg (fun l : List PF => l[j]?) h1
    simp only [List.getElem?_map, hp, Option.map_some] at h4
    rw [List.getElem?_append_right (by rw [List.length_map, List.length_take]; omega), List.length_map, List.length_take, List.getElem?_drop] at h4
    rw [h4]
    congr 1
    omega
  obtain ⟨f, u⟩ := p
  obtain ⟨Z, d, hu, hd, _⟩ := id (h3 _ (List.mem_of_getElem? hp))
  have hu : u = .slice Z f.bytes.length d := hu
  subst hu
  have c0 := flat_at cF 3 (fun _ => rfl) _ _ _ hp 0 (by decide)
  have c1 := flat_at cF 3 (fun _ => rfl) _ _ _ hp 1 (by decide)
  have c2 := flat_at cF 3 (fun _ => rfl) _ _ _ hp 2 (by decide)
  have h2' : W.ownsRow (w.heap.size + 2) 58 3 (.slice A n c) n (P.flatMap cF) := by rw [← e] at h2; exact h2
  obtain ⟨g, eg, hg1, hg2, k0, f0⟩ := DP.own_nth h2' c0
  obtain ⟨g1, eg1, _, _, k1, f1⟩ := DP.own_nth h2' c1
  obtain ⟨g2, eg2, _, _, k2, f2⟩ := DP.own_nth h2' c2
  obtain rfl : g = g1 := by rw [eg] at eg1; injection eg1 with e1; injection e1
  obtain rfl : g = g2 := by rw [eg] at eg2; injection eg2 with e1; injection e1
  refine ⟨g, f, Z, d, eg, hf, hg1, hg2, hd, k0, k1, k2, fun i hi => ?_, h3 _ (List.mem_of_getElem? hp)⟩
  match i, hi with
  | 0, _ => exact f0
  | 1, _ => exact f1
  | 2, _ => exact f2
/-- One file is cut. -/
theorem CutI.next {ks : List (Int × Int)} {w W : World} {gf j n c st d : Nat} {q x : Int} {vn vk vm : Value} {D : PD} {f : PF} {Z : Option Addr} (h : CutI ks w W gf j q x (.slice (some ⟨gf, 0, none⟩) n c) vn vk vm D) (hj : D.files[j]? = some f) (hg : w.heap.size + 2 ≤ gf)
    (hby : ByS (fun k => w.heap.size + 2 ≤ k ∧ k ≠ gf) W (.slice Z f.bytes.length d) f.bytes) (hst : f.sure + min (keepOf ks f.id) (f.bytes.length - f.sure) = st) (hs : st ≤ f.bytes.length) :
    CutI ks w (((W.setCell ⟨gf, j * 3, none⟩ (.int .i64 (f.id : Nat))).setCell ⟨gf, j * 3 + 1, none⟩ (.slice Z st st)).setCell ⟨gf, j * 3 + 2, none⟩ (.int .i64 (st : Nat))) gf (j + 1) q x (.slice (some ⟨gf, 0, none⟩) n c) vn vk vm D := by
  have hn := h.len
  obtain ⟨P, h1, h2, h3⟩ := h.f
  have hP : n = P.length := own_len h2
  have hjn := (List.getElem?_eq_some_iff.1 hj).1
  have hcut : fCut ks f = ⟨f.id, f.bytes.take st, st⟩ := by unfold fCut; rw [hst]
  obtain ⟨s1, s2⟩ := DP.three_set (f := ⟨f.id, f.bytes.take st, st⟩) (u := .slice Z st st) (hP ▸ h2) (by omega : j < P.length)
  have hk : KeepS (fun g => w.heap.size + 2 ≤ g ∧ g ≠ gf) W (((W.setCell ⟨gf, j * 3, none⟩ (.int .i64 (f.id : Nat))).setCell ⟨gf, j * 3 + 1, none⟩ (.slice Z st st)).setCell ⟨gf, j * 3 + 2, none⟩ (.int .i64 (st : Nat))) := by
    have hx := ((keep_set (b := gf) (o := j * 3) W (.int .i64 (f.id : Nat))).trans (keep_set (b := gf) (o := j * 3 + 1) _ (.slice Z st st))).trans (keep_set (b := gf) (o := j * 3 + 2) _ (.int .i64 (st : Nat)))
    exact fun b o hb => hx b o hb.2
  have hbc := hby.cut hs
  refine ⟨h.box.grown s2 (Nat.le_refl _) (fun k e => by have := Option.some.inj e; omega) (by simp), h.n.keep hk, h.k.keep hk, h.m.keep hk, P.set j (⟨f.id, f.bytes.take st, st⟩, .slice Z st st), ?_, ?_, fun p hp => ?_⟩
  · rw [List.map_set, h1, List.take_add_one, hj, List.map_append]
    have hl : ((D.files.take j).map (fCut ks)).length = j := by rw [List.length_map, List.length_take]; omega
    rw [List.set_append_right _ _ (by omega), hl, Nat.sub_self, List.drop_eq_getElem_cons hjn, List.set_cons_zero]
    show _ = List.map (fCut ks) (List.take j D.files) ++ [fCut ks f] ++ _
    rw [hcut, List.append_assoc]
    rfl
  · rw [← hP] at s1
    rw [List.length_set, ← hP]
    exact s1
  · rcases List.mem_or_eq_of_mem_set hp with hp | rfl
    · exact (h3 p hp).keep hk
    · exact hbc.keep hk
theorem CutI.fin {ks : List (Int × Int)} {S : Nat → Prop} {w W y : World} {gf j : Nat} {q x : Int} {vf vn vk vm : Value} {cs : List Value} {D : PD} (h : CutI ks w W gf j q x vf vn vk vm D) (hj : D.files.length ≤ j) (hp : Put W y (w.heap.size + 1) cs) (hq : q = (D.quota : Nat)) (hx : x = (D.next : Nat)) :
    DkOut (fun g => S g ∨ w.heap.size ≤ g) y (.agg #[.int .i64 q, vf, vn, vk, vm, .int .i64 x]) ⟨D.quota, D.files.map (fCut ks), D.names, D.kept, D.moves, D.next⟩ ∧ Below w.heap.size w y := by
  have hs := h.box.size
  have hk : KeepS (fun g => w.heap.size + 2 ≤ g ∧ g ≠ gf) W y := fun b o hb => hp.keep b o (by have := hb.1; omega)
  have hm : ∀ g, g < y.heap.size → (w.heap.size + 2 ≤ g ∧ g ≠ gf) → S g ∨ w.heap.size ≤ g := fun g _ hg => .inr (by omega)
  obtain ⟨P, h1, h2, h3⟩ := h.f
  rw [List.take_of_length_le hj, List.drop_of_length_le hj, List.append_nil] at h1
  have hfy : y.ownsRow (w.heap.size + 2) 58 3 vf P.length (P.flatMap cF) := own_far h2 hp.grown (by omega)
  have hF : FsOut (fun g => w.heap.size + 2 ≤ g) y vf (P.map (·.1)) := files_own hfy (fun p hp2 => ((h3 p hp2).keep hk).mono fun g _ hg => hg.1) fun _ h => h
  rw [h1] at hF
  subst hq hx
  exact ⟨⟨vf, vn, vk, vm, rfl, ⟨hF.mono fun g _ hg => .inr (by omega), (h.n.keep hk).mono hm, (h.k.keep hk).mono hm, (h.m.keep hk).mono hm⟩⟩, h.box.below.grown hp.grown (by omega) fun k e => by have := Option.some.inj e; omega⟩
end Go.Proofs.Ytmkjjcogheidmaa
