/-
  copied: a disk of new memory.
-/
import Derived.Test.YtmkjjcogheidmaaDskOD
import Derived.Deep.RegionWith
set_option linter.unusedSimpArgs false
set_option linter.unusedVariables false
namespace Go.Proofs.Ytmkjjcogheidmaa.DP
open Go.RowKit
def nilDk : Array Value := #[.int .i64 0, .slice none 0 0, .slice none 0 0, .slice none 0 0, .slice none 0 0, .int .i64 0]
theorem by_reads {S : Nat → Prop} {w : World} {A : Option Addr} {n c : Nat} {l : List Nat} (h : ByS S w (.slice A n c) l) : Reads w w.heap.size 1 A n (bys l) ∧ l.length = n ∧ n ≤ c := by
  obtain ⟨A', c', hv, hc, hx⟩ := h
  injection hv with h1 h2 h3
  subst h1 h2 h3
  exact ⟨reads_by fun hn => by obtain ⟨b, off, hA, _, hf⟩ := hx hn; exact ⟨b, off, hA, hf⟩, rfl, hc⟩
theorem cF_take (l : List (PF × Value)) (k : Nat) : (l.flatMap cF).take (k * 3) = (l.take k).flatMap cF := by
  induction l generalizing k with
  | nil => simp
  | cons x r ih =>
    cases k with
    | zero => simp
    | succ k => rw [List.take_succ_cons, List.flatMap_cons, List.flatMap_cons, ← ih k, Nat.succ_mul]; rfl
theorem cF_drop (l : List (PF × Value)) (k : Nat) : (l.flatMap cF).drop (k * 3) = (l.drop k).flatMap cF := by
  induction l generalizing k with
  | nil => simp
  | cons x r ih =>
    cases k with
    | zero => simp
    | succ k => rw [List.drop_succ_cons, List.flatMap_cons, ← ih k, Nat.succ_mul]; rfl
theorem cF_set {l : List (PF × Value)} {k : Nat} {f : PF} {u u' : Value} (h : l[k]? = some (f, u)) : (l.flatMap cF).set (k * 3 + 1) u' = (l.set k (f, u')).flatMap cF := by
  induction l generalizing k with
  | nil => simp at h
  | cons x r ih =>
    cases k with
    | zero =>
      have : x = (f, u) := by simpa using h
      subst this
      rfl
    | succ k =>
      have := ih (k := k) (by simpa using h)
      rw [List.set_cons_succ, List.flatMap_cons, List.flatMap_cons, ← this, List.set_append_right _ _ (by show 3 ≤ _; omega)]
      congr 2
      show (k + 1) * 3 + 1 - 3 = _
      omega
theorem cF_one {l : List (PF × Value)} (h : ∀ p ∈ l, p.2.oneCell' = true) : ∀ u ∈ l.flatMap cF, u.oneCell' = true := by
  intro u hu
  obtain ⟨x, hx, hu⟩ := List.mem_flatMap.1 hu
  simp [cF] at hu
  rcases hu with rfl | rfl | rfl
  · rfl
  · exact h x hx
  · rfl
theorem cM_one (l : List PM) : ∀ u ∈ l.flatMap cM, u.oneCell' = true := by
  intro u hu
  obtain ⟨x, _, hx⟩ := List.mem_flatMap.1 hu
  simp [cM] at hx
  rcases hx with rfl | rfl | rfl | rfl <;> rfl
/-- What stands in the midst of the copying: k files have bytes of their own. -/
structure CI (w W : World) (k : Nat) (vf : Value) (q x : Int) (v2 v3 v4 : Value) (uo us : List Value) (fs : List PF) : Prop where
  box : Holds W w.heap.size [.int .i64 q, vf, v2, v3, v4, .int .i64 x]
  dv : DVar W w.heap.size 6
  rv : DVar W (w.heap.size + 1) 6
  below : Below w.heap.size w W
  size : w.heap.size + 2 ≤ W.heap.size
  hu : us.length = k
  f : W.ownsRow (w.heap.size + 2) 58 3 vf fs.length (((fs.take k).zip us ++ (fs.drop k).zip (uo.drop k)).flatMap cF)
  by_ : ∀ p ∈ (fs.take k).zip us, ByNew (w.heap.size + 2) W p.2 p.1.bytes
  apart : Apart (vf :: us)
theorem CI.step {w W W' : World} {k : Nat} {vf : Value} {q x : Int} {v2 v3 v4 : Value} {uo us : List Value} {fs : List PF} (h : CI w W k vf q x v2 v3 v4 uo us fs) (hb : Below W.heap.size W W') : CI w W' k vf q x v2 v3 v4 uo us fs :=
  ⟨h.box.below hb, h.dv.below hb, h.rv.below hb, bnext h.below hb, Nat.le_trans h.size hb.size, h.hu, own_below h.f hb, fun p hp => own_below (h.by_ p hp) hb, h.apart⟩
theorem own_nth {w : World} {base : Nat} {e : TypeId} {k n c : Nat} {A : Option Addr} {xs : List Value} (h : w.ownsRow base e k (.slice A n c) n xs) {j : Nat} {u : Value} (hx : xs[j]? = some u) : ∃ g, A = some ⟨g, 0, none⟩ ∧ base ≤ g ∧ g < w.heap.size ∧ w.cell? ⟨g, j, none⟩ = some u ∧ w.frozen? ⟨g, j, none⟩ = false := by
  have hl := (List.getElem?_eq_some_iff.1 hx).1
  rcases id h.2 with ⟨h0, h1⟩ | ⟨g, cap, cur, hv, hbg, hg, hnc, hcm, hcs, htake⟩
  · rw [h.1, h1] at hl; omega
  · injection hv with h1 _ h2
    subst h1 h2
    refine ⟨g, rfl, hbg, (Array.getElem?_eq_some_iff.1 hg).1, ?_, frozen_of_row _ _ _ _ _ hg⟩
    have := h.cells (g := g) rfl j u hx
    rwa [Addr.add_mid, Nat.zero_add] at this
theorem CI.at_k {w W : World} {k : Nat} {vf : Value} {q x : Int} {v2 v3 v4 : Value} {uo us : List Value} {fs : List PF} (h : CI w W k vf q x v2 v3 v4 uo us fs) {f : PF} {u : Value} (hf : fs[k]? = some f) (hu : uo[k]? = some u) : ((fs.take k).zip us ++ (fs.drop k).zip (uo.drop k))[k]? = some (f, u) := by
  have hk := (List.getElem?_eq_some_iff.1 hf).1
  have hl : ((fs.take k).zip us).length = k := by rw [List.length_zip, List.length_take, h.hu]; omega
  rw [List.getElem?_append_right (by omega), hl, Nat.sub_self, List.getElem?_zip_eq_some]
  exact ⟨by rw [List.getElem?_drop, Nat.add_zero]; exact hf, by rw [List.getElem?_drop, Nat.add_zero]; exact hu⟩
/-- One file more has its own bytes. -/
theorem CI.next {w W W' : World} {k : Nat} {A : Option Addr} {n c g : Nat} {q x : Int} {v2 v3 v4 u' : Value} {uo us : List Value} {fs : List PF} (h : CI w W k (.slice A n c) q x v2 v3 v4 uo us fs) (hA : A = some ⟨g, 0, none⟩) {f : PF} {u : Value} (hf : fs[k]? = some f) (hu : uo[k]? = some u)
    (hb : Below W.heap.size W W') (ho : ByNew W.heap.size W' u' f.bytes) : CI w (W'.setCell ⟨g, k * 3 + 1, none⟩ u') (k + 1) (.slice A n c) q x v2 v3 v4 uo (us ++ [u']) fs := by
  have hk := (List.getElem?_eq_some_iff.1 hf).1
  have hl : ((fs.take k).zip us).length = k := by rw [List.length_zip, List.length_take, h.hu]; omega
  obtain rfl : n = fs.length := by
    obtain ⟨_, _, e, _⟩ := own_form h.f
    injection e
  have h2 := h.step hb
  subst hA
  have hgb : w.heap.size + 2 ≤ g ∧ g < W.heap.size := by
    have := h.f.lt g rfl
    exact this
  have hne : ∀ i, some i ≠ (Value.slice (some ⟨g, 0, none⟩) fs.length c).ownBlock → i ≠ g := fun i hi e => hi (by rw [e]; rfl)
  have hgr := grown_set1 W' g (k * 3 + 1) u'
  have hkn : ∀ b, b < w.heap.size + 2 → KeepS (fun y => y = b) W' (W'.setCell ⟨g, k * 3 + 1, none⟩ u') := fun b hb' y o hy => World.cell?_setCell_other _ _ _ _ (fun e => by injection e with e; omega)
  have hsz := h.size
  obtain ⟨s1, s2⟩ := h2.f.stored (k * 3 + 1) u'
  refine ⟨h2.box.keep (hkn _ (by omega)) rfl, h2.dv.set u', h2.rv.set u', h2.below.setCell (show w.heap.size ≤ g by omega) _, by simp; exact h2.size, by rw [List.length_append, h.hu]; rfl, ?_, ?_, ?_⟩
  · have e : ((fs.take k).zip us ++ (fs.drop k).zip (uo.drop k)).set k (f, u') = (fs.take (k + 1)).zip (us ++ [u']) ++ (fs.drop (k + 1)).zip (uo.drop (k + 1)) := by
      have hk2 := (List.getElem?_eq_some_iff.1 hu).1
      rw [List.set_append_right _ _ (by omega), hl, Nat.sub_self, List.take_add_one, hf, List.zip_append (by rw [List.length_take, h.hu]; omega), List.append_assoc]
      congr 1
      rw [List.drop_eq_getElem_cons hk, List.drop_eq_getElem_cons hk2]
      rfl
    rw [cF_set (h.at_k hf hu), e] at s1
    exact s1
  · intro p hp
    rw [List.take_add_one, hf] at hp
    rw [List.zip_append (by rw [List.length_take, h.hu]; omega)] at hp
    rcases List.mem_append.1 hp with hp | hp
    · have hs : Sep p.2 (.slice (some ⟨g, 0, none⟩) fs.length c) := by
        have := (List.pairwise_cons.1 h.apart).1 p.2 (List.of_mem_zip hp).2
        exact this.symm
      exact own_kept (h2.by_ p hp) (v0 := .slice (some ⟨g, 0, none⟩) fs.length c) hgr hs
    · have : p = (f, u') := by simpa using hp
      rw [this]
      have h3 := own_base ho (show w.heap.size + 2 ≤ W.heap.size from hsz)
      refine own_kept h3 (v0 := .slice (some ⟨g, 0, none⟩) fs.length c) hgr fun y hy e => ?_
      have := (ho.lt y hy).1
      have e2 : g = y := Option.some.inj e
      omega
  · rw [Apart, List.pairwise_cons]
    have ha := List.pairwise_cons.1 h.apart
    have hn : ∀ {v : Value} {e : TypeId} {k n : Nat} {xs : List Value} {b : Nat}, W.ownsRow b e k v n xs → Sep v u' := fun hv => sep_new hv fun y hy => (ho.lt y hy).1
    refine ⟨fun y hy => ?_, ?_⟩
    · rcases List.mem_append.1 hy with hy | hy
      · exact ha.1 y hy
      · rw [List.mem_singleton.1 hy]; exact hn h.f
    · refine List.pairwise_append.2 ⟨ha.2, List.pairwise_singleton _ _, fun y hy z hz => ?_⟩
      rw [List.mem_singleton.1 hz]
      obtain ⟨f0, hf0⟩ := zip_mem (l := fs.take k) (u := us) (by rw [h.hu, List.length_take]; omega) hy
      exact hn (h.by_ _ hf0)
theorem le_used {f : PF} : ∀ {l : List PF}, f ∈ l → f.bytes.length ≤ usedF l
  | [], h => by simp at h
  | x :: r, h => by
    show f.bytes.length ≤ x.bytes.length + usedF r
    rcases List.mem_cons.1 h with rfl | h
    · omega
    · have := le_used h
      omega
/-- Three cells of a box are stored. -/
theorem box3 {w : World} {b : Nat} {v0 v1 v2 v3 v4 v5 a2 a3 a4 : Value} (h : Holds w b [v0, v1, v2, v3, v4, v5]) : Holds (((w.setCell ⟨b, 2, none⟩ a2).setCell ⟨b, 3, none⟩ a3).setCell ⟨b, 4, none⟩ a4) b [v0, v1, a2, a3, a4, v5] := by
  obtain ⟨c0, c1, c2, c3, c4, c5⟩ := h.six
  have ne : ∀ (W : World) (i j : Nat) (u : Value), i ≠ j → (W.setCell ⟨b, i, none⟩ u).cell? ⟨b, j, none⟩ = W.cell? ⟨b, j, none⟩ := fun W i j u hij => World.cell?_setCell_other W _ _ u (fun e => by injection e with _ e; exact hij e)
  intro j v hj
  match j with
  | 0 => rw [ne _ 4 0 _ (by decide), ne _ 3 0 _ (by decide), ne _ 2 0 _ (by decide), c0]; exact hj
  | 1 => rw [ne _ 4 1 _ (by decide), ne _ 3 1 _ (by decide), ne _ 2 1 _ (by decide), c1]; exact hj
  | 2 => rw [ne _ 4 2 _ (by decide), ne _ 3 2 _ (by decide), World.cell?_setCell_same _ _ _ c2]; exact hj
  | 3 => rw [ne _ 4 3 _ (by decide), World.cell?_setCell_same _ _ _ ((ne _ 2 3 _ (by decide)).trans c3)]; exact hj
  | 4 => rw [World.cell?_setCell_same _ _ _ (((ne _ 3 4 _ (by decide)).trans (ne _ 2 4 _ (by decide))).trans c4)]; exact hj
  | 5 => rw [ne _ 4 5 _ (by decide), ne _ 3 5 _ (by decide), ne _ 2 5 _ (by decide), c5]; exact hj
  | j + 6 => simp at hj
theorem grown3 (w : World) (b : Nat) (a2 a3 a4 : Value) : w.grownBy (((w.setCell ⟨b, 2, none⟩ a2).setCell ⟨b, 3, none⟩ a3).setCell ⟨b, 4, none⟩ a4) (some b) := ((grown_set1 w b 2 a2).trans (grown_set1 _ b 3 a3)).trans (grown_set1 _ b 4 a4)
structure CopyFin (w W : World) (q x : Int) (vf v2 v3 v4 : Value) (us : List Value) (D : PD) : Prop where
  box : Holds W w.heap.size [.int .i64 q, vf, v2, v3, v4, .int .i64 x]
  rv : DVar W (w.heap.size + 1) 6
  below : Below w.heap.size w W
  own : DkOwn (w.heap.size + 2) W vf v2 v3 v4 us D
theorem copied_fin {w wr w5 w6 w7 : World} {k : Nat} {q x : Int} {vf o2 o3 o4 v2 v3 v4 : Value} {uo us : List Value} {D : PD} (hci : CI w wr k vf q x o2 o3 o4 uo us D.files) (hk : D.files.length = k)
    (hof : wr.ownsRow (w.heap.size + 2) 58 3 vf D.files.length ((D.files.zip us).flatMap cF)) (hby : ∀ p ∈ D.files.zip us, ByNew (w.heap.size + 2) wr p.2 p.1.bytes)
    (b5 : Below wr.heap.size wr w5) (b6 : Below w5.heap.size w5 w6) (b7 : Below w6.heap.size w6 w7)
    (h2 : w5.ownsRow wr.heap.size 79 2 v2 D.names.length (D.names.flatMap cN)) (h3 : w6.ownsRow w5.heap.size 79 2 v3 D.kept.length (D.kept.flatMap cN)) (h4 : w7.ownsRow w6.heap.size 66 4 v4 D.moves.length (D.moves.flatMap cM)) :
    CopyFin w (((w7.setCell ⟨w.heap.size, 2, none⟩ v2).setCell ⟨w.heap.size, 3, none⟩ v3).setCell ⟨w.heap.size, 4, none⟩ v4) q x vf v2 v3 v4 us D := by
  have hsz := hci.size
  have s5 := b5.size; have s6 := b6.size; have s7 := b7.size
  have b57 : Below wr.heap.size wr w7 := bnext (bnext b5 b6) b7
  have hg := grown3 w7 w.heap.size v2 v3 v4
  refine ⟨box3 (hci.box.below b57), ((hci.rv.below b57).set _ |>.set _ |>.set _), (bnext hci.below b57).grown hg (by omega) (fun y e => by have := Option.some.inj e; omega), ?_⟩
  have lt2 : ∀ g, v2.ownBlock = some g → g < w5.heap.size := fun g e => (h2.lt g e).2
  have lt3 : ∀ g, v3.ownBlock = some g → g < w6.heap.size := fun g e => (h3.lt g e).2
  have ge2 : ∀ g, v2.ownBlock = some g → wr.heap.size ≤ g := fun g e => (h2.lt g e).1
  have ge3 : ∀ g, v3.ownBlock = some g → w5.heap.size ≤ g := fun g e => (h3.lt g e).1
  have ge4 : ∀ g, v4.ownBlock = some g → w6.heap.size ≤ g := fun g e => (h4.lt g e).1
  have ltf : ∀ g, vf.ownBlock = some g → g < wr.heap.size := fun g e => (hof.lt g e).2
  have ltu : ∀ u ∈ us, ∀ g, u.ownBlock = some g → g < wr.heap.size := fun u hu g e => by
    obtain ⟨f, hf⟩ := zip_mem (l := D.files) (by rw [hci.hu, hk]) hu
    exact ((hby _ hf).lt g e).2
  have own : DkOwn (w.heap.size + 2) w7 vf v2 v3 v4 us D := by
    refine ⟨by rw [hci.hu, hk], own_below hof b57, own_base (own_below (own_below h2 b6) b7) hsz, own_base (own_below h3 b7) (by omega), own_base h4 (by omega), fun p hp => own_below (hby p hp) b57, ?_⟩
    refine List.pairwise_cons.2 ⟨fun y hy g e1 e2 => ?_, List.pairwise_cons.2 ⟨fun y hy g e1 e2 => ?_, List.pairwise_cons.2 ⟨fun y hy g e1 e2 => ?_, hci.apart⟩⟩⟩
    · have a1 := lt2 g e1; have a2 := ge2 g e1
      rcases List.mem_cons.1 hy with rfl | hy
      · have := ge3 g e2; omega
      rcases List.mem_cons.1 hy with rfl | hy
      · have := ge4 g e2; omega
      rcases List.mem_cons.1 hy with rfl | hy
      · have := ltf g e2; omega
      · have := ltu y hy g e2; omega
    · have a1 := lt3 g e1; have a2 := ge3 g e1
      rcases List.mem_cons.1 hy with rfl | hy
      · have := ge4 g e2; omega
      rcases List.mem_cons.1 hy with rfl | hy
      · have := ltf g e2; omega
      · have := ltu y hy g e2; omega
    · have a2 := ge4 g e1
      rcases List.mem_cons.1 hy with rfl | hy
      · have := ltf g e2; omega
      · have := ltu y hy g e2; omega
  exact own.put hg (by omega)
end Go.Proofs.Ytmkjjcogheidmaa.DP
