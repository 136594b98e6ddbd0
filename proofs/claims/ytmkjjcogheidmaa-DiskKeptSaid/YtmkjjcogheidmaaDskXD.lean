/-
  One file of a disk of one's own is turned: its sure bytes, its bytes; the file that a name leads to.
-/
import Derived.Test.YtmkjjcogheidmaaDskXB
set_option linter.unusedSimpArgs false
set_option linter.unusedVariables false
namespace Go.Proofs.Ytmkjjcogheidmaa
open Go.RowKit
theorem find_at {i : Nat} : ∀ {l : List PF}, (l.Pairwise fun a b => a.id < b.id) → ∀ {k : Nat} {f : PF}, l[k]? = some f → f.id = i → (l.find? fun f => decide (f.id = i)) = some f
  | [], _, k, f, h, _ => by simp at h
  | x :: r, hs, 0, f, h, e => by
    obtain rfl : x = f := by simpa using h
    simp [e]
  | x :: r, hs, k + 1, f, h, e => by
    have h2 := List.pairwise_cons.1 hs
    have hf : r[k]? = some f := by simpa using h
    have := h2.1 f (List.mem_of_getElem? hf)
    rw [List.find?_cons_of_neg (by simp; omega)]
    exact find_at h2.2 hf e
theorem map_at {g : PF → PF} {i : Nat} (hg : ∀ f, f.id ≠ i → g f = f) : ∀ {l : List PF}, (l.Pairwise fun a b => a.id < b.id) → ∀ {k : Nat} {f : PF}, l[k]? = some f → f.id = i → l.map g = l.set k (g f)
  | [], _, k, f, h, _ => by simp at h
  | x :: r, hs, 0, f, h, e => by
    obtain rfl : x = f := by simpa using h
    have h2 := List.pairwise_cons.1 hs
    rw [List.map_cons, List.set_cons_zero]
    congr 1
    conv => rhs; rw [← List.map_id r]
    refine List.map_congr_left fun y hy => hg y ?_
    have := h2.1 y hy
    omega
  | x :: r, hs, k + 1, f, h, e => by
    have h2 := List.pairwise_cons.1 hs
    have hf : r[k]? = some f := by simpa using h
    have := h2.1 f (List.mem_of_getElem? hf)
    rw [List.map_cons, List.set_cons_succ, hg x (by omega), map_at hg h2.2 hf e]
/-- The file that a name leads to. -/
theorem file_at {D : PD} (h : PInv D) {s : ByteArray} (hn : nHas s D.names) : ∃ f, D.files[fAt (nId s D.names) D.files]? = some f ∧ f.id = nId s D.names := by
  obtain ⟨y, hy, ey⟩ := (nHas_iff h.dir.sorted).1 hn
  have hid := nId_at h.dir.sorted hy ey
  have hyf := h.dir.sub y (List.mem_of_getElem? hy)
  obtain ⟨f, hf, e⟩ := List.mem_map.1 hyf
  rw [hid]
  exact (fHas_iff h.fsort).1 ⟨f, hf, e⟩
theorem zip_set {α β : Type} : ∀ {l : List α} {u : List β} {k : Nat} {x : α} {y : β}, (l.set k x).zip (u.set k y) = (l.zip u).set k (x, y)
  | [], u, k, x, y => by simp
  | a :: l, [], k, x, y => by simp
  | a :: l, b :: u, 0, x, y => rfl
  | a :: l, b :: u, k + 1, x, y => by rw [List.set_cons_succ, List.set_cons_succ, List.zip_cons_cons, List.zip_cons_cons, List.set_cons_succ, zip_set]
theorem set_same {α : Type} {l : List α} {k : Nat} {x : α} (h : l[k]? = some x) : l.set k x = l := by
  obtain ⟨hk, e⟩ := List.getElem?_eq_some_iff.1 h
  subst e
  exact List.set_getElem_self hk
theorem cF_set2 {l : List (PF × Value)} {k : Nat} {f : PF} {u : Value} {s : Nat} (h : l[k]? = some (f, u)) : (l.flatMap cF).set (k * 3 + 2) (.int .i64 (s : Nat)) = (l.set k (⟨f.id, f.bytes, s⟩, u)).flatMap cF := by
  induction l generalizing k with
  | nil => simp at h
  | cons x r ih =>
    cases k with
    | zero =>
      have : x = (f, u) := by simpa using h
      subst this
      rfl
    | succ k =>
      have := ih (k := k) (by simpa using h)
      rw [List.set_cons_succ, List.flatMap_cons, List.flatMap_cons, ← this, List.set_append_right _ _ (by show 3 ≤ _; omega)]
      congr 2
      show (k + 1) * 3 + 2 - 3 = _
      omega
theorem cF_same {u u' : Value} {f f' : PF} (hid : f'.id = f.id) (hs : f'.sure = f.sure) : ∀ (l : List (PF × Value)) (p : Nat), l[p]? = some (f, u) → (l.set p (f, u')).flatMap cF = (l.set p (f', u')).flatMap cF
  | [], _, h => by simp at h
  | x :: r, 0, _ => by
    rw [List.set_cons_zero, List.set_cons_zero, List.flatMap_cons, List.flatMap_cons]
    unfold cF
    rw [hid, hs]
  | x :: r, p + 1, h => by rw [List.set_cons_succ, List.set_cons_succ, List.flatMap_cons, List.flatMap_cons, cF_same hid hs r p (by simpa using h)]
theorem own_len {w : World} {base k n m c : Nat} {e : TypeId} {A : Option Addr} {xs : List Value} (h : w.ownsRow base e k (.slice A n c) m xs) : n = m := by
  obtain ⟨_, _, e, _⟩ := own_form h
  injection e
/-- One of the rows becomes another, which lies in its block or in a new one. -/
theorem apart_set {w : World} {L : List Value} (h : Apart L) (hlt : ∀ v ∈ L, ∀ g, v.ownBlock = some g → g < w.heap.size) {i : Nat} {u u' : Value} (hu : L[i]? = some u) (hL : Lies w u u') : Apart (L.set i u') := by
  unfold Apart at *
  rw [List.pairwise_iff_getElem] at h ⊢
  obtain ⟨hi, ei⟩ := List.getElem?_eq_some_iff.1 hu
  intro a b ha hb hab
  rw [List.length_set] at ha hb
  rw [List.getElem_set, List.getElem_set]
  have base := h a b ha hb hab
  split
  · rename_i e
    subst e
    rw [if_neg (by omega)]
    rw [ei] at base
    exact sep_lies base hL (hlt _ (List.getElem_mem hb))
  · split
    · rename_i e
      subst e
      rw [ei] at base
      exact (sep_lies base.symm hL (hlt _ (List.getElem_mem ha))).symm
    · exact base
theorem DkOwn.synced {base g p n c : Nat} {w : World} {vn vk vm : Value} {us : List Value} {D : PD} (h : DkOwn base w (.slice (some ⟨g, 0, none⟩) n c) vn vk vm us D) {f : PF} (hf : D.files[p]? = some f) (s : Nat) :
    DkOwn base (w.setCell ⟨g, p * 3 + 2, none⟩ (.int .i64 (s : Nat))) (.slice (some ⟨g, 0, none⟩) n c) vn vk vm us ⟨D.quota, D.files.set p ⟨f.id, f.bytes, s⟩, D.names, D.kept, D.moves, D.next⟩ := by
  obtain rfl := own_len h.f
  obtain ⟨u, hu⟩ : ∃ u, us[p]? = some u := ⟨_, List.getElem?_eq_getElem (by rw [h.hu]; exact (List.getElem?_eq_some_iff.1 hf).1)⟩
  have hz : (D.files.zip us)[p]? = some (f, u) := List.getElem?_zip_eq_some.2 ⟨hf, hu⟩
  have hzs : (D.files.set p ⟨f.id, f.bytes, s⟩).zip us = (D.files.zip us).set p (⟨f.id, f.bytes, s⟩, u) := by
    have := zip_set (l := D.files) (u := us) (k := p) (x := (⟨f.id, f.bytes, s⟩ : PF)) (y := u)
    rwa [set_same hu] at this
  obtain ⟨s1, _⟩ := h.f.stored (p * 3 + 2) (.int .i64 (s : Nat))
  rw [cF_set2 hz, ← hzs] at s1
  refine h.filesT (grown_set1 w g _ _) (by rw [List.length_set]; exact h.hu) (by rw [List.length_set]; exact s1) (.inl rfl) (fun q hq => ?_) (List.Pairwise.sublist (by exact (List.sublist_cons_self _ _).trans ((List.sublist_cons_self _ _).trans ((List.sublist_cons_self _ _).trans (List.sublist_cons_self _ _)))) h.apart)
  rw [hzs] at hq
  rcases List.mem_or_eq_of_mem_set hq with hq | rfl
  · exact ⟨(List.of_mem_zip hq).2, h.by_ q hq⟩
  · exact ⟨List.mem_of_getElem? hu, h.by_ (f, u) (List.mem_of_getElem? hz)⟩
theorem DkOwn.appended {base g p n c : Nat} {w w1 : World} {vn vk vm u u' : Value} {us : List Value} {D : PD} {b : List Nat} (h : DkOwn base w (.slice (some ⟨g, 0, none⟩) n c) vn vk vm us D) {f : PF} (hf : D.files[p]? = some f) (hu : us[p]? = some u)
    (hg : w.grownBy w1 u.ownBlock) (ho : ByNew base w1 u' (f.bytes ++ b)) (hL : Lies w u u') :
    DkOwn base (w1.setCell ⟨g, p * 3 + 1, none⟩ u') (.slice (some ⟨g, 0, none⟩) n c) vn vk vm (us.set p u') ⟨D.quota, D.files.set p ⟨f.id, f.bytes ++ b, f.sure⟩, D.names, D.kept, D.moves, D.next⟩ := by
  obtain rfl := own_len h.f
  have hz : (D.files.zip us)[p]? = some (f, u) := List.getElem?_zip_eq_some.2 ⟨hf, hu⟩
  have hall := h.all
  have hap : Apart (vn :: vk :: vm :: .slice (some ⟨g, 0, none⟩) D.files.length c :: us.set p u') := apart_set (i := p + 4) h.apart (fun v hv k e => (hall v hv k e).2) (by simpa using hu) hL
  have sp : ∀ y ∈ [vn, vk, vm, .slice (some ⟨g, 0, none⟩) D.files.length c], Sep y u := fun y hy => by
    have hm := List.mem_of_getElem? hu
    have ha := List.pairwise_cons.1 h.apart
    have hb := List.pairwise_cons.1 ha.2
    have hc := List.pairwise_cons.1 hb.2
    have hd := List.pairwise_cons.1 hc.2
    simp only [List.mem_cons, List.not_mem_nil, or_false] at hy
    rcases hy with rfl | rfl | rfl | rfl
    · exact ha.1 u (by simp [hm])
    · exact hb.1 u (by simp [hm])
    · exact hc.1 u (by simp [hm])
    · exact hd.1 u (by simp [hm])
  have hgb := hall _ (by simp : (Value.slice (some ⟨g, 0, none⟩) D.files.length c) ∈ _) g rfl
  have hst := grown_set1 w1 g (p * 3 + 1) u'
  have f1 := own_kept h.f hg (sp _ (by simp))
  obtain ⟨s1, _⟩ := f1.stored (p * 3 + 1) u'
  have hzs : (D.files.set p ⟨f.id, f.bytes ++ b, f.sure⟩).zip (us.set p u') = (D.files.zip us).set p (⟨f.id, f.bytes ++ b, f.sure⟩, u') := zip_set
  have hcf : ((D.files.zip us).set p (f, u')).flatMap cF = ((D.files.zip us).set p (⟨f.id, f.bytes ++ b, f.sure⟩, u')).flatMap cF := by
    exact cF_same (f := f) (f' := ⟨f.id, f.bytes ++ b, f.sure⟩) rfl rfl _ _ hz
  rw [DP.cF_set hz, hcf, ← hzs] at s1
  have vb : (Value.slice (some ⟨g, 0, none⟩) D.files.length c).ownBlock = some g := rfl
  have apf := List.pairwise_cons.1 hap
  have apk := List.pairwise_cons.1 apf.2
  have apm := List.pairwise_cons.1 apk.2
  have apv := List.pairwise_cons.1 apm.2
  have hst' : w1.grownBy (w1.setCell ⟨g, p * 3 + 1, none⟩ u') (Value.slice (some ⟨g, 0, none⟩) D.files.length c).ownBlock := hst
  refine ⟨by rw [List.length_set, List.length_set]; exact h.hu, by rw [List.length_set]; exact s1, own_kept (own_kept h.n hg (sp _ (by simp))) hst' (apf.1 _ (by simp)), own_kept (own_kept h.k hg (sp _ (by simp))) hst' (apk.1 _ (by simp)), own_kept (own_kept h.m hg (sp _ (by simp))) hst' (apm.1 _ (by simp)), fun q hq => ?_, hap⟩
  have hq2 := (List.of_mem_zip hq).2
  refine own_kept ?_ hst' (apv.1 _ hq2).symm
  rw [hzs] at hq
  obtain ⟨k, hk⟩ := List.getElem?_of_mem hq
  by_cases e : p = k
  · subst e
    rw [List.getElem?_set_self (List.getElem?_eq_some_iff.1 hz).1] at hk
    rw [← Option.some.inj hk]
    exact ho
  · rw [List.getElem?_set_ne e] at hk
    have hk2 := (List.getElem?_zip_eq_some.1 hk).2
    have hm := List.mem_of_getElem? hk
    refine own_kept (h.by_ q hm) hg ?_
    have hpw := h.apart
    unfold Apart at hpw
    have hpu : us.Pairwise Sep := List.Pairwise.sublist ((List.sublist_cons_self _ _).trans ((List.sublist_cons_self _ _).trans ((List.sublist_cons_self _ _).trans (List.sublist_cons_self _ _)))) hpw
    rw [List.pairwise_iff_getElem] at hpu
    obtain ⟨a1, a2⟩ := List.getElem?_eq_some_iff.1 hk2
    obtain ⟨b1, b2⟩ := List.getElem?_eq_some_iff.1 hu
    rw [← a2, ← b2]
    rcases Nat.lt_or_gt_of_ne e with h | h
    · exact (hpu p k b1 a1 h).symm
    · exact hpu k p a1 b1 h
end Go.Proofs.Ytmkjjcogheidmaa
