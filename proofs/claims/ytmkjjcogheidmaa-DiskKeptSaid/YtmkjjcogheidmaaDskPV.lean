/-
  settled: a disk on which names are all that there is and is kept.
-/
import Derived.Test.YtmkjjcogheidmaaDskPU
set_option linter.unusedSimpArgs false
set_option linter.unusedVariables false
namespace Go.Proofs.Ytmkjjcogheidmaa.DP
open Go.RowKit
/-- What comes into settled: files and names of one's own. -/
structure SetIn (base : Nat) (w : World) (vf vN : Value) (us : List Value) (fs : List PF) (l : List PN) : Prop where
  hu : us.length = fs.length
  f : w.ownsRow base 58 3 vf fs.length ((fs.zip us).flatMap cF)
  n : w.ownsRow base 79 2 vN l.length (l.flatMap cN)
  by_ : ∀ p ∈ fs.zip us, ByNew base w p.2 p.1.bytes
  apart : Apart (vN :: vf :: us)
theorem SetIn.far {base b : Nat} {w w' : World} {vf vN : Value} {us : List Value} {fs : List PF} {l : List PN} (h : SetIn base w vf vN us fs l) (hg : w.grownBy w' (some b)) (ho : Off b (vN :: vf :: us)) : SetIn base w' vf vN us fs l :=
  ⟨h.hu, own_off h.f hg (ho _ (by simp)), own_off h.n hg (ho _ (by simp)), fun p hp => own_off (h.by_ p hp) hg (ho _ (by simp [(List.of_mem_zip hp).2])), h.apart⟩
theorem SetIn.all {base : Nat} {w : World} {vf vN : Value} {us : List Value} {fs : List PF} {l : List PN} (h : SetIn base w vf vN us fs l) : ∀ v ∈ vN :: vf :: us, ∀ g, v.ownBlock = some g → base ≤ g ∧ g < w.heap.size := by
  intro v hv g hg
  rcases List.mem_cons.1 hv with rfl | hv
  · exact h.n.lt g hg
  rcases List.mem_cons.1 hv with rfl | hv
  · exact h.f.lt g hg
  obtain ⟨f, hf⟩ := zip_mem h.hu hv
  exact (h.by_ _ hf).lt g hg
theorem SetIn.off {base b : Nat} {w : World} {vf vN : Value} {us : List Value} {fs : List PF} {l : List PN} (h : SetIn base w vf vN us fs l) (hb : w.heap.size ≤ b) : Off b (vN :: vf :: us) := fun v hv e => by
  have := (h.all v hv b e).2
  omega
theorem SetIn.below {base : Nat} {w w' : World} {vf vN : Value} {us : List Value} {fs : List PF} {l : List PN} (h : SetIn base w vf vN us fs l) (hb : Below w.heap.size w w') : SetIn base w' vf vN us fs l :=
  ⟨h.hu, own_below h.f hb, own_below h.n hb, fun p hp => own_below (h.by_ p hp) hb, h.apart⟩
theorem set_mid {base : Nat} {w w' : World} {vf vf' vN : Value} {us : List Value} {D : PD} {l : List PN} (h : SetIn base w vf vN us D.files l)
    (hd : Deleted base ((D.files.zip us).filter (keepF (l.map PN.id))) w vf (.returned vf') w') : SetIn base w' vf' vN (((D.files.zip us).filter (keepF (l.map PN.id))).map (·.2)) (pSettle D l).files l := by
  obtain ⟨v', e, ho, hg, hat⟩ := hd
  have e : vf' = v' := by injection e
  subst e
  have hled := led_files (ids := l.map PN.id) h.hu
  have hsub := led_sub (ids := l.map PN.id) h.hu
  have ha := List.pairwise_cons.1 h.apart
  have hc := List.pairwise_cons.1 ha.2
  have hfl : (pSettle D l).files = ((D.files.zip us).filter (keepF (l.map PN.id))).map (·.1) := hled.symm
  have hp : (pSettle D l).files.zip (((D.files.zip us).filter (keepF (l.map PN.id))).map (·.2)) = (D.files.zip us).filter (keepF (l.map PN.id)) := by rw [hfl]; exact pairs _
  have hlen : (pSettle D l).files.length = ((D.files.zip us).filter (keepF (l.map PN.id))).length := by rw [hfl, List.length_map]
  have hmem : ∀ u ∈ ((D.files.zip us).filter (keepF (l.map PN.id))).map (·.2), u ∈ us := fun u hu => hsub.subset hu
  have hvf : ∀ y, Sep vf y → Sep vf' y := fun y hy g e1 e2 => hy g (hat ▸ e1) e2
  refine ⟨by rw [hfl, List.length_map, List.length_map], ?_, own_kept h.n hg (ha.1 _ (by simp)), ?_, ?_⟩
  · rw [hp, hlen]
    exact ho
  · intro p hpm
    rw [hp] at hpm
    have hpm := (List.mem_filter.1 hpm).1
    exact own_kept (h.by_ p hpm) hg (hc.1 _ (List.of_mem_zip hpm).2).symm
  · refine List.pairwise_cons.2 ⟨fun y hy => ?_, List.pairwise_cons.2 ⟨fun y hy => hvf _ (hc.1 y (hmem y hy)), hc.2.sublist hsub⟩⟩
    rcases List.mem_cons.1 hy with rfl | hy
    · exact (hvf _ (ha.1 vf (by simp)).symm).symm
    · exact ha.1 y (by simp [hmem y hy])
theorem set_fin {base : Nat} {w w' : World} {vf vN vk : Value} {us : List Value} {D : PD} {l : List PN} (h : SetIn base w vf vN us (pSettle D l).files l) (hk : w'.ownsRow w.heap.size 79 2 vk l.length (l.flatMap cN)) (hb : Below w.heap.size w w') (hbs : base ≤ w.heap.size) :
    DkOwn base w' vf vN vk (.slice none 0 0) us (pSettle D l) := by
  have ha := List.pairwise_cons.1 h.apart
  have hc := List.pairwise_cons.1 ha.2
  have hlt : ∀ v ∈ vN :: vf :: us, ∀ g, v.ownBlock = some g → g < w.heap.size := fun v hv g e => (h.all v hv g e).2
  have hkn : ∀ y, (∀ g, y.ownBlock = some g → g < w.heap.size) → Sep y vk := fun y hy g e1 e2 => by
    have := hy g e1
    have := (hk.lt g e2).1
    omega
  have nil : ∀ y, Sep (.slice none 0 0) y := fun y g e => by cases e
  refine ⟨h.hu, own_below h.f hb, own_below h.n hb, own_base hk hbs, ⟨rfl, .inl ⟨rfl, rfl⟩⟩, fun p hp => own_below (h.by_ p hp) hb, List.pairwise_cons.2 ⟨fun y hy => ?_, List.pairwise_cons.2 ⟨fun y hy => ?_, List.pairwise_cons.2 ⟨fun y hy => nil y, ha.2⟩⟩⟩⟩
  · rcases List.mem_cons.1 hy with rfl | hy
    · exact hkn _ fun g e => hlt _ (by simp) g e
    rcases List.mem_cons.1 hy with rfl | hy
    · exact (nil _).symm
    · exact ha.1 y hy
  · refine Sep.symm ?_
    rcases List.mem_cons.1 hy with rfl | hy
    · exact nil _
    · exact hkn _ fun g e => hlt y (List.mem_cons_of_mem _ hy) g e
end Go.Proofs.Ytmkjjcogheidmaa.DP
