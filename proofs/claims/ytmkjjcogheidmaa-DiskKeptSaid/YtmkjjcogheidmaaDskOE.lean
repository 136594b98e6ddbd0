/-
  Own disks through steps: a row that is turned, cells elsewhere that are stored.
-/
import Derived.Test.YtmkjjcogheidmaaDskOD
set_option linter.unusedSimpArgs false
set_option linter.unusedVariables false
namespace Go.Proofs.Ytmkjjcogheidmaa
open Go.RowKit
def Off (b : Nat) (l : List Value) : Prop := ∀ v ∈ l, v.ownBlock ≠ some b
theorem own_off {w w' : World} {base b : Nat} {e : TypeId} {k n : Nat} {v : Value} {xs : List Value} (h : w.ownsRow base e k v n xs) (hg : w.grownBy w' (some b)) (hb : v.ownBlock ≠ some b) : w'.ownsRow base e k v n xs := h.kept hg (.inr hb)
theorem DkOwn.far {base b : Nat} {w w' : World} {vf vn vk vm : Value} {us : List Value} {D : PD} (h : DkOwn base w vf vn vk vm us D) (hg : w.grownBy w' (some b)) (ho : Off b (vn :: vk :: vm :: vf :: us)) : DkOwn base w' vf vn vk vm us D :=
  ⟨h.hu, own_off h.f hg (ho _ (by simp)), own_off h.n hg (ho _ (by simp)), own_off h.k hg (ho _ (by simp)), own_off h.m hg (ho _ (by simp)), fun p hp => own_off (h.by_ p hp) hg (ho _ (by simp [(List.of_mem_zip hp).2])), h.apart⟩
theorem DkOwn.all {base : Nat} {w : World} {vf vn vk vm : Value} {us : List Value} {D : PD} (h : DkOwn base w vf vn vk vm us D) : ∀ v ∈ vn :: vk :: vm :: vf :: us, ∀ g, v.ownBlock = some g → base ≤ g ∧ g < w.heap.size := by
  intro v hv g hg
  rcases List.mem_cons.1 hv with rfl | hv
  · exact h.n.lt g hg
  rcases List.mem_cons.1 hv with rfl | hv
  · exact h.k.lt g hg
  rcases List.mem_cons.1 hv with rfl | hv
  · exact h.m.lt g hg
  rcases List.mem_cons.1 hv with rfl | hv
  · exact h.f.lt g hg
  obtain ⟨f, hf⟩ := zip_mem h.hu hv
  exact (h.by_ _ hf).lt g hg
theorem DkOwn.off {base b : Nat} {w : World} {vf vn vk vm : Value} {us : List Value} {D : PD} (h : DkOwn base w vf vn vk vm us D) (hb : w.heap.size ≤ b) : Off b (vn :: vk :: vm :: vf :: us) := fun v hv e => by
  have := (h.all v hv b e).2
  omega
theorem DkOwn.offLow {base b : Nat} {w : World} {vf vn vk vm : Value} {us : List Value} {D : PD} (h : DkOwn base w vf vn vk vm us D) (hb : b < base) : Off b (vn :: vk :: vm :: vf :: us) := fun v hv e => by
  have := (h.all v hv b e).1
  omega
theorem sep_lies {w : World} {v v' y : Value} (h : Sep v y) (hL : Lies w v v') (hy : ∀ g, y.ownBlock = some g → g < w.heap.size) : Sep v' y := fun g h1 h2 => by
  rcases hL with hL | ⟨g', hL, hg⟩
  · exact h g (hL ▸ h1) h2
  · rw [hL] at h1
    have := Option.some.inj h1
    have := hy g h2
    omega
theorem off_lies {w : World} {b : Nat} {v v' : Value} (h : v.ownBlock ≠ some b) (hL : Lies w v v') (hb : b < w.heap.size) : v'.ownBlock ≠ some b := fun e => by
  rcases hL with hL | ⟨g', hL, hg⟩
  · exact h (hL ▸ e)
  · rw [hL] at e
    have := Option.some.inj e
    omega
/-- The names are turned. -/
theorem DkOwn.names {base : Nat} {w w' : World} {vf vn vn' vk vm : Value} {us : List Value} {D : PD} {l : List PN} (h : DkOwn base w vf vn vk vm us D) (hg : w.grownBy w' vn.ownBlock) (hn : w'.ownsRow base 79 2 vn' l.length (l.flatMap cN)) (hL : Lies w vn vn') :
    DkOwn base w' vf vn' vk vm us ⟨D.quota, D.files, l, D.kept, D.moves, D.next⟩ := by
  have ha := List.pairwise_cons.1 h.apart
  have hs : ∀ y ∈ vk :: vm :: vf :: us, Sep y vn := fun y hy => (ha.1 y hy).symm
  refine ⟨h.hu, own_kept h.f hg (hs _ (by simp)), hn, own_kept h.k hg (hs _ (by simp)), own_kept h.m hg (hs _ (by simp)), fun p hp => own_kept (h.by_ p hp) hg (hs _ (by simp [(List.of_mem_zip hp).2])), List.pairwise_cons.2 ⟨fun y hy => ?_, ha.2⟩⟩
  exact sep_lies (ha.1 y hy) hL fun g e => (h.all y (List.mem_cons_of_mem _ hy) g e).2
/-- What is kept is turned. -/
theorem DkOwn.keptT {base : Nat} {w w' : World} {vf vn vk vk' vm : Value} {us : List Value} {D : PD} {l : List PN} (h : DkOwn base w vf vn vk vm us D) (hg : w.grownBy w' vk.ownBlock) (hn : w'.ownsRow base 79 2 vk' l.length (l.flatMap cN)) (hL : Lies w vk vk') :
    DkOwn base w' vf vn vk' vm us ⟨D.quota, D.files, D.names, l, D.moves, D.next⟩ := by
  have ha := List.pairwise_cons.1 h.apart
  have hb := List.pairwise_cons.1 ha.2
  have hs : ∀ y ∈ vm :: vf :: us, Sep y vk := fun y hy => (hb.1 y hy).symm
  refine ⟨h.hu, own_kept h.f hg (hs _ (by simp)), own_kept h.n hg (ha.1 _ (by simp)), hn, own_kept h.m hg (hs _ (by simp)), fun p hp => own_kept (h.by_ p hp) hg (hs _ (by simp [(List.of_mem_zip hp).2])), List.pairwise_cons.2 ⟨fun y hy => ?_, List.pairwise_cons.2 ⟨fun y hy => ?_, hb.2⟩⟩⟩
  · rcases List.mem_cons.1 hy with rfl | hy
    · exact (sep_lies (ha.1 vk (by simp)).symm hL fun g e => (h.n.lt g e).2).symm
    · exact ha.1 y (List.mem_cons_of_mem _ hy)
  · exact sep_lies (hb.1 y hy) hL fun g e => (h.all y (List.mem_cons_of_mem _ (List.mem_cons_of_mem _ hy)) g e).2
/-- The moves are turned. -/
theorem DkOwn.movesT {base : Nat} {w w' : World} {vf vn vk vm vm' : Value} {us : List Value} {D : PD} {l : List PM} (h : DkOwn base w vf vn vk vm us D) (hg : w.grownBy w' vm.ownBlock) (hn : w'.ownsRow base 66 4 vm' l.length (l.flatMap cM)) (hL : Lies w vm vm') :
    DkOwn base w' vf vn vk vm' us ⟨D.quota, D.files, D.names, D.kept, l, D.next⟩ := by
  have ha := List.pairwise_cons.1 h.apart
  have hb := List.pairwise_cons.1 ha.2
  have hc := List.pairwise_cons.1 hb.2
  have hs : ∀ y ∈ vf :: us, Sep y vm := fun y hy => (hc.1 y hy).symm
  refine ⟨h.hu, own_kept h.f hg (hs _ (by simp)), own_kept h.n hg (ha.1 _ (by simp)), own_kept h.k hg (hb.1 _ (by simp)), hn, fun p hp => own_kept (h.by_ p hp) hg (hs _ (by simp [(List.of_mem_zip hp).2])), List.pairwise_cons.2 ⟨fun y hy => ?_, List.pairwise_cons.2 ⟨fun y hy => ?_, List.pairwise_cons.2 ⟨fun y hy => ?_, hc.2⟩⟩⟩⟩
  · rcases List.mem_cons.1 hy with rfl | hy
    · exact ha.1 _ (by simp)
    rcases List.mem_cons.1 hy with rfl | hy
    · exact (sep_lies (ha.1 vm (by simp)).symm hL fun g e => (h.n.lt g e).2).symm
    · exact ha.1 y (by simp [hy])
  · rcases List.mem_cons.1 hy with rfl | hy
    · exact (sep_lies (hb.1 vm (by simp)).symm hL fun g e => (h.k.lt g e).2).symm
    · exact hb.1 y (by simp [hy])
  · exact sep_lies (hc.1 y hy) hL fun g e => (h.all y (by simp only [List.mem_cons]; exact .inr (.inr (.inr (List.mem_cons.1 hy)))) g e).2
/-- The files are turned. -/
theorem DkOwn.filesT {base : Nat} {w w' : World} {vf vf' vn vk vm : Value} {us us' : List Value} {D : PD} {l : List PF} (h : DkOwn base w vf vn vk vm us D) (hg : w.grownBy w' vf.ownBlock) (hlen : us'.length = l.length) (hn : w'.ownsRow base 58 3 vf' l.length ((l.zip us').flatMap cF)) (hL : Lies w vf vf')
    (hsub : ∀ p ∈ l.zip us', p.2 ∈ us ∧ ByNew base w p.2 p.1.bytes) (hap : Apart us') :
    DkOwn base w' vf' vn vk vm us' ⟨D.quota, l, D.names, D.kept, D.moves, D.next⟩ := by
  have ha := List.pairwise_cons.1 h.apart
  have hb := List.pairwise_cons.1 ha.2
  have hc := List.pairwise_cons.1 hb.2
  have hd := List.pairwise_cons.1 hc.2
  have hus : ∀ u ∈ us', u ∈ us := fun u hu => by
    obtain ⟨f, hf⟩ := zip_mem hlen hu
    exact (hsub _ hf).1
  refine ⟨hlen, hn, own_kept h.n hg (ha.1 _ (by simp)), own_kept h.k hg (hb.1 _ (by simp)), own_kept h.m hg (hc.1 _ (by simp)), fun p hp => own_kept (hsub p hp).2 hg (hd.1 _ (hsub p hp).1).symm, List.pairwise_cons.2 ⟨fun y hy => ?_, List.pairwise_cons.2 ⟨fun y hy => ?_, List.pairwise_cons.2 ⟨fun y hy => ?_, List.pairwise_cons.2 ⟨fun y hy => ?_, hap⟩⟩⟩⟩⟩
  · rcases List.mem_cons.1 hy with rfl | hy
    · exact ha.1 _ (by simp)
    rcases List.mem_cons.1 hy with rfl | hy
    · exact ha.1 _ (by simp)
    rcases List.mem_cons.1 hy with rfl | hy
    · exact (sep_lies (ha.1 vf (by simp)).symm hL fun g e => (h.n.lt g e).2).symm
    · exact ha.1 y (by simp [hus y hy])
  · rcases List.mem_cons.1 hy with rfl | hy
    · exact hb.1 _ (by simp)
    rcases List.mem_cons.1 hy with rfl | hy
    · exact (sep_lies (hb.1 vf (by simp)).symm hL fun g e => (h.k.lt g e).2).symm
    · exact hb.1 y (by simp [hus y hy])
  · rcases List.mem_cons.1 hy with rfl | hy
    · exact (sep_lies (hc.1 vf (by simp)).symm hL fun g e => (h.m.lt g e).2).symm
    · exact hc.1 y (by simp [hus y hy])
  · exact sep_lies (hd.1 y (hus y hy)) hL fun g e => (h.all y (by simp [hus y hy]) g e).2
end Go.Proofs.Ytmkjjcogheidmaa
