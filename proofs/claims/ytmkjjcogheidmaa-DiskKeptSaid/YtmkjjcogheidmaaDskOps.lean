/-
  What is done to a disk, plain: each call's answer, and that it stays as a disk must be.
-/
import Derived.Test.YtmkjjcogheidmaaDskMath
set_option linter.unusedSimpArgs false
set_option linter.unusedVariables false
namespace Go.Proofs.Ytmkjjcogheidmaa
def pNew (q : Nat) : PD := ⟨q, [], [], [], [], 1⟩
def pCreate (D : PD) (s : ByteArray) : PD × Int :=
  if nHas s D.names then (D, 5) else if D.files.length = 256 ∨ D.next = 1099511627776 then (D, 11)
  else (⟨D.quota, D.files ++ [⟨D.next, [], 0⟩], nIns ⟨s, D.next⟩ D.names, D.kept, D.moves ++ [⟨1, s, noN, D.next⟩], D.next + 1⟩, 0)
def fAdd (i : Nat) (b : List Nat) (f : PF) : PF := if f.id = i then ⟨f.id, f.bytes ++ b, f.sure⟩ else f
def fSync (i : Nat) (f : PF) : PF := if f.id = i then ⟨f.id, f.bytes, f.bytes.length⟩ else f
def pAppend (D : PD) (s : ByteArray) (b : List Nat) : PD × Int :=
  if ¬ nHas s D.names then (D, 4) else if D.quota < usedF D.files + b.length then (D, 6)
  else (⟨D.quota, D.files.map (fAdd (nId s D.names) b), D.names, D.kept, D.moves, D.next⟩, 0)
def pSync (D : PD) (s : ByteArray) : PD × Int :=
  if ¬ nHas s D.names then (D, 4) else (⟨D.quota, D.files.map (fSync (nId s D.names)), D.names, D.kept, D.moves, D.next⟩, 0)
def pSettle (D : PD) (l : List PN) : PD := ⟨D.quota, D.files.filter (fun f => decide (f.id ∈ l.map PN.id)), l, l, [], D.next⟩
def pSyncDir (D : PD) : PD := pSettle D D.names
def pMoved (D : PD) (m : PM) : PD := ⟨D.quota, D.files, mv D.names m, D.kept, D.moves ++ [m], D.next⟩
def pRename (D : PD) (s t : ByteArray) : PD × Int :=
  if ¬ nHas s D.names then (D, 4) else if s = t then (D, 0) else (pMoved D ⟨3, s, t, 0⟩, 0)
def pRemove (D : PD) (s : ByteArray) : PD × Int :=
  if ¬ nHas s D.names then (D, 4) else (pMoved D ⟨2, s, noN, 0⟩, 0)
/-- How many bytes beyond the sure ones are kept of a file. -/
def keepOf (ks : List (Int × Int)) (i : Nat) : Nat := ((ks.find? fun k => decide (k.1 = (i : Int))).map fun k => k.2.toNat).getD 0
def fCut (ks : List (Int × Int)) (f : PF) : PF :=
  ⟨f.id, f.bytes.take (f.sure + min (keepOf ks f.id) (f.bytes.length - f.sure)), f.sure + min (keepOf ks f.id) (f.bytes.length - f.sure)⟩
def pCrash (D : PD) (k : Int) (ks : List (Int × Int)) : PD :=
  ⟨D.quota, (pSettle D (mRun D.kept (D.moves.take k.toNat))).files.map (fCut ks), mRun D.kept (D.moves.take k.toNat), mRun D.kept (D.moves.take k.toNat), [], D.next⟩
def pRead (D : PD) (s : ByteArray) : List Nat × Int :=
  if ¬ nHas s D.names then ([], 4) else (((D.files.find? fun f => decide (f.id = nId s D.names)).map PF.bytes).getD [], 0)
/-! ### What stays -/
theorem PInv.new {q : Nat} (h : q ≤ 1073741824) : PInv (pNew q) where
  quota := h
  next1 := Nat.le_refl _
  next2 := by show 1 ≤ 1099511627776; decide
  f256 := by show 0 ≤ 256; decide
  fsort := List.Pairwise.nil
  fok := fun f hf => absurd hf (by simp [pNew])
  kept := ⟨List.Pairwise.nil, fun n hn => absurd hn (by simp [pNew]), List.nodup_nil, fun n hn => absurd hn (by simp [pNew])⟩
  doable := trivial
  names := rfl
  ids := fun i => Iff.rfl
  used := Nat.zero_le _
theorem usedF_app (a b : List PF) : usedF (a ++ b) = usedF a + usedF b := by simp [usedF]
theorem PInv.create {D : PD} (h : PInv D) {s : ByteArray} (hs : okN s) : PInv (pCreate D s).1 := by
  unfold pCreate
  split
  · exact h
  rename_i hn
  split
  · exact h
  rename_i hm
  have hnew : D.next ∉ mRunIds (D.kept.map PN.id) D.moves := fun hc => by
    obtain ⟨f, hf, e⟩ := List.mem_map.1 ((h.ids _).1 hc)
    have := (h.fok f hf).2.1
    omega
  have h1 := h.next1
  have h2 := h.next2
  have h3 := h.f256
  have hok : mOk (mRun D.kept D.moves) (mRunIds (D.kept.map PN.id) D.moves) ⟨1, s, noN, D.next⟩ := ⟨hs, .inl ⟨rfl, by rw [← h.names]; exact hn, rfl, h1, hnew⟩⟩
  exact {
    quota := h.quota
    next1 := by show 1 ≤ D.next + 1; omega
    next2 := by show D.next + 1 ≤ _; omega
    f256 := by show (D.files ++ [_]).length ≤ 256; rw [List.length_append, List.length_singleton]; omega
    fsort := by
      refine List.pairwise_append.2 ⟨h.fsort, List.pairwise_singleton _ _, fun a ha b hb => ?_⟩
      rw [List.mem_singleton.1 hb]
      exact (h.fok a ha).2.1
    fok := fun f hf => by
      rcases List.mem_append.1 hf with hf | hf
      · obtain ⟨a, b, c, d⟩ := h.fok f hf
        exact ⟨a, Nat.lt_succ_of_lt b, c, d⟩
      · rw [List.mem_singleton.1 hf]
        exact ⟨h1, Nat.lt_succ_self _, Nat.le_refl _, fun b hb => absurd hb (by simp)⟩
    kept := h.kept
    doable := h.doable.append hok
    names := by
      show nIns ⟨s, D.next⟩ D.names = mRun D.kept (D.moves ++ [_])
      rw [mRun_app, ← h.names]
      rfl
    ids := fun i => by
      show i ∈ mRunIds _ (D.moves ++ [_]) ↔ i ∈ (D.files ++ [_]).map PF.id
      rw [mRunIds_app, List.map_append, List.mem_append, ← h.ids i]
      show i ∈ mRunIds _ D.moves ++ [D.next] ↔ _
      rw [List.mem_append]
      rfl
    used := by
      show usedF (D.files ++ [_]) ≤ _
      rw [usedF_app]
      exact h.used }
/-- Files turned one by one, their numbers kept. -/
theorem PInv.files {D : PD} (h : PInv D) (g : PF → PF) (hid : ∀ f, (g f).id = f.id) (hok : ∀ f ∈ D.files, (g f).sure ≤ (g f).bytes.length ∧ Bytes (g f).bytes) (hu : usedF (D.files.map g) ≤ D.quota) :
    PInv ⟨D.quota, D.files.map g, D.names, D.kept, D.moves, D.next⟩ where
  quota := h.quota
  next1 := h.next1
  next2 := h.next2
  f256 := by show (D.files.map g).length ≤ 256; rw [List.length_map]; exact h.f256
  fsort := by
    show (D.files.map g).Pairwise _
    rw [List.pairwise_map]
    exact h.fsort.imp fun hab => by rw [hid, hid]; exact hab
  fok := fun f hf => by
    obtain ⟨x, hx, rfl⟩ := List.mem_map.1 hf
    obtain ⟨a, b, _, _⟩ := h.fok x hx
    obtain ⟨c, d⟩ := hok x hx
    exact ⟨by rw [hid]; exact a, by rw [hid]; exact b, c, d⟩
  kept := h.kept
  doable := h.doable
  names := h.names
  ids := fun i => by
    show i ∈ mRunIds _ D.moves ↔ i ∈ (D.files.map g).map PF.id
    rw [h.ids i, List.map_map]
    have : (PF.id ∘ g) = PF.id := funext hid
    rw [this]
  used := hu
theorem usedF_map_id {l : List PF} (g : PF → PF) (h : ∀ f ∈ l, (g f).bytes.length = f.bytes.length) : usedF (l.map g) = usedF l := by
  unfold usedF
  rw [List.map_map]
  congr 1
  exact List.map_congr_left h
theorem usedF_add {i : Nat} {b : List Nat} : ∀ {l : List PF}, (l.map PF.id).Nodup → usedF (l.map (fAdd i b)) ≤ usedF l + b.length
  | [], _ => Nat.zero_le _
  | f :: r, h => by
    have h2 := List.nodup_cons.1 (by simpa using h : (f.id :: r.map PF.id).Nodup)
    have ih := usedF_add (i := i) (b := b) h2.2
    show (fAdd i b f).bytes.length + usedF (r.map (fAdd i b)) ≤ f.bytes.length + usedF r + b.length
    by_cases hf : f.id = i
    · have hr : usedF (r.map (fAdd i b)) = usedF r := usedF_map_id _ fun x hx => by
        unfold fAdd
        rw [if_neg]
        intro e
        exact h2.1 (by rw [hf, ← e]; exact List.mem_map_of_mem hx)
      rw [hr]
      unfold fAdd
      rw [if_pos hf]
      simp only [List.length_append]
      omega
    · unfold fAdd at *
      rw [if_neg hf]
      omega
theorem PInv.append {D : PD} (h : PInv D) (s : ByteArray) {b : List Nat} (hb : Bytes b) : PInv (pAppend D s b).1 := by
  unfold pAppend
  split
  · exact h
  split
  · exact h
  rename_i hu
  refine h.files _ (fun f => by unfold fAdd; split <;> rfl) (fun f hf => ?_) (by have := usedF_add (i := nId s D.names) (b := b) h.fnd; omega)
  obtain ⟨_, _, c, d⟩ := h.fok f hf
  unfold fAdd
  split
  · exact ⟨by show f.sure ≤ (f.bytes ++ b).length; rw [List.length_append]; omega, fun x hx => (List.mem_append.1 hx).elim (d x) (hb x)⟩
  · exact ⟨c, d⟩
theorem PInv.sync {D : PD} (h : PInv D) (s : ByteArray) : PInv (pSync D s).1 := by
  unfold pSync
  split
  · exact h
  refine h.files _ (fun f => by unfold fSync; split <;> rfl) (fun f hf => ?_) ?_
  · obtain ⟨_, _, c, d⟩ := h.fok f hf
    unfold fSync
    split
    · exact ⟨Nat.le_refl _, d⟩
    · exact ⟨c, d⟩
  · rw [usedF_map_id _ fun f _ => by unfold fSync; split <;> rfl]
    exact h.used
theorem usedF_filter (p : PF → Bool) : ∀ l : List PF, usedF (l.filter p) ≤ usedF l
  | [] => Nat.le_refl _
  | f :: r => by
    have ih := usedF_filter p r
    show usedF ((f :: r).filter p) ≤ f.bytes.length + usedF r
    rw [List.filter_cons]
    split
    · show f.bytes.length + usedF (r.filter p) ≤ _
      omega
    · omega
theorem PInv.settle {D : PD} (h : PInv D) {l : List PN} (hl : Dir l (D.files.map PF.id)) : PInv (pSettle D l) where
  quota := h.quota
  next1 := h.next1
  next2 := h.next2
  f256 := Nat.le_trans (List.length_filter_le _ _) h.f256
  fsort := h.fsort.sublist List.filter_sublist
  fok := fun f hf => h.fok f (List.mem_filter.1 hf).1
  kept := ⟨hl.sorted, hl.ok, hl.nd, fun n hn => List.mem_map_of_mem hn⟩
  doable := trivial
  names := rfl
  ids := fun i => by
    show i ∈ l.map PN.id ↔ i ∈ (D.files.filter _).map PF.id
    constructor
    · intro hi
      obtain ⟨n, hn, e⟩ := List.mem_map.1 hi
      obtain ⟨f, hf, ef⟩ := List.mem_map.1 (hl.sub n hn)
      exact List.mem_map.2 ⟨f, List.mem_filter.2 ⟨hf, by rw [ef, e]; simpa using hi⟩, ef.trans e⟩
    · intro hi
      obtain ⟨f, hf, ef⟩ := List.mem_map.1 hi
      have := (List.mem_filter.1 hf).2
      rw [ef] at this
      exact of_decide_eq_true this
  used := Nat.le_trans (usedF_filter _ _) h.used
theorem PInv.syncDir {D : PD} (h : PInv D) : PInv (pSyncDir D) := h.settle h.dir
theorem PInv.moved {D : PD} (h : PInv D) {m : PM} (hk : m.kind ≠ 1) (hm : mOk D.names (mRunIds (D.kept.map PN.id) D.moves) m) : PInv (pMoved D m) where
  quota := h.quota
  next1 := h.next1
  next2 := h.next2
  f256 := h.f256
  fsort := h.fsort
  fok := h.fok
  kept := h.kept
  doable := h.doable.append (by rw [← h.names]; exact hm)
  names := by
    show mv D.names m = mRun D.kept (D.moves ++ [m])
    rw [mRun_app, ← h.names]
    rfl
  ids := fun i => by
    show i ∈ mRunIds _ (D.moves ++ [m]) ↔ _
    rw [mRunIds_app]
    show i ∈ mIds (mRunIds _ D.moves) m ↔ _
    unfold mIds
    rw [if_neg hk]
    exact h.ids i
  used := h.used
theorem PInv.rename {D : PD} (h : PInv D) {s t : ByteArray} (hs : okN s) (ht : okN t) : PInv (pRename D s t).1 := by
  unfold pRename
  split
  · exact h
  rename_i hn
  split
  · exact h
  rename_i hne
  exact h.moved (by show 3 ≠ 1; decide) ⟨hs, .inr (.inr ⟨rfl, Decidable.not_not.1 hn, ht, fun e => hne e.symm, rfl⟩)⟩
theorem PInv.remove {D : PD} (h : PInv D) {s : ByteArray} (hs : okN s) : PInv (pRemove D s).1 := by
  unfold pRemove
  split
  · exact h
  rename_i hn
  exact h.moved (by show 2 ≠ 1; decide) ⟨hs, .inr (.inl ⟨rfl, Decidable.not_not.1 hn, rfl, rfl⟩)⟩
theorem mRunIds_take {ms : List PM} {ids : List Nat} (k : Nat) {i : Nat} (h : i ∈ mRunIds ids (ms.take k)) : i ∈ mRunIds ids ms := by
  have e := List.take_append_drop k ms
  rw [← e, mRunIds_app]
  exact sub_mRunIds h
theorem PInv.crashDir {D : PD} (h : PInv D) (k : Nat) : Dir (mRun D.kept (D.moves.take k)) (D.files.map PF.id) :=
  (h.kept.run (h.doable.take k)).mono fun i hi => (h.ids i).1 (mRunIds_take k hi)
theorem usedF_map_le {l : List PF} (g : PF → PF) (h : ∀ f ∈ l, (g f).bytes.length ≤ f.bytes.length) : usedF (l.map g) ≤ usedF l := by
  induction l with
  | nil => exact Nat.le_refl _
  | cons f r ih =>
    have h1 := h f List.mem_cons_self
    have h2 := ih fun x hx => h x (List.mem_cons_of_mem _ hx)
    show (g f).bytes.length + usedF (r.map g) ≤ f.bytes.length + usedF r
    omega
theorem PInv.crash {D : PD} (h : PInv D) (k : Int) (ks : List (Int × Int)) : PInv (pCrash D k ks) := by
  have h1 := h.settle (h.crashDir k.toNat)
  refine h1.files (fCut ks) (fun f => rfl) (fun f hf => ?_) (Nat.le_trans (usedF_map_le _ fun f _ => ?_) h1.used)
  · obtain ⟨_, _, c, d⟩ := h1.fok f hf
    exact ⟨by show f.sure + min _ _ ≤ (f.bytes.take _).length; rw [List.length_take]; omega, fun x hx => d x (List.mem_of_mem_take hx)⟩
  · show (f.bytes.take _).length ≤ _
    rw [List.length_take]
    omega
end Go.Proofs.Ytmkjjcogheidmaa
