/-
  Plain facts on disks, for the statements of layer 6: what a disk is, what is done to it, and what stays. Nothing of the program is imported.
-/
import Derived.Test.YtmkjjcogheidmaaCrcMath
set_option linter.unusedSimpArgs false
set_option linter.unusedVariables false
namespace Go.Proofs.Ytmkjjcogheidmaa
/-! ### Names by their order -/
def sl (s : ByteArray) : List UInt8 := s.data.toList
theorem sl_inj {a b : ByteArray} (h : sl a = sl b) : a = b := by
  cases a with | mk a => cases b with | mk b =>
    exact congrArg ByteArray.mk (Array.toList_inj.1 h)
def slt (a b : ByteArray) : Prop := sl a < sl b
instance (a b : ByteArray) : Decidable (slt a b) := inferInstanceAs (Decidable (sl a < sl b))
theorem slt_irrefl (a : ByteArray) : ¬ slt a a := List.lt_irrefl (sl a)
theorem slt_trans {a b c : ByteArray} (h : slt a b) (k : slt b c) : slt a c := List.lt_trans h k
theorem slt_asymm {a b : ByteArray} (h : slt a b) : ¬ slt b a := fun k => slt_irrefl _ (slt_trans h k)
theorem slt_total {a b : ByteArray} (h : ¬ slt a b) (hne : a ≠ b) : slt b a := by
  have h1 : sl b ≤ sl a := List.not_lt.1 h
  rcases List.le_iff_lt_or_eq.1 h1 with h2 | h2
  · exact h2
  · exact absurd (sl_inj h2).symm hne
/-! ### A disk -/
structure PN where
  name : ByteArray
  id : Nat
deriving DecidableEq
structure PF where
  id : Nat
  bytes : List Nat
  sure : Nat
deriving DecidableEq
structure PM where
  kind : Nat
  name : ByteArray
  to : ByteArray
  id : Nat
structure PD where
  quota : Nat
  files : List PF
  names : List PN
  kept : List PN
  moves : List PM
  next : Nat
def noN : ByteArray := ByteArray.empty
def okN (s : ByteArray) : Prop := 1 ≤ s.size ∧ s.size ≤ 96
def nHas (s : ByteArray) (l : List PN) : Prop := ∃ x ∈ l, x.name = s
instance (s : ByteArray) (l : List PN) : Decidable (nHas s l) := inferInstanceAs (Decidable (∃ x ∈ l, x.name = s))
def nIns (n : PN) : List PN → List PN
  | [] => [n]
  | x :: r => if slt n.name x.name then n :: x :: r else x :: nIns n r
def nDel (s : ByteArray) (l : List PN) : List PN := l.filter fun x => decide (x.name ≠ s)
def nId (s : ByteArray) (l : List PN) : Nat := ((l.find? fun x => decide (x.name = s)).map PN.id).getD 0
def mv (l : List PN) (m : PM) : List PN :=
  if m.kind = 1 then nIns ⟨m.name, m.id⟩ l else if m.kind = 2 then nDel m.name l else nIns ⟨m.to, nId m.name l⟩ (nDel m.to (nDel m.name l))
def mIds (ids : List Nat) (m : PM) : List Nat := if m.kind = 1 then ids ++ [m.id] else ids
def mOk (l : List PN) (ids : List Nat) (m : PM) : Prop :=
  okN m.name ∧ ((m.kind = 1 ∧ ¬ nHas m.name l ∧ m.to = noN ∧ 1 ≤ m.id ∧ m.id ∉ ids) ∨ (m.kind = 2 ∧ nHas m.name l ∧ m.to = noN ∧ m.id = 0) ∨ (m.kind = 3 ∧ nHas m.name l ∧ okN m.to ∧ m.to ≠ m.name ∧ m.id = 0))
def Doable : List PN → List Nat → List PM → Prop
  | _, _, [] => True
  | l, ids, m :: r => mOk l ids m ∧ Doable (mv l m) (mIds ids m) r
def mRun (l : List PN) (ms : List PM) : List PN := ms.foldl mv l
def mRunIds (ids : List Nat) (ms : List PM) : List Nat := ms.foldl mIds ids
def usedF (l : List PF) : Nat := (l.map fun f => f.bytes.length).sum
def NS (l : List PN) : Prop := l.Pairwise fun a b => slt a.name b.name
/-- A list of names as a directory is. -/
structure Dir (l : List PN) (ids : List Nat) : Prop where
  sorted : NS l
  ok : ∀ n ∈ l, okN n.name
  nd : (l.map PN.id).Nodup
  sub : ∀ n ∈ l, n.id ∈ ids
structure PInv (D : PD) : Prop where
  quota : D.quota ≤ 1073741824
  next1 : 1 ≤ D.next
  next2 : D.next ≤ 1099511627776
  f256 : D.files.length ≤ 256
  fsort : D.files.Pairwise fun a b => a.id < b.id
  fok : ∀ f ∈ D.files, 1 ≤ f.id ∧ f.id < D.next ∧ f.sure ≤ f.bytes.length ∧ Bytes f.bytes
  kept : Dir D.kept (D.kept.map PN.id)
  doable : Doable D.kept (D.kept.map PN.id) D.moves
  names : D.names = mRun D.kept D.moves
  ids : ∀ i, i ∈ mRunIds (D.kept.map PN.id) D.moves ↔ i ∈ D.files.map PF.id
  used : usedF D.files ≤ D.quota
/-! ### Lists of names -/
theorem NS.nDel {l : List PN} (h : NS l) (s : ByteArray) : NS (nDel s l) := List.Pairwise.sublist List.filter_sublist h
theorem mem_nIns {n : PN} : ∀ {l : List PN} {x : PN}, x ∈ nIns n l ↔ x = n ∨ x ∈ l
  | [], x => by simp [nIns]
  | y :: r, x => by
    unfold nIns
    split
    · simp
    · simp only [List.mem_cons, mem_nIns (l := r)]
      constructor
      · rintro (h | h | h)
        · exact .inr (.inl h)
        · exact .inl h
        · exact .inr (.inr h)
      · rintro (h | h | h)
        · exact .inr (.inl h)
        · exact .inl h
        · exact .inr (.inr h)
theorem NS.nIns {n : PN} : ∀ {l : List PN}, NS l → ¬ nHas n.name l → NS (nIns n l)
  | [], _, _ => List.pairwise_singleton _ _
  | y :: r, h, hn => by
    have hy := List.pairwise_cons.1 h
    unfold Go.Proofs.Ytmkjjcogheidmaa.nIns
    split
    · rename_i hlt
      refine List.pairwise_cons.2 ⟨fun x hx => ?_, h⟩
      rcases List.mem_cons.1 hx with rfl | hx
      · exact hlt
      · exact slt_trans hlt (hy.1 x hx)
    · rename_i hlt
      have hyn : slt y.name n.name := slt_total hlt (fun e => hn ⟨y, List.mem_cons_self, e.symm⟩)
      refine List.pairwise_cons.2 ⟨fun x hx => ?_, NS.nIns hy.2 (fun ⟨x, hx, e⟩ => hn ⟨x, List.mem_cons_of_mem _ hx, e⟩)⟩
      rcases mem_nIns.1 hx with rfl | hx
      · exact hyn
      · exact hy.1 x hx
theorem mem_nDel {s : ByteArray} {l : List PN} {x : PN} : x ∈ nDel s l ↔ x ∈ l ∧ x.name ≠ s := by
  unfold nDel
  rw [List.mem_filter]
  simp
theorem not_has_del (s : ByteArray) (l : List PN) : ¬ nHas s (nDel s l) := fun ⟨x, hx, e⟩ => (mem_nDel.1 hx).2 e
theorem nIns_ids_perm (n : PN) : ∀ l : List PN, ((nIns n l).map PN.id).Perm (n.id :: l.map PN.id)
  | [] => by simp [nIns]
  | y :: r => by
    unfold nIns
    split
    · simp
    · rw [List.map_cons, List.map_cons]
      exact ((nIns_ids_perm n r).cons y.id).trans (List.Perm.swap _ _ _)
theorem nId_of {s : ByteArray} {l : List PN} (h : nHas s l) : ∃ x ∈ l, x.name = s ∧ nId s l = x.id := by
  obtain ⟨x, hx, e⟩ := h
  have hs : (l.find? fun x => decide (x.name = s)).isSome := by
    rw [List.find?_isSome]
    exact ⟨x, hx, by simpa using e⟩
  obtain ⟨y, hy⟩ := Option.isSome_iff_exists.1 hs
  refine ⟨y, List.mem_of_find?_eq_some hy, by simpa using List.find?_some hy, ?_⟩
  unfold nId
  rw [hy]
  rfl
theorem uniq_of {α : Type} (f : α → Nat) : ∀ {l : List α}, (l.map f).Nodup → ∀ {a b : α}, a ∈ l → b ∈ l → f a = f b → a = b
  | [], _, a, b, ha, _, _ => absurd ha (by simp)
  | x :: r, h, a, b, ha, hb, e => by
    have h2 := List.nodup_cons.1 (by simpa using h : (f x :: r.map f).Nodup)
    rcases List.mem_cons.1 ha with h3 | h3 <;> rcases List.mem_cons.1 hb with h4 | h4
    · rw [h3, h4]
    · exact absurd (by rw [← h3, e]; exact List.mem_map_of_mem h4) h2.1
    · exact absurd (by rw [← h4, ← e]; exact List.mem_map_of_mem h3) h2.1
    · exact uniq_of f h2.2 h3 h4 e
theorem uniq_id {l : List PN} (h : (l.map PN.id).Nodup) {a b : PN} (ha : a ∈ l) (hb : b ∈ l) (e : a.id = b.id) : a = b := uniq_of PN.id h ha hb e
theorem Dir.mono {l : List PN} {a b : List Nat} (h : Dir l a) (hs : ∀ i ∈ a, i ∈ b) : Dir l b := ⟨h.sorted, h.ok, h.nd, fun n hn => hs _ (h.sub n hn)⟩
theorem Dir.nDel {l : List PN} {ids : List Nat} (h : Dir l ids) (s : ByteArray) : Dir (nDel s l) ids :=
  ⟨h.sorted.nDel s, fun n hn => h.ok n (mem_nDel.1 hn).1, List.Pairwise.sublist (List.Sublist.map PN.id List.filter_sublist) h.nd, fun n hn => h.sub n (mem_nDel.1 hn).1⟩
theorem Dir.nIns {l : List PN} {ids : List Nat} (h : Dir l ids) {n : PN} (hok : okN n.name) (hn : ¬ nHas n.name l) (hid : n.id ∉ l.map PN.id) (hin : n.id ∈ ids) : Dir (nIns n l) ids :=
  ⟨h.sorted.nIns hn, fun x hx => (mem_nIns.1 hx).elim (fun e => e ▸ hok) (h.ok x), (nIns_ids_perm n l).nodup_iff.2 (List.nodup_cons.2 ⟨hid, h.nd⟩), fun x hx => (mem_nIns.1 hx).elim (fun e => e ▸ hin) (h.sub x)⟩
theorem sub_mIds {ids : List Nat} {m : PM} {i : Nat} (h : i ∈ ids) : i ∈ mIds ids m := by
  unfold mIds
  split
  · exact List.mem_append_left _ h
  · exact h
theorem Dir.mv {l : List PN} {ids : List Nat} (h : Dir l ids) {m : PM} (hm : mOk l ids m) : Dir (mv l m) (mIds ids m) := by
  obtain ⟨ho, h1 | h2 | h3⟩ := hm
  · obtain ⟨hk, hn, _, _, hi⟩ := h1
    unfold Go.Proofs.Ytmkjjcogheidmaa.mv mIds
    rw [if_pos hk, if_pos hk]
    refine (h.mono fun i hi => List.mem_append_left _ hi).nIns ho hn (fun hc => hi ?_) (List.mem_append_right _ (by simp))
    obtain ⟨x, hx, e⟩ := List.mem_map.1 hc
    have := h.sub x hx
    rw [e] at this
    exact this
  · obtain ⟨hk, _⟩ := h2
    unfold Go.Proofs.Ytmkjjcogheidmaa.mv mIds
    rw [if_neg (by omega), if_pos hk, if_neg (by omega)]
    exact h.nDel _
  · obtain ⟨hk, hn, ht, hne, _⟩ := h3
    unfold Go.Proofs.Ytmkjjcogheidmaa.mv mIds
    rw [if_neg (by omega), if_neg (by omega), if_neg (by omega)]
    obtain ⟨x, hx, hxn, hxi⟩ := nId_of hn
    refine ((h.nDel m.name).nDel m.to).nIns ht (not_has_del _ _) (fun hc => ?_) (by show nId m.name l ∈ ids; rw [hxi]; exact h.sub x hx)
    obtain ⟨y, hy, e⟩ := List.mem_map.1 hc
    have hyl := mem_nDel.1 (mem_nDel.1 hy).1
    have e2 : y.id = x.id := e.trans hxi
    have : y = x := uniq_id h.nd hyl.1 hx e2
    exact hyl.2 (this ▸ hxn)
theorem Dir.run {l : List PN} {ids : List Nat} (h : Dir l ids) : ∀ {ms : List PM}, Doable l ids ms → Dir (mRun l ms) (mRunIds ids ms) := by
  intro ms
  induction ms generalizing l ids with
  | nil => exact fun _ => h
  | cons m r ih => exact fun hd => ih (h.mv hd.1) hd.2
theorem Doable.append {l : List PN} {ids : List Nat} : ∀ {ms : List PM} {m : PM}, Doable l ids ms → mOk (mRun l ms) (mRunIds ids ms) m → Doable l ids (ms ++ [m]) := by
  intro ms
  induction ms generalizing l ids with
  | nil => exact fun _ hm => ⟨hm, trivial⟩
  | cons x r ih => exact fun hd hm => ⟨hd.1, ih hd.2 hm⟩
theorem Doable.take {l : List PN} {ids : List Nat} : ∀ {ms : List PM} (k : Nat), Doable l ids ms → Doable l ids (ms.take k) := by
  intro ms
  induction ms generalizing l ids with
  | nil => intro k _; rw [List.take_nil]; trivial
  | cons x r ih =>
    intro k hd
    cases k with
    | zero => rw [List.take_zero]; trivial
    | succ k => rw [List.take_succ_cons]; exact ⟨hd.1, ih k hd.2⟩
theorem mRun_app (l : List PN) (a b : List PM) : mRun l (a ++ b) = mRun (mRun l a) b := List.foldl_append
theorem mRunIds_app (l : List Nat) (a b : List PM) : mRunIds l (a ++ b) = mRunIds (mRunIds l a) b := List.foldl_append
theorem sub_mRunIds : ∀ {ms : List PM} {ids : List Nat} {i : Nat}, i ∈ ids → i ∈ mRunIds ids ms := by
  intro ms
  induction ms with
  | nil => exact fun h => h
  | cons m r ih => exact fun h => ih (sub_mIds h)
theorem nd_mRunIds {l : List PN} {ids : List Nat} : ∀ {ms : List PM}, Doable l ids ms → ids.Nodup → (mRunIds ids ms).Nodup := by
  intro ms
  induction ms generalizing l ids with
  | nil => exact fun _ h => h
  | cons m r ih =>
    intro hd h
    refine ih hd.2 ?_
    unfold mIds
    split
    · rename_i hk
      rcases hd.1.2 with h1 | h2 | h3
      · exact List.nodup_append.2 ⟨h, List.nodup_cons.2 ⟨by simp, List.nodup_nil⟩, fun a ha b hb e => h1.2.2.2.2 (by simp at hb; rw [← hb, ← e]; exact ha)⟩
      · omega
      · omega
    · exact h
theorem PInv.dir {D : PD} (h : PInv D) : Dir D.names (D.files.map PF.id) := by
  rw [h.names]
  exact (h.kept.run h.doable).mono fun i hi => (h.ids i).1 hi
theorem PInv.fnd {D : PD} (h : PInv D) : (D.files.map PF.id).Nodup := by
  rw [List.nodup_iff_pairwise_ne, List.pairwise_map]
  exact h.fsort.imp fun h => Nat.ne_of_lt h
/-- As many numbers were met as there are files. -/
theorem PInv.count {D : PD} (h : PInv D) : (mRunIds (D.kept.map PN.id) D.moves).length = D.files.length := by
  have hp : (mRunIds (D.kept.map PN.id) D.moves).Perm (D.files.map PF.id) := (List.perm_ext_iff_of_nodup (nd_mRunIds h.doable h.kept.nd) h.fnd).2 h.ids
  rw [hp.length_eq, List.length_map]
end Go.Proofs.Ytmkjjcogheidmaa
