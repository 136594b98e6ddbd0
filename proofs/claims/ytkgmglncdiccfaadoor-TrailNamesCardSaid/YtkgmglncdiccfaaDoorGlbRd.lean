/-
  Pieces in memory as they are read (layer 15).
-/
import Derived.Test.YtkgmglncdiccfaaDoorGlbRow
import Derived.Test.YtkgmglncdiccfaaDoorGlbSem
set_option linter.unusedSimpArgs false
set_option linter.unusedVariables false
namespace Go.Proofs.YtkgmglncdiccfaaDoor
open Go.RowKit
def AnyB : Nat → Prop := fun _ => True
/-- Pieces that are read. -/
def TrR (w : World) (v : Value) (t : Tr) : Prop := ∃ cs, OwnP AnyB w 70 4 v t.len cs ∧ TrAt AnyB w t cs
/-- Alternatives that are read. -/
def WsR (w : World) (v : Value) (t : Tr) : Prop := ∃ cs, OwnP AnyB w 38 1 v t.len cs ∧ TrAt AnyB w t cs
theorem TrNew.rd {B : Nat} {w : World} {v : Value} {t : Tr} (h : TrNew B w v t) : TrR w v t := by
  obtain ⟨cs, h1, h2⟩ := h
  exact ⟨cs, (OwnP.of h1).move (fun _ _ _ => ⟨rfl, trivial⟩), TrAt.move (fun _ _ _ => ⟨rfl, trivial⟩) t cs h2⟩
theorem TrR.below {w w' : World} {v : Value} {t : Tr} (h : TrR w v t) (hb : Below w.heap.size w w') : TrR w' v t := by
  obtain ⟨cs, h1, h2⟩ := h
  exact ⟨cs, h1.move (fun g _ hg => ⟨hb.block g hg, trivial⟩), TrAt.move (fun g _ hg => ⟨hb.block g hg, trivial⟩) t cs h2⟩
theorem WsR.below {w w' : World} {v : Value} {t : Tr} (h : WsR w v t) (hb : Below w.heap.size w w') : WsR w' v t := by
  obtain ⟨cs, h1, h2⟩ := h
  exact ⟨cs, h1.move (fun g _ hg => ⟨hb.block g hg, trivial⟩), TrAt.move (fun g _ hg => ⟨hb.block g hg, trivial⟩) t cs h2⟩
/-- From place k of block g on lie these pieces. -/
def Sx (w : World) (g k : Nat) (t : Tr) : Prop := ∃ cs, (∀ j u, cs[j]? = some u → w.cell? ⟨g, k * 4 + j, none⟩ = some u) ∧ TrAt AnyB w t cs
/-- From place k of block g on lie these alternatives. -/
def Wx (w : World) (g k : Nat) (t : Tr) : Prop := ∃ cs, (∀ j u, cs[j]? = some u → w.cell? ⟨g, k + j, none⟩ = some u) ∧ TrAt AnyB w t cs
theorem TrR.form {w : World} {v : Value} {t : Tr} (h : TrR w v t) : ∃ A c, v = .slice A t.len c ∧ t.len ≤ c ∧ (0 < t.len → ∃ g, A = some ⟨g, 0, none⟩ ∧ Sx w g 0 t) := by
  obtain ⟨cs, h1, h2⟩ := h
  obtain ⟨A, c, rfl, hc, _⟩ := own_form h1.1
  refine ⟨A, c, rfl, hc, fun hn => ?_⟩
  obtain ⟨g, c', hv, _, _, _, hcs, _⟩ := own_at h1.1 hn
  injection hv with e1 _ _
  exact ⟨g, e1, cs, fun j u hj => by rw [Nat.zero_mul, Nat.zero_add]; exact hcs j u hj, h2⟩
theorem WsR.form {w : World} {v : Value} {t : Tr} (h : WsR w v t) : ∃ A c, v = .slice A t.len c ∧ t.len ≤ c ∧ (0 < t.len → ∃ g, A = some ⟨g, 0, none⟩ ∧ Wx w g 0 t) := by
  obtain ⟨cs, h1, h2⟩ := h
  obtain ⟨A, c, rfl, hc, _⟩ := own_form h1.1
  refine ⟨A, c, rfl, hc, fun hn => ?_⟩
  obtain ⟨g, c', hv, _, _, _, hcs, _⟩ := own_at h1.1 hn
  injection hv with e1 _ _
  exact ⟨g, e1, cs, fun j u hj => by rw [Nat.zero_add]; exact hcs j u hj, h2⟩
/-- A range that is read. -/
def RnR (w : World) (v : Value) (rs : List (Nat × Nat)) : Prop := OwnP AnyB w 86 2 v rs.length (rnC rs)
theorem RnR.below {w w' : World} {v : Value} {rs : List (Nat × Nat)} (h : RnR w v rs) (hb : Below w.heap.size w w') : RnR w' v rs := h.move (fun g _ hg => ⟨hb.block g hg, trivial⟩)
/-- What a piece is, by its cells. -/
inductive PcR (w : World) : Nat → ByteArray → Value → Value → (GA ⊕ Tr) → Prop where
  | atom (a : GA) (rv : Value) (h : RnR w rv a.rows) : PcR w a.kind (str a.txt) rv (.slice none 0 0) (.inl a)
  | br (ws : Tr) (wv : Value) (h : WsR w wv ws) : PcR w 4 ⟨#[]⟩ (.slice none 0 0) wv (.inr ws)
theorem PcR.below {w w' : World} {k : Nat} {s : ByteArray} {rv wv : Value} {x : GA ⊕ Tr} (h : PcR w k s rv wv x) (hb : Below w.heap.size w w') : PcR w' k s rv wv x := by
  cases h with
  | atom a rv h => exact .atom a rv (h.below hb)
  | br ws wv h => exact .br ws wv (h.below hb)
def consT : GA ⊕ Tr → Tr → Tr
  | .inl a, r => .atom a r
  | .inr ws, r => .br ws r
theorem Sx.next {w : World} {g k : Nat} {t : Tr} (h : Sx w g k t) (hp : Good false t) (hn : 0 < t.len) : ∃ (x : GA ⊕ Tr) (r : Tr) (kk : Nat) (s : ByteArray) (A1 A2 : Option Addr) (n1 c1 n2 c2 : Nat), t = consT x r ∧
    w.cell? ⟨g, k * 4, none⟩ = some (.int .i64 (kk : Nat)) ∧ w.cell? ⟨g, k * 4 + 1, none⟩ = some (.string s) ∧ w.cell? ⟨g, k * 4 + 2, none⟩ = some (.slice A1 n1 c1) ∧ w.cell? ⟨g, k * 4 + 3, none⟩ = some (.slice A2 n2 c2) ∧
    PcR w kk s (.slice A1 n1 c1) (.slice A2 n2 c2) x ∧ Sx w g (k + 1) r := by
  obtain ⟨cs, h1, h2⟩ := h
  cases t with
  | nil => exact absurd hn (Nat.lt_irrefl 0)
  | none => exact hp.elim
  | way p ws => exact hp.elim
  | atom a r =>
    obtain ⟨rv, cs', ho, rfl, hr⟩ := h2
    obtain ⟨A, c, rfl, _⟩ := own_form ho.1
    refine ⟨.inl a, r, _, _, _, _, _, _, _, _, rfl, h1 0 _ rfl, h1 1 _ rfl, h1 2 _ rfl, h1 3 _ rfl, .atom a _ ho, cs', fun j u hj => ?_, hr⟩
    have := h1 (4 + j) u (by rw [List.getElem?_append_right (by simp [pcC]), show 4 + j - (pcC a.kind (str a.txt) (.slice A a.rows.length c) (.slice none 0 0)).length = j by simp [pcC]]; exact hj)
    rw [show (k + 1) * 4 + j = k * 4 + (4 + j) by omega]
    exact this
  | br ws r =>
    obtain ⟨wv, wcs, cs', ho, hw, rfl, hr⟩ := h2
    obtain ⟨A, c, rfl, _⟩ := own_form ho.1
    refine ⟨.inr ws, r, 4, _, _, _, _, _, _, _, rfl, h1 0 _ rfl, h1 1 _ rfl, h1 2 _ rfl, h1 3 _ rfl, .br ws _ ⟨wcs, ho, hw⟩, cs', fun j u hj => ?_, hr⟩
    have := h1 (4 + j) u (by rw [List.getElem?_append_right (by simp [pcC]), show 4 + j - (pcC 4 ⟨#[]⟩ (.slice none 0 0) (.slice A ws.len c)).length = j by simp [pcC]]; exact hj)
    rw [show (k + 1) * 4 + j = k * 4 + (4 + j) by omega]
    exact this
theorem Wx.next {w : World} {g k : Nat} {t : Tr} (h : Wx w g k t) (hp : Good true t) (hn : 0 < t.len) : ∃ (p r : Tr) (A : Option Addr) (c : Nat), t = .way p r ∧ w.cell? ⟨g, k, none⟩ = some (.slice A p.len c) ∧ TrR w (.slice A p.len c) p ∧ Wx w g (k + 1) r := by
  obtain ⟨cs, h1, h2⟩ := h
  cases t with
  | nil => exact hp.elim
  | atom a r => exact hp.elim
  | br ws r => exact hp.elim
  | none => exact absurd hn (Nat.lt_irrefl 0)
  | way p r =>
    obtain ⟨v, pcs, cs', ho, hw, rfl, hr⟩ := h2
    obtain ⟨A, c, rfl, _⟩ := own_form ho.1
    refine ⟨p, r, A, c, rfl, h1 0 _ rfl, ⟨pcs, ho, hw⟩, cs', fun j u hj => ?_, hr⟩
    have := h1 (1 + j) u (by rw [show 1 + j = j + 1 by omega]; exact hj)
    rw [show k + 1 + j = k + (1 + j) by omega]
    exact this
/-! ### By the alternatives -/
def AllW (Q : Tr → Prop) : Tr → Prop
  | .nil => True
  | .atom _ r => AllW Q r
  | .br ws r => AllW Q ws ∧ AllW Q r
  | .none => True
  | .way p ws => Q p ∧ AllW Q ws
theorem tr_ind {Q : Tr → Prop} (h : ∀ l, AllW Q l → Q l) : ∀ t, Q t ∧ AllW Q t
  | .nil => ⟨h _ trivial, trivial⟩
  | .none => ⟨h _ trivial, trivial⟩
  | .atom a r => ⟨h _ (tr_ind h r).2, (tr_ind h r).2⟩
  | .br ws r => ⟨h _ ⟨(tr_ind h ws).2, (tr_ind h r).2⟩, (tr_ind h ws).2, (tr_ind h r).2⟩
  | .way p ws => ⟨h _ ⟨(tr_ind h p).1, (tr_ind h ws).2⟩, (tr_ind h p).1, (tr_ind h ws).2⟩
theorem gStr_way {p ws : Tr} (h : Good true (.way p ws)) : (gStr (.way p ws)).length = (gStr p).length + 1 + (gStr ws).length := by
  by_cases hn : ws = .none
  · subst hn
    show (gStr p ++ [125]).length = _ + 1 + 0
    rw [List.length_append]
    rfl
  · rw [gStr_more hn h.2, List.length_append, List.length_cons]
    omega
theorem gStr_br (ws r : Tr) : (gStr (.br ws r)).length = (gStr ws).length + (gStr r).length + 1 := by
  show (123 :: (gStr ws ++ gStr r)).length = _
  rw [List.length_cons, List.length_append]
theorem ws_len {ws : Tr} (h : Good true ws) : ws.len ≤ (gStr ws).length := by
  by_cases hn : ws = .none
  · subst hn; exact Nat.zero_le _
  · exact ((gStr_len ws).2 h hn).2
end Go.Proofs.YtkgmglncdiccfaaDoor
