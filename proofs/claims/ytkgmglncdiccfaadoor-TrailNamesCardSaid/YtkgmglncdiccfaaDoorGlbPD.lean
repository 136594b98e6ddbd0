/-
  Contracts of the program's functions of layer 15: pieces, piece and braces, which call each other.
-/
import Derived.Test.YtkgmglncdiccfaaDoorGlbPC
import Derived.Defers
set_option linter.unusedSimpArgs false
set_option linter.unusedVariables false
namespace Go.Proofs.YtkgmglncdiccfaaDoor.GP
open Go.RowKit
/-- What a reading of pieces answers. -/
def PsI (B : Nat) (w' : World) (rb : Nat) (s : List Nat) (o d : Int) (v : Value) : Bool → Prop
  | true => ∃ l r, gPr false s = some (l, r) ∧ TrNew B w' v l ∧ Rd w' rb r o (max d (o + gDp l))
  | false => gPr false s = none ∧ ∃ r o' d', Rd w' rb r o' d'
/-- pieces keeps its word for texts of up to so many bytes. -/
def PsC (n : Nat) : Prop := ∀ (rb : Nat) (s : List Nat) (o d : Int), 0 ≤ o ∧ o ≤ d → s.length ≤ n → (∀ c ∈ s, c < 256) → o + s.length ≤ 900 → d ≤ 900 → ∀ (w : World), Rd w rb s o d →
    Calls Tryd.prog 34 #[.pointer (some ⟨rb, 0, none⟩)] w fun e w' => ∃ v ok, e = .returned (.tuple #[v, .bool ok]) ∧ PsI w.heap.size w' rb s o d v ok ∧ w.grownBy w' (some rb)
set_option maxRecDepth 100000 in
set_option maxHeartbeats 1000000 in
theorem close_c (pb rb : Nat) (s : List Nat) (o d : Int) (u : FrameMode) (w : World) (hp : w.cell? ⟨pb, 0, none⟩ = some (.pointer (some ⟨rb, 0, none⟩))) (h : Rd w rb s o d) :
    CallsD Tryd.prog 64 #[.pointer (some ⟨pb, 0, none⟩)] u w fun e u' w' => u' = u ∧ (e = .returned (.tuple #[]) ∧ w' = w.setCell ⟨rb, 1, none⟩ (.int .i64 (wrap64 (o - 1)))) := by
  obtain ⟨-, c1, -, -, f1, -⟩ := h.three
  clear h
  go_enter_d Tryd.func64, Tryd.ntmps64
  go_wp2
  go_end0
  exact ⟨rfl, rfl⟩
theorem gDp_app : ∀ (a b : Tr), gDp (a.app b) = max (gDp a) (gDp b)
  | .nil, b => by show gDp b = max 0 (gDp b); omega
  | .none, b => by show gDp b = max 0 (gDp b); omega
  | .atom x r, b => gDp_app r b
  | .br ws r, b => by show max (gDp ws + 1) (gDp (r.app b)) = max (max (gDp ws + 1) (gDp r)) (gDp b); rw [gDp_app r b]; omega
  | .way p ws, b => by show max (gDp p) (gDp (ws.app b)) = max (max (gDp p) (gDp ws)) (gDp b); rw [gDp_app ws b]; omega
/-- The alternatives that were read. -/
structure BrI (B : Nat) (wr : World) (rb : Nat) (t tk : List Nat) (o d : Int) (dw : Tr) (vw : Value) : Prop where
  rest : gPr true t = (gPr true tk).map fun x => (dw.app x.1, x.2)
  ws : WsNew B wr vw dw
  len : tk.length ≤ t.length
  mem : ∀ c ∈ tk, c < 256
  dep : gDp dw + tk.length ≤ t.length
  num : dw.len + tk.length ≤ t.length
def restLen (b : Nat) (w : World) : Nat := match w.cell? ⟨b, 0, none⟩ with
  | some (.string s) => s.size
  | _ => 0
theorem restLen_is {w : World} {b : Nat} {s : List Nat} {o d : Int} (h : Rd w b s o d) : restLen b w = s.length := by
  unfold restLen
  rw [h.three.1]
  exact str_size s
theorem dvar_grown {w w' : World} {b b' n : Nat} (hg : w.grownBy w' (some b)) (hn : b' ≠ b) (h : DVar w b' n) : DVar w' b' n := by
  have hk : w'.heap[b']? = w.heap[b']? := hg.block b' h.lt (by intro e; injection e with e; exact hn e)
  exact ⟨Nat.lt_of_lt_of_le h.lt hg.size, fun i hi => by obtain ⟨u, hu⟩ := h.c i hi; exact ⟨u, (World.cell?_of_block (a := ⟨b', i, none⟩) hk).trans hu⟩, fun i hi => (World.frozen?_of_block (a := ⟨b', i, none⟩) hk).trans (h.f i hi)⟩
theorem holds_grown {w w' : World} {b b' n : Nat} {cs : List Value} (hg : w.grownBy w' (some b)) (hn : b' ≠ b) (h : DVar w b' n) (hh : Holds w b' cs) : Holds w' b' cs := by
  have hk : w'.heap[b']? = w.heap[b']? := hg.block b' h.lt (by intro e; injection e with e; exact hn e)
  exact fun j v hj => (World.cell?_of_block (a := ⟨b', j, none⟩) hk).trans (hh j v hj)
theorem Rd.low {B : Nat} {w w' : World} {b : Nat} {s : List Nat} {o d : Int} (h : Rd w b s o d) (hb : Below B w w') (hl : b < B) : Rd w' b s o d := ⟨dvar_low hb hl h.var, fun j v hj => (hb.cell (p := ⟨b, j, none⟩) hl).trans (h.at_ j v hj)⟩
theorem holds_low {B : Nat} {w w' : World} {b : Nat} {cs : List Value} (hb : Below B w w') (hl : b < B) (h : Holds w b cs) : Holds w' b cs := fun j v hj => (hb.cell (p := ⟨b, j, none⟩) hl).trans (h j v hj)
theorem grown_low {B : Nat} {w w' w'' : World} {r : Option Nat} (h : w.grownBy w' r) (hb : Below B w' w'') (hB : w.heap.size ≤ B) : w.grownBy w'' r :=
  ⟨hb.os.trans h.os, hb.tape.trans h.tape, hb.output.trans h.output, Nat.le_trans h.size hb.size, fun i hi hn => (hb.block i (by omega)).trans (h.block i hi hn)⟩
theorem ne_empty2 {R : ByteArray} (h : 0 < R.size) : R.toList.isEmpty = false := by
  rw [ByteArray.toList_eq]
  obtain ⟨⟨l⟩⟩ := R
  have h2 : 0 < l.length := h
  cases l with
  | nil => simp at h2
  | cons x l => rfl
theorem way_one {M : Nat} {w : World} {v : Value} {l : Tr} (h : TrNew M w v l) : TrAt (fun x => M ≤ x) w (.way l .none) [v] := by
  obtain ⟨cs, h1, h2⟩ := h
  exact ⟨v, cs, [], OwnP.of h1, TrAt.move (fun g h _ => ⟨rfl, h.1⟩) l cs h2, rfl, rfl⟩
theorem str_first {c : Nat} {t : List Nat} (hc : c < 256) : ∃ h : 0 < (str (c :: t)).size, ((str (c :: t))[0]'h).toNat = c := by
  have h : 0 < (str (c :: t)).size := by rw [str_size]; simp
  refine ⟨h, ?_⟩
  show (UInt8.ofNat c).toNat = c
  simp [Nat.mod_eq_of_lt hc]
/-- braces keeps its word for texts of up to so many bytes behind the first one. -/
def BrC (n : Nat) : Prop := ∀ (rb : Nat) (t : List Nat) (o d : Int), 0 ≤ o ∧ o ≤ d → t.length ≤ n → (∀ c ∈ 123 :: t, c < 256) → o + t.length + 1 ≤ 900 → d ≤ 900 → ∀ (w : World), Rd w rb (123 :: t) o d →
    Calls Tryd.prog 54 #[.pointer (some ⟨rb, 0, none⟩)] w fun e w' => ∃ pv ok, e = .returned (.tuple #[pv, .bool ok]) ∧ PcI w.heap.size w' rb (123 :: t) o d pv ok ∧ w.grownBy w' (some rb)
end Go.Proofs.YtkgmglncdiccfaaDoor.GP
