/-
  Texts of the trie's proofs, merged: GlbBox, GlbPA, GlbPB, GlbSem.
-/
import Derived.Test.YtbfbjalnahngjaaGreatDoorTriQ1
import Derived.WalkKit
import Derived.WalkSmall
import Derived.Lib.Hide
import Derived.Deep.MidRow
import Derived.Maps.AppendAt
import Derived.Test.YtbfbjalnahngjaaGreatDoorShelf
import Derived.Lib.IndexLaws
import Derived.StillTailTactics
import Derived.Deep.Cut
set_option linter.unusedSimpArgs false
set_option linter.unusedVariables false
namespace Go.Proofs.YtbfbjalnahngjaaGreatDoor
open Go.RowKit
/-- What stays the same where S lets be. -/
def KeepS (S : Nat → Prop) (w w' : World) : Prop := ∀ b o, S b → w'.cell? ⟨b, o, none⟩ = w.cell? ⟨b, o, none⟩
theorem cell_below {w w' : World} (hb : Below w.heap.size w w') {b o : Nat} {u : Value} (h : w.cell? ⟨b, o, none⟩ = some u) : w'.cell? ⟨b, o, none⟩ = some u := cellb hb h
/-- A variable that holds n cells: its block's cells are there, and may be written. -/
structure DVar (w : World) (b n : Nat) : Prop where
  lt : b < w.heap.size
  c : ∀ i, i < n → ∃ u, w.cell? ⟨b, i, none⟩ = some u
  f : ∀ i, i < n → w.frozen? ⟨b, i, none⟩ = false
theorem DVar.below {w w' : World} {b n : Nat} (hb : Below w.heap.size w w') (h : DVar w b n) : DVar w' b n :=
  ⟨Nat.lt_of_lt_of_le h.lt hb.size, fun i hi => by obtain ⟨u, hu⟩ := h.c i hi; exact ⟨u, cell_below hb hu⟩, fun i hi => (hb.frozen (p := ⟨b, i, none⟩) h.lt).trans (h.f i hi)⟩
theorem DVar.alloc {w : World} (cs : Array Value) (t : TypeId) : DVar (w.alloc (.cells cs t)) w.heap.size cs.size := by
  have hh : (w.alloc (.cells cs t)).heap[w.heap.size]? = some (.cells cs t) := by
    show (w.heap.push (.cells cs t))[w.heap.size]? = _
    exact Array.getElem?_push_size
  refine ⟨by simp, fun i hi => ⟨cs[i], ?_⟩, fun i hi => frozen_of_row _ _ _ _ _ hh⟩
  rw [cell_of_row _ _ _ _ _ _ hh]
  simp [hi]
theorem DVar.set {w : World} {b n b' o : Nat} (h : DVar w b n) (u : Value) : DVar (w.setCell ⟨b', o, none⟩ u) b n := by
  refine ⟨by simp; exact h.lt, fun i hi => ?_, fun i hi => ?_⟩
  · obtain ⟨v, hv⟩ := h.c i hi
    by_cases e : (⟨b', o, none⟩ : Addr) = ⟨b, i, none⟩
    · exact ⟨u, by rw [e]; exact World.cell?_setCell_same w _ u hv⟩
    · exact ⟨v, (World.cell?_setCell_other w _ _ u e).trans hv⟩
  · rw [World.frozen?_setCell]
    exact h.f i hi
theorem DVar.mono {w : World} {b n m : Nat} (h : DVar w b n) (hm : m ≤ n) : DVar w b m := ⟨h.lt, fun i hi => h.c i (by omega), fun i hi => h.f i (by omega)⟩
theorem DVar.drew {w : World} {b n : Nat} (h : DVar w b n) : DVar w.drew b n := ⟨h.lt, h.c, h.f⟩
theorem DVar.four {w : World} {b : Nat} (h : DVar w b 4) : w.frozen? ⟨b, 0, none⟩ = false ∧ w.frozen? ⟨b, 1, none⟩ = false ∧ w.frozen? ⟨b, 2, none⟩ = false ∧ w.frozen? ⟨b, 3, none⟩ = false :=
  ⟨h.f 0 (by decide), h.f 1 (by decide), h.f 2 (by decide), h.f 3 (by decide)⟩
theorem keep_set {b o : Nat} (w : World) (u : Value) : KeepS (fun g => g ≠ b) w (w.setCell ⟨b, o, none⟩ u) := fun b' o' h => World.cell?_setCell_other w _ _ u (fun e => by injection e with e1; exact h e1.symm)
theorem KeepS.trans {S : Nat → Prop} {a b c : World} (h : KeepS S a b) (k : KeepS S b c) : KeepS S a c := fun x y hS => (k x y hS).trans (h x y hS)
theorem keep_sets {b : Nat} : ∀ (vs : List Value) (o : Nat) (w : World), KeepS (fun g => g ≠ b) w (w.setCells b o vs)
  | [], _, _ => fun _ _ _ => rfl
  | v :: r, o, w => KeepS.trans (keep_set w v) (keep_sets r (o + 1) _)
theorem below_sets {B b : Nat} (hb : B ≤ b) : ∀ (vs : List Value) (o : Nat) {w0 w : World}, Below B w0 w → Below B w0 (w.setCells b o vs)
  | [], _, _, _, h => h
  | v :: r, o, _, _, h => below_sets hb r (o + 1) (h.setCell hb v)
theorem var_sets {b n b' : Nat} : ∀ (vs : List Value) (o : Nat) {w : World}, DVar w b n → DVar (w.setCells b' o vs) b n
  | [], _, _, h => h
  | v :: r, o, _, h => var_sets r (o + 1) (h.set v)
theorem size_sets {b : Nat} : ∀ (vs : List Value) (o : Nat) (w : World), (w.setCells b o vs).heap.size = w.heap.size
  | [], _, _ => rfl
  | v :: r, o, w => (size_sets r (o + 1) _).trans (by simp)
/-- What lies in a variable. -/
def Holds (w : World) (b : Nat) (cs : List Value) : Prop := ∀ j v, cs[j]? = some v → w.cell? ⟨b, j, none⟩ = some v
theorem Holds.below {w w' : World} {b : Nat} {cs : List Value} (h : Holds w b cs) (hb : Below w.heap.size w w') : Holds w' b cs := fun j v hv => cell_below hb (h j v hv)
theorem Holds.keep {S : Nat → Prop} {w w' : World} {b : Nat} {cs : List Value} (h : Holds w b cs) (hk : KeepS S w w') (hS : S b) : Holds w' b cs := fun j v hv => (hk b j hS).trans (h j v hv)
theorem Holds.four {w : World} {b : Nat} {v0 v1 v2 v3 : Value} (h : Holds w b [v0, v1, v2, v3]) : w.cell? ⟨b, 0, none⟩ = some v0 ∧ w.cell? ⟨b, 1, none⟩ = some v1 ∧ w.cell? ⟨b, 2, none⟩ = some v2 ∧ w.cell? ⟨b, 3, none⟩ = some v3 :=
  ⟨h 0 _ rfl, h 1 _ rfl, h 2 _ rfl, h 3 _ rfl⟩
theorem Holds.cells5 {w : World} {b : Nat} {v0 v1 v2 v3 v4 : Value} (h : Holds w b [v0, v1, v2, v3, v4]) : w.cell? ⟨b, 0, none⟩ = some v0 ∧ w.cell? ⟨b, 1, none⟩ = some v1 ∧ w.cell? ⟨b, 2, none⟩ = some v2 ∧ w.cell? ⟨b, 3, none⟩ = some v3 ∧ w.cell? ⟨b, 4, none⟩ = some v4 :=
  ⟨h 0 _ rfl, h 1 _ rfl, h 2 _ rfl, h 3 _ rfl, h 4 _ rfl⟩
theorem Holds.three {w : World} {b : Nat} {v0 v1 v2 : Value} (h : Holds w b [v0, v1, v2]) : w.cell? ⟨b, 0, none⟩ = some v0 ∧ w.cell? ⟨b, 1, none⟩ = some v1 ∧ w.cell? ⟨b, 2, none⟩ = some v2 :=
  ⟨h 0 _ rfl, h 1 _ rfl, h 2 _ rfl⟩
theorem Holds.of4 {w : World} {b : Nat} {v0 v1 v2 v3 : Value} (h0 : w.cell? ⟨b, 0, none⟩ = some v0) (h1 : w.cell? ⟨b, 1, none⟩ = some v1) (h2 : w.cell? ⟨b, 2, none⟩ = some v2) (h3 : w.cell? ⟨b, 3, none⟩ = some v3) : Holds w b [v0, v1, v2, v3] := fun j v hj => by
  match j, hj with
  | 0, hj => obtain rfl := Option.some.inj hj; exact h0
  | 1, hj => obtain rfl := Option.some.inj hj; exact h1
  | 2, hj => obtain rfl := Option.some.inj hj; exact h2
  | 3, hj => obtain rfl := Option.some.inj hj; exact h3
  | j + 4, hj => simp at hj
theorem grown_set1 (w : World) (b o : Nat) (u : Value) : w.grownBy (w.setCell ⟨b, o, none⟩ u) (some b) := ⟨rfl, rfl, rfl, by simp, fun i _ hi => heap_setCell_other w ⟨b, o, none⟩ i u (fun e => hi (by rw [e]))⟩
theorem grown_sets {b : Nat} : ∀ (vs : List Value) (o : Nat) (w : World), w.grownBy (w.setCells b o vs) (some b)
  | [], _, _ => ⟨rfl, rfl, rfl, Nat.le_refl _, fun _ _ _ => rfl⟩
  | v :: r, o, w => (grown_set1 w b o v).trans (grown_sets r (o + 1) _)
theorem keep_off {b : Nat} : ∀ (vs : List Value) (o : Nat) (w : World) (j : Nat), o + vs.length ≤ j → (w.setCells b o vs).cell? ⟨b, j, none⟩ = w.cell? ⟨b, j, none⟩
  | [], _, _, _, _ => rfl
  | v :: r, o, w, j, h => (keep_off r (o + 1) _ j (by simp only [List.length_cons] at h; omega)).trans (World.cell?_setCell_other w _ _ v (by intro e; simp only [Addr.mk.injEq, List.length_cons] at e h; omega))
/-- What is known behind a store of a whole variable. -/
structure Put (w w' : World) (b : Nat) (cs : List Value) : Prop where
  var : DVar w' b cs.length
  at_ : Holds w' b cs
  keep : KeepS (fun g => g ≠ b) w w'
  below : ∀ {B : Nat} {w0 : World}, B ≤ b → Below B w0 w → Below B w0 w'
  size : w'.heap.size = w.heap.size
  frozen : ∀ b' o', w'.frozen? ⟨b', o', none⟩ = w.frozen? ⟨b', o', none⟩
  grown : w.grownBy w' (some b)
  vars : ∀ (b' n : Nat), DVar w b' n → DVar w' b' n
  off : ∀ j, cs.length ≤ j → w'.cell? ⟨b, j, none⟩ = w.cell? ⟨b, j, none⟩
theorem wpList_put {P : Program} {ops : Array Oper} {rest : List Oper} {op : Oper} {a : Act} {w : World} {Q : Exit → Act → World → Prop} (hgd : op.guard = none) (ty : TypeId) (x y : Operand) (ho : op.op = .store ty x y)
    (b : Nat) (cs : List Value) (hx : a.eval x = .pointer (some ⟨b, 0, none⟩)) (hy : a.eval y = .agg cs.toArray) (hv : DVar w b cs.length)
    (hi : (P.info? ty).map (·.size) = some cs.length) (h1 : ∀ v ∈ cs, v.oneCell' = true)
    (h : ∀ w', Put w w' b cs → wpList P ops Q rest (a.put op.dst undef) w') : wpList P ops Q (op :: rest) a w := by
  have ht : w.there b 0 cs.length := fun j hj => by
    rw [Nat.zero_add]
    obtain ⟨u, hu⟩ := hv.c j hj
    exact ⟨by rw [hu]; rfl, hv.f j hj⟩
  refine wpList_store_mid hgd ty x y ho b 0 cs.toArray hx hy (by simpa using ht) (by simpa using hi) (all_oneCell_toArray h1) ?_
  have e : cs.toArray.toList = cs := by simp
  rw [e]
  refine h _ ⟨var_sets cs 0 hv, fun j v hj => ?_, keep_sets cs 0 w, fun hB hb => below_sets hB cs 0 hb, size_sets cs 0 w, fun b' o' => World.frozen?_setCells b cs 0 w _, grown_sets cs 0 w, fun b' n h => var_sets cs 0 h, fun j hj => keep_off cs 0 w j (by omega)⟩
  have := World.rangeAt_setCells_same w b 0 cs ht j v hj
  rw [Nat.zero_add] at this
  exact this
/-- A goal's world as a letter. -/
theorem gen_last {G : World → Prop} {W : World} (F : World → Prop) (hF : F W) (h : ∀ y, F y → G y) : G W := h W hF
theorem Holds.set {w : World} {b j : Nat} {cs : List Value} (h : Holds w b cs) (hj : j < cs.length) (u : Value) : Holds (w.setCell ⟨b, j, none⟩ u) b (cs.set j u) := fun i v hv => by
  rw [List.getElem?_set] at hv
  by_cases e : j = i
  · subst e
    rw [if_pos rfl, if_pos hj] at hv
    obtain rfl := Option.some.inj hv
    exact World.cell?_setCell_same _ _ _ (h j _ (List.getElem?_eq_getElem hj))
  · rw [if_neg e] at hv
    exact (World.cell?_setCell_other _ _ _ _ (by intro e'; simp only [Addr.mk.injEq] at e'; omega)).trans (h i v hv)
theorem Holds.setOther {w : World} {b b' j : Nat} {cs : List Value} (h : Holds w b cs) (hb : b' ≠ b) (u : Value) : Holds (w.setCell ⟨b', j, none⟩ u) b cs := fun i v hv =>
  (World.cell?_setCell_other _ _ _ _ (by intro e'; simp only [Addr.mk.injEq] at e'; exact hb e'.1)).trans (h i v hv)
theorem Holds.drew {w : World} {b : Nat} {cs : List Value} (h : Holds w b cs) : Holds w.drew b cs := h
theorem holds_alloc (w : World) (C : List Value) (t : TypeId) : Holds (w.alloc (.cells C.toArray t)) w.heap.size C := fun j x h => by
  have hh : (w.alloc (.cells C.toArray t)).heap[w.heap.size]? = some (.cells C.toArray t) := by
    show (w.heap.push _)[w.heap.size]? = _
    exact Array.getElem?_push_size
  rw [cell_of_row _ _ _ _ _ _ hh]
  simpa using h
end Go.Proofs.YtbfbjalnahngjaaGreatDoor
namespace Go.Proofs.YtbfbjalnahngjaaGreatDoor.GP
open Go.RowKit
def others : ByteArray := ⟨#[95, 45, 58, 37, 35, 64, 43, 61]⟩
set_option maxRecDepth 100000 in
theorem others_all : ∀ c : Fin 256, decide (0 ≤ Lib.indexByte [95, 45, 58, 37, 35, 64, 43, 61] (Int.toNat (c.val : Int)).toUInt8) = [95, 45, 58, 37, 35, 64, 43, 61].contains c.val := by decide
theorem others_is {c : Nat} (h : c < 256) : decide (0 ≤ Lib.indexByte others.data.toList (Int.toNat (c : Int)).toUInt8) = [95, 45, 58, 37, 35, 64, 43, 61].contains c := others_all ⟨c, h⟩
set_option maxRecDepth 100000 in
set_option maxHeartbeats 2000000 in
theorem byte_c (c : Nat) (hc : c < 256) (w : World) :
    Calls Tryz.prog 96 #[.int .u8 (c : Nat)] w fun e w' => e = .returned (.bool (isB c)) ∧ w' = w := by
  have IX := fun (W : World) => Tryz.strings_IndexByte others (c : Nat) W
  have hI := others_is hc
  obtain ⟨q, hq⟩ : ∃ q, Lib.indexByte others.data.toList (Int.toNat (c : Int)).toUInt8 = q := ⟨_, rfl⟩
  rw [hq] at IX hI
  obtain ⟨d, hd⟩ : ∃ d, isB c = d := ⟨_, rfl⟩
  have HD := Lib.hid (show ((decide (97 ≤ c) && decide (c ≤ 122)) || (decide (65 ≤ c) && decide (c ≤ 90)) || (decide (48 ≤ c) && decide (c ≤ 57)) || decide (0 ≤ q)) = d by rw [hI]; exact hd)
  rw [hd]
  clear hd hI hq
  go_enter Tryz.func96, Tryz.ntmps96
  go_wp2_with (go_at_call 112; refine (IX _).mono ?_; rintro e w' ⟨rfl, rfl⟩)
  all_goals (go_ret; refine ⟨congrArg (fun z => Ending.returned (.bool z)) ?_, rfl⟩; rw [← HD.out, Bool.eq_iff_iff]; simp only [Bool.or_eq_true, Bool.and_eq_true, decide_eq_true_eq, Bool.true_and, Bool.and_true, true_iff, iff_true]; omega)
/-! ### The reader -/
/-- A reader: what is left, how many braces are open, and how many were at most. -/
structure Rd (w : World) (b : Nat) (s : List Nat) (o d : Int) : Prop where
  var : DVar w b 3
  at_ : Holds w b [.string (str s), .int .i64 o, .int .i64 d]
theorem Rd.below {w w' : World} {b : Nat} {s : List Nat} {o d : Int} (h : Rd w b s o d) (hb : Below w.heap.size w w') : Rd w' b s o d := ⟨h.var.below hb, h.at_.below hb⟩
theorem Rd.three {w : World} {b : Nat} {s : List Nat} {o d : Int} (h : Rd w b s o d) : w.cell? ⟨b, 0, none⟩ = some (.string (str s)) ∧ w.cell? ⟨b, 1, none⟩ = some (.int .i64 o) ∧ w.cell? ⟨b, 2, none⟩ = some (.int .i64 d) ∧
    w.frozen? ⟨b, 0, none⟩ = false ∧ w.frozen? ⟨b, 1, none⟩ = false ∧ w.frozen? ⟨b, 2, none⟩ = false :=
  ⟨h.at_.three.1, h.at_.three.2.1, h.at_.three.2.2, h.var.f 0 (by decide), h.var.f 1 (by decide), h.var.f 2 (by decide)⟩
theorem Rd.set0 {w : World} {b : Nat} {s s' : List Nat} {o d : Int} (h : Rd w b s o d) : Rd (w.setCell ⟨b, 0, none⟩ (.string (str s'))) b s' o d := ⟨h.var.set _, by simpa using h.at_.set (j := 0) (by simp) (.string (str s'))⟩
theorem Rd.set1 {w : World} {b : Nat} {s : List Nat} {o o' d : Int} (h : Rd w b s o d) : Rd (w.setCell ⟨b, 1, none⟩ (.int .i64 o')) b s o' d := ⟨h.var.set _, by simpa using h.at_.set (j := 1) (by simp) (.int .i64 o')⟩
theorem Rd.set2 {w : World} {b : Nat} {s : List Nat} {o d d' : Int} (h : Rd w b s o d) : Rd (w.setCell ⟨b, 2, none⟩ (.int .i64 d')) b s o d' := ⟨h.var.set _, by simpa using h.at_.set (j := 2) (by simp) (.int .i64 d')⟩
theorem Rd.other {w : World} {b b' j : Nat} {s : List Nat} {o d : Int} (h : Rd w b s o d) (hb : b' ≠ b) (u : Value) : Rd (w.setCell ⟨b', j, none⟩ u) b s o d := ⟨h.var.set _, h.at_.setOther hb u⟩
theorem str_from (s : List Nat) (k : Nat) (h : ∀ c ∈ s, c < 256) : (str s).extract k (str s).size = str (s.drop k) := by
  rw [← str_bs ((str s).extract k (str s).size), bs_from, bs_str h]
theorem str_upto (s : List Nat) (k : Nat) (h : ∀ c ∈ s, c < 256) : (str s).extract 0 k = str (s.take k) := by
  rw [← str_bs ((str s).extract 0 k), bs_upto, bs_str h]
theorem grown_below {w w' w'' : World} {b : Nat} (h : w.grownBy w' (some b)) (k : Below w'.heap.size w' w'') : w.grownBy w'' (some b) :=
  ⟨k.os.trans h.os, k.tape.trans h.tape, k.output.trans h.output, Nat.le_trans h.size k.size, fun i hi hn => (k.block i (Nat.lt_of_lt_of_le hi h.size)).trans (h.block i hi hn)⟩
theorem below_grown {w w' w'' : World} {b : Nat} (h : Below w.heap.size w w') (k : w'.grownBy w'' (some b)) : w.grownBy w'' (some b) :=
  ⟨k.os.trans h.os, k.tape.trans h.tape, k.output.trans h.output, Nat.le_trans h.size k.size, fun i hi hn => (k.block i (Nat.lt_of_lt_of_le hi h.size) hn).trans (h.block i hi)⟩
set_option maxRecDepth 100000 in
set_option maxHeartbeats 2000000 in
theorem take_c (b : Nat) (s : List Nat) (o d : Int) (n : Nat) (hn : n ≤ s.length) (hs : s.length ≤ 1000) (hb : ∀ c ∈ s, c < 256) (w : World) (h : Rd w b s o d) :
    Calls Tryz.prog 124 #[.pointer (some ⟨b, 0, none⟩), .int .i64 (n : Nat)] w fun e w' => e = .returned (.string (str (s.take n))) ∧ w' = w.setCell ⟨b, 0, none⟩ (.string (str (s.drop n))) := by
  obtain ⟨c0, -, -, f0, -, -⟩ := h.three
  have e1 := str_from s n hb
  have e2 := str_upto s n hb
  have hz : (str s).size = s.length := str_size s
  obtain ⟨S, hS⟩ : ∃ S, str s = S := ⟨_, rfl⟩
  rw [hS] at e1 e2 hz c0
  have i1 : (n : Int) ≤ (S.size : Int) := by omega
  obtain ⟨T, hT⟩ : ∃ T, str (s.drop n) = T := ⟨_, rfl⟩
  obtain ⟨U, hU⟩ : ∃ U, str (s.take n) = U := ⟨_, rfl⟩
  rw [hT] at e1 ⊢
  rw [hU] at e2 ⊢
  have E1 := Lib.hid e1; have E2 := Lib.hid e2
  clear hS hz e1 e2 h hT hU
  go_enter Tryz.func124, Tryz.ntmps124
  go_wp2
  go_ret
  exact ⟨congrArg (fun z => Ending.returned (.string z)) E2.out, congrArg (fun z => w.setCell ⟨b, 0, none⟩ (.string z)) E1.out⟩
end Go.Proofs.YtbfbjalnahngjaaGreatDoor.GP
namespace Go.Proofs.YtbfbjalnahngjaaGreatDoor.GP
open Go.RowKit
/-- What member answers. -/
def MbI (s : List Nat) (lo hi : Nat) (k : Nat) : Bool → Prop
  | true => gMem s = some ((lo, hi), k) ∧ lo < 256 ∧ hi < 256
  | false => gMem s = none
theorem getD_three {s : List Nat} (h : 3 ≤ s.length) : ∃ a b c r, s = a :: b :: c :: r := by
  match s, h with
  | a :: b :: c :: r, _ => exact ⟨a, b, c, r, rfl⟩
set_option maxRecDepth 100000 in
set_option maxHeartbeats 4000000 in
theorem member_no (S : ByteArray) (a : Nat) (h0 : 0 < S.size) (ha1 : (bs S).getD 0 0 = a) (ha2 : (S[0]'h0).toNat = a) (ha3 : a < 256) (hba : isB a = false) (w : World) :
    Calls Tryz.prog 133 #[.string S] w fun e w' => ∃ (lo hi k : Nat) (ok : Bool), e = .returned (.tuple #[.agg #[.int .u8 (lo : Nat), .int .u8 (hi : Nat)], .int .i64 (k : Nat), .bool ok]) ∧
      MbI (bs S) lo hi k ok ∧ Below w.heap.size w w' := by
  have hz0 : (0 : Int) < (S.size : Int) := by omega
  have HN := Lib.hid (show gMem (bs S) = none by unfold gMem; rw [ha1, hba]; rfl)
  have BA := Lib.hid (fun W => byte_c a ha3 W)
  rw [hba] at BA
  clear hba ha1
  go_enter Tryz.func133, Tryz.ntmps133
  go_wp2_with fail
  refine (BA.out _).mono ?_; rintro e w' ⟨rfl, rfl⟩
  go_wp2
  exact bodyPost_ret (v := .tuple #[.agg #[.int .u8 ((0 : Nat) : Int), .int .u8 ((0 : Nat) : Int)], .int .i64 ((0 : Nat) : Int), .bool false]) (by simp [results, Tryz.results133, go_sem]) rfl ⟨0, 0, 0, false, rfl, HN.out, alloc_below _ _⟩
set_option maxRecDepth 100000 in
set_option maxHeartbeats 4000000 in
theorem member_short (S : ByteArray) (a : Nat) (h0 : 0 < S.size) (ha1 : (bs S).getD 0 0 = a) (ha2 : (S[0]'h0).toNat = a) (ha3 : a < 256) (hba : isB a = true) (h3 : ¬ 3 ≤ S.size) (w : World) :
    Calls Tryz.prog 133 #[.string S] w fun e w' => ∃ (lo hi k : Nat) (ok : Bool), e = .returned (.tuple #[.agg #[.int .u8 (lo : Nat), .int .u8 (hi : Nat)], .int .i64 (k : Nat), .bool ok]) ∧
      MbI (bs S) lo hi k ok ∧ Below w.heap.size w w' := by
  have hz0 : (0 : Int) < (S.size : Int) := by omega
  have hz3 : ¬ (3 : Int) ≤ (S.size : Int) := by omega
  have HN := Lib.hid (show MbI (bs S) a a 1 true by
    refine ⟨?_, ha3, ha3⟩
    unfold gMem
    rw [ha1, hba, if_pos rfl, if_neg (by rw [bs_length]; omega)])
  have BA := Lib.hid (fun W => byte_c a ha3 W)
  rw [hba] at BA
  clear hba ha1
  go_enter Tryz.func133, Tryz.ntmps133
  go_wp2_with fail
  refine (BA.out _).mono ?_; rintro e w' ⟨rfl, rfl⟩
  go_wp2
  go_region
  go_wp2
  exact bodyPost_ret (v := .tuple #[.agg #[.int .u8 ((a : Nat) : Int), .int .u8 ((a : Nat) : Int)], .int .i64 ((1 : Nat) : Int), .bool true]) (by simp [results, Tryz.results133, go_sem]) rfl ⟨a, a, 1, true, rfl, HN.out, (alloc_below _ _).drew⟩
set_option maxRecDepth 100000 in
set_option maxHeartbeats 4000000 in
theorem member_dash (S : ByteArray) (a : Nat) (h0 : 0 < S.size) (ha1 : (bs S).getD 0 0 = a) (ha2 : (S[0]'h0).toNat = a) (ha3 : a < 256) (b c : Nat) (h1 : 1 < S.size) (h2 : 2 < S.size) (hb1 : (bs S).getD 1 0 = b) (hb2 : (S[1]'h1).toNat = b) (hc1 : (bs S).getD 2 0 = c) (hc2 : (S[2]'h2).toNat = c) (hc3 : c < 256) (hba : isB a = true) (hb : b ≠ 45) (w : World) :
    Calls Tryz.prog 133 #[.string S] w fun e w' => ∃ (lo hi k : Nat) (ok : Bool), e = .returned (.tuple #[.agg #[.int .u8 (lo : Nat), .int .u8 (hi : Nat)], .int .i64 (k : Nat), .bool ok]) ∧
      MbI (bs S) lo hi k ok ∧ Below w.heap.size w w' := by
  have hz0 : (0 : Int) < (S.size : Int) := by omega
  have hz1 : (1 : Int) < (S.size : Int) := by omega
  have hz2 : (2 : Int) < (S.size : Int) := by omega
  have hz3 : (3 : Int) ≤ (S.size : Int) := by omega
  have i45 : ¬ (b : Int) = 45 := by omega
  have HN := Lib.hid (show MbI (bs S) a a 1 true by
    refine ⟨?_, ha3, ha3⟩
    unfold gMem
    rw [ha1, hba, if_pos rfl, if_neg (by rw [hb1]; omega)])
  have BA := Lib.hid (fun W => byte_c a ha3 W)
  rw [hba] at BA
  clear hba ha1 hb1 hc1 hb
  go_enter Tryz.func133, Tryz.ntmps133
  go_wp2_with fail
  refine (BA.out _).mono ?_; rintro e w' ⟨rfl, rfl⟩
  go_wp2
  go_region
  go_wp2
  exact bodyPost_ret (v := .tuple #[.agg #[.int .u8 ((a : Nat) : Int), .int .u8 ((a : Nat) : Int)], .int .i64 ((1 : Nat) : Int), .bool true]) (by simp [results, Tryz.results133, go_sem]) rfl ⟨a, a, 1, true, rfl, HN.out, (alloc_below _ _).drew⟩
set_option maxRecDepth 100000 in
set_option maxHeartbeats 4000000 in
theorem member_alone (S : ByteArray) (a : Nat) (h0 : 0 < S.size) (ha1 : (bs S).getD 0 0 = a) (ha2 : (S[0]'h0).toNat = a) (ha3 : a < 256) (b c : Nat) (h1 : 1 < S.size) (h2 : 2 < S.size) (hb1 : (bs S).getD 1 0 = b) (hb2 : (S[1]'h1).toNat = b) (hc1 : (bs S).getD 2 0 = c) (hc2 : (S[2]'h2).toNat = c) (hc3 : c < 256) (hba : isB a = true) (hb : b = 45) (hbc : isB c = false) (w : World) :
    Calls Tryz.prog 133 #[.string S] w fun e w' => ∃ (lo hi k : Nat) (ok : Bool), e = .returned (.tuple #[.agg #[.int .u8 (lo : Nat), .int .u8 (hi : Nat)], .int .i64 (k : Nat), .bool ok]) ∧
      MbI (bs S) lo hi k ok ∧ Below w.heap.size w w' := by
  have hz0 : (0 : Int) < (S.size : Int) := by omega
  have hz1 : (1 : Int) < (S.size : Int) := by omega
  have hz2 : (2 : Int) < (S.size : Int) := by omega
  have hz3 : (3 : Int) ≤ (S.size : Int) := by omega
  have HN := Lib.hid (show MbI (bs S) a a 1 true by
    refine ⟨?_, ha3, ha3⟩
    unfold gMem
    rw [ha1, hba, if_pos rfl, if_neg (by rw [hc1, hbc]; simp)])
  have BA := Lib.hid (fun W => byte_c a ha3 W)
  rw [hba] at BA
  have BC := Lib.hid (fun W => byte_c c hc3 W)
  rw [hbc] at BC
  subst hb
  clear hba ha1 hb1 hc1 hbc
  go_enter Tryz.func133, Tryz.ntmps133
  go_wp2_with fail
  refine (BA.out _).mono ?_; rintro e w' ⟨rfl, rfl⟩
  go_wp2_with fail
  refine (BC.out _).mono ?_; rintro e w' ⟨rfl, rfl⟩
  go_wp2
  go_region
  go_wp2
  exact bodyPost_ret (v := .tuple #[.agg #[.int .u8 ((a : Nat) : Int), .int .u8 ((a : Nat) : Int)], .int .i64 ((1 : Nat) : Int), .bool true]) (by simp [results, Tryz.results133, go_sem]) rfl ⟨a, a, 1, true, rfl, HN.out, (alloc_below _ _).drew⟩
set_option maxRecDepth 100000 in
set_option maxHeartbeats 4000000 in
theorem member_range (S : ByteArray) (a : Nat) (h0 : 0 < S.size) (ha1 : (bs S).getD 0 0 = a) (ha2 : (S[0]'h0).toNat = a) (ha3 : a < 256) (b c : Nat) (h1 : 1 < S.size) (h2 : 2 < S.size) (hb1 : (bs S).getD 1 0 = b) (hb2 : (S[1]'h1).toNat = b) (hc1 : (bs S).getD 2 0 = c) (hc2 : (S[2]'h2).toNat = c) (hc3 : c < 256) (hba : isB a = true) (hb : b = 45) (hbc : isB c = true) (w : World) :
    Calls Tryz.prog 133 #[.string S] w fun e w' => ∃ (lo hi k : Nat) (ok : Bool), e = .returned (.tuple #[.agg #[.int .u8 (lo : Nat), .int .u8 (hi : Nat)], .int .i64 (k : Nat), .bool ok]) ∧
      MbI (bs S) lo hi k ok ∧ Below w.heap.size w w' := by
  have hz0 : (0 : Int) < (S.size : Int) := by omega
  have hz1 : (1 : Int) < (S.size : Int) := by omega
  have hz2 : (2 : Int) < (S.size : Int) := by omega
  have hz3 : (3 : Int) ≤ (S.size : Int) := by omega
  have HN := Lib.hid (show MbI (bs S) a c 3 (decide (a ≤ c)) by
    have hl := bs_length S
    by_cases h : a ≤ c
    · rw [decide_eq_true h]
      refine ⟨?_, ha3, hc3⟩
      unfold gMem
      rw [ha1, hba, if_pos rfl, if_pos (by rw [hb1, hc1, hbc]; exact ⟨by omega, hb, rfl⟩), hc1, if_pos h]
    · rw [decide_eq_false h]
      show gMem _ = none
      unfold gMem
      rw [ha1, hba, if_pos rfl, if_pos (by rw [hb1, hc1, hbc]; exact ⟨by omega, hb, rfl⟩), hc1, if_neg h])
  have hdd : decide ((a : Int) ≤ (c : Int)) = decide (a ≤ c) := by rw [decide_eq_decide]; omega
  have BA := Lib.hid (fun W => byte_c a ha3 W)
  rw [hba] at BA
  have BC := Lib.hid (fun W => byte_c c hc3 W)
  rw [hbc] at BC
  subst hb
  clear hba ha1 hb1 hc1 hbc
  go_enter Tryz.func133, Tryz.ntmps133
  go_wp2_with fail
  refine (BA.out _).mono ?_; rintro e w' ⟨rfl, rfl⟩
  go_wp2_with fail
  refine (BC.out _).mono ?_; rintro e w' ⟨rfl, rfl⟩
  go_wp2
  go_region
  go_wp2
  exact bodyPost_ret (v := .tuple #[.agg #[.int .u8 ((a : Nat) : Int), .int .u8 ((c : Nat) : Int)], .int .i64 ((3 : Nat) : Int), .bool (decide (a ≤ c))]) (by simp [results, Tryz.results133, go_sem]) rfl ⟨a, c, 3, (decide (a ≤ c)), rfl, HN.out, (alloc_below _ _).drew⟩
theorem member_c (S : ByteArray) (h0 : 0 < S.size) (w : World) :
    Calls Tryz.prog 133 #[.string S] w fun e w' => ∃ (lo hi k : Nat) (ok : Bool), e = .returned (.tuple #[.agg #[.int .u8 (lo : Nat), .int .u8 (hi : Nat)], .int .i64 (k : Nat), .bool ok]) ∧
      MbI (bs S) lo hi k ok ∧ Below w.heap.size w w' := by
  obtain ⟨a, ha1, ha2, ha3⟩ := bs_get h0
  cases hba : isB a with
  | false => exact member_no S a h0 ha1 ha2 ha3 hba w
  | true =>
    by_cases h3 : 3 ≤ S.size
    · obtain ⟨b, hb1, hb2, hb3⟩ := bs_get (show 1 < S.size by omega)
      obtain ⟨c, hc1, hc2, hc3⟩ := bs_get (show 2 < S.size by omega)
      by_cases hb : b = 45
      · cases hbc : isB c with
        | false => exact member_alone S a h0 ha1 ha2 ha3 b c (by omega) (by omega) hb1 hb2 hc1 hc2 hc3 hba hb hbc w
        | true => exact member_range S a h0 ha1 ha2 ha3 b c (by omega) (by omega) hb1 hb2 hc1 hc2 hc3 hba hb hbc w
      · exact member_dash S a h0 ha1 ha2 ha3 b c (by omega) (by omega) hb1 hb2 hc1 hc2 hc3 hba hb w
    · exact member_short S a h0 ha1 ha2 ha3 hba h3 w
end Go.Proofs.YtbfbjalnahngjaaGreatDoor.GP
namespace Go.Proofs.YtbfbjalnahngjaaGreatDoor
def gDp : Tr → Nat
  | .nil => 0
  | .atom _ r => gDp r
  | .br ws r => max (gDp ws + 1) (gDp r)
  | .none => 0
  | .way p ws => max (gDp p) (gDp ws)
/-- How many patterns without braces come of pieces, n times; 65 at most. -/
def gCnt : Tr → Nat → Nat
  | .nil, n => n
  | .atom _ r, n => gCnt r n
  | .br ws r, n => gCnt r (min (n * gCnt ws 0) 65)
  | .none, _ => 0
  | .way p ws, _ => gCnt p 1 + gCnt ws 0
def gNm : Tr → Nat
  | .nil => 1
  | .atom _ r => gNm r
  | .br ws r => gNm ws * gNm r
  | .none => 0
  | .way p ws => gNm p + gNm ws
/-- The texts without braces that come of pieces, behind others; of alternatives. -/
def gTx : Tr → List (List Nat) → List (List Nat)
  | .nil, acc => acc
  | .atom a r, acc => gTx r (acc.map (· ++ a.txt))
  | .br ws r, acc => gTx r (acc.flatMap fun x => (gTx ws []).map (x ++ ·))
  | .none, _ => []
  | .way p ws, _ => gTx p [[]] ++ gTx ws []
/-- The pieces without braces. -/
def gEx : Tr → List (List GA)
  | .nil => [[]]
  | .atom a r => (gEx r).map (a :: ·)
  | .br ws r => (gEx ws).flatMap fun e => (gEx r).map (e ++ ·)
  | .none => []
  | .way p ws => gEx p ++ gEx ws
def gTxt (e : List GA) : List Nat := e.flatMap GA.txt
/-- The places of a name up to which a piece leads. -/
def gAd (n : List Nat) : GA → (Nat → Bool) → Nat → Bool
  | .star, f, k => (List.range (k + 1)).any f
  | a, f, 0 => false
  | a, f, k + 1 => f k && a.fit (n.getD k 0)
def gLd (n : List Nat) : Tr → (Nat → Bool) → (Nat → Bool)
  | .nil, f => f
  | .atom a r, f => gLd n r (gAd n a f)
  | .br ws r, f => gLd n r (gLd n ws f)
  | .none, _ => fun _ => false
  | .way p ws, f => fun k => gLd n p f k || gLd n ws f k
def gE0 (k : Nat) : Bool := decide (k = 0)
/-- What is wrong with a pattern; 0: nothing. -/
def gErr (s : List Nat) : Int :=
  if 128 < s.length then 12 else
  match gPr false s with
  | none => 10
  | some (l, r) => if l.len = 0 ∨ r ≠ [] then 10 else if 4 < gDp l then 19 else if 64 < gCnt l 1 then 11 else 0
def gTree (s : List Nat) : Tr := match gPr false s with | none => .nil | some (l, _) => l
def gMatch (s n : List Nat) : Bool := if gErr s = 0 then gLd n (gTree s) gE0 n.length else false
/-! ### How many -/
theorem gTx_length : ∀ (t : Tr), (Good false t → ∀ acc, (gTx t acc).length = acc.length * gNm t) ∧ (Good true t → (gTx t []).length = gNm t)
  | .nil => ⟨fun _ acc => by show acc.length = acc.length * 1; omega, fun h => h.elim⟩
  | .none => ⟨fun h => h.elim, fun _ => rfl⟩
  | .atom a r => ⟨fun h acc => by
      show (gTx r (acc.map (· ++ a.txt))).length = acc.length * gNm r
      rw [(gTx_length r).1 h.2, List.length_map], fun h => h.elim⟩
  | .br ws r => ⟨fun h acc => by
      show (gTx r (acc.flatMap fun x => (gTx ws []).map (x ++ ·))).length = acc.length * (gNm ws * gNm r)
      rw [(gTx_length r).1 h.2.2]
      have e : ∀ (acc : List (List Nat)), (acc.flatMap fun x => (gTx ws []).map (x ++ ·)).length = acc.length * gNm ws := by
        intro acc
        induction acc with
        | nil => simp
        | cons x acc ih => rw [List.flatMap_cons, List.length_append, ih, List.length_map, (gTx_length ws).2 h.1, List.length_cons, Nat.add_mul]; omega
      rw [e, Nat.mul_assoc], fun h => h.elim⟩
  | .way p ws => ⟨fun h => h.elim, fun h => by
      show (gTx p [[]] ++ gTx ws []).length = gNm p + gNm ws
      rw [List.length_append, (gTx_length p).1 h.1, (gTx_length ws).2 h.2]
      simp⟩
theorem gNm_pos : ∀ (t : Tr), (Good false t → 1 ≤ gNm t) ∧ (Good true t → t ≠ .none → 1 ≤ gNm t)
  | .nil => ⟨fun _ => Nat.le_refl _, fun h => h.elim⟩
  | .none => ⟨fun h => h.elim, fun _ h => absurd rfl h⟩
  | .atom a r => ⟨fun h => (gNm_pos r).1 h.2, fun h => h.elim⟩
  | .br ws r => ⟨fun h => Nat.mul_le_mul ((gNm_pos ws).2 h.1 h.2.1) ((gNm_pos r).1 h.2.2), fun h => h.elim⟩
  | .way p ws => ⟨fun h => h.elim, fun h _ => Nat.le_trans ((gNm_pos p).1 h.1) (Nat.le_add_right _ _)⟩
theorem gCnt_num : ∀ (t : Tr), (Good false t → ∀ n, n ≤ 65 → gCnt t n = min (n * gNm t) 65) ∧ (Good true t → min (gCnt t 0) 65 = min (gNm t) 65)
  | .nil => ⟨fun _ n hn => by show n = min (n * 1) 65; omega, fun h => h.elim⟩
  | .none => ⟨fun h => h.elim, fun _ => rfl⟩
  | .atom a r => ⟨fun h n hn => (gCnt_num r).1 h.2 n hn, fun h => h.elim⟩
  | .br ws r => ⟨fun h n hn => by
      show gCnt r (min (n * gCnt ws 0) 65) = min (n * (gNm ws * gNm r)) 65
      rw [(gCnt_num r).1 h.2.2 _ (Nat.min_le_right _ _)]
      have hw := (gCnt_num ws).2 h.1
      have hp := (gNm_pos r).1 h.2.2
      have e1 : min (n * gCnt ws 0) 65 = min (n * gNm ws) 65 := by
        rcases Nat.eq_zero_or_pos n with rfl | hn0
        · simp
        · by_cases hc : gCnt ws 0 < 65
          · rw [show gNm ws = gCnt ws 0 by omega]
          · have a1 : 65 ≤ gNm ws := by omega
            have a2 : 1 * 65 ≤ n * gNm ws := Nat.mul_le_mul hn0 a1
            have a3 : 1 * 65 ≤ n * gCnt ws 0 := Nat.mul_le_mul hn0 (by omega)
            omega
      rw [e1]
      by_cases hc : n * gNm ws ≤ 65
      · rw [Nat.min_eq_left hc, Nat.mul_assoc]
      · have a1 : 65 * 1 ≤ n * gNm ws * gNm r := Nat.mul_le_mul (by omega) hp
        have a2 : 65 * 1 ≤ 65 * gNm r := Nat.mul_le_mul (Nat.le_refl _) hp
        rw [← Nat.mul_assoc, Nat.min_eq_right (by omega : 65 ≤ n * gNm ws)]
        omega, fun h => h.elim⟩
  | .way p ws => ⟨fun h => h.elim, fun h => by
      show min (gCnt p 1 + gCnt ws 0) 65 = min (gNm p + gNm ws) 65
      have h1 := (gCnt_num p).1 h.1 1 (by omega)
      have h2 := (gCnt_num ws).2 h.2
      omega⟩
theorem gCnt_le : ∀ (t : Tr), Good false t → ∀ n, n ≤ 65 → gCnt t n ≤ 65 := fun t h n hn => by
  rw [(gCnt_num t).1 h n hn]
  exact Nat.min_le_right _ _
/-! ### Depth, length -/
theorem gStr_len : ∀ (t : Tr), (Good false t → gDp t ≤ (gStr t).length ∧ t.len ≤ (gStr t).length) ∧ (Good true t → t ≠ .none → gDp t ≤ (gStr t).length ∧ t.len ≤ (gStr t).length)
  | .nil => ⟨fun _ => ⟨Nat.zero_le _, Nat.zero_le _⟩, fun h => h.elim⟩
  | .none => ⟨fun h => h.elim, fun _ h => absurd rfl h⟩
  | .atom a r => ⟨fun h => by
      have h1 := (gStr_len r).1 h.2
      obtain ⟨c, u, he, _⟩ := good_txt h.1
      have h2 := congrArg List.length he
      show gDp r ≤ (a.txt ++ gStr r).length ∧ r.len + 1 ≤ (a.txt ++ gStr r).length
      rw [List.length_append]
      simp only [List.length_cons] at h2
      omega, fun h => h.elim⟩
  | .br ws r => ⟨fun h => by
      have h1 := (gStr_len r).1 h.2.2
      have h2 := (gStr_len ws).2 h.1 h.2.1
      show max (gDp ws + 1) (gDp r) ≤ (123 :: (gStr ws ++ gStr r)).length ∧ r.len + 1 ≤ (123 :: (gStr ws ++ gStr r)).length
      rw [List.length_cons, List.length_append]
      omega, fun h => h.elim⟩
  | .way p ws => ⟨fun h => h.elim, fun h _ => by
      have h1 := (gStr_len p).1 h.1
      by_cases hn : ws = .none
      · subst hn
        show max (gDp p) 0 ≤ (gStr p ++ [125]).length ∧ 0 + 1 ≤ (gStr p ++ [125]).length
        rw [List.length_append, List.length_singleton]
        omega
      · have h2 := (gStr_len ws).2 h.2 hn
        rw [gStr_more hn h.2, List.length_append, List.length_cons]
        show max (gDp p) (gDp ws) ≤ _ ∧ ws.len + 1 ≤ _
        omega⟩
/-! ### Which texts -/
theorem gTx_mem : ∀ (t : Tr), (Good false t → ∀ acc x, x ∈ gTx t acc ↔ ∃ a ∈ acc, ∃ e ∈ gEx t, x = a ++ gTxt e) ∧ (Good true t → ∀ x, x ∈ gTx t [] ↔ ∃ e ∈ gEx t, x = gTxt e)
  | .nil => ⟨fun _ acc x => by
      show x ∈ acc ↔ ∃ a ∈ acc, ∃ e ∈ [[]], x = a ++ gTxt e
      refine ⟨fun h => ⟨x, h, [], by simp, by simp [gTxt]⟩, fun ⟨a, ha, e, he, hx⟩ => ?_⟩
      obtain rfl : e = [] := by simpa using he
      rw [hx]
      simpa [gTxt] using ha, fun h => h.elim⟩
  | .none => ⟨fun h => h.elim, fun _ x => by show x ∈ [] ↔ ∃ e ∈ [], _; simp⟩
  | .atom a r => ⟨fun h acc x => by
      show x ∈ gTx r (acc.map (· ++ a.txt)) ↔ ∃ b ∈ acc, ∃ e ∈ (gEx r).map (a :: ·), x = b ++ gTxt e
      rw [(gTx_mem r).1 h.2]
      constructor
      · rintro ⟨y, hy, e, he, rfl⟩
        obtain ⟨b, hb, rfl⟩ := List.mem_map.1 hy
        exact ⟨b, hb, a :: e, List.mem_map.2 ⟨e, he, rfl⟩, by simp [gTxt]⟩
      · rintro ⟨b, hb, e, he, rfl⟩
        obtain ⟨e', he', rfl⟩ := List.mem_map.1 he
        exact ⟨b ++ a.txt, List.mem_map.2 ⟨b, hb, rfl⟩, e', he', by simp [gTxt]⟩, fun h => h.elim⟩
  | .br ws r => ⟨fun h acc x => by
      show x ∈ gTx r (acc.flatMap fun x => (gTx ws []).map (x ++ ·)) ↔ ∃ b ∈ acc, ∃ e ∈ (gEx ws).flatMap fun e => (gEx r).map (e ++ ·), x = b ++ gTxt e
      rw [(gTx_mem r).1 h.2.2]
      constructor
      · rintro ⟨y, hy, e, he, rfl⟩
        obtain ⟨b, hb, hy⟩ := List.mem_flatMap.1 hy
        obtain ⟨z, hz, rfl⟩ := List.mem_map.1 hy
        obtain ⟨e', he', rfl⟩ := ((gTx_mem ws).2 h.1 z).1 hz
        exact ⟨b, hb, e' ++ e, List.mem_flatMap.2 ⟨e', he', List.mem_map.2 ⟨e, he, rfl⟩⟩, by simp [gTxt]⟩
      · rintro ⟨b, hb, e, he, rfl⟩
        obtain ⟨e', he', hm⟩ := List.mem_flatMap.1 he
        obtain ⟨e2, he2, rfl⟩ := List.mem_map.1 hm
        exact ⟨b ++ gTxt e', List.mem_flatMap.2 ⟨b, hb, List.mem_map.2 ⟨gTxt e', ((gTx_mem ws).2 h.1 _).2 ⟨e', he', rfl⟩, rfl⟩⟩, e2, he2, by simp [gTxt]⟩, fun h => h.elim⟩
  | .way p ws => ⟨fun h => h.elim, fun h x => by
      show x ∈ gTx p [[]] ++ gTx ws [] ↔ ∃ e ∈ gEx p ++ gEx ws, x = gTxt e
      rw [List.mem_append, (gTx_mem p).1 h.1, (gTx_mem ws).2 h.2]
      constructor
      · rintro (⟨b, hb, e, he, rfl⟩ | ⟨e, he, rfl⟩)
        · obtain rfl : b = [] := by simpa using hb
          exact ⟨e, List.mem_append.2 (.inl he), by simp⟩
        · exact ⟨e, List.mem_append.2 (.inr he), rfl⟩
      · rintro ⟨e, he, rfl⟩
        rcases List.mem_append.1 he with he | he
        · exact .inl ⟨[], by simp, e, he, by simp⟩
        · exact .inr ⟨e, he, rfl⟩⟩
theorem gEx_good : ∀ (t : Tr), (Good false t ∨ Good true t) → ∀ e ∈ gEx t, ∀ a ∈ e, a.Good
  | .nil, _, e, he, a, ha => by
    obtain rfl : e = [] := by simpa [gEx] using he
    cases ha
  | .none, _, e, he, a, ha => by cases he
  | .atom b r, h, e, he, a, ha => by
    have h : b.Good ∧ Good false r := h.resolve_right (fun h => h.elim)
    obtain ⟨e', he', rfl⟩ := List.mem_map.1 he
    rcases List.mem_cons.1 ha with rfl | ha
    · exact h.1
    · exact gEx_good r (.inl h.2) e' he' a ha
  | .br ws r, h, e, he, a, ha => by
    have h : Good true ws ∧ ws ≠ .none ∧ Good false r := h.resolve_right (fun h => h.elim)
    obtain ⟨e', he', hm⟩ := List.mem_flatMap.1 he
    obtain ⟨e2, he2, rfl⟩ := List.mem_map.1 hm
    rcases List.mem_append.1 ha with ha | ha
    · exact gEx_good ws (.inr h.1) e' he' a ha
    · exact gEx_good r (.inl h.2.2) e2 he2 a ha
  | .way p ws, h, e, he, a, ha => by
    have h : Good false p ∧ Good true ws := h.resolve_left (fun h => h.elim)
    rcases List.mem_append.1 he with he | he
    · exact gEx_good p (.inl h.1) e he a ha
    · exact gEx_good ws (.inr h.2) e he a ha
theorem gEx_len : ∀ (t : Tr), (Good false t ∨ Good true t) → ∀ e ∈ gEx t, (gTxt e).length ≤ (gStr t).length
  | .nil, _, e, he => by
    obtain rfl : e = [] := by simpa [gEx] using he
    exact Nat.le_refl _
  | .none, _, e, he => by cases he
  | .atom b r, h, e, he => by
    have h : b.Good ∧ Good false r := h.resolve_right (fun h => h.elim)
    obtain ⟨e', he', rfl⟩ := List.mem_map.1 he
    have := gEx_len r (.inl h.2) e' he'
    show (b.txt ++ gTxt e').length ≤ (b.txt ++ gStr r).length
    rw [List.length_append, List.length_append]
    omega
  | .br ws r, h, e, he => by
    have h : Good true ws ∧ ws ≠ .none ∧ Good false r := h.resolve_right (fun h => h.elim)
    obtain ⟨e', he', hm⟩ := List.mem_flatMap.1 he
    obtain ⟨e2, he2, rfl⟩ := List.mem_map.1 hm
    have h1 := gEx_len ws (.inr h.1) e' he'
    have h2 := gEx_len r (.inl h.2.2) e2 he2
    show (List.flatMap _ (e' ++ e2)).length ≤ (123 :: (gStr ws ++ gStr r)).length
    rw [List.flatMap_append, List.length_append, List.length_cons, List.length_append]
    unfold gTxt at h1 h2
    omega
  | .way p ws, h, e, he => by
    have h : Good false p ∧ Good true ws := h.resolve_left (fun h => h.elim)
    have hl : (gStr (.way p ws)).length ≥ (gStr p).length + (gStr ws).length := by
      by_cases hn : ws = .none
      · subst hn
        show (gStr p ++ [125]).length ≥ (gStr p).length + 0
        rw [List.length_append]
        omega
      · rw [gStr_more hn h.2, List.length_append, List.length_cons]
        omega
    rcases List.mem_append.1 he with he | he
    · have := gEx_len p (.inl h.1) e he
      omega
    · have := gEx_len ws (.inr h.2) e he
      omega
/-- Pieces without braces as a tree. -/
def ofA : List GA → Tr
  | [] => .nil
  | a :: e => .atom a (ofA e)
theorem ofA_str : ∀ (e : List GA), gStr (ofA e) = gTxt e
  | [] => rfl
  | a :: e => by
    show a.txt ++ gStr (ofA e) = a.txt ++ gTxt e
    rw [ofA_str e]
theorem ofA_good : ∀ (e : List GA), (∀ a ∈ e, a.Good) → Good false (ofA e)
  | [], _ => trivial
  | a :: e, h => ⟨h a (by simp), ofA_good e fun b hb => h b (by simp [hb])⟩
theorem ofA_dp : ∀ (e : List GA), gDp (ofA e) = 0
  | [] => rfl
  | a :: e => ofA_dp e
theorem ofA_cnt : ∀ (e : List GA) (n : Nat), gCnt (ofA e) n = n
  | [], _ => rfl
  | a :: e, n => ofA_cnt e n
theorem ofA_len : ∀ (e : List GA), (ofA e).len = e.length
  | [] => rfl
  | a :: e => congrArg (· + 1) (ofA_len e)
theorem gPr_ofA {e : List GA} (h : ∀ a ∈ e, a.Good) : gPr false (gTxt e) = some (ofA e, []) := by
  have := (gPr_str (ofA e)).1 (ofA_good e h) [] (.inl rfl)
  rwa [List.append_nil, ofA_str] at this
theorem gErr_ofA {e : List GA} (h : ∀ a ∈ e, a.Good) (he : e ≠ []) (hl : (gTxt e).length ≤ 128) : gErr (gTxt e) = 0 ∧ gTree (gTxt e) = ofA e := by
  unfold gErr gTree
  rw [gPr_ofA h]
  simp only
  rw [if_neg (by omega), ofA_len, ofA_dp, ofA_cnt, if_neg (by simp only [ne_eq, not_true, or_false]; intro e'; exact he (List.eq_nil_of_length_eq_zero e')), if_neg (by omega), if_neg (by omega)]
  exact ⟨rfl, trivial⟩
/-! ### Which places -/
theorem gAd_or (n : List Nat) (a : GA) (α : Type) (l : List α) (F : α → Nat → Bool) (k : Nat) : gAd n a (fun j => l.any fun x => F x j) k = l.any fun x => gAd n a (F x) k := by
  cases a with
  | star =>
    show (List.range (k + 1)).any (fun j => l.any fun x => F x j) = l.any fun x => (List.range (k + 1)).any (F x)
    rw [Bool.eq_iff_iff]
    simp only [List.any_eq_true]
    constructor
    · rintro ⟨j, hj, x, hx, h⟩; exact ⟨x, hx, j, hj, h⟩
    · rintro ⟨x, hx, j, hj, h⟩; exact ⟨j, hj, x, hx, h⟩
  | one c =>
    cases k with
    | zero => show false = l.any fun _ => false; simp
    | succ k =>
      show ((l.any fun x => F x k) && _) = l.any fun x => F x k && _
      rw [Bool.eq_iff_iff]
      simp only [List.any_eq_true, Bool.and_eq_true]
      exact ⟨fun ⟨⟨x, hx, h⟩, h2⟩ => ⟨x, hx, h, h2⟩, fun ⟨x, hx, h, h2⟩ => ⟨⟨x, hx, h⟩, h2⟩⟩
  | each =>
    cases k with
    | zero => show false = l.any fun _ => false; simp
    | succ k =>
      show ((l.any fun x => F x k) && _) = l.any fun x => F x k && _
      rw [Bool.eq_iff_iff]
      simp only [List.any_eq_true, Bool.and_eq_true]
      exact ⟨fun ⟨⟨x, hx, h⟩, h2⟩ => ⟨x, hx, h, h2⟩, fun ⟨x, hx, h, h2⟩ => ⟨⟨x, hx, h⟩, h2⟩⟩
  | cls t rs =>
    cases k with
    | zero => show false = l.any fun _ => false; simp
    | succ k =>
      show ((l.any fun x => F x k) && _) = l.any fun x => F x k && _
      rw [Bool.eq_iff_iff]
      simp only [List.any_eq_true, Bool.and_eq_true]
      exact ⟨fun ⟨⟨x, hx, h⟩, h2⟩ => ⟨x, hx, h, h2⟩, fun ⟨x, hx, h, h2⟩ => ⟨⟨x, hx, h⟩, h2⟩⟩
theorem gLd_or (n : List Nat) : ∀ (e : List GA) (α : Type) (l : List α) (F : α → Nat → Bool), gLd n (ofA e) (fun j => l.any fun x => F x j) = fun k => l.any fun x => gLd n (ofA e) (F x) k
  | [], _, _, _ => rfl
  | a :: e, α, l, F => by
    show gLd n (ofA e) (gAd n a (fun j => l.any fun x => F x j)) = fun k => l.any fun x => gLd n (ofA e) (gAd n a (F x)) k
    rw [show gAd n a (fun j => l.any fun x => F x j) = fun k => l.any fun x => gAd n a (F x) k from funext (gAd_or n a α l F)]
    exact gLd_or n e α l _
theorem ofA_app (n : List Nat) : ∀ (e e' : List GA) (f : Nat → Bool), gLd n (ofA (e ++ e')) f = gLd n (ofA e') (gLd n (ofA e) f)
  | [], _, _ => rfl
  | a :: e, e', f => ofA_app n e e' _
/-- A pattern fits what one of its expanded ones fits. -/
theorem gLd_ex (n : List Nat) : ∀ (t : Tr), (Good false t ∨ Good true t) → ∀ f, gLd n t f = fun k => (gEx t).any fun e => gLd n (ofA e) f k
  | .nil, _, f => by funext k; show f k = ([[]] : List (List GA)).any _; simp [ofA, gLd]
  | .none, _, f => by funext k; show false = ([] : List (List GA)).any _; simp
  | .atom a r, h, f => by
    have h : a.Good ∧ Good false r := h.resolve_right (fun h => h.elim)
    funext k
    show gLd n r (gAd n a f) k = ((gEx r).map (a :: ·)).any _
    rw [gLd_ex n r (.inl h.2), List.any_map]
    rfl
  | .br ws r, h, f => by
    have h : Good true ws ∧ ws ≠ .none ∧ Good false r := h.resolve_right (fun h => h.elim)
    funext k
    show gLd n r (gLd n ws f) k = ((gEx ws).flatMap fun e => (gEx r).map (e ++ ·)).any _
    rw [gLd_ex n r (.inl h.2.2), gLd_ex n ws (.inr h.1), Bool.eq_iff_iff]
    simp only [List.any_eq_true, List.mem_flatMap, List.mem_map]
    constructor
    · rintro ⟨e, he, hx⟩
      rw [gLd_or] at hx
      simp only [List.any_eq_true] at hx
      obtain ⟨e', he', hx⟩ := hx
      exact ⟨e' ++ e, ⟨e', he', e, he, rfl⟩, by rw [ofA_app]; exact hx⟩
    · rintro ⟨_, ⟨e', he', e, he, rfl⟩, hx⟩
      rw [ofA_app] at hx
      refine ⟨e, he, ?_⟩
      rw [gLd_or]
      simp only [List.any_eq_true]
      exact ⟨e', he', hx⟩
  | .way p ws, h, f => by
    have h : Good false p ∧ Good true ws := h.resolve_left (fun h => h.elim)
    funext k
    show (gLd n p f k || gLd n ws f k) = (gEx p ++ gEx ws).any _
    rw [gLd_ex n p (.inl h.1), gLd_ex n ws (.inr h.2), List.any_append]
end Go.Proofs.YtbfbjalnahngjaaGreatDoor
