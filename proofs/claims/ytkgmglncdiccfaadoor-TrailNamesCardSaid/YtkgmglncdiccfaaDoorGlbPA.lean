/-
  Contracts of the program's functions of layer 15: Byte, take.
-/
import Derived.Test.YtkgmglncdiccfaaDoorGlbBox
import Derived.Test.YtkgmglncdiccfaaDoorShelf
import Derived.Lib.IndexLaws
import Derived.StillTailTactics
import Derived.Deep.Cut
set_option linter.unusedSimpArgs false
set_option linter.unusedVariables false
namespace Go.Proofs.YtkgmglncdiccfaaDoor.GP
open Go.RowKit
def others : ByteArray := ⟨#[95, 45, 58, 37, 35, 64, 43, 61]⟩
set_option maxRecDepth 100000 in
theorem others_all : ∀ c : Fin 256, decide (0 ≤ Lib.indexByte [95, 45, 58, 37, 35, 64, 43, 61] (Int.toNat (c.val : Int)).toUInt8) = [95, 45, 58, 37, 35, 64, 43, 61].contains c.val := by decide
theorem others_is {c : Nat} (h : c < 256) : decide (0 ≤ Lib.indexByte others.data.toList (Int.toNat (c : Int)).toUInt8) = [95, 45, 58, 37, 35, 64, 43, 61].contains c := others_all ⟨c, h⟩
set_option maxRecDepth 100000 in
set_option maxHeartbeats 2000000 in
theorem byte_c (c : Nat) (hc : c < 256) (w : World) :
    Calls Tryd.prog 36 #[.int .u8 (c : Nat)] w fun e w' => e = .returned (.bool (isB c)) ∧ w' = w := by
  have IX := fun (W : World) => Tryd.strings_IndexByte others (c : Nat) W
  have hI := others_is hc
  obtain ⟨q, hq⟩ : ∃ q, Lib.indexByte others.data.toList (Int.toNat (c : Int)).toUInt8 = q := ⟨_, rfl⟩
  rw [hq] at IX hI
  obtain ⟨d, hd⟩ : ∃ d, isB c = d := ⟨_, rfl⟩
  have HD := Lib.hid (show ((decide (97 ≤ c) && decide (c ≤ 122)) || (decide (65 ≤ c) && decide (c ≤ 90)) || (decide (48 ≤ c) && decide (c ≤ 57)) || decide (0 ≤ q)) = d by rw [hI]; exact hd)
  rw [hd]
  clear hd hI hq
  go_enter Tryd.func36, Tryd.ntmps36
  go_wp2_with (go_at_call 46; refine (IX _).mono ?_; rintro e w' ⟨rfl, rfl⟩)
  all_goals (go_ret; refine ⟨congrArg (fun z => Ending.returned (.bool z)) ?_, rfl⟩; rw [← HD.out, Bool.eq_iff_iff]; simp only [Bool.or_eq_true, Bool.and_eq_true, decide_eq_true_eq, Bool.true_and, Bool.and_true, true_iff, iff_true]; omega)
/-! ### The reader -/
/-- A reader: what is left, how many braces are open, and how many were at most. -/
structure Rd (w : World) (b : Nat) (s : List Nat) (o d : Int) : Prop where
  var : DVar w b 3
  at_ : Holds w b [.string (str s), .int .i64 o, .int .i64 d]
theorem Rd.below {w w' : World} {b : Nat} {s : List Nat} {o d : Int} (h : Rd w b s o d) (hb : Below w.heap.size w w') : Rd w' b s o d := ⟨h.var.below hb, h.at_.below hb⟩
theorem Rd.three {w : World} {b : Nat} {s : List Nat} {o d : Int} (h : Rd w b s o d) : w.cell? ⟨b, 0, none⟩ = some (.string (str s)) ∧ w.cell? ⟨b, 1, none⟩ = some (.int .i64 o) ∧ w.cell? ⟨b, 2, none⟩ = some (.int .i64 d) ∧
    w.frozen? ⟨b, 0, none⟩ = false ∧ w.frozen? ⟨b, 1, none⟩ = false ∧ w.frozen? ⟨b, 2, none⟩ = false :=
  ⟨h.at_.three.1, h.at_.three.2.1, h.at_.three.2.2, h.var.f 0 (by decide), h.var.f 1 (by decide), h.var.f 2 (by decide)⟩
theorem Rd.set0 {w : World} {b : Nat} {s s' : List Nat} {o d : Int} (h : Rd w b s o d) : Rd (w.setCell ⟨b, 0, none⟩ (.string (str s'))) b s' o d := ⟨h.var.set _, by simpa using h.at_.set (j := 0) (by simp) (.string (str s'))⟩
theorem Rd.set1 {w : World} {b : Nat} {s : List Nat} {o o' d : Int} (h : Rd w b s o d) : Rd (w.setCell ⟨b, 1, none⟩ (.int .i64 o')) b s o' d := ⟨h.var.set _, by simpa using h.at_.set (j := 1) (by simp) (.int .i64 o')⟩
theorem Rd.set2 {w : World} {b : Nat} {s : List Nat} {o d d' : Int} (h : Rd w b s o d) : Rd (w.setCell ⟨b, 2, none⟩ (.int .i64 d')) b s o d' := ⟨h.var.set _, by simpa using h.at_.set (j := 2) (by simp) (.int .i64 d')⟩
theorem Rd.other {w : World} {b b' j : Nat} {s : List Nat} {o d : Int} (h : Rd w b s o d) (hb : b' ≠ b) (u : Value) : Rd (w.setCell ⟨b', j, none⟩ u) b s o d := ⟨h.var.set _, h.at_.setOther hb u⟩
theorem str_from (s : List Nat) (k : Nat) (h : ∀ c ∈ s, c < 256) : (str s).extract k (str s).size = str (s.drop k) := by
  rw [← str_bs ((str s).extract k (str s).size), bs_from, bs_str h]
theorem str_upto (s : List Nat) (k : Nat) (h : ∀ c ∈ s, c < 256) : (str s).extract 0 k = str (s.take k) := by
  rw [← str_bs ((str s).extract 0 k), bs_upto, bs_str h]
theorem grown_below {w w' w'' : World} {b : Nat} (h : w.grownBy w' (some b)) (k : Below w'.heap.size w' w'') : w.grownBy w'' (some b) :=
  ⟨k.os.trans h.os, k.tape.trans h.tape, k.output.trans h.output, Nat.le_trans h.size k.size, fun i hi hn => (k.block i (Nat.lt_of_lt_of_le hi h.size)).trans (h.block i hi hn)⟩
theorem below_grown {w w' w'' : World} {b : Nat} (h : Below w.heap.size w w') (k : w'.grownBy w'' (some b)) : w.grownBy w'' (some b) :=
  ⟨k.os.trans h.os, k.tape.trans h.tape, k.output.trans h.output, Nat.le_trans h.size k.size, fun i hi hn => (k.block i (Nat.lt_of_lt_of_le hi h.size) hn).trans (h.block i hi)⟩
set_option maxRecDepth 100000 in
set_option maxHeartbeats 2000000 in
theorem take_c (b : Nat) (s : List Nat) (o d : Int) (n : Nat) (hn : n ≤ s.length) (hs : s.length ≤ 1000) (hb : ∀ c ∈ s, c < 256) (w : World) (h : Rd w b s o d) :
    Calls Tryd.prog 56 #[.pointer (some ⟨b, 0, none⟩), .int .i64 (n : Nat)] w fun e w' => e = .returned (.string (str (s.take n))) ∧ w' = w.setCell ⟨b, 0, none⟩ (.string (str (s.drop n))) := by
  obtain ⟨c0, -, -, f0, -, -⟩ := h.three
  have e1 := str_from s n hb
  have e2 := str_upto s n hb
  have hz : (str s).size = s.length := str_size s
  obtain ⟨S, hS⟩ : ∃ S, str s = S := ⟨_, rfl⟩
  rw [hS] at e1 e2 hz c0
  have i1 : (n : Int) ≤ (S.size : Int) := by omega
  obtain ⟨T, hT⟩ : ∃ T, str (s.drop n) = T := ⟨_, rfl⟩
  obtain ⟨U, hU⟩ : ∃ U, str (s.take n) = U := ⟨_, rfl⟩
  rw [hT] at e1 ⊢
  rw [hU] at e2 ⊢
  have E1 := Lib.hid e1; have E2 := Lib.hid e2
  clear hS hz e1 e2 h hT hU
  go_enter Tryd.func56, Tryd.ntmps56
  go_wp2
  go_ret
  exact ⟨congrArg (fun z => Ending.returned (.string z)) E2.out, congrArg (fun z => w.setCell ⟨b, 0, none⟩ (.string z)) E1.out⟩
end Go.Proofs.YtkgmglncdiccfaaDoor.GP
