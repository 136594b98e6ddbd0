/-
  Small facts for the contracts of layer 1: answers, blocks of two words, and worlds in which nothing that was there has turned.
-/
import Derived.Shelf.Bits.Mul64
import Derived.Test.YtkgajlklhcmmcaaProg
import Derived.Test.YtkgajlklhcmmcaaMath
import Derived.Test.YtkgajlklhcmmcaaMathB
import Derived.Test.YtkgajlklhcmmcaaMathD
import Derived.WalkKit
import Derived.WalkSmall
import Derived.Lib.Hide
import Derived.Laws.Externs
import Derived.Laws.Bits64b
import Derived.Deep.DeepCutAuto
import Derived.Deep.RegionWith
import Derived.Deep.CutBlock
import Derived.Deep.QuietTactic
import Derived.BigQuiet
import Derived.BigRegion
namespace Go.Proofs.Ytkgajlklhcmmcaa
open Go.RowKit

theorem ret_u64 {a b : Int} (h : a = b) : Ending.returned (.int .u64 a) = .returned (.int .u64 b) := by rw [h]
theorem ret_wide {a b c d : Int} (h : a = c) (k : b = d) : Ending.returned (.agg #[.int .u64 a, .int .u64 b]) = .returned (.agg #[.int .u64 c, .int .u64 d]) := by rw [h, k]
theorem ret_wide_b {a b c d : Int} {p q : Bool} (h : a = c) (k : b = d) (l : p = q) :
    Ending.returned (.tuple #[.agg #[.int .u64 a, .int .u64 b], .bool p]) = .returned (.tuple #[.agg #[.int .u64 c, .int .u64 d], .bool q]) := by rw [h, k, l]

theorem and_bit (a k : Nat) (ha : a < 18446744073709551616) : bits .and .u64 ((a : Int) / 2 ^ k) 1 = ((a / 2 ^ k % 2 : Nat) : Int) := by
  have hq : a / 2 ^ k ≤ a := Nat.div_le_self _ _
  have e : (a : Int) / 2 ^ k = ((a / 2 ^ k : Nat) : Int) := by simp
  rw [e]
  generalize a / 2 ^ k = q at *
  rw [and_one_u64 (q : Int) (by omega) (by omega)]
  omega

theorem or_wrap (a k : Nat) (ha : a < 18446744073709551616) (hk : k < 64) : bits .or .u64 (a : Int) (IntKind.u64.wrap (2 ^ k)) = ((a ||| 2 ^ k : Nat) : Int) := by
  have hp := pow_lt_64 hk
  have h := bits_or_u64_nat a (2 ^ k) ha hp
  have e : IntKind.u64.wrap ((2 : Int) ^ k) = ((2 ^ k : Nat) : Int) := by
    rw [show (2 : Int) ^ k = ((2 ^ k : Nat) : Int) from by simp]
    exact Mul64.wrapN _ hp
  rw [e]
  exact h


theorem hi0 : ((hiOf 0 : Nat) : Int) = 0 := rfl
theorem lo0 : ((loOf 0 : Nat) : Int) = 0 := rfl
theorem bcell {W w1 : World} (hb : Below W.heap.size W w1) : (∀ b o, b < W.heap.size → w1.cell? ⟨b, o, none⟩ = W.cell? ⟨b, o, none⟩) ∧ (∀ b o, b < W.heap.size → w1.frozen? ⟨b, o, none⟩ = W.frozen? ⟨b, o, none⟩) :=
  ⟨fun b o h => hb.cell (p := ⟨b, o, none⟩) h, fun b o h => hb.frozen (p := ⟨b, o, none⟩) h⟩

theorem below_next {a b c : World} (h : Below a.heap.size a b) (k : Below b.heap.size b c) : Below a.heap.size a c := h.trans (k.mono h.size)
/-- A block of two words: what it holds, and that it may be written. -/
structure Has (w : World) (b : Nat) (v : Nat) : Prop where
  lt : b < w.heap.size
  hi : w.cell? ⟨b, 0, none⟩ = some (.int .u64 (hiOf v : Nat))
  lo : w.cell? ⟨b, 1, none⟩ = some (.int .u64 (loOf v : Nat))
  fh : w.frozen? ⟨b, 0, none⟩ = false
  fl : w.frozen? ⟨b, 1, none⟩ = false
theorem Has.below {w w1 : World} {b v : Nat} (h : Has w b v) (hb : Below w.heap.size w w1) : Has w1 b v :=
  ⟨Nat.lt_of_lt_of_le h.lt hb.size, (hb.cell (p := ⟨b, 0, none⟩) h.lt).trans h.hi, (hb.cell (p := ⟨b, 1, none⟩) h.lt).trans h.lo, (hb.frozen (p := ⟨b, 0, none⟩) h.lt).trans h.fh, (hb.frozen (p := ⟨b, 1, none⟩) h.lt).trans h.fl⟩

theorem Has.other {w : World} {b v : Nat} (h : Has w b v) {a : Addr} (ha : a.block ≠ b) (u : Value) : Has (w.setCell a u) b v := by
  have e : (w.setCell a u).heap[b]? = w.heap[b]? := Below.heap_setCell _ _ _ _ (fun e => ha e.symm)
  exact ⟨by simpa [World.setCell] using h.lt, (World.cell?_of_block (w := w) (a := ⟨b, 0, none⟩) e).trans h.hi, (World.cell?_of_block (w := w) (a := ⟨b, 1, none⟩) e).trans h.lo,
    (World.frozen?_of_block (w := w) (a := ⟨b, 0, none⟩) e).trans h.fh, (World.frozen?_of_block (w := w) (a := ⟨b, 1, none⟩) e).trans h.fl⟩
theorem Has.put {w : World} {b v : Nat} (h : Has w b v) (x : Nat) : Has ((w.setCell ⟨b, 0, none⟩ (.int .u64 (hiOf x : Nat))).setCell ⟨b, 1, none⟩ (.int .u64 (loOf x : Nat))) b x := by
  obtain ⟨h0, h1, h2, h3, h4⟩ := h
  exact ⟨by simpa [World.setCell] using h0, by go_simp, by go_simp, by go_simp, by go_simp⟩
theorem Has.put_other {w : World} {b b' v : Nat} (h : Has w b' v) (hne : b ≠ b') (p q : Value) : Has ((w.setCell ⟨b, 0, none⟩ p).setCell ⟨b, 1, none⟩ q) b' v :=
  (h.other (a := ⟨b, 0, none⟩) hne p).other (a := ⟨b, 1, none⟩) hne q
theorem below_put {B b : Nat} {a w : World} (h : Below B a w) (hB : B ≤ b) (p q : Value) : Below B a ((w.setCell ⟨b, 0, none⟩ p).setCell ⟨b, 1, none⟩ q) :=
  (h.setCell (p := ⟨b, 0, none⟩) hB p).setCell (p := ⟨b, 1, none⟩) hB q

theorem wrap_sum3 (a b c : Nat) (h : a + b + c < 18446744073709551616) : IntKind.u64.wrap (IntKind.u64.wrap ((a : Int) + b) + c) = ((a + b + c : Nat) : Int) := by
  rw [IntKind.wrap_u64, IntKind.wrap_u64]; omega


theorem Has.alloc {w : World} {b v : Nat} (h : Has w b v) (o : Obj) : Has (w.alloc o) b v := h.below ((Below.refl _ _).alloc (Nat.le_refl _) o)


theorem twice_or (r b : Nat) (_hr : r < 18446744073709551616) (hb : b ≤ 1) : bits .or .u64 (IntKind.u64.wrap ((r : Int) * 2)) (b : Int) = (((2 * r + b) % 18446744073709551616 : Nat) : Int) := by
  have h1 : IntKind.u64.wrap ((r : Int) * 2) = ((r * 2 % 18446744073709551616 : Nat) : Int) := Mul64.wrapM (r * 2)
  rw [h1, bits_or_u64_nat _ _ (by omega) (by omega)]
  have e : r * 2 % 18446744073709551616 = 2 ^ 1 * (r % 9223372036854775808) := by omega
  rw [e, or_low (by omega)]
  congr 1
  omega
theorem ret_div {a b c d : Int} {r r' : Int} {k : IntKind} {x : Int} (h : a = c) (k' : b = d) (l : r = r') :
    Ending.returned (.tuple #[.agg #[.int .u64 a, .int .u64 b], .int .u64 r, .int k x]) = .returned (.tuple #[.agg #[.int .u64 c, .int .u64 d], .int .u64 r', .int k x]) := by rw [h, k', l]

theorem ret_rnd {a b x y : Int} (h : a = b) (k : x = y) : Ending.returned (.tuple #[.int .u64 a, .int .i64 x]) = .returned (.tuple #[.int .u64 b, .int .i64 y]) := by rw [h, k]
theorem below_box {w w1 : World} {o : Obj} (hb : Below (w.alloc o).heap.size (w.alloc o) w1) : Below w.heap.size w w1 := ((Below.refl _ _).alloc (Nat.le_refl _) _).trans (hb.mono (by simp))

/-- What the rounding comes to, a way each. -/
theorem rnd_up {v d q r : Nat} (hq : v / d = q) (hr : v % d = r) (h : d - r ≤ r) : (hiOf (q + 1) = 0 → rndV v d = loOf (q + 1) ∧ rndE v d = 0) ∧ (hiOf (q + 1) ≠ 0 → rndV v d = 0 ∧ rndE v d = 3) := by
  subst hq hr
  unfold rndV rndE upN
  rw [if_pos h]
  exact ⟨fun h1 => ⟨if_pos h1, if_pos h1⟩, fun h1 => ⟨if_neg h1, if_neg h1⟩⟩
theorem rnd_down {v d q r : Nat} (hq : v / d = q) (hr : v % d = r) (h : ¬ d - r ≤ r) : (hiOf q = 0 → rndV v d = loOf q ∧ rndE v d = 0) ∧ (hiOf q ≠ 0 → rndV v d = 0 ∧ rndE v d = 3) := by
  subst hq hr
  unfold rndV rndE upN
  rw [if_neg h]
  exact ⟨fun h1 => ⟨if_pos h1, if_pos h1⟩, fun h1 => ⟨if_neg h1, if_neg h1⟩⟩

theorem not_less (v n : Nat) : (!decide (v < n)) = decide (n ≤ v) := by rw [Bool.eq_iff_iff]; simp


theorem ret_two {a b c d : Int} (h : a = c) (k : b = d) : Ending.returned (.tuple #[.int .u64 a, .int .u64 b]) = .returned (.tuple #[.int .u64 c, .int .u64 d]) := by rw [h, k]

theorem ival {a b : Int} (h : a = b) : Value.int .u64 a = .int .u64 b := by rw [h]
theorem brk {u y1 y0 c q r N Y : Nat} {A C : Int} (D : Digit u y1 y0 c) (h0 : 0 < q) (he : (q - 1) * y1 + (r + y1) = u) (hq : q - 1 ≤ 4294967296) (hu : u * 4294967296 + c < (q - 1 + 1) * (y1 * 4294967296 + y0))
    (hA : A = q) (hC : C = r) (hx : 4294967296 ≤ C + (y1 : Int)) (hN : N = (u * 4294967296 + c) / Y) (hY : Y = y1 * 4294967296 + y0) : A - 1 = (N : Int) := by
  have h := guess_break D he hq (by omega) hu
  rw [hN, hY, h]
  omega
theorem digit_lt {U L Y Q : Nat} (h : U < Y) (hQ : Q = (U * 4294967296 + L) / Y) (hY : 0 < Y) (hL : L < 4294967296) : Q ≤ 4294967295 := by
  have : Q < 4294967296 := by
    rw [hQ, Nat.div_lt_iff_lt_mul hY]
    have : (U + 1) * 4294967296 ≤ Y * 4294967296 := Nat.mul_le_mul_right _ h
    rw [Nat.mul_comm 4294967296]
    omega
  omega
theorem sub_wrap {U L Y Q V P : Nat} (hY : Y < 18446744073709551616) (hY0 : 0 < Y) (hQ : Q = (U * 4294967296 + L) / Y) (hV : V = (U * 4294967296 + L) % Y) (hP : P = Q * Y % 18446744073709551616) :
    IntKind.u64.wrap (IntKind.u64.wrap (IntKind.u64.wrap ((U : Int) * 4294967296) + L) - P) = (V : Int) := by
  have e : Q * Y + V = U * 4294967296 + L := by rw [hQ, hV, Nat.mul_comm]; exact Nat.div_add_mod _ _
  have hVY : V < Y := by rw [hV]; exact Nat.mod_lt _ hY0
  rw [IntKind.wrap_u64, IntKind.wrap_u64, IntKind.wrap_u64]
  clear hQ hV
  generalize Q * Y = X at *
  omega

theorem long_of {h l d q1 r q0 x : Nat} (e1 : d * q1 + r = h) (e2 : d * q0 + x = r * 18446744073709551616 + l) : d * (q1 * 18446744073709551616 + q0) + x = h * 18446744073709551616 + l := by
  rw [Nat.mul_add, ← Nat.mul_assoc]
  omega
theorem long_div {v d : Nat} (hv : v < M) (hd0 : 0 < d) (_hd : d < 18446744073709551616) :
    hiOf v / d = hiOf (v / d) ∧ (hiOf v % d * 18446744073709551616 + loOf v) / d = loOf (v / d) ∧ (hiOf v % d * 18446744073709551616 + loOf v) % d = v % d := by
  have hvl := val_hl hv
  have hl := loOf_lt v
  have hh := hiOf_lt v
  generalize hiOf v = h at *
  generalize loOf v = l at *
  have e1 : d * (h / d) + h % d = h := Nat.div_add_mod _ _
  have r1 : h % d < d := Nat.mod_lt _ hd0
  have e2 : d * ((h % d * 18446744073709551616 + l) / d) + (h % d * 18446744073709551616 + l) % d = h % d * 18446744073709551616 + l := Nat.div_add_mod _ _
  have r2 : (h % d * 18446744073709551616 + l) % d < d := Nat.mod_lt _ hd0
  have b2 : (h % d * 18446744073709551616 + l) / d < 18446744073709551616 := by
    rw [Nat.div_lt_iff_lt_mul hd0]
    have : (h % d + 1) * 18446744073709551616 ≤ d * 18446744073709551616 := Nat.mul_le_mul_right _ r1
    rw [Nat.mul_comm 18446744073709551616]
    omega
  have b1 : h / d < 18446744073709551616 := Nat.lt_of_le_of_lt (Nat.div_le_self _ _) hh
  obtain ⟨a, b⟩ := split_unique hd0 ((long_of e1 e2).trans hvl) r2 rfl
  rw [a, b]
  exact ⟨(hi_val b1 b2).symm, (lo_val b1 b2).symm, rfl⟩

end Go.Proofs.Ytkgajlklhcmmcaa
