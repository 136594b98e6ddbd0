/-
  Plain facts for layer 1, the third part: shifts as the program makes them, and the quotient of 128 bits by 64 as math/bits reckons it, two digits of 32 bits.
-/
import Derived.Test.YtodlgbihdehmbaaGreatDoorMathBP
import Derived.Lib.BitFns
import Derived.Shelf.Bits.Mul64
import Derived.Test.YtodlgbihdehmbaaGreatDoorProg
import Derived.Test.YtodlgbihdehmbaaGreatDoorMathP
import Derived.WalkKit
import Derived.WalkSmall
import Derived.Lib.Hide
import Derived.Laws.Externs
import Derived.Laws.Bits64b
import Derived.Deep.DeepCutAuto
import Derived.Deep.RegionWith
import Derived.Deep.CutBlock
import Derived.Deep.QuietTactic
import Derived.BigQuiet
import Derived.BigRegion
namespace Go.Proofs.YtodlgbihdehmbaaGreatDoor

/-- The divisor, its upper half at least 2^31; what is divided, below it. -/
structure Digit (u y1 y0 c : Nat) : Prop where
  h1 : 2147483648 ≤ y1
  h2 : y1 < 4294967296
  h0 : y0 < 4294967296
  hc : c < 4294967296
  hu : u < y1 * 4294967296 + y0

theorem digits_of {T y s u l1 l0 Y q1 r1 q0 r0 : Nat} (hy : 0 < y) (hY : Y = y * 2 ^ s) (hT : T * 2 ^ s = (u * 4294967296 + l1) * 4294967296 + l0)
    (e1 : Y * q1 + r1 = u * 4294967296 + l1) (e0 : Y * q0 + r0 = r1 * 4294967296 + l0) (hr0 : r0 < Y) : q1 * 4294967296 + q0 = T / y ∧ r0 / 2 ^ s = T % y := by
  have hp : 0 < 2 ^ s := Nat.pow_pos (by decide)
  have hYp : 0 < Y := by rw [hY]; exact Nat.mul_pos hy hp
  have ek : Y * (q1 * 4294967296 + q0) + r0 = T * 2 ^ s := by
    rw [hT, Nat.mul_add, ← Nat.mul_assoc]
    omega
  have c1 : T * 2 ^ s / Y = T / y := by rw [hY, Nat.mul_div_mul_right _ _ hp]
  have c2 : T * 2 ^ s % Y = T % y * 2 ^ s := by rw [hY, Nat.mul_mod_mul_right]
  obtain ⟨a, b⟩ := split_unique hYp ek hr0 rfl
  exact ⟨a.symm.trans c1, by rw [← b, c2, Nat.mul_div_cancel _ hp]⟩
/-- The two digits together. -/
theorem digits {T y s u l1 l0 Y : Nat} (hy : 0 < y) (hY : Y = y * 2 ^ s) (hT : T * 2 ^ s = (u * 4294967296 + l1) * 4294967296 + l0) :
    (u * 4294967296 + l1) / Y * 4294967296 + ((u * 4294967296 + l1) % Y * 4294967296 + l0) / Y = T / y ∧ ((u * 4294967296 + l1) % Y * 4294967296 + l0) % Y / 2 ^ s = T % y :=
  digits_of hy hY hT (Nat.div_add_mod _ _) (Nat.div_add_mod _ _) (Nat.mod_lt _ (by rw [hY]; exact Nat.mul_pos hy (Nat.pow_pos (by decide))))

end Go.Proofs.YtodlgbihdehmbaaGreatDoor
/-
  Small facts for the contracts of layer 1: answers, blocks of two words, and worlds in which nothing that was there has turned.
-/
namespace Go.Proofs.YtodlgbihdehmbaaGreatDoor.De
open Go.RowKit

theorem hi0 : ((hiOf 0 : Nat) : Int) = 0 := rfl
theorem bcell {W w1 : World} (hb : Below W.heap.size W w1) : (∀ b o, b < W.heap.size → w1.cell? ⟨b, o, none⟩ = W.cell? ⟨b, o, none⟩) ∧ (∀ b o, b < W.heap.size → w1.frozen? ⟨b, o, none⟩ = W.frozen? ⟨b, o, none⟩) :=
  ⟨fun b o h => hb.cell (p := ⟨b, o, none⟩) h, fun b o h => hb.frozen (p := ⟨b, o, none⟩) h⟩

theorem below_next {a b c : World} (h : Below a.heap.size a b) (k : Below b.heap.size b c) : Below a.heap.size a c := h.trans (k.mono h.size)
/-- A block of two words: what it holds, and that it may be written. -/
structure Has (w : World) (b : Nat) (v : Nat) : Prop where
  lt : b < w.heap.size
  hi : w.cell? ⟨b, 0, none⟩ = some (.int .u64 (hiOf v : Nat))
  lo : w.cell? ⟨b, 1, none⟩ = some (.int .u64 (loOf v : Nat))
  fh : w.frozen? ⟨b, 0, none⟩ = false
  fl : w.frozen? ⟨b, 1, none⟩ = false
theorem below_put {B b : Nat} {a w : World} (h : Below B a w) (hB : B ≤ b) (p q : Value) : Below B a ((w.setCell ⟨b, 0, none⟩ p).setCell ⟨b, 1, none⟩ q) :=
  (h.setCell (p := ⟨b, 0, none⟩) hB p).setCell (p := ⟨b, 1, none⟩) hB q

theorem below_box {w w1 : World} {o : Obj} (hb : Below (w.alloc o).heap.size (w.alloc o) w1) : Below w.heap.size w w1 := ((Below.refl _ _).alloc (Nat.le_refl _) _).trans (hb.mono (by simp))

end Go.Proofs.YtodlgbihdehmbaaGreatDoor.De
