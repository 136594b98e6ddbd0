/-
  Plain facts on the table of layer 5: what four bits put on the rest, and a byte gone through in two halves.
-/
import Derived.Test.YtabbpgnenmpacaaDoorByRow
import Derived.Test.YtabbpgnenmpacaaDoorProg
import Derived.Lib.LaidTab
import Derived.Lib.SmallJoins
/-
  Plain facts on sums of bytes (CRC-32C), for the statements of layer 5: bytes are numbers below 256 in a list. Nothing of the program is imported.
-/
set_option linter.unusedSimpArgs false
set_option linter.unusedVariables false
namespace Go.Proofs.YtabbpgnenmpacaaDoor
/-- One bit shifted out. -/
def cBit (s : Nat) : Nat := if s % 2 = 1 then (s / 2) ^^^ 2197175160 else s / 2
def cBits : Nat → Nat → Nat
  | 0, s => s
  | k + 1, s => cBits k (cBit s)
def cByte (s b : Nat) : Nat := cBits 8 (s ^^^ b)
def cRun (s : Nat) (l : List Nat) : Nat := l.foldl cByte s
def cNot (s : Nat) : Nat := 4294967295 ^^^ s
def cSum (l : List Nat) : Nat := cNot (cRun 4294967295 l)
/-- The four bytes of a sum, the lowest first. -/
def le4 (v : Nat) : List Nat := [v % 256, v / 256 % 256, v / 65536 % 256, v / 16777216 % 256]
def cPut (l : List Nat) : List Nat := l ++ le4 (cSum l)
/-- What stands ahead of the sum, and the refusal. -/
def cChk (l : List Nat) : List Nat × Int := if l.length < 4 then ([], 9) else if cPut (l.take (l.length - 4)) = l then (l.take (l.length - 4), 0) else ([], 8)
/-- A row of bytes as a number, the lowest first. -/
def leB : List Nat → Nat
  | [] => 0
  | b :: l => b + 256 * leB l
def Bytes (l : List Nat) : Prop := ∀ b ∈ l, b < 256
theorem xor_half (a b : Nat) : (a ^^^ b) / 2 = a / 2 ^^^ b / 2 := by
  have h := Nat.shiftRight_xor_distrib (a := a) (b := b) (i := 1)
  simpa [Nat.shiftRight_succ] using h
theorem cBit_xor (a b : Nat) : cBit (a ^^^ b) = cBit a ^^^ cBit b := by
  unfold cBit
  rw [xor_half]
  have hm : (a ^^^ b) % 2 = (a + b) % 2 := by
    have h := Nat.testBit_xor a b 0
    rw [Nat.testBit_zero, Nat.testBit_zero, Nat.testBit_zero] at h
    rcases Nat.mod_two_eq_zero_or_one a with ha | ha <;> rcases Nat.mod_two_eq_zero_or_one b with hb | hb <;> rcases Nat.mod_two_eq_zero_or_one (a ^^^ b) with hc | hc <;> rw [ha, hb, hc] at h <;> first | exact absurd h (by decide) | omega
  rcases Nat.mod_two_eq_zero_or_one a with ha | ha <;> rcases Nat.mod_two_eq_zero_or_one b with hb | hb
  · rw [if_neg (by omega), if_neg (by omega), if_neg (by omega)]
  · rw [if_pos (by omega), if_neg (by omega), if_pos hb, Nat.xor_assoc]
  · rw [if_pos (by omega), if_pos ha, if_neg (by omega), Nat.xor_assoc, Nat.xor_assoc, Nat.xor_comm (b / 2)]
  · rw [if_neg (by omega), if_pos ha, if_pos hb]
    generalize a / 2 = x
    generalize b / 2 = y
    generalize 2197175160 = p
    rw [Nat.xor_assoc x p, Nat.xor_comm p (y ^^^ p), Nat.xor_assoc y p p, Nat.xor_self, Nat.xor_zero]
theorem cBit_lt {s : Nat} (h : s < 4294967296) : cBit s < 4294967296 := by
  unfold cBit
  split
  · exact Nat.xor_lt_two_pow (n := 32) (by omega) (by decide)
  · omega
theorem cBit_zero {s : Nat} (h : s < 4294967296) (h0 : cBit s = 0) : s = 0 := by
  unfold cBit at h0
  split at h0
  · exfalso
    have e : s / 2 = 2197175160 := by
      generalize s / 2 = x at h0 ⊢
      generalize 2197175160 = y at h0 ⊢
      have e := congrArg (fun z => z ^^^ y) h0
      simp only [Nat.xor_assoc, Nat.xor_self, Nat.xor_zero, Nat.zero_xor] at e
      exact e
    omega
  · omega
theorem cBits_xor : ∀ (k a b : Nat), cBits k (a ^^^ b) = cBits k a ^^^ cBits k b
  | 0, a, b => rfl
  | k + 1, a, b => by
    show cBits k (cBit (a ^^^ b)) = cBits k (cBit a) ^^^ cBits k (cBit b)
    rw [cBit_xor, cBits_xor k]
theorem cBits_lt : ∀ (k : Nat) {s : Nat}, s < 4294967296 → cBits k s < 4294967296
  | 0, s, h => h
  | k + 1, s, h => cBits_lt k (cBit_lt h)
theorem cBits_zero : ∀ (k : Nat) {s : Nat}, s < 4294967296 → cBits k s = 0 → s = 0
  | 0, s, _, h0 => h0
  | k + 1, s, h, h0 => cBit_zero h (cBits_zero k (cBit_lt h) h0)
theorem cBits_add : ∀ (j k s : Nat), cBits (j + k) s = cBits k (cBits j s)
  | 0, k, s => by rw [Nat.zero_add]; rfl
  | j + 1, k, s => by rw [show j + 1 + k = (j + k) + 1 from by omega]; exact cBits_add j k (cBit s)
theorem cBits_succ (k s : Nat) : cBits (k + 1) s = cBit (cBits k s) := cBits_add k 1 s
theorem cBits_nil : ∀ k, cBits k 0 = 0
  | 0 => rfl
  | k + 1 => by
    show cBits k (cBit 0) = 0
    have : cBit 0 = 0 := by decide
    rw [this, cBits_nil k]
theorem cBits_up : ∀ (k t : Nat), cBits k (2 ^ k * t) = t
  | 0, t => by rw [Nat.pow_zero, Nat.one_mul]; rfl
  | k + 1, t => by
    show cBits k (cBit (2 ^ (k + 1) * t)) = t
    have e : 2 ^ (k + 1) * t = 2 * (2 ^ k * t) := by rw [Nat.pow_succ, Nat.mul_comm (2 ^ k) 2, Nat.mul_assoc]
    have : cBit (2 ^ (k + 1) * t) = 2 ^ k * t := by
      rw [e]
      unfold cBit
      rw [if_neg (by omega)]
      omega
    rw [this, cBits_up k]
theorem xor_low {b t : Nat} (hb : b < 256) : b + 256 * t = b ^^^ (256 * t) := by
  have h := Nat.two_pow_add_eq_or_of_lt (i := 8) (b := b) hb t
  have e : (2 : Nat) ^ 8 * t = 256 * t := rfl
  rw [e] at h
  rw [Nat.add_comm, h]
  apply Nat.eq_of_testBit_eq
  intro i
  rw [Nat.testBit_or, Nat.testBit_xor, show 256 * t = 2 ^ 8 * t from rfl, Nat.testBit_two_pow_mul]
  by_cases hi : 8 ≤ i
  · have : b.testBit i = false := Nat.testBit_lt_two_pow (Nat.lt_of_lt_of_le hb (show 2 ^ 8 ≤ 2 ^ i from Nat.pow_le_pow_right (by decide) hi))
    rw [this]; simp
  · simp [hi]
/-- What a row makes of a state: all of it at once. -/
theorem cRun_le : ∀ (l : List Nat) (r : Nat), Bytes l → cRun r l = cBits (8 * l.length) (r ^^^ leB l)
  | [], r, _ => by show r = cBits 0 (r ^^^ 0); rw [Nat.xor_zero]; rfl
  | b :: l, r, h => by
    have hb : b < 256 := h b List.mem_cons_self
    show cRun (cBits 8 (r ^^^ b)) l = _
    rw [cRun_le l _ (fun x hx => h x (List.mem_cons_of_mem _ hx))]
    have e : 8 * (b :: l).length = 8 + 8 * l.length := by rw [List.length_cons]; omega
    rw [e, cBits_add]
    congr 1
    show _ = cBits 8 (r ^^^ (b + 256 * leB l))
    rw [xor_low hb, ← Nat.xor_assoc, cBits_xor 8 (r ^^^ b)]
    congr 1
    exact (cBits_up 8 (leB l)).symm
theorem cRun_app (r : Nat) (a b : List Nat) : cRun r (a ++ b) = cRun (cRun r a) b := by unfold cRun; rw [List.foldl_append]
theorem cRun_lt : ∀ (l : List Nat) {r : Nat}, r < 4294967296 → Bytes l → cRun r l < 4294967296
  | [], r, h, _ => h
  | b :: l, r, h, hb => by
    refine cRun_lt l ?_ (fun x hx => hb x (List.mem_cons_of_mem _ hx))
    exact cBits_lt 8 (Nat.xor_lt_two_pow (n := 32) h (Nat.lt_trans (hb b List.mem_cons_self) (by decide)))
/-- Two rows of one length, one put on the other. -/
theorem cRun_xor : ∀ (l e : List Nat) (r s : Nat), l.length = e.length → cRun (r ^^^ s) (List.zipWith (· ^^^ ·) l e) = cRun r l ^^^ cRun s e
  | [], [], r, s, _ => rfl
  | a :: l, b :: e, r, s, h => by
    have ih := cRun_xor l e (cByte r a) (cByte s b) (by simpa using h)
    rw [List.zipWith_cons_cons]
    show cRun (cByte (r ^^^ s) (a ^^^ b)) _ = cRun (cByte r a) l ^^^ cRun (cByte s b) e
    rw [← ih]
    congr 1
    unfold cByte
    rw [← cBits_xor]
    congr 1
    rw [Nat.xor_assoc, ← Nat.xor_assoc s, Nat.xor_comm s a, Nat.xor_assoc a, ← Nat.xor_assoc]
  | [], _ :: _, _, _, h => by cases h
  | _ :: _, [], _, _, h => by cases h
theorem le4_bytes (v : Nat) : Bytes (le4 v) := by
  intro b hb
  simp only [le4, List.mem_cons, List.not_mem_nil, or_false] at hb
  rcases hb with rfl | rfl | rfl | rfl <;> exact Nat.mod_lt _ (by decide)
theorem le4_length (v : Nat) : (le4 v).length = 4 := rfl
theorem leB_le4 {v : Nat} (h : v < 4294967296) : leB (le4 v) = v := by
  simp only [le4, leB]
  omega
theorem cNot_lt {s : Nat} (h : s < 4294967296) : cNot s < 4294967296 := Nat.xor_lt_two_pow (n := 32) (by decide) h
theorem cSum_lt {l : List Nat} (h : Bytes l) : cSum l < 4294967296 := cNot_lt (cRun_lt l (by decide) h)
/-- With its sum behind it a row always makes the same. -/
theorem cRun_put {l : List Nat} (h : Bytes l) : cRun 4294967295 (cPut l) = cBits 32 4294967295 := by
  have hr := cRun_lt l (r := 4294967295) (by decide) h
  unfold cPut
  rw [cRun_app, cRun_le _ _ (le4_bytes _), leB_le4 (cSum_lt h), le4_length]
  unfold cSum cNot
  generalize cRun 4294967295 l = r at *
  congr 1
  rw [Nat.xor_comm 4294967295 r, ← Nat.xor_assoc, Nat.xor_self, Nat.zero_xor]
theorem cRun_nought : ∀ (k s : Nat), cRun s (List.replicate k 0) = cBits (8 * k) s
  | 0, s => rfl
  | k + 1, s => by
    rw [List.replicate_succ]
    show cRun (cBits 8 (s ^^^ 0)) (List.replicate k 0) = _
    rw [cRun_nought k, Nat.xor_zero, show 8 * (k + 1) = 8 + 8 * k from by omega, cBits_add]
theorem leB_zero : ∀ (l : List Nat), leB l = 0 → ∀ b ∈ l, b = 0
  | [], _, b, hb => by cases hb
  | a :: l, h, b, hb => by
    have h' : a + 256 * leB l = 0 := h
    rcases List.mem_cons.1 hb with rfl | hb
    · omega
    · exact leB_zero l (by omega) b hb
theorem leB_lt : ∀ (l : List Nat), Bytes l → leB l < 256 ^ l.length
  | [], _ => by decide
  | a :: l, h => by
    have h1 := leB_lt l (fun x hx => h x (List.mem_cons_of_mem _ hx))
    have h2 := h a List.mem_cons_self
    show a + 256 * leB l < 256 ^ (l.length + 1)
    rw [Nat.pow_succ]
    omega
/-- Four bytes that stand side by side, or fewer, changed in a row with its sum: no row with its sum any more. -/
theorem told {A F Z E a : List Nat} (hA : Bytes A) (hF : Bytes F) (hZ : Bytes Z) (hE : Bytes E) (hl : F.length = E.length) (h4 : E.length ≤ 4) (hne : ∃ b ∈ E, b ≠ 0) (hv : ∃ d, Bytes d ∧ A ++ (F ++ Z) = cPut d) (ha : Bytes a) :
    cPut a ≠ A ++ (List.zipWith (· ^^^ ·) F E ++ Z) := by
  intro h
  obtain ⟨d, hd, hd2⟩ := hv
  have k1 := cRun_put hd
  have k2 := cRun_put ha
  rw [← hd2, cRun_app, cRun_app] at k1
  rw [h, cRun_app, cRun_app] at k2
  generalize cRun 4294967295 A = r at *
  have x1 : cRun r (List.zipWith (· ^^^ ·) F E) = cRun r F ^^^ cRun 0 E := by
    have := cRun_xor F E r 0 hl
    rwa [Nat.xor_zero] at this
  have x2 : cRun (cRun r F ^^^ cRun 0 E) Z = cRun (cRun r F) Z ^^^ cRun (cRun 0 E) (List.replicate Z.length 0) := by
    have := cRun_xor Z (List.replicate Z.length 0) (cRun r F) (cRun 0 E) (by simp)
    have e : List.zipWith (· ^^^ ·) Z (List.replicate Z.length 0) = Z := by
      apply List.ext_getElem
      · simp
      · intro i h1 h2
        simp
    rwa [e] at this
  rw [x1, x2, k1, cRun_nought] at k2
  have k3 : cBits (8 * Z.length) (cRun 0 E) = 0 := by
    have h5 := congrArg (fun z => cBits 32 4294967295 ^^^ z) k2
    simp only [← Nat.xor_assoc, Nat.xor_self, Nat.zero_xor] at h5
    exact h5
  have k4 := cBits_zero _ (cRun_lt E (by decide) hE) k3
  rw [cRun_le E 0 hE, Nat.zero_xor] at k4
  have h6 : leB E < 4294967296 := by
    have h7 := leB_lt E hE
    have h8 : 256 ^ E.length ≤ 256 ^ 4 := Nat.pow_le_pow_right (by decide) h4
    omega
  have k5 := cBits_zero _ h6 k4
  obtain ⟨b, hb, hb0⟩ := hne
  exact hb0 (leB_zero E k5 b hb)
theorem cChk_put {l : List Nat} : cChk (cPut l) = (l, 0) := by
  have hl : (cPut l).length = l.length + 4 := by unfold cPut; rw [List.length_append, le4_length]
  have ht : (cPut l).take ((cPut l).length - 4) = l := by
    rw [hl, Nat.add_sub_cancel]
    unfold cPut
    rw [List.take_left']
    rfl
  unfold cChk
  rw [if_neg (by rw [hl]; omega), ht, if_pos rfl]
end Go.Proofs.YtabbpgnenmpacaaDoor
/-
  Plain facts on the table of layer 5: what four bits put on the rest, and a byte gone through in two halves.
-/
set_option linter.unusedSimpArgs false
set_option linter.unusedVariables false
namespace Go.Proofs.YtabbpgnenmpacaaDoor
/-- What four bits put on the rest. -/
def nibTab : List Int := [0, 274646895, 549293790, 820201905, 1098587580, 1361435347, 1640403810, 1905808397, 2197175160, 2460548119, 2722870694, 2987750089, 3280807620, 3553878443, 3811616794, 4084100981]
theorem nib_at : ∀ k, k < 16 → nibTab.getD k 0 = ((cBits 4 k : Nat) : Int) := by decide +kernel
theorem xor_nib (s : Nat) : s = (s % 16) ^^^ (16 * (s / 16)) := by
  have h : s % 16 + 16 * (s / 16) = (s % 16) ^^^ (16 * (s / 16)) := by
    have e := Nat.two_pow_add_eq_or_of_lt (i := 4) (b := s % 16) (by omega) (s / 16)
    have e2 : 2 ^ 4 * (s / 16) ||| s % 16 = s % 16 ^^^ 2 ^ 4 * (s / 16) := by
      apply Nat.eq_of_testBit_eq
      intro j
      rw [Nat.testBit_or, Nat.testBit_xor, Nat.testBit_two_pow_mul]
      by_cases hj : j < 4
      · have : ¬ (4 ≤ j) := by omega
        simp [this]
      · have hz : (s % 16).testBit j = false := Nat.testBit_lt_two_pow (Nat.lt_of_lt_of_le (show s % 16 < 2 ^ 4 by omega) (Nat.pow_le_pow_right (by decide) (by omega)))
        simp [hz]
    have e3 := e.trans e2
    simp only [show (2 : Nat) ^ 4 = 16 from rfl] at e3
    omega
  omega
theorem cBits_four (s : Nat) : cBits 4 s = (s / 16) ^^^ cBits 4 (s % 16) := by
  have e : cBits 4 s = cBits 4 ((s % 16) ^^^ (16 * (s / 16))) := by rw [← xor_nib s]
  rw [e, cBits_xor, show 16 * (s / 16) = 2 ^ 4 * (s / 16) from rfl, cBits_up 4, Nat.xor_comm]
theorem cBits_eight (t : Nat) : cBits 8 t = cBits 4 (cBits 4 t) := cBits_add 4 4 t
/-- A byte put on in two halves is as if it were put on at once. -/
theorem cByte_halves (s x : Nat) (hx : x < 256) : cByte s x = cBits 4 (cBits 4 (s ^^^ x % 16) ^^^ x / 16) := by
  unfold cByte
  rw [cBits_eight]
  have e : s ^^^ x = (s ^^^ x % 16) ^^^ (2 ^ 4 * (x / 16)) := by
    rw [Nat.xor_assoc]
    exact congrArg (s ^^^ ·) (xor_nib x)
  rw [e, cBits_xor 4, cBits_up 4]
/-- So with the bits of the byte taken at the table's place. -/
theorem cBits_four_at (s x : Nat) (hx : x < 16) : cBits 4 (s ^^^ x) = (s / 16) ^^^ cBits 4 (s % 16 ^^^ x) := by
  rw [cBits_xor, cBits_four s, Nat.xor_assoc, ← cBits_xor]
/-- Four bytes as a number, and as its bytes again. -/
theorem le4_leB {y0 y1 y2 y3 : Nat} (h0 : y0 < 256) (h1 : y1 < 256) (h2 : y2 < 256) (h3 : y3 < 256) : le4 (leB [y0, y1, y2, y3]) = [y0, y1, y2, y3] := by
  unfold le4 leB leB leB leB leB
  congr 1
  · omega
  congr 1
  · omega
  congr 1
  · omega
  congr 1
  omega
/-- What is checked, by the number that the last four bytes are. -/
theorem cChk_by {l : List Nat} (hb : Bytes l) {m : Nat} (hm : l.length = m + 4) : cChk l = if leB (l.drop m) = cSum (l.take m) then (l.take m, 0) else ([], 8) := by
  have hd : (l.drop m).length = 4 := by rw [List.length_drop]; omega
  have hs := cSum_lt (l := l.take m) (fun b h => hb b (List.mem_of_mem_take h))
  have hbd : Bytes (l.drop m) := fun b h => hb b (List.mem_of_mem_drop h)
  have e : cPut (l.take m) = l ↔ leB (l.drop m) = cSum (l.take m) := by
    constructor
    · intro h
      have h2 : le4 (cSum (l.take m)) = l.drop m := by
        have h3 : l.take m ++ le4 (cSum (l.take m)) = l.take m ++ l.drop m := by rw [List.take_append_drop]; exact h
        exact List.append_cancel_left h3
      rw [← h2]
      exact leB_le4 hs
    · intro h
      unfold cPut
      rw [← h]
      have h4 : le4 (leB (l.drop m)) = l.drop m := by
        generalize l.drop m = q at hd hbd
        match q, hd with
        | [y0, y1, y2, y3], _ => exact le4_leB (hbd y0 (by simp)) (hbd y1 (by simp)) (hbd y2 (by simp)) (hbd y3 (by simp))
      rw [h4, List.take_append_drop]
  unfold cChk
  rw [if_neg (by omega), hm, Nat.add_sub_cancel]
  by_cases h : leB (l.drop m) = cSum (l.take m)
  · rw [if_pos h, if_pos (e.2 h)]
  · rw [if_neg h, if_neg (fun h2 => h (e.1 h2))]
end Go.Proofs.YtabbpgnenmpacaaDoor
/-
  What sums want of a world: their table lies as the program's text lays it. It is kept by whatever a walk does.
-/
set_option linter.unusedSimpArgs false
set_option linter.unusedVariables false
namespace Go.Proofs.YtabbpgnenmpacaaDoor
open Go.RowKit
structure G (w : World) : Prop where
  tab : Lib.TabIs Tryd.prog w "isobar/crc.fallen" .u32 nibTab
theorem g_tab : Tryd.prog.globalNamed "isobar/crc.fallen" = some 0 := by kernel_rfl
theorem G.below {w w' : World} (h : G w) (hb : Below w.heap.size w w') : G w' := ⟨Joins.tab_stays g_tab h.tab hb (Nat.le_refl _)⟩
theorem G.alloc {w : World} (h : G w) (o : Obj) : G (w.alloc o) := h.below ((Below.refl _ _).alloc (Nat.le_refl _) o)
theorem G.drew {w : World} (h : G w) : G w.drew := h.below (Below.refl _ _).drew
theorem G.nib {w : World} (h : G w) (k : Nat) (hk : k < 16) : w.cell? ⟨0, k, none⟩ = some (.int .u32 ((cBits 4 k : Nat) : Int)) := by
  rw [h.tab.cell g_tab k hk, nib_at k hk]
end Go.Proofs.YtabbpgnenmpacaaDoor
