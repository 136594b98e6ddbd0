/-
  Plain facts on records and their payloads, for the statements of layer 8: bytes are numbers below 256 in a list. Nothing of the program is imported.
-/
import Derived.Test.YtabbpgnenmpacaaDoorFrmRowM
import Derived.Test.YtabbpgnenmpacaaDoorByConvM
set_option linter.unusedSimpArgs false
set_option linter.unusedVariables false
namespace Go.Proofs.YtabbpgnenmpacaaDoor
/-- A record. -/
structure PR where
  kind : Int
  path : List Nat
  method : Int
  factor : Int
  rungs : List (Int × Int)
  rung : Int
  time : Int
  now : Int
  value : Int
deriving DecidableEq
def PR.zero : PR := ⟨0, [], 0, 0, [], 0, 0, 0, 0⟩
/-- A number in so many bytes, the lowest first. -/
def nB : Nat → Nat → List Nat
  | 0, _ => []
  | k + 1, n => n % 256 :: nB k (n / 256)
/-- A value as 64 bits. -/
def u64 (v : Int) : Nat := (v % 18446744073709551616).toNat
/-- 64 bits as a value. -/
def i64 (n : Nat) : Int := if n % 18446744073709551616 < 9223372036854775808 then ((n % 18446744073709551616 : Nat) : Int) else ((n % 18446744073709551616 : Nat) : Int) - 18446744073709551616
theorem i64_in (n : Nat) : -9223372036854775808 ≤ i64 n ∧ i64 n ≤ 9223372036854775807 := by
  unfold i64
  split <;> omega
def rgOk (g : Int × Int) : Bool := decide (1 ≤ g.1 ∧ g.1 ≤ 86400 ∧ 1 ≤ g.2 ∧ g.2 ≤ 400)
def rgsOk (l : List (Int × Int)) : Bool := l.all rgOk && decide (1 ≤ l.length ∧ l.length ≤ 4)
def tmOk (t : Int) : Bool := decide (0 ≤ t ∧ t ≤ 1099511627776)
/-- A record of one kind, with what that kind has. -/
def hdR (p : List Nat) (m f : Int) (l : List (Int × Int)) : PR := ⟨1, p, m, f, l, 0, 0, 0, 0⟩
def ptR (t n v : Int) : PR := ⟨2, [], 0, 0, [], 0, t, n, v⟩
def slR (g t v : Int) : PR := ⟨3, [], 0, 0, [], g, t, 0, v⟩
def hdOk (p : List Nat) (m f : Int) (l : List (Int × Int)) : Bool := decide (1 ≤ p.length ∧ p.length ≤ 263) && decide (1 ≤ m ∧ m ≤ 5) && decide (0 ≤ f ∧ f ≤ 1000000) && rgsOk l
def ptOk (t n v : Int) : Bool := tmOk t && tmOk n && decide (v ≠ -9223372036854775808)
def slOk (g t v : Int) : Bool := decide (0 ≤ g ∧ g ≤ 3) && tmOk t && decide (v ≠ -9223372036854775808)
/-- Is it right? -/
def rRight (r : PR) : Bool :=
  if r.kind = 1 then decide (r = hdR r.path r.method r.factor r.rungs) && hdOk r.path r.method r.factor r.rungs
  else if r.kind = 2 then decide (r = ptR r.time r.now r.value) && ptOk r.time r.now r.value
  else if r.kind = 3 then decide (r = slR r.rung r.time r.value) && slOk r.rung r.time r.value
  else false
def rgB (g : Int × Int) : List Nat := nB 4 g.1.toNat ++ nB 2 g.2.toNat
/-- A right record's payload. -/
def rBytes (r : PR) : List Nat :=
  if r.kind = 1 then 1 :: (nB 2 r.path.length ++ (r.path ++ (r.method.toNat :: (nB 4 r.factor.toNat ++ (r.rungs.length :: r.rungs.flatMap rgB)))))
  else if r.kind = 2 then 2 :: (nB 8 r.time.toNat ++ (nB 8 r.now.toNat ++ nB 8 (u64 r.value)))
  else 3 :: (r.rung.toNat :: (nB 8 r.time.toNat ++ nB 8 (u64 r.value)))
def rPut (r : PR) : List Nat × Int := if rRight r = true then (rBytes r, 0) else ([], 1)
/-- A row of bytes as a number, the lowest first, of so many. -/
def nOf : Nat → List Nat → Nat
  | 0, _ => 0
  | k + 1, l => l.headD 0 + 256 * nOf k l.tail
theorem nB_length : ∀ (k n : Nat), (nB k n).length = k
  | 0, _ => rfl
  | k + 1, n => by show (nB k (n / 256)).length + 1 = k + 1; rw [nB_length k]
theorem nB_bytes : ∀ (k n : Nat), Bytes (nB k n)
  | 0, _ => fun x hx => by cases hx
  | k + 1, n => Bytes.cons (Nat.mod_lt _ (by decide)) (nB_bytes k _)
theorem nOf_nB : ∀ (k n : Nat) (t : List Nat), n < 256 ^ k → nOf k (nB k n ++ t) = n
  | 0, n, t, h => by show 0 = n; rw [Nat.pow_zero] at h; omega
  | k + 1, n, t, h => by
    show n % 256 + 256 * nOf k (nB k (n / 256) ++ t) = n
    rw [nOf_nB k (n / 256) t (by rw [Nat.pow_succ] at h; omega)]
    omega
theorem nOf_lt : ∀ (k : Nat) (l : List Nat), Bytes l → nOf k l < 256 ^ k
  | 0, l, _ => by show 0 < 256 ^ 0; decide
  | k + 1, l, h => by
    have h1 := nOf_lt k l.tail (fun x hx => h x (List.mem_of_mem_tail hx))
    have h2 : l.headD 0 < 256 := by
      cases l with
      | nil => decide
      | cons a l => exact h a List.mem_cons_self
    show l.headD 0 + 256 * nOf k l.tail < 256 ^ (k + 1)
    rw [Nat.pow_succ]
    omega
theorem nB_nOf : ∀ (k : Nat) (l : List Nat), Bytes l → k ≤ l.length → nB k (nOf k l) = l.take k
  | 0, l, _, _ => by rw [List.take_zero]; rfl
  | k + 1, [], _, hl => by simp at hl
  | k + 1, a :: l, h, hl => by
    have ha := h a List.mem_cons_self
    have ih := nB_nOf k l (fun x hx => h x (List.mem_cons_of_mem _ hx)) (by simpa using hl)
    show (a + 256 * nOf k l) % 256 :: nB k ((a + 256 * nOf k l) / 256) = (a :: l).take (k + 1)
    rw [List.take_succ_cons, show (a + 256 * nOf k l) % 256 = a from by omega, show (a + 256 * nOf k l) / 256 = nOf k l from by omega, ih]
theorem u64_lt (v : Int) : u64 v < 18446744073709551616 := by unfold u64; omega
theorem i64_u64 {v : Int} (h1 : -9223372036854775808 ≤ v) (h2 : v ≤ 9223372036854775807) : i64 (u64 v) = v := by
  unfold i64 u64
  split <;> omega
theorem u64_i64 {n : Nat} (h : n < 18446744073709551616) : u64 (i64 n) = n := by
  unfold i64 u64
  split <;> omega
theorem rgsB_length : ∀ (l : List (Int × Int)), (l.flatMap rgB).length = 6 * l.length
  | [] => rfl
  | g :: l => by
    rw [List.flatMap_cons, List.length_append, rgsB_length l]
    unfold rgB
    rw [List.length_append, nB_length, nB_length, List.length_cons]
    omega
theorem rgsB_bytes (l : List (Int × Int)) : Bytes (l.flatMap rgB) := fun x hx => by
  obtain ⟨g, _, hx⟩ := List.mem_flatMap.1 hx
  exact (nB_bytes 4 _).append (nB_bytes 2 _) x hx
/-- What right records are. -/
theorem right_cases {r : PR} (h : rRight r = true) :
    (∃ p m f l, r = hdR p m f l ∧ hdOk p m f l = true) ∨ (∃ t n v, r = ptR t n v ∧ ptOk t n v = true) ∨ (∃ g t v, r = slR g t v ∧ slOk g t v = true) := by
  unfold rRight at h
  split at h
  · rw [Bool.and_eq_true, decide_eq_true_eq] at h
    exact Or.inl ⟨_, _, _, _, h.1, h.2⟩
  · split at h
    · rw [Bool.and_eq_true, decide_eq_true_eq] at h
      exact Or.inr (Or.inl ⟨_, _, _, h.1, h.2⟩)
    · split at h
      · rw [Bool.and_eq_true, decide_eq_true_eq] at h
        exact Or.inr (Or.inr ⟨_, _, _, h.1, h.2⟩)
      · cases h
theorem right_hd (p : List Nat) (m f : Int) (l : List (Int × Int)) : rRight (hdR p m f l) = hdOk p m f l := by
  show (decide (hdR p m f l = hdR p m f l) && hdOk p m f l) = _
  rw [decide_eq_true rfl, Bool.true_and]
theorem right_pt (t n v : Int) : rRight (ptR t n v) = ptOk t n v := by
  show (decide (ptR t n v = ptR t n v) && ptOk t n v) = _
  rw [decide_eq_true rfl, Bool.true_and]
theorem right_sl (g t v : Int) : rRight (slR g t v) = slOk g t v := by
  show (decide (slR g t v = slR g t v) && slOk g t v) = _
  rw [decide_eq_true rfl, Bool.true_and]
theorem rBytes_hd (p : List Nat) (m f : Int) (l : List (Int × Int)) : rBytes (hdR p m f l) = 1 :: (nB 2 p.length ++ (p ++ (m.toNat :: (nB 4 f.toNat ++ (l.length :: l.flatMap rgB))))) := rfl
theorem rBytes_pt (t n v : Int) : rBytes (ptR t n v) = 2 :: (nB 8 t.toNat ++ (nB 8 n.toNat ++ nB 8 (u64 v))) := rfl
theorem rBytes_sl (g t v : Int) : rBytes (slR g t v) = 3 :: (g.toNat :: (nB 8 t.toNat ++ nB 8 (u64 v))) := rfl
theorem hd_bounds {p : List Nat} {m f : Int} {l : List (Int × Int)} (h : hdOk p m f l = true) :
    (1 ≤ p.length ∧ p.length ≤ 263) ∧ (1 ≤ m ∧ m ≤ 5) ∧ (0 ≤ f ∧ f ≤ 1000000) ∧ (∀ g ∈ l, 1 ≤ g.1 ∧ g.1 ≤ 86400 ∧ 1 ≤ g.2 ∧ g.2 ≤ 400) ∧ 1 ≤ l.length ∧ l.length ≤ 4 := by
  unfold hdOk rgsOk at h
  simp only [Bool.and_eq_true, decide_eq_true_eq, List.all_eq_true] at h
  obtain ⟨⟨⟨h1, h2⟩, h3⟩, h4, h5⟩ := h
  refine ⟨h1, h2, h3, fun g hg => ?_, h5⟩
  have := h4 g hg
  unfold rgOk at this
  simpa using this
theorem pt_bounds {t n v : Int} (h : ptOk t n v = true) : (0 ≤ t ∧ t ≤ 1099511627776) ∧ (0 ≤ n ∧ n ≤ 1099511627776) ∧ v ≠ -9223372036854775808 := by
  unfold ptOk tmOk at h
  simp only [Bool.and_eq_true, decide_eq_true_eq] at h
  exact ⟨h.1.1, h.1.2, h.2⟩
theorem sl_bounds {g t v : Int} (h : slOk g t v = true) : (0 ≤ g ∧ g ≤ 3) ∧ (0 ≤ t ∧ t ≤ 1099511627776) ∧ v ≠ -9223372036854775808 := by
  unfold slOk tmOk at h
  simp only [Bool.and_eq_true, decide_eq_true_eq] at h
  exact ⟨h.1.1, h.1.2, h.2⟩
/-- How long payloads are. -/
theorem rBytes_len {r : PR} (h : rRight r = true) : 16 ≤ (rBytes r).length ∧ (rBytes r).length ≤ 296 := by
  rcases right_cases h with ⟨p, m, f, l, rfl, hk⟩ | ⟨t, n, v, rfl, hk⟩ | ⟨g, t, v, rfl, hk⟩
  · obtain ⟨h1, _, _, _, h5, h6⟩ := hd_bounds hk
    rw [rBytes_hd]
    simp only [List.length_cons, List.length_append, nB_length, rgsB_length]
    omega
  · rw [rBytes_pt]
    simp only [List.length_cons, List.length_append, nB_length]
    omega
  · rw [rBytes_sl]
    simp only [List.length_cons, List.length_append, nB_length]
    omega
theorem rBytes_bytes {r : PR} (h : rRight r = true) (hp : Bytes r.path) : Bytes (rBytes r) := by
  rcases right_cases h with ⟨p, m, f, l, rfl, hk⟩ | ⟨t, n, v, rfl, hk⟩ | ⟨g, t, v, rfl, hk⟩
  · obtain ⟨_, h2, _, _, h5, h6⟩ := hd_bounds hk
    rw [rBytes_hd]
    exact Bytes.cons (by decide) ((nB_bytes _ _).append (Bytes.append hp (Bytes.cons (by omega) ((nB_bytes _ _).append (Bytes.cons (by omega) (rgsB_bytes l))))))
  · rw [rBytes_pt]
    exact Bytes.cons (by decide) ((nB_bytes _ _).append ((nB_bytes _ _).append (nB_bytes _ _)))
  · obtain ⟨h1, _⟩ := sl_bounds hk
    rw [rBytes_sl]
    exact Bytes.cons (by decide) (Bytes.cons (by omega) ((nB_bytes _ _).append (nB_bytes _ _)))
/-! ### There and back -/
/-- Archives out of bytes. -/
def rgsOf : Nat → List Nat → List (Int × Int)
  | 0, _ => []
  | k + 1, l => ((nOf 4 l : Nat), (nOf 2 (l.drop 4) : Nat)) :: rgsOf k (l.drop 6)
/-- The record that bytes may be the payload of. -/
def rGuess (p : List Nat) : PR :=
  if p.headD 0 = 1 then
    hdR ((p.drop 3).take (nOf 2 (p.drop 1))) (((p.drop (3 + nOf 2 (p.drop 1))).headD 0 : Nat) : Int) ((nOf 4 (p.drop (3 + nOf 2 (p.drop 1) + 1)) : Nat) : Int) (rgsOf ((p.drop (3 + nOf 2 (p.drop 1) + 5)).headD 0) (p.drop (3 + nOf 2 (p.drop 1) + 6)))
  else if p.headD 0 = 2 then ptR (i64 (nOf 8 (p.drop 1))) (i64 (nOf 8 (p.drop 9))) (i64 (nOf 8 (p.drop 17)))
  else slR ((p.drop 1).headD 0 : Nat) (i64 (nOf 8 (p.drop 2))) (i64 (nOf 8 (p.drop 10)))
/-- The record of a payload, and the refusal. -/
def rTake (p : List Nat) : PR × Int := if rRight (rGuess p) = true ∧ rBytes (rGuess p) = p then (rGuess p, 0) else (PR.zero, 7)
theorem rgsOf_B : ∀ (l : List (Int × Int)) (t : List Nat), (∀ g ∈ l, 1 ≤ g.1 ∧ g.1 ≤ 86400 ∧ 1 ≤ g.2 ∧ g.2 ≤ 400) → rgsOf l.length (l.flatMap rgB ++ t) = l
  | [], t, _ => rfl
  | g :: l, t, h => by
    obtain ⟨h1, h2, h3, h4⟩ := h g List.mem_cons_self
    have ih := rgsOf_B l t (fun x hx => h x (List.mem_cons_of_mem _ hx))
    have e : (g :: l).flatMap rgB ++ t = nB 4 g.1.toNat ++ (nB 2 g.2.toNat ++ (l.flatMap rgB ++ t)) := by
      rw [List.flatMap_cons]
      unfold rgB
      simp only [List.append_assoc]
    have d4 : (nB 4 g.1.toNat ++ (nB 2 g.2.toNat ++ (l.flatMap rgB ++ t))).drop 4 = nB 2 g.2.toNat ++ (l.flatMap rgB ++ t) := List.drop_left' (nB_length _ _)
    have d6 : (nB 4 g.1.toNat ++ (nB 2 g.2.toNat ++ (l.flatMap rgB ++ t))).drop 6 = l.flatMap rgB ++ t := by
      rw [show (6 : Nat) = 4 + 2 from rfl, ← List.drop_drop, d4]
      exact List.drop_left' (nB_length _ _)
    show (((nOf 4 ((g :: l).flatMap rgB ++ t) : Nat) : Int), ((nOf 2 (((g :: l).flatMap rgB ++ t).drop 4) : Nat) : Int)) :: rgsOf l.length (((g :: l).flatMap rgB ++ t).drop 6) = g :: l
    have e2 : (256 : Nat) ^ 2 = 65536 := by decide
    have e4 : (256 : Nat) ^ 4 = 4294967296 := by decide
    rw [e, d4, d6, ih, nOf_nB 4 _ _ (by omega), nOf_nB 2 _ _ (by omega)]
    congr 1
    rw [Int.toNat_of_nonneg (by omega), Int.toNat_of_nonneg (by omega)]
theorem guess_hd {p : List Nat} {m f : Int} {l : List (Int × Int)} (h : hdOk p m f l = true) : rGuess (rBytes (hdR p m f l)) = hdR p m f l := by
  obtain ⟨h1, h2, h3, h4, h5, h6⟩ := hd_bounds h
  rw [rBytes_hd]
  have e2 : (256 : Nat) ^ 2 = 65536 := by decide
  have e4 : (256 : Nat) ^ 4 = 4294967296 := by decide
  generalize hw : (1 :: (nB 2 p.length ++ (p ++ (m.toNat :: (nB 4 f.toNat ++ (l.length :: l.flatMap rgB))))) : List Nat) = w
  have d1 : w.drop 1 = nB 2 p.length ++ (p ++ (m.toNat :: (nB 4 f.toNat ++ (l.length :: l.flatMap rgB)))) := by rw [← hw]; rfl
  have k1 : nOf 2 (w.drop 1) = p.length := by rw [d1]; exact nOf_nB 2 _ _ (by omega)
  have d3 : w.drop 3 = p ++ (m.toNat :: (nB 4 f.toNat ++ (l.length :: l.flatMap rgB))) := by
    rw [show (3 : Nat) = 1 + 2 from rfl, ← List.drop_drop, d1]
    exact List.drop_left' (nB_length _ _)
  have d4 : w.drop (3 + p.length) = m.toNat :: (nB 4 f.toNat ++ (l.length :: l.flatMap rgB)) := by
    rw [← List.drop_drop, d3]
    exact List.drop_left' rfl
  have d5 : w.drop (3 + p.length + 1) = nB 4 f.toNat ++ (l.length :: l.flatMap rgB) := by rw [← List.drop_drop, d4]; rfl
  have d6 : w.drop (3 + p.length + 5) = l.length :: l.flatMap rgB := by
    rw [show 3 + p.length + 5 = (3 + p.length + 1) + 4 from rfl, ← List.drop_drop, d5]
    exact List.drop_left' (nB_length _ _)
  have d7 : w.drop (3 + p.length + 6) = l.flatMap rgB := by
    rw [show 3 + p.length + 6 = (3 + p.length + 5) + 1 from rfl, ← List.drop_drop, d6]; rfl
  have hh : w.headD 0 = 1 := by rw [← hw]; rfl
  unfold rGuess
  rw [if_pos hh, k1, d3, d4, d5, d6, d7]
  have r7 := rgsOf_B l [] h4
  rw [List.append_nil] at r7
  have t3 : (p ++ (m.toNat :: (nB 4 f.toNat ++ (l.length :: l.flatMap rgB)))).take p.length = p := List.take_left' rfl
  rw [t3, nOf_nB 4 _ _ (by omega)]
  show hdR p ((m.toNat : Nat) : Int) ((f.toNat : Nat) : Int) (rgsOf l.length (l.flatMap rgB)) = hdR p m f l
  rw [r7, Int.toNat_of_nonneg (by omega), Int.toNat_of_nonneg (by omega)]
theorem guess_pt {t n v : Int} (h : ptOk t n v = true) (h0 : -9223372036854775808 ≤ v ∧ v ≤ 9223372036854775807) : rGuess (rBytes (ptR t n v)) = ptR t n v := by
  obtain ⟨h1, h2, h3⟩ := pt_bounds h
  rw [rBytes_pt]
  have e8 : (256 : Nat) ^ 8 = 18446744073709551616 := by decide
  generalize hw : (2 :: (nB 8 t.toNat ++ (nB 8 n.toNat ++ nB 8 (u64 v))) : List Nat) = w
  have d1 : w.drop 1 = nB 8 t.toNat ++ (nB 8 n.toNat ++ nB 8 (u64 v)) := by rw [← hw]; rfl
  have d9 : w.drop 9 = nB 8 n.toNat ++ nB 8 (u64 v) := by
    rw [show (9 : Nat) = 1 + 8 from rfl, ← List.drop_drop, d1]
    exact List.drop_left' (nB_length _ _)
  have d17 : w.drop 17 = nB 8 (u64 v) ++ [] := by
    rw [show (17 : Nat) = 9 + 8 from rfl, ← List.drop_drop, d9, List.append_nil]
    exact List.drop_left' (nB_length _ _)
  have hh : w.headD 0 = 2 := by rw [← hw]; rfl
  have hu := u64_lt v
  unfold rGuess
  rw [if_neg (by omega), if_pos hh, d1, d9, d17, nOf_nB 8 _ _ (by omega), nOf_nB 8 _ _ (by omega), nOf_nB 8 _ _ (by omega), i64_u64 h0.1 h0.2]
  have g : ∀ x : Int, 0 ≤ x → x ≤ 1099511627776 → i64 x.toNat = x := fun x a b => by unfold i64; rw [if_pos (by omega)]; omega
  rw [g t h1.1 h1.2, g n h2.1 h2.2]
theorem guess_sl {g t v : Int} (h : slOk g t v = true) (h0 : -9223372036854775808 ≤ v ∧ v ≤ 9223372036854775807) : rGuess (rBytes (slR g t v)) = slR g t v := by
  obtain ⟨h1, h2, h3⟩ := sl_bounds h
  rw [rBytes_sl]
  have e8 : (256 : Nat) ^ 8 = 18446744073709551616 := by decide
  generalize hw : (3 :: (g.toNat :: (nB 8 t.toNat ++ nB 8 (u64 v))) : List Nat) = w
  have d1 : w.drop 1 = g.toNat :: (nB 8 t.toNat ++ nB 8 (u64 v)) := by rw [← hw]; rfl
  have d2 : w.drop 2 = nB 8 t.toNat ++ nB 8 (u64 v) := by rw [← hw]; rfl
  have d10 : w.drop 10 = nB 8 (u64 v) ++ [] := by
    rw [show (10 : Nat) = 2 + 8 from rfl, ← List.drop_drop, d2, List.append_nil]
    exact List.drop_left' (nB_length _ _)
  have hh : w.headD 0 = 3 := by rw [← hw]; rfl
  have hu := u64_lt v
  unfold rGuess
  rw [if_neg (by omega), if_neg (by omega), d1, d2, d10, nOf_nB 8 _ _ (by omega), nOf_nB 8 _ _ (by omega), i64_u64 h0.1 h0.2]
  have e : i64 t.toNat = t := by unfold i64; rw [if_pos (by omega)]; omega
  rw [e]
  show slR ((g.toNat : Nat) : Int) t v = slR g t v
  rw [Int.toNat_of_nonneg h1.1]
/-- A value that 64 bits hold. -/
def vOk (r : PR) : Prop := -9223372036854775808 ≤ r.value ∧ r.value ≤ 9223372036854775807
theorem guess_right {r : PR} (h : rRight r = true) (hv : vOk r) : rGuess (rBytes r) = r := by
  rcases right_cases h with ⟨p, m, f, l, rfl, hk⟩ | ⟨t, n, v, rfl, hk⟩ | ⟨g, t, v, rfl, hk⟩
  · exact guess_hd hk
  · exact guess_pt hk hv
  · exact guess_sl hk hv
/-- What is put is taken as it was. -/
theorem rTake_put {r : PR} (h : rRight r = true) (hv : vOk r) : rTake (rBytes r) = (r, 0) := by
  unfold rTake
  rw [guess_right h hv, if_pos ⟨h, rfl⟩]
theorem vOk_hd (p : List Nat) (m f : Int) (l : List (Int × Int)) : vOk (hdR p m f l) := ⟨show (-9223372036854775808 : Int) ≤ 0 by omega, show (0 : Int) ≤ 9223372036854775807 by omega⟩
theorem vOk_pt (t n v : Int) (h : -9223372036854775808 ≤ v ∧ v ≤ 9223372036854775807) : vOk (ptR t n v) := h
theorem vOk_sl (g t v : Int) (h : -9223372036854775808 ≤ v ∧ v ≤ 9223372036854775807) : vOk (slR g t v) := h
theorem vOk_guess (p : List Nat) : vOk (rGuess p) := by
  unfold rGuess
  by_cases h1 : p.headD 0 = 1
  · rw [if_pos h1]
    exact vOk_hd _ _ _ _
  · rw [if_neg h1]
    by_cases h2 : p.headD 0 = 2
    · rw [if_pos h2]
      exact vOk_pt _ _ _ (i64_in _)
    · rw [if_neg h2]
      exact vOk_sl _ _ _ (i64_in _)
/-- Bytes that are no right record's payload. -/
theorem rTake_no {p : List Nat} (h : ∀ r, rRight r = true → vOk r → rBytes r ≠ p) : rTake p = (PR.zero, 7) := by
  have hv := vOk_guess p
  unfold rTake
  by_cases h2 : rRight (rGuess p) = true ∧ rBytes (rGuess p) = p
  · exact absurd h2.2 (h _ h2.1 hv)
  · rw [if_neg h2]
end Go.Proofs.YtabbpgnenmpacaaDoor
/-
  Plain facts on segments: records in frames, written and scanned, for the statements of layer 8. Nothing of the program is imported.
-/
set_option linter.unusedSimpArgs false
set_option linter.unusedVariables false
namespace Go.Proofs.YtabbpgnenmpacaaDoor
/-- A right record's frame. -/
def rFrm (r : PR) : List Nat := fFrm (rBytes r)
/-- A record's frame, and the refusal. -/
def rFrame (r : PR) : List Nat × Int := if rRight r = true then (rFrm r, 0) else ([], 1)
/-- A record that may stand behind a head. -/
def rIn (r : PR) : Bool := rRight r && decide (r.kind ≠ 1)
def rHead (r : PR) : Bool := rRight r && decide (r.kind = 1)
def sFlat (l : List PR) : List Nat := l.flatMap rFrm
def sWrite (h : PR) (l : List PR) : List Nat × Int := if rHead h = true ∧ l.all rIn = true then (rFrm h ++ sFlat l, 0) else ([], 1)
/-- The record of the frame that bytes begin with, how many bytes that has, and whether there is one. -/
def sOne (b : List Nat) : PR × Nat × Bool := if (fTake b).2.2 = 0 ∧ (rTake (fTake b).1).2 = 0 then ((rTake (fTake b).1).1, (fTake b).2.1, true) else (PR.zero, 0, false)
def sCutK : Nat → List Nat → List PR × Nat
  | 0, _ => ([], 0)
  | k + 1, b => if (sOne b).2.2 = true ∧ (sOne b).1.kind ≠ 1 then ((sOne b).1 :: (sCutK k (b.drop (sOne b).2.1)).1, (sOne b).2.1 + (sCutK k (b.drop (sOne b).2.1)).2) else ([], 0)
/-- The records that bytes begin with, frame by frame. -/
def sCut (b : List Nat) : List PR × Nat := sCutK b.length b
/-- The head, what stands behind it, how many bytes, and the refusal. -/
def sScan (b : List Nat) : PR × List PR × Nat × Int :=
  if (sOne b).2.2 = true ∧ (sOne b).1.kind = 1 then ((sOne b).1, (sCut (b.drop (sOne b).2.1)).1, (sOne b).2.1 + (sCut (b.drop (sOne b).2.1)).2, 0) else (PR.zero, [], 0, 7)
theorem sOne_size {b : List Nat} (h : (sOne b).2.2 = true) : 7 ≤ (sOne b).2.1 ∧ (sOne b).2.1 ≤ b.length ∧ (sOne b).2.1 ≤ 518 := by
  by_cases hc : (fTake b).2.2 = 0 ∧ (rTake (fTake b).1).2 = 0
  · have e : sOne b = ((rTake (fTake b).1).1, (fTake b).2.1, true) := if_pos hc
    rw [e]
    exact fTake_size hc.1
  · have e : sOne b = (PR.zero, 0, false) := if_neg hc
    rw [e] at h
    cases h
theorem sCutK_fuel : ∀ (k : Nat) (b : List Nat), b.length ≤ k → sCutK k b = sCut b := by
  intro k
  induction k using Nat.strongRecOn with
  | ind k ih =>
    intro b hb
    rcases Nat.lt_or_ge b.length k with hlt | hge
    · have h0 : sCutK k b = sCutK b.length b := by
        cases k with
        | zero => omega
        | succ k =>
          cases hm : b.length with
          | zero =>
            have hb0 : b = [] := List.eq_nil_of_length_eq_zero hm
            subst hb0
            rfl
          | succ m =>
            show (if (sOne b).2.2 = true ∧ (sOne b).1.kind ≠ 1 then _ else _) = (if (sOne b).2.2 = true ∧ (sOne b).1.kind ≠ 1 then _ else _)
            by_cases h : (sOne b).2.2 = true ∧ (sOne b).1.kind ≠ 1
            · rw [if_pos h, if_pos h]
              have hz := sOne_size h.1
              have e1 : (b.drop (sOne b).2.1).length ≤ m := by rw [List.length_drop]; omega
              have g1 := ih k (by omega) (b.drop (sOne b).2.1) (by omega)
              have g2 := ih m (by omega) (b.drop (sOne b).2.1) e1
              rw [g1, g2]
            · rw [if_neg h, if_neg h]
      exact h0
    · obtain rfl : k = b.length := by omega
      rfl
theorem sCut_yes {b : List Nat} (h : (sOne b).2.2 = true ∧ (sOne b).1.kind ≠ 1) : sCut b = ((sOne b).1 :: (sCut (b.drop (sOne b).2.1)).1, (sOne b).2.1 + (sCut (b.drop (sOne b).2.1)).2) := by
  have hz := sOne_size h.1
  obtain ⟨m, hm⟩ : ∃ m, b.length = m + 1 := ⟨b.length - 1, by omega⟩
  have e1 : (b.drop (sOne b).2.1).length ≤ m := by rw [List.length_drop]; omega
  rw [← sCutK_fuel m _ e1]
  show sCutK b.length b = _
  rw [hm]
  show (if (sOne b).2.2 = true ∧ (sOne b).1.kind ≠ 1 then _ else _) = _
  rw [if_pos h]
theorem sCut_no {b : List Nat} (h : ¬ ((sOne b).2.2 = true ∧ (sOne b).1.kind ≠ 1)) : sCut b = ([], 0) := by
  unfold sCut
  cases b.length with
  | zero => rfl
  | succ m =>
    show (if (sOne b).2.2 = true ∧ (sOne b).1.kind ≠ 1 then _ else _) = _
    rw [if_neg h]
/-- What has been scanned so far, and what is left: the state of the loop. -/
def ScanSt (b : List Nat) (a0 : Nat) (acc : List PR) (at' : Nat) : Prop := a0 ≤ at' ∧ at' ≤ b.length ∧ 7 * acc.length ≤ at' ∧ (sCut (b.drop a0)).1 = acc ++ (sCut (b.drop at')).1 ∧ a0 + (sCut (b.drop a0)).2 = at' + (sCut (b.drop at')).2
theorem ScanSt.start {b : List Nat} {a0 : Nat} (h : a0 ≤ b.length) : ScanSt b a0 [] a0 := ⟨Nat.le_refl _, h, Nat.zero_le _, rfl, rfl⟩
theorem ScanSt.next {b : List Nat} {a0 : Nat} {acc : List PR} {at' : Nat} (h : ScanSt b a0 acc at') (h0 : (sOne (b.drop at')).2.2 = true ∧ (sOne (b.drop at')).1.kind ≠ 1) : ScanSt b a0 (acc ++ [(sOne (b.drop at')).1]) (at' + (sOne (b.drop at')).2.1) := by
  obtain ⟨h1, h2, h3, h4, h5⟩ := h
  have hz := sOne_size h0.1
  rw [List.length_drop] at hz
  have hy := sCut_yes h0
  rw [List.drop_drop] at hy
  refine ⟨by omega, by omega, by rw [List.length_append, List.length_singleton]; omega, ?_, ?_⟩
  · rw [h4, hy, List.append_assoc, List.singleton_append]
  · rw [h5, hy, Nat.add_assoc]
theorem ScanSt.stop {b : List Nat} {a0 : Nat} {acc : List PR} {at' : Nat} (h : ScanSt b a0 acc at') (h0 : ¬ ((sOne (b.drop at')).2.2 = true ∧ (sOne (b.drop at')).1.kind ≠ 1)) : (sCut (b.drop a0)).1 = acc ∧ a0 + (sCut (b.drop a0)).2 = at' := by
  obtain ⟨_, _, _, h4, h5⟩ := h
  rw [sCut_no h0] at h4 h5
  exact ⟨by rw [h4, List.append_nil], h5⟩
/-! ### There and back, torn -/
theorem rFrm_ok {r : PR} (h : rRight r = true) : fOk (rBytes r) := by
  have := rBytes_len h
  exact ⟨by omega, by omega⟩
theorem rFrm_length {r : PR} : (rFrm r).length = (rBytes r).length + 6 := fFrm_length _
theorem sOne_frm {r : PR} {R : List Nat} (h : rRight r = true) (hv : vOk r) : sOne (rFrm r ++ R) = (r, (rFrm r).length, true) := by
  have h1 := fTake_frm (p := rBytes r) (R := R) (rFrm_ok h)
  unfold sOne rFrm
  rw [h1]
  show (if (0 : Int) = 0 ∧ (rTake (rBytes r)).2 = 0 then ((rTake (rBytes r)).1, (rBytes r).length + 6, true) else _) = _
  rw [rTake_put h hv, if_pos ⟨rfl, rfl⟩, fFrm_length]
theorem sOne_part {r : PR} {R : List Nat} (h : rRight r = true) {e : Nat} (he : e < (rFrm r).length) : (sOne ((rFrm r ++ R).take e)).2.2 = false := by
  rw [rFrm_length] at he
  have h1 := fTake_part (p := rBytes r) (R := R) (rFrm_ok h) he
  unfold sOne
  have e1 : (fTake ((rFrm r ++ R).take e)) = ([], 0, 9) := h1
  rw [e1, if_neg (fun h => absurd h.1 (by decide))]
theorem rIn_iff {r : PR} : rIn r = true ↔ rRight r = true ∧ r.kind ≠ 1 := by unfold rIn; rw [Bool.and_eq_true, decide_eq_true_eq]
theorem rHead_iff {r : PR} : rHead r = true ↔ rRight r = true ∧ r.kind = 1 := by unfold rHead; rw [Bool.and_eq_true, decide_eq_true_eq]
def sSz (l : List PR) : Nat := (sFlat l).length
theorem sFlat_cons (r : PR) (l : List PR) : sFlat (r :: l) = rFrm r ++ sFlat l := by unfold sFlat; rw [List.flatMap_cons]
theorem sSz_cons (r : PR) (l : List PR) : sSz (r :: l) = (rFrm r).length + sSz l := by unfold sSz; rw [sFlat_cons, List.length_append]
theorem sSz_app (a b : List PR) : sSz (a ++ b) = sSz a + sSz b := by unfold sSz sFlat; rw [List.flatMap_append, List.length_append]
theorem sSz_take (l : List PR) (k : Nat) : sSz (l.take k) ≤ sSz l := by
  have h := sSz_app (l.take k) (l.drop k)
  rw [List.take_append_drop] at h
  omega
theorem sCut_part : ∀ (i : Nat) {l : List PR} {e : Nat}, (∀ r ∈ l, rIn r = true ∧ vOk r) → i ≤ l.length → sSz (l.take i) ≤ e → (i < l.length → e < sSz (l.take (i + 1))) → sCut ((sFlat l).take e) = (l.take i, sSz (l.take i))
  | 0, [], e, _, _, _, _ => by
    show sCut (([] : List Nat).take e) = ([], 0)
    rw [List.take_nil]; rfl
  | 0, r :: l, e, hok, _, _, hlt => by
    have h1 : e < sSz [r] := hlt (by simp)
    rw [sSz_cons] at h1
    have h0 : sSz ([] : List PR) = 0 := rfl
    rw [sFlat_cons]
    show _ = ([], 0)
    refine sCut_no (fun h => ?_)
    rw [sOne_part (rIn_iff.1 (hok r List.mem_cons_self).1).1 (by omega)] at h
    cases h.1
  | i + 1, [], e, _, hi, _, _ => by simp at hi
  | i + 1, r :: l, e, hok, hi, hs, hlt => by
    have hs' : sSz (r :: l.take i) ≤ e := hs
    rw [sSz_cons] at hs'
    have hr := hok r List.mem_cons_self
    have hr1 := rIn_iff.1 hr.1
    obtain ⟨e', rfl⟩ : ∃ e', e = (rFrm r).length + e' := ⟨e - (rFrm r).length, by omega⟩
    have ht : (sFlat (r :: l)).take ((rFrm r).length + e') = rFrm r ++ (sFlat l).take e' := by
      rw [sFlat_cons, List.take_append, List.take_of_length_le (by omega), Nat.add_sub_cancel_left]
    have ho := sOne_frm (R := (sFlat l).take e') hr1.1 hr.2
    have ih := sCut_part i (l := l) (e := e') (fun x hx => hok x (List.mem_cons_of_mem _ hx)) (by simpa using hi) (by omega) (fun h => by
      have h2 : (rFrm r).length + e' < sSz (r :: l.take (i + 1)) := hlt (by simpa using h)
      rw [sSz_cons] at h2
      omega)
    have hd : (rFrm r ++ (sFlat l).take e').drop (rFrm r).length = (sFlat l).take e' := List.drop_left
    rw [ht, sCut_yes (by rw [ho]; exact ⟨rfl, hr1.2⟩), ho]
    simp only [hd, ih]
    show (r :: l.take i, (rFrm r).length + sSz (l.take i)) = (r :: l.take i, sSz (r :: l.take i))
    rw [sSz_cons]
/-- Of a beginning of a segment that has its head just the whole records are scanned. -/
theorem sScan_part {h : PR} {l : List PR} (hh : rHead h = true) (hv : vOk h) (hok : ∀ r ∈ l, rIn r = true ∧ vOk r) (i e : Nat) (hi : i ≤ l.length) (hs : (rFrm h).length + sSz (l.take i) ≤ e) (hlt : i < l.length → e < (rFrm h).length + sSz (l.take (i + 1))) :
    sScan ((rFrm h ++ sFlat l).take e) = (h, l.take i, (rFrm h).length + sSz (l.take i), 0) := by
  have h1 := rHead_iff.1 hh
  obtain ⟨e', rfl⟩ : ∃ e', e = (rFrm h).length + e' := ⟨e - (rFrm h).length, by omega⟩
  have ht : (rFrm h ++ sFlat l).take ((rFrm h).length + e') = rFrm h ++ (sFlat l).take e' := by
    rw [List.take_append, List.take_of_length_le (by omega), Nat.add_sub_cancel_left]
  have ho := sOne_frm (R := (sFlat l).take e') h1.1 hv
  have hd : (rFrm h ++ (sFlat l).take e').drop (rFrm h).length = (sFlat l).take e' := List.drop_left
  have hc := sCut_part i (l := l) (e := e') hok hi (by omega) (fun g => by have := hlt g; omega)
  unfold sScan
  rw [ht, ho, if_pos ⟨rfl, h1.2⟩]
  simp only [hd, hc]
/-- Of a beginning that hasn't its head nothing is. -/
theorem sScan_none {h : PR} {R : List Nat} (hh : rHead h = true) {e : Nat} (he : e < (rFrm h).length) : sScan ((rFrm h ++ R).take e) = (PR.zero, [], 0, 7) := by
  unfold sScan
  rw [sOne_part (rHead_iff.1 hh).1 he, if_neg (fun h => absurd h.1 (by decide))]
theorem sScan_all {h : PR} {l : List PR} (hh : rHead h = true) (hv : vOk h) (hok : ∀ r ∈ l, rIn r = true ∧ vOk r) : sScan (rFrm h ++ sFlat l) = (h, l, (rFrm h ++ sFlat l).length, 0) := by
  have g := sScan_part hh hv hok l.length (rFrm h ++ sFlat l).length (Nat.le_refl _) (by rw [List.take_length, List.length_append]; exact Nat.le_refl _) (fun g => absurd g (Nat.lt_irrefl _))
  rw [List.take_length, List.take_length] at g
  rw [g, List.length_append]
  rfl
end Go.Proofs.YtabbpgnenmpacaaDoor
/-
  Records in memory, for the contracts of layer 8.
-/
set_option linter.unusedSimpArgs false
set_option linter.unusedVariables false
namespace Go.Proofs.YtabbpgnenmpacaaDoor
open Go.RowKit
theorem cellb {w w' : World} (hb : Below w.heap.size w w') {b o : Nat} {u : Value} (h : w.cell? ⟨b, o, none⟩ = some u) : w'.cell? ⟨b, o, none⟩ = some u := (hb.cell (World.block_lt_of_cell? w _ h)).trans h
/-- A row of archives. -/
def RgAt (w : World) (b off : Nat) (l : List (Int × Int)) : Prop := ∀ (k : Nat) (g : Int × Int), l[k]? = some g → w.cell? ⟨b, off + k * 2, none⟩ = some (.int .i64 g.1) ∧ w.cell? ⟨b, off + k * 2 + 1, none⟩ = some (.int .i64 g.2)
def RgOut (w : World) (v : Value) (l : List (Int × Int)) : Prop := ∃ A cap, v = .slice A l.length cap ∧ l.length ≤ cap ∧ (l ≠ [] → ∃ b off, A = some ⟨b, off, none⟩ ∧ RgAt w b off l)
theorem RgAt.below {w w' : World} {b off : Nat} {l : List (Int × Int)} (h : RgAt w b off l) (hb : Below w.heap.size w w') : RgAt w' b off l := fun k g hk => ⟨cellb hb (h k g hk).1, cellb hb (h k g hk).2⟩
theorem RgOut.below {w w' : World} {v : Value} {l : List (Int × Int)} (h : RgOut w v l) (hb : Below w.heap.size w w') : RgOut w' v l := by
  obtain ⟨A, cap, hv, hc, hx⟩ := h
  refine ⟨A, cap, hv, hc, fun hn => ?_⟩
  obtain ⟨b, off, hA, hf⟩ := hx hn
  exact ⟨b, off, hA, hf.below hb⟩
theorem RgOut.nil (w : World) : RgOut w (.slice none 0 0) [] := ⟨none, 0, rfl, Nat.le_refl _, fun h => absurd rfl h⟩
/-- The cells of a record. -/
def rcC (v : Value) (r : PR) : List Value := [.int .i64 r.kind, .string (strB r.path), .int .i64 r.method, .int .i64 r.factor, v, .int .i64 r.rung, .int .i64 r.time, .int .i64 r.now, .int .i64 r.value]
/-- A record as a value. -/
def RcOut (w : World) (v : Value) (r : PR) : Prop := ∃ u, v = .agg (rcC u r).toArray ∧ RgOut w u r.rungs
theorem RcOut.below {w w' : World} {v : Value} {r : PR} (h : RcOut w v r) (hb : Below w.heap.size w w') : RcOut w' v r := by
  obtain ⟨u, hv, h⟩ := h
  exact ⟨u, hv, h.below hb⟩
theorem RcOut.zero (w : World) : RcOut w (.agg #[.int .i64 0, .string (strB []), .int .i64 0, .int .i64 0, .slice none 0 0, .int .i64 0, .int .i64 0, .int .i64 0, .int .i64 0]) PR.zero := ⟨_, rfl, RgOut.nil w⟩
/-- A row of records in memory. -/
def RcAt (w : World) (b off : Nat) (l : List PR) : Prop := ∀ (k : Nat) (r : PR), l[k]? = some r → ∃ u, RgOut w u r.rungs ∧ ∀ (j : Nat) (x : Value), (rcC u r)[j]? = some x → w.cell? ⟨b, off + k * 9 + j, none⟩ = some x
def RsOut (w : World) (v : Value) (l : List PR) : Prop := ∃ A cap, v = .slice A l.length cap ∧ l.length ≤ cap ∧ (l ≠ [] → ∃ b off, A = some ⟨b, off, none⟩ ∧ RcAt w b off l)
theorem RcAt.below {w w' : World} {b off : Nat} {l : List PR} (h : RcAt w b off l) (hb : Below w.heap.size w w') : RcAt w' b off l := fun k r hk => by
  obtain ⟨u, hu, hc⟩ := h k r hk
  exact ⟨u, hu.below hb, fun j x hx => cellb hb (hc j x hx)⟩
theorem RsOut.below {w w' : World} {v : Value} {l : List PR} (h : RsOut w v l) (hb : Below w.heap.size w w') : RsOut w' v l := by
  obtain ⟨A, cap, hv, hc, hx⟩ := h
  refine ⟨A, cap, hv, hc, fun hn => ?_⟩
  obtain ⟨b, off, hA, hf⟩ := hx hn
  exact ⟨b, off, hA, hf.below hb⟩
theorem RsOut.nil (w : World) : RsOut w (.slice none 0 0) [] := ⟨none, 0, rfl, Nat.le_refl _, fun h => absurd rfl h⟩
theorem RsOut.take {w : World} {A : Option Addr} {n c m : Nat} {ls : List PR} (h : RsOut w (.slice A n c) ls) (hm : m ≤ n) : RsOut w (.slice A m c) (ls.take m) := by
  obtain ⟨A', c', hv, hc, hx⟩ := h
  injection hv with h1 h2 h3
  subst h1 h2 h3
  have hl : (ls.take m).length = m := by rw [List.length_take]; omega
  refine ⟨A, c, by rw [hl], by omega, fun hn => ?_⟩
  obtain ⟨b, off, hA, hf⟩ := hx (fun e => hn (by rw [e]; simp))
  refine ⟨b, off, hA, fun k l hk => hf k l ?_⟩
  rw [List.getElem?_take] at hk
  split at hk
  · exact hk
  · cases hk
/-- What lies in a variable, or in a row's place: nine cells. -/
theorem nine {w : World} {b o : Nat} {v0 v1 v2 v3 v4 v5 v6 v7 v8 : Value} (h : ∀ (j : Nat) (x : Value), [v0, v1, v2, v3, v4, v5, v6, v7, v8][j]? = some x → w.cell? ⟨b, o + j, none⟩ = some x) :
    w.cell? ⟨b, o, none⟩ = some v0 ∧ w.cell? ⟨b, o + 1, none⟩ = some v1 ∧ w.cell? ⟨b, o + 2, none⟩ = some v2 ∧ w.cell? ⟨b, o + 3, none⟩ = some v3 ∧ w.cell? ⟨b, o + 4, none⟩ = some v4 ∧ w.cell? ⟨b, o + 5, none⟩ = some v5 ∧ w.cell? ⟨b, o + 6, none⟩ = some v6 ∧ w.cell? ⟨b, o + 7, none⟩ = some v7 ∧ w.cell? ⟨b, o + 8, none⟩ = some v8 :=
  ⟨h 0 _ rfl, h 1 _ rfl, h 2 _ rfl, h 3 _ rfl, h 4 _ rfl, h 5 _ rfl, h 6 _ rfl, h 7 _ rfl, h 8 _ rfl⟩
end Go.Proofs.YtabbpgnenmpacaaDoor
