/-
  Copies of rows within memory; slices.Repeat at slots; new rings: contracts of the program's functions of layer 13.
-/
import Derived.Test.YtkgajlklhcmmcaaRinPF
import Derived.Test.YtkgajlklhcmmcaaShelf
import Derived.Laws.CopyRow
import Derived.Laws.IdiomCopy
import Derived.Laws.MakeOwn
import Derived.Laws.Externs
import Derived.Deep.RegionLaw
set_option linter.unusedSimpArgs false
set_option linter.unusedVariables false
namespace Go.Proofs.Ytkgajlklhcmmcaa
open Go.RowKit
section
variable {P : Program}
theorem run_copyK (w : World) (dT sT ty elem : TypeId) (k g o dLen dCap : Nat) (a : Addr) (sLen sCap : Nat) (cur : Array Value) (t : TypeId) (cs : List Value)
    (hu : P.underlying dT = some (.slice elem)) (hs : (P.info? elem).map (·.size) = some k)
    (hg : w.heap[g]? = some (.cells cur t (0, 0))) (hn : cs.length = Nat.min sLen dLen * k)
    (hsrc : ∀ j v, cs[j]? = some v → w.cell? (a.add j) = some v) (hfit : o + cs.length ≤ cur.size) (h1 : ∀ v ∈ cs, v.oneCell' = true) :
    (Builtin.copy_ #[dT, sT] ty #[.slice (some ⟨g, o, none⟩) dLen dCap, .slice (some a) sLen sCap]).run P w =
      .ok (goInt (Nat.min sLen dLen : Nat)) (w.setRow g (cur.toList.take o ++ cs ++ cur.toList.drop (o + cs.length)).toArray) := by
  have hl := run_loadCells_list (P := P) w a cs hsrc
  have hst := run_storeCells_at P g o t cs 0 cur w hg (by simpa using hfit) h1
  cases hq : P.info? elem with
  | none => simp [hq] at hs
  | some i =>
    have hi : i.size = k := by simpa [hq] using hs
    simp [Builtin.copy_, run_underlying hu, Builtin.lenOf, Builtin.firstCells, sizeOf, typeInfo, hq, hi, ← hn, hl, hst]
variable {ops : Array Oper} {rest : List Oper} {o : Oper} {a : Act} {w : World} {Q : Exit → Act → World → Prop}
theorem wpList_copy_eq (hgd : o.guard = none) (d s : Operand) (t t' : TypeId)
    (ho : o.op = .call { callee := .builtin .copy, args := #[d, s], argTypes := #[t, t'] }) (v u : Value) (hd : a.eval d = v) (hs : a.eval s = u) {v' : Value} {w' : World}
    (hr : (Builtin.copy_ #[t, t'] o.type #[v, u]).run P w = .ok v' w') (h : wpList P ops Q rest (a.put o.dst v') w') : wpList P ops Q (o :: rest) a w :=
  wpList_plain hgd fun K hK => by
    unfold Oper.wp execOp
    simp only [ho, resolve, invoke, builtin, Sem.run_bind, Sem.run_pure, Result.andThen_ok, List.map_toArray, List.map_cons, List.map_nil, hd, hs, hr]
    exact hK _ _ h
variable {K : Act → World → Prop} {E : Prop}
theorem step_copy_eq (hg : o.guard = none) (d x : Operand) (dT sT : TypeId) (hop : o.op = Op.call { callee := Callee.builtin Builtin.copy, args := #[d, x], argTypes := #[dT, sT] })
    (v u : Value) (hd : a.eval d = v) (hx : a.eval x = u) {v' : Value} {w' : World} (hr : (Builtin.copy_ #[dT, sT] o.type #[v, u]).run P w = .ok v' w') (hK : K (a.put o.dst v') w') :
    if Region.wanted o (yielded ops a.tmps) = true then Oper.wp P o a w K Q else E := by
  have hw : Region.wanted o (yielded ops a.tmps) = true := by simp [Region.wanted, hg]
  rw [if_pos hw]
  unfold Oper.wp
  simp [execOp, hop, resolve, invoke, builtin, hd, hx, hr, Result.andThen]
  exact hK
end
/-- Row by row: what a block holds, known whole. -/
theorem cells_of_row {w : World} {g : Nat} {cur : Array Value} {t : TypeId} (hg : w.heap[g]? = some (.cells cur t (0, 0))) (o : Nat) {xs : List Value} (hx : (cur.toList.drop o).take xs.length = xs) : ∀ j v, xs[j]? = some v → w.cell? ((⟨g, o, none⟩ : Addr).add j) = some v := by
  intro j v hj
  rw [Addr.add_mid, cell_of_row _ _ _ _ _ _ hg]
  rw [← hx, List.getElem?_take] at hj
  split at hj
  · rw [List.getElem?_drop] at hj
    simpa using hj
  · cases hj
theorem grown_setRow (w : World) (g : Nat) (cs : Array Value) : w.grownBy (w.setRow g cs) (some g) := ⟨rfl, rfl, rfl, by simp, fun k _ hk => setRow_other w g k cs (fun e => hk (by rw [e]))⟩
theorem grown_drew (w : World) (row : Option Nat) : w.grownBy w.drew row := ⟨rfl, rfl, rfl, Nat.le_refl _, fun _ _ _ => rfl⟩
theorem grown_drewN (w : World) (n : Nat) (row : Option Nat) : w.grownBy (w.drewN n) row := ⟨rfl, rfl, rfl, Nat.le_refl _, fun _ _ _ => rfl⟩
theorem rgC_rep (n : Nat) (x y : Int) : rgC (List.replicate n (x, y)) = (List.replicate n [Value.int .i64 x, Value.int .i64 y]).flatten := by
  induction n with
  | zero => rfl
  | succ n ih =>
    rw [List.replicate_succ, List.replicate_succ, List.flatten_cons, ← ih]
    rfl
theorem rgC_zero (n : Nat) : rgC (List.replicate n ((0 : Int), (0 : Int))) = List.replicate (n * 2) (.int .i64 0) := by
  induction n with
  | zero => rfl
  | succ n ih =>
    have e : rgC (List.replicate (n + 1) ((0 : Int), (0 : Int))) = .int .i64 0 :: .int .i64 0 :: rgC (List.replicate n ((0 : Int), (0 : Int))) := rfl
    rw [e, ih, show (n + 1) * 2 = n * 2 + 1 + 1 from by omega, List.replicate_succ, List.replicate_succ]
theorem made_zero (n : Nat) : madeCells #[.int .i64 0, .int .i64 0] (n * 2) = (rgC (List.replicate n ((0 : Int), (0 : Int)))).toArray := by
  rw [rgC_zero]
  apply Array.ext
  · simp [size_madeCells]
  · intro i h1 h2
    rw [size_madeCells] at h1
    have e : ∀ j : Nat, (#[Value.int .i64 0, Value.int .i64 0] : Array Value)[j % 2]! = .int .i64 0 := fun j => by
      rcases Nat.mod_two_eq_zero_or_one j with h | h <;> rw [h] <;> rfl
    simp [madeCells, e]
/-- So many slots without a value ahead of so many that were only made. -/
def curOf (k m : Nat) : Array Value := (rgC (List.replicate k ((-1 : Int), (0 : Int)) ++ List.replicate m ((0 : Int), (0 : Int)))).toArray
theorem curOf_len (k m : Nat) : (curOf k m).toList.length = (k + m) * 2 := by
  show (rgC _).length = _
  rw [rgC_length, List.length_append, List.length_replicate, List.length_replicate]
theorem curOf_step (k j m : Nat) (hj : j ≤ m) : ((curOf k m).toList.take (k * 2) ++ rgC (List.replicate j ((-1 : Int), (0 : Int))) ++ (curOf k m).toList.drop (k * 2 + (rgC (List.replicate j ((-1 : Int), (0 : Int)))).length)).toArray = curOf (k + j) (m - j) := by
  have e1 : (curOf k m).toList.take (k * 2) = rgC (List.replicate k ((-1 : Int), (0 : Int))) := by
    show (rgC _).take _ = _
    rw [rgC_app, List.take_left' (by rw [rgC_length, List.length_replicate])]
  have e2 : (curOf k m).toList.drop (k * 2 + j * 2) = rgC (List.replicate (m - j) ((0 : Int), (0 : Int))) := by
    show (rgC _).drop _ = _
    have e3 : List.replicate m ((0 : Int), (0 : Int)) = List.replicate j ((0 : Int), (0 : Int)) ++ List.replicate (m - j) ((0 : Int), (0 : Int)) := by rw [List.replicate_append_replicate]; congr 1; omega
    rw [e3, ← List.append_assoc, rgC_app, List.drop_left' (by rw [rgC_length, List.length_append, List.length_replicate, List.length_replicate]; omega)]
  rw [e1, rgC_length, List.length_replicate, e2]
  unfold curOf
  rw [← rgC_app, ← rgC_app, List.replicate_append_replicate]
theorem rgC_len_rep (j : Nat) (x y : Int) : (rgC (List.replicate j (x, y))).length = j * 2 := by rw [rgC_length, List.length_replicate]
theorem slot_size : (Try.prog.info? 50).map (·.size) = some 2 := by
  obtain ⟨i0, hi0, hz0, hz1, hz2⟩ := info_parts slot_info
  rw [hi0]; simp [hz1]
theorem made_slots (len : Nat) (w : World) (hl : len ≤ 400) : (Instr.makeSlice 51 (.int .i64 (len : Int)) (.int .i64 (len : Int))).run Try.prog w =
    .ok (.slice (some ⟨w.heap.size, 0, none⟩) len len) (w.alloc (.cells (curOf 0 len) 50)) := by
  obtain ⟨i, hi, hz, h1, h2⟩ := info_parts (P := Try.prog) (e := 50) (z := .agg #[.int .i64 0, .int .i64 0]) (size := 2) (bytes := 16) (by kernel_rfl)
  have h := run_makeSlice (P := Try.prog) w 51 50 i (.agg #[.int .i64 0, .int .i64 0]) Try.underlying51 hi hz .i64 .i64 len len (by omega) (Int.le_refl _) (by rw [h1]; omega) (by rw [h2]; omega) (by omega)
  rw [h1, Int.toNat_natCast] at h
  have e : madeCells (Value.agg #[Value.int .i64 0, Value.int .i64 0]).cells (len * 2) = curOf 0 len := by
    show madeCells #[.int .i64 0, .int .i64 0] (len * 2) = _
    rw [made_zero]; rfl
  rw [e] at h
  exact h
theorem copy_slots (w : World) (ty : TypeId) (g k m dc sc : Nat) (h : w.heap[g]? = some (.cells (curOf k m) 50 (0, 0))) :
    (Builtin.copy_ #[51, 51] ty #[.slice (some ⟨g, k * 2, none⟩) m dc, .slice (some ⟨g, 0, none⟩) k sc]).run Try.prog w =
      .ok (goInt (Nat.min k m : Nat)) (w.setRow g (curOf (k + Nat.min k m) (m - Nat.min k m))) := by
  have hle : Nat.min k m ≤ m := Nat.min_le_right _ _
  have hlk : Nat.min k m ≤ k := Nat.min_le_left _ _
  obtain ⟨j, hj⟩ : ∃ j, Nat.min k m = j := ⟨_, rfl⟩
  rw [hj] at hle hlk
  have h2 := run_copyK (P := Try.prog) w 51 51 ty 50 2 g (k * 2) m dc ⟨g, 0, none⟩ k sc (curOf k m) 50 (rgC (List.replicate j ((-1 : Int), (0 : Int)))) Try.underlying51 slot_size h (by rw [rgC_len_rep, hj])
    (cells_of_row h 0 (by
      rw [List.drop_zero]
      show (rgC _).take _ = _
      have e3 : List.replicate k ((-1 : Int), (0 : Int)) = List.replicate j ((-1 : Int), (0 : Int)) ++ List.replicate (k - j) ((-1 : Int), (0 : Int)) := by rw [List.replicate_append_replicate]; congr 1; omega
      rw [e3, List.append_assoc, rgC_app, List.take_left]))
    (by rw [← Array.length_toList, curOf_len, rgC_len_rep]; omega) (rgC_one _)
  rw [curOf_step k j m hle, hj] at h2
  rw [hj]
  exact h2
theorem copy_first (w : World) (ty : TypeId) (g b n dc sc : Nat) (hn : 1 ≤ n) (h : w.heap[g]? = some (.cells (curOf 0 n) 50 (0, 0))) (h0 : w.cell? ⟨b, 0, none⟩ = some (.int .i64 (-1))) (h1 : w.cell? ⟨b, 1, none⟩ = some (.int .i64 0)) :
    (Builtin.copy_ #[51, 51] ty #[.slice (some ⟨g, 0, none⟩) n dc, .slice (some ⟨b, 0, none⟩) 1 sc]).run Try.prog w = .ok (goInt (1 : Nat)) (w.setRow g (curOf 1 (n - 1))) := by
  have hm : Nat.min 1 n = 1 := Nat.min_eq_left hn
  have h2 := run_copyK (P := Try.prog) w 51 51 ty 50 2 g (0 * 2) n dc ⟨b, 0, none⟩ 1 sc (curOf 0 n) 50 (rgC (List.replicate 1 ((-1 : Int), (0 : Int)))) Try.underlying51 slot_size h (by rw [rgC_len_rep, hm])
    (fun j v hv => by
      have ea : (⟨b, 0, none⟩ : Addr).add j = ⟨b, j, none⟩ := by unfold Addr.add; split <;> simp_all
      rw [ea]
      match j, hv with
      | 0, hv => obtain rfl : Value.int .i64 (-1) = v := Option.some.inj hv; exact h0
      | 1, hv => obtain rfl : Value.int .i64 0 = v := Option.some.inj hv; exact h1
      | j + 2, hv => simp [rgC] at hv)
    (by rw [← Array.length_toList, curOf_len, rgC_len_rep]; omega) (rgC_one _)
  rw [curOf_step 0 1 n hn, hm] at h2
  exact h2
end Go.Proofs.Ytkgajlklhcmmcaa
