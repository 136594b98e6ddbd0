/-
  Contracts of the program's functions of layer 8: timeRight, valueRight, headEmpty, lay.
-/
import Derived.Test.YtabbpgnenmpacaaDoorSegRefBM
import Derived.Test.YtabbpgnenmpacaaDoorBoxKitM
set_option linter.unusedSimpArgs false
set_option linter.unusedVariables false
namespace Go.Proofs.YtabbpgnenmpacaaDoor.SP
open Go.RowKit
open CR (below_next own_ge u8_wrap)
set_option maxRecDepth 100000 in
set_option maxHeartbeats 1000000 in
theorem timeRight_c (t : Int) (w : World) : Calls Tryd.prog 29 #[.int .i64 t] w fun e w' => e = .returned (.bool (tmOk t)) ∧ w = w' := by
  obtain ⟨d, hd⟩ : ∃ d, tmOk t = d := ⟨_, rfl⟩
  rw [hd]
  unfold tmOk at hd
  by_cases h0 : 0 ≤ t
  · by_cases h1 : t ≤ 1099511627776
    · rw [decide_eq_true ⟨h0, h1⟩] at hd
      subst hd
      go_enter Tryd.func29, Tryd.ntmps29
      go_wp2
      go_ret
      exact ⟨rfl, rfl⟩
    · rw [decide_eq_false (fun h => h1 h.2)] at hd
      subst hd
      go_enter Tryd.func29, Tryd.ntmps29
      go_wp2
      go_ret
      exact ⟨rfl, rfl⟩
  · rw [decide_eq_false (fun h => h0 h.1)] at hd
    subst hd
    go_enter Tryd.func29, Tryd.ntmps29
    go_wp2
    go_ret
    exact ⟨rfl, rfl⟩
set_option maxRecDepth 100000 in
set_option maxHeartbeats 1000000 in
theorem valueRight_c (t : Int) (w : World) : Calls Tryd.prog 30 #[.int .i64 t] w fun e w' => e = .returned (.bool (decide (t ≠ -9223372036854775808))) ∧ w = w' := by
  obtain ⟨d, hd⟩ : ∃ d, decide (t ≠ -9223372036854775808) = d := ⟨_, rfl⟩
  rw [hd]
  by_cases h0 : t = -9223372036854775808
  · rw [decide_eq_false (fun h => h h0)] at hd
    subst hd
    have hq : (t != -9223372036854775808) = false := by rw [h0]; rfl
    clear h0
    go_enter Tryd.func30, Tryd.ntmps30
    go_wp2
    go_ret
    exact ⟨rfl, rfl⟩
  · rw [decide_eq_true h0] at hd
    subst hd
    have hq : (t != -9223372036854775808) = true := by rw [bne_iff_ne]; exact h0
    clear h0
    go_enter Tryd.func30, Tryd.ntmps30
    go_wp2
    go_ret
    exact ⟨rfl, rfl⟩
def hdNone (r : PR) : Bool := decide (r.path = []) && decide (r.method = 0) && decide (r.factor = 0) && decide (r.rungs = [])
theorem nB_snoc : ∀ (k n : Nat), nB (k + 1) n = nB k n ++ [n / 256 ^ k % 256]
  | 0, n => by
    show [n % 256] = [] ++ [n / 256 ^ 0 % 256]
    rw [Nat.pow_zero, Nat.div_one]
    rfl
  | k + 1, n => by
    show n % 256 :: nB (k + 1) (n / 256) = (n % 256 :: nB k (n / 256)) ++ [n / 256 ^ (k + 1) % 256]
    rw [nB_snoc k (n / 256), List.cons_append, Nat.div_div_eq_div_mul, Nat.pow_succ, Nat.mul_comm 256]
/-- A world that has grown out of another, but for one row's own block. -/
structure Gr (w w' : World) (v v' : Value) : Prop where
  size : w.heap.size ≤ w'.heap.size
  block : ∀ i, i < w.heap.size → v.ownBlock ≠ some i → w'.heap[i]? = w.heap[i]?
  own : v'.ownBlock = v.ownBlock ∨ ∃ g, v'.ownBlock = some g ∧ w.heap.size ≤ g
theorem Gr.refl (w : World) (v : Value) : Gr w w v v := ⟨Nat.le_refl _, fun _ _ _ => rfl, Or.inl rfl⟩
theorem Gr.trans {w w1 w2 : World} {v v1 v2 : Value} (h : Gr w w1 v v1) (k : Gr w1 w2 v1 v2) : Gr w w2 v v2 := by
  refine ⟨Nat.le_trans h.size k.size, fun i hi hn => ?_, ?_⟩
  · refine (k.block i (Nat.lt_of_lt_of_le hi h.size) ?_).trans (h.block i hi hn)
    rcases h.own with e | ⟨g, e, hg⟩
    · rw [e]; exact hn
    · rw [e]; intro e2; injection e2 with e2; omega
  · rcases k.own with e | ⟨g, e, hg⟩
    · rw [e]; exact h.own
    · exact Or.inr ⟨g, e, Nat.le_trans h.size hg⟩
theorem Gr.alloc (w : World) (v : Value) (o : Obj) : Gr w (w.alloc o) v v := ⟨by simp, fun i hi _ => Below.heap_alloc w o i hi, Or.inl rfl⟩
theorem Gr.below {w w' : World} (v : Value) (h : Below w.heap.size w w') : Gr w w' v v := ⟨h.size, fun i hi _ => h.block i hi, Or.inl rfl⟩
theorem Gr.grown {w w' : World} {v v' : Value} (h : w.grownBy w' v.ownBlock) (hat : v'.ownBlock = v.ownBlock ∨ v'.ownBlock = some w.heap.size) : Gr w w' v v' :=
  ⟨h.size, fun i hi hn => h.block i hi (fun e => hn e.symm), hat.elim Or.inl (fun e => Or.inr ⟨_, e, Nat.le_refl _⟩)⟩
theorem Gr.cell {w w' : World} {v v' : Value} (h : Gr w w' v v') {b o : Nat} {u : Value} (hn : v.ownBlock ≠ some b) (hc : w.cell? ⟨b, o, none⟩ = some u) : w'.cell? ⟨b, o, none⟩ = some u :=
  (World.cell?_of_block (h.block b (World.block_lt_of_cell? w _ hc) hn)).trans hc
theorem Gr.holds {w w' : World} {v v' : Value} (h : Gr w w' v v') {b : Nat} {C : List Value} (hn : v.ownBlock ≠ some b) (hc : Holds w b C) : Holds w' b C := fun j x hj => h.cell hn (hc j x hj)
set_option maxRecDepth 100000 in
set_option maxHeartbeats 2000000 in
theorem lay_c (B : Nat) (v : Value) (acc : List Nat) (n : Int) (h0 : 0 ≤ n) (h1 : n < 18446744073709551616) (k : Nat) (hk : k ≤ 8) (z : Nat) (hz : acc.length = z) (hl : z ≤ 90000) (w : World) (hB : B ≤ w.heap.size) (ho : ByNew B w v acc) :
    Calls Tryd.prog 23 #[v, .int .u64 n, .int .i64 (k : Nat)] w fun e w' => ∃ v', e = .returned v' ∧ ByNew B w' v' (acc ++ nB k n.toNat) ∧ Below B w w' ∧ Gr w w' v v' := by
  obtain ⟨i0, hi0, hz0, hz1, hz2⟩ := info_parts (P := Tryd.prog) (e := 5) (z := .int .u8 0) (size := 1) (bytes := 1) (by kernel_rfl)
  have HZ := Lib.hid hz; have HO := Lib.hid ho; have HBB := Lib.hid hB
  clear hz ho
  go_enter Tryd.func23, Tryd.ntmps23
  go_wp2
  go_loopw [0, 7, 9] (fun bv _ i wr => ∃ (j : Nat) (vr : Value), bv = vr ∧ i = .int .i64 j ∧ j ≤ k ∧ Hid (ByNew B wr vr (acc ++ nB j n.toNat) ∧ Below B w wr ∧ Gr w wr v vr)) (fun _ _ i _ => k - (intOf i).toNat)
  case atStart => exact ⟨0, _, rfl, rfl, Nat.zero_le _, by show ByNew _ _ _ (acc ++ []); rw [List.append_nil]; exact HO.out, Below.refl _ _, Gr.refl _ _⟩
  case round =>
    obtain ⟨j, vr, rfl, rfl, hj, HI⟩ := hrel
    by_cases hlt : j < k
    · have hlen : (acc ++ nB j n.toNat).length = z + j := by rw [List.length_append, nB_length, HZ.out]
      have hx : ((n.toNat / 256 ^ j % 256 : Nat) : Int) = n / 2 ^ (8 * j) % 256 := by
        have e1 : (2 : Int) ^ (8 * j) = ((256 ^ j : Nat) : Int) := by
          rw [show (256 : Nat) = 2 ^ 8 by decide, ← Nat.pow_mul]
          simp
        rw [e1, Int.natCast_emod, Int.natCast_ediv, Int.toNat_of_nonneg h0]
        rfl
      have hown : ∀ (w' : World) (v' : Value), w'.ownsRow B 5 1 v' (z + j + 1) (bys (acc ++ nB j n.toNat) ++ [.int .u8 (n / 2 ^ (8 * j) % 256)]) → ByNew B w' v' (acc ++ nB (j + 1) n.toNat) := fun w' v' h => by
        unfold ByNew
        rw [nB_snoc, ← List.append_assoc, List.length_append, hlen, bys_app, List.length_singleton]
        have e : bys [n.toNat / 256 ^ j % 256] = [.int .u8 (n / 2 ^ (8 * j) % 256)] := by
          show [Value.int .u8 ((n.toNat / 256 ^ j % 256 : Nat) : Int)] = _
          rw [hx]
        rw [e]
        exact h
      have how : wr.ownsRow B 5 1 u0 (z + j) (bys (acc ++ nB j n.toNat)) := by
        have := HI.out.1
        unfold ByNew at this
        rw [hlen] at this
        exact this
      have HOWN := Lib.hid hown; have OW := Lib.hid how; have BR := Lib.hid HI.out.2.1; have SR := Lib.hid HI.out.2.2.size; have GR := Lib.hid HI.out.2.2
      clear hown how hx HI hlen
      go_wp2_with (at_builtin; refine wpList_append_any _ rfl (.tmp 12) (.tmp 18) _ rfl B 5 i0 (.int .u8 0) 1 1 Tryd.underlying27 hi0 hz0 hz1 hz2 rfl (by decide) u0 (z + j) (bys (acc ++ nB j n.toNat)) rfl (World.ownsRow.alloc OW.out _) _ (some ⟨wr.heap.size, 0, none⟩) 1 1 [.int .u8 (n / 2 ^ (8 * j) % 256)] rfl (Reads.of_own (World.ownsRow_lit (base := 0) (e := 5) (size := 1) wr #[.int .u8 (n / 2 ^ (8 * j) % 256)] 1 (Nat.zero_le _) (by decide) rfl)) (by simp [Value.oneCell']) (by simp only [maxLen]; omega) (by omega) (by have := SR.out; have := HBB.out; simp; omega) ?_; intro v4 w4 hown4 hg4 hat4)
      have hb4 : Below B w w4 := Below.grown (BR.out.alloc (by have := SR.out; have := HBB.out; omega) _) hg4 (by have := SR.out; have := HBB.out; simp; omega) (own_ge OW.out)
      have hs4 : Gr w w4 v v4 := (GR.out.trans (Gr.alloc _ _ _)).trans (Gr.grown hg4 hat4)
      have NW := Lib.hid (HOWN.out _ _ hown4); have B4 := Lib.hid hb4; have S4 := Lib.hid hs4
      clear hown4 hg4 hat4 hb4 hs4
      go_wp2
      go_roundw
      case rel => exact ⟨j + 1, _, rfl, by go_num, by omega, NW.out, B4.out, S4.out⟩
      case measure => simp only [intOf]; omega
    · obtain rfl : j = k := by omega
      have HF := Lib.hid HI.out.1; have BR := Lib.hid HI.out.2
      clear HI
      go_wp2
      go_ret
      exact ⟨u0, rfl, HF.out, BR.out.1, BR.out.2⟩
end Go.Proofs.YtabbpgnenmpacaaDoor.SP
