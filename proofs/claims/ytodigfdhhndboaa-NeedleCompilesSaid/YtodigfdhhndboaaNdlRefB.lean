/-
  Contracts of the document's own functions of layer 9 (isobarref09): Same.
-/
import Derived.Test.YtodigfdhhndboaaNdlRow
import Derived.Lib.Hide
import Derived.WalkKit
import Derived.WalkSmall
import Derived.BigRegion
import Derived.Deep.RegionWith
import Derived.Carry
import Derived.Laws.StructEq
import Derived.ChangeKeysEq
set_option linter.unusedSimpArgs false
set_option linter.unusedVariables false
namespace Go.Proofs.Ytodigfdhhndboaa.NR
open Go.RowKit
/-- Two sets, compared. -/
theorem set_eq (q0 q1 q2 q3 t0 t1 t2 t3 : Nat) (W : World) : (Op.equalIn 9999 23 (.agg #[.int .u64 (q0 : Nat), .int .u64 (q1 : Nat), .int .u64 (q2 : Nat), .int .u64 (q3 : Nat)]) (.agg #[.int .u64 (t0 : Nat), .int .u64 (t1 : Nat), .int .u64 (t2 : Nat), .int .u64 (t3 : Nat)])).run Try.prog W = .ok (decide (q0 = t0 ∧ q1 = t1 ∧ q2 = t2 ∧ q3 = t3)) W := by
  obtain ⟨i0, hi0, hz0, hz1, hz2⟩ := info_parts (P := Try.prog) (e := 22) (z := .int .u64 0) (size := 1) (bytes := 8) (by kernel_rfl)
  have h := run_equalIn_array (P := Try.prog) (w := W) 9998 #[.int .u64 (q0 : Nat), .int .u64 (q1 : Nat), .int .u64 (q2 : Nat), .int .u64 (q3 : Nat)] #[.int .u64 (t0 : Nat), .int .u64 (t1 : Nat), .int .u64 (t2 : Nat), .int .u64 (t3 : Nat)] Try.underlying23 hi0
  rw [h]
  have hc : Try.prog.cellsOf 22 = 1 := by kernel_rfl
  rw [hc]
  show (Op.eqItems 9998 22 1 _ _ [0, 1, 2, 3]).run Try.prog W = _
  by_cases h0 : q0 = t0 <;> by_cases h1 : q1 = t1 <;> by_cases h2 : q2 = t2 <;> by_cases h3 : q3 = t3 <;> (simp [Op.eqItems, go_sem, h0, h1, h2, h3] <;> omega)
set_option maxRecDepth 100000 in
set_option maxHeartbeats 2000000 in
theorem same_rows (s f : Bool) (A1 A2 : Option Addr) (c1 c2 n : Nat) (l1 l2 : List NI) (hn1 : l1.length = n) (hn2 : l2.length = n) (hn : n ≤ 100000) (hc1 : n ≤ c1) (hc2 : n ≤ c2) (w : World)
    (x1 : l1 ≠ [] → ∃ b off, A1 = some ⟨b, off, none⟩ ∧ ItAt w b off l1) (x2 : l2 ≠ [] → ∃ b off, A2 = some ⟨b, off, none⟩ ∧ ItAt w b off l2) :
    Calls Try.prog 12 #[.agg #[.bool s, .bool f, .slice A1 n c1], .agg #[.bool s, .bool f, .slice A2 n c2]] w fun e w' => e = .returned (.bool (decide (l1 = l2))) ∧ Below w.heap.size w w' := by
  have X1 := Lib.hid x1; have X2 := Lib.hid x2; have N1 := Lib.hid hn1; have N2 := Lib.hid hn2
  have B0 := Lib.hid (show ∀ o1 o2 : Obj, Below w.heap.size w ((w.alloc o1).alloc o2) from fun o1 o2 => ((Below.refl _ _).alloc (Nat.le_refl _) _).alloc (by simp) _)
  clear x1 x2 hn1 hn2
  go_enter Try.func12, Try.ntmps12
  go_wp2
  go_loopw [5] (fun i wr => ∃ k : Nat, k ≤ n ∧ i = .int .i64 k ∧ wr.cell? ⟨w.heap.size, 2, none⟩ = some (.slice A1 n c1) ∧ wr.cell? ⟨w.heap.size + 1, 2, none⟩ = some (.slice A2 n c2) ∧ Hid ((∀ j, j < k → l1[j]? = l2[j]?) ∧ Below w.heap.size w wr)) (fun i _ => n - (intOf i).toNat)
  case atStart => exact ⟨0, Nat.zero_le _, rfl, by go_simp, by go_simp, fun j h => absurd h (Nat.not_lt_zero j), B0.out _ _⟩
  case round =>
    obtain ⟨k, hk, rfl, p1, p2, HI⟩ := hrel
    by_cases hlt : k < n
    · have hl1 : k < l1.length := by rw [N1.out]; exact hlt
      have hl2 : k < l2.length := by rw [N2.out]; exact hlt
      obtain ⟨b1, o1, rfl, a1⟩ := X1.out (by intro h; rw [h] at hl1; exact absurd hl1 (Nat.not_lt_zero _))
      obtain ⟨b2, o2, rfl, a2⟩ := X2.out (by intro h; rw [h] at hl2; exact absurd hl2 (Nat.not_lt_zero _))
      have e1 : l1[k]? = some l1[k] := List.getElem?_eq_getElem hl1
      have e2 : l2[k]? = some l2[k] := List.getElem?_eq_getElem hl2
      obtain ⟨y0, y1, y2, y3, y4⟩ := five ((a1.below HI.out.2) k _ e1)
      obtain ⟨z0, z1, z2, z3, z4⟩ := five ((a2.below HI.out.2) k _ e2)
      obtain ⟨⟨q0, q1, q2, q3, q4⟩, hp⟩ : ∃ p, l1[k] = p := ⟨_, rfl⟩
      obtain ⟨⟨t0, t1, t2, t3, t4⟩, hq⟩ : ∃ q, l2[k] = q := ⟨_, rfl⟩
      rw [hp] at e1 y0 y1 y2 y3 y4
      rw [hq] at e2 z0 z1 z2 z3 z4
      have E1 := Lib.hid e1; have E2 := Lib.hid e2
      clear e1 e2 a1 a2 hp hq hl1 hl2
      by_cases heq : (⟨q0, q1, q2, q3, q4⟩ : NI) = ⟨t0, t1, t2, t3, t4⟩
      · injection heq with g0 g1 g2 g3 g4
        subst g0 g1 g2 g3 g4
        have SE := Lib.hid (show l1[k]? = l2[k]? by rw [E1.out, E2.out])
        have hset := fun W => (set_eq q0 q1 q2 q3 q0 q1 q2 q3 W).trans (by rw [decide_eq_true ⟨rfl, rfl, rfl, rfl⟩])
        go_wp2
        go_region
        go_wp2
        go_roundw
        case rel =>
          refine ⟨k + 1, by omega, by go_num, by go_simp, by go_simp, fun j hj => ?_, (Below.drew HI.out.2)⟩
          by_cases he : j = k
          · rw [he, SE.out]
          · exact HI.out.1 j (by omega)
        case measure => simp [intOf]; omega
      · have hd : decide (l1 = l2) = false := by
          rw [decide_eq_false_iff_not]
          intro h
          have h3 := E1.out
          rw [h, E2.out] at h3
          exact heq (Option.some.inj h3).symm
        have HD := Lib.hid hd
        clear hd
        by_cases hs : q0 = t0 ∧ q1 = t1 ∧ q2 = t2 ∧ q3 = t3
        · obtain ⟨g0, g1, g2, g3⟩ := hs
          subst g0 g1 g2 g3
          have h4 : ¬ q4 = t4 := fun e => heq (by rw [e])
          clear heq
          have hset := fun W => (set_eq q0 q1 q2 q3 q0 q1 q2 q3 W).trans (by rw [decide_eq_true ⟨rfl, rfl, rfl, rfl⟩])
          go_wp2
          go_region
          go_wp2
          go_ret
          exact ⟨congrArg (fun z => Ending.returned (.bool z)) HD.out.symm, (Below.drew HI.out.2)⟩
        · have hset := fun W => (set_eq q0 q1 q2 q3 t0 t1 t2 t3 W).trans (by rw [decide_eq_false hs])
          clear heq hs
          go_wp2
          go_region
          go_wp2
          go_ret
          exact ⟨congrArg (fun z => Ending.returned (.bool z)) HD.out.symm, (Below.drew HI.out.2)⟩
    · obtain rfl : k = n := by omega
      have hd : decide (l1 = l2) = true := by
        rw [decide_eq_true_eq]
        refine List.ext_getElem? fun j => ?_
        rcases Nat.lt_or_ge j k with hj | hj
        · exact HI.out.1 j hj
        · rw [List.getElem?_eq_none (by rw [N1.out]; exact hj), List.getElem?_eq_none (by rw [N2.out]; exact hj)]
      have HD := Lib.hid hd
      clear hd
      go_wp2
      go_ret
      exact ⟨congrArg (fun z => Ending.returned (.bool z)) HD.out.symm, HI.out.2⟩
set_option maxRecDepth 100000 in
set_option maxHeartbeats 2000000 in
theorem same_c (va vb : Value) (a b : NN) (h1 : a.items.length ≤ 100000) (h2 : b.items.length ≤ 100000) (w : World) (fa : NnOut w va a) (fb : NnOut w vb b) :
    Calls Try.prog 12 #[va, vb] w fun e w' => e = .returned (.bool (decide (a = b))) ∧ Below w.heap.size w w' := by
  obtain ⟨s1, f1, l1⟩ := a
  obtain ⟨s2, f2, l2⟩ := b
  obtain ⟨u1, rfl, A1, c1, rfl, hc1, x1⟩ := fa
  obtain ⟨u2, rfl, A2, c2, rfl, hc2, x2⟩ := fb
  change l1.length ≤ 100000 at h1
  change l2.length ≤ 100000 at h2
  change l1.length ≤ c1 at hc1
  change l2.length ≤ c2 at hc2
  change Calls Try.prog 12 #[.agg #[.bool s1, .bool f1, .slice A1 l1.length c1], .agg #[.bool s2, .bool f2, .slice A2 l2.length c2]] w _
  by_cases hall : s1 = s2 ∧ f1 = f2 ∧ l1.length = l2.length
  · obtain ⟨rfl, rfl, hl⟩ := hall
    have h := same_rows s1 f1 A1 A2 c1 c2 l1.length l1 l2 rfl hl.symm h1 hc1 (by omega) w x1 x2
    have e : decide (l1 = l2) = decide ((⟨s1, f1, l1⟩ : NN) = ⟨s1, f1, l2⟩) := by
      congr 1
      rw [eq_iff_iff]
      exact ⟨fun h => by rw [h], fun h => by injection h⟩
    rw [e] at h
    rw [← hl]
    exact h
  · have hd : decide ((⟨s1, f1, l1⟩ : NN) = ⟨s2, f2, l2⟩) = false := by
      rw [decide_eq_false_iff_not]
      intro h
      injection h with g1 g2 g3
      exact hall ⟨g1, g2, by rw [g3]⟩
    rw [hd]
    have B0 := Lib.hid (show ∀ o1 o2 : Obj, Below w.heap.size w ((w.alloc o1).alloc o2) from fun o1 o2 => ((Below.refl _ _).alloc (Nat.le_refl _) _).alloc (by simp) _)
    obtain ⟨n1, hn1⟩ : ∃ n, l1.length = n := ⟨_, rfl⟩
    obtain ⟨n2, hn2⟩ : ∃ n, l2.length = n := ⟨_, rfl⟩
    rw [hn1, hn2] at hall ⊢
    clear hd x1 x2 hc1 hc2 h1 h2 hn1 hn2
    by_cases hs : s1 = s2
    · subst hs
      by_cases hf : f1 = f2
      · subst hf
        have hne : ¬ (n1 : Int) = (n2 : Int) := fun e => hall ⟨rfl, rfl, by omega⟩
        clear hall
        go_enter Try.func12, Try.ntmps12
        go_wp2
        go_ret
        exact ⟨rfl, B0.out _ _⟩
      · clear hall
        go_enter Try.func12, Try.ntmps12
        go_wp2
        go_ret
        exact ⟨rfl, B0.out _ _⟩
    · clear hall
      go_enter Try.func12, Try.ntmps12
      go_wp2
      go_ret
      exact ⟨rfl, B0.out _ _⟩
end Go.Proofs.Ytodigfdhhndboaa.NR
