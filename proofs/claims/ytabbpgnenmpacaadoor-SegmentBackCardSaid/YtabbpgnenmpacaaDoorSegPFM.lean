/-
  Contracts of the program's functions of layer 8: the reader.
-/
import Derived.Test.YtabbpgnenmpacaaDoorSegPAM
import Derived.Deep.RegionLaw
set_option linter.unusedSimpArgs false
set_option linter.unusedVariables false
namespace Go.Proofs.YtabbpgnenmpacaaDoor.SP
open Go.RowKit
open CR (below_next own_ge u8_wrap)
/-- A row of bytes in a block that is older than b. -/
def ByUnder (b : Nat) (w : World) (v : Value) (l : List Nat) : Prop := ∃ A cap, v = .slice A l.length cap ∧ l.length ≤ cap ∧ (l ≠ [] → ∃ b' off, A = some ⟨b', off, none⟩ ∧ b' < b ∧ ByAt w b' off l)
theorem ByUnder.out {b : Nat} {w : World} {v : Value} {l : List Nat} (h : ByUnder b w v l) : ByOut w v l := by
  obtain ⟨A, cap, hv, hc, hx⟩ := h
  refine ⟨A, cap, hv, hc, fun hn => ?_⟩
  obtain ⟨b, off, hA, _, hf⟩ := hx hn
  exact ⟨b, off, hA, hf⟩
theorem ByUnder.of {w : World} {v : Value} {l : List Nat} (h : ByOut w v l) : ByUnder w.heap.size w v l := by
  obtain ⟨A, cap, hv, hc, hx⟩ := h
  refine ⟨A, cap, hv, hc, fun hn => ?_⟩
  obtain ⟨b, off, hA, hf⟩ := hx hn
  exact ⟨b, off, hA, World.block_lt_of_cell? w _ (hf 0 _ (List.getElem?_eq_getElem (List.length_pos_iff.2 hn))), hf⟩
theorem ByUnder.same {b : Nat} {w w' : World} {v : Value} {l : List Nat} (h : ByUnder b w v l) (hs : ∀ i, i < b → w'.heap[i]? = w.heap[i]?) : ByUnder b w' v l := by
  obtain ⟨A, cap, hv, hc, hx⟩ := h
  refine ⟨A, cap, hv, hc, fun hn => ?_⟩
  obtain ⟨b', off, hA, hB, hf⟩ := hx hn
  exact ⟨b', off, hA, hB, fun i n hi => (World.cell?_of_block (hs b' hB)).trans (hf i n hi)⟩
/-- A reader: a variable that holds what is left. -/
def RdSt (w : World) (b : Nat) (l : List Nat) : Prop := ∃ v, w.cell? ⟨b, 0, none⟩ = some v ∧ w.frozen? ⟨b, 0, none⟩ = false ∧ ByUnder b w v l
theorem at_set {w : World} {b b' o off : Nat} {l : List Nat} {u : Value} (h : ByAt w b off l) (hn : b' ≠ b) : ByAt (w.setCell ⟨b', o, none⟩ u) b off l := fun i n hi =>
  (World.cell?_setCell_other _ _ _ _ (by intro e; simp only [Addr.mk.injEq] at e; exact hn e.1)).trans (h i n hi)
theorem apart_set {w : World} {b o : Nat} {v : Value} {l : List Nat} {u : Value} (h : ByUnder b w v l) : ByUnder b (w.setCell ⟨b, o, none⟩ u) v l := by
  obtain ⟨A, cap, hv, hc, hx⟩ := h
  refine ⟨A, cap, hv, hc, fun hn => ?_⟩
  obtain ⟨b', off, hA, hB, hf⟩ := hx hn
  exact ⟨b', off, hA, hB, at_set hf (by omega)⟩
theorem apart_take {row : Nat} {w : World} {A : Option Addr} {n c m : Nat} {l : List Nat} (h : ByUnder row w (.slice A n c) l) (hm : m ≤ n) : ByUnder row w (.slice A m c) (l.take m) := by
  obtain ⟨A', c1, hv, hc, hx⟩ := h
  injection hv with h1 h2 h3
  subst h1 h2 h3
  have hl : (l.take m).length = m := by rw [List.length_take]; omega
  refine ⟨A, c, by rw [hl], by omega, fun hn => ?_⟩
  obtain ⟨b, off, hA, hB, hf⟩ := hx (fun e => hn (by rw [e]; simp))
  refine ⟨b, off, hA, hB, fun k x hk => hf k x ?_⟩
  rw [List.getElem?_take] at hk
  split at hk
  · exact hk
  · cases hk
theorem apart_dropAt {row : Nat} {w : World} {A : Option Addr} {n c m : Nat} {l : List Nat} (h : ByUnder row w (.slice A n c) l) (hm : m ≤ n) (hc : ¬ c = m) : ByUnder row w (.slice (Option.map (fun x => x.add m) A) (n - m) (c - m)) (l.drop m) := by
  obtain ⟨A0, c0, hv, hc0, hx⟩ := h
  injection hv with h1 h2 h3
  subst h1 h2 h3
  refine ⟨_, c - m, by rw [List.length_drop], by rw [List.length_drop]; omega, fun hn => ?_⟩
  obtain ⟨b, off, hA, hB, hf⟩ := hx (fun e => hn (by rw [e]; exact List.drop_nil))
  subst hA
  have e : (⟨b, off, .none⟩ : Addr).add m = ⟨b, off + m, .none⟩ := by unfold Addr.add; split <;> simp_all
  refine ⟨b, off + m, by rw [← e]; rfl, hB, fun i x hi => ?_⟩
  rw [List.getElem?_drop] at hi
  have := hf _ _ hi
  rwa [← Nat.add_assoc] at this
theorem apart_dropNil {row : Nat} {w : World} {A A' : Option Addr} {n c c' m : Nat} {l : List Nat} (h : ByUnder row w (.slice A n c) l) (hm : n ≤ m) (w' : World) : ByUnder row w' (.slice A' 0 c') (l.drop m) := by
  obtain ⟨A0, c0, hv, _, _⟩ := h
  injection hv with h1 h2 h3
  have hd : l.drop m = [] := List.drop_eq_nil_of_le (by omega)
  rw [hd]
  exact ⟨A', c', rfl, Nat.zero_le _, fun h => absurd rfl h⟩
theorem RdSt.set {w : World} {b : Nat} {old v : Value} {l : List Nat} (hc : w.cell? ⟨b, 0, none⟩ = some old) (hf : w.frozen? ⟨b, 0, none⟩ = false) (h : ByUnder b w v l) : RdSt (w.setCell ⟨b, 0, none⟩ v) b l :=
  ⟨v, World.cell?_setCell_same w _ _ hc, by rw [World.frozen?_setCell]; exact hf, apart_set h⟩
theorem RdSt.same {w w' : World} {b : Nat} {l : List Nat} (h : RdSt w b l) (hs : ∀ i, i ≤ b → w'.heap[i]? = w.heap[i]?) : RdSt w' b l := by
  obtain ⟨v, hc, hf, ha⟩ := h
  exact ⟨v, (World.cell?_of_block (hs b (Nat.le_refl _))).trans hc, (World.frozen?_of_block (a := ⟨b, 0, none⟩) (hs b (Nat.le_refl _))).trans hf, ha.same (fun i hi => hs i (Nat.le_of_lt hi))⟩
theorem RdSt.lt {w : World} {b : Nat} {l : List Nat} (h : RdSt w b l) : b < w.heap.size := by
  obtain ⟨v, hc, _⟩ := h
  exact World.block_lt_of_cell? w _ hc
set_option maxRecDepth 100000 in
set_option maxHeartbeats 2000000 in
theorem bytes_c (b : Nat) (l : List Nat) (hl : l.length ≤ 9223372036854775807) (n : Nat) (hn : n ≤ 9223372036854775807) (w : World) (h : RdSt w b l) :
    Calls Tryd.prog 51 #[.pointer (some ⟨b, 0, none⟩), .int .i64 (n : Nat)] w fun e w' => ∃ v', e = .returned v' ∧ ByUnder b w' v' (l.take n) ∧ RdSt w' b (l.drop n) ∧ w.grownBy w' (some b) := by
  obtain ⟨v, hc, hf, ha⟩ := h
  obtain ⟨A, c, rfl, hc1, hx⟩ := id ha
  obtain ⟨N, hN⟩ : ∃ N, l.length = N := ⟨_, rfl⟩
  rw [hN] at hc hc1 ha hl
  have HA := Lib.hid ha; have HN := Lib.hid hN
  clear ha hx hN
  by_cases hlt : N < n
  · have hi : (N : Int) < (n : Int) := by omega
    have h1 : (N : Int) ≤ (c : Int) := by omega
    by_cases hcN : c = N
    · subst hcN
      go_enter Tryd.func51, Tryd.ntmps51
      go_wp2
      go_ret
      have e1 : l.take n = l.take c := by rw [List.take_of_length_le (by rw [HN.out]; omega), List.take_of_length_le (by rw [HN.out]; exact Nat.le_refl _)]
      exact ⟨_, rfl, by rw [e1]; exact apart_set (apart_take HA.out (Nat.le_refl _)), RdSt.set hc hf (apart_dropNil HA.out (by omega) w), grown_set1 w b 0 _⟩
    · go_enter Tryd.func51, Tryd.ntmps51
      go_wp2
      go_ret
      have e1 : l.take n = l.take N := by rw [List.take_of_length_le (by rw [HN.out]; omega), List.take_of_length_le (by rw [HN.out]; exact Nat.le_refl _)]
      exact ⟨_, rfl, by rw [e1]; exact apart_set (apart_take HA.out (Nat.le_refl _)), RdSt.set hc hf (apart_dropNil HA.out (by omega) w), grown_set1 w b 0 _⟩
  · have hi : ¬ (N : Int) < (n : Int) := by omega
    have h1 : (n : Int) ≤ (c : Int) := by omega
    have h2 : n ≤ N := by omega
    by_cases hcN : c = n
    · obtain rfl : N = n := by omega
      subst hcN
      go_enter Tryd.func51, Tryd.ntmps51
      go_wp2
      go_ret
      exact ⟨_, rfl, apart_set (apart_take HA.out h2), RdSt.set hc hf (apart_dropNil HA.out (by omega) w), grown_set1 w b 0 _⟩
    · go_enter Tryd.func51, Tryd.ntmps51
      go_wp2
      go_ret
      exact ⟨_, rfl, apart_set (apart_take HA.out h2), RdSt.set hc hf (apart_dropAt HA.out h2 hcN), grown_set1 w b 0 _⟩
theorem nOf_snoc : ∀ (j : Nat) (l : List Nat) (h : j < l.length), nOf (j + 1) l = nOf j l + 256 ^ j * l.getD j 0
  | 0, a :: l, _ => by
    show a + 256 * nOf 0 l = 0 + 256 ^ 0 * a
    show a + 256 * 0 = _
    omega
  | j + 1, a :: l, h => by
    have ih := nOf_snoc j l (by simpa using h)
    show a + 256 * nOf (j + 1) l = a + 256 * nOf j l + 256 ^ (j + 1) * l.getD j 0
    rw [ih, Nat.pow_succ, Nat.mul_add, ← Nat.mul_assoc, Nat.mul_comm 256 (256 ^ j)]
    omega
theorem nOf_nil : ∀ k, nOf k [] = 0
  | 0 => rfl
  | k + 1 => by
    show 0 + 256 * nOf k [] = 0
    rw [nOf_nil k]
theorem nOf_full : ∀ (k : Nat) (l : List Nat), l.length ≤ k → nOf k l = nOf l.length l
  | k, [], _ => by rw [nOf_nil]; rfl
  | 0, a :: l, h => by simp at h
  | k + 1, a :: l, h => by
    show a + 256 * nOf k l = a + 256 * nOf l.length l
    rw [nOf_full k l (by simpa using h)]
theorem nOf_take : ∀ (k : Nat) (l : List Nat) (j : Nat), j ≤ k → nOf j (l.take k) = nOf j l
  | k, l, 0, _ => rfl
  | 0, l, j + 1, h => by omega
  | k + 1, [], j + 1, _ => by rw [List.take_nil]
  | k + 1, a :: l, j + 1, h => by
    show a + 256 * nOf j (l.take k) = a + 256 * nOf j l
    rw [nOf_take k l j (by omega)]
theorem or_high (S c j : Nat) (hS : S < 256 ^ j) (h : S + 256 ^ j * c < 18446744073709551616) : bits .or .u64 (S : Int) ((256 ^ j * c : Nat) : Int) = ((S + 256 ^ j * c : Nat) : Int) := by
  have h1 := Nat.lt_of_le_of_lt (Nat.le_add_right S _) h
  have h3 := Nat.lt_of_le_of_lt (Nat.le_add_left (256 ^ j * c) S) h
  have e : (256 : Nat) ^ j = 2 ^ (8 * j) := by rw [show (256 : Nat) = 2 ^ 8 by decide, ← Nat.pow_mul]
  rw [e] at hS h h3 ⊢
  have h2 := Nat.two_pow_add_eq_or_of_lt (i := 8 * j) (b := S) hS c
  rw [u64_or_nat S _ h1 h3]
  congr 1
  rw [Nat.or_comm]
  omega
set_option maxRecDepth 100000 in
set_option maxHeartbeats 2000000 in
theorem number_c (b : Nat) (l : List Nat) (hb : Bytes l) (hl : l.length ≤ 9223372036854775807) (k : Nat) (hk : k ≤ 8) (w : World) (h : RdSt w b l) :
    Calls Tryd.prog 47 #[.pointer (some ⟨b, 0, none⟩), .int .i64 (k : Nat)] w fun e w' => e = .returned (.int .u64 (nOf k l : Nat)) ∧ RdSt w' b (l.drop k) ∧ w.grownBy w' (some b) := by
  have BC := Lib.hid (bytes_c b l hl k (by omega) w h)
  have hbt : Bytes (l.take k) := hb.takes _
  obtain ⟨m, hm⟩ : ∃ m, (l.take k).length = m := ⟨_, rfl⟩
  have hmk : m ≤ k := by rw [← hm, List.length_take]; omega
  have hfin : nOf m (l.take k) = nOf k l := by
    rw [← hm, ← nOf_full k (l.take k) (by rw [List.length_take]; omega), nOf_take k l k (Nat.le_refl _)]
  obtain ⟨R, hR⟩ : ∃ R, nOf k l = R := ⟨_, rfl⟩
  rw [hR] at hfin ⊢
  have hst : ∀ (j : Nat) (hj : j < m), nOf (j + 1) (l.take k) = nOf j (l.take k) + 256 ^ j * (l.take k).getD j 0 := fun j hj => nOf_snoc j _ (by rw [hm]; exact hj)
  have hlt : ∀ j, nOf j (l.take k) < 256 ^ j := fun j => nOf_lt j _ hbt
  generalize l.take k = a at *
  generalize l.drop k = d at *
  have HM := Lib.hid hm; have HF := Lib.hid hfin; have HST := Lib.hid hst; have HLT := Lib.hid hlt; have HB := Lib.hid hbt
  clear hm hfin hst hlt hbt hR hb hl h
  go_enter Tryd.func47, Tryd.ntmps47
  go_wp2_with fail
  refine BC.out.mono ?_; rintro _ w1 ⟨v1, rfl, ha1, hr1, hg1⟩
  obtain ⟨A, c, hv, hc, hx⟩ := ha1
  rw [HM.out] at hv hc
  subst hv
  have HX := Lib.hid hx; have HR1 := Lib.hid hr1; have HG1 := Lib.hid hg1
  clear hx hr1 hg1 BC
  go_wp2
  go_loop [5, 6, 7, 12] (fun s _ _ i => ∃ j S : Nat, j ≤ m ∧ s = .int .u64 S ∧ i = .int .i64 j ∧ Hid (S = nOf j a)) (fun _ _ _ i => m - (intOf i).toNat)
  case atStart => exact ⟨0, 0, Nat.zero_le _, rfl, rfl, rfl⟩
  case round =>
    obtain ⟨j, S, hj, rfl, rfl, HI⟩ := hrel
    by_cases hlt : j < m
    · have hjl : j < a.length := by rw [HM.out]; exact hlt
      obtain ⟨b', off, rfl, _, hat⟩ := HX.out (by intro h; rw [h] at hjl; exact absurd hjl (Nat.not_lt_zero _))
      have c0 := hat j _ (List.getElem?_eq_getElem hjl)
      have hx1 : a[j] < 256 := HB.out _ (List.getElem_mem hjl)
      have hS := HLT.out j
      have hstep := HST.out j hlt
      rw [List.getD_eq_getElem?_getD, List.getElem?_eq_getElem hjl, Option.getD_some] at hstep
      rw [← HI.out] at hS hstep
      generalize a[j] = x at *
      have hnx := HLT.out (j + 1)
      rw [hstep] at hnx
      have hp8 := SR.pow_le (show j + 1 ≤ 8 by omega)
      have hbig : S + 256 ^ j * x < 18446744073709551616 := Nat.lt_of_lt_of_le hnx (Nat.le_trans hp8 (by decide))
      have hE : bits .or .u64 (S : Int) (IntKind.u64.wrap ((x : Int) * 2 ^ (8 * j))) = ((S + 256 ^ j * x : Nat) : Int) := by
        have e1 : (x : Int) * 2 ^ (8 * j) = ((256 ^ j * x : Nat) : Int) := by
          rw [show (256 : Nat) = 2 ^ 8 by decide, ← Nat.pow_mul, Nat.mul_comm (2 ^ (8 * j)) x]
          simp
        have e2 : IntKind.u64.wrap ((256 ^ j * x : Nat) : Int) = ((256 ^ j * x : Nat) : Int) := by
          have h3 := Nat.lt_of_le_of_lt (Nat.le_add_left (256 ^ j * x) S) hbig
          generalize 256 ^ j * x = q at *
          rw [IntKind.wrap_u64]
          omega
        rw [e1, e2]
        exact or_high S x j hS hbig
      have HE := Lib.hid hE; have HSTP := Lib.hid hstep
      obtain ⟨S', hS'⟩ : ∃ S', S + 256 ^ j * x = S' := ⟨_, rfl⟩
      rw [hS'] at HE HSTP
      clear hE hstep hnx hp8 hbig hS hS' hat HI hjl
      go_wp2
      exact ⟨⟨j + 1, S', by omega, congrArg (Value.int IntKind.u64) HE.out, by go_num, Lib.hid HSTP.out.symm⟩, by simp [intOf]; omega⟩
    · obtain rfl : j = m := by omega
      obtain rfl : S = R := HI.out.trans HF.out
      clear HI
      go_wp2
      go_ret
      exact ⟨rfl, HR1.out, HG1.out⟩
set_option maxRecDepth 100000 in
set_option maxHeartbeats 2000000 in
theorem whole_c (b : Nat) (l : List Nat) (hb : Bytes l) (hl : l.length ≤ 9223372036854775807) (k : Nat) (hk : k ≤ 8) (w : World) (h : RdSt w b l) :
    Calls Tryd.prog 45 #[.pointer (some ⟨b, 0, none⟩), .int .i64 (k : Nat)] w fun e w' => e = .returned (.int .i64 (i64 (nOf k l))) ∧ RdSt w' b (l.drop k) ∧ w.grownBy w' (some b) := by
  have NC := Lib.hid (number_c b l hb hl k hk w h)
  have hN : nOf k l < 18446744073709551616 := Nat.lt_of_lt_of_le (nOf_lt k l hb) (Nat.le_trans (SR.pow_le hk) (by decide))
  have hwi : IntKind.i64.wrap ((nOf k l : Nat) : Int) = i64 (nOf k l) := by
    rw [IntKind.wrap_i64]
    unfold i64
    split <;> omega
  generalize nOf k l = N at *
  generalize l.drop k = d at *
  clear hb hl hk h hN
  go_enter Tryd.func45, Tryd.ntmps45
  go_wp2_with fail
  refine NC.out.mono ?_; rintro _ w1 ⟨rfl, hr1, hg1⟩
  have HR1 := Lib.hid hr1; have HG1 := Lib.hid hg1
  clear hr1 hg1 NC
  go_wp2
  go_ret
  exact ⟨rfl, HR1.out, HG1.out⟩
end Go.Proofs.YtabbpgnenmpacaaDoor.SP
/-
  Contracts of the program's functions of layer 8: readHead.
-/
set_option linter.unusedSimpArgs false
set_option linter.unusedVariables false
namespace Go.Proofs.YtabbpgnenmpacaaDoor
open Go.RowKit
/-- The cells of a row of archives. -/
def rgC (l : List (Int × Int)) : List Value := l.flatMap fun g => [.int .i64 g.1, .int .i64 g.2]
theorem rgC_app (a b : List (Int × Int)) : rgC (a ++ b) = rgC a ++ rgC b := by unfold rgC; rw [List.flatMap_append]
theorem rgC_length : ∀ l : List (Int × Int), (rgC l).length = 2 * l.length
  | [] => rfl
  | g :: l => by
    have h := rgC_length l
    show (Value.int .i64 g.1 :: Value.int .i64 g.2 :: rgC l).length = _
    rw [List.length_cons, List.length_cons, h, List.length_cons]
    omega
theorem rgC_at : ∀ (l : List (Int × Int)) (k : Nat) (g : Int × Int), l[k]? = some g → (rgC l)[k * 2]? = some (.int .i64 g.1) ∧ (rgC l)[k * 2 + 1]? = some (.int .i64 g.2)
  | [], k, g, h => by simp at h
  | x :: l, 0, g, h => by
    obtain rfl : x = g := by simpa using h
    exact ⟨rfl, rfl⟩
  | x :: l, k + 1, g, h => by
    have ih := rgC_at l k g (by simpa using h)
    have e : rgC (x :: l) = .int .i64 x.1 :: .int .i64 x.2 :: rgC l := rfl
    rw [e, show (k + 1) * 2 = k * 2 + 1 + 1 from by omega, List.getElem?_cons_succ, List.getElem?_cons_succ, show k * 2 + 1 + 1 + 1 = k * 2 + 1 + 1 + 1 from rfl, List.getElem?_cons_succ, List.getElem?_cons_succ]
    exact ih
/-- A row of archives of a call's own. -/
def RgNew (B : Nat) (w : World) (v : Value) (l : List (Int × Int)) : Prop := w.ownsRow B 49 2 v l.length (rgC l)
theorem RgNew.out {B : Nat} {w : World} {v : Value} {l : List (Int × Int)} (h : RgNew B w v l) : RgOut w v l := by
  rcases h.2 with ⟨rfl, h0⟩ | ⟨g, cap, cur, rfl, hb, hh, hle, _, _, ht⟩
  · exact ⟨none, 0, by rw [h0], by omega, fun hn => absurd (List.eq_nil_of_length_eq_zero h0) hn⟩
  · refine ⟨_, cap, rfl, hle, fun _ => ⟨g, 0, rfl, fun k x hk => ?_⟩⟩
    have hlt : k < l.length := (List.getElem?_eq_some_iff.1 hk).1
    obtain ⟨e1, e2⟩ := rgC_at l k x hk
    have key : ∀ (j : Nat) (u : Value), j < l.length * 2 → (rgC l)[j]? = some u → w.cell? ⟨g, 0 + j, none⟩ = some u := fun j u hj hu => by
      rw [Nat.zero_add]
      refine (cell_of_row w g j cur _ (0, 0) hh).trans ?_
      have h5 : (cur.toList.take (l.length * 2))[j]? = some u := by rw [ht]; exact hu
      rw [List.getElem?_take, if_pos hj] at h5
      simpa using h5
    exact ⟨by have := key (k * 2) _ (by omega) e1; simpa using this, by have := key (k * 2 + 1) _ (by omega) e2; simpa [Nat.add_assoc] using this⟩
/-- A record as a value, with archives of a call's own. -/
def RcNew (B : Nat) (w : World) (v : Value) (r : PR) : Prop := ∃ u, v = .agg (rcC u r).toArray ∧ RgNew B w u r.rungs
theorem RcNew.out {B : Nat} {w : World} {v : Value} {r : PR} (h : RcNew B w v r) : RcOut w v r := by
  obtain ⟨u, hv, h⟩ := h
  exact ⟨u, hv, h.out⟩
theorem RgNew.mono {B B' : Nat} {w : World} {v : Value} {l : List (Int × Int)} (h : RgNew B' w v l) (hB : B ≤ B') : RgNew B w v l := by
  refine ⟨h.1, ?_⟩
  rcases h.2 with ⟨rfl, h0⟩ | ⟨g, cap, cur, rfl, hb, hr⟩
  · exact Or.inl ⟨rfl, h0⟩
  · exact Or.inr ⟨g, cap, cur, rfl, Nat.le_trans hB hb, hr⟩
theorem RgNew.nil (B : Nat) (w : World) : RgNew B w (.slice none 0 0) [] := ⟨rfl, .inl ⟨rfl, rfl⟩⟩
/-- Behind a store into a block that is older. -/
theorem RgNew.grown {B : Nat} {w w' : World} {v : Value} {l : List (Int × Int)} {row : Option Nat} (h : RgNew B w v l) (hg : w.grownBy w' row) (hr : ∀ g, row = some g → g < B) : RgNew B w' v l := by
  refine ⟨h.1, ?_⟩
  rcases h.2 with ⟨rfl, h0⟩ | ⟨g', cap, cur, rfl, hg', hh, hr'⟩
  · exact Or.inl ⟨rfl, h0⟩
  · have hlt' : g' < w.heap.size := ownsRow_lt h rfl
    exact Or.inr ⟨g', cap, cur, rfl, hg', (hg.block g' hlt' (fun e => by have := hr g' e.symm; omega)).trans hh, hr'⟩
theorem RgNew.below {B : Nat} {w w' : World} {v : Value} {l : List (Int × Int)} (h : RgNew B w v l) (hb : Below w.heap.size w w') : RgNew B w' v l := ownsRow_below h hb
theorem RcNew.below {B : Nat} {w w' : World} {v : Value} {r : PR} (h : RcNew B w v r) (hb : Below w.heap.size w w') : RcNew B w' v r := by
  obtain ⟨u, hv, h⟩ := h
  exact ⟨u, hv, h.below hb⟩
theorem RcNew.mono {B B' : Nat} {w : World} {v : Value} {r : PR} (h : RcNew B' w v r) (hB : B ≤ B') : RcNew B w v r := by
  obtain ⟨u, hv, h⟩ := h
  exact ⟨u, hv, h.mono hB⟩
end Go.Proofs.YtabbpgnenmpacaaDoor
namespace Go.Proofs.YtabbpgnenmpacaaDoor.SP
open Go.RowKit
open CR (below_next own_ge u8_wrap)
theorem dvar_grown {w w' : World} {b n : Nat} {row : Option Nat} (h : DVar w b n) (hg : w.grownBy w' row) (hn : row ≠ some b) : DVar w' b n := by
  have hb := hg.block b h.lt (fun e => hn e.symm)
  refine ⟨Nat.lt_of_lt_of_le h.lt hg.size, fun i hi => ?_, fun i hi => ?_⟩
  · obtain ⟨u, hu⟩ := h.c i hi
    exact ⟨u, (World.cell?_of_block hb).trans hu⟩
  · exact (World.frozen?_of_block hb).trans (h.f i hi)
/-- While a head is read: the reader, the variable of what is answered, the record's own, and its archives in a block of their own. -/
structure HS (w : World) (b : Nat) (W : World) (l : List Nat) (C : List Value) (u : Value) (g : List (Int × Int)) : Prop where
  rd : RdSt W b l
  bx : Holds W (w.heap.size + 1) C
  cl : C.length = 9
  dv : DVar W (w.heap.size + 1) 9
  d0 : DVar W w.heap.size 9
  row : RgNew (w.heap.size + 2) W u g
  gr : w.grownBy W (some b)
  sz : w.heap.size + 2 ≤ W.heap.size
  lt : b < w.heap.size
theorem HS.read {w : World} {b : Nat} {W W' : World} {l l' : List Nat} {C : List Value} {u : Value} {g : List (Int × Int)} (h : HS w b W l C u g) (hr : RdSt W' b l') (hg : W.grownBy W' (some b)) : HS w b W' l' C u g := by
  have hlt := h.lt
  have hsz := h.sz
  have k : ∀ i, i < W.heap.size → i ≠ b → W'.heap[i]? = W.heap[i]? := fun i hi hn => hg.block i hi (fun e => hn (by injection e))
  refine ⟨hr, fun j v hj => (World.cell?_of_block (k (w.heap.size + 1) (by omega) (by omega))).trans (h.bx j v hj), h.cl, dvar_grown h.dv hg (by intro e; injection e; omega), dvar_grown h.d0 hg (by intro e; injection e; omega), ?_, h.gr.trans hg, Nat.le_trans hsz hg.size, hlt⟩
  refine ⟨h.row.1, ?_⟩
  rcases h.row.2 with ⟨rfl, h0⟩ | ⟨g', cap, cur, rfl, hg', hh, hr'⟩
  · exact Or.inl ⟨rfl, h0⟩
  · have hlt' : g' < W.heap.size := ownsRow_lt h.row rfl
    exact Or.inr ⟨g', cap, cur, rfl, hg', (k g' hlt' (by omega)).trans hh, hr'⟩
theorem HS.other {w : World} {b : Nat} {W W' : World} {l : List Nat} {C : List Value} {u u' : Value} {g g' : List (Int × Int)} (h : HS w b W l C u g) (hs : ∀ i, i < w.heap.size + 2 → W'.heap[i]? = W.heap[i]?) (hz : W.heap.size ≤ W'.heap.size) (hq : W'.os = W.os ∧ W'.tape = W.tape ∧ W'.output = W.output) (hr : RgNew (w.heap.size + 2) W' u' g') : HS w b W' l C u' g' := by
  have hlt := h.lt
  have dk : ∀ {x n : Nat}, x < w.heap.size + 2 → DVar W x n → DVar W' x n := fun {x n} hx d =>
    ⟨Nat.lt_of_lt_of_le d.lt hz, fun i hi => by obtain ⟨q, hq⟩ := d.c i hi; exact ⟨q, (World.cell?_of_block (hs x hx)).trans hq⟩, fun i hi => (World.frozen?_of_block (a := ⟨x, i, none⟩) (hs x hx)).trans (d.f i hi)⟩
  exact ⟨h.rd.same (fun i hi => hs i (by omega)), fun j v hj => (World.cell?_of_block (hs (w.heap.size + 1) (by omega))).trans (h.bx j v hj), h.cl, dk (by omega) h.dv, dk (by omega) h.d0, hr, ⟨hq.1.trans h.gr.os, hq.2.1.trans h.gr.tape, hq.2.2.trans h.gr.output, Nat.le_trans h.gr.size hz, fun i hi hn => (hs i (by omega)).trans (h.gr.block i hi hn)⟩, Nat.le_trans h.sz hz, hlt⟩
theorem HS.set {w : World} {b : Nat} {W : World} {l : List Nat} {C : List Value} {u : Value} {g : List (Int × Int)} (h : HS w b W l C u g) (j : Nat) (hj : j < 9) (v : Value) : HS w b (W.setCell ⟨w.heap.size + 1, j, none⟩ v) l (C.set j v) u g := by
  have hlt := h.lt
  have k : ∀ i, i ≠ w.heap.size + 1 → (W.setCell ⟨w.heap.size + 1, j, none⟩ v).heap[i]? = W.heap[i]? := fun i hn => heap_setCell_other W ⟨w.heap.size + 1, j, none⟩ i v (fun e => hn e)
  refine ⟨h.rd.same (fun i hi => k i (by omega)), h.bx.set (by rw [h.cl]; exact hj) v, by rw [List.length_set]; exact h.cl, h.dv.set v, h.d0.set v, ?_, ⟨h.gr.os, h.gr.tape, h.gr.output, by simp; exact h.gr.size, fun i hi hn => (k i (by omega)).trans (h.gr.block i hi hn)⟩, by simp; exact h.sz, hlt⟩
  refine ⟨h.row.1, ?_⟩
  rcases h.row.2 with ⟨rfl, h0⟩ | ⟨g', cap, cur, rfl, hg', hh, hr'⟩
  · exact Or.inl ⟨rfl, h0⟩
  · exact Or.inr ⟨g', cap, cur, rfl, hg', (k g' (by omega)).trans hh, hr'⟩
theorem HS.alloc {w : World} {b : Nat} {W : World} {l : List Nat} {C : List Value} {u : Value} {g : List (Int × Int)} (h : HS w b W l C u g) (o : Obj) : HS w b (W.alloc o) l C u g :=
  h.other (fun i hi => Below.heap_alloc W o i (by have := h.sz; omega)) (by simp) ⟨rfl, rfl, rfl⟩ (ownsRow_below h.row (alloc_below W o))
theorem i64_small {n : Nat} (h : n < 9223372036854775808) : i64 n = (n : Int) := by
  unfold i64
  rw [Nat.mod_eq_of_lt (by omega), if_pos h]
theorem rgsOf_snoc : ∀ (q : Nat) (l : List Nat), rgsOf (q + 1) l = rgsOf q l ++ [(((nOf 4 (l.drop (6 * q)) : Nat) : Int), ((nOf 2 (l.drop (6 * q + 4)) : Nat) : Int))]
  | 0, l => rfl
  | q + 1, l => by
    have ih := rgsOf_snoc q (l.drop 6)
    show _ :: rgsOf (q + 1) (l.drop 6) = _ :: (rgsOf q (l.drop 6) ++ _)
    rw [ih, List.drop_drop, List.drop_drop, show 6 + 6 * q = 6 * (q + 1) from by omega, show 6 + (6 * q + 4) = 6 * (q + 1) + 4 from by omega]
theorem rgsOf_length : ∀ (q : Nat) (l : List Nat), (rgsOf q l).length = q
  | 0, _ => rfl
  | q + 1, l => by
    show (rgsOf q (l.drop 6)).length + 1 = q + 1
    rw [rgsOf_length q]
theorem hs_start {w w2 : World} {b : Nat} {l : List Nat} {C1 C2 cs : List Value} {t : TypeId} (h : RdSt w b l) (h1 : C1.length = 9) (h2 : cs.length = 9) (hp : Put ((w.alloc (.cells C1.toArray t)).alloc (.cells C2.toArray t)) w2 (w.heap.size + 1) cs) : HS w b w2 l cs (.slice none 0 0) [] := by
  have hlt := h.lt
  have e1 : (w.alloc (.cells C1.toArray t)).heap.size = w.heap.size + 1 := by simp
  have k : ∀ i, i < w.heap.size → w2.heap[i]? = w.heap[i]? := fun i hi =>
    (hp.grown.block i (by simp; omega) (fun e => by injection e; omega)).trans ((Below.heap_alloc _ _ i (by rw [e1]; omega)).trans (Below.heap_alloc w _ i hi))
  have d0 : DVar w2 w.heap.size 9 := by
    have d1 := DVar.alloc (w := w) C1.toArray t
    have d2 : DVar ((w.alloc (.cells C1.toArray t)).alloc (.cells C2.toArray t)) w.heap.size C1.toArray.size := d1.below (alloc_below _ _)
    have e : C1.toArray.size = 9 := by simpa using h1
    rw [e] at d2
    exact dvar_grown d2 hp.grown (by intro e; injection e; omega)
  refine ⟨h.same (fun i hi => k i (by omega)), hp.at_, h2, by have := hp.var; rw [h2] at this; exact this, d0, ⟨rfl, .inl ⟨rfl, rfl⟩⟩, ⟨hp.grown.os, hp.grown.tape, hp.grown.output, by rw [hp.size]; simp; omega, fun i hi _ => k i hi⟩, by rw [hp.size]; simp, hlt⟩
/-- A whole number is read, at a step of a region that draws. -/
theorem step_whole {ops : Array Oper} {o : Oper} {a : Act} {K : Act → World → Prop} {Q : Exit → Act → World → Prop} {E : Prop} {W : World} (hgd : o.guard = none) (x : Operand) (k : Nat) (T : Array TypeId) (b : Nat) (v : Value) (R : World → Prop)
    (ho : o.op = .call { callee := .value (.func 45), args := #[x, .const (.int .i64 (k : Nat))], argTypes := T }) (hx : a.eval x = .pointer (some ⟨b, 0, none⟩))
    (hcall : Calls Tryd.prog 45 #[.pointer (some ⟨b, 0, none⟩), .int .i64 (k : Nat)] W fun e w' => e = .returned v ∧ R w')
    (h : ∀ w', R w' → K (a.put o.dst v) w') : if Region.wanted o (yielded ops a.tmps) = true then Oper.wp Tryd.prog o a W K Q else E := by
  have hw : Region.wanted o (yielded ops a.tmps) = true := by simp [Region.wanted, hgd]
  rw [if_pos hw]
  have e : (execOp a.eval o).run Tryd.prog W = .ok (.enter 45 #[.pointer (some ⟨b, 0, none⟩), .int .i64 (k : Nat)]) W := by
    have hc : a.eval (.const (.int .i64 (k : Nat))) = .int .i64 (k : Nat) := rfl
    have hf : a.eval (.func 45) = .func (.func 45) #[] #[] := rfl
    have hb1 : (Tryd.f45.name == "runtime.NumGoroutine") = false := by kernel_rfl
    have hb2 : Tryd.f45.body.isNone = false := by kernel_rfl
    have hnm : ¬ Tryd.f45.name = "runtime.NumGoroutine" := fun h => by rw [h] at hb1; simp at hb1
    have hbd : ¬ Tryd.f45.body = none := fun h => by rw [h] at hb2; simp at hb2
    unfold execOp
    simp [ho, resolve, Deferred.ofValue, invoke, callFunc, hx, hc, hf, go_sem, hnm, hbd]
    first
      | exact hx
      | (unfold Act.eval at hx; exact hx)
      | (simp [Act.eval] at hx; exact hx)
      | (simp [Act.eval, go_sem] at hx; exact hx)
  unfold Oper.wp
  rw [e, Oper.upon_enter]
  refine hcall.mono ?_
  rintro _ w' ⟨rfl, h2⟩
  exact h w' h2
end Go.Proofs.YtabbpgnenmpacaaDoor.SP
