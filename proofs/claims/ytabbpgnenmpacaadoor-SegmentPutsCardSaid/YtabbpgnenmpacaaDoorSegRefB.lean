/-
  Contracts of the document's own functions of layer 8 (isobarref08): number, read.
-/
import Derived.Test.YtabbpgnenmpacaaDoorSegRefA
set_option linter.unusedSimpArgs false
set_option linter.unusedVariables false
namespace Go.Proofs.YtabbpgnenmpacaaDoor.SR
open Go.RowKit
open CR (below_next own_ge u8_wrap)
theorem nB_step {q M : Nat} (h : 0 < q) : nB q M = M % 256 :: nB (q - 1) (M / 256) := by
  obtain ⟨p, rfl⟩ : ∃ p, q = p + 1 := ⟨q - 1, by omega⟩
  rfl
set_option maxRecDepth 100000 in
set_option maxHeartbeats 2000000 in
theorem number_c (n : Int) (h0 : 0 ≤ n) (h1 : n < 18446744073709551616) (k : Nat) (hk : k ≤ 100) (w : World) :
    Calls Tryd.prog 25 #[.int .u64 n, .int .i64 (k : Nat)] w fun e w' => ∃ v', e = .returned v' ∧ ByNew w.heap.size w' v' (nB k n.toNat) ∧ Below w.heap.size w w' := by
  obtain ⟨T, hT⟩ : ∃ T, nB k n.toNat = T := ⟨_, rfl⟩
  rw [hT]
  have HT := Lib.hid hT
  obtain ⟨i0, hi0, hz0, hz1, hz2⟩ := info_parts (P := Tryd.prog) (e := 5) (z := .int .u8 0) (size := 1) (bytes := 1) (by kernel_rfl)
  clear hT
  go_enter Tryd.func25, Tryd.ntmps25
  go_wp2
  go_loopw [0, 5, 6] (fun nn bv i wr => ∃ (j : Nat) (M : Int) (acc : List Nat) (vr : Value), bv = vr ∧ nn = .int .u64 M ∧ i = .int .i64 j ∧ j ≤ k ∧ 0 ≤ M ∧ M < 18446744073709551616 ∧ Hid (acc.length = j ∧ acc ++ nB (k - j) M.toNat = T ∧ ByNew w.heap.size wr vr acc ∧ Below w.heap.size w wr)) (fun _ _ i _ => k - (intOf i).toNat)
  case atStart => exact ⟨0, n, [], _, rfl, rfl, rfl, Nat.zero_le _, h0, h1, rfl, by rw [HT.out.symm]; rfl, ByNew.none _ _, Below.refl _ _⟩
  case round =>
    obtain ⟨j, M, acc, vr, rfl, rfl, rfl, hj, m0, m1, HI⟩ := hrel
    by_cases hlt : j < k
    · obtain ⟨x, hx⟩ : ∃ x : Int, M % 256 = x := ⟨_, rfl⟩
      have hwx : IntKind.u8.wrap M = x := by rw [u8_wrap]; exact hx
      have hnext : (acc ++ [M.toNat % 256]) ++ nB (k - (j + 1)) (M / 256).toNat = T := by
        have h2 := HI.out.2.1
        rw [nB_step (show 0 < k - j by omega)] at h2
        rw [List.append_assoc, List.singleton_append, ← h2]
        have e : (M / 256).toNat = M.toNat / 256 := by omega
        rw [e]
        rfl
      have hown : ∀ (w' : World) (v' : Value), w'.ownsRow w.heap.size 5 1 v' (j + 1) (bys acc ++ [.int .u8 x]) → ByNew w.heap.size w' v' (acc ++ [M.toNat % 256]) := fun w' v' h => by
        unfold ByNew
        rw [List.length_append, bys_app, HI.out.1, List.length_singleton]
        have e : bys [M.toNat % 256] = [.int .u8 x] := by
          show [Value.int .u8 ((M.toNat % 256 : Nat) : Int)] = _
          rw [show ((M.toNat % 256 : Nat) : Int) = x by omega]
        rw [e]
        exact h
      have how : wr.ownsRow w.heap.size 5 1 u5 j (bys acc) := by
        have := HI.out.2.2.1
        unfold ByNew at this
        rw [HI.out.1] at this
        exact this
      have m2 : 0 ≤ M / 256 := by omega
      have m3 : M / 256 < 18446744073709551616 := by omega
      have HN := Lib.hid hnext; have HOWN := Lib.hid hown; have OW := Lib.hid how; have BR := Lib.hid HI.out.2.2.2; have HLA := Lib.hid HI.out.1
      clear hnext hown how hx HI
      go_wp2_with (at_builtin; refine wpList_append_any _ rfl (.tmp 12) (.tmp 15) _ rfl w.heap.size 5 i0 (.int .u8 0) 1 1 Tryd.underlying27 hi0 hz0 hz1 hz2 rfl (by decide) u5 j (bys acc) rfl (World.ownsRow.alloc OW.out _) _ (some ⟨wr.heap.size, 0, none⟩) 1 1 [.int .u8 x] rfl (Reads.of_own (World.ownsRow_lit (base := 0) (e := 5) (size := 1) wr #[.int .u8 x] 1 (Nat.zero_le _) (by decide) rfl)) (by simp [Value.oneCell']) (by simp only [maxLen]; omega) (by omega) (by have := BR.out.size; simp; omega) ?_; intro v4 w4 hown4 hg4 hat4)
      have hb4 : Below w.heap.size w w4 := Below.grown (BR.out.alloc BR.out.size _) hg4 (by have := BR.out.size; simp; omega) (own_ge OW.out)
      have NW := Lib.hid (HOWN.out _ _ hown4); have B4 := Lib.hid hb4
      clear hown4 hg4 hat4 hb4
      go_wp2
      go_roundw
      case rel => exact ⟨j + 1, M / 256, acc ++ [M.toNat % 256], _, rfl, rfl, by go_num, by omega, m2, m3, by rw [List.length_append, HLA.out]; rfl, HN.out, NW.out, B4.out⟩
      case measure => simp [intOf]; omega
    · obtain rfl : j = k := by omega
      have hfin : ByNew w.heap.size wr u5 T := by
        have h2 := HI.out.2.1
        rw [Nat.sub_self] at h2
        have e : acc = T := by
          rw [← h2]
          show acc = acc ++ []
          rw [List.append_nil]
        rw [← e]
        exact HI.out.2.2.1
      have HF := Lib.hid hfin; have BR := Lib.hid HI.out.2.2.2
      clear hfin HI
      go_wp2
      go_ret
      exact ⟨u5, rfl, HF.out, BR.out⟩
/-- A number shifted by eight, and a byte. -/
theorem or_byte64 (a b : Nat) (ha : a * 256 + b < 18446744073709551616) (hb : b < 256) : bits .or .u64 ((a : Int) * 256) (b : Int) = ((a * 256 + b : Nat) : Int) := by
  have e : ((a : Int) * 256) = ((a * 256 : Nat) : Int) := (Int.natCast_mul a 256).symm
  have h1 := Nat.lt_of_le_of_lt (Nat.le_add_right (a * 256) b) ha
  have h3 := Nat.lt_of_le_of_lt (Nat.le_add_left b (a * 256)) ha
  have h2 := Nat.two_pow_add_eq_or_of_lt (i := 8) (b := b) hb a
  rw [Nat.mul_comm] at h2
  rw [e]
  generalize a * 256 = z at *
  have h2' : z + b = z ||| b := h2
  rw [h2']
  exact u64_or_nat z b h1 h3
theorem nOf_step (k : Nat) (l : List Nat) (i : Nat) (h : i < l.length) : nOf (k + 1) (l.drop i) = l[i] + 256 * nOf k (l.drop (i + 1)) := by
  rw [List.drop_eq_getElem_cons h]
  rfl
theorem pow_le {k m : Nat} (h : k ≤ m) : 256 ^ k ≤ 256 ^ m := Nat.pow_le_pow_right (by decide) h
set_option maxRecDepth 100000 in
set_option maxHeartbeats 2000000 in
theorem read_no (A : Option Addr) (n c : Nat) (at' k : Nat) (hn : n ≤ 9223372036854775807) (hk : k ≤ 8) (ha : at' ≤ 9223372036854775807) (h : n < at' + k) (w : World) :
    Calls Tryd.prog 44 #[.slice A n c, .int .i64 (at' : Nat), .int .i64 (k : Nat)] w fun e w' => e = .returned (.tuple #[.int .u64 0, .bool false]) ∧ w = w' := by
  have h1 : (n : Int) - (k : Int) < (at' : Int) := by omega
  have h2 : ¬ (at' : Int) < 0 := by omega
  have h3 : -8 ≤ (n : Int) - (k : Int) := by omega
  go_enter Tryd.func44, Tryd.ntmps44
  go_wp2
  exact bodyPost_ret (v := .tuple #[.int .u64 0, .bool false]) (by simp [results, Tryd.results44, go_sem]) rfl ⟨rfl, rfl⟩
set_option maxRecDepth 100000 in
set_option maxHeartbeats 2000000 in
theorem read_c (v : Value) (l : List Nat) (hb : Bytes l) (hl : l.length ≤ 9223372036854775807) (at' k : Nat) (hk : k ≤ 8) (h : at' + k ≤ l.length) (w : World) (ho : ByOut w v l) :
    Calls Tryd.prog 44 #[v, .int .i64 (at' : Nat), .int .i64 (k : Nat)] w fun e w' => e = .returned (.tuple #[.int .u64 (nOf k (l.drop at') : Nat), .bool true]) ∧ w = w' := by
  obtain ⟨A, c, rfl, hc, hx⟩ := ho
  obtain ⟨n, hln⟩ : ∃ n, l.length = n := ⟨_, rfl⟩
  rw [hln] at hl hc h ⊢
  obtain ⟨T, hT⟩ : ∃ T, nOf k (l.drop at') = T := ⟨_, rfl⟩
  rw [hT]
  have HX := Lib.hid hx; have HL := Lib.hid hln; have HB := Lib.hid hb; have HT := Lib.hid hT
  have h1 : ¬ (n : Int) - (k : Int) < (at' : Int) := by omega
  have h2 : ¬ (at' : Int) < 0 := by omega
  have h3 : -8 ≤ (n : Int) - (k : Int) := by omega
  clear hx hln hb hT
  go_enter Tryd.func44, Tryd.ntmps44
  go_wp2
  go_loop [8, 9] (fun s i => ∃ (q N : Nat), q ≤ k ∧ s = .int .u64 (N : Nat) ∧ i = .int .i64 ((q : Int) - 1) ∧ Hid (N = nOf (k - q) (l.drop (at' + q)))) (fun _ i => (intOf i + 1).toNat)
  case atStart => exact ⟨k, 0, Nat.le_refl _, rfl, rfl, by rw [Nat.sub_self]; rfl⟩
  case round =>
    obtain ⟨q, N, hq, rfl, rfl, HI⟩ := hrel
    by_cases hlt : 0 < q
    · obtain ⟨p, rfl⟩ : ∃ p, q = p + 1 := ⟨q - 1, by omega⟩
      have hpl : at' + p < l.length := by rw [HL.out]; omega
      obtain ⟨b, off, rfl, ha⟩ := HX.out (by intro e; rw [e] at hpl; exact absurd hpl (Nat.not_lt_zero _))
      have c0 := ha (at' + p) _ (List.getElem?_eq_getElem hpl)
      have hx1 : l[at' + p] < 256 := HB.out _ (List.getElem_mem hpl)
      have hst := nOf_step (k - (p + 1)) l (at' + p) hpl
      have hN : N < 256 ^ (k - (p + 1)) := by rw [HI.out]; exact nOf_lt _ _ (HB.out.drops _)
      have hN7 := Nat.lt_of_lt_of_le hN (pow_le (show k - (p + 1) ≤ 7 by omega))
      have e7 : (256 : Nat) ^ 7 = 72057594037927936 := by decide
      rw [e7] at hN7
      generalize l[at' + p] = x at *
      have hor := or_byte64 N x (by omega) hx1
      have hNN : nOf (k - p) (l.drop (at' + p)) = N * 256 + x := by
        rw [show k - p = (k - (p + 1)) + 1 from by omega, hst, HI.out, ← Nat.add_assoc at' p 1]
        omega
      obtain ⟨N', hN'⟩ : ∃ N', N * 256 + x = N' := ⟨_, rfl⟩
      rw [hN'] at hor hNN
      have HNN := Lib.hid hNN
      obtain ⟨pp, hpp⟩ : ∃ pp, at' + p = pp := ⟨_, rfl⟩
      have hppi : (at' : Int) + ((p : Int) + 1 - 1) = (pp : Int) := by omega
      have hppn : (pp : Int) < (n : Int) := by rw [HL.out] at hpl; omega
      rw [hpp] at c0
      clear hst hN hNN hN' ha hpl HI e7
      go_wp2
      exact ⟨⟨p, N', by omega, rfl, rfl, Lib.hid HNN.out.symm⟩, by simp [intOf]⟩
    · obtain rfl : q = 0 := by omega
      have hfin : N = T := by
        have := HI.out
        rw [Nat.sub_zero, Nat.add_zero] at this
        rw [this]
        exact HT.out
      subst hfin
      clear HI
      go_wp2
      exact bodyPost_ret (v := .tuple #[.int .u64 (N : Nat), .bool true]) (by simp [results, Tryd.results44, go_sem]) rfl ⟨rfl, rfl⟩
end Go.Proofs.YtabbpgnenmpacaaDoor.SR
