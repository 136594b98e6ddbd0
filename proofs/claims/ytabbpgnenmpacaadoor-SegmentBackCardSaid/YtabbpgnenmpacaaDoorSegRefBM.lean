/-
  Contracts of the document's own functions of layer 8 (isobarref08): time, Rungs, SameRungs, number.
-/
import Derived.Test.YtabbpgnenmpacaaDoorSegRowM
import Derived.BigRegion
set_option linter.unusedSimpArgs false
set_option linter.unusedVariables false
namespace Go.Proofs.YtabbpgnenmpacaaDoor.SR
open Go.RowKit
open CR (below_next own_ge u8_wrap)
set_option maxRecDepth 100000 in
set_option maxHeartbeats 1000000 in
theorem time_c (t : Int) (w : World) : Calls Tryd.prog 33 #[.int .i64 t] w fun e w' => e = .returned (.bool (tmOk t)) ∧ w = w' := by
  obtain ⟨d, hd⟩ : ∃ d, tmOk t = d := ⟨_, rfl⟩
  rw [hd]
  unfold tmOk at hd
  by_cases h0 : 0 ≤ t
  · by_cases h1 : t ≤ 1099511627776
    · rw [decide_eq_true ⟨h0, h1⟩] at hd
      subst hd
      go_enter Tryd.func33, Tryd.ntmps33
      go_wp2
      go_ret
      exact ⟨rfl, rfl⟩
    · rw [decide_eq_false (fun h => h1 h.2)] at hd
      subst hd
      go_enter Tryd.func33, Tryd.ntmps33
      go_wp2
      go_ret
      exact ⟨rfl, rfl⟩
  · rw [decide_eq_false (fun h => h0 h.1)] at hd
    subst hd
    go_enter Tryd.func33, Tryd.ntmps33
    go_wp2
    go_ret
    exact ⟨rfl, rfl⟩
set_option maxRecDepth 100000 in
set_option maxHeartbeats 2000000 in
theorem rungs_c (v : Value) (l : List (Int × Int)) (hl : l.length ≤ 100000) (w : World) (h : RgOut w v l) : Calls Tryd.prog 32 #[v] w fun e w' => e = .returned (.bool (rgsOk l)) ∧ w = w' := by
  obtain ⟨A, c, rfl, hc, hx⟩ := h
  obtain ⟨n, hln⟩ : ∃ n, l.length = n := ⟨_, rfl⟩
  rw [hln] at hl hc ⊢
  obtain ⟨d, hd⟩ : ∃ d, rgsOk l = d := ⟨_, rfl⟩
  rw [hd]
  have HX := Lib.hid hx; have HL := Lib.hid hln; have HD := Lib.hid hd
  clear hx hln hd
  go_enter Tryd.func32, Tryd.ntmps32
  go_wp2
  go_loop [3] (fun i => ∃ k : Nat, k ≤ n ∧ i = .int .i64 k ∧ Hid (∀ (j : Nat) (g : Int × Int), j < k → l[j]? = some g → rgOk g = true)) (fun i => n - (intOf i).toNat)
  case atStart => exact ⟨0, Nat.zero_le _, rfl, fun j g h => absurd h (Nat.not_lt_zero _)⟩
  case round =>
    obtain ⟨k, hk, rfl, HI⟩ := hrel
    by_cases hlt : k < n
    · have hkl : k < l.length := by rw [HL.out]; exact hlt
      obtain ⟨b, off, rfl, ha⟩ := HX.out (by intro e; rw [e] at hkl; exact absurd hkl (Nat.not_lt_zero _))
      have hp0 := List.getElem?_eq_getElem hkl
      obtain ⟨c0, c1⟩ := ha k _ hp0
      have hbad : rgOk l[k] = false → d = false := fun hb => by
        rw [← HD.out]
        unfold rgsOk
        have : l.all rgOk = false := by
          rw [List.all_eq_false]
          exact ⟨_, List.getElem_mem hkl, by rw [hb]; decide⟩
        rw [this, Bool.false_and]
      have hok : rgOk l[k] = true → ∀ (j : Nat) (g : Int × Int), j < k + 1 → l[j]? = some g → rgOk g = true := fun hb j g h1 h2 => by
        rcases Nat.lt_or_ge j k with h | h
        · exact HI.out j g h h2
        · obtain rfl : j = k := by omega
          rw [hp0] at h2
          obtain rfl := Option.some.inj h2
          exact hb
      have hrg : rgOk l[k] = decide (1 ≤ (l[k]).1 ∧ (l[k]).1 ≤ 86400 ∧ 1 ≤ (l[k]).2 ∧ (l[k]).2 ≤ 400) := rfl
      rw [hrg] at hbad hok
      generalize (l[k]).1 = x at *
      generalize (l[k]).2 = y at *
      have BAD := Lib.hid hbad; have OK := Lib.hid hok
      clear hbad hok hrg hp0 ha hkl
      by_cases h1 : 1 ≤ x
      · by_cases h2 : x ≤ 86400
        · by_cases h3 : 1 ≤ y
          · by_cases h4 : y ≤ 400
            · have GO := Lib.hid (OK.out (decide_eq_true ⟨h1, h2, h3, h4⟩))
              go_wp2
              go_round
              case rel => exact ⟨k + 1, by omega, by go_num, GO.out⟩
              case measure => simp [intOf]; omega
            · have e := BAD.out (decide_eq_false (fun h => h4 h.2.2.2))
              subst e
              go_wp2
              go_ret
              exact ⟨rfl, rfl⟩
          · have e := BAD.out (decide_eq_false (fun h => h3 h.2.2.1))
            subst e
            go_wp2
            go_ret
            exact ⟨rfl, rfl⟩
        · have e := BAD.out (decide_eq_false (fun h => h2 h.2.1))
          subst e
          go_wp2
          go_ret
          exact ⟨rfl, rfl⟩
      · have e := BAD.out (decide_eq_false (fun h => h1 h.1))
        subst e
        go_wp2
        go_ret
        exact ⟨rfl, rfl⟩
    · obtain rfl : k = n := by omega
      have hall : l.all rgOk = true := by
        rw [List.all_eq_true]
        intro g hg
        obtain ⟨j, hj⟩ := List.getElem?_of_mem hg
        exact HI.out j g (by rw [← HL.out]; exact (List.getElem?_eq_some_iff.1 hj).1) hj
      have hdd : d = decide (1 ≤ k ∧ k ≤ 4) := by
        rw [← HD.out]
        unfold rgsOk
        rw [hall, HL.out, Bool.true_and]
      clear hall
      by_cases h1 : 1 ≤ k
      · by_cases h4 : k ≤ 4
        · rw [decide_eq_true ⟨h1, h4⟩] at hdd
          subst hdd
          have h4i : (k : Int) ≤ 4 := by omega
          have h1i : (1 : Int) ≤ (k : Int) := by omega
          go_wp2
          go_ret
          exact ⟨rfl, rfl⟩
        · rw [decide_eq_false (fun h => h4 h.2)] at hdd
          subst hdd
          have h4i : ¬ (k : Int) ≤ 4 := by omega
          have h1i : (1 : Int) ≤ (k : Int) := by omega
          go_wp2
          go_ret
          exact ⟨rfl, rfl⟩
      · rw [decide_eq_false (fun h => h1 h.1)] at hdd
        subst hdd
        have h1i : ¬ (1 : Int) ≤ (k : Int) := by omega
        go_wp2
        go_ret
        exact ⟨rfl, rfl⟩
set_option maxRecDepth 100000 in
set_option maxHeartbeats 2000000 in
theorem sameRungs_c (v1 v2 : Value) (l1 l2 : List (Int × Int)) (h1 : l1.length ≤ 100000) (h2 : l2.length ≤ 100000) (w : World) (f1 : RgOut w v1 l1) (f2 : RgOut w v2 l2) :
    Calls Tryd.prog 37 #[v1, v2] w fun e w' => e = .returned (.bool (decide (l1 = l2))) ∧ Below w.heap.size w w' := by
  obtain ⟨A1, c1, rfl, hc1, x1⟩ := f1
  obtain ⟨A2, c2, rfl, hc2, x2⟩ := f2
  obtain ⟨n1, hn1⟩ : ∃ n, l1.length = n := ⟨_, rfl⟩
  obtain ⟨n2, hn2⟩ : ∃ n, l2.length = n := ⟨_, rfl⟩
  rw [hn1] at h1 hc1 ⊢
  rw [hn2] at h2 hc2 ⊢
  by_cases hne : n1 = n2
  · subst hne
    have X1 := Lib.hid x1; have X2 := Lib.hid x2; have N1 := Lib.hid hn1; have N2 := Lib.hid hn2
    clear x1 x2 hn1 hn2
    go_enter Tryd.func37, Tryd.ntmps37
    go_wp2
    go_loopw [5] (fun i wr => ∃ k : Nat, k ≤ n1 ∧ i = .int .i64 k ∧ Hid ((∀ j, j < k → l1[j]? = l2[j]?) ∧ Below w.heap.size w wr)) (fun i _ => n1 - (intOf i).toNat)
    case atStart => exact ⟨0, Nat.zero_le _, rfl, fun j h => absurd h (Nat.not_lt_zero j), Below.refl _ _⟩
    case round =>
      obtain ⟨k, hk, rfl, HI⟩ := hrel
      by_cases hlt : k < n1
      · have hl1 : k < l1.length := by rw [N1.out]; exact hlt
        have hl2 : k < l2.length := by rw [N2.out]; exact hlt
        obtain ⟨b1, o1, rfl, a1⟩ := X1.out (by intro h; rw [h] at hl1; exact absurd hl1 (Nat.not_lt_zero _))
        obtain ⟨b2, o2, rfl, a2⟩ := X2.out (by intro h; rw [h] at hl2; exact absurd hl2 (Nat.not_lt_zero _))
        obtain ⟨y1, y2⟩ := (a1.below HI.out.2) k _ (List.getElem?_eq_getElem hl1)
        obtain ⟨z1, z2⟩ := (a2.below HI.out.2) k _ (List.getElem?_eq_getElem hl2)
        have e1 : l1[k]? = some l1[k] := List.getElem?_eq_getElem hl1
        have e2 : l2[k]? = some l2[k] := List.getElem?_eq_getElem hl2
        obtain ⟨⟨p1, p2⟩, hp⟩ : ∃ p, l1[k] = p := ⟨_, rfl⟩
        obtain ⟨⟨q1, q2⟩, hq⟩ : ∃ q, l2[k] = q := ⟨_, rfl⟩
        rw [hp] at e1 y1 y2
        rw [hq] at e2 z1 z2
        have E1 := Lib.hid e1; have E2 := Lib.hid e2
        clear e1 e2 a1 a2 hp hq
        by_cases hpq1 : p1 = q1
        · subst hpq1
          by_cases hpq2 : p2 = q2
          · subst hpq2
            have SE := Lib.hid (show l1[k]? = l2[k]? by rw [E1.out, E2.out])
            go_wp2
            go_region
            go_wp2
            go_roundw
            case rel =>
              refine ⟨k + 1, by omega, by go_num, fun j hj => ?_, (Below.drew HI.out.2)⟩
              by_cases he : j = k
              · rw [he, SE.out]
              · exact HI.out.1 j (by omega)
            case measure => simp [intOf]; omega
          · have hd : decide (l1 = l2) = false := by
              rw [decide_eq_false_iff_not]
              intro h
              have h3 := E1.out
              rw [h, E2.out] at h3
              injection h3 with h3
              injection h3 with h3 h4
              exact hpq2 h4.symm
            have HD := Lib.hid hd
            clear hd
            go_wp2
            go_region
            go_wp2
            go_ret
            exact ⟨congrArg (fun z => Ending.returned (.bool z)) HD.out.symm, (Below.drew HI.out.2)⟩
        · have hd : decide (l1 = l2) = false := by
            rw [decide_eq_false_iff_not]
            intro h
            have h3 := E1.out
            rw [h, E2.out] at h3
            injection h3 with h3
            injection h3 with h3 h4
            exact hpq1 h3.symm
          have HD := Lib.hid hd
          clear hd
          go_wp2
          go_region
          go_wp2
          go_ret
          exact ⟨congrArg (fun z => Ending.returned (.bool z)) HD.out.symm, (Below.drew HI.out.2)⟩
      · obtain rfl : k = n1 := by omega
        have hd : decide (l1 = l2) = true := by
          rw [decide_eq_true_eq]
          refine List.ext_getElem? fun j => ?_
          rcases Nat.lt_or_ge j k with hj | hj
          · exact HI.out.1 j hj
          · rw [List.getElem?_eq_none (by rw [N1.out]; exact hj), List.getElem?_eq_none (by rw [N2.out]; exact hj)]
        have HD := Lib.hid hd
        clear hd
        go_wp2
        go_ret
        exact ⟨congrArg (fun z => Ending.returned (.bool z)) HD.out.symm, HI.out.2⟩
  · have hd : decide (l1 = l2) = false := by
      rw [decide_eq_false_iff_not]
      intro h
      rw [h, hn2] at hn1
      exact hne hn1.symm
    have hni : ¬ (n1 : Int) = (n2 : Int) := by omega
    have HD := Lib.hid hd
    clear hd hne x1 x2 hn1 hn2
    go_enter Tryd.func37, Tryd.ntmps37
    go_wp2
    go_ret
    exact ⟨congrArg (fun z => Ending.returned (.bool z)) HD.out.symm, Below.refl _ _⟩
end Go.Proofs.YtabbpgnenmpacaaDoor.SR
/-
  Contracts of the document's own functions of layer 8 (isobarref08): number, read.
-/
set_option linter.unusedSimpArgs false
set_option linter.unusedVariables false
namespace Go.Proofs.YtabbpgnenmpacaaDoor.SR
open Go.RowKit
open CR (below_next own_ge u8_wrap)
theorem nB_step {q M : Nat} (h : 0 < q) : nB q M = M % 256 :: nB (q - 1) (M / 256) := by
  obtain ⟨p, rfl⟩ : ∃ p, q = p + 1 := ⟨q - 1, by omega⟩
  rfl
set_option maxRecDepth 100000 in
set_option maxHeartbeats 2000000 in
theorem number_c (n : Int) (h0 : 0 ≤ n) (h1 : n < 18446744073709551616) (k : Nat) (hk : k ≤ 100) (w : World) :
    Calls Tryd.prog 25 #[.int .u64 n, .int .i64 (k : Nat)] w fun e w' => ∃ v', e = .returned v' ∧ ByNew w.heap.size w' v' (nB k n.toNat) ∧ Below w.heap.size w w' := by
  obtain ⟨T, hT⟩ : ∃ T, nB k n.toNat = T := ⟨_, rfl⟩
  rw [hT]
  have HT := Lib.hid hT
  obtain ⟨i0, hi0, hz0, hz1, hz2⟩ := info_parts (P := Tryd.prog) (e := 5) (z := .int .u8 0) (size := 1) (bytes := 1) (by kernel_rfl)
  clear hT
  go_enter Tryd.func25, Tryd.ntmps25
  go_wp2
  go_loopw [0, 5, 6] (fun nn bv i wr => ∃ (j : Nat) (M : Int) (acc : List Nat) (vr : Value), bv = vr ∧ nn = .int .u64 M ∧ i = .int .i64 j ∧ j ≤ k ∧ 0 ≤ M ∧ M < 18446744073709551616 ∧ Hid (acc.length = j ∧ acc ++ nB (k - j) M.toNat = T ∧ ByNew w.heap.size wr vr acc ∧ Below w.heap.size w wr)) (fun _ _ i _ => k - (intOf i).toNat)
  case atStart => exact ⟨0, n, [], _, rfl, rfl, rfl, Nat.zero_le _, h0, h1, rfl, by rw [HT.out.symm]; rfl, ByNew.none _ _, Below.refl _ _⟩
  case round =>
    obtain ⟨j, M, acc, vr, rfl, rfl, rfl, hj, m0, m1, HI⟩ := hrel
    by_cases hlt : j < k
    · obtain ⟨x, hx⟩ : ∃ x : Int, M % 256 = x := ⟨_, rfl⟩
      have hwx : IntKind.u8.wrap M = x := by rw [u8_wrap]; exact hx
      have hnext : (acc ++ [M.toNat % 256]) ++ nB (k - (j + 1)) (M / 256).toNat = T := by
        have h2 := HI.out.2.1
        rw [nB_step (show 0 < k - j by omega)] at h2
        rw [List.append_assoc, List.singleton_append, ← h2]
        have e : (M / 256).toNat = M.toNat / 256 := by omega
        rw [e]
        rfl
      have hown : ∀ (w' : World) (v' : Value), w'.ownsRow w.heap.size 5 1 v' (j + 1) (bys acc ++ [.int .u8 x]) → ByNew w.heap.size w' v' (acc ++ [M.toNat % 256]) := fun w' v' h => by
        unfold ByNew
        rw [List.length_append, bys_app, HI.out.1, List.length_singleton]
        have e : bys [M.toNat % 256] = [.int .u8 x] := by
          show [Value.int .u8 ((M.toNat % 256 : Nat) : Int)] = _
          rw [show ((M.toNat % 256 : Nat) : Int) = x by omega]
        rw [e]
        exact h
      have how : wr.ownsRow w.heap.size 5 1 u5 j (bys acc) := by
        have := HI.out.2.2.1
        unfold ByNew at this
        rw [HI.out.1] at this
        exact this
      have m2 : 0 ≤ M / 256 := by omega
      have m3 : M / 256 < 18446744073709551616 := by omega
      have HN := Lib.hid hnext; have HOWN := Lib.hid hown; have OW := Lib.hid how; have BR := Lib.hid HI.out.2.2.2; have HLA := Lib.hid HI.out.1
      clear hnext hown how hx HI
      go_wp2_with (at_builtin; refine wpList_append_any _ rfl (.tmp 12) (.tmp 15) _ rfl w.heap.size 5 i0 (.int .u8 0) 1 1 Tryd.underlying27 hi0 hz0 hz1 hz2 rfl (by decide) u5 j (bys acc) rfl (World.ownsRow.alloc OW.out _) _ (some ⟨wr.heap.size, 0, none⟩) 1 1 [.int .u8 x] rfl (Reads.of_own (World.ownsRow_lit (base := 0) (e := 5) (size := 1) wr #[.int .u8 x] 1 (Nat.zero_le _) (by decide) rfl)) (by simp [Value.oneCell']) (by simp only [maxLen]; omega) (by omega) (by have := BR.out.size; simp; omega) ?_; intro v4 w4 hown4 hg4 hat4)
      have hb4 : Below w.heap.size w w4 := Below.grown (BR.out.alloc BR.out.size _) hg4 (by have := BR.out.size; simp; omega) (own_ge OW.out)
      have NW := Lib.hid (HOWN.out _ _ hown4); have B4 := Lib.hid hb4
      clear hown4 hg4 hat4 hb4
      go_wp2
      go_roundw
      case rel => exact ⟨j + 1, M / 256, acc ++ [M.toNat % 256], _, rfl, rfl, by go_num, by omega, m2, m3, by rw [List.length_append, HLA.out]; rfl, HN.out, NW.out, B4.out⟩
      case measure => simp [intOf]; omega
    · obtain rfl : j = k := by omega
      have hfin : ByNew w.heap.size wr u5 T := by
        have h2 := HI.out.2.1
        rw [Nat.sub_self] at h2
        have e : acc = T := by
          rw [← h2]
          show acc = acc ++ []
          rw [List.append_nil]
        rw [← e]
        exact HI.out.2.2.1
      have HF := Lib.hid hfin; have BR := Lib.hid HI.out.2.2.2
      clear hfin HI
      go_wp2
      go_ret
      exact ⟨u5, rfl, HF.out, BR.out⟩
/-- A number shifted by eight, and a byte. -/
theorem or_byte64 (a b : Nat) (ha : a * 256 + b < 18446744073709551616) (hb : b < 256) : bits .or .u64 ((a : Int) * 256) (b : Int) = ((a * 256 + b : Nat) : Int) := by
  have e : ((a : Int) * 256) = ((a * 256 : Nat) : Int) := (Int.natCast_mul a 256).symm
  have h1 := Nat.lt_of_le_of_lt (Nat.le_add_right (a * 256) b) ha
  have h3 := Nat.lt_of_le_of_lt (Nat.le_add_left b (a * 256)) ha
  have h2 := Nat.two_pow_add_eq_or_of_lt (i := 8) (b := b) hb a
  rw [Nat.mul_comm] at h2
  rw [e]
  generalize a * 256 = z at *
  have h2' : z + b = z ||| b := h2
  rw [h2']
  exact u64_or_nat z b h1 h3
theorem nOf_step (k : Nat) (l : List Nat) (i : Nat) (h : i < l.length) : nOf (k + 1) (l.drop i) = l[i] + 256 * nOf k (l.drop (i + 1)) := by
  rw [List.drop_eq_getElem_cons h]
  rfl
theorem pow_le {k m : Nat} (h : k ≤ m) : 256 ^ k ≤ 256 ^ m := Nat.pow_le_pow_right (by decide) h
set_option maxRecDepth 100000 in
set_option maxHeartbeats 2000000 in
theorem read_no (A : Option Addr) (n c : Nat) (at' k : Nat) (hn : n ≤ 9223372036854775807) (hk : k ≤ 8) (ha : at' ≤ 9223372036854775807) (h : n < at' + k) (w : World) :
    Calls Tryd.prog 44 #[.slice A n c, .int .i64 (at' : Nat), .int .i64 (k : Nat)] w fun e w' => e = .returned (.tuple #[.int .u64 0, .bool false]) ∧ w = w' := by
  have h1 : (n : Int) - (k : Int) < (at' : Int) := by omega
  have h2 : ¬ (at' : Int) < 0 := by omega
  have h3 : -8 ≤ (n : Int) - (k : Int) := by omega
  go_enter Tryd.func44, Tryd.ntmps44
  go_wp2
  exact bodyPost_ret (v := .tuple #[.int .u64 0, .bool false]) (by simp [results, Tryd.results44, go_sem]) rfl ⟨rfl, rfl⟩
set_option maxRecDepth 100000 in
set_option maxHeartbeats 2000000 in
theorem read_c (v : Value) (l : List Nat) (hb : Bytes l) (hl : l.length ≤ 9223372036854775807) (at' k : Nat) (hk : k ≤ 8) (h : at' + k ≤ l.length) (w : World) (ho : ByOut w v l) :
    Calls Tryd.prog 44 #[v, .int .i64 (at' : Nat), .int .i64 (k : Nat)] w fun e w' => e = .returned (.tuple #[.int .u64 (nOf k (l.drop at') : Nat), .bool true]) ∧ w = w' := by
  obtain ⟨A, c, rfl, hc, hx⟩ := ho
  obtain ⟨n, hln⟩ : ∃ n, l.length = n := ⟨_, rfl⟩
  rw [hln] at hl hc h ⊢
  obtain ⟨T, hT⟩ : ∃ T, nOf k (l.drop at') = T := ⟨_, rfl⟩
  rw [hT]
  have HX := Lib.hid hx; have HL := Lib.hid hln; have HB := Lib.hid hb; have HT := Lib.hid hT
  have h1 : ¬ (n : Int) - (k : Int) < (at' : Int) := by omega
  have h2 : ¬ (at' : Int) < 0 := by omega
  have h3 : -8 ≤ (n : Int) - (k : Int) := by omega
  clear hx hln hb hT
  go_enter Tryd.func44, Tryd.ntmps44
  go_wp2
  go_loop [8, 9] (fun s i => ∃ (q N : Nat), q ≤ k ∧ s = .int .u64 (N : Nat) ∧ i = .int .i64 ((q : Int) - 1) ∧ Hid (N = nOf (k - q) (l.drop (at' + q)))) (fun _ i => (intOf i + 1).toNat)
  case atStart => exact ⟨k, 0, Nat.le_refl _, rfl, rfl, by rw [Nat.sub_self]; rfl⟩
  case round =>
    obtain ⟨q, N, hq, rfl, rfl, HI⟩ := hrel
    by_cases hlt : 0 < q
    · obtain ⟨p, rfl⟩ : ∃ p, q = p + 1 := ⟨q - 1, by omega⟩
      have hpl : at' + p < l.length := by rw [HL.out]; omega
      obtain ⟨b, off, rfl, ha⟩ := HX.out (by intro e; rw [e] at hpl; exact absurd hpl (Nat.not_lt_zero _))
      have c0 := ha (at' + p) _ (List.getElem?_eq_getElem hpl)
      have hx1 : l[at' + p] < 256 := HB.out _ (List.getElem_mem hpl)
      have hst := nOf_step (k - (p + 1)) l (at' + p) hpl
      have hN : N < 256 ^ (k - (p + 1)) := by rw [HI.out]; exact nOf_lt _ _ (HB.out.drops _)
      have hN7 := Nat.lt_of_lt_of_le hN (pow_le (show k - (p + 1) ≤ 7 by omega))
      have e7 : (256 : Nat) ^ 7 = 72057594037927936 := by decide
      rw [e7] at hN7
      generalize l[at' + p] = x at *
      have hor := or_byte64 N x (by omega) hx1
      have hNN : nOf (k - p) (l.drop (at' + p)) = N * 256 + x := by
        rw [show k - p = (k - (p + 1)) + 1 from by omega, hst, HI.out, ← Nat.add_assoc at' p 1]
        omega
      obtain ⟨N', hN'⟩ : ∃ N', N * 256 + x = N' := ⟨_, rfl⟩
      rw [hN'] at hor hNN
      have HNN := Lib.hid hNN
      obtain ⟨pp, hpp⟩ : ∃ pp, at' + p = pp := ⟨_, rfl⟩
      have hppi : (at' : Int) + ((p : Int) + 1 - 1) = (pp : Int) := by omega
      have hppn : (pp : Int) < (n : Int) := by rw [HL.out] at hpl; omega
      rw [hpp] at c0
      clear hst hN hNN hN' ha hpl HI e7
      go_wp2
      exact ⟨⟨p, N', by omega, rfl, rfl, Lib.hid HNN.out.symm⟩, by simp [intOf]⟩
    · obtain rfl : q = 0 := by omega
      have hfin : N = T := by
        have := HI.out
        rw [Nat.sub_zero, Nat.add_zero] at this
        rw [this]
        exact HT.out
      subst hfin
      clear HI
      go_wp2
      exact bodyPost_ret (v := .tuple #[.int .u64 (N : Nat), .bool true]) (by simp [results, Tryd.results44, go_sem]) rfl ⟨rfl, rfl⟩
end Go.Proofs.YtabbpgnenmpacaaDoor.SR
