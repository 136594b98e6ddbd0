/-
  Contracts of the document's own functions of layers 3 and 10: Digits, Print.
-/
import Derived.Test.YtjbacbbbhedmlaaDoorRetRH
set_option linter.unusedSimpArgs false
set_option linter.unusedVariables false
namespace Go.Proofs.YtjbacbbbhedmlaaDoor.RR
open Go.RowKit
theorem digits_c (n : Nat) (hn : n < 18446744073709551616) (w : World) :
    Calls Tryd.prog 30 #[.int .u64 n] w fun e w' => e = .returned (.string (str (digs n))) ∧ w = w' := by
  go_enter Tryd.func30, Tryd.ntmps30
  go_wp2
  go_loop [0, 3] (fun x s => ∃ (m : Nat) (T : ByteArray) (S : List Nat), x = .int .u64 m ∧ s = .string T ∧ m ≤ n ∧ T.size ≤ 20 ∧ Hid (T = str S ∧ S.length = T.size ∧ ((S = [] ∧ m = n) ∨ (S ≠ [] ∧ digs n = pre m ++ S))))
    (fun x s => (intOf x).toNat + (match s with | .string b => if b.size = 0 then 1 else 0 | _ => 0))
  case atStart => exact ⟨n, ⟨#[]⟩, [], rfl, rfl, Nat.le_refl _, by decide, rfl, rfl, .inl ⟨rfl, rfl⟩⟩
  case round =>
    obtain ⟨m, T, S, rfl, rfl, hm, hS, HI⟩ := hrel
    obtain ⟨z, hz⟩ : ∃ z, T.toList.isEmpty = z := ⟨_, rfl⟩
    have HZ := Lib.hid (show z = true ↔ S = [] from by
      obtain ⟨rfl, hl, -⟩ := HI.out
      rw [← hz, List.isEmpty_iff, ByteArray.toList_eq]
      simp [str])
    have hcat : ¬ 9223372036854775807 < 1 + T.size := by omega
    by_cases hm0 : m = 0
    · subst hm0
      cases z
      · have hS' := Lib.hid (show digs n = S from by
          rcases HI.out.2.2 with ⟨h, -⟩ | ⟨-, h⟩
          · exact absurd (HZ.out.2 h) (by decide)
          · exact h)
        have hT := Lib.hid HI.out.1
        clear HI HZ
        go_wp2
        go_ret
        refine ⟨?_, rfl⟩
        rw [hT.out, hS'.out]; rfl
      · have hS' := Lib.hid (HZ.out.1 rfl)
        have hn0 := Lib.hid (show n = 0 from by
          rcases HI.out.2.2 with ⟨-, h⟩ | ⟨h, -⟩
          · exact h.symm
          · exact absurd hS'.out h)
        have hT := Lib.hid (show T = ⟨#[]⟩ from by rw [HI.out.1, hS'.out]; rfl)
        have hTs : T.size = 0 := by rw [hT.out]; rfl
        obtain ⟨D, hD⟩ : ∃ D, (ByteArray.mk #[48, 49, 50, 51, 52, 53, 54, 55, 56, 57]).extract 0 1 = D := ⟨_, rfl⟩
        have hDs : D.size = 1 := by rw [← hD]; rfl
        have HD := Lib.hid hD
        clear HI HZ
        go_wp2
        refine ⟨⟨0, D ++ T, [48], rfl, rfl, Nat.zero_le _, ?_, ?_⟩, ?_⟩
        · rw [ByteArray.size_append]; omega
        · refine ⟨?_, ?_, .inr ⟨by simp, ?_⟩⟩
          · rw [hT.out, ← HD.out]; decide +kernel
          · rw [ByteArray.size_append]; simp; omega
          · rw [hn0.out, digs_small (by decide)]; rfl
        · simp [intOf, ByteArray.size_append, hDs, hTs]
    · obtain ⟨r, hr⟩ : ∃ r, m % 10 = r := ⟨_, rfl⟩
      have hr10 : r < 10 := by omega
      have R : (m : Int) % 10 = (r : Int) := by omega
      obtain ⟨D, hD⟩ : ∃ D, (ByteArray.mk #[48, 49, 50, 51, 52, 53, 54, 55, 56, 57]).extract r (r + 1) = D := ⟨_, rfl⟩
      have hDs : D.size = 1 := by rw [← hD, dig_ext hr10]; rfl
      have hDr := Lib.hid (show D = str [48 + r] from by rw [← hD, dig_ext hr10])
      have e0 : (0 : Int) ≤ r := by omega
      have e1 : (r : Int) ≤ r + 1 := by omega
      have e2 : (r : Int) + 1 ≤ 10 := by omega
      have e3 : (r : Int) < 10 := by omega
      have HR := Lib.hid hr
      clear hr hr10
      go_wp2
      have hdig := Lib.hid (show digs n = pre (m / 10) ++ ((48 + r) :: S) from by
        rw [← HR.out]
        rcases HI.out.2.2 with ⟨h, rfl⟩ | ⟨-, h⟩
        · rw [h, digs_pre]
        · rw [h, pre_step hm0])
      have hlen : 1 + T.size ≤ 20 := by
        have h20 := digs_length64 hn
        rw [hdig.out, List.length_append, List.length_cons] at h20
        have := HI.out.2.1
        omega
      refine ⟨⟨m / 10, D ++ T, (48 + r) :: S, by go_num, rfl, by omega, ?_, ?_⟩, ?_⟩
      · rw [ByteArray.size_append]; omega
      · refine ⟨?_, ?_, .inr ⟨by simp, hdig.out⟩⟩
        · rw [hDr.out, HI.out.1, str_append]; rfl
        · rw [ByteArray.size_append, List.length_cons, HI.out.2.1]; omega
      · have hne : ¬ (D ++ T).size = 0 := by rw [ByteArray.size_append]; omega
        show (intOf (.int .u64 ((m : Int) / 10))).toNat + (if (D ++ T).size = 0 then 1 else 0) < (intOf (.int .u64 (m : Int))).toNat + (if T.size = 0 then 1 else 0)
        rw [if_neg hne]
        simp only [intOf]
        omega
theorem digits_q (n : Nat) (hn : n < 18446744073709551616) (w : World) : Calls Tryd.prog 30 #[.int .u64 n] w fun e w' => e = .returned (.string (str (digs n))) ∧ w' = w :=
  (digits_c n hn w).mono fun _ _ h => ⟨h.1, h.2.symm⟩
theorem prV_snoc {l : List (Int × Int)} {k : Nat} {g : Int × Int} (h : l[k]? = some g) : prV (l.take (k + 1)) = prV (l.take k) ++ ((if k = 0 then [] else [44]) ++ prOne g) := by
  have tail : ∀ (m : List (Int × Int)) (k : Nat) (g : Int × Int), m[k]? = some g → prTail (m.take (k + 1)) = prTail (m.take k) ++ (44 :: prOne g) := by
    intro m
    induction m with
    | nil => intro k g h; simp at h
    | cons x m ih =>
      intro k g h
      cases k with
      | zero =>
        obtain rfl : x = g := by simpa using h
        show 44 :: (prOne x ++ prTail (m.take 0)) = [] ++ (44 :: prOne x)
        simp [prTail]
      | succ k =>
        show 44 :: (prOne x ++ prTail (m.take (k + 1))) = (44 :: (prOne x ++ prTail (m.take k))) ++ _
        rw [ih k g (by simpa using h)]
        simp
  cases l with
  | nil => simp at h
  | cons x l =>
    cases k with
    | zero =>
      obtain rfl : x = g := by simpa using h
      show prOne x ++ prTail (l.take 0) = [] ++ ([] ++ prOne x)
      simp [prTail]
    | succ k =>
      show prOne x ++ prTail (l.take (k + 1)) = (prOne x ++ prTail (l.take k)) ++ _
      rw [tail l k g (by simpa using h), if_neg (by omega)]
      simp
theorem below_drewN (w : World) (k : Nat) : Below w.heap.size w (w.drewN k) := ⟨rfl, rfl, rfl, Nat.le_refl _, fun _ _ => rfl⟩
theorem str58 : (ByteArray.mk #[58]) = str [58] := by decide +kernel
theorem str44 : (ByteArray.mk #[44]) = str [44] := by decide +kernel
theorem ret_st {a b : ByteArray} {x y : Int} (h : a = b) (k : x = y) : Ending.returned (.tuple #[.string a, .int .i64 x]) = .returned (.tuple #[.string b, .int .i64 y]) := by rw [h, k]
/-- What Print answers. -/
def printV (l : List (Int × Int)) : List Nat × Int := if tog l then (prV l, 0) else ([], 1)
set_option maxRecDepth 100000 in
set_option maxHeartbeats 2000000 in
theorem print_c (v : Value) (l : List (Int × Int)) (hl : l.length ≤ 100000) (w : World) (f : RgOut w v l) :
    Calls Tryd.prog 14 #[v] w fun e w' => e = .returned (.tuple #[.string (str (printV l).1), .int .i64 (printV l).2]) ∧ Below w.heap.size w w' := by
  have hT := together_c v l hl w f
  obtain ⟨d, hd⟩ : ∃ d, tog l = d := ⟨_, rfl⟩
  rw [hd] at hT
  have hP : printV l = if d then (prV l, 0) else ([], 1) := by rw [← hd]; rfl
  rw [hP]
  clear hP
  obtain ⟨A, c, rfl, hc, hx⟩ := f
  obtain ⟨n, hn⟩ : ∃ n, l.length = n := ⟨_, rfl⟩
  rw [hn] at hl hc hT ⊢
  have HT := Lib.hid hT; have HX := Lib.hid hx; have HN := Lib.hid hn
  clear hT hx hn
  cases d
  · clear hd HX HN
    go_enter Tryd.func14, Tryd.ntmps14
    go_wp2_with fail
    refine HT.out.mono ?_; rintro e w1 ⟨rfl, hb1⟩
    go_wp2
    go_ret2
    exact ⟨rfl, hb1⟩
  · obtain ⟨⟨l1, l4⟩, hok, -⟩ := (tog_iff l).1 hd
    rw [HN.out] at l1 l4
    have OK := Lib.hid hok
    have hlen : ∀ k, k ≤ n → (prV (l.take k)).length ≤ 40 := fun k hk => by
      have h := prV_length (l.take k) (fun g hg => by
        obtain ⟨j, hj⟩ := List.getElem?_of_mem (List.mem_of_mem_take hg)
        exact hok j g hj)
      rw [List.length_take] at h
      omega
    have LEN := Lib.hid hlen
    obtain ⟨R, hR⟩ : ∃ R, str (prV l) = R := ⟨_, rfl⟩
    simp only [if_true, hR]
    have HR := Lib.hid hR
    clear hd hok hlen hR
    go_enter Tryd.func14, Tryd.ntmps14
    go_wp2_with fail
    refine HT.out.mono ?_; rintro e w1 ⟨rfl, hb1⟩
    have HB := Lib.hid hb1
    clear hb1
    go_wp2
    go_loopw [4, 5] (fun s i wr => ∃ (k : Nat) (T : ByteArray), k ≤ n ∧ i = .int .i64 k ∧ s = .string T ∧ T.size ≤ 40 ∧ Hid (T = str (prV (l.take k)) ∧ Below w.heap.size w wr)) (fun _ i _ => n - (intOf i).toNat)
    case atStart => exact ⟨0, _, Nat.zero_le _, rfl, rfl, by decide, rfl, HB.out⟩
    case round =>
      obtain ⟨k, T, hk, rfl, rfl, hT40, HI⟩ := hrel
      clear HT
      by_cases hlt : k < n
      · have hkl : k < l.length := by rw [HN.out]; exact hlt
        obtain ⟨b, off, rfl, ha⟩ := HX.out (by intro e; rw [e] at hkl; exact absurd hkl (Nat.not_lt_zero _))
        have hp0 := List.getElem?_eq_getElem hkl
        obtain ⟨⟨x, y⟩, hp⟩ : ∃ p, l[k] = p := ⟨_, rfl⟩
        rw [hp] at hp0
        obtain ⟨c0, c1⟩ := (ha.below HI.out.2) k _ hp0
        have ho := of_decide_eq_true (OK.out k _ hp0)
        simp only at ho c0 c1
        obtain ⟨X, rfl⟩ : ∃ X : Nat, x = (X : Int) := ⟨x.toNat, by omega⟩
        obtain ⟨Y, rfl⟩ : ∃ Y : Nat, y = (Y : Int) := ⟨y.toNat, by omega⟩
        have hX1 : X ≤ 86400 := by omega
        have hY1 : Y ≤ 400 := by omega
        have wX : IntKind.u64.wrap (X : Int) = (X : Int) := by rw [IntKind.wrap_u64]; omega
        have wY : IntKind.u64.wrap (Y : Int) = (Y : Int) := by rw [IntKind.wrap_u64]; omega
        have hD1 := digs_length 4 X (by omega)
        have hD2 := digs_length 2 Y (by omega)
        have dX := fun W => digits_q X (by omega) W
        have dY := fun W => digits_q Y (by omega) W
        have hsn := prV_snoc hp0
        have hone : prOne ((X : Int), (Y : Int)) = digs X ++ 58 :: digs Y := by unfold prOne; simp
        rw [hone] at hsn
        have C0 : ∀ q, (wr.drewN q).cell? ⟨b, off + k * 2, none⟩ = some (.int .i64 (X : Int)) := fun q => c0
        have C1 : ∀ q, (wr.drewN q).cell? ⟨b, off + k * 2 + 1, none⟩ = some (.int .i64 (Y : Int)) := fun q => c1
        obtain ⟨U, hU⟩ : ∃ U, str (digs X) = U := ⟨_, rfl⟩
        obtain ⟨V, hV⟩ : ∃ V, str (digs Y) = V := ⟨_, rfl⟩
        have hUs : U.size ≤ 5 := by rw [← hU, str_size]; exact hD1
        have hVs : V.size ≤ 3 := by rw [← hV, str_size]; exact hD2
        rw [hU] at dX
        rw [hV] at dY
        have DX := Lib.hid dX; have DY := Lib.hid dY; have HU := Lib.hid hU; have HV := Lib.hid hV; have SN := Lib.hid hsn
        have L40 := Lib.hid (LEN.out (k + 1) (by omega))
        clear dX dY hU hV hsn hone hD1 hD2 hp0 hp ha hkl ho
        by_cases hk0 : k = 0
        · have hT0 := Lib.hid (show T = str [] from by rw [HI.out.1, hk0]; rfl)
          have RES := Lib.hid (show T ++ U ++ ⟨#[58]⟩ ++ V = str (prV (l.take (k + 1))) from by
            rw [SN.out, if_pos hk0, HI.out.1, ← HU.out, ← HV.out, str58, str_append, str_append, str_append]
            congr 1
            simp)
          subst hk0
          simp only [Nat.zero_mul, Nat.add_zero] at C0 C1
          go_wp2_with fail
          go_quiet (first | (go_at_call_of 30 (X); with_reducible refine Calls.quiet_of_same (DX.out _)) | (go_at_call_of 30 (Y); with_reducible refine Calls.quiet_of_same (DY.out _)))
          go_wp2
          go_roundw
          case rel => exact ⟨0 + 1, _, by omega, by go_num, rfl, by rw [RES.out, str_size]; exact L40.out, RES.out, bnext HI.out.2 (below_drewN _ _)⟩
          case measure => simp only [intOf]; omega
        · have RES := Lib.hid (show T ++ ⟨#[44]⟩ ++ U ++ ⟨#[58]⟩ ++ V = str (prV (l.take (k + 1))) from by
            rw [SN.out, if_neg hk0, HI.out.1, ← HU.out, ← HV.out, str58, str44, str_append, str_append, str_append, str_append]
            congr 1
            simp)
          have hki : (0 : Int) < (k : Int) := by omega
          clear hk0
          go_wp2_with fail
          go_quiet (first | (go_at_call_of 30 (X); with_reducible refine Calls.quiet_of_same (DX.out _)) | (go_at_call_of 30 (Y); with_reducible refine Calls.quiet_of_same (DY.out _)))
          go_wp2
          go_roundw
          case rel => exact ⟨k + 1, _, by omega, by go_num, rfl, by rw [RES.out, str_size]; exact L40.out, RES.out, bnext HI.out.2 (below_drewN _ _)⟩
          case measure => simp only [intOf]; omega
      · obtain rfl : k = n := by omega
        have RES := Lib.hid (show T = R from by rw [HI.out.1, ← HR.out, ← HN.out, List.take_length])
        go_wp2
        go_ret2
        exact ⟨ret_st RES.out rfl, HI.out.2⟩
end Go.Proofs.YtjbacbbbhedmlaaDoor.RR
