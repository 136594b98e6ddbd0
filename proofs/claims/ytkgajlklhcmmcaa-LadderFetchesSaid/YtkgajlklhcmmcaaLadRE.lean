/-
  The document's own functions of layer 14: Right.
-/
import Derived.Test.YtkgajlklhcmmcaaLadRD
import Derived.Test.YtkgajlklhcmmcaaRinRA
set_option linter.unusedSimpArgs false
set_option linter.unusedVariables false
namespace Go.Proofs.Ytkgajlklhcmmcaa.AR
open Go.RowKit
set_option maxRecDepth 100000 in
set_option maxHeartbeats 4000000 in
theorem right_c (m f : Int) (v : Value) (L : List Rg) (hl : L.length ≤ 100000) (hs : ∀ r ∈ L, r.2.length ≤ 100000) (w : World) (h : RiOut w v L) :
    Calls Try.prog 22 #[.agg #[.int .i64 m, .int .i64 f, v]] w fun e w' => e = .returned (.bool (lRight m f L)) ∧ Below w.heap.size w w' := by
  have RG := fun (W : World) (hB : Below w.heap.size w W) => rungs_c m f v L hl W (h.below hB)
  have TG := fun (W : World) (u : Value) (o : RgOut W u (lRungs (L.take 10))) => RR.together_c u (lRungs (L.take 10)) (by rw [lRungs_length, List.length_take]; omega) W o
  rw [tog_ten] at TG
  obtain ⟨A, c, rfl, hc, hx⟩ := id h
  obtain ⟨n, hn⟩ : ∃ n, L.length = n := ⟨_, rfl⟩
  obtain ⟨d, hd⟩ : ∃ d, lRight m f L = d := ⟨_, rfl⟩
  rw [hd]
  rw [hn] at RG hc hl ⊢
  obtain ⟨b1, hb, hz⟩ := bx_new1 w #[.int .i64 m, .int .i64 f, .slice A n c] 24
  obtain ⟨wp, hwp⟩ : ∃ wp, w.alloc (.cells #[.int .i64 m, .int .i64 f, .slice A n c] 24) = wp := ⟨_, rfl⟩
  rw [hwp] at b1 hb hz
  obtain ⟨k0, k1, k2, -⟩ := b1.three
  obtain ⟨tg, htg⟩ : ∃ tg, tog (lRungs L) = tg := ⟨_, rfl⟩
  obtain ⟨wy, hwy⟩ : ∃ wy, lWay m f = wy := ⟨_, rfl⟩
  have IW := fun W => how_b m f W
  rw [htg] at TG
  rw [hwy] at IW
  have HX := Lib.hid hx; have HN := Lib.hid hn; have HS := Lib.hid hs; have KP := Lib.hid hb; have HWP := Lib.hid hwp; have B1 := Lib.hid b1; have IW := Lib.hid IW; have TG := Lib.hid TG; have RG := Lib.hid RG
  have NO := Lib.hid (show (wy && tg) = false → d = false from fun e => by rw [← hd]; unfold lRight; rw [hwy, htg]; cases wy <;> cases tg <;> simp_all)
  have NOK := Lib.hid (fun (k : Nat) (s : Int) (l : List (Int × Int)) (h1 : L[k]? = some (s, l)) (h2 : rRight s l = false) => show d = false from by
    rw [← hd]
    refine Bool.eq_false_iff.2 fun h => ?_
    have := (lRight_iff.1 h).2.2 k _ h1
    rw [h2] at this; cases this)
  have FIN := Lib.hid (fun (e : (wy && tg) = true) (h1 : ∀ (j : Nat) (r : Rg), L[j]? = some r → rRight r.1 r.2 = true) => show d = true from by
    rw [← hd]
    rw [Bool.and_eq_true] at e
    exact lRight_iff.2 ⟨hwy.trans e.1, htg.trans e.2, h1⟩)
  clear h hx hn hs hb hwp b1 hd hz htg hwy
  go_enter Try.func22, Try.ntmps22
  go_wp2_with fail
  rw [HWP.out]
  refine (IW.out _).mono ?_; rintro _ w1 ⟨rfl, hb1⟩
  have K1 := Lib.hid hb1
  obtain ⟨k0, k1, k2, -⟩ := (B1.out.below K1.out).three
  have RG1 := Lib.hid (RG.out w1 (bnext KP.out hb1))
  clear hb1
  cases wy
  · obtain rfl := NO.out (by simp)
    have KX := Lib.hid (bnext KP.out K1.out)
    go_wp2
    go_ret
    exact ⟨rfl, KX.out⟩
  · go_wp2_with fail
    refine RG1.out.mono ?_; rintro _ w2 ⟨u2, rfl, ho2, hb2⟩
    have TG2 := Lib.hid (TG.out w2 u2 ho2)
    have K2 := Lib.hid (bnext K1.out hb2)
    obtain ⟨k0, k1, k2, -⟩ := (B1.out.below K2.out).three
    clear hb2 ho2
    go_wp2_with fail
    refine TG2.out.mono ?_; rintro _ w3 ⟨rfl, hb3⟩
    have K3 := Lib.hid (bnext K2.out hb3)
    obtain ⟨k0, k1, k2, -⟩ := (B1.out.below K3.out).three
    clear hb3
    cases tg
    · obtain rfl := NO.out (by simp)
      have KX := Lib.hid (bnext KP.out K3.out)
      go_wp2
      go_ret
      exact ⟨rfl, KX.out⟩
    · go_wp2_with fail
      clear k0 k1 k2
      go_loopw [3] (fun i wr => ∃ k : Nat, k ≤ n ∧ i = .int .i64 k ∧ Hid ((∀ (j : Nat) (r : Rg), j < k → L[j]? = some r → rRight r.1 r.2 = true) ∧ Below wp.heap.size wp wr)) (fun i _ => n - (intOf i).toNat)
      case atStart => exact ⟨0, Nat.zero_le _, rfl, fun j r h => absurd h (Nat.not_lt_zero j), K3.out⟩
      case round =>
        obtain ⟨k, hk, rfl, HI⟩ := hrel
        obtain ⟨k0, k1, k2, -⟩ := (B1.out.below HI.out.2).three
        have KW := Lib.hid (bnext KP.out HI.out.2)
        by_cases hlt : k < n
        · obtain ⟨b, off, s, l, A', c', q, rfl, hp, hq, e0, e1, ho⟩ := AP.ri_at (c := c) (fun hn => by obtain ⟨b, off, e, ha⟩ := HX.out hn; exact ⟨b, off, e, ha.below KW.out⟩) HN.out hlt
          have hq1 : q ≤ 100000 := by rw [← hq]; exact HS.out _ (List.mem_of_getElem? hp)
          have RC := IR.right_c s (.slice A' q c') l (by omega) wr ho
          cases hr : rRight s l
          · obtain rfl := NOK.out k s l hp hr
            rw [hr] at RC
            have RC := Lib.hid RC
            clear hr hp hq ho
            go_wp2_with fail
            refine RC.out.mono ?_; rintro _ w5 ⟨rfl, hb5⟩
            have KX := Lib.hid (bnext KW.out hb5)
            go_wp2
            go_ret
            exact ⟨rfl, KX.out⟩
          · rw [hr] at RC
            have RC := Lib.hid RC
            have ALL := Lib.hid (show ∀ (j : Nat) (r : Rg), j < k + 1 → L[j]? = some r → rRight r.1 r.2 = true from fun j r h1 h2 => by
              rcases Nat.lt_or_ge j k with h | h
              · exact HI.out.1 j r h h2
              · obtain rfl : j = k := by omega
                rw [hp] at h2
                obtain rfl := Option.some.inj h2
                exact hr)
            clear hr hp hq ho
            go_wp2_with fail
            refine RC.out.mono ?_; rintro _ w5 ⟨rfl, hb5⟩
            have KX := Lib.hid (bnext HI.out.2 hb5)
            go_wp2
            go_roundw
            case rel => exact ⟨k + 1, by omega, by go_num, ALL.out, KX.out⟩
            case measure => simp [intOf]; omega
        · obtain rfl : d = true := FIN.out (by simp) (fun j r h1 => HI.out.1 j r (by have := (List.getElem?_eq_some_iff.1 h1).1; have := HN.out; omega) h1)
          go_wp2
          go_ret
          exact ⟨rfl, KW.out⟩
theorem reach_c (s : Int) (A : Option Addr) (n c : Nat) (hs : 1 ≤ s ∧ s ≤ 86400) (hn : 1 ≤ n ∧ n ≤ 400) (w : World) : Calls Try.prog 24 #[.agg #[.int .i64 s, .slice A n c]] w fun e w' => e = .returned (.int .i64 (s * (n : Int))) ∧ Below w.heap.size w w' := by
  have h1 : s * (n : Int) ≤ 86400 * 400 := Int.mul_le_mul hs.2 (by omega) (by omega) (by omega)
  have h2 : 0 ≤ s * (n : Int) := Int.mul_nonneg (by omega) (by omega)
  obtain ⟨q, hq⟩ : ∃ q, s * (n : Int) = q := ⟨_, rfl⟩
  rw [hq] at h1 h2 ⊢
  have w1 : IntKind.i64.wrap q = q := by rw [IntKind.wrap_i64]; omega
  go_enter Try.func24, Try.ntmps24
  go_wp2
  go_ret
  exact ⟨by first | rfl | simp [hq, w1], alloc_below _ _⟩
end Go.Proofs.Ytkgajlklhcmmcaa.AR
