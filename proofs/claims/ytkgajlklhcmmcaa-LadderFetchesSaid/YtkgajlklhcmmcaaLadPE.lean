/-
  Rows of whole numbers; the parts that a coarser slot is made of.
-/
import Derived.Test.YtkgajlklhcmmcaaLadPB
set_option linter.unusedSimpArgs false
set_option linter.unusedVariables false
namespace Go.Proofs.Ytkgajlklhcmmcaa
open Go.RowKit
/-- A row of numbers. -/
def IlAt (w : World) (b off : Nat) (l : List Int) : Prop := ∀ (k : Nat) (x : Int), l[k]? = some x → w.cell? ⟨b, off + k, none⟩ = some (.int .i64 x)
def IlOut (w : World) (v : Value) (l : List Int) : Prop := ∃ A cap, v = .slice A l.length cap ∧ l.length ≤ cap ∧ (l ≠ [] → ∃ b off, A = some ⟨b, off, none⟩ ∧ IlAt w b off l)
theorem IlAt.below {w w' : World} {b off : Nat} {l : List Int} (h : IlAt w b off l) (hb : Below w.heap.size w w') : IlAt w' b off l := fun k x hk => cellb hb (h k x hk)
theorem IlOut.below {w w' : World} {v : Value} {l : List Int} (h : IlOut w v l) (hb : Below w.heap.size w w') : IlOut w' v l := by
  obtain ⟨A, cap, hv, hc, hx⟩ := h
  refine ⟨A, cap, hv, hc, fun hn => ?_⟩
  obtain ⟨b, off, hA, hf⟩ := hx hn
  exact ⟨b, off, hA, hf.below hb⟩
theorem IlOut.form {w : World} {v : Value} {l : List Int} (h : IlOut w v l) : ∃ A c, v = .slice A l.length c ∧ l.length ≤ c := by
  obtain ⟨A, c, hv, hc, _⟩ := h
  exact ⟨A, c, hv, hc⟩
def ilC (l : List Int) : List Value := l.map fun x => .int .i64 x
def IlNew (B : Nat) (w : World) (v : Value) (l : List Int) : Prop := w.ownsRow B 2 1 v l.length (ilC l)
theorem IlNew.nil (B : Nat) (w : World) : IlNew B w (.slice none 0 0) [] := ⟨rfl, .inl ⟨rfl, rfl⟩⟩
theorem IlNew.out {B : Nat} {w : World} {v : Value} {l : List Int} (h : IlNew B w v l) : IlOut w v l := by
  rcases h.2 with ⟨rfl, h0⟩ | ⟨g, cap, cur, rfl, hb, hh, hle, _, _, ht⟩
  · exact ⟨none, 0, by rw [h0], by omega, fun hn => absurd (List.eq_nil_of_length_eq_zero h0) hn⟩
  · refine ⟨_, cap, rfl, hle, fun _ => ⟨g, 0, rfl, fun k x hk => ?_⟩⟩
    have hlt : k < l.length := (List.getElem?_eq_some_iff.1 hk).1
    rw [Nat.zero_add]
    refine (cell_of_row w g k cur _ (0, 0) hh).trans ?_
    have h5 : (cur.toList.take (l.length * 1))[k]? = some (.int .i64 x) := by rw [ht]; unfold ilC; rw [List.getElem?_map, hk]; rfl
    rw [List.getElem?_take, if_pos (by omega)] at h5
    simpa using h5
theorem IlNew.push {B n : Nat} {w : World} {v : Value} {l : List Int} {x : Int} (h : w.ownsRow B 2 1 v (n + 1) (ilC l ++ [.int .i64 x])) (hn : l.length = n) : IlNew B w v (l ++ [x]) := by
  unfold IlNew
  rw [List.length_append, List.length_singleton, hn, show ilC (l ++ [x]) = ilC l ++ [.int .i64 x] from by unfold ilC; rw [List.map_append]; rfl]
  exact h
theorem own_mono {B B' n size : Nat} {e : TypeId} {w : World} {v : Value} {xs : List Value} (h : w.ownsRow B' e size v n xs) (hB : B ≤ B') : w.ownsRow B e size v n xs := by
  refine ⟨h.1, ?_⟩
  rcases h.2 with h0 | ⟨g, cap, cur, hv, hg, hr⟩
  · exact Or.inl h0
  · exact Or.inr ⟨g, cap, cur, hv, Nat.le_trans hB hg, hr⟩
theorem int64_info : (Try.prog.info? 2).map (fun i => (i.zero, i.size, i.bytes)) = some (some (.int .i64 0), 1, 8) := by kernel_rfl
theorem lParts_step (s : Int) (l : List (Int × Int)) (a : Int) (k : Nat) : lParts (s, l) a (k + 1) = lParts (s, l) a k ++ (match rVal s l (a + (k : Int) * s) with
    | some v => [v]
    | none => []) := by
  unfold lParts
  rw [List.range_succ, List.filterMap_append]
  congr 1
  show List.filterMap _ [k] = _
  cases h : rVal s l (a + (k : Int) * s) with
  | none => simp [h]
  | some v => simp [h]
theorem lParts_length (r : Rg) (a : Int) (k : Nat) : (lParts r a k).length ≤ k := by
  unfold lParts
  exact Nat.le_trans (List.length_filterMap_le _ _) (by rw [List.length_range]; exact Nat.le_refl _)
namespace AP
open IP
set_option maxRecDepth 100000 in
set_option maxHeartbeats 4000000 in
theorem parts_c (s a : Int) (N : Nat) (v : Value) (l : List (Int × Int)) (hr : rRight s l = true) (ha : 0 ≤ a ∧ a ≤ 1099511627776) (hN : N ≤ 86400) (w : World) (f : RgOut w v l) :
    Calls Try.prog 61 #[.agg #[.int .i64 s, v], .int .i64 a, .int .i64 (N : Int)] w fun e w' => ∃ A c, e = .returned (.slice A (lParts (s, l) a N).length c) ∧ IlNew w.heap.size w' (.slice A (lParts (s, l) a N).length c) (lParts (s, l) a N) ∧ Below w.heap.size w w' := by
  obtain ⟨m1, m2, m3, m4⟩ := rMay_iff.1 (rRight_iff.1 hr).1
  obtain ⟨A, c, rfl, hc, hx⟩ := f
  obtain ⟨n, hn⟩ : ∃ n, l.length = n := ⟨_, rfl⟩
  rw [hn] at m3 m4 hc ⊢
  obtain ⟨b1, hb, hz⟩ := bx_new1 w #[.int .i64 s, .slice A n c] 53
  obtain ⟨wp, hwp⟩ : ∃ wp, w.alloc (.cells #[.int .i64 s, .slice A n c] 53) = wp := ⟨_, rfl⟩
  rw [hwp] at b1 hb hz
  obtain ⟨k0, k1, -, -⟩ := b1.two
  obtain ⟨i0, hi0, hz0, hz1, hz2⟩ := info_parts int64_info
  have HX := Lib.hid hx; have HN := Lib.hid hn; have KP := Lib.hid hb; have HWP := Lib.hid hwp; have B1 := Lib.hid b1; have ZP := Lib.hid hz
  have s0 : 0 < s := by omega
  have n0 : 0 < (n : Int) := by omega
  clear hx hn hb hwp b1 hz hr
  go_enter Try.func61, Try.ntmps61
  go_wp2_with fail
  rw [HWP.out]
  clear k0 k1
  go_loopw [7, 12] (fun p i wr => ∃ (k q : Nat) (A7 : Option Addr) (c7 : Nat), k ≤ N ∧ i = .int .i64 k ∧ p = .slice A7 q c7 ∧ Hid (IlNew wp.heap.size wr (.slice A7 q c7) (lParts (s, l) a k) ∧ (lParts (s, l) a k).length = q ∧ Below wp.heap.size wp wr)) (fun _ i _ => N - (intOf i).toNat)
  case atStart => exact ⟨0, 0, none, 0, Nat.zero_le _, rfl, rfl, IlNew.nil _ _, rfl, Below.refl _ _⟩
  case round =>
    obtain ⟨k, q, A7, c7, hk, rfl, rfl, HI⟩ := hrel
    by_cases hlt : k < N
    · obtain ⟨k0, k1, -, -⟩ := (B1.out.below HI.out.2.2).two
      have hks : (0 : Int) ≤ (k : Int) * s := Int.mul_nonneg (by omega) (by omega)
      have hks2 : (k : Int) * s ≤ 86400 * 86400 := Int.mul_le_mul (by omega) m2 (by omega) (by omega)
      obtain ⟨u, hu⟩ : ∃ u, a + (k : Int) * s = u := ⟨_, rfl⟩
      obtain ⟨ks, hksv⟩ : ∃ ks, (k : Int) * s = ks := ⟨_, rfl⟩
      have hq0 : 0 ≤ u / s := Int.ediv_nonneg (by omega) (by omega)
      have hq1 : u / s ≤ u := Int.ediv_le_self _ (by omega)
      have hp0 : 0 ≤ u / s % (n : Int) := Int.emod_nonneg _ (by omega)
      have hp1 : u / s % (n : Int) < n := Int.emod_lt_of_pos _ n0
      obtain ⟨y, hy⟩ : ∃ y, u / s = y := ⟨_, rfl⟩
      obtain ⟨j, hj⟩ : ∃ j : Nat, u / s % (n : Int) = (j : Int) := ⟨(u / s % (n : Int)).toNat, by omega⟩
      have hjn : j < n := by omega
      have hkl : j < l.length := by rw [HN.out]; exact hjn
      obtain ⟨b, off, rfl, ha2⟩ := HX.out (by intro e; rw [e] at hkl; exact absurd hkl (Nat.not_lt_zero _))
      obtain ⟨⟨x, z⟩, hp⟩ : ∃ p, l[j]? = some p := ⟨_, List.getElem?_eq_getElem hkl⟩
      obtain ⟨c0, c1⟩ := (ha2.below (bnext KP.out HI.out.2.2)) j _ hp
      simp only at c0 c1
      have RV := Lib.hid (show rVal s l u = (if x = u then some z else none) from by
        unfold rVal
        rw [show (rPl s l.length u).toNat = j from by unfold rPl; rw [HN.out, hj]; exact Int.toNat_natCast j, hp])
      have w1 : IntKind.i64.wrap ks = ks := by rw [IntKind.wrap_i64]; omega
      have w2 : IntKind.i64.wrap (a + ks) = u := by rw [IntKind.wrap_i64]; omega
      have w3 : IntKind.i64.wrap (u.tdiv s) = y := by rw [Int.tdiv_eq_ediv_of_nonneg (by omega), hy, IntKind.wrap_i64]; omega
      have w4 : IntKind.i64.wrap (y.tmod (n : Int)) = (j : Int) := by rw [Int.tmod_eq_emod_of_nonneg (by omega), ← hy, hj, IntKind.wrap_i64]; omega
      have w5 : y.tmod (n : Int) = (j : Int) := by rw [Int.tmod_eq_emod_of_nonneg (by omega), ← hy, hj]
      have STEP := Lib.hid (lParts_step s l a k)
      rw [hu] at STEP
      rw [hksv] at hu
      have SZ := Lib.hid (show wp.heap.size ≤ wr.heap.size from HI.out.2.2.size)
      have UQ := Lib.hid (show (lParts (s, l) a (k + 1)).length ≤ k + 1 from lParts_length _ _ _)
      have QK := Lib.hid (show q ≤ k from by rw [← HI.out.2.1]; exact lParts_length _ _ _)
      have H4 := Lib.hid (show wr.cell? ⟨w.heap.size, 0, none⟩ = some (.int .i64 s) ∧ wr.cell? ⟨w.heap.size, 1, none⟩ = some (.slice (some ⟨b, off, none⟩) n c) ∧ wr.cell? ⟨b, off + j * 2, none⟩ = some (.int .i64 x) ∧ wr.cell? ⟨b, off + j * 2 + 1, none⟩ = some (.int .i64 z) from ⟨k0, k1, c0, c1⟩)
      have hj2 : y % (n : Int) = (j : Int) := by rw [← hy]; exact hj
      have y0 : 0 ≤ y := by omega
      have y1 : y ≤ 1099511627776 + 86400 * 86400 := by omega
      have u0 : 0 ≤ u := by omega
      have u1 : u ≤ 1099511627776 + 86400 * 86400 := by omega
      have sne : ¬ s = 0 := by omega
      have nne : ¬ (n : Int) = 0 := by omega
      have lt1 : w.heap.size < wr.heap.size := by have h1 := HI.out.2.2.size; have h2 := ZP.out; omega
      have lt2 : b < wr.heap.size := World.block_lt_of_cell? wr _ c0
      clear hj hp hq0 hq1 hp0 hp1 ha2
      go_wp2_with fail
      go_cut [10] (fun sv wx => ∃ bb : Nat, sv = .pointer (some ⟨bb, 0, none⟩) ∧ wx.cell? ⟨bb, 0, none⟩ = some (.int .i64 x) ∧ wx.cell? ⟨bb, 1, none⟩ = some (.int .i64 z) ∧ Below wr.heap.size wr wx)
      case first =>
        go_region
        all_goals (try go_wp2_with fail)
        all_goals go_meet
        all_goals refine ⟨_, rfl, ?_, ?_, ?_⟩
        all_goals (first | (go_simp; done) | (refine below_put2 ((Below.refl _ _).alloc (Nat.le_refl _) _) ?_ _ _; omega) | (exact alloc_below _ _) | (exact Below.drew (alloc_below _ _)))
      case rest =>
        obtain ⟨bb, rfl, hx0, hx1, TX⟩ := hcut
        have KX := Lib.hid (HI.out.2.2.trans (TX.mono HI.out.2.2.size))
        have OWN := Lib.hid (own_keep HI.out.1 (fun g _ hg _ => TX.block g hg))
        have LN := Lib.hid HI.out.2.1
        have OWN1 := OWN.out
        rw [LN.out] at OWN1
        have OWN2 := Lib.hid OWN1
        clear TX k0 k1 c0 c1 OWN1
        by_cases he : x = u
        · subst he
          have SZ2 := Lib.hid KX.out.size
          have B63 := Lib.hid (show q + 1 ≤ maxLen by simp only [maxLen]; have := QK.out; omega)
          have B48 := Lib.hid (show (q + 1) * 8 ≤ 140737488355328 by have := QK.out; omega)
          have FORM := Lib.hid (fun (W' : World) (v' : Value) (xs : List Value) (h : W'.ownsRow wp.heap.size 2 1 v' (q + 1) xs) => own_form h)
          have NX := Lib.hid (show lParts (s, l) a (k + 1) = lParts (s, l) a k ++ [z] from by rw [STEP.out, RV.out, if_pos rfl])
          go_wp2_with (at_builtin; refine wpList_append_any _ rfl (.tmp 37) (.tmp 40) _ rfl wp.heap.size 2 i0 (.int .i64 0) 1 8 Try.underlying90 hi0 hz0 hz1 hz2 rfl (by decide) (.slice A7 q c7) q (ilC (lParts (s, l) a k)) rfl (World.ownsRow.alloc OWN2.out _) _ (some ⟨wc.heap.size, 0, none⟩) 1 1 [.int .i64 z] rfl (Reads.of_own (World.ownsRow_lit (base := 0) (e := 2) (size := 1) wc #[.int .i64 z] 1 (Nat.zero_le _) (by decide) rfl)) (by simp [Value.oneCell']) B63.out B48.out (by have := SZ2.out; simp; omega) ?_; intro v20 w20 hown20 hg20 hat20; obtain ⟨A20, c20, hv20, _, _⟩ := FORM.out _ _ _ hown20; subst hv20; have HO := Lib.hid hown20; have HG := Lib.hid hg20; clear hown20 hg20 hat20)
          go_roundw
          case rel =>
            refine ⟨k + 1, q + 1, A20, c20, by omega, by go_num, rfl, ?_, by rw [NX.out, List.length_append, LN.out]; rfl, ?_⟩
            · rw [NX.out]; exact IlNew.push HO.out LN.out
            · refine ((KX.out.alloc SZ2.out _).grown HG.out (by have := SZ2.out; simp; omega) (fun j ej => ?_))
              exact (own_lt OWN2.out ej).1
          case measure => simp [intOf]; omega
        · have NX := Lib.hid (show lParts (s, l) a (k + 1) = lParts (s, l) a k from by rw [STEP.out, RV.out, if_neg he]; exact List.append_nil _)
          go_wp2
          go_roundw
          case rel => exact ⟨k + 1, q, A7, c7, by omega, by go_num, rfl, by rw [NX.out]; exact OWN.out, by rw [NX.out]; exact LN.out, KX.out⟩
          case measure => simp [intOf]; omega
    · obtain rfl : k = N := by omega
      go_wp2
      go_ret
      obtain ⟨h1, h2, h3⟩ := HI.out
      rw [h2]
      exact ⟨A7, c7, rfl, by unfold IlNew at h1 ⊢; rw [h2] at h1 ⊢; exact own_mono h1 (by have := ZP.out; omega), bnext KP.out h3⟩
end AP
end Go.Proofs.Ytkgajlklhcmmcaa
