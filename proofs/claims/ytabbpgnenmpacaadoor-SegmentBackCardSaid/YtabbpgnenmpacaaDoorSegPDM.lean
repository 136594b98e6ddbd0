/-
  Contracts of the program's functions of layer 8: Put.
-/
import Derived.Test.YtabbpgnenmpacaaDoorSegPCM
import Derived.Test.YtabbpgnenmpacaaDoorSegPRM
set_option linter.unusedSimpArgs false
set_option linter.unusedVariables false
namespace Go.Proofs.YtabbpgnenmpacaaDoor.SP
open Go.RowKit
open CR (below_next own_ge u8_wrap)
open SR (strB_size)
theorem nB_one {n : Nat} (h : n < 256) : nB 1 n = [n] := by
  show [n % 256] = [n]
  rw [Nat.mod_eq_of_lt h]
theorem u64_of (v : Int) : IntKind.u64.wrap v = ((u64 v : Nat) : Int) := by
  rw [IntKind.wrap_u64]
  unfold u64
  omega
/-- Behind the question whether it is right. -/
theorem hst_start {wb w1 : World} (hb : Below wb.heap.size wb w1) : HSt wb wb.heap.size w1 (.slice none 0 0) w1 (.slice none 0 0) [] 0 :=
  ⟨ByNew.none _ _, rfl, hb, Gr.refl _ _, hb.size⟩
theorem HSt.fin {w wb W w1 : World} {vb v : Value} {acc T : List Nat} {z : Nat} (h : HSt wb wb.heap.size w1 vb W v acc z) (hw : Below w.heap.size w wb) (hT : acc = T) : ByNew w.heap.size W v T ∧ Below w.heap.size w W := by
  subst hT
  exact ⟨h.new.mono hw.size, hw.trans (h.below.mono hw.size)⟩
set_option maxRecDepth 100000 in
set_option maxHeartbeats 4000000 in
theorem put_one (p : List Nat) (m f : Int) (l : List (Int × Int)) (A : Option Addr) (n c : Nat) (hp : Bytes p) (hln : l.length = n) (w : World) (hro : RgOut w (.slice A n c) l) (hok : hdOk p m f l = true) :
    Calls Tryd.prog 8 #[.agg #[.int .i64 1, .string (strB p), .int .i64 m, .int .i64 f, .slice A n c, .int .i64 0, .int .i64 0, .int .i64 0, .int .i64 0]] w fun e w' => ∃ v', e = .returned (.tuple #[v', .int .i64 0]) ∧ ByNew w.heap.size w' v' (rBytes (hdR p m f l)) ∧ Below w.heap.size w w' := by
  obtain ⟨⟨b1, b2⟩, ⟨m1, m2⟩, ⟨f1, f2⟩, hrg, l1, l2⟩ := hd_bounds hok
  have RT := Lib.hid (fun (W : World) (hB : Below w.heap.size w W) => by
    have h := right_c (.agg #[.int .i64 1, .string (strB p), .int .i64 m, .int .i64 f, .slice A n c, .int .i64 0, .int .i64 0, .int .i64 0, .int .i64 0]) (hdR p m f l) hp (by show l.length ≤ 100000; omega) W ⟨_, rfl, hro.below hB⟩
    rw [right_hd, hok] at h
    exact h)
  have LH := Lib.hid (fun (wb W : World) (v : Value) (acc : List Nat) (z : Nat) (hz : acc.length = z) (hl : z ≤ 1000) (hB : wb.heap.size ≤ W.heap.size) (ho : ByNew wb.heap.size W v acc) (hr : RgOut wb (.slice A n c) l) (hb : Below wb.heap.size wb W) =>
    layHead_c wb.heap.size v acc z hz hl 1 0 0 0 0 p m f l A n c hp hln hok W hB ho wb (Nat.le_refl _) hr hb)
  obtain ⟨T, hT⟩ : ∃ T, rBytes (hdR p m f l) = T := ⟨_, rfl⟩
  rw [hT]
  have HT := Lib.hid (show [] ++ nB 1 1 ++ nB 2 p.length ++ p ++ nB 1 m.toNat ++ nB 4 f.toNat ++ nB 1 n ++ l.flatMap rgB = T by
    rw [← hT, rBytes_hd, nB_one (show m.toNat < 256 by omega), nB_one (show n < 256 by omega), nB_one (show 1 < 256 by omega), hln]
    simp)
  obtain ⟨s, hs⟩ : ∃ s, strB p = s := ⟨_, rfl⟩
  rw [hs] at RT LH ⊢
  have HH := Lib.hid (holds_alloc w [.int .i64 1, .string s, .int .i64 m, .int .i64 f, .slice A n c, .int .i64 0, .int .i64 0, .int .i64 0, .int .i64 0] 24)
  have HA := Lib.hid (alloc_below w (.cells #[.int .i64 1, .string s, .int .i64 m, .int .i64 f, .slice A n c, .int .i64 0, .int .i64 0, .int .i64 0, .int .i64 0] 24))
  have HRO := Lib.hid (hro.below HA.out)
  obtain ⟨wb, hwb⟩ : ∃ x, w.alloc (.cells #[.int .i64 1, .string s, .int .i64 m, .int .i64 f, .slice A n c, .int .i64 0, .int .i64 0, .int .i64 0, .int .i64 0] 24) = x := ⟨_, rfl⟩
  have HWB := Lib.hid hwb
  change Hid (Holds (w.alloc (.cells #[.int .i64 1, .string s, .int .i64 m, .int .i64 f, .slice A n c, .int .i64 0, .int .i64 0, .int .i64 0, .int .i64 0] 24)) _ _) at HH
  rw [hwb] at HH HA HRO
  clear hro hok hT hs hwb hp hln hrg b1 b2 m1 m2 f1 f2 l1 l2
  go_enter Tryd.func8, Tryd.ntmps8
  go_wp2_with fail
  rw [HWB.out]
  refine (RT.out wb HA.out).mono ?_; rintro _ w1 ⟨rfl, hb1⟩
  have H1 := Lib.hid (hst_start hb1)
  obtain ⟨r0, r1, r2, r3, r4, r5, r6, r7, r8⟩ := (HH.out.below hb1 : Holds w1 w.heap.size _).nine
  clear hb1
  go_wp2_with fail
  refine (H1.out.lay 1 (by decide) (by decide) 1 (by decide) (by decide)).mono ?_; rintro _ w2 ⟨v2, rfl, hs2, _⟩
  clear r0 r1 r2 r3 r4 r5 r6 r7 r8
  obtain ⟨r0, r1, r2, r3, r4, r5, r6, r7, r8⟩ := (HH.out.below hs2.below : Holds w2 w.heap.size _).nine
  have S2 := Lib.hid hs2
  clear hs2
  go_wp2_with fail
  refine (LH.out wb _ _ _ _ S2.out.len (by decide) S2.out.hB S2.out.new HRO.out S2.out.below).mono ?_; rintro _ w3 ⟨v3, rfl, hn3, hb3⟩
  have N3 := Lib.hid (show ByNew w.heap.size w3 v3 T by
    have h := hn3.mono HA.out.size
    rw [← HT.out]
    exact h)
  have B3 := Lib.hid (show Below w.heap.size w w3 from HA.out.trans ((S2.out.below.trans hb3).mono HA.out.size))
  clear hn3 hb3 r0 r1 r2 r3 r4 r5 r6 r7 r8
  go_wp2
  exact bodyPost_ret (v := .tuple #[v3, .int .i64 0]) (by simp [results, Tryd.results8, go_sem]) rfl ⟨v3, rfl, N3.out, B3.out⟩
set_option maxRecDepth 100000 in
set_option maxHeartbeats 4000000 in
theorem put_two (t nw v : Int) (A : Option Addr) (n c : Nat) (w : World) (hro : RgOut w (.slice A n c) []) (hok : ptOk t nw v = true) :
    Calls Tryd.prog 8 #[.agg #[.int .i64 2, .string (strB []), .int .i64 0, .int .i64 0, .slice A n c, .int .i64 0, .int .i64 t, .int .i64 nw, .int .i64 v]] w fun e w' => ∃ v', e = .returned (.tuple #[v', .int .i64 0]) ∧ ByNew w.heap.size w' v' (rBytes (ptR t nw v)) ∧ Below w.heap.size w w' := by
  obtain ⟨b1, b2, _⟩ := pt_bounds hok
  have RT := Lib.hid (fun (W : World) (hB : Below w.heap.size w W) => by
    have h := right_c (.agg #[.int .i64 2, .string (strB []), .int .i64 0, .int .i64 0, .slice A n c, .int .i64 0, .int .i64 t, .int .i64 nw, .int .i64 v]) (ptR t nw v) (fun _ h => by cases h) (Nat.zero_le _) W ⟨_, rfl, hro.below hB⟩
    rw [right_pt, hok] at h
    exact h)
  obtain ⟨T, hT⟩ : ∃ T, rBytes (ptR t nw v) = T := ⟨_, rfl⟩
  rw [hT]
  have HT := Lib.hid (show [] ++ nB 1 2 ++ nB 8 t.toNat ++ nB 8 nw.toNat ++ nB 8 (u64 v) = T by rw [← hT, rBytes_pt, nB_one (show 2 < 256 by omega)]; simp)
  obtain ⟨s, hs⟩ : ∃ s, strB [] = s := ⟨_, rfl⟩
  rw [hs] at RT ⊢
  have hwv := u64_of v
  have hx1 : ((u64 v : Nat) : Int) < 18446744073709551616 := by have := u64_lt v; omega
  have hx0 : 0 ≤ ((u64 v : Nat) : Int) := by omega
  have HX := Lib.hid (show ((u64 v : Nat) : Int).toNat = u64 v by omega)
  obtain ⟨x, hx⟩ : ∃ x : Int, ((u64 v : Nat) : Int) = x := ⟨_, rfl⟩
  rw [hx] at hwv hx1 hx0 HX
  have HT2 := HT.out
  rw [← HX.out] at HT2
  have HTT := Lib.hid HT2
  have t0 : 0 ≤ t := b1.1
  have t1 : t < 18446744073709551616 := by omega
  have n0 : 0 ≤ nw := b2.1
  have n1 : nw < 18446744073709551616 := by omega
  have hwt : IntKind.u64.wrap t = t := by rw [IntKind.wrap_u64]; omega
  have hwn : IntKind.u64.wrap nw = nw := by rw [IntKind.wrap_u64]; omega
  have T1 := Lib.hid t1; have N1 := Lib.hid n1
  clear t1 n1 b1 b2
  have XX := Lib.hid hx1
  have HH := Lib.hid (holds_alloc w [.int .i64 2, .string s, .int .i64 0, .int .i64 0, .slice A n c, .int .i64 0, .int .i64 t, .int .i64 nw, .int .i64 v] 24)
  have HA := Lib.hid (alloc_below w (.cells #[.int .i64 2, .string s, .int .i64 0, .int .i64 0, .slice A n c, .int .i64 0, .int .i64 t, .int .i64 nw, .int .i64 v] 24))
  obtain ⟨wb, hwb⟩ : ∃ x, w.alloc (.cells #[.int .i64 2, .string s, .int .i64 0, .int .i64 0, .slice A n c, .int .i64 0, .int .i64 t, .int .i64 nw, .int .i64 v] 24) = x := ⟨_, rfl⟩
  have HWB := Lib.hid hwb
  change Hid (Holds (w.alloc (.cells #[.int .i64 2, .string s, .int .i64 0, .int .i64 0, .slice A n c, .int .i64 0, .int .i64 t, .int .i64 nw, .int .i64 v] 24)) _ _) at HH
  rw [hwb] at HH HA
  clear hro hok hT hs hwb hx HT HT2 HX hx1
  go_enter Tryd.func8, Tryd.ntmps8
  go_wp2_with fail
  rw [HWB.out]
  refine (RT.out wb HA.out).mono ?_; rintro _ w1 ⟨rfl, hb1⟩
  have H1 := Lib.hid (hst_start hb1)
  obtain ⟨r0, r1, r2, r3, r4, r5, r6, r7, r8⟩ := (HH.out.below hb1 : Holds w1 w.heap.size _).nine
  clear hb1
  go_wp2_with fail
  refine (H1.out.lay 2 (by decide) (by decide) 1 (by decide) (by decide)).mono ?_; rintro _ w2 ⟨v2, rfl, hs2, _⟩
  clear r0 r1 r2 r3 r4 r5 r6 r7 r8
  obtain ⟨r0, r1, r2, r3, r4, r5, r6, r7, r8⟩ := (HH.out.below hs2.below : Holds w2 w.heap.size _).nine
  have S2 := Lib.hid hs2
  clear hs2
  go_wp2_with fail
  refine (S2.out.lay t t0 T1.out 8 (by decide) (by decide)).mono ?_; rintro _ w3 ⟨v3, rfl, hs3, _⟩
  clear r0 r1 r2 r3 r4 r5 r6 r7 r8
  obtain ⟨r0, r1, r2, r3, r4, r5, r6, r7, r8⟩ := (HH.out.below hs3.below : Holds w3 w.heap.size _).nine
  have S3 := Lib.hid hs3
  clear hs3
  go_wp2_with fail
  refine (S3.out.lay nw n0 N1.out 8 (by decide) (by decide)).mono ?_; rintro _ w4 ⟨v4, rfl, hs4, _⟩
  clear r0 r1 r2 r3 r4 r5 r6 r7 r8
  obtain ⟨r0, r1, r2, r3, r4, r5, r6, r7, r8⟩ := (HH.out.below hs4.below : Holds w4 w.heap.size _).nine
  have S4 := Lib.hid hs4
  clear hs4
  go_wp2_with fail
  refine (S4.out.lay x hx0 XX.out 8 (by decide) (by decide)).mono ?_; rintro _ w5 ⟨v5, rfl, hs5, _⟩
  clear r0 r1 r2 r3 r4 r5 r6 r7 r8
  obtain ⟨r0, r1, r2, r3, r4, r5, r6, r7, r8⟩ := (HH.out.below hs5.below : Holds w5 w.heap.size _).nine
  have S5 := Lib.hid hs5
  clear hs5
  have F := Lib.hid (S5.out.fin HA.out HTT.out)
  clear r0 r1 r2 r3 r4 r5 r6 r7 r8
  go_wp2
  exact bodyPost_ret (v := .tuple #[v5, .int .i64 0]) (by simp [results, Tryd.results8, go_sem]) rfl ⟨v5, rfl, F.out.1, F.out.2⟩
set_option maxRecDepth 100000 in
set_option maxHeartbeats 4000000 in
theorem put_three (g t v : Int) (A : Option Addr) (n c : Nat) (w : World) (hro : RgOut w (.slice A n c) []) (hok : slOk g t v = true) :
    Calls Tryd.prog 8 #[.agg #[.int .i64 3, .string (strB []), .int .i64 0, .int .i64 0, .slice A n c, .int .i64 g, .int .i64 t, .int .i64 0, .int .i64 v]] w fun e w' => ∃ v', e = .returned (.tuple #[v', .int .i64 0]) ∧ ByNew w.heap.size w' v' (rBytes (slR g t v)) ∧ Below w.heap.size w w' := by
  obtain ⟨b1, b2, _⟩ := sl_bounds hok
  have RT := Lib.hid (fun (W : World) (hB : Below w.heap.size w W) => by
    have h := right_c (.agg #[.int .i64 3, .string (strB []), .int .i64 0, .int .i64 0, .slice A n c, .int .i64 g, .int .i64 t, .int .i64 0, .int .i64 v]) (slR g t v) (fun _ h => by cases h) (Nat.zero_le _) W ⟨_, rfl, hro.below hB⟩
    rw [right_sl, hok] at h
    exact h)
  obtain ⟨T, hT⟩ : ∃ T, rBytes (slR g t v) = T := ⟨_, rfl⟩
  rw [hT]
  have HT := Lib.hid (show [] ++ nB 1 3 ++ nB 1 g.toNat ++ nB 8 t.toNat ++ nB 8 (u64 v) = T by rw [← hT, rBytes_sl, nB_one (show g.toNat < 256 by omega), nB_one (show 3 < 256 by omega)]; simp)
  obtain ⟨s, hs⟩ : ∃ s, strB [] = s := ⟨_, rfl⟩
  rw [hs] at RT ⊢
  have hwv := u64_of v
  have hx1 : ((u64 v : Nat) : Int) < 18446744073709551616 := by have := u64_lt v; omega
  have hx0 : 0 ≤ ((u64 v : Nat) : Int) := by omega
  have HX := Lib.hid (show ((u64 v : Nat) : Int).toNat = u64 v by omega)
  obtain ⟨x, hx⟩ : ∃ x : Int, ((u64 v : Nat) : Int) = x := ⟨_, rfl⟩
  rw [hx] at hwv hx1 hx0 HX
  have HT2 := HT.out
  rw [← HX.out] at HT2
  have HTT := Lib.hid HT2
  have t0 : 0 ≤ t := b2.1
  have t1 : t < 18446744073709551616 := by omega
  have g0 : 0 ≤ g := b1.1
  have g1 : g < 18446744073709551616 := by omega
  have hwt : IntKind.u64.wrap t = t := by rw [IntKind.wrap_u64]; omega
  have hwg : IntKind.u64.wrap g = g := by rw [IntKind.wrap_u64]; omega
  have T1 := Lib.hid t1; have G1 := Lib.hid g1
  clear t1 g1 b1 b2
  have XX := Lib.hid hx1
  have HH := Lib.hid (holds_alloc w [.int .i64 3, .string s, .int .i64 0, .int .i64 0, .slice A n c, .int .i64 g, .int .i64 t, .int .i64 0, .int .i64 v] 24)
  have HA := Lib.hid (alloc_below w (.cells #[.int .i64 3, .string s, .int .i64 0, .int .i64 0, .slice A n c, .int .i64 g, .int .i64 t, .int .i64 0, .int .i64 v] 24))
  obtain ⟨wb, hwb⟩ : ∃ x, w.alloc (.cells #[.int .i64 3, .string s, .int .i64 0, .int .i64 0, .slice A n c, .int .i64 g, .int .i64 t, .int .i64 0, .int .i64 v] 24) = x := ⟨_, rfl⟩
  have HWB := Lib.hid hwb
  change Hid (Holds (w.alloc (.cells #[.int .i64 3, .string s, .int .i64 0, .int .i64 0, .slice A n c, .int .i64 g, .int .i64 t, .int .i64 0, .int .i64 v] 24)) _ _) at HH
  rw [hwb] at HH HA
  clear hro hok hT hs hwb hx HT HT2 HX hx1
  go_enter Tryd.func8, Tryd.ntmps8
  go_wp2_with fail
  rw [HWB.out]
  refine (RT.out wb HA.out).mono ?_; rintro _ w1 ⟨rfl, hb1⟩
  have H1 := Lib.hid (hst_start hb1)
  obtain ⟨r0, r1, r2, r3, r4, r5, r6, r7, r8⟩ := (HH.out.below hb1 : Holds w1 w.heap.size _).nine
  clear hb1
  go_wp2_with fail
  refine (H1.out.lay 3 (by decide) (by decide) 1 (by decide) (by decide)).mono ?_; rintro _ w2 ⟨v2, rfl, hs2, _⟩
  clear r0 r1 r2 r3 r4 r5 r6 r7 r8
  obtain ⟨r0, r1, r2, r3, r4, r5, r6, r7, r8⟩ := (HH.out.below hs2.below : Holds w2 w.heap.size _).nine
  have S2 := Lib.hid hs2
  clear hs2
  go_wp2_with fail
  refine (S2.out.lay g g0 G1.out 1 (by decide) (by decide)).mono ?_; rintro _ w3 ⟨v3, rfl, hs3, _⟩
  clear r0 r1 r2 r3 r4 r5 r6 r7 r8
  obtain ⟨r0, r1, r2, r3, r4, r5, r6, r7, r8⟩ := (HH.out.below hs3.below : Holds w3 w.heap.size _).nine
  have S3 := Lib.hid hs3
  clear hs3
  go_wp2_with fail
  refine (S3.out.lay t t0 T1.out 8 (by decide) (by decide)).mono ?_; rintro _ w4 ⟨v4, rfl, hs4, _⟩
  clear r0 r1 r2 r3 r4 r5 r6 r7 r8
  obtain ⟨r0, r1, r2, r3, r4, r5, r6, r7, r8⟩ := (HH.out.below hs4.below : Holds w4 w.heap.size _).nine
  have S4 := Lib.hid hs4
  clear hs4
  go_wp2_with fail
  refine (S4.out.lay x hx0 XX.out 8 (by decide) (by decide)).mono ?_; rintro _ w5 ⟨v5, rfl, hs5, _⟩
  clear r0 r1 r2 r3 r4 r5 r6 r7 r8
  obtain ⟨r0, r1, r2, r3, r4, r5, r6, r7, r8⟩ := (HH.out.below hs5.below : Holds w5 w.heap.size _).nine
  have S5 := Lib.hid hs5
  clear hs5
  have F := Lib.hid (S5.out.fin HA.out HTT.out)
  clear r0 r1 r2 r3 r4 r5 r6 r7 r8
  go_wp2
  exact bodyPost_ret (v := .tuple #[v5, .int .i64 0]) (by simp [results, Tryd.results8, go_sem]) rfl ⟨v5, rfl, F.out.1, F.out.2⟩
set_option maxRecDepth 100000 in
set_option maxHeartbeats 2000000 in
theorem put_no (k m f g t nw v : Int) (p : List Nat) (l : List (Int × Int)) (A : Option Addr) (n c : Nat) (hp : Bytes p) (hl : l.length ≤ 100000) (w : World) (hro : RgOut w (.slice A n c) l) (hok : rRight ⟨k, p, m, f, l, g, t, nw, v⟩ = false) :
    Calls Tryd.prog 8 #[.agg #[.int .i64 k, .string (strB p), .int .i64 m, .int .i64 f, .slice A n c, .int .i64 g, .int .i64 t, .int .i64 nw, .int .i64 v]] w fun e w' => e = .returned (.tuple #[.slice none 0 0, .int .i64 1]) ∧ Below w.heap.size w w' := by
  have RT := Lib.hid (fun (W : World) (hB : Below w.heap.size w W) => by
    have h := right_c (.agg #[.int .i64 k, .string (strB p), .int .i64 m, .int .i64 f, .slice A n c, .int .i64 g, .int .i64 t, .int .i64 nw, .int .i64 v]) ⟨k, p, m, f, l, g, t, nw, v⟩ hp hl W ⟨_, rfl, hro.below hB⟩
    rw [hok] at h
    exact h)
  obtain ⟨s, hs⟩ : ∃ s, strB p = s := ⟨_, rfl⟩
  rw [hs] at RT ⊢
  clear hro hok hs hp hl
  go_enter Tryd.func8, Tryd.ntmps8
  go_wp2_with fail
  refine (RT.out _ ((Below.refl _ _).alloc (Nat.le_refl _) _)).mono ?_; rintro _ w1 ⟨rfl, hb1⟩
  have B1 := Lib.hid (show Below w.heap.size w w1 from Below.trans ((Below.refl _ _).alloc (Nat.le_refl _) _) (hb1.mono (by simp)))
  clear hb1
  go_wp2
  exact bodyPost_ret (v := .tuple #[.slice none 0 0, .int .i64 1]) (by simp [results, Tryd.results8, go_sem]) rfl ⟨rfl, B1.out⟩
theorem put_c (v : Value) (r : PR) (hp : Bytes r.path) (hl : r.rungs.length ≤ 100000) (w : World) (h : RcOut w v r) :
    Calls Tryd.prog 8 #[v] w fun e w' => ∃ v', e = .returned (.tuple #[v', .int .i64 (rPut r).2]) ∧ ByNew w.heap.size w' v' (rPut r).1 ∧ Below w.heap.size w w' := by
  by_cases hok : rRight r = true
  · have hP : rPut r = (rBytes r, 0) := by unfold rPut; rw [if_pos hok]
    rw [hP]
    rcases right_cases hok with ⟨p, m, f, l, rfl, hk⟩ | ⟨t, n, v0, rfl, hk⟩ | ⟨g, t, v0, rfl, hk⟩
    · obtain ⟨u, rfl, hro⟩ := h
      obtain ⟨A, c, rfl, hc, hx⟩ := id hro
      exact put_one p m f l A _ c hp rfl w hro hk
    · obtain ⟨u, rfl, hro⟩ := h
      obtain ⟨A, c, rfl, hc, hx⟩ := id hro
      exact put_two t n v0 A _ c w hro hk
    · obtain ⟨u, rfl, hro⟩ := h
      obtain ⟨A, c, rfl, hc, hx⟩ := id hro
      exact put_three g t v0 A _ c w hro hk
  · have hk : rRight r = false := by simpa using hok
    have hP : rPut r = ([], 1) := by unfold rPut; rw [if_neg hok]
    rw [hP]
    obtain ⟨k, p, m, f, l, g, t, nw, v0⟩ := r
    obtain ⟨u, rfl, hro⟩ := h
    obtain ⟨A, c, rfl, hc, hx⟩ := id hro
    refine (put_no k m f g t nw v0 p l A _ c hp hl w hro hk).mono ?_
    rintro _ w' ⟨rfl, hb⟩
    exact ⟨_, rfl, ByNew.none _ _, hb⟩
end Go.Proofs.YtabbpgnenmpacaaDoor.SP
