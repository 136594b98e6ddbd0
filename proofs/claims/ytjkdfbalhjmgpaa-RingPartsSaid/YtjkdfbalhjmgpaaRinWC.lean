/-
  Walks of the statements of layer 13: the parts of a span.
-/
import Derived.Test.YtjkdfbalhjmgpaaRinWB
set_option linter.unusedSimpArgs false
set_option linter.unusedVariables false
namespace Go.Proofs.Ytjkdfbalhjmgpaa.IW
open Go.RowKit IP
theorem wpList_append_on {P : Program} {w : World} {ops : Array Oper} {rest : List Oper} {o : Oper} {a : Act} {Q : Exit → Act → World → Prop} (hw : Region.wanted o (yielded ops a.tmps) = true) (s x : Operand) (t : TypeId)
    (ho : o.op = .call { callee := .builtin .append, args := #[s, x], argTypes := #[t, t] })
    (base : Nat) (e : TypeId) (i : TypeInfo) (z : Value) (size bytes : Nat) (ht : P.underlying t = some (.slice e)) (hi : P.info? e = some i) (hz : i.zero = some z)
    (hsize : i.size = size) (hby : i.bytes = bytes) (hzs : z.cells.size = size) (hsz : 0 < size)
    (v : Value) (n : Nat) (xs : List Value) (hs : a.eval s = v) (hown : w.ownsRow base e size v n xs)
    (B : Nat) (A : Option Addr) (m c : Nat) (news : List Value) (hx : a.eval x = .slice A m c) (hr : Reads w B size A m news) (h1 : ∀ u ∈ news, u.oneCell' = true)
    (h63 : n + m ≤ maxLen) (hbytes : (n + m) * bytes ≤ 140737488355328) (hbase : base ≤ w.heap.size)
    (h : ∀ v' w', w'.ownsRow base e size v' (n + m) (xs ++ news) → w.grownBy w' v.ownBlock → (v'.ownBlock = v.ownBlock ∨ v'.ownBlock = some w.heap.size) → wpList P ops Q rest (a.put o.dst v') w') : wpList P ops Q (o :: rest) a w := by
  unfold wpList
  rw [if_pos hw]
  exact Or.inl (wp_append_any w s x t ho base e i z size bytes ht hi hz hsize hby hzs hsz v n xs hs hown B A m c news hx hr h1 h63 hbytes hbase h)
theorem rSpan_code {s : Int} {l : List (Int × Int)} {f u : Int} (hr : rRight s l = true) (hf : rTm f = true) (hu : rTm u = true) : (rSpan s l f u).2 = 0 ∨ (rSpan s l f u).2 = 11 := by
  rw [rSpan_eq hr hf hu]
  unfold rCnt
  split
  · exact Or.inr rfl
  · exact Or.inl rfl
theorem three_cells (w : World) (x y z : Value) (t : TypeId) : (w.alloc (.cells #[x, y, z] t)).cell? ⟨w.heap.size, 0, none⟩ = some x ∧ (w.alloc (.cells #[x, y, z] t)).cell? ⟨w.heap.size, 1, none⟩ = some y ∧ (w.alloc (.cells #[x, y, z] t)).cell? ⟨w.heap.size, 2, none⟩ = some z := by
  have h := heap_alloc_new w (.cells #[x, y, z] t)
  exact ⟨cell_of_row _ _ 0 _ _ (0, 0) h, cell_of_row _ _ 1 _ _ (0, 0) h, cell_of_row _ _ 2 _ _ (0, 0) h⟩
theorem nu_self (a b : Value) (M : List (Option Int)) (h1 : M.length ≤ 100000) (W : World) (f1 : NuOut W a M) (f2 : NuOut W b M) :
    Calls Try.prog 28 #[a, b] W fun e w' => e = .returned (.bool true) ∧ Below W.heap.size W w' :=
  (IR.numSame_c a b M M h1 h1 W f1 f2).mono (by rintro e w' ⟨rfl, h⟩; exact ⟨by simp, h⟩)
set_option maxRecDepth 100000 in
set_option maxHeartbeats 4000000 in
theorem ringParts_c (s : Int) (x y z : Nat) (hx : x ≤ 65535) (hy : y ≤ 65535) (hz : z ≤ 65535) (v : Value) (l : List (Int × Int)) (w : World) (o : RgOut w v l) :
    Calls Try.prog 7 #[.agg #[.int .i64 s, v], .agg #[.int .u16 (x : Int), .int .u16 (y : Int), .int .u16 (z : Int)]] w fun e w' => e = .returned (.bool true) ∧ Below w.heap.size w w' := by
  obtain ⟨A, c, rfl, hc, -⟩ := id o
  obtain ⟨n, hn⟩ : ∃ n, l.length = n := ⟨_, rfl⟩
  obtain ⟨b, hb⟩ : ∃ b : Int, (x : Int) + (y : Int) = b := ⟨_, rfl⟩
  obtain ⟨d, hd⟩ : ∃ d : Int, b + (z : Int) = d := ⟨_, rfl⟩
  obtain ⟨a, ha⟩ : ∃ a : Int, (x : Int) = a := ⟨_, rfl⟩
  have SP := fun (f u : Int) (hl : l.length ≤ 100000) (W : World) (h : Below w.heap.size w W) => span_c s f u (.slice A l.length c) l hl W (o.below h)
  have RI := fun (hl : l.length ≤ 140737488351232) (W : World) (h : Below w.heap.size w W) => IR.right_c s (.slice A l.length c) l hl W (o.below h)
  have PARTS : rRight s l = true → _ := fun hr => rSpan_parts (s := s) (l := l) (a := a) (b := b) (c := d) hr (rTm_iff.2 (by omega)) (rTm_iff.2 (by omega)) (rTm_iff.2 (by omega)) (by omega) (by omega)
  have CODES : rRight s l = true → _ := fun hr => And.intro (rSpan_code (s := s) (l := l) (f := a) (u := b) hr (rTm_iff.2 (by omega)) (rTm_iff.2 (by omega))) (rSpan_code (s := s) (l := l) (f := b) (u := d) hr (rTm_iff.2 (by omega)) (rTm_iff.2 (by omega)))
  have NO : rRight s l = false → rSpan s l a d = ([], 1) ∧ rSpan s l a b = ([], 1) ∧ rSpan s l b d = ([], 1) := fun h => ⟨rSpan_no (fun k => by rw [h] at k; cases k.1), rSpan_no (fun k => by rw [h] at k; cases k.1), rSpan_no (fun k => by rw [h] at k; cases k.1)⟩
  have SP1 := SP a d; have SP2 := SP a b; have SP3 := SP b d
  have q1 := rSpan_len s l a d; have q2 := rSpan_len s l a b; have q3 := rSpan_len s l b d
  obtain ⟨⟨L1, E1⟩, h1⟩ : ∃ S, rSpan s l a d = S := ⟨_, rfl⟩
  obtain ⟨⟨L2, E2⟩, h2⟩ : ∃ S, rSpan s l a b = S := ⟨_, rfl⟩
  obtain ⟨⟨L3, E3⟩, h3⟩ : ∃ S, rSpan s l b d = S := ⟨_, rfl⟩
  rw [h1] at SP1 NO PARTS q1
  rw [h2] at SP2 NO PARTS CODES q2
  rw [h3] at SP3 NO PARTS CODES q3
  simp only at SP1 SP2 SP3 PARTS CODES q1 q2 q3
  rw [hn] at SP1 SP2 SP3 RI ⊢
  obtain ⟨k0, k1, -, -⟩ := two_new w (.int .i64 s) (.slice A n c) 24
  obtain ⟨wp, hwp⟩ : ∃ wp, w.alloc (.cells #[.int .i64 s, .slice A n c] 24) = wp := ⟨_, rfl⟩
  have hbp := alloc_below w (.cells #[.int .i64 s, .slice A n c] 24)
  have zp : wp.heap.size = w.heap.size + 1 := by rw [← hwp]; simp
  rw [hwp] at k0 k1 hbp
  obtain ⟨j0, j1, j2⟩ := three_cells wp (.int .u16 (x : Int)) (.int .u16 (y : Int)) (.int .u16 (z : Int)) 52
  have hbq := alloc_below wp (.cells #[.int .u16 (x : Int), .int .u16 (y : Int), .int .u16 (z : Int)] 52)
  obtain ⟨wq, hwq⟩ : ∃ wq, wp.alloc (.cells #[.int .u16 (x : Int), .int .u16 (y : Int), .int .u16 (z : Int)] 52) = wq := ⟨_, rfl⟩
  rw [hwq] at j0 j1 j2 hbq
  rw [zp] at j0 j1 j2
  have k0 := cellb hbq k0; have k1 := cellb hbq k1
  have HWP := Lib.hid hwp; have HWQ := Lib.hid hwq; have KP := Lib.hid (bnext hbp hbq)
  have SP1 := Lib.hid SP1; have SP2 := Lib.hid SP2; have SP3 := Lib.hid SP3; have RI := Lib.hid RI
  have PARTS := Lib.hid PARTS; have CODES := Lib.hid CODES; have NO := Lib.hid NO; have HN := Lib.hid hn
  have AL := Lib.hid (alive_c wq)
  have GR := Lib.hid (great_c s A n c)
  have HA := Lib.hid ha
  have Q1 := Lib.hid q1; have Q2 := Lib.hid q2; have Q3 := Lib.hid q3
  have HBD := Lib.hid (show b = (x : Int) + (y : Int) ∧ d = b + (z : Int) from ⟨hb.symm, hd.symm⟩)
  have a0 : 0 ≤ a ∧ a ≤ 65535 := by omega
  have b0 : 0 ≤ b ∧ b ≤ 131070 := by omega
  clear h1 h2 h3 hn hwp hwq hbp hbq SP hb hd ha q1 q2 q3 zp o
  go_enter Try.func7, Try.ntmps7
  go_wp2_with fail
  rw [HWP.out, HWQ.out]
  refine AL.out.mono ?_; rintro _ w1 ⟨rfl, hb1⟩
  have k0 := cellb hb1 k0; have k1 := cellb hb1 k1; have j0 := cellb hb1 j0; have j1 := cellb hb1 j1; have j2 := cellb hb1 j2
  have B1 := Lib.hid (bnext KP.out hb1)
  clear hb1
  go_wp2_with fail
  refine (GR.out _).mono ?_; rintro _ w2 ⟨rfl, hb2⟩
  have k0 := cellb hb2 k0; have k1 := cellb hb2 k1; have j0 := cellb hb2 j0; have j1 := cellb hb2 j1; have j2 := cellb hb2 j2
  have B2 := Lib.hid (bnext B1.out hb2)
  clear hb2
  by_cases hg : 1000 < n
  · rw [decide_eq_true hg]
    go_wp2_with fail
    go_ret
    exact ⟨rfl, B2.out⟩
  · rw [decide_eq_false hg]
    have SP1 := Lib.hid (SP1.out (by omega) w2 B2.out)
    have hb := HBD.out.1.symm
    have hd := HBD.out.2.symm
    go_wp2_with fail
    rw [HA.out]
    clear hb hd
    refine SP1.out.mono ?_; rintro _ w3 ⟨u3, rfl, h3, hb3⟩
    have k0 := cellb hb3 k0; have k1 := cellb hb3 k1
    have B3 := Lib.hid (bnext B2.out hb3)
    have O3 := h3.out
    obtain ⟨A3, c3, rfl, hc3, -⟩ := id O3
    have O3 := Lib.hid O3
    have SP2 := Lib.hid (SP2.out (by omega) w3 B3.out)
    clear hb3 h3 j0 j1 j2
    go_wp2_with fail
    refine SP2.out.mono ?_; rintro _ w4 ⟨u4, rfl, h4, hb4⟩
    have k0 := cellb hb4 k0; have k1 := cellb hb4 k1
    have B4 := Lib.hid (bnext B3.out hb4)
    have O4 := h4.out
    obtain ⟨A4, c4, rfl, hc4, -⟩ := id O4
    have O4 := Lib.hid O4
    have O3 := Lib.hid (O3.out.below hb4)
    have SP3 := Lib.hid (SP3.out (by omega) w4 B4.out)
    clear hb4 h4
    go_wp2_with fail
    refine SP3.out.mono ?_; rintro _ w5 ⟨u5, rfl, h5, hb5⟩
    have k0 := cellb hb5 k0; have k1 := cellb hb5 k1
    have B5 := Lib.hid (bnext B4.out hb5)
    have O5 := h5.out
    obtain ⟨A5, c5, rfl, hc5, -⟩ := id O5
    have O5 := Lib.hid O5
    have O3 := Lib.hid (O3.out.below hb5)
    have O4 := Lib.hid (O4.out.below hb5)
    have RI5 := Lib.hid (RI.out (by omega) w5 B5.out)
    clear hb5 h5
    go_wp2_with fail
    refine RI5.out.mono ?_; rintro _ w6 ⟨rfl, hb6⟩
    have B6 := Lib.hid (bnext B5.out hb6)
    have O3 := Lib.hid (O3.out.below hb6)
    have O4 := Lib.hid (O4.out.below hb6)
    have O5 := Lib.hid (O5.out.below hb6)
    clear hb6 k0 k1
    cases hr : rRight s l
    · obtain ⟨e1, e2, e3⟩ := NO.out hr
      injection e1 with e1 e1'
      injection e2 with e2 e2'
      injection e3 with e3 e3'
      subst e1 e1' e2 e2' e3 e3'
      clear hr
      go_wp2_with fail
      go_ret
      exact ⟨by simp, B6.out⟩
    · obtain ⟨P1, P2⟩ := PARTS.out hr
      obtain ⟨C1, C2⟩ := CODES.out hr
      clear hr
      rcases C1 with rfl | rfl
      · rcases C2 with rfl | rfl
        · have P2 := P2 rfl rfl
          clear P1
          rcases P2 with ⟨rfl, hlen⟩ | ⟨rfl, hL1⟩
          · have hli : (2000 : Int) < (L2.length : Int) + (L3.length : Int) := by omega
            have q2 := Q2.out; have q3 := Q3.out
            obtain ⟨m2, hm2⟩ : ∃ m, L2.length = m := ⟨_, rfl⟩
            obtain ⟨m3, hm3⟩ : ∃ m, L3.length = m := ⟨_, rfl⟩
            rw [hm2] at hli q2 hlen hc4 ⊢
            rw [hm3] at hli q3 hlen hc5 ⊢
            clear hm2 hm3
            go_wp2_with fail
            go_ret
            exact ⟨by simp, B6.out⟩
          · obtain ⟨i0, hi0, hz0, hz1, hz2⟩ := info_parts num_info
            have RD4 := Lib.hid (nu_reads O4.out)
            have RD5 := Lib.hid (nu_reads O5.out)
            have ON2 := Lib.hid (nusC_one L2)
            have ON3 := Lib.hid (nusC_one L3)
            have q2 := Q2.out; have q3 := Q3.out
            obtain ⟨m1, hm1⟩ : ∃ m, L1.length = m := ⟨_, rfl⟩
            obtain ⟨m2, hm2⟩ : ∃ m, L2.length = m := ⟨_, rfl⟩
            obtain ⟨m3, hm3⟩ : ∃ m, L3.length = m := ⟨_, rfl⟩
            have LAST := Lib.hid (show ∀ (A8 : Option Addr) (c8 : Nat) (W : World), Below w6.heap.size w6 W → W.ownsRow w6.heap.size 34 2 (.slice A8 (m2 + m3) c8) (m2 + m3) (nusC L2 ++ nusC L3) → Calls Try.prog 28 #[.slice A3 m1 c3, .slice A8 (m2 + m3) c8] W fun e w' => e = .returned (.bool true) ∧ Below W.heap.size W w' from fun A8 c8 W hb ho => by
              rw [← hm1]
              refine nu_self _ _ L1 (by rw [hL1, List.length_append]; omega) W (O3.out.below hb) (NuNew.out (B := w6.heap.size) ?_)
              unfold NuNew
              rw [hL1, nusC_app, List.length_append, hm2, hm3]
              exact ho)
            rw [hm2] at RD4 q2 hc4 ⊢
            rw [hm3] at RD5 q3 hc5 ⊢
            rw [hm1] at hc3 ⊢
            clear hm1 hm2 hm3 hL1 O3 O4 O5
            go_wp2_with (first | (at_builtin; refine wpList_append_on (by rfl) (.tmp 88) (.tmp 89) _ rfl w6.heap.size 34 i0 (.agg #[.bool false, .int .i64 0]) 2 16 Try.underlying42 hi0 hz0 hz1 hz2 rfl (by decide) (.slice (some ⟨w6.heap.size, 0, none⟩) 0 0) 0 [] rfl (World.ownsRow_made _ _ _ (Nat.le_refl _) (by decide) rfl) w6.heap.size A4 m2 c4 (nusC L2) rfl (RD4.out.alloc (Nat.le_refl _) _) ON2.out (by simp only [maxLen]; omega) (by omega) (by simp) ?_; intro v7 w7 hown7 hg7 hat7; have hO7 := Lib.hid (show w7.ownsRow w6.heap.size 34 2 v7 m2 (nusC L2) from by simpa using hown7); have hB7 := Lib.hid (show Below w6.heap.size w6 w7 from Below.grown ((Below.refl _ _).alloc (Nat.le_refl _) _) hg7 (by simp) (by intro g hg; simp [Value.ownBlock] at hg; omega)); clear hown7 hg7 hat7; obtain ⟨A7, c7, hv7, hc7, _⟩ := own_form hO7.out; subst hv7) | (at_builtin; refine wpList_append_on (by rfl) (.tmp 90) (.tmp 91) _ rfl w6.heap.size 34 i0 (.agg #[.bool false, .int .i64 0]) 2 16 Try.underlying42 hi0 hz0 hz1 hz2 rfl (by decide) (.slice A7 m2 c7) m2 (nusC L2) rfl hO7.out w6.heap.size A5 m3 c5 (nusC L3) rfl (RD5.out.below hB7.out) ON3.out (by simp only [maxLen]; omega) (by omega) (by have := hB7.out.size; omega) ?_; intro v8 w8 hown8 hg8 hat8; have hB8 := Lib.hid (show Below w6.heap.size w6 w8 from Below.grown hB7.out hg8 hB7.out.size (fun g hg => (own_lt hO7.out hg).1)); have hO8 := Lib.hid hown8; clear hown8 hg8 hat8; obtain ⟨A8, c8, hv8, hc8, _⟩ := own_form hO8.out; subst hv8) | (go_at_call 28; refine (LAST.out _ _ _ hB8.out hO8.out).mono ?_; rintro _ w9 ⟨rfl, hb9⟩; have B9 := Lib.hid (bnext (bnext B6.out hB8.out) hb9)))
            go_ret
            exact ⟨by simp, B9.out⟩
        · have P1 := P1 (Or.inr (by decide))
          subst P1
          clear P2
          go_wp2_with fail
          go_ret
          exact ⟨by simp, B6.out⟩
      · have P1 := P1 (Or.inl (by decide))
        subst P1
        clear P2 C2
        go_wp2_with fail
        go_ret
        exact ⟨by simp, B6.out⟩
end Go.Proofs.Ytjkdfbalhjmgpaa.IW
