/-
  Contracts of the program's functions of layer 10: Span; an archive's text.
-/
import Derived.Test.YtjbacbbbhedmlaaDoorRetPB
import Derived.Test.YtjbacbbbhedmlaaDoorRetLib
import Derived.Test.YtjbacbbbhedmlaaDoorRetRI
import Derived.Test.YtjbacbbbhedmlaaDoorShelf
set_option linter.unusedSimpArgs false
set_option linter.unusedVariables false
namespace Go.Proofs.YtjbacbbbhedmlaaDoor.RP
open Go.RowKit RR
theorem below_drewN (w : World) (k : Nat) : Below w.heap.size w (w.drewN k) := ⟨rfl, rfl, rfl, Nat.le_refl _, fun _ _ => rfl⟩
theorem am_span (l : List Nat) : spanV l = if (amP l).2.2 = false ∨ (amP l).2.1 = false then (0, 2) else if (amP l).1 = 1099511627777 then (0, 3) else ((amP l).1, 0) := by
  unfold spanV amP
  cases hm : amt l with
  | none => rfl
  | some x =>
    obtain ⟨n, s⟩ := x
    cases s
    · rfl
    · simp only
      rw [if_neg (by simp : ¬ (true = false ∨ true = false))]
      by_cases h : 1099511627776 < n
      · rw [if_pos h, if_pos (by omega)]
      · rw [if_neg h, if_neg (by omega)]
        congr 1
        omega
theorem am_bd (l : List Nat) : 0 ≤ (amP l).1 ∧ (amP l).1 ≤ 1099511627777 := by
  unfold amP
  split
  · exact ⟨Int.le_refl _, by omega⟩
  · exact ⟨by omega, by omega⟩
set_option maxRecDepth 100000 in
set_option maxHeartbeats 1000000 in
theorem span_c (s : ByteArray) (hs : s.size ≤ 9223372036854775807) (w : World) (g : G w) :
    Calls Tryd.prog 10 #[.string s] w fun e w' => e = .returned (.tuple #[.int .i64 (spanV (bs s)).1, .int .i64 (spanV (bs s)).2]) ∧ Below w.heap.size w w' := by
  have ha := amount_c s hs w g
  have hV := am_span (bs s)
  obtain ⟨⟨x, sec, ok⟩, hX⟩ : ∃ X, amP (bs s) = X := ⟨_, rfl⟩
  rw [hX] at ha hV
  obtain ⟨⟨p, q⟩, hP⟩ : ∃ P, spanV (bs s) = P := ⟨_, rfl⟩
  rw [hP] at hV ⊢
  simp only at ha hV ⊢
  have HA := Lib.hid ha
  have fin : ∀ {a b : Int}, (p, q) = (a, b) → Hid (a = p ∧ b = q) := fun h => by injection h with h1 h2; exact Lib.hid ⟨h1.symm, h2.symm⟩
  clear ha hX hP g
  cases ok
  · have F := fin (hV.trans (if_pos (.inl rfl)))
    clear hV fin
    go_enter Tryd.func10, Tryd.ntmps10
    go_wp2_with fail
    refine HA.out.mono ?_; rintro _ w1 ⟨rfl, hb1⟩
    go_wp2
    go_ret2
    exact ⟨ret_n2 F.out.1 F.out.2, hb1⟩
  · cases sec
    · have F := fin (hV.trans (if_pos (.inr rfl)))
      clear hV fin
      go_enter Tryd.func10, Tryd.ntmps10
      go_wp2_with fail
      refine HA.out.mono ?_; rintro _ w1 ⟨rfl, hb1⟩
      go_wp2
      go_ret2
      exact ⟨ret_n2 F.out.1 F.out.2, hb1⟩
    · rw [if_neg (by simp)] at hV
      by_cases hx : x = 1099511627777
      · have F := fin (hV.trans (if_pos hx))
        subst hx
        clear hV fin
        go_enter Tryd.func10, Tryd.ntmps10
        go_wp2_with fail
        refine HA.out.mono ?_; rintro _ w1 ⟨rfl, hb1⟩
        go_wp2
        go_ret2
        exact ⟨ret_n2 F.out.1 F.out.2, hb1⟩
      · have F := fin (hV.trans (if_neg hx))
        have hxb : (x == 1099511627777) = false := beq_false_of_ne hx
        clear hV fin hx
        go_enter Tryd.func10, Tryd.ntmps10
        go_wp2_with fail
        refine HA.out.mono ?_; rintro _ w1 ⟨rfl, hb1⟩
        go_wp2
        go_ret2
        exact ⟨ret_n2 F.out.1 F.out.2, hb1⟩
/-! ### An archive's text -/
theorem spl_two {c : Nat} : ∀ {l : List Nat}, c ∈ l → 2 ≤ (spl c l).length
  | [], h => by cases h
  | x :: l, h => by
    have hp := List.length_pos_iff.2 (spl_ne c l)
    unfold spl
    by_cases hx : x = c
    · rw [if_pos hx, List.length_cons]; omega
    · rw [if_neg hx, List.length_cons, List.length_tail]
      have := spl_two (c := c) (l := l) (by rcases List.mem_cons.1 h with e | e; exact absurd e.symm hx; exact e)
      omega
theorem rg_am {t a b : List Nat} (ht : t = a ++ 58 :: b) (ha : 58 ∉ a) :
    rgV t = if (amP a).2.2 = false ∨ (amP b).2.2 = false then ((0, 0), 7) else if (amP a).1 = 0 ∨ (amP a).1 = 1099511627777 ∨ (amP b).1 = 1099511627777 then ((0, 0), 3) else (((amP a).1, if (amP b).2.1 then (amP b).1 / (amP a).1 else (amP b).1), 0) := by
  by_cases hb : 58 ∈ b
  · have hn : amP b = (0, false, false) := by
      unfold amP
      rw [amt_colon hb (by decide) (by decide)]
    rw [hn, if_pos (.inr rfl)]
    refine rg_other ?_
    rw [ht, spl_at _ ha, List.length_cons]
    have := spl_two hb
    omega
  · have hs : spl 58 t = [a, b] := by rw [ht, spl_at _ ha, spl_no hb]
    have hr : rgV t = match amt a, amt b with
      | some (x, _), some (y, s) => if x = 0 ∨ 1099511627776 < x ∨ 1099511627776 < y then ((0, 0), 3) else (((x : Int), if s then (y : Int) / (x : Int) else (y : Int)), 0)
      | _, _ => ((0, 0), 7) := by unfold rgV; rw [hs]; rfl
    rw [hr]
    unfold amP
    cases amt a with
    | none => rfl
    | some A =>
      obtain ⟨m, r⟩ := A
      cases amt b with
      | none => rfl
      | some B =>
        obtain ⟨n, s⟩ := B
        simp only
        rw [if_neg (by simp : ¬ (true = false ∨ true = false))]
        by_cases h : m = 0 ∨ 1099511627776 < m ∨ 1099511627776 < n
        · rw [if_pos h, if_pos (by omega)]
        · have n3 : ¬ (((min m 1099511627777 : Nat) : Int) = 0 ∨ ((min m 1099511627777 : Nat) : Int) = 1099511627777 ∨ ((min n 1099511627777 : Nat) : Int) = 1099511627777) := by omega
          rw [if_neg h, if_neg n3, show min m 1099511627777 = m from by omega, show min n 1099511627777 = n from by omega]
theorem cut_c (s : ByteArray) (hs : s.size ≤ 100000) (w : World) (g : G w) :
    Calls Tryd.prog 34 #[.string s, .string ⟨#[58]⟩] w fun e w' => (∃ a b z, e = .returned (.tuple #[.string (str a), .string (str b), .bool z]) ∧ ((58 ∉ bs s ∧ a = bs s ∧ b = []) ∨ (bs s = a ++ 58 :: b ∧ 58 ∉ a))) ∧ Below w.heap.size w w' := by
  obtain ⟨m, hm⟩ := g.len
  refine (Tryd.strings_Cut s ⟨#[58]⟩ m w (by omega) hm).mono ?_
  rintro e w' ⟨rfl, n, rfl⟩
  refine ⟨?_, below_drewN _ _⟩
  rcases cut_part s 58 with ⟨h1, h2, h3⟩ | ⟨a, b, h1, h2, h3, h4⟩
  · exact ⟨bs s, [], _, by rw [← h2, ← h3], .inl ⟨h1, rfl, rfl⟩⟩
  · exact ⟨a, b, _, by rw [← h3, ← h4], .inr ⟨h1, h2⟩⟩
theorem rung_cells (w : World) (b : Nat) (x y : Value) (u0 u1 : Value) (h0 : w.cell? ⟨b, 0, none⟩ = some u0) (h1 : w.cell? ⟨b, 1, none⟩ = some u1) :
    ((w.setCell ⟨b, 0, none⟩ x).setCell ⟨b, 1, none⟩ y).cell? ⟨b, 0, none⟩ = some x ∧ ((w.setCell ⟨b, 0, none⟩ x).setCell ⟨b, 1, none⟩ y).cell? ⟨b, 1, none⟩ = some y :=
  ⟨(World.cell?_setCell_other _ _ _ _ (by simp)).trans (World.cell?_setCell_same _ _ _ h0), World.cell?_setCell_same _ _ _ ((World.cell?_setCell_other _ _ _ _ (by simp)).trans h1)⟩
set_option maxRecDepth 100000 in
set_option maxHeartbeats 2000000 in
theorem rung_c (s : ByteArray) (hs : s.size ≤ 100000) (w : World) (g : G w) :
    Calls Tryd.prog 20 #[.string s] w fun e w' => e = .returned (.tuple #[.agg #[.int .i64 (rgV (bs s)).1.1, .int .i64 (rgV (bs s)).1.2], .int .i64 (rgV (bs s)).2]) ∧ Below w.heap.size w w' := by
  have hc := cut_c s hs (w.alloc (.cells #[.int .i64 0, .int .i64 0] 32)) (g.alloc _)
  obtain ⟨⟨⟨p, q⟩, r⟩, hR⟩ : ∃ R, rgV (bs s) = R := ⟨_, rfl⟩
  rw [hR]
  simp only
  have HR := Lib.hid hR; have HC := Lib.hid hc; have GG := Lib.hid g
  have HZ := Lib.hid hs
  clear hR hc g hs
  go_enter Tryd.func20, Tryd.ntmps20
  go_wp2_with fail
  refine HC.out.mono ?_; rintro _ w1 ⟨⟨a, b, z, rfl, hab⟩, hb1⟩
  have hal : a.length ≤ 100000 ∧ b.length ≤ 100000 ∧ (∀ c ∈ a, c < 256) ∧ (∀ c ∈ b, c < 256) := by
    have h8 := bs_small s
    have hl := bs_length s
    have := HZ.out
    rcases hab with ⟨_, rfl, rfl⟩ | ⟨h, _⟩
    · exact ⟨by omega, by simp, h8, fun c hc => by cases hc⟩
    · rw [h] at h8 hl
      rw [List.length_append, List.length_cons] at hl
      exact ⟨by omega, by omega, fun c hc => h8 c (by simp [hc]), fun c hc => h8 c (by simp [hc])⟩
  obtain ⟨la, lb, a8, b8⟩ := hal
  have HB1 := Lib.hid (bnext (alloc_below w (.cells #[.int .i64 0, .int .i64 0] 32)) hb1)
  have hlt1 : w.heap.size < w1.heap.size := by have := hb1.size; simp at this; omega
  have g1 := GG.out.below HB1.out
  have aA := amount_c (str a) (by rw [str_size]; omega) w1 g1
  rw [bs_str a8] at aA
  have aB := fun W gW => amount_c (str b) (by rw [str_size]; omega) W gW
  rw [bs_str b8] at aB
  have k0 : w1.cell? ⟨w.heap.size, 0, none⟩ = some (.int .i64 0) ∧ w1.cell? ⟨w.heap.size, 1, none⟩ = some (.int .i64 0) := ⟨(hb1.cell (by simp)).trans (by simp [go_sem]), (hb1.cell (by simp)).trans (by simp [go_sem])⟩
  have f0 : w1.frozen? ⟨w.heap.size, 0, none⟩ = false ∧ w1.frozen? ⟨w.heap.size, 1, none⟩ = false := ⟨(hb1.frozen (by simp)).trans (by simp [go_sem]), (hb1.frozen (by simp)).trans (by simp [go_sem])⟩
  have RG := Lib.hid (show (amP b).2.2 = false ∨ (bs s = a ++ 58 :: b ∧ 58 ∉ a) from by
    rcases hab with ⟨_, _, rfl⟩ | h
    · exact .inl (by decide)
    · exact .inr h)
  have R7 := Lib.hid (show (amP b).2.2 = false → ((p, q), r) = ((0, 0), 7) from fun h => by
    rw [← HR.out]
    rcases hab with ⟨hn, _, _⟩ | ⟨h1, h2⟩
    · exact rg_other (by rw [spl_no hn]; simp)
    · rw [rg_am h1 h2, if_pos (.inr h)])
  have RM := Lib.hid (show (bs s = a ++ 58 :: b ∧ 58 ∉ a) → ((p, q), r) = _ from fun h => HR.out.symm.trans (rg_am h.1 h.2))
  obtain ⟨x0, x1⟩ := am_bd a
  obtain ⟨y0, y1⟩ := am_bd b
  obtain ⟨⟨x, sx, ox⟩, hx⟩ : ∃ X, amP a = X := ⟨_, rfl⟩
  obtain ⟨⟨y, sy, oy⟩, hy⟩ : ∃ X, amP b = X := ⟨_, rfl⟩
  rw [hx] at x0 x1 aA
  rw [hy] at y0 y1 aB
  rw [hx, hy] at RM
  rw [hy] at R7 RG
  simp only at x0 x1 y0 y1 aA aB
  have AA := Lib.hid aA; have AB := Lib.hid aB; have G1 := Lib.hid g1
  generalize str a = SA at *
  generalize str b = SB at *
  clear hx hy aA aB g1 hb1 la lb a8 b8 hab HZ HC GG
  go_wp2_with fail
  refine AA.out.mono ?_; rintro _ w2 ⟨rfl, hb2⟩
  go_wp2_with fail
  refine (AB.out _ (G1.out.below hb2)).mono ?_; rintro _ w3 ⟨rfl, hb3⟩
  have hb13 := bnext hb2 hb3
  have k3 : w3.cell? ⟨w.heap.size, 0, none⟩ = some (.int .i64 0) ∧ w3.cell? ⟨w.heap.size, 1, none⟩ = some (.int .i64 0) := ⟨cellb hb13 k0.1, cellb hb13 k0.2⟩
  have f3 : w3.frozen? ⟨w.heap.size, 0, none⟩ = false ∧ w3.frozen? ⟨w.heap.size, 1, none⟩ = false := ⟨(hb13.frozen hlt1).trans f0.1, (hb13.frozen hlt1).trans f0.2⟩
  have HB3 := Lib.hid (bnext HB1.out hb13)
  obtain ⟨k30, k31⟩ := k3
  obtain ⟨f30, f31⟩ := f3
  clear hb2 hb3 hb13 k0 f0 AA AB G1 HB1
  have FIN := Lib.hid (show ∀ (X Y : Int), Below w.heap.size w ((w3.setCell ⟨w.heap.size, 0, none⟩ (.int .i64 X)).setCell ⟨w.heap.size, 1, none⟩ (.int .i64 Y)) ∧ _ from fun X Y => ⟨(HB3.out.setCell (Nat.le_refl _) _).setCell (Nat.le_refl _) _, rung_cells w3 w.heap.size (.int .i64 X) (.int .i64 Y) _ _ k30 k31⟩)
  have ovr : ∀ {a b c : Int}, ((p, q), r) = ((a, b), c) → Hid (a = p ∧ b = q ∧ c = r) := fun h => by
    injection h with h1 h2
    injection h1 with h1 h3
    exact Lib.hid ⟨h1.symm, h3.symm, h2.symm⟩
  cases oy
  · cases ox
    · have F := ovr (R7.out rfl)
      obtain ⟨lb, c0, c1⟩ := FIN.out 0 0
      clear ovr RG R7 RM
      go_wp2
      obtain ⟨e1, e2, e3⟩ := F.out
      subst e1 e2 e3
      exact bodyPost_ret (v := .tuple #[.agg #[.int .i64 0, .int .i64 0], .int .i64 7]) (by simp [results, Tryd.results20, go_sem, c0, c1]) rfl ⟨rfl, lb⟩
    · have F := ovr (R7.out rfl)
      obtain ⟨lb, c0, c1⟩ := FIN.out 0 0
      clear ovr RG R7 RM
      go_wp2
      obtain ⟨e1, e2, e3⟩ := F.out
      subst e1 e2 e3
      exact bodyPost_ret (v := .tuple #[.agg #[.int .i64 0, .int .i64 0], .int .i64 7]) (by simp [results, Tryd.results20, go_sem, c0, c1]) rfl ⟨rfl, lb⟩
  · have rm := RM.out (by
      rcases RG.out with h | h
      · cases h
      · exact h)
    cases ox
    · have F := ovr (rm.trans (if_pos (.inl rfl)))
      obtain ⟨lb, c0, c1⟩ := FIN.out 0 0
      clear ovr RG R7 RM
      go_wp2
      obtain ⟨e1, e2, e3⟩ := F.out
      subst e1 e2 e3
      exact bodyPost_ret (v := .tuple #[.agg #[.int .i64 0, .int .i64 0], .int .i64 7]) (by simp [results, Tryd.results20, go_sem, c0, c1]) rfl ⟨rfl, lb⟩
    · rw [if_neg (by simp : ¬ (true = false ∨ true = false))] at rm
      by_cases h0 : x = 0
      · have h0b : (x == 0) = true := by rw [h0]; rfl
        have F := ovr (rm.trans (if_pos (.inl h0)))
        obtain ⟨lb, c0, c1⟩ := FIN.out 0 0
        clear ovr RG R7 RM
        go_wp2
        obtain ⟨e1, e2, e3⟩ := F.out
        subst e1 e2 e3
        exact bodyPost_ret (v := .tuple #[.agg #[.int .i64 0, .int .i64 0], .int .i64 3]) (by simp [results, Tryd.results20, go_sem, c0, c1]) rfl ⟨rfl, lb⟩
      · have h0b : (x == 0) = false := beq_false_of_ne h0
        by_cases h1 : x = 1099511627777
        · have h1b : (x == 1099511627777) = true := by rw [h1]; rfl
          have F := ovr (rm.trans (if_pos (.inr (.inl h1))))
          obtain ⟨lb, c0, c1⟩ := FIN.out 0 0
          clear ovr RG R7 RM
          go_wp2
          obtain ⟨e1, e2, e3⟩ := F.out
          subst e1 e2 e3
          exact bodyPost_ret (v := .tuple #[.agg #[.int .i64 0, .int .i64 0], .int .i64 3]) (by simp [results, Tryd.results20, go_sem, c0, c1]) rfl ⟨rfl, lb⟩
        · have h1b : (x == 1099511627777) = false := beq_false_of_ne h1
          by_cases h2 : y = 1099511627777
          · have h2b : (y == 1099511627777) = true := by rw [h2]; rfl
            have F := ovr (rm.trans (if_pos (.inr (.inr h2))))
            obtain ⟨lb, c0, c1⟩ := FIN.out 0 0
            clear ovr RG R7 RM
            go_wp2
            obtain ⟨e1, e2, e3⟩ := F.out
            subst e1 e2 e3
            exact bodyPost_ret (v := .tuple #[.agg #[.int .i64 0, .int .i64 0], .int .i64 3]) (by simp [results, Tryd.results20, go_sem, c0, c1]) rfl ⟨rfl, lb⟩
          · have h2b : (y == 1099511627777) = false := beq_false_of_ne h2
            have rm2 := rm.trans (if_neg (by omega))
            clear rm
            cases sy
            · have F := ovr rm2
              obtain ⟨lb, c0, c1⟩ := FIN.out x y
              clear ovr RG R7 RM
              go_wp2
              obtain ⟨e1, e2, e3⟩ := F.out
              subst e1 e2 e3
              exact bodyPost_ret (v := .tuple #[.agg #[.int .i64 x, .int .i64 y], .int .i64 0]) (by simp [results, Tryd.results20, go_sem, c0, c1]) rfl ⟨rfl, lb⟩
            · have xp : 0 < x := by omega
              obtain ⟨D, hD⟩ : ∃ D, y / x = D := ⟨_, rfl⟩
              have rm3 : ((p, q), r) = ((x, D), 0) := by rw [rm2, ← hD]; rfl
              clear rm2
              have F := ovr rm3
              obtain ⟨lb, c0, c1⟩ := FIN.out x D
              clear ovr RG R7 RM
              go_wp2
              obtain ⟨e1, e2, e3⟩ := F.out
              subst e1 e2 e3
              exact bodyPost_ret (v := .tuple #[.agg #[.int .i64 x, .int .i64 D], .int .i64 0]) (by simp [results, Tryd.results20, go_sem, c0, c1]) rfl ⟨rfl, lb⟩
end Go.Proofs.YtjbacbbbhedmlaaDoor.RP
