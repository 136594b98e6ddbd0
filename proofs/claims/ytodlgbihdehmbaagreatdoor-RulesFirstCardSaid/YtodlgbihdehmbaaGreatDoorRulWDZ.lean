/-
  Rows of stores, read and laid anew (for the law RulesFirst).
-/
import Derived.Test.YtodlgbihdehmbaaGreatDoorRulWCZ
import Derived.Test.YtodlgbihdehmbaaGreatDoorMemRowZ
import Derived.Deep.RegionHeldLaw
import Derived.Deep.DeepCutAuto
set_option linter.unusedSimpArgs false
set_option linter.unusedVariables false
namespace Go.Proofs.YtodlgbihdehmbaaGreatDoor
open Go.RowKit Cf Cf.KR Cf.KP
theorem flatn_length {α : Type} (m : Nat) (f : α → List Value) (hf : ∀ x, (f x).length = m) : ∀ (l : List α), (l.flatMap f).length = l.length * m
  | [] => by simp
  | x :: l => by rw [List.flatMap_cons, List.length_append, hf, flatn_length m f hf l, List.length_cons, Nat.add_mul, Nat.one_mul]; omega
theorem stC_length (us : List (Value × Sto)) : (stC us).length = us.length * 3 := flatn_length 3 stC1 (fun _ => rfl) us
/-- What is known of stores that lie in a world. -/
def StUs (w : World) (us : List (Value × Sto)) : Prop := ∀ x ∈ us, (Byt x.2.1 ∧ Byt x.2.2.1) ∧ RgOut w x.1 x.2.2.2
theorem StUs.below {w w' : World} {us : List (Value × Sto)} (h : StUs w us) (hb : Below w.heap.size w w') : StUs w' us := fun x hx => ⟨(h x hx).1, (h x hx).2.below hb⟩
theorem st_reads {w : World} {A : Option Addr} {c : Nat} {L : List Sto} (h : StOut w (.slice A L.length c) L) : ∃ us : List (Value × Sto), us.map Prod.snd = L ∧ Reads w w.heap.size 3 A L.length (stC us) ∧ StUs w us := by
  obtain ⟨A', c', hv, hc, hx⟩ := h
  obtain rfl : A = A' := by injection hv
  by_cases h0 : L = []
  · subst h0
    exact ⟨[], rfl, ⟨rfl, fun h => absurd h (Nat.lt_irrefl _)⟩, fun x hx => by cases hx⟩
  · obtain ⟨b, off, rfl, ha⟩ := hx h0
    have hex : ∀ (n : Nat), n ≤ L.length → ∃ us : List (Value × Sto), us.map Prod.snd = L.take n ∧ ∀ (k : Nat) (x : Value × Sto), us[k]? = some x → (Byt x.2.1 ∧ Byt x.2.2.1) ∧ RgOut w x.1 x.2.2.2 ∧ w.cell? ⟨b, off + k * 3, none⟩ = some (.string (str x.2.1)) ∧ w.cell? ⟨b, off + k * 3 + 1, none⟩ = some (.string (str x.2.2.1)) ∧ w.cell? ⟨b, off + k * 3 + 2, none⟩ = some x.1 := by
      intro n
      induction n with
      | zero => exact fun _ => ⟨[], by simp, fun k x h => by simp at h⟩
      | succ n ih =>
        intro hn
        obtain ⟨us, hm, hu⟩ := ih (by omega)
        have hk := List.getElem?_eq_getElem (show n < L.length by omega)
        obtain ⟨hy, u, h1, h2, h3, h4⟩ := ha n _ hk
        have hul : us.length = n := by have := congrArg List.length hm; rw [List.length_map, List.length_take] at this; omega
        refine ⟨us ++ [(u, L[n])], by rw [List.map_append, hm, List.take_add_one, hk]; rfl, fun k x hx => ?_⟩
        by_cases hkn : k < us.length
        · rw [List.getElem?_append_left hkn] at hx
          exact hu k x hx
        · rw [List.getElem?_append_right (by omega)] at hx
          have hk0 : k - us.length = 0 := by have := (List.getElem?_eq_some_iff.1 hx).1; simp at this; omega
          rw [hk0] at hx
          obtain rfl : (u, L[n]) = x := by simpa using hx
          obtain rfl : k = n := by omega
          exact ⟨hy, h4, h1, h2, h3⟩
    obtain ⟨us, hm, hu⟩ := hex L.length (Nat.le_refl _)
    rw [List.take_length] at hm
    have hul : us.length = L.length := by rw [← hm, List.length_map]
    refine ⟨us, hm, ⟨by rw [stC_length, hul], fun hpos => ?_⟩, fun x hx => ?_⟩
    · have hlt : b < w.heap.size := World.block_lt_of_cell? w _ (hu 0 _ (List.getElem?_eq_getElem (by omega))).2.2.1
      refine ⟨⟨b, off, none⟩, rfl, hlt, fun j u hj => ?_⟩
      have hjl := (List.getElem?_eq_some_iff.1 hj).1
      rw [stC_length] at hjl
      have hk : j / 3 < us.length := by omega
      obtain ⟨_, _, h1, h2, h3⟩ := hu (j / 3) _ (List.getElem?_eq_getElem hk)
      have ea : (⟨b, off, none⟩ : Addr).add j = ⟨b, off + j, none⟩ := by unfold Addr.add; split <;> simp_all
      rw [ea]
      have key : ∀ (i : Nat) (u' : Value), (stC1 us[j / 3])[i]? = some u' → j = j / 3 * 3 + i → some u = some u' := fun i u' h1 h2 => by
        have := flatn_at 3 stC1 (fun _ => rfl) us (j / 3) _ i u' (List.getElem?_eq_getElem hk) h1
        rw [← h2] at this
        exact hj.symm.trans this
      rcases (show j % 3 = 0 ∨ j % 3 = 1 ∨ j % 3 = 2 by omega) with e | e | e
      · rw [key 0 _ rfl (by omega), show off + j = off + j / 3 * 3 from by omega]; exact h1
      · rw [key 1 _ rfl (by omega), show off + j = off + j / 3 * 3 + 1 from by omega]; exact h2
      · rw [key 2 _ rfl (by omega), show off + j = off + j / 3 * 3 + 2 from by omega]; exact h3
    · obtain ⟨k, hk⟩ := List.getElem?_of_mem hx
      have := hu k x hk
      exact ⟨this.1, this.2.1⟩
theorem RgOut.one {w : World} {v : Value} {l : List (Int × Int)} (h : RgOut w v l) : v.oneCell' = true := by
  obtain ⟨A, c, rfl, _⟩ := h; rfl
theorem stC_one {w : World} {us : List (Value × Sto)} (h : StUs w us) : ∀ u ∈ stC us, u.oneCell' = true := by
  intro u hu
  unfold stC at hu
  rw [List.mem_flatMap] at hu
  obtain ⟨x, hx, hu⟩ := hu
  have h1 := (h x hx).2.one
  unfold stC1 at hu
  simp only [List.mem_cons, List.not_mem_nil, or_false] at hu
  rcases hu with rfl | rfl | rfl
  · rfl
  · rfl
  · exact h1
/-- A row of stores of a call's own. -/
theorem st_made {B : Nat} {w : World} {v : Value} {us : List (Value × Sto)} (h : StUs w us) (row : w.ownsRow B 47 3 v us.length (stC us)) : StOut w v (us.map Prod.snd) := by
  obtain ⟨A, c, rfl, hc, hx⟩ := own_form row
  refine ⟨A, c, by rw [List.length_map], by rw [List.length_map]; exact hc, fun hn => ?_⟩
  have hp : 0 < us.length := by
    have := List.length_pos_iff.2 hn
    rwa [List.length_map] at this
  obtain ⟨g, rfl, _, _⟩ := hx hp
  refine ⟨g, 0, rfl, fun k s hk => ?_⟩
  rw [List.getElem?_map] at hk
  obtain ⟨y, hy, rfl⟩ := Option.map_eq_some_iff.1 hk
  have cj : ∀ (j : Nat) (u : Value), (stC1 y)[j]? = some u → w.cell? ⟨g, 0 + k * 3 + j, none⟩ = some u := fun j u hj => by
    rw [Nat.zero_add]
    exact (own_cell row (flatn_at 3 stC1 (fun _ => rfl) us k y j u hy hj)).1
  have hU := h y (List.mem_of_getElem? hy)
  exact ⟨hU.1, y.1, cj 0 _ rfl, cj 1 _ rfl, cj 2 _ rfl, hU.2⟩
/-- One store, laid by itself. -/
theorem st_lit {w : World} {s : Sto} {u : Value} (hb : Byt s.1 ∧ Byt s.2.1) (hu : RgOut w u s.2.2) : StOut (w.alloc (.cells #[.string (str s.1), .string (str s.2.1), u] 47)) (.slice (some ⟨w.heap.size, 0, none⟩) 1 1) [s] := by
  refine ⟨_, 1, rfl, Nat.le_refl _, fun _ => ⟨_, 0, rfl, fun k x hk => ?_⟩⟩
  match k, hk with
  | 0, hk =>
    obtain rfl : s = x := by simpa using hk
    obtain ⟨h0, h1, h2⟩ := three_new w (.string (str s.1)) (.string (str s.2.1)) u 47
    exact ⟨hb, u, h0, h1, h2, hu.below (alloc_below _ _)⟩
  | k + 1, hk => simp at hk
theorem own_empty (W : World) (H B : Nat) (hH : W.heap.size = H) (hB : B ≤ H) : (W.alloc (.cells #[] 47)).ownsRow B 47 3 (.slice (some ⟨H, 0, none⟩) 0 0) 0 [] := by
  subst hH
  exact World.ownsRow_made W #[] 0 hB (by decide) rfl
theorem lit_reads (W : World) (H : Nat) (hH : W.heap.size = H) (x y z : Value) : Reads (W.alloc (.cells #[x, y, z] 47)) (H + 1) 3 (some ⟨H, 0, none⟩) 1 [x, y, z] := by
  subst hH
  have h := Reads.of_own (World.ownsRow_lit (base := 0) (e := 47) (size := 3) W #[x, y, z] 1 (Nat.zero_le _) (by decide) rfl)
  simpa using h
theorem reads_far {w w' : World} {B bx : Nat} {row : Option Nat} {xs : List Value} (h : Reads w B 3 (some ⟨bx, 0, none⟩) 1 xs) (hB : B ≤ w.heap.size) (hg : w.grownBy w' row) (hne : some bx ≠ row) : Reads w' B 3 (some ⟨bx, 0, none⟩) 1 xs := by
  refine ⟨h.1, fun h0 => ?_⟩
  obtain ⟨ad, e, hb, hc⟩ := h.2 h0
  have e' : ad = ⟨bx, 0, none⟩ := (Option.some.inj e).symm
  subst e'
  refine ⟨_, rfl, hb, fun j u hu => ?_⟩
  have hbl : ((⟨bx, 0, none⟩ : Addr).add j).block = bx := block_of_add _ _
  have hlt : bx < w.heap.size := Nat.lt_of_lt_of_le hb hB
  exact (hg.cell_far _ (by rw [hbl]; exact hlt) (by rw [hbl]; exact hne)).trans (hc j u hu)
end Go.Proofs.YtodlgbihdehmbaaGreatDoor
/-
  Walks of layer 12's laws: the first that is found (RulesFirst).
-/
set_option linter.unusedSimpArgs false
set_option linter.unusedVariables false
namespace Go.Proofs.YtodlgbihdehmbaaGreatDoor
open Go.RowKit Cf Cf.KR Cf.KP
theorem fit_more {ss : List Sto} {fs : List Fol} {m : Sto} (h : RuFit ss fs) (hm : StLong m) (hr : m.2.2.length ≤ 100000) (hn : ss.length ≤ 15) : RuFit (ss ++ [m]) fs ∧ RuFit [m] fs :=
  ⟨⟨fun s hs => by
      rcases List.mem_append.1 hs with hs | hs
      · exact h.st s hs
      · obtain rfl := List.mem_singleton.1 hs
        exact ⟨hm.pat, hr⟩, h.fo, by rw [List.length_append, List.length_singleton]; omega, h.nf⟩,
   ⟨fun s hs => by
      obtain rfl := List.mem_singleton.1 hs
      exact ⟨hm.pat, hr⟩, h.fo, Nat.le_trans (Nat.le_refl 1) (by decide), h.nf⟩⟩
theorem fit_none {ss : List Sto} {fs : List Fol} (h : RuFit ss fs) (hn : ss.length ≤ 15) : RuFit (noneS :: ss) fs :=
  ⟨fun s hs => by
      rcases List.mem_cons.1 hs with rfl | hs
      · exact ⟨by decide, by decide⟩
      · exact h.st s hs, h.fo, by rw [List.length_cons]; omega, h.nf⟩
theorem none_byt : Byt noneS.1 ∧ Byt noneS.2.1 := by unfold Byt noneS; decide
namespace LW
open LP
set_option maxRecDepth 100000 in
set_option maxHeartbeats 8000000 in
theorem first_walk (A A2 Am : Option Addr) (n c q c2 mr cm : Nat) (ss : List Sto) (fs : List Fol) (sm : Sto) (hn : ss.length = n) (hq : fs.length = q) (hmr : sm.2.2.length = mr) (path : ByteArray)
    (fit : RuFit ss fs) (hp : path.size ≤ 500) (hml : StLong sm) (hm100 : mr ≤ 100) (hn15 : n ≤ 15) (hmb : Byt sm.1 ∧ Byt sm.2.1) (w : World) (g : G w) (hs : StOut w (.slice A n c) ss) (hf : FoOut w (.slice A2 q c2) fs) (hmo : RgOut w (.slice Am mr cm) sm.2.2)
    (GR : ∀ W, Below w.heap.size w W → Calls Tryz.prog 18 #[.agg #[.slice A n c, .slice A2 q c2]] W fun e w' => e = .returned (.bool false) ∧ Below W.heap.size W w') :
    Calls Tryz.prog 5 #[.agg #[.slice A n c, .slice A2 q c2], .string path, .agg #[.string (str sm.1), .string (str sm.2.1), .slice Am mr cm]] w fun e w' => e = .returned (.bool true) ∧ Below w.heap.size w w' := by
  have hpi : ¬ (500 : Int) < (path.size : Int) := by omega
  have hmi : ¬ (100 : Int) < (mr : Int) := by omega
  have hni : ¬ (15 : Int) < (n : Int) := by omega
  obtain ⟨i0, hi0, hz0, hz1, hz2⟩ := info_parts store_info
  obtain ⟨fitX, fitM⟩ := fit_more fit hml (by omega : sm.2.2.length ≤ 100000) (by omega)
  have fitY := fit_none fit (by omega : ss.length ≤ 15)
  obtain ⟨X1, hX1⟩ : ∃ X, str sm.1 = X := ⟨_, rfl⟩
  obtain ⟨X2, hX2⟩ : ∃ X, str sm.2.1 = X := ⟨_, rfl⟩
  rw [hX1, hX2]
  obtain ⟨k0, k1, -, -⟩ := two_new w (.slice A n c) (.slice A2 q c2) 37
  obtain ⟨wb, hwb⟩ : ∃ wb, w.alloc (.cells #[.slice A n c, .slice A2 q c2] 37) = wb := ⟨_, rfl⟩
  have hbw := alloc_below w (.cells #[.slice A n c, .slice A2 q c2] 37)
  have zb : wb.heap.size = w.heap.size + 1 := by rw [← hwb]; simp
  rw [hwb] at k0 k1 hbw
  have hbm := alloc_below wb (.cells #[.string X1, .string X2, .slice Am mr cm] 47)
  obtain ⟨m0, m1, m2⟩ := three_new wb (.string X1) (.string X2) (.slice Am mr cm) 47
  obtain ⟨w0, hw0⟩ : ∃ w0, wb.alloc (.cells #[.string X1, .string X2, .slice Am mr cm] 47) = w0 := ⟨_, rfl⟩
  have z0 : w0.heap.size = w.heap.size + 2 := by rw [← hw0]; simp [zb]
  rw [hw0] at hbm m0 m1 m2
  have k0 := cellb hbm k0
  have k1 := cellb hbm k1
  have B0 := Lib.hid (bnext hbw hbm)
  have AL := Lib.hid (alive_c w0 (g.below B0.out))
  have HGR := Lib.hid GR; have HS := Lib.hid hs; have HF := Lib.hid hf; have HM := Lib.hid hmo; have HFIT := Lib.hid (And.intro fit (And.intro fitX (And.intro fitM fitY))); have HN := Lib.hid (And.intro hn (And.intro hq hmr)); have HX := Lib.hid (And.intro hX1 hX2); have HMB := Lib.hid hmb; have Z0 := Lib.hid z0; have ZB := Lib.hid zb
  clear GR hs hf hmo fit fitX fitM fitY hn hq hmr hX1 hX2 hmb z0 zb hml hbw hbm g
  go_enter Tryz.func5, Tryz.ntmps5
  go_wp2_with fail
  (try rw [hwb]); (try rw [hw0])
  refine AL.out.mono ?_; rintro _ w1 ⟨rfl, hb1⟩
  have B1 := Lib.hid (bnext B0.out hb1)
  have k0 := cellb hb1 k0; have k1 := cellb hb1 k1; have m0 := cellb hb1 m0; have m1 := cellb hb1 m1; have m2 := cellb hb1 m2
  clear AL hwb hw0
  go_wp2_with fail
  refine (HGR.out w1 B1.out).mono ?_; rintro _ w2 ⟨rfl, hb2⟩
  have B2 := Lib.hid (bnext B1.out hb2)
  have k0 := cellb hb2 k0; have k1 := cellb hb2 k1; have m0 := cellb hb2 m0; have m1 := cellb hb2 m1; have m2 := cellb hb2 m2
  have z2 := Nat.le_trans hb1.size hb2.size
  clear HGR hb1 hb2
  go_wp2_with fail
  have FD1 := Lib.hid (find_p (.slice A n c) (.slice A2 q c2) ss fs path HFIT.out.1 (by omega) w2 (HS.out.below B2.out) (HF.out.below B2.out))
  obtain ⟨⟨S1, E1⟩, hS1⟩ : ∃ S, findV ss fs (bs path) = S := ⟨_, rfl⟩
  rw [hS1] at FD1
  simp only at FD1
  have HS1 := Lib.hid hS1
  clear hS1
  refine FD1.out.mono ?_; rintro _ w3 ⟨v3, rfl, h3, hb3⟩
  obtain ⟨A3, n3, c3, m3, f3, rfl⟩ := h3.form
  have hb4 := alloc_below w3 (.cells #[.slice A3 n3 c3, .int .i64 m3, .int .i64 f3] 41)
  obtain ⟨s0, s1, s2⟩ := three_new w3 (.slice A3 n3 c3) (.int .i64 m3) (.int .i64 f3) 41
  have B4 := Lib.hid (bnext B2.out (bnext hb3 hb4))
  have k0 := cellb (bnext hb3 hb4) k0; have k1 := cellb (bnext hb3 hb4) k1; have m0 := cellb (bnext hb3 hb4) m0; have m1 := cellb (bnext hb3 hb4) m1; have m2 := cellb (bnext hb3 hb4) m2
  have H4 := Lib.hid (h3.below hb4)
  have z4 : w.heap.size + 2 ≤ w3.heap.size := by have := Z0.out; have := hb3.size; omega
  obtain ⟨w4, hw4⟩ : ∃ w4, w3.alloc (.cells #[.slice A3 n3 c3, .int .i64 m3, .int .i64 f3] 41) = w4 := ⟨_, rfl⟩
  have z4' : w4.heap.size = w3.heap.size + 1 := by rw [← hw4]; simp
  rw [hw4] at s0 s1 s2 k0 k1 m0 m1 m2 B4 H4
  clear hb3 hb4 h3 FD1 z2
  go_wp2_with fail
  (try rw [hw4])
  have hb5 := alloc_below w4 (.cells #[.slice A n c, .slice A2 q c2] 37)
  obtain ⟨us, hus, hrd, hsu⟩ : ∃ us : List (Value × Sto), us.map Prod.snd = ss ∧ Reads w4 w4.heap.size 3 A n (stC us) ∧ StUs w4 us := by
    have h := HS.out.below B4.out
    rw [← HN.out.1] at h ⊢
    exact st_reads h
  have q0 : (w4.alloc (.cells #[.slice A n c, .slice A2 q c2] 37)).cell? ⟨w3.heap.size + 1, 0, none⟩ = some (.slice A n c) := by rw [← z4']; exact (two_new w4 _ _ _).1
  have q1 : (w4.alloc (.cells #[.slice A n c, .slice A2 q c2] 37)).cell? ⟨w3.heap.size + 1, 1, none⟩ = some (.slice A2 q c2) := by rw [← z4']; exact (two_new w4 _ _ _).2.1
  have qf : (w4.alloc (.cells #[.slice A n c, .slice A2 q c2] 37)).frozen? ⟨w3.heap.size + 1, 0, none⟩ = false := by rw [← z4']; exact (two_new w4 _ _ _).2.2.1
  have K4 := Lib.hid (And.intro k0 (And.intro k1 (And.intro m0 (And.intro m1 (And.intro m2 (And.intro s0 (And.intro s1 s2)))))))
  have k0 := cellb hb5 k0; have k1 := cellb hb5 k1; have m0 := cellb hb5 m0; have m1 := cellb hb5 m1; have m2 := cellb hb5 m2
  obtain ⟨w5, hw5⟩ : ∃ w5, w4.alloc (.cells #[.slice A n c, .slice A2 q c2] 37) = w5 := ⟨_, rfl⟩
  have z5 : w5.heap.size = w3.heap.size + 2 := by rw [← hw5]; simp [z4']
  rw [hw5] at hb5 q0 q1 qf k0 k1 m0 m1 m2
  rw [hw5]
  have RT := Lib.hid (fun (y : World) (h : Below w5.heap.size w5 y) => hrd.below (hb5.trans (h.mono hb5.size)))
  have ONE := Lib.hid (stC_one hsu)
  have KEEP := Lib.hid (show ∀ y : World, Below w5.heap.size w5 y → y.cell? ⟨w.heap.size, 0, none⟩ = some (.slice A n c) ∧ y.cell? ⟨wb.heap.size, 0, none⟩ = some (.string X1) ∧ y.cell? ⟨wb.heap.size, 1, none⟩ = some (.string X2) ∧ y.cell? ⟨wb.heap.size, 2, none⟩ = some (.slice Am mr cm) from fun y h => ⟨cellb h k0, cellb h m0, cellb h m1, cellb h m2⟩)
  have T9 := Lib.hid (show ∀ y : World, Below w5.heap.size w5 y → y.cell? ⟨w3.heap.size + 1, 0, none⟩ = some (.slice A n c) ∧ y.frozen? ⟨w3.heap.size + 1, 0, none⟩ = false from fun y h => ⟨cellb h q0, (h.frozen (p := ⟨w3.heap.size + 1, 0, none⟩) (by simp only; omega)).trans qf⟩)
  have KP2 := Lib.hid (show ∀ (y : World) (v : Value), Below w5.heap.size w5 y → (y.setCell ⟨w3.heap.size + 1, 0, none⟩ v).cell? ⟨w.heap.size, 0, none⟩ = some (.slice A n c) ∧ (y.setCell ⟨w3.heap.size + 1, 0, none⟩ v).cell? ⟨wb.heap.size, 0, none⟩ = some (.string X1) ∧ (y.setCell ⟨w3.heap.size + 1, 0, none⟩ v).cell? ⟨wb.heap.size, 1, none⟩ = some (.string X2) ∧ (y.setCell ⟨w3.heap.size + 1, 0, none⟩ v).cell? ⟨wb.heap.size, 2, none⟩ = some (.slice Am mr cm) from fun y v h => by
    obtain ⟨a1, a2, a3, a4⟩ := KEEP.out y h
    have zb := ZB.out
    exact ⟨(World.cell?_setCell_other _ _ _ _ (by simp <;> omega)).trans a1, (World.cell?_setCell_other _ _ _ _ (by simp <;> omega)).trans a2, (World.cell?_setCell_other _ _ _ _ (by simp)).trans a3, (World.cell?_setCell_other _ _ _ _ (by simp)).trans a4⟩)
  have FIN := Lib.hid (show ∀ (w7 : World) (v2 : Value), Below w5.heap.size w5 w7 → w7.ownsRow w5.heap.size 47 3 v2 (0 + n + 1) ([] ++ stC us ++ [.string X1, .string X2, .slice Am mr cm]) →
      ∃ g cap, v2 = .slice (some ⟨g, 0, none⟩) (n + 1) cap ∧ StOut (w7.setCell ⟨w3.heap.size + 1, 0, none⟩ v2) v2 (ss ++ [sm]) ∧ Below w4.heap.size w4 (w7.setCell ⟨w3.heap.size + 1, 0, none⟩ v2) ∧ (w7.setCell ⟨w3.heap.size + 1, 0, none⟩ v2).cell? ⟨w3.heap.size + 1, 0, none⟩ = some v2 ∧ (w7.setCell ⟨w3.heap.size + 1, 0, none⟩ v2).cell? ⟨w3.heap.size + 1, 1, none⟩ = some (.slice A2 q c2) from fun w7 v2 hb ho => by
    have hB : Below w4.heap.size w4 (w7.setCell ⟨w3.heap.size + 1, 0, none⟩ v2) := (hb5.trans (hb.mono hb5.size)).setCell (p := ⟨w3.heap.size + 1, 0, none⟩) (by simp only; omega) v2
    have hr : (w7.setCell ⟨w3.heap.size + 1, 0, none⟩ v2).ownsRow w5.heap.size 47 3 v2 (us ++ [((.slice Am mr cm : Value), sm)]).length (stC (us ++ [((.slice Am mr cm : Value), sm)])) := by
      have hl : (us ++ [((.slice Am mr cm : Value), sm)]).length = 0 + n + 1 := by
        rw [List.length_append, List.length_singleton]
        have := congrArg List.length hus
        rw [List.length_map, HN.out.1] at this
        omega
      have hc : stC (us ++ [((.slice Am mr cm : Value), sm)]) = [] ++ stC us ++ [.string X1, .string X2, .slice Am mr cm] := by
        rw [stC_app]
        show stC us ++ [.string (str sm.1), .string (str sm.2.1), .slice Am mr cm] = _
        rw [HX.out.1, HX.out.2]; rfl
      rw [hl, hc]
      exact own_keep ho fun g h1 h2 h3 => Below.heap_setCell _ _ _ g (by simp only; omega)
    have hU : StUs (w7.setCell ⟨w3.heap.size + 1, 0, none⟩ v2) (us ++ [((.slice Am mr cm : Value), sm)]) := fun x hx => by
      rcases List.mem_append.1 hx with hx | hx
      · exact hsu.below hB x hx
      · obtain rfl := List.mem_singleton.1 hx
        exact ⟨HMB.out, HM.out.below (B4.out.trans (hB.mono B4.out.size))⟩
    have hO := st_made hU hr
    rw [List.map_append, hus] at hO
    obtain ⟨A', c', rfl, _, hx⟩ := own_form ho
    obtain ⟨g, rfl, _, _⟩ := hx (by omega)
    refine ⟨g, c', by rw [Nat.zero_add], hO, hB, World.cell?_setCell_same _ _ _ (T9.out _ hb).1, ?_⟩
    exact (World.cell?_setCell_other _ _ _ _ (by simp)).trans (cellb hb q1))
  have Z5 := Lib.hid z5; have Z4 := Lib.hid z4'
  clear hrd hus hsu hw4 q0 qf z5 z4'
  go_cut [54] (fun v wx => ∃ (g cap : Nat), v = .slice (some ⟨g, 0, none⟩) (n + 1) cap ∧ wx.cell? ⟨w3.heap.size + 1, 0, none⟩ = some (.slice (some ⟨g, 0, none⟩) (n + 1) cap) ∧ wx.cell? ⟨w3.heap.size + 1, 1, none⟩ = some (.slice A2 q c2) ∧ Hid (StOut wx (.slice (some ⟨g, 0, none⟩) (n + 1) cap) (ss ++ [sm]) ∧ Below w4.heap.size w4 wx))
  case first =>
    go_region_held_law (fun y => y.cell? ⟨w.heap.size, 0, none⟩ = some (.slice A n c) ∧ y.cell? ⟨wb.heap.size, 0, none⟩ = some (.string X1) ∧ y.cell? ⟨wb.heap.size, 1, none⟩ = some (.string X2) ∧ y.cell? ⟨wb.heap.size, 2, none⟩ = some (.slice Am mr cm))
      (first | go_keep | exact KEEP.out _ hb1.out | exact KEEP.out _ hb2.out | exact KP2.out _ _ hb2.out)
      (first
        | (refine step_append_any _ (by rfl) (.tmp 48) (.tmp 50) 23 (by rfl) w5.heap.size 47 i0 (.agg #[.string ⟨#[]⟩, .string ⟨#[]⟩, .slice none 0 0]) 3 56 Tryz.underlying23 hi0 hz0 hz1 hz2 rfl (by decide) (.slice (some ⟨w5.heap.size, 0, none⟩) 0 0) 0 [] (by rfl) (by first | exact own_empty w5 _ _ rfl (Nat.le_refl _) | exact (own_empty w5 _ _ rfl (Nat.le_refl _)).drew | exact own_empty w5.drew _ _ rfl (Nat.le_refl _)) w4.heap.size A n c (stC us) (by rfl) ?rd ONE.out ?h63 ?hby ?hba ?_; (case rd => exact RT.out _ (by repeat (first | exact Below.refl _ _ | refine Below.drew ?_ | refine Below.alloc ?_ (by simp <;> omega) _))); (case h63 => simp only [maxLen]; omega); (case hby => omega); (case hba => simp <;> omega); intro v1 w6 hown1 hg1 hat1; have hb1 := Lib.hid (show Below w5.heap.size w5 w6 from Below.grown (by repeat (first | exact Below.refl _ _ | refine Below.drew ?_ | refine Below.alloc ?_ (by simp <;> omega) _)) hg1 (by simp <;> omega) (by intro g hg; simp [Value.ownBlock] at hg; omega)); have hge1 : ∀ g, v1.ownBlock = some g → w5.heap.size ≤ g := (fun g hg => (own_lt hown1 hg).1); have hz6 := hb1.out.size; skip)
        | (refine step_append_any _ (by rfl) (.tmp 48) (.tmp 50) 23 (by rfl) w5.heap.size 47 i0 (.agg #[.string ⟨#[]⟩, .string ⟨#[]⟩, .slice none 0 0]) 3 56 Tryz.underlying23 hi0 hz0 hz1 hz2 rfl (by decide) (.slice (some ⟨w5.heap.size, 0, none⟩) 0 0) 0 [] (by rfl) (by first | exact ((own_empty w5 _ _ rfl (Nat.le_refl _)).alloc (.cells #[.string X1, .string X2, .slice Am mr cm] 47)).drew | exact (own_empty w5.drew _ _ rfl (Nat.le_refl _)).alloc (.cells #[.string X1, .string X2, .slice Am mr cm] 47) | exact (own_empty w5 _ _ rfl (Nat.le_refl _)).alloc (.cells #[.string X1, .string X2, .slice Am mr cm] 47)) w4.heap.size A n c (stC us) (by rfl) ?rd ONE.out ?h63 ?hby ?hba ?_; (case rd => exact RT.out _ (by repeat (first | exact Below.refl _ _ | refine Below.drew ?_ | refine Below.alloc ?_ (by simp <;> omega) _))); (case h63 => simp only [maxLen]; omega); (case hby => omega); (case hba => simp <;> omega); intro v1 w6 hown1 hg1 hat1; have hb1 := Lib.hid (show Below w5.heap.size w5 w6 from Below.grown (by repeat (first | exact Below.refl _ _ | refine Below.drew ?_ | refine Below.alloc ?_ (by simp <;> omega) _)) hg1 (by simp <;> omega) (by intro g hg; simp [Value.ownBlock] at hg; omega)); have hge1 : ∀ g, v1.ownBlock = some g → w5.heap.size ≤ g := (fun g hg => (own_lt hown1 hg).1); have hz6 := hb1.out.size; have hx1 : Reads w6 (w5.heap.size + 1 + 1) 3 (some ⟨w5.heap.size + 1, 0, none⟩) 1 [.string X1, .string X2, .slice Am mr cm] := (by refine reads_far ?r1 ?r2 hg1 ?r3; (case r1 => first | exact (lit_reads (w5.alloc (.cells #[] 47)) (w5.heap.size + 1) (by simp) _ _ _).drew | exact lit_reads (w5.drew.alloc (.cells #[] 47)) (w5.heap.size + 1) (by simp) _ _ _ | exact lit_reads (w5.alloc (.cells #[] 47)) (w5.heap.size + 1) (by simp) _ _ _); (case r2 => simp <;> omega); (case r3 => simp [Value.ownBlock])))
        | (refine step_append_any _ (by rfl) (.tmp 48) (.tmp 50) 23 (by rfl) w5.heap.size 47 i0 (.agg #[.string ⟨#[]⟩, .string ⟨#[]⟩, .slice none 0 0]) 3 56 Tryz.underlying23 hi0 hz0 hz1 hz2 rfl (by decide) (.slice (some ⟨w5.heap.size + 1, 0, none⟩) 0 0) 0 [] (by rfl) (by first | exact (own_empty (w5.alloc (.cells #[.string X1, .string X2, .slice Am mr cm] 47)) _ _ (by simp) (Nat.le_succ _)).drew | exact own_empty (w5.drew.alloc (.cells #[.string X1, .string X2, .slice Am mr cm] 47)) _ _ (by simp) (Nat.le_succ _) | exact own_empty (w5.alloc (.cells #[.string X1, .string X2, .slice Am mr cm] 47)) _ _ (by simp) (Nat.le_succ _)) w4.heap.size A n c (stC us) (by rfl) ?rd ONE.out ?h63 ?hby ?hba ?_; (case rd => exact RT.out _ (by repeat (first | exact Below.refl _ _ | refine Below.drew ?_ | refine Below.alloc ?_ (by simp <;> omega) _))); (case h63 => simp only [maxLen]; omega); (case hby => omega); (case hba => simp <;> omega); intro v1 w6 hown1 hg1 hat1; have hb1 := Lib.hid (show Below w5.heap.size w5 w6 from Below.grown (by repeat (first | exact Below.refl _ _ | refine Below.drew ?_ | refine Below.alloc ?_ (by simp <;> omega) _)) hg1 (by simp <;> omega) (by intro g hg; simp [Value.ownBlock] at hg; omega)); have hge1 : ∀ g, v1.ownBlock = some g → w5.heap.size ≤ g := (fun g hg => (own_lt hown1 hg).1); have hz6 := hb1.out.size; have hx1 : Reads w6 (w5.heap.size + 1) 3 (some ⟨w5.heap.size, 0, none⟩) 1 [.string X1, .string X2, .slice Am mr cm] := (by refine reads_far ?r1 ?r2 hg1 ?r3; (case r1 => first | exact ((lit_reads w5 w5.heap.size rfl _ _ _).alloc (by simp) (.cells #[] 47)).drew | exact (lit_reads w5.drew w5.heap.size rfl _ _ _).alloc (by simp) (.cells #[] 47) | exact (lit_reads w5 w5.heap.size rfl _ _ _).alloc (by simp) (.cells #[] 47)); (case r2 => simp <;> omega); (case r3 => simp [Value.ownBlock])))
        | (refine step_append_any _ (by rfl) (.tmp 51) (.tmp 53) 23 (by rfl) w5.heap.size 47 i0 (.agg #[.string ⟨#[]⟩, .string ⟨#[]⟩, .slice none 0 0]) 3 56 Tryz.underlying23 hi0 hz0 hz1 hz2 rfl (by decide) v1 (0 + n) ([] ++ stC us) (by rfl) (World.ownsRow.alloc hown1 (.cells #[.string X1, .string X2, .slice Am mr cm] 47)) _ (some ⟨w6.heap.size, 0, none⟩) 1 1 [.string X1, .string X2, .slice Am mr cm] (by rfl) (lit_reads w6 w6.heap.size rfl (.string X1) (.string X2) (.slice Am mr cm)) (by simp [Value.oneCell']) (by simp only [maxLen]; omega) (by omega) (by simp <;> omega) ?_; intro v2 w7 hown2 hg2 hat2; obtain ⟨A7, c7, rfl, -, -⟩ := own_form hown2; have hb2 := Lib.hid (show Below w5.heap.size w5 w7 from Below.grown (Below.alloc hb1.out hb1.out.size (.cells #[.string X1, .string X2, .slice Am mr cm] 47)) hg2 (by simp <;> omega) hge1); have t90 := (T9.out _ hb2.out).1; have t9f := (T9.out _ hb2.out).2)
        | (refine step_append_any _ (by rfl) (.tmp 51) (.tmp 53) 23 (by rfl) w5.heap.size 47 i0 (.agg #[.string ⟨#[]⟩, .string ⟨#[]⟩, .slice none 0 0]) 3 56 Tryz.underlying23 hi0 hz0 hz1 hz2 rfl (by decide) v1 (0 + n) ([] ++ stC us) (by rfl) hown1 _ (some ⟨w5.heap.size + 1, 0, none⟩) 1 1 [.string X1, .string X2, .slice Am mr cm] (by rfl) hx1 (by simp [Value.oneCell']) (by simp only [maxLen]; omega) (by omega) hz6 ?_; intro v2 w7 hown2 hg2 hat2; obtain ⟨A7, c7, rfl, -, -⟩ := own_form hown2; have hb2 := Lib.hid (show Below w5.heap.size w5 w7 from Below.grown hb1.out hg2 hz6 hge1); have t90 := (T9.out _ hb2.out).1; have t9f := (T9.out _ hb2.out).2)
        | (refine step_append_any _ (by rfl) (.tmp 51) (.tmp 53) 23 (by rfl) w5.heap.size 47 i0 (.agg #[.string ⟨#[]⟩, .string ⟨#[]⟩, .slice none 0 0]) 3 56 Tryz.underlying23 hi0 hz0 hz1 hz2 rfl (by decide) v1 (0 + n) ([] ++ stC us) (by rfl) hown1 _ (some ⟨w5.heap.size, 0, none⟩) 1 1 [.string X1, .string X2, .slice Am mr cm] (by rfl) hx1 (by simp [Value.oneCell']) (by simp only [maxLen]; omega) (by omega) hz6 ?_; intro v2 w7 hown2 hg2 hat2; obtain ⟨A7, c7, rfl, -, -⟩ := own_form hown2; have hb2 := Lib.hid (show Below w5.heap.size w5 w7 from Below.grown hb1.out hg2 hz6 hge1); have t90 := (T9.out _ hb2.out).1; have t9f := (T9.out _ hb2.out).2)
        | fail)
    all_goals (try go_wp2_with fail)
    all_goals go_meet
    all_goals
      obtain ⟨g8, cap8, e8, r1, r2, r3, r4⟩ := FIN.out _ _ hb2.out hown2
      injection e8 with e1 e2 e3
      subst e1 e3
      rw [Nat.zero_add] at r1 r2 r3 r4
      exact ⟨g8, c7, rfl, r3, r4, r1, r2⟩
  case rest =>
    obtain ⟨g8, cap8, rfl, x0, x1, HX8⟩ := hcut
    obtain ⟨k0, k1, m0, m1, m2, s0, s1, s2⟩ := K4.out
    have b8 := HX8.out.2
    have B8 := Lib.hid (bnext B4.out b8)
    have k0 := cellb b8 k0; have k1 := cellb b8 k1; have m0 := cellb b8 m0; have m1 := cellb b8 m1; have m2 := cellb b8 m2; have s0 := cellb b8 s0; have s1 := cellb b8 s1; have s2 := cellb b8 s2
    have H8 := Lib.hid (H4.out.below b8)
    clear b8 FIN KP2 KEEP T9 RT ONE q1 hb5
    have FDX := Lib.hid (find_p (.slice (some ⟨g8, 0, none⟩) (n + 1) cap8) (.slice A2 q c2) (ss ++ [sm]) fs path HFIT.out.2.1 (by omega) _ HX8.out.1 (HF.out.below B8.out))
    go_wp2_with fail
    obtain ⟨⟨S2, E2⟩, hS2⟩ : ∃ S, findV (ss ++ [sm]) fs (bs path) = S := ⟨_, rfl⟩
    rw [hS2] at FDX
    simp only at FDX
    have HS2 := Lib.hid hS2
    clear hS2
    refine FDX.out.mono ?_; rintro _ w9 ⟨v9, rfl, h9, hb9⟩
    obtain ⟨A9, n9, c9, m9, f9, rfl⟩ := h9.form
    have hb10 := alloc_below w9 (.cells #[.slice A9 n9 c9, .int .i64 m9, .int .i64 f9] 41)
    obtain ⟨t0, t1, t2⟩ := three_new w9 (.slice A9 n9 c9) (.int .i64 m9) (.int .i64 f9) 41
    have hb := bnext hb9 hb10
    have B10 := Lib.hid (bnext B8.out hb)
    have k0 := cellb hb k0; have k1 := cellb hb k1; have m0 := cellb hb m0; have m1 := cellb hb m1; have m2 := cellb hb m2; have s0 := cellb hb s0; have s1 := cellb hb s1; have s2 := cellb hb s2; have x0 := cellb hb x0; have x1 := cellb hb x1
    have H10 := Lib.hid (H8.out.below hb)
    have T10 := Lib.hid (h9.below hb10)
    have RX := Lib.hid (LR.right_c (.slice (some ⟨g8, 0, none⟩) (n + 1) cap8) (.slice A2 q c2) (ss ++ [sm]) fs HFIT.out.2.1 _ (HX8.out.1.below hb) (HF.out.below B10.out))
    obtain ⟨w10, hw10⟩ : ∃ w10, w9.alloc (.cells #[.slice A9 n9 c9, .int .i64 m9, .int .i64 f9] 41) = w10 := ⟨_, rfl⟩
    rw [hw10] at k0 k1 m0 m1 m2 s0 s1 s2 x0 x1 t0 t1 t2 B10 H10 T10 RX
    clear hb hb9 hb10 h9 FDX HX8 H8
    go_wp2_with fail
    (try rw [hw10])
    obtain ⟨rX, hrX⟩ : ∃ r, rightR (ss ++ [sm]) fs = r := ⟨_, rfl⟩
    rw [hrX] at RX
    have HRX := Lib.hid hrX
    clear hrX hw10
    refine RX.out.mono ?_; rintro _ w11 ⟨rfl, hb11⟩
    have B11 := Lib.hid (bnext B10.out hb11)
    have k0 := cellb hb11 k0; have k1 := cellb hb11 k1; have m0 := cellb hb11 m0; have m1 := cellb hb11 m1; have m2 := cellb hb11 m2; have s0 := cellb hb11 s0; have s1 := cellb hb11 s1; have s2 := cellb hb11 s2; have t0 := cellb hb11 t0; have t1 := cellb hb11 t1; have t2 := cellb hb11 t2
    have H11 := Lib.hid (H10.out.below hb11)
    have T11 := Lib.hid (T10.out.below hb11)
    have L1 := Lib.hid (show S1.1.length ≤ 100000 from by
      have h := find_len (fs := fs) (t := bs path) (fun s h => (HFIT.out.1.st s h).2)
      rw [HS1.out] at h; exact h)
    have L2 := Lib.hid (show S2.1.length ≤ 100000 from by
      have h := find_len (fs := fs) (t := bs path) (fun s h => (HFIT.out.2.1.st s h).2)
      rw [HS2.out] at h; exact h)
    clear hb11 H10 T10 RX x0 x1
    cases rX
    · -- what may not be is refused
      have hE := Lib.hid (show E2 = 1 from by
        have h := find_wrong (ss := ss ++ [sm]) (fs := fs) (t := bs path) (by rw [HRX.out]; decide)
        rw [HS2.out] at h
        exact congrArg Prod.snd h)
      have hEb : (E2 == 1) = true := by rw [hE.out]; rfl
      clear hE
      go_wp2
      go_ret
      exact ⟨rfl, B11.out⟩
    · by_cases hE1 : E1 = 0
      · -- one more behind one that is found
        have hEq := find_behind HRX.out (t := bs path) (by rw [HS1.out]; exact hE1)
        rw [HS1.out, HS2.out] at hEq
        have hSS : S1 = S2 := (congrArg Prod.fst hEq).symm
        have hE2 : E2 = 0 := (congrArg Prod.snd hEq).trans hE1
        have SM := Lib.hid (sameSchema_c _ _ S1 S2 L1.out L2.out w11 H11.out T11.out)
        rw [show decide (S1 = S2) = true from decide_eq_true hSS] at SM
        have e1 : (E1 == 0) = true := by rw [hE1]; rfl
        have e2 : (E2 == 0) = true := by rw [hE2]; rfl
        clear hEq hSS hE1 hE2 H11 T11 L1 L2
        go_wp2_with (go_at_call 23; refine SM.out.mono ?_; rintro _ w12 ⟨rfl, hb12⟩)
        go_ret
        exact ⟨rfl, bnext B11.out hb12⟩
      · have e1 : (E1 == 0) = false := beq_false_of_ne hE1
        have hAl := find_alone HRX.out (t := bs path) (by rw [HS1.out]; exact hE1)
        rw [HS2.out] at hAl
        have HAL := Lib.hid hAl.symm
        clear hAl hE1
        have hmo := HM.out.below B11.out
        rw [← HN.out.2.2] at hmo
        have FDM := find_p (.slice (some ⟨w11.heap.size, 0, none⟩) 1 1) (.slice A2 q c2) [sm] fs path HFIT.out.2.2.1 (by omega) (w11.alloc (.cells #[.string (str sm.1), .string (str sm.2.1), .slice Am sm.2.2.length cm] 47)) (st_lit HMB.out hmo) (HF.out.below (bnext B11.out (alloc_below _ _)))
        rw [HX.out.1, HX.out.2, HN.out.2.2, HAL.out] at FDM
        simp only at FDM
        have FDM2 := Lib.hid FDM
        have hbl := alloc_below w11 (.cells #[.string X1, .string X2, .slice Am mr cm] 47)
        have BL := Lib.hid hbl
        have k1' := cellb hbl k1
        clear FDM hmo
        go_wp2_with fail
        refine FDM2.out.mono ?_; rintro _ w13 ⟨v13, rfl, h13, hb13⟩
        obtain ⟨A13, n13, c13, m13, f13, rfl⟩ := h13.form
        have hb14 := alloc_below w13 (.cells #[.slice A13 n13 c13, .int .i64 m13, .int .i64 f13] 41)
        obtain ⟨y0, y1, y2⟩ := three_new w13 (.slice A13 n13 c13) (.int .i64 m13) (.int .i64 f13) 41
        have hb := bnext BL.out (bnext hb13 hb14)
        have B14 := Lib.hid (bnext B11.out hb)
        have k0 := cellb hb k0; have k1 := cellb hb k1; have t0 := cellb hb t0; have t1 := cellb hb t1; have t2 := cellb hb t2
        have SM := Lib.hid (sameSchema_c _ _ S2 S2 L2.out L2.out _ (T11.out.below hb) (h13.below hb14))
        rw [show decide (S2 = S2) = true from decide_eq_true rfl] at SM
        obtain ⟨w14, hw14⟩ : ∃ w14, w13.alloc (.cells #[.slice A13 n13 c13, .int .i64 m13, .int .i64 f13] 41) = w14 := ⟨_, rfl⟩
        rw [hw14] at k0 k1 t0 t1 t2 y0 y1 y2 B14 SM
        have e22 : (E2 != E2) = false := by simp
        clear hb hb13 hb14 h13 FDM2 hbl BL m0 m1 m2 s0 s1 s2 H11 T11 HAL
        go_wp2_with fail
        (try rw [hw14])
        clear hw14
        refine SM.out.mono ?_; rintro _ w15 ⟨rfl, hb15⟩
        have k0 := cellb hb15 k0; have k1 := cellb hb15 k1
        have B15 := Lib.hid (bnext B14.out hb15)
        clear t0 t1 t2 y0 y1 y2 SM hb15
        -- one that isn't found ahead of all
        have hA := alloc_below w15 (.cells #[.int .i64 1, .int .i64 1] 49)
        have hB := alloc_below (w15.alloc (.cells #[.int .i64 1, .int .i64 1] 49)) (.cells #[.string ⟨#[110, 111, 110, 101]⟩, .string ⟨#[94, 36]⟩, .slice (some ⟨w15.heap.size, 0, none⟩) 1 1] 47)
        have hC := alloc_below ((w15.alloc (.cells #[.int .i64 1, .int .i64 1] 49)).alloc (.cells #[.string ⟨#[110, 111, 110, 101]⟩, .string ⟨#[94, 36]⟩, .slice (some ⟨w15.heap.size, 0, none⟩) 1 1] 47)) (.cells #[.slice A n c, .slice A2 q c2] 37)
        have hD := alloc_below (((w15.alloc (.cells #[.int .i64 1, .int .i64 1] 49)).alloc (.cells #[.string ⟨#[110, 111, 110, 101]⟩, .string ⟨#[94, 36]⟩, .slice (some ⟨w15.heap.size, 0, none⟩) 1 1] 47)).alloc (.cells #[.slice A n c, .slice A2 q c2] 37)) (.cells #[.string ⟨#[110, 111, 110, 101]⟩, .string ⟨#[94, 36]⟩, .slice (some ⟨w15.heap.size, 0, none⟩) 1 1] 47)
        have kB0 := cellb (bnext hA hB) k0
        have kB1 := cellb (bnext hA hB) k1
        have kC0 := cellb hC kB0
        have kD0 := cellb hD kC0
        have nB := three_new (w15.alloc (.cells #[.int .i64 1, .int .i64 1] 49)) (.string ⟨#[110, 111, 110, 101]⟩) (.string ⟨#[94, 36]⟩) (.slice (some ⟨w15.heap.size, 0, none⟩) 1 1) 47
        have zA : (w15.alloc (.cells #[.int .i64 1, .int .i64 1] 49)).heap.size = w15.heap.size + 1 := by simp
        have zB : ((w15.alloc (.cells #[.int .i64 1, .int .i64 1] 49)).alloc (.cells #[.string ⟨#[110, 111, 110, 101]⟩, .string ⟨#[94, 36]⟩, .slice (some ⟨w15.heap.size, 0, none⟩) 1 1] 47)).heap.size = w15.heap.size + 1 + 1 := by simp
        have zC : (((w15.alloc (.cells #[.int .i64 1, .int .i64 1] 49)).alloc (.cells #[.string ⟨#[110, 111, 110, 101]⟩, .string ⟨#[94, 36]⟩, .slice (some ⟨w15.heap.size, 0, none⟩) 1 1] 47)).alloc (.cells #[.slice A n c, .slice A2 q c2] 37)).heap.size = w15.heap.size + 3 := by simp
        have zD : ((((w15.alloc (.cells #[.int .i64 1, .int .i64 1] 49)).alloc (.cells #[.string ⟨#[110, 111, 110, 101]⟩, .string ⟨#[94, 36]⟩, .slice (some ⟨w15.heap.size, 0, none⟩) 1 1] 47)).alloc (.cells #[.slice A n c, .slice A2 q c2] 37)).alloc (.cells #[.string ⟨#[110, 111, 110, 101]⟩, .string ⟨#[94, 36]⟩, .slice (some ⟨w15.heap.size, 0, none⟩) 1 1] 47)).heap.size = w15.heap.size + 4 := by simp
        rw [zA] at nB
        obtain ⟨n0, n1, n2⟩ := nB
        have n0 := cellb hC n0; have n1 := cellb hC n1; have n2 := cellb hC n2
        have hT := two_new ((w15.alloc (.cells #[.int .i64 1, .int .i64 1] 49)).alloc (.cells #[.string ⟨#[110, 111, 110, 101]⟩, .string ⟨#[94, 36]⟩, .slice (some ⟨w15.heap.size, 0, none⟩) 1 1] 47)) (.slice A n c) (.slice A2 q c2) 37
        rw [zB] at hT
        obtain ⟨u0, u1, uf, -⟩ := hT
        have u0 := cellb hD u0
        have u1 := cellb hD u1
        have uf := (hD.frozen (p := ⟨w15.heap.size + 1 + 1, 0, none⟩) (by simp only; omega)).trans uf
        obtain ⟨us, hus, hrd, hsu⟩ : ∃ us : List (Value × Sto), us.map Prod.snd = ss ∧ Reads ((((w15.alloc (.cells #[.int .i64 1, .int .i64 1] 49)).alloc (.cells #[.string ⟨#[110, 111, 110, 101]⟩, .string ⟨#[94, 36]⟩, .slice (some ⟨w15.heap.size, 0, none⟩) 1 1] 47)).alloc (.cells #[.slice A n c, .slice A2 q c2] 37)).alloc (.cells #[.string ⟨#[110, 111, 110, 101]⟩, .string ⟨#[94, 36]⟩, .slice (some ⟨w15.heap.size, 0, none⟩) 1 1] 47)) ((((w15.alloc (.cells #[.int .i64 1, .int .i64 1] 49)).alloc (.cells #[.string ⟨#[110, 111, 110, 101]⟩, .string ⟨#[94, 36]⟩, .slice (some ⟨w15.heap.size, 0, none⟩) 1 1] 47)).alloc (.cells #[.slice A n c, .slice A2 q c2] 37)).alloc (.cells #[.string ⟨#[110, 111, 110, 101]⟩, .string ⟨#[94, 36]⟩, .slice (some ⟨w15.heap.size, 0, none⟩) 1 1] 47)).heap.size 3 A n (stC us) ∧ StUs (w15.alloc (.cells #[.int .i64 1, .int .i64 1] 49)) us := by
          have h := (HS.out.below B15.out).below hA
          have e := HN.out.1
          have h' : StOut (w15.alloc (.cells #[.int .i64 1, .int .i64 1] 49)) (.slice A ss.length c) ss := by rw [e]; exact h
          obtain ⟨us, h1, h2, h3⟩ := st_reads h'
          rw [e] at h2
          have hb := bnext hB (bnext hC hD)
          exact ⟨us, h1, (h2.below hb).more hb.size, h3⟩
        have RD := Lib.hid hrd
        have ONE := Lib.hid (stC_one hsu)
        have FIN := Lib.hid (show ∀ (w18 : World) (v2 : Value), ((((w15.alloc (.cells #[.int .i64 1, .int .i64 1] 49)).alloc (.cells #[.string ⟨#[110, 111, 110, 101]⟩, .string ⟨#[94, 36]⟩, .slice (some ⟨w15.heap.size, 0, none⟩) 1 1] 47)).alloc (.cells #[.slice A n c, .slice A2 q c2] 37)).alloc (.cells #[.string ⟨#[110, 111, 110, 101]⟩, .string ⟨#[94, 36]⟩, .slice (some ⟨w15.heap.size, 0, none⟩) 1 1] 47)).grownBy w18 (some (w15.heap.size + 3)) → w18.ownsRow (w15.heap.size + 3) 47 3 v2 (1 + n) ([.string ⟨#[110, 111, 110, 101]⟩, .string ⟨#[94, 36]⟩, .slice (some ⟨w15.heap.size, 0, none⟩) 1 1] ++ stC us) →
            ∃ A' c', v2 = .slice A' (1 + n) c' ∧ (w18.cell? ⟨w15.heap.size + 1 + 1, 0, none⟩ = some (.slice A n c) ∧ w18.frozen? ⟨w15.heap.size + 1 + 1, 0, none⟩ = false ∧ w18.cell? ⟨w15.heap.size + 1 + 1, 1, none⟩ = some (.slice A2 q c2)) ∧ Hid (StOut (w18.setCell ⟨w15.heap.size + 1 + 1, 0, none⟩ v2) v2 (noneS :: ss) ∧ Below w15.heap.size w15 (w18.setCell ⟨w15.heap.size + 1 + 1, 0, none⟩ v2)) from fun w18 v2 hg ho => by
          have hb1 : Below (w15.alloc (.cells #[.int .i64 1, .int .i64 1] 49)).heap.size (w15.alloc (.cells #[.int .i64 1, .int .i64 1] 49)) w18 := Below.grown (bnext hB (bnext hC hD)) hg (by simp <;> omega) (fun g hg => by injection hg with e; subst e; simp <;> omega)
          have hb2 : Below (w15.alloc (.cells #[.int .i64 1, .int .i64 1] 49)).heap.size (w15.alloc (.cells #[.int .i64 1, .int .i64 1] 49)) (w18.setCell ⟨w15.heap.size + 1 + 1, 0, none⟩ v2) := hb1.setCell (p := ⟨w15.heap.size + 1 + 1, 0, none⟩) (by simp <;> omega) v2
          have hl : ((.slice (some ⟨w15.heap.size, 0, none⟩) 1 1, noneS) :: us : List (Value × Sto)).length = 1 + n := by
            have := congrArg List.length hus
            rw [List.length_map, HN.out.1] at this
            rw [List.length_cons]; omega
          have hr : (w18.setCell ⟨w15.heap.size + 1 + 1, 0, none⟩ v2).ownsRow (w15.heap.size + 3) 47 3 v2 ((.slice (some ⟨w15.heap.size, 0, none⟩) 1 1, noneS) :: us : List (Value × Sto)).length (stC ((.slice (some ⟨w15.heap.size, 0, none⟩) 1 1, noneS) :: us)) := by
            rw [hl]
            exact own_keep ho fun g h1 h2 h3 => Below.heap_setCell _ _ _ g (by simp only; omega)
          have hU : StUs (w18.setCell ⟨w15.heap.size + 1 + 1, 0, none⟩ v2) ((.slice (some ⟨w15.heap.size, 0, none⟩) 1 1, noneS) :: us) := fun x hx => by
            rcases List.mem_cons.1 hx with rfl | hx
            · exact ⟨none_byt, (lit_rung w15 1 1).below hb2⟩
            · exact hsu.below hb2 x hx
          have hO := st_made hU hr
          rw [List.map_cons, hus] at hO
          obtain ⟨A', c', rfl, _, _⟩ := own_form ho
          refine ⟨A', c', rfl, ⟨?_, ?_, ?_⟩, Lib.hid ⟨hO, bnext hA hb2⟩⟩
          · exact (hg.cell_far ⟨w15.heap.size + 1 + 1, 0, none⟩ (by simp <;> omega) (by simp <;> omega)).trans u0
          · exact (hg.frozen_far ⟨w15.heap.size + 1 + 1, 0, none⟩ (by simp <;> omega) (by simp <;> omega)).trans uf
          · exact (hg.cell_far ⟨w15.heap.size + 1 + 1, 1, none⟩ (by simp <;> omega) (by simp <;> omega)).trans u1)
        have LIT := Lib.hid (World.ownsRow_lit (base := w15.heap.size + 3) (e := 47) (size := 3) (((w15.alloc (.cells #[.int .i64 1, .int .i64 1] 49)).alloc (.cells #[.string ⟨#[110, 111, 110, 101]⟩, .string ⟨#[94, 36]⟩, .slice (some ⟨w15.heap.size, 0, none⟩) 1 1] 47)).alloc (.cells #[.slice A n c, .slice A2 q c2] 37)) #[.string ⟨#[110, 111, 110, 101]⟩, .string ⟨#[94, 36]⟩, .slice (some ⟨w15.heap.size, 0, none⟩) 1 1] 1 (by rw [zC]; exact Nat.le_refl _) (by decide) rfl)
        rw [zC] at LIT
        clear hus hsu hrd hA hB hC hD zA zB zC u0 u1 uf
        go_wp2_with (at_builtin; refine wpList_append_any _ rfl (.tmp 100) (.tmp 102) _ rfl (w15.heap.size + 3) 47 i0 (.agg #[.string ⟨#[]⟩, .string ⟨#[]⟩, .slice none 0 0]) 3 56 Tryz.underlying23 hi0 hz0 hz1 hz2 rfl (by decide) (.slice (some ⟨w15.heap.size + 3, 0, none⟩) 1 1) 1 [.string ⟨#[110, 111, 110, 101]⟩, .string ⟨#[94, 36]⟩, .slice (some ⟨w15.heap.size, 0, none⟩) 1 1] rfl LIT.out ((((w15.alloc (.cells #[.int .i64 1, .int .i64 1] 49)).alloc (.cells #[.string ⟨#[110, 111, 110, 101]⟩, .string ⟨#[94, 36]⟩, .slice (some ⟨w15.heap.size, 0, none⟩) 1 1] 47)).alloc (.cells #[.slice A n c, .slice A2 q c2] 37)).alloc (.cells #[.string ⟨#[110, 111, 110, 101]⟩, .string ⟨#[94, 36]⟩, .slice (some ⟨w15.heap.size, 0, none⟩) 1 1] 47)).heap.size A n c (stC us) rfl RD.out ONE.out (by simp only [maxLen]; omega) (by omega) (by simp <;> omega) ?_; intro v2 w18 hown2 hg2 hat2; obtain ⟨A18, c18, rfl, ⟨u0, uf, u1⟩, HF18⟩ := FIN.out w18 v2 hg2 hown2; clear hown2 hg2 hat2)
        have k0 := cellb (show Below w15.heap.size w15 (w18.setCell ⟨w15.heap.size + 1 + 1, 0, none⟩ (.slice A18 (1 + n) c18)) from HF18.out.2) k0
        have k1 := cellb (show Below w15.heap.size w15 (w18.setCell ⟨w15.heap.size + 1 + 1, 0, none⟩ (.slice A18 (1 + n) c18)) from HF18.out.2) k1
        have HY := Lib.hid (And.intro HF18.out.1 (bnext B15.out HF18.out.2))
        obtain ⟨P2, hP2⟩ : ∃ P, path ++ (⟨#[120]⟩ : ByteArray) = P := ⟨_, rfl⟩
        have hPs : P2.size = path.size + 1 := by rw [← hP2]; simp [ByteArray.size_append]; rfl
        have hPn : bs P2 ≠ [] := by
          intro e
          have := congrArg List.length e
          rw [bs_length, hPs] at this
          simp at this
        have hAh := find_ahead (fs := fs) (t := bs P2) (by rw [HN.out.1]; exact hn15) none_ok (none_hit hPn)
        obtain ⟨⟨S4, E4⟩, hS4⟩ : ∃ S, findV ss fs (bs P2) = S := ⟨_, rfl⟩
        have L4 := Lib.hid (show S4.1.length ≤ 100000 from by
          have h := find_len (fs := fs) (t := bs P2) (fun s h => (HFIT.out.1.st s h).2)
          rw [hS4] at h; exact h)
        rw [hS4] at hAh
        obtain ⟨wy, hwy⟩ : ∃ wy, w18.setCell ⟨w15.heap.size + 1 + 1, 0, none⟩ (.slice A18 (1 + n) c18) = wy := ⟨_, rfl⟩
        rw [hwy] at HY k0 k1
        have FDY := find_p (.slice A18 (1 + n) c18) (.slice A2 q c2) (noneS :: ss) fs P2 HFIT.out.2.2.2 (by omega) wy HY.out.1 (HF.out.below HY.out.2)
        rw [hAh] at FDY
        simp only at FDY
        have FDY2 := Lib.hid FDY
        have FDR := Lib.hid (fun (W : World) (h : Below w.heap.size w W) => find_p (.slice A n c) (.slice A2 q c2) ss fs P2 HFIT.out.1 (by omega) W (HS.out.below h) (HF.out.below h))
        rw [hS4] at FDR
        simp only at FDR
        clear FDY hAh hS4 hPn HF18 u0 u1 uf n0 n1 n2 kB0 kB1 kC0 kD0 FIN LIT RD ONE
        rw [hP2, hwy]
        refine FDY2.out.mono ?_; rintro _ w19 ⟨v19, rfl, h19, hb19⟩
        obtain ⟨A19, n19, c19, m19, f19, rfl⟩ := h19.form
        have hb20 := alloc_below w19 (.cells #[.slice A19 n19 c19, .int .i64 m19, .int .i64 f19] 41)
        obtain ⟨r0, r1, r2⟩ := three_new w19 (.slice A19 n19 c19) (.int .i64 m19) (.int .i64 f19) 41
        have hb := bnext hb19 hb20
        have B20 := Lib.hid (bnext HY.out.2 hb)
        have k0 := cellb hb k0; have k1 := cellb hb k1
        have H20 := Lib.hid (h19.below hb20)
        obtain ⟨w20, hw20⟩ : ∃ w20, w19.alloc (.cells #[.slice A19 n19 c19, .int .i64 m19, .int .i64 f19] 41) = w20 := ⟨_, rfl⟩
        rw [hw20] at k0 k1 r0 r1 r2 B20 H20
        have FR := Lib.hid (FDR.out w20 B20.out)
        clear hb hb19 hb20 h19 FDY2 FDR HY
        go_wp2_with fail
        (try rw [hw20]); (try rw [hP2])
        refine FR.out.mono ?_; rintro _ w21 ⟨v21, rfl, h21, hb21⟩
        obtain ⟨A21, n21, c21, m21, f21, rfl⟩ := h21.form
        have hb22 := alloc_below w21 (.cells #[.slice A21 n21 c21, .int .i64 m21, .int .i64 f21] 41)
        obtain ⟨z0, z1, z2⟩ := three_new w21 (.slice A21 n21 c21) (.int .i64 m21) (.int .i64 f21) 41
        have hb := bnext hb21 hb22
        have B22 := Lib.hid (bnext B20.out hb)
        have r0 := cellb hb r0; have r1 := cellb hb r1; have r2 := cellb hb r2
        have SM := Lib.hid (sameSchema_c _ _ S4 S4 L4.out L4.out _ (H20.out.below hb) (h21.below hb22))
        rw [show decide (S4 = S4) = true from decide_eq_true rfl] at SM
        have e44 : (E4 == E4) = true := by simp
        clear hb hb21 hb22 h21 FR H20 k0 k1 hw20
        go_wp2_with (go_at_call 23; refine SM.out.mono ?_; rintro _ w23 ⟨rfl, hb23⟩)
        go_ret
        exact ⟨rfl, bnext B22.out hb23⟩
set_option maxRecDepth 100000 in
set_option maxHeartbeats 4000000 in
/-- What is too great is let pass. -/
theorem first_great (A A2 Am : Option Addr) (n c q c2 mr cm : Nat) (X1 X2 path : ByteArray) (gv : Bool) (w : World) (g : G w)
    (GR : ∀ W, Below w.heap.size w W → Calls Tryz.prog 18 #[.agg #[.slice A n c, .slice A2 q c2]] W fun e w' => e = .returned (.bool gv) ∧ Below W.heap.size W w')
    (h : gv = true ∨ 500 < path.size ∨ 100 < mr ∨ 15 < n) :
    Calls Tryz.prog 5 #[.agg #[.slice A n c, .slice A2 q c2], .string path, .agg #[.string X1, .string X2, .slice Am mr cm]] w fun e w' => e = .returned (.bool true) ∧ Below w.heap.size w w' := by
  obtain ⟨k0, k1, -, -⟩ := two_new w (.slice A n c) (.slice A2 q c2) 37
  obtain ⟨wb, hwb⟩ : ∃ wb, w.alloc (.cells #[.slice A n c, .slice A2 q c2] 37) = wb := ⟨_, rfl⟩
  have hbw := alloc_below w (.cells #[.slice A n c, .slice A2 q c2] 37)
  rw [hwb] at k0 k1 hbw
  have hbm := alloc_below wb (.cells #[.string X1, .string X2, .slice Am mr cm] 47)
  obtain ⟨m0, m1, m2⟩ := three_new wb (.string X1) (.string X2) (.slice Am mr cm) 47
  obtain ⟨w0, hw0⟩ : ∃ w0, wb.alloc (.cells #[.string X1, .string X2, .slice Am mr cm] 47) = w0 := ⟨_, rfl⟩
  rw [hw0] at hbm m0 m1 m2
  have k0 := cellb hbm k0
  have k1 := cellb hbm k1
  have B0 := Lib.hid (bnext hbw hbm)
  have AL := Lib.hid (alive_c w0 (g.below B0.out))
  have HGR := Lib.hid GR
  have H := Lib.hid h
  clear GR hbw hbm g h
  go_enter Tryz.func5, Tryz.ntmps5
  go_wp2_with fail
  (try rw [hwb]); (try rw [hw0])
  refine AL.out.mono ?_; rintro _ w1 ⟨rfl, hb1⟩
  have B1 := Lib.hid (bnext B0.out hb1)
  have k0 := cellb hb1 k0; have k1 := cellb hb1 k1; have m0 := cellb hb1 m0; have m1 := cellb hb1 m1; have m2 := cellb hb1 m2
  clear AL hwb hw0 hb1
  go_wp2_with fail
  refine (HGR.out w1 B1.out).mono ?_; rintro _ w2 ⟨rfl, hb2⟩
  have B2 := Lib.hid (bnext B1.out hb2)
  have k0 := cellb hb2 k0; have k1 := cellb hb2 k1; have m0 := cellb hb2 m0; have m1 := cellb hb2 m1; have m2 := cellb hb2 m2
  clear HGR hb2
  cases gv
  · by_cases h1 : 500 < path.size
    · have h1i : (500 : Int) < (path.size : Int) := by omega
      go_wp2
      go_ret
      exact ⟨rfl, B2.out⟩
    · have h1i : ¬ (500 : Int) < (path.size : Int) := by omega
      by_cases h2 : 100 < mr
      · have h2i : (100 : Int) < (mr : Int) := by omega
        go_wp2
        go_ret
        exact ⟨rfl, B2.out⟩
      · have h2i : ¬ (100 : Int) < (mr : Int) := by omega
        have h3 : 15 < n := by
          rcases H.out with h | h | h | h
          · cases h
          · exact absurd h h1
          · exact absurd h h2
          · exact h
        have h3i : (15 : Int) < (n : Int) := by omega
        go_wp2
        go_ret
        exact ⟨rfl, B2.out⟩
  · go_wp2
    go_ret
    exact ⟨rfl, B2.out⟩
theorem rulesFirst_c (vs vf : Value) (ss : List Sto) (fs : List Fol) (hl : RuLong ss fs) (path : ByteArray) (sm : Sto) (um : Value) (hmb : Byt sm.1 ∧ Byt sm.2.1) (hml : StLong sm) (w : World) (g : G w) (hs : StOut w vs ss) (hf : FoOut w vf fs) (hm : RgOut w um sm.2.2) :
    Calls Tryz.prog 5 #[.agg #[vs, vf], .string path, .agg #[.string (str sm.1), .string (str sm.2.1), um]] w fun e w' => e = .returned (.bool true) ∧ Below w.heap.size w w' := by
  have GR := fun (W : World) (h : Below w.heap.size w W) => great_c vs vf ss fs hl W (hs.below h) (hf.below h)
  obtain ⟨A, c, rfl, -, -⟩ := id hs
  obtain ⟨A2, c2, rfl, -, -⟩ := id hf
  obtain ⟨Am, cm, rfl, -, -⟩ := id hm
  by_cases h : greatV ss fs = true ∨ 500 < path.size ∨ 100 < sm.2.2.length ∨ 15 < ss.length
  · exact first_great A A2 Am _ c _ c2 _ cm _ _ path _ w g GR h
  · have hg : greatV ss fs = false := Bool.eq_false_iff.2 fun e => h (.inl e)
    rw [hg] at GR
    exact first_walk A A2 Am _ c _ c2 _ cm ss fs sm rfl rfl rfl path (great_fit hg hl) (by omega) hml (by omega) (by omega) hmb w g hs hf hm GR
end LW
end Go.Proofs.YtodlgbihdehmbaaGreatDoor
