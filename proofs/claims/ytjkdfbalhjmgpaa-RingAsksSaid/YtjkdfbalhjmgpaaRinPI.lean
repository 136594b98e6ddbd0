/-
  Contracts of the program's functions of layer 13: which slots live.
-/
import Derived.Test.YtjkdfbalhjmgpaaRinPH
import Derived.Shelf.SlSortCmp.NoneTotal
import Derived.Shelf.SlicesQ.Reverse
set_option linter.unusedSimpArgs false
set_option linter.unusedVariables false
namespace Go.Proofs.Ytjkdfbalhjmgpaa
open Go.RowKit Go.Sort Go.Lib
def encS (x : Int × Int) : List Value := [.int .i64 x.1, .int .i64 x.2]
theorem ltT (x y : Int × Int) : ltOf (fun x y : Int × Int => Lib.compareInt x.1 y.1) x y = decide (x.1 < y.1) := by
  unfold ltOf Lib.compareInt
  by_cases h1 : x.1 < y.1
  · simp [h1]
  · by_cases h2 : y.1 < x.1 <;> simp [h1, h2]
theorem swoT : SWO (ltOf fun x y : Int × Int => Lib.compareInt x.1 y.1) where
  irrefl x := by rw [ltT]; simp
  trans x y z h1 h2 := by rw [ltT] at *; simp at *; omega
  ntrans x y z h1 h2 := by rw [ltT] at *; simp at *; omega
theorem grown_sort {k blk off n : Nat} {enc : Int × Int → List Value} {w : World} {d : Array (Int × Int)} {os : Array Obj} : w.grownBy (sortWorldK enc k w blk off n d os) (some blk) := by
  refine ⟨rfl, rfl, rfl, ?_, fun i hi hne => ?_⟩
  · simp [sortWorldK, grow, putRowK, putRow, mapBlock, ahead]
  · have hn : blk ≠ i := fun e => hne (by rw [e])
    simp [sortWorldK, grow, putRowK, putRow, mapBlock, ahead, Array.getElem?_append, hi, Array.getElem_modify, hn]
/-- A row of one's own, as the sort wants it. -/
theorem RgNew.holds {B g n c : Nat} {w : World} {l : List (Int × Int)} (h : RgNew B w (.slice (some ⟨g, 0, none⟩) n c) l) (hn : l.length = n) : HoldsK encS 2 w g 0 l.toArray := by
  subst hn
  have h2 : w.ownsRow B 59 2 (.slice (some ⟨g, 0, none⟩) l.length c) l.length (rgC l) := h
  intro j hj
  rw [size_flatK] at hj
  have hj2 : j < l.length * 2 := by simpa using hj
  rw [get_flatK _ _ _ _ hj]
  have hk : j / 2 < l.length := by omega
  obtain ⟨e0, e1⟩ := rgC_at l (j / 2) _ (List.getElem?_eq_getElem hk)
  have ea : (l.toArray)[j / 2]! = l[j / 2] := by simp [hk]
  rw [ea, Nat.zero_add]
  rcases Nat.mod_two_eq_zero_or_one j with h3 | h3
  · rw [h3]
    have ej : j / 2 * 2 = j := by omega
    rw [ej] at e0
    exact own_cell h2 e0
  · rw [h3]
    have ej : j / 2 * 2 + 1 = j := by omega
    rw [ej] at e1
    exact own_cell h2 e1
theorem sort_out {g n c : Nat} {w : World} {d : Array (Int × Int)} (h : HoldsK encS 2 w g 0 d) (hn : d.size = n) (hc : n ≤ c) : RgOut w (.slice (some ⟨g, 0, none⟩) n c) d.toList := by
  subst hn
  refine ⟨_, c, by rw [Array.length_toList], by rw [Array.length_toList]; exact hc, fun _ => ⟨g, 0, rfl, fun k x hk => ?_⟩⟩
  have hlt : k < d.size := by have := (List.getElem?_eq_some_iff.1 hk).1; simpa using this
  have hx : d[k]! = x := by
    have h2 : d.toList[k]? = some d[k]! := by simp [hlt]
    rw [hk] at h2
    exact (Option.some.inj h2).symm
  have h3 := HoldsK.cells h (fun _ => rfl) hlt
  rw [hx] at h3
  have a0 := h3 0 (.int .i64 x.1) rfl
  have a1 := h3 1 (.int .i64 x.2) rfl
  have ea : ∀ j, ((⟨g, 0 + k * 2, none⟩ : Addr).add j) = ⟨g, 0 + k * 2 + j, none⟩ := fun j => by unfold Addr.add; split <;> simp_all
  rw [ea] at a0 a1
  exact ⟨a0, a1⟩
/-- What the sort's words say, in ours. -/
theorem sort_live {L : List (Int × Int)} {d : Array (Int × Int)} (hp : PermIn 0 L.toArray.size L.toArray d) (hs : SortedIn (ltOf fun x y : Int × Int => Lib.compareInt x.1 y.1) 0 L.toArray.size d) : d.size = L.length ∧ d.toList.Perm L ∧ d.toList.Pairwise fun a b => a.1 ≤ b.1 := by
  obtain ⟨h1, _, h3⟩ := hp
  have hz : d.size = L.length := by simpa using h1
  refine ⟨hz, ?_, ?_⟩
  · have e1 : d.extract 0 L.toArray.size = d := by rw [← h1]; simp
    rw [e1] at h3
    simpa using h3
  · rw [List.pairwise_iff_getElem]
    intro i j hi hj hij
    have hj2 : j < d.size := by simpa using hj
    have h4 := hs i j (Nat.zero_le _) hij (by rw [← h1]; exact hj2)
    rw [ltT, decide_eq_false_iff_not, getElem!_pos d j hj2, getElem!_pos d i (by omega)] at h4
    simp only [Array.getElem_toList]
    omega
/-- One slot more behind a row of one's own. -/
theorem rg_more {B0 : Nat} {w1 w2 : World} {A : Option Addr} {q c : Nat} {L : List (Int × Int)} {x y : Int} (h : RgNew B0 w2 (.slice A q c) L) (hq : L.length = q) (hB : Below B0 w1 w2) (hsz : B0 ≤ w2.heap.size) :
    ∀ (W' : World) (v' : Value), W'.ownsRow B0 59 2 v' (q + 1) (rgC L ++ [.int .i64 x, .int .i64 y]) → (w2.alloc (.cells #[.int .i64 x, .int .i64 y] 59)).grownBy W' (Value.slice A q c).ownBlock → RgNew B0 W' v' (L ++ [(x, y)]) ∧ Below B0 w1 W' := fun W' v' ho hg => by
  refine ⟨RgNew.push (g := (x, y)) (by rw [hq]; exact ho), (hB.alloc hsz _).grown hg (by simp; omega) (fun j ej => ?_)⟩
  exact (own_lt h ej).1
theorem rFull_step {l : List (Int × Int)} {k : Nat} {x y : Int} (h : l[k]? = some (x, y)) : rFull (l.take (k + 1)) = rFull (l.take k) ++ (if x = -1 then [] else [(x, y)]) := by
  unfold rFull
  rw [List.take_add_one, h, List.filter_append]
  by_cases e : x = -1
  · rw [if_pos e]; simp [e]
  · rw [if_neg e]; simp [e]
namespace IP
set_option maxHeartbeats 1000000 in
theorem closure_c (x y : Int × Int) (W : World) : Calls Try.prog 39 #[.agg #[.int .i64 x.1, .int .i64 x.2], .agg #[.int .i64 y.1, .int .i64 y.2]] W fun e w' => e = .returned (.int .i64 (Lib.compareInt x.1 y.1)) ∧ ∃ q os', w' = grow (W.drewN q) os' := by
  have hcon := fun W' => Try.cmp_Compare_int x.1 y.1 W'
  generalize Lib.compareInt x.1 y.1 = r at hcon ⊢
  go_enter Try.func39, Try.ntmps39
  go_wp2_with (go_at_call 40; refine (hcon _).mono ?_; rintro e w' ⟨rfl, rfl⟩)
  go_ret
  exact ⟨rfl, 0, _, by rw [alloc_eq_grow, alloc_eq_grow, grow_grow]; rfl⟩
theorem cmpLays (blk off size : Nat) (w : World) : CmpLays Try.prog 39 #[] encS 2 (fun x y => Lib.compareInt x.1 y.1) blk off size w :=
  fun _ _ _ _ x y => closure_c x y _
theorem eg : ∀ args w, (callFunc 39 args).run Try.prog w = .ok (.enter 39 args) w := enters_of Try.func39 (by kernel_rfl) rfl
theorem sort_c {B : Nat} (g n c : Nat) (L : List (Int × Int)) (hn : L.length = n) (hl : n ≤ 400) (hc : n ≤ c) (w : World) (h : RgNew B w (.slice (some ⟨g, 0, none⟩) n c) L) :
    Calls Try.prog 38 #[.slice (some ⟨g, 0, none⟩) n c, .func (.func 39) #[] #[]] w fun e w' => e = .returned (.tuple #[]) ∧ ∃ S : List (Int × Int), S.Perm L ∧ (S.Pairwise fun a b => a.1 ≤ b.1) ∧ RgOut w' (.slice (some ⟨g, 0, none⟩) n c) S ∧ w.grownBy w' (some g) := by
  have hsz : L.toArray.size = n := by simpa using hn
  have hg := (own_lt h (g := g) rfl).2
  have H := h.holds hn
  have hcon := AnyQ.slices_SortFunc Try.sortSl 2 Try.isAgg59 Try.sizeOf59 encS (fun _ => rfl) (fun x v hv => by simp [encS] at hv; rcases hv with rfl | rfl <;> rfl) (fun x y => Lib.compareInt x.1 y.1) swoT 39 #[] g 0 c L.toArray w eg (cmpLays g 0 L.toArray.size w) H hg (by omega)
  change Calls Try.prog 38 _ _ _ at hcon
  rw [show L.toArray.size = n from hsz] at hcon
  refine hcon.mono ?_
  rintro e w' ⟨rfl, d', m, os, hp, hs, rfl⟩
  rw [← hsz] at hp hs
  obtain ⟨h1, h2, h3⟩ := sort_live hp hs
  have hd : d'.size = L.toArray.size := by rw [h1]; simp
  exact ⟨rfl, d'.toList, h2, h3, sort_out (holdsK_sortWorldK encS 2 w g 0 m L.toArray d' os hg H hd) (h1.trans hn) hc, grown_sort⟩
set_option maxRecDepth 100000 in
set_option maxHeartbeats 4000000 in
theorem live_c (s : Int) (v : Value) (l : List (Int × Int)) (hl : l.length ≤ 140737488351232) (w : World) (f : RgOut w v l) :
    Calls Try.prog 22 #[.agg #[.int .i64 s, v]] w fun e w' => ∃ u S, e = .returned u ∧ RgOut w' u S ∧ rLive s l S ∧ Below w.heap.size w w' := by
  have RC := fun (W : World) (h : Below w.heap.size w W) => right_c s v l hl W (f.below h)
  obtain ⟨A, c, rfl, hc, hx⟩ := id f
  obtain ⟨n, hn⟩ : ∃ n, l.length = n := ⟨_, rfl⟩
  rw [hn] at RC hc ⊢
  obtain ⟨k0, k1, -, -⟩ := two_new w (.int .i64 s) (.slice A n c) 24
  obtain ⟨wp, hwp⟩ : ∃ wp, w.alloc (.cells #[.int .i64 s, .slice A n c] 24) = wp := ⟨_, rfl⟩
  have hbp := alloc_below w (.cells #[.int .i64 s, .slice A n c] 24)
  rw [hwp] at k0 k1 hbp
  have HWP := Lib.hid hwp
  have KP := Lib.hid hbp
  have RC := Lib.hid (RC wp hbp)
  have HX := Lib.hid hx; have HN := Lib.hid hn
  clear f hx hn hwp hbp hl
  cases hr : rRight s l
  · have LV := Lib.hid (show rLive s l [] from ⟨fun h => (by rw [hr] at h; cases h), fun _ => rfl⟩)
    rw [hr] at RC
    clear hr
    go_enter Try.func22, Try.ntmps22
    go_wp2_with fail
    rw [HWP.out]
    refine RC.out.mono ?_; rintro _ w1 ⟨rfl, hb1⟩
    have KB := Lib.hid (bnext KP.out hb1)
    go_wp2
    go_ret
    exact ⟨_, [], rfl, RgOut.nil _, LV.out, KB.out⟩
  · have OK := Lib.hid (fun k x y h => (rRight_iff.1 hr).2 k (x, y) h)
    have LV := Lib.hid (show ∀ S : List (Int × Int), S.Perm (rFull l) → (S.Pairwise fun a b => a.1 ≤ b.1) → rLive s l S from fun S h1 h2 => ⟨fun _ => ⟨h1, h2⟩, fun h => (by rw [hr] at h; cases h)⟩)
    obtain ⟨-, -, -, m4⟩ := rMay_iff.1 (rRight_iff.1 hr).1
    rw [HN.out] at m4
    rw [hr] at RC
    have EM := Lib.hid empty_c
    obtain ⟨i0, hi0, hz0, hz1, hz2⟩ := info_parts slot_info
    have K0 := Lib.hid k0; have K1 := Lib.hid k1
    clear hr
    go_enter Try.func22, Try.ntmps22
    go_wp2_with fail
    rw [HWP.out]
    refine RC.out.mono ?_; rintro _ w1 ⟨rfl, hb1⟩
    have k1 := cellb hb1 k1
    have KB := Lib.hid (bnext KP.out hb1)
    have HB := Lib.hid hb1
    clear hb1
    go_wp2
    clear k0 k1
    go_loopw [3, 12] (fun li i wr => ∃ (k : Nat) (A5 : Option Addr) (q c5 : Nat), k ≤ n ∧ i = .int .i64 k ∧ li = .slice A5 q c5 ∧ q ≤ k ∧ q ≤ c5 ∧ Hid ((rFull (l.take k)).length = q ∧ RgNew w1.heap.size wr (.slice A5 q c5) (rFull (l.take k)) ∧ Below w1.heap.size w1 wr)) (fun li i _ => n - (intOf i).toNat)
    case atStart => exact ⟨0, none, 0, 0, Nat.zero_le _, rfl, rfl, Nat.le_refl _, Nat.le_refl _, rfl, RgNew.nil _ _, Below.refl _ _⟩
    case round =>
      obtain ⟨k, A5, q, c5, hk, rfl, rfl, hqk, hqc, HI⟩ := hrel
      by_cases hlt : k < n
      · have hkl : k < l.length := by rw [HN.out]; exact hlt
        obtain ⟨b, off, rfl, ha⟩ := HX.out (by intro e; rw [e] at hkl; exact absurd hkl (Nat.not_lt_zero _))
        have hp0 := List.getElem?_eq_getElem hkl
        obtain ⟨⟨x, y⟩, hp⟩ : ∃ p, l[k] = p := ⟨_, rfl⟩
        rw [hp] at hp0
        have KW := bnext KB.out HI.out.2.2
        obtain ⟨c0, c1⟩ := (ha.below KW) k _ hp0
        simp only at c0 c1
        obtain ⟨a0, a1, -, -⟩ := two_new wr (.int .i64 x) (.int .i64 y) 59
        obtain ⟨wc, hwc⟩ : ∃ wc, (wr.alloc (.cells #[.int .i64 x, .int .i64 y] 59)) = wc := ⟨_, rfl⟩
        have hbc := alloc_below wr (.cells #[.int .i64 x, .int .i64 y] 59)
        rw [hwc] at a0 a1 hbc
        have HBC := Lib.hid hbc
        have Y0 : ∀ z : Laid wc, z.W.cell? ⟨wr.heap.size, 0, none⟩ = some (.int .i64 x) := fun z => cellb z.h a0
        have Y1 : ∀ z : Laid wc, z.W.cell? ⟨wr.heap.size, 1, none⟩ = some (.int .i64 y) := fun z => cellb z.h a1
        have HWC := Lib.hid hwc
        have EQ := rOk_emp (OK.out k x y hp0)
        have STEP := Lib.hid (rFull_step hp0)
        simp only at EQ
        clear hwc hp hp0 hkl ha KW hbc a0 a1
        by_cases he : x = -1
        · have hxy := EQ.1 he
          injection hxy with e1 e2
          subst e1 e2
          have ST2 := Lib.hid (STEP.out.trans (by rw [if_pos rfl, List.append_nil]))
          clear STEP EQ he
          go_wp2_with fail
          rw [HWC.out]
          refine wp_region_laid (by kernel_rfl) (by kernel_rfl) ?_
          repeat (go_big_quiet_step (first | (go_at_call 34; with_reducible exact Calls.laid (EM.out _))))
          refine wpQuiet_nil ?_
          intro _ hw'
          obtain ⟨pq, hw''⟩ := hw'
          subst hw''
          go_wp2
          go_roundw
          case rel => exact ⟨k + 1, A5, q, c5, by omega, by go_num, rfl, by omega, hqc, by rw [ST2.out]; exact HI.out.1, by rw [ST2.out]; exact (HI.out.2.1.below HBC.out).below pq.h, bnext (bnext HI.out.2.2 HBC.out) pq.h⟩
          case measure => simp [intOf]; omega
        · have ST2 := Lib.hid (STEP.out.trans (by rw [if_neg he]))
          clear STEP EQ
          obtain ⟨L, hL⟩ : ∃ L, rFull (l.take k) = L := ⟨_, rfl⟩
          rw [hL] at ST2 HI
          clear hL
          go_wp2_with fail
          rw [HWC.out]
          refine wp_region_laid (by kernel_rfl) (by kernel_rfl) ?_
          repeat (go_big_quiet_step (first | (go_at_call 34; with_reducible exact Calls.laid (EM.out _))))
          refine wpQuiet_nil ?_
          intro _ hw'
          obtain ⟨pq, hw''⟩ := hw'
          subst hw''
          have y0 := Y0 pq; have y1 := Y1 pq
          have KQ := bnext (bnext HI.out.2.2 HBC.out) pq.h
          have OWN := (HI.out.2.1.below HBC.out).below pq.h
          obtain ⟨w6, hw6⟩ : ∃ w6, pq.W = w6 := ⟨_, rfl⟩
          rw [hw6] at y0 y1 KQ OWN ⊢
          have ROW := Lib.hid (show w6.ownsRow w1.heap.size 59 2 (.slice A5 q c5) q (rgC L) from by
            have h2 := OWN
            unfold RgNew at h2
            rw [HI.out.1] at h2
            exact h2)
          have APP := Lib.hid (fun (W' : World) (v' : Value) => @rg_more w1.heap.size w1 w6 A5 q c5 L x y OWN HI.out.1 KQ KQ.size W' v')
          have FORM := Lib.hid (fun (W' : World) (v' : Value) (h : W'.ownsRow w1.heap.size 59 2 v' (q + 1) (rgC L ++ [.int .i64 x, .int .i64 y])) => own_form h)
          have B63 := Lib.hid (show q + 1 ≤ maxLen by simp only [maxLen]; omega)
          have B48 := Lib.hid (show (q + 1) * 16 ≤ 140737488355328 by omega)
          have SZ := Lib.hid KQ.size
          have LEN := Lib.hid (show (rFull (l.take (k + 1))).length = q + 1 from by rw [ST2.out, List.length_append, HI.out.1]; rfl)
          clear hw6 Y0 Y1 KQ OWN HI
          go_wp2_with (at_builtin; refine wpList_append_any _ rfl (.tmp 19) (.tmp 21) _ rfl w1.heap.size 59 i0 (.agg #[.int .i64 0, .int .i64 0]) 2 16 Try.underlying22 hi0 hz0 hz1 hz2 rfl (by decide) (.slice A5 q c5) q (rgC L) rfl (World.ownsRow.alloc ROW.out _) _ (some ⟨w6.heap.size, 0, none⟩) 1 1 [.int .i64 x, .int .i64 y] rfl (Reads.of_own (World.ownsRow_lit (base := 0) (e := 59) (size := 2) w6 #[.int .i64 x, .int .i64 y] 1 (Nat.zero_le _) (by decide) rfl)) (by simp [Value.oneCell']) B63.out B48.out (by have := SZ.out; simp; omega) ?_; intro v13 w13 hown13 hg13 hat13; obtain ⟨A13, c13, hv13, hc13, _⟩ := FORM.out _ _ hown13; subst hv13; have hs13 := Lib.hid (APP.out _ _ hown13 hg13); clear hown13 hg13 hat13)
          go_roundw
          case rel => exact ⟨k + 1, A13, q + 1, c13, by omega, by go_num, rfl, by omega, hc13, LEN.out, by rw [ST2.out]; exact hs13.out.1, hs13.out.2⟩
          case measure => simp [intOf]; omega
      · obtain rfl : k = n := by omega
        have HL := Lib.hid (show rFull (l.take k) = rFull l from by rw [List.take_of_length_le (Nat.le_of_eq HN.out)])
        have OWN := HI.out.2.1
        rw [HL.out] at OWN
        have LEN := HI.out.1
        rw [HL.out] at LEN
        have KW := Lib.hid (bnext KB.out HI.out.2.2)
        have K1W := Lib.hid HI.out.2.2
        have GE := Lib.hid (show w.heap.size ≤ w1.heap.size from KB.out.size)
        have hn400 : q ≤ 400 := by omega
        rcases Nat.eq_zero_or_pos q with hq0 | hq0
        · subst hq0
          have h0 : rFull l = [] := List.eq_nil_of_length_eq_zero LEN
          have SC := Lib.hid (AnyF.slices_SortFunc_none Try.sortSl A5 c5 (.func (.func 39) #[] #[]) wr)
          have FIN := Lib.hid (LV.out [] (by rw [h0]) List.Pairwise.nil)
          clear HI OWN LEN h0 HL
          go_wp2_with (go_at_call 38; refine SC.out.mono ?_; rintro e w9 ⟨rfl, h9⟩; obtain rfl := h9.symm)
          go_ret
          exact ⟨_, [], rfl, ⟨A5, c5, rfl, Nat.zero_le _, fun h => absurd rfl h⟩, FIN.out, KW.out⟩
        · obtain ⟨A', c', hv, _, hg⟩ := own_form OWN
          rw [LEN] at hv hg
          injection hv with e1 _ e3
          subst e1 e3
          obtain ⟨g, rfl, hg1, hg2⟩ := hg hq0
          have SC := Lib.hid (sort_c g q c5 (rFull l) LEN hn400 hqc wr OWN)
          have HG := Lib.hid (show w.heap.size ≤ g from Nat.le_trans GE.out hg1)
          clear HI OWN LEN HL
          go_wp2_with (go_at_call 38; refine SC.out.mono ?_; rintro e w9 ⟨rfl, S, h1, h2, h3, h4⟩)
          go_ret
          exact ⟨_, S, rfl, h3, LV.out S h1 h2, KW.out.grown h4 KW.out.size (fun j ej => by injection ej with ej; have := HG.out; omega)⟩
end IP
end Go.Proofs.Ytjkdfbalhjmgpaa
