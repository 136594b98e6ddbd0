/-
  Any time of any ladder is fetched as the document says, or refused (of up to 3000 slots: greater ones the law lets pass). Conditions: none on the arguments.
-/
import Derived.Test.YtkgajlklhcmmcaaLadRA
import Derived.Test.YtkgajlklhcmmcaaRinRC
import Derived.OrdersHeld
import Derived.Test.YtkgajlklhcmmcaaLadPI
import Derived.Test.YtkgajlklhcmmcaaLadPJ
import Derived.Test.YtkgajlklhcmmcaaLadRI
import Derived.Test.YtkgajlklhcmmcaaLadRH
import Derived.Test.YtkgajlklhcmmcaaLadPM
import Derived.Test.YtkgajlklhcmmcaaRinF
import Derived.SizedLaws
set_option linter.unusedSimpArgs false
set_option linter.unusedVariables false
namespace Go.Proofs.Ytkgajlklhcmmcaa.AR
open Go.RowKit
set_option maxRecDepth 100000 in
set_option maxHeartbeats 4000000 in
theorem copy_c (S : List Nat) (m f : Int) (v : Value) (L : List Rg) (hl : L.length ≤ 100000) (hs : ∀ r ∈ L, r.2.length ≤ 100000) (w : World) (h : RiOut w v L) (hSS : ∀ z ∈ S, z < w.heap.size) :
    Calls Try.prog 6 #[.agg #[.int .i64 m, .int .i64 f, v]] w fun e w' => ∃ A c, e = .returned (.agg #[.int .i64 m, .int .i64 f, .slice A L.length c]) ∧ RiNew w.heap.size S w' (.slice A L.length c) L ∧ Below w.heap.size w w' := by
  obtain ⟨A, c, rfl, hc, hx⟩ := h
  obtain ⟨n, hn⟩ : ∃ n, L.length = n := ⟨_, rfl⟩
  rw [hn] at hc hl ⊢
  obtain ⟨b1, b2, hb, hz⟩ := bx_new2 w #[.int .i64 m, .int .i64 f, .slice A n c] #[.int .i64 0, .int .i64 0, .slice none 0 0] 24 24
  obtain ⟨wp, hwp⟩ : ∃ wp, (w.alloc (.cells #[.int .i64 m, .int .i64 f, .slice A n c] 24)).alloc (.cells #[.int .i64 0, .int .i64 0, .slice none 0 0] 24) = wp := ⟨_, rfl⟩
  rw [hwp] at b1 b2 hb hz
  obtain ⟨b3, hb3, hz3⟩ := bx_new1 wp #[.int .i64 m, .int .i64 f, .slice none 0 0] 24
  obtain ⟨w3, hw3⟩ : ∃ w3, wp.alloc (.cells #[.int .i64 m, .int .i64 f, .slice none 0 0] 24) = w3 := ⟨_, rfl⟩
  rw [hw3] at b3 hb3 hz3
  obtain ⟨k0, k1, k2, -⟩ := b1.three
  obtain ⟨i0, hi0, hz0, hz1, hz2⟩ := info_parts ring_info
  have MEM := Lib.hid (fun (z : Nat) (hz : z ∈ (w.heap.size + 1) :: (w.heap.size + 2) :: S) => show z = w.heap.size + 1 ∨ z = w.heap.size + 2 ∨ z < w.heap.size from by
    rcases List.mem_cons.1 hz with h | hz
    · exact .inl h
    · rcases List.mem_cons.1 hz with h | hz
      · exact .inr (.inl h)
      · exact .inr (.inr (hSS z hz)))
  rw [hz] at b3
  have ST := Lib.hid (show Bx w3 w.heap.size [.int .i64 m, .int .i64 f, .slice A n c] ∧ Bx w3 (w.heap.size + 1) [.int .i64 0, .int .i64 0, .slice none 0 0] ∧ Bx w3 (w.heap.size + 2) [.int .i64 m, .int .i64 f, .slice none 0 0] ∧ RiNew (w.heap.size + 3) ((w.heap.size + 1) :: (w.heap.size + 2) :: S) w3 (.slice none 0 0) (L.take 0) ∧ Below w.heap.size w w3 ∧ w.heap.size + 3 ≤ w3.heap.size from ⟨b1.below hb3, b2.below hb3, b3, RiNew.nil _ _ _, bnext hb hb3, by omega⟩)
  have HX := Lib.hid hx; have HN := Lib.hid hn; have HS := Lib.hid hs; have HWP := Lib.hid hwp; have HW3 := Lib.hid hw3; have ZP := Lib.hid hz
  clear hx hn hs b1 b2 hb hz hwp b3 hb3 hz3 hw3 hSS
  go_enter Try.func6, Try.ntmps6
  go_wp2_with fail
  rw [HWP.out, HW3.out]
  clear k0 k1 k2
  go_loopw [4] (fun i wr => ∃ (k : Nat) (A4 : Option Addr) (c4 : Nat), k ≤ n ∧ i = .int .i64 k ∧ Hid (Bx wr w.heap.size [.int .i64 m, .int .i64 f, .slice A n c] ∧ Bx wr (w.heap.size + 1) [.int .i64 0, .int .i64 0, .slice none 0 0] ∧ Bx wr (w.heap.size + 2) [.int .i64 m, .int .i64 f, .slice A4 k c4] ∧ RiNew (w.heap.size + 3) ((w.heap.size + 1) :: (w.heap.size + 2) :: S) wr (.slice A4 k c4) (L.take k) ∧ Below w.heap.size w wr ∧ w.heap.size + 3 ≤ wr.heap.size)) (fun i _ => n - (intOf i).toNat)
  case atStart => exact ⟨0, none, 0, Nat.zero_le _, rfl, ST.out⟩
  case round =>
    obtain ⟨k, A4, c4, hk, rfl, HI⟩ := hrel
    obtain ⟨k0, k1, k2, -⟩ := HI.out.1.three
    obtain ⟨l0, l1, l2, l3, l4, l5⟩ := HI.out.2.2.1.three
    by_cases hlt : k < n
    · have KW := Lib.hid HI.out.2.2.2.2.1
      obtain ⟨b, off, s, l, A', c', q, rfl, hp, hq, e0, e1, ho⟩ := AP.ri_at (c := c) (fun hn => by obtain ⟨b, off, e, ha⟩ := HX.out hn; exact ⟨b, off, e, ha.below KW.out⟩) HN.out hlt
      have hq1 : q ≤ 100000 := by rw [← hq]; exact HS.out _ (List.mem_of_getElem? hp)
      have CP := fun (W : World) (hB : Below wr.heap.size wr W) => IR.copy_c s (.slice A' q c') l (by omega) W (ho.below hB)
      rw [hq] at CP
      have CP := Lib.hid CP
      have NEXT := Lib.hid (show L.take (k + 1) = L.take k ++ [(s, l)] from by rw [List.take_add_one, hp]; rfl)
      have HL := Lib.hid (show (L.take k).length = k from by rw [List.length_take, HN.out]; omega)
      have BLT := Lib.hid (show b < w.heap.size from by
        have hne : L ≠ [] := fun e => by rw [e] at hp; simp at hp
        obtain ⟨b', off', e', ha⟩ := HX.out hne
        injection e' with e'
        injection e' with e1 e2
        obtain ⟨_, _, h1, _⟩ := ha 0 _ (List.getElem?_eq_getElem (List.length_pos_iff.2 hne))
        rw [e1]
        exact World.block_lt_of_cell? w _ h1)
      have CC := Lib.hid (fun (W : World) (hB : Below wr.heap.size wr W) => show W.cell? ⟨w.heap.size, 2, none⟩ = some (.slice (some ⟨b, off, none⟩) n c) ∧ W.cell? ⟨w.heap.size + 2, 2, none⟩ = some (.slice A4 k c4) ∧ W.cell? ⟨b, off + k * 2, none⟩ = some (.int .i64 s) ∧ W.cell? ⟨b, off + k * 2 + 1, none⟩ = some (.slice A' q c') from ⟨cellb hB k2, cellb hB l2, cellb hB e0, cellb hB e1⟩)
      have i0' : (0 : Int) ≤ (k : Int) := by omega
      have i1' : (k : Int) < (n : Int) := by omega
      have B63 := Lib.hid (show k + 1 ≤ maxLen by simp only [maxLen]; omega)
      have B48 := Lib.hid (show (k + 1) * 32 ≤ 140737488355328 by omega)
      have FORM := Lib.hid (fun (W' : World) (v' : Value) (xs : List Value) (h : W'.ownsRow (w.heap.size + 3) 53 2 v' (k + 1) xs) => own_form h)
      clear hp hq ho
      go_wp2_with fail
      refine wp_region_held_drew (S := fun y => y.cell? ⟨w.heap.size, 2, none⟩ = some (.slice (some ⟨b, off, none⟩) n c) ∧ y.cell? ⟨b, off + k * 2, none⟩ = some (.int .i64 s) ∧ y.cell? ⟨b, off + k * 2 + 1, none⟩ = some (.slice A' q c')) (by kernel_rfl) ?hs (fun hHeld => ?hr)
      case hs => exact ⟨(CC.out _ (Below.refl _ _).drew).1, (CC.out _ (Below.refl _ _).drew).2.2⟩
      have l2d : wr.drew.cell? ⟨w.heap.size + 2, 2, none⟩ = some (.slice A4 k c4) := l2
      refine wpAnyH_take (i := 0) (v := .pointer (some ⟨w.heap.size + 2, 2, none⟩)) rfl (by kernel_rfl) (by kernel_rfl) (by kernel_rfl) (fun _ _ _ h => h) (Or.inl ⟨by rfl, fun w hSw => ?_⟩) (by assumption) ?_
      · ((try dsimp only at hSw); go_simp)
      change wpAnyH _ _ _ _ _ _ _ (Act.put _ (some 17) (.pointer (some ⟨w.heap.size + 2, 2, none⟩))) _
      simp only [Act.put, List.setIfInBounds_toArray, List.set_cons_zero, List.set_cons_succ]
      refine wpAnyH_take (i := 2) (v := .pointer (some ⟨w.heap.size, 2, none⟩)) rfl (by kernel_rfl) (by kernel_rfl) (by kernel_rfl) (fun _ _ _ h => h) (Or.inl ⟨by rfl, fun w hSw => ?_⟩) (by assumption) ?_
      · ((try dsimp only at hSw); go_simp)
      change wpAnyH _ _ _ _ _ _ _ (Act.put _ (some 19) (.pointer (some ⟨w.heap.size, 2, none⟩))) _
      simp only [Act.put, List.setIfInBounds_toArray, List.set_cons_zero, List.set_cons_succ]
      refine wpAnyH_take (i := 3) (v := .slice (some ⟨b, off, none⟩) n c) rfl (by kernel_rfl) (by kernel_rfl) (by kernel_rfl) (fun _ _ _ h => h) (Or.inl ⟨by rfl, fun w hSw => ?_⟩) (by assumption) ?_
      · ((try dsimp only at hSw); go_simp)
      change wpAnyH _ _ _ _ _ _ _ (Act.put _ (some 20) (.slice (some ⟨b, off, none⟩) n c)) _
      simp only [Act.put, List.setIfInBounds_toArray, List.set_cons_zero, List.set_cons_succ]
      refine wpAnyH_take (i := 4) (v := .int .i64 (k : Int)) rfl (by kernel_rfl) (by kernel_rfl) (by kernel_rfl) (fun _ _ _ h => h) (Or.inl ⟨by rfl, fun w hSw => ?_⟩) (by assumption) ?_
      · ((try dsimp only at hSw); go_simp)
      change wpAnyH _ _ _ _ _ _ _ (Act.put _ (some 21) (.int .i64 (k : Int))) _
      simp only [Act.put, List.setIfInBounds_toArray, List.set_cons_zero, List.set_cons_succ]
      refine wpAnyH_take (i := 5) (v := .pointer (some ⟨b, off + k * 2, none⟩)) rfl (by kernel_rfl) (by kernel_rfl) (by kernel_rfl) (fun _ _ _ h => h) (Or.inl ⟨by rfl, fun w hSw => ?_⟩) (by assumption) ?_
      · ((try dsimp only at hSw); go_simp)
      change wpAnyH _ _ _ _ _ _ _ (Act.put _ (some 22) (.pointer (some ⟨b, off + k * 2, none⟩))) _
      simp only [Act.put, List.setIfInBounds_toArray, List.set_cons_zero, List.set_cons_succ]
      refine wpAnyH_take (i := 6) (v := .agg #[.int .i64 s, .slice A' q c']) rfl (by kernel_rfl) (by kernel_rfl) (by kernel_rfl) (fun _ _ _ h => h) (Or.inl ⟨by rfl, fun w hSw => ?_⟩) (by assumption) ?_
      · ((try dsimp only at hSw); go_simp)
      change wpAnyH _ _ _ _ _ _ _ (Act.put _ (some 23) (.agg #[.int .i64 s, .slice A' q c'])) _
      simp only [Act.put, List.setIfInBounds_toArray, List.set_cons_zero, List.set_cons_succ]
      refine wpAnyH_ready (rs := [1, 7]) (by kernel_rfl) (by simp) ?_
      refine AllReadyH.cons rfl (fun K hK => ?_) (AllReadyH.cons rfl (fun K hK => ?_) AllReadyH.nil)
      · go_simp
        refine hK.out _ _ hHeld (fun hHeld => ?_)
        clear hK K
        try simp only [Act.put, List.setIfInBounds_toArray, List.set_cons_zero, List.set_cons_succ]
        refine wpAnyH_ready (rs := [7]) (by kernel_rfl) (by simp) ?_
        refine AllReadyH.cons rfl (fun K hK => ?_) AllReadyH.nil
        go_simp
        refine (CP.out _ (Below.refl wr.heap.size wr |>.drew)).mono ?_; rintro e w6 ⟨A6, c6, rfl, hN6, hb6⟩
        have T6 : Below wr.heap.size wr w6 := bnext (Below.refl wr.heap.size wr |>.drew) hb6
        have N6 := Lib.hid hN6
        (try go_wp2_with fail)
        refine hK.out _ _ ⟨(CC.out _ T6).1, (CC.out _ T6).2.2⟩ (fun hHeld => ?_)
        clear hK K
        try simp only [Act.put, List.setIfInBounds_toArray, List.set_cons_zero, List.set_cons_succ]
        have D7 := Lib.hid (bx_new1 w6 #[.int .i64 s, .slice A6 q c6] 53)
        have ROW := Lib.hid (show ∃ P : List (Value × Rg), P.map Prod.snd = L.take k ∧ (∀ g, (Value.slice A4 k c4).ownBlock = some g → g ∉ (w.heap.size + 1) :: (w.heap.size + 2) :: S) ∧ (∀ x ∈ P, RgFar ((Value.slice A4 k c4).ownBlock.toList ++ (w.heap.size + 1) :: (w.heap.size + 2) :: S) w6 x.1 x.2.2) ∧ (w6.alloc (.cells #[.int .i64 s, .slice A6 q c6] 53)).ownsRow (w.heap.size + 3) 53 2 (.slice A4 k c4) k (riC P) from by
          obtain ⟨P, hm, hown, hsg, hP⟩ := HI.out.2.2.2.1.below T6
          rw [HL.out] at hown
          exact ⟨P, hm, hsg, hP, World.ownsRow.alloc hown _⟩)
        obtain ⟨P, hm, hsg, hP, hown⟩ := ROW.out
        have FAR : RgFar ((Value.slice A4 k c4).ownBlock.toList ++ (w.heap.size + 1) :: (w.heap.size + 2) :: S) w6 (.slice A6 q c6) l := N6.out.far fun z hz => by
          have h4 := HI.out.2.2.2.2.2
          rcases List.mem_append.1 hz with h | h
          · obtain ⟨P', _, ho', _, _⟩ := HI.out.2.2.2.1
            have := (own_lt ho' (by simpa using h)).2
            exact .inl (by first | omega | (show z < wr.heap.size; omega))
          · have h9 := MEM.out z h
            exact .inl (by first | omega | (show z < wr.heap.size; omega))
        have T7 : Below wr.heap.size wr (w6.alloc (.cells #[.int .i64 s, .slice A6 q c6] 53)) := bnext T6 D7.out.2.1
        have B7 := HI.out.2.2.1.below T7
        have NEB : some (w.heap.size + 2) ≠ (Value.slice A4 k c4).ownBlock := fun e => hsg _ e.symm (by simp)
        refine wpAnyH_ready (rs := [8]) (by kernel_rfl) (by simp) ?_
        refine AllReadyH.cons rfl (fun K hK => ?_) AllReadyH.nil
        go_simp
        refine hK.out _ _ ⟨(CC.out _ T7).1, (CC.out _ T7).2.2⟩ (fun hHeld => ?_)
        clear hK K
        try simp only [Act.put, List.setIfInBounds_toArray, List.set_cons_zero, List.set_cons_succ]
        refine wpAnyH_ready (rs := [9]) (by kernel_rfl) (by simp) ?_
        refine AllReadyH.cons rfl (fun K hK => ?_) AllReadyH.nil
        refine step_append_any _ rfl (.tmp 18) (.tmp 25) _ rfl (w.heap.size + 3) 53 i0 (.agg #[.int .i64 0, .slice none 0 0]) 2 32 Try.underlying22 hi0 hz0 hz1 hz2 rfl (by decide) (.slice A4 k c4) k (riC P) rfl hown _ (some ⟨w6.heap.size, 0, none⟩) 1 1 [.int .i64 s, .slice A6 q c6] rfl (D7.out.1.reads (n := 1) (size := 2) rfl) (by simp [Value.oneCell']) B63.out B48.out (by have h1 := T7.size; have h2 := HI.out.2.2.2.2.2; omega) ?_
        intro v20 w20 hown20 hg20 hat20
        obtain ⟨A20, c20, hv20, _, _⟩ := FORM.out _ _ _ hown20
        subst hv20
        have hne : ∀ b, b < w.heap.size + 3 → some b ≠ (Value.slice A4 k c4).ownBlock := fun b hb e => by have := (own_lt hown e.symm).1; omega
        have q7 := CC.out _ T7
        have q20 : w20.cell? ⟨w.heap.size, 2, none⟩ = some (.slice (some ⟨b, off, none⟩) n c) ∧ w20.cell? ⟨b, off + k * 2, none⟩ = some (.int .i64 s) ∧ w20.cell? ⟨b, off + k * 2 + 1, none⟩ = some (.slice A' q c') := ⟨hg20.cell q7.1 (hne _ (by show w.heap.size < _; omega)), hg20.cell q7.2.2.1 (hne _ (by have := BLT.out; show b < _; omega)), hg20.cell q7.2.2.2 (hne _ (by have := BLT.out; show b < _; omega))⟩
        obtain ⟨l0, l1, l2, l3, l4, l5⟩ := (B7.grown hg20 NEB).three
        refine hK.out _ _ q20 (fun hHeld => ?_)
        clear hK K
        try simp only [Act.put, List.setIfInBounds_toArray, List.set_cons_zero, List.set_cons_succ]
        refine wpAnyH_take (i := 10) (v := .pointer (some ⟨w.heap.size + 2, 2, none⟩)) rfl (by kernel_rfl) (by kernel_rfl) (by kernel_rfl) (fun _ _ _ h => h) (Or.inl ⟨by rfl, fun w hSw => ?_⟩) (by assumption) ?_
        · ((try dsimp only at hSw); go_simp)
        change wpAnyH _ _ _ _ _ _ _ (Act.put _ (some 27) (.pointer (some ⟨w.heap.size + 2, 2, none⟩))) _
        simp only [Act.put, List.setIfInBounds_toArray, List.set_cons_zero, List.set_cons_succ]
        refine wpAnyH_ready (rs := [11]) (by kernel_rfl) (by simp) ?_
        refine AllReadyH.cons rfl (fun K hK => ?_) AllReadyH.nil
        go_simp
        (try go_wp2_with fail)
        refine hK.out _ _ ⟨(World.cell?_setCell_other _ _ _ _ (fun e => by injection e with e1; omega)).trans q20.1, (World.cell?_setCell_other _ _ _ _ (fun e => by injection e with e1; have := BLT.out; omega)).trans q20.2.1, (World.cell?_setCell_other _ _ _ _ (fun e => by injection e with e1; have := BLT.out; omega)).trans q20.2.2⟩ (fun hHeld => ?_)
        clear hK K
        try simp only [Act.put, List.setIfInBounds_toArray, List.set_cons_zero, List.set_cons_succ]
        refine wpAnyH_done (by kernel_rfl) ?_ _
        go_wp2
        go_roundw
        case rel =>
          have hR := RiNew.push (S := (w.heap.size + 1) :: (w.heap.size + 2) :: S) (u := .slice A6 q c6) (r := (s, l)) hm hsg hP FAR hg20 hown20 hat20 (fun z hz => by
            have h1 := T6.size; have h3 := HI.out.2.2.2.2.2
            have h9 := MEM.out z hz
            omega) HL.out
          refine ⟨k + 1, A20, c20, by omega, by go_num, ((HI.out.1.below T7).grown hg20 (hne _ (by omega))).other (by omega) _, ((HI.out.2.1.below T7).grown hg20 (hne _ (by omega))).other (by omega) _, ?_, ?_, ?_, ?_⟩
          · exact (B7.grown hg20 NEB).set (j := 2) (by simp) _
          · rw [NEXT.out]
            exact hR.kept (fun b _ hb => heap_setCell_other _ ⟨w.heap.size + 2, 2, none⟩ b _ (fun e => hb (by rw [e]; simp)))
          · refine below_set (Below.grown (bnext HI.out.2.2.2.2.1 T7) hg20 (by have h1 := T7.size; have h2 := HI.out.2.2.2.2.2; omega) (fun j ej => ?_)) (by omega) _
            have := (own_lt hown ej).1; omega
          · have h1 := T7.size; have h2 := HI.out.2.2.2.2.2; have h3 := hg20.size; simp; omega
        case measure => simp [intOf]; omega
      · go_simp
        refine (CP.out _ (Below.refl wr.heap.size wr |>.drew)).mono ?_; rintro e w6 ⟨A6, c6, rfl, hN6, hb6⟩
        have T6 : Below wr.heap.size wr w6 := bnext (Below.refl wr.heap.size wr |>.drew) hb6
        have N6 := Lib.hid hN6
        (try go_wp2_with fail)
        refine hK.out _ _ ⟨(CC.out _ T6).1, (CC.out _ T6).2.2⟩ (fun hHeld => ?_)
        clear hK K
        try simp only [Act.put, List.setIfInBounds_toArray, List.set_cons_zero, List.set_cons_succ]
        have l26 := (CC.out _ T6).2.1
        have D7 := Lib.hid (bx_new1 w6 #[.int .i64 s, .slice A6 q c6] 53)
        have ROW := Lib.hid (show ∃ P : List (Value × Rg), P.map Prod.snd = L.take k ∧ (∀ g, (Value.slice A4 k c4).ownBlock = some g → g ∉ (w.heap.size + 1) :: (w.heap.size + 2) :: S) ∧ (∀ x ∈ P, RgFar ((Value.slice A4 k c4).ownBlock.toList ++ (w.heap.size + 1) :: (w.heap.size + 2) :: S) w6 x.1 x.2.2) ∧ (w6.alloc (.cells #[.int .i64 s, .slice A6 q c6] 53)).ownsRow (w.heap.size + 3) 53 2 (.slice A4 k c4) k (riC P) from by
          obtain ⟨P, hm, hown, hsg, hP⟩ := HI.out.2.2.2.1.below T6
          rw [HL.out] at hown
          exact ⟨P, hm, hsg, hP, World.ownsRow.alloc hown _⟩)
        obtain ⟨P, hm, hsg, hP, hown⟩ := ROW.out
        have FAR : RgFar ((Value.slice A4 k c4).ownBlock.toList ++ (w.heap.size + 1) :: (w.heap.size + 2) :: S) w6 (.slice A6 q c6) l := N6.out.far fun z hz => by
          have h4 := HI.out.2.2.2.2.2
          rcases List.mem_append.1 hz with h | h
          · obtain ⟨P', _, ho', _, _⟩ := HI.out.2.2.2.1
            have := (own_lt ho' (by simpa using h)).2
            exact .inl (by first | omega | (show z < wr.heap.size; omega))
          · have h9 := MEM.out z h
            exact .inl (by first | omega | (show z < wr.heap.size; omega))
        have T7 : Below wr.heap.size wr (w6.alloc (.cells #[.int .i64 s, .slice A6 q c6] 53)) := bnext T6 D7.out.2.1
        have B7 := HI.out.2.2.1.below T7
        have NEB : some (w.heap.size + 2) ≠ (Value.slice A4 k c4).ownBlock := fun e => hsg _ e.symm (by simp)
        refine wpAnyH_ready (rs := [1, 8]) (by kernel_rfl) (by simp) ?_
        refine AllReadyH.cons rfl (fun K hK => ?_) (AllReadyH.cons rfl (fun K hK => ?_) AllReadyH.nil)
        · go_simp
          refine hK.out _ _ hHeld (fun hHeld => ?_)
          clear hK K
          try simp only [Act.put, List.setIfInBounds_toArray, List.set_cons_zero, List.set_cons_succ]
          refine wpAnyH_ready (rs := [8]) (by kernel_rfl) (by simp) ?_
          refine AllReadyH.cons rfl (fun K hK => ?_) AllReadyH.nil
          go_simp
          refine hK.out _ _ ⟨(CC.out _ T7).1, (CC.out _ T7).2.2⟩ (fun hHeld => ?_)
          clear hK K
          try simp only [Act.put, List.setIfInBounds_toArray, List.set_cons_zero, List.set_cons_succ]
          refine wpAnyH_ready (rs := [9]) (by kernel_rfl) (by simp) ?_
          refine AllReadyH.cons rfl (fun K hK => ?_) AllReadyH.nil
          refine step_append_any _ rfl (.tmp 18) (.tmp 25) _ rfl (w.heap.size + 3) 53 i0 (.agg #[.int .i64 0, .slice none 0 0]) 2 32 Try.underlying22 hi0 hz0 hz1 hz2 rfl (by decide) (.slice A4 k c4) k (riC P) rfl hown _ (some ⟨w6.heap.size, 0, none⟩) 1 1 [.int .i64 s, .slice A6 q c6] rfl (D7.out.1.reads (n := 1) (size := 2) rfl) (by simp [Value.oneCell']) B63.out B48.out (by have h1 := T7.size; have h2 := HI.out.2.2.2.2.2; omega) ?_
          intro v20 w20 hown20 hg20 hat20
          obtain ⟨A20, c20, hv20, _, _⟩ := FORM.out _ _ _ hown20
          subst hv20
          have hne : ∀ b, b < w.heap.size + 3 → some b ≠ (Value.slice A4 k c4).ownBlock := fun b hb e => by have := (own_lt hown e.symm).1; omega
          have q7 := CC.out _ T7
          have q20 : w20.cell? ⟨w.heap.size, 2, none⟩ = some (.slice (some ⟨b, off, none⟩) n c) ∧ w20.cell? ⟨b, off + k * 2, none⟩ = some (.int .i64 s) ∧ w20.cell? ⟨b, off + k * 2 + 1, none⟩ = some (.slice A' q c') := ⟨hg20.cell q7.1 (hne _ (by show w.heap.size < _; omega)), hg20.cell q7.2.2.1 (hne _ (by have := BLT.out; show b < _; omega)), hg20.cell q7.2.2.2 (hne _ (by have := BLT.out; show b < _; omega))⟩
          obtain ⟨l0, l1, l2, l3, l4, l5⟩ := (B7.grown hg20 NEB).three
          refine hK.out _ _ q20 (fun hHeld => ?_)
          clear hK K
          try simp only [Act.put, List.setIfInBounds_toArray, List.set_cons_zero, List.set_cons_succ]
          refine wpAnyH_take (i := 10) (v := .pointer (some ⟨w.heap.size + 2, 2, none⟩)) rfl (by kernel_rfl) (by kernel_rfl) (by kernel_rfl) (fun _ _ _ h => h) (Or.inl ⟨by rfl, fun w hSw => ?_⟩) (by assumption) ?_
          · ((try dsimp only at hSw); go_simp)
          change wpAnyH _ _ _ _ _ _ _ (Act.put _ (some 27) (.pointer (some ⟨w.heap.size + 2, 2, none⟩))) _
          simp only [Act.put, List.setIfInBounds_toArray, List.set_cons_zero, List.set_cons_succ]
          refine wpAnyH_ready (rs := [11]) (by kernel_rfl) (by simp) ?_
          refine AllReadyH.cons rfl (fun K hK => ?_) AllReadyH.nil
          go_simp
          (try go_wp2_with fail)
          refine hK.out _ _ ⟨(World.cell?_setCell_other _ _ _ _ (fun e => by injection e with e1; omega)).trans q20.1, (World.cell?_setCell_other _ _ _ _ (fun e => by injection e with e1; have := BLT.out; omega)).trans q20.2.1, (World.cell?_setCell_other _ _ _ _ (fun e => by injection e with e1; have := BLT.out; omega)).trans q20.2.2⟩ (fun hHeld => ?_)
          clear hK K
          try simp only [Act.put, List.setIfInBounds_toArray, List.set_cons_zero, List.set_cons_succ]
          refine wpAnyH_done (by kernel_rfl) ?_ _
          go_wp2
          go_roundw
          case rel =>
            have hR := RiNew.push (S := (w.heap.size + 1) :: (w.heap.size + 2) :: S) (u := .slice A6 q c6) (r := (s, l)) hm hsg hP FAR hg20 hown20 hat20 (fun z hz => by
              have h1 := T6.size; have h3 := HI.out.2.2.2.2.2
              have h9 := MEM.out z hz
              omega) HL.out
            refine ⟨k + 1, A20, c20, by omega, by go_num, ((HI.out.1.below T7).grown hg20 (hne _ (by omega))).other (by omega) _, ((HI.out.2.1.below T7).grown hg20 (hne _ (by omega))).other (by omega) _, ?_, ?_, ?_, ?_⟩
            · exact (B7.grown hg20 NEB).set (j := 2) (by simp) _
            · rw [NEXT.out]
              exact hR.kept (fun b _ hb => heap_setCell_other _ ⟨w.heap.size + 2, 2, none⟩ b _ (fun e => hb (by rw [e]; simp)))
            · refine below_set (Below.grown (bnext HI.out.2.2.2.2.1 T7) hg20 (by have h1 := T7.size; have h2 := HI.out.2.2.2.2.2; omega) (fun j ej => ?_)) (by omega) _
              have := (own_lt hown ej).1; omega
            · have h1 := T7.size; have h2 := HI.out.2.2.2.2.2; have h3 := hg20.size; simp; omega
          case measure => simp [intOf]; omega
        · go_simp
          refine hK.out _ _ ⟨(CC.out _ T7).1, (CC.out _ T7).2.2⟩ (fun hHeld => ?_)
          clear hK K
          try simp only [Act.put, List.setIfInBounds_toArray, List.set_cons_zero, List.set_cons_succ]
          have l27 := (CC.out _ T7).2.1
          refine wpAnyH_ready (rs := [1]) (by kernel_rfl) (by simp) ?_
          refine AllReadyH.cons rfl (fun K hK => ?_) AllReadyH.nil
          go_simp
          refine hK.out _ _ hHeld (fun hHeld => ?_)
          clear hK K
          try simp only [Act.put, List.setIfInBounds_toArray, List.set_cons_zero, List.set_cons_succ]
          refine wpAnyH_ready (rs := [9]) (by kernel_rfl) (by simp) ?_
          refine AllReadyH.cons rfl (fun K hK => ?_) AllReadyH.nil
          refine step_append_any _ rfl (.tmp 18) (.tmp 25) _ rfl (w.heap.size + 3) 53 i0 (.agg #[.int .i64 0, .slice none 0 0]) 2 32 Try.underlying22 hi0 hz0 hz1 hz2 rfl (by decide) (.slice A4 k c4) k (riC P) rfl hown _ (some ⟨w6.heap.size, 0, none⟩) 1 1 [.int .i64 s, .slice A6 q c6] rfl (D7.out.1.reads (n := 1) (size := 2) rfl) (by simp [Value.oneCell']) B63.out B48.out (by have h1 := T7.size; have h2 := HI.out.2.2.2.2.2; omega) ?_
          intro v20 w20 hown20 hg20 hat20
          obtain ⟨A20, c20, hv20, _, _⟩ := FORM.out _ _ _ hown20
          subst hv20
          have hne : ∀ b, b < w.heap.size + 3 → some b ≠ (Value.slice A4 k c4).ownBlock := fun b hb e => by have := (own_lt hown e.symm).1; omega
          have q7 := CC.out _ T7
          have q20 : w20.cell? ⟨w.heap.size, 2, none⟩ = some (.slice (some ⟨b, off, none⟩) n c) ∧ w20.cell? ⟨b, off + k * 2, none⟩ = some (.int .i64 s) ∧ w20.cell? ⟨b, off + k * 2 + 1, none⟩ = some (.slice A' q c') := ⟨hg20.cell q7.1 (hne _ (by show w.heap.size < _; omega)), hg20.cell q7.2.2.1 (hne _ (by have := BLT.out; show b < _; omega)), hg20.cell q7.2.2.2 (hne _ (by have := BLT.out; show b < _; omega))⟩
          obtain ⟨l0, l1, l2, l3, l4, l5⟩ := (B7.grown hg20 NEB).three
          refine hK.out _ _ q20 (fun hHeld => ?_)
          clear hK K
          try simp only [Act.put, List.setIfInBounds_toArray, List.set_cons_zero, List.set_cons_succ]
          refine wpAnyH_take (i := 10) (v := .pointer (some ⟨w.heap.size + 2, 2, none⟩)) rfl (by kernel_rfl) (by kernel_rfl) (by kernel_rfl) (fun _ _ _ h => h) (Or.inl ⟨by rfl, fun w hSw => ?_⟩) (by assumption) ?_
          · ((try dsimp only at hSw); go_simp)
          change wpAnyH _ _ _ _ _ _ _ (Act.put _ (some 27) (.pointer (some ⟨w.heap.size + 2, 2, none⟩))) _
          simp only [Act.put, List.setIfInBounds_toArray, List.set_cons_zero, List.set_cons_succ]
          refine wpAnyH_ready (rs := [11]) (by kernel_rfl) (by simp) ?_
          refine AllReadyH.cons rfl (fun K hK => ?_) AllReadyH.nil
          go_simp
          (try go_wp2_with fail)
          refine hK.out _ _ ⟨(World.cell?_setCell_other _ _ _ _ (fun e => by injection e with e1; omega)).trans q20.1, (World.cell?_setCell_other _ _ _ _ (fun e => by injection e with e1; have := BLT.out; omega)).trans q20.2.1, (World.cell?_setCell_other _ _ _ _ (fun e => by injection e with e1; have := BLT.out; omega)).trans q20.2.2⟩ (fun hHeld => ?_)
          clear hK K
          try simp only [Act.put, List.setIfInBounds_toArray, List.set_cons_zero, List.set_cons_succ]
          refine wpAnyH_done (by kernel_rfl) ?_ _
          go_wp2
          go_roundw
          case rel =>
            have hR := RiNew.push (S := (w.heap.size + 1) :: (w.heap.size + 2) :: S) (u := .slice A6 q c6) (r := (s, l)) hm hsg hP FAR hg20 hown20 hat20 (fun z hz => by
              have h1 := T6.size; have h3 := HI.out.2.2.2.2.2
              have h9 := MEM.out z hz
              omega) HL.out
            refine ⟨k + 1, A20, c20, by omega, by go_num, ((HI.out.1.below T7).grown hg20 (hne _ (by omega))).other (by omega) _, ((HI.out.2.1.below T7).grown hg20 (hne _ (by omega))).other (by omega) _, ?_, ?_, ?_, ?_⟩
            · exact (B7.grown hg20 NEB).set (j := 2) (by simp) _
            · rw [NEXT.out]
              exact hR.kept (fun b _ hb => heap_setCell_other _ ⟨w.heap.size + 2, 2, none⟩ b _ (fun e => hb (by rw [e]; simp)))
            · refine below_set (Below.grown (bnext HI.out.2.2.2.2.1 T7) hg20 (by have h1 := T7.size; have h2 := HI.out.2.2.2.2.2; omega) (fun j ej => ?_)) (by omega) _
              have := (own_lt hown ej).1; omega
            · have h1 := T7.size; have h2 := HI.out.2.2.2.2.2; have h3 := hg20.size; simp; omega
          case measure => simp [intOf]; omega
    · obtain rfl : k = n := by omega
      obtain ⟨j0, j1, j2, j3, j4, j5⟩ := HI.out.2.1.three
      have HT := Lib.hid (show L.take k = L from by rw [← HN.out]; exact List.take_length)
      go_wp2_with fail
      refine bodyPost_ret (v := .agg #[.int .i64 m, .int .i64 f, .slice A4 k c4]) (by simp [results, Try.results6, go_sem, j0, j1, j2, j3, j4, j5]) rfl ⟨A4, c4, rfl, ?_, ?_⟩
      · have hR := HI.out.2.2.2.1
        rw [HT.out] at hR
        exact ((hR.set3 (b := w.heap.size + 1) (by simp) _ _ _).less (fun z hz => .inl (by simp [hz]))).mono (by omega)
      · exact below_set (below_set (below_set HI.out.2.2.2.2.1 (by omega) _) (by omega) _) (by omega) _
end Go.Proofs.Ytkgajlklhcmmcaa.AR
namespace Go.Proofs.Ytkgajlklhcmmcaa.AW
open Go.RowKit IP AP
def R0 : List (Int × Int) := [(10, 6), (60, 5)]
def E6 : List (Int × Int) := List.replicate 6 (-1, 0)
def L0 : List Rg := lNew R0
def L1 : List Rg := [(10, [(0, 1000000), (-1, 0), (-1, 0), (-1, 0), (-1, 0), (-1, 0)]), (60, [(-1, 0), (-1, 0), (-1, 0), (-1, 0), (-1, 0)])]
def L2 : List Rg := [(10, [(0, 1000000), (10, 2000000), (-1, 0), (-1, 0), (-1, 0), (-1, 0)]), (60, [(-1, 0), (-1, 0), (-1, 0), (-1, 0), (-1, 0)])]
def L3 : List Rg := [(10, [(0, 1000000), (10, 2000000), (20, 3000000), (-1, 0), (-1, 0), (-1, 0)]), (60, [(0, 2000000), (-1, 0), (-1, 0), (-1, 0), (-1, 0)])]
theorem a_facts : (nwL 1 500000 R0 = L0 ∧ nwM 1 500000 R0 = 1 ∧ nwF 1 500000 R0 = 500000 ∧ nwE 1 500000 R0 = 0) ∧ lAccept 1 500000 L0 0 1000000 30 = (L1, 0) ∧ lAccept 1 500000 L1 10 2000000 30 = (L2, 0) ∧ lAccept 1 500000 L2 20 3000000 30 = (L3, 0) := by decide +kernel
theorem small2 (L : List Rg) (h : (L.all fun r => decide (r.2.length ≤ 100000) && r.2.all fun g => decide (-9223372036854775808 ≤ g.2 ∧ g.2 ≤ 9223372036854775807)) = true) : (∀ r ∈ L, r.2.length ≤ 100000) ∧ lFine L := by
  rw [List.all_eq_true] at h
  refine ⟨fun r hr => ?_, fun r hr g hg => ?_⟩
  · have := h r hr; rw [Bool.and_eq_true] at this; exact of_decide_eq_true this.1
  · have := h r hr
    rw [Bool.and_eq_true, List.all_eq_true] at this
    exact (of_decide_eq_true (this.2 g hg) : -9223372036854775808 ≤ g.2 ∧ g.2 ≤ 9223372036854775807)
theorem rungs_out (w : World) (t : TypeId) : RgOut (w.alloc (.cells #[.int .i64 10, .int .i64 6, .int .i64 60, .int .i64 5] t)) (.slice (some ⟨w.heap.size, 0, none⟩) 2 2) R0 := by
  have b := bx_new w #[.int .i64 10, .int .i64 6, .int .i64 60, .int .i64 5] t
  refine ⟨_, 2, rfl, Nat.le_refl _, fun _ => ⟨_, 0, rfl, fun k g hk => ?_⟩⟩
  match k, hk with
  | 0, hk =>
    obtain rfl : ((10, 6) : Int × Int) = g := by simpa [R0] using hk
    exact ⟨(b.cells 0 _ rfl).1, (b.cells 1 _ rfl).1⟩
  | 1, hk =>
    obtain rfl : ((60, 5) : Int × Int) = g := by simpa [R0] using hk
    exact ⟨(b.cells 2 _ rfl).1, (b.cells 3 _ rfl).1⟩
/-- A ladder's variable stored anew: three cells. -/
theorem _root_.Go.Proofs.Ytkgajlklhcmmcaa.Bx.put3 {w : World} {b : Nat} {x y z x' y' z' : Value} (h : Bx w b [x, y, z]) : Bx (((w.setCell ⟨b, 0, none⟩ x').setCell ⟨b, 1, none⟩ y').setCell ⟨b, 2, none⟩ z') b [x', y', z'] :=
  ((h.set (j := 0) (by simp) x').set (j := 1) (by simp) y').set (j := 2) (by simp) z'
theorem below_put3 {B b : Nat} {a w : World} (h : Below B a w) (hB : B ≤ b) (x y z : Value) : Below B a (((w.setCell ⟨b, 0, none⟩ x).setCell ⟨b, 1, none⟩ y).setCell ⟨b, 2, none⟩ z) := below_set (below_set (below_set h hB _) hB _) hB _
theorem slots_far {S : List Nat} {w : World} {A : Option Addr} {n c : Nat} {x y : Int} {l : List (Int × Int)} (h : RgFar S w (.slice A n c) ((x, y) :: l)) : ∃ b off, A = some ⟨b, off, none⟩ ∧ b ∉ S ∧ w.cell? ⟨b, off, none⟩ = some (.int .i64 x) ∧ w.cell? ⟨b, off + 1, none⟩ = some (.int .i64 y) := by
  obtain ⟨A', c', hv, hc, hx⟩ := h
  obtain ⟨b, off, hA, hS, ha⟩ := hx (by simp)
  injection hv with e1
  have := ha 0 (x, y) rfl
  exact ⟨b, off, e1.trans hA, hS, by simpa using this.1, by simpa using this.2⟩
theorem slots_first {w : World} {A : Option Addr} {n c : Nat} {x y : Int} {l : List (Int × Int)} (h : RgOut w (.slice A n c) ((x, y) :: l)) : ∃ b off, A = some ⟨b, off, none⟩ ∧ w.cell? ⟨b, off, none⟩ = some (.int .i64 x) ∧ w.cell? ⟨b, off + 1, none⟩ = some (.int .i64 y) := by
  obtain ⟨A', c', hv, hc, hx⟩ := h
  obtain ⟨b, off, hA, ha⟩ := hx (by simp)
  injection hv with e1
  have := ha 0 (x, y) rfl
  exact ⟨b, off, e1.trans hA, by simpa using this.1, by simpa using this.2⟩
set_option maxRecDepth 100000 in
set_option maxHeartbeats 4000000 in
theorem alive_c (w : World) : Calls Try.prog 4 #[] w fun e w' => e = .returned (.bool true) ∧ Below w.heap.size w w' := by
  obtain ⟨⟨n1, n2, n3, n4⟩, a1, a2, a3⟩ := a_facts
  have NW := fun (S : List Nat) (W : World) (v : Value) (h : RgOut W v R0) (hS : ∀ z ∈ S, z < W.heap.size) => AP.new_c S 1 500000 v R0 (by decide) W h hS
  rw [n1, n2, n3, n4, show L0.length = 2 from rfl] at NW
  have A1 := fun (S : List Nat) (W : World) (v : Value) (h : RiFar S W v L0) (hS : ∀ z ∈ S, z < W.heap.size) => accept_c S 1 500000 0 1000000 30 v L0 (by decide) (small2 L0 (by decide +kernel)).1 (small2 L0 (by decide +kernel)).2 ⟨by omega, by omega⟩ W h hS
  rw [a1, show L0.length = 2 from rfl] at A1
  have A2 := fun (S : List Nat) (W : World) (v : Value) (h : RiFar S W v L1) (hS : ∀ z ∈ S, z < W.heap.size) => accept_c S 1 500000 10 2000000 30 v L1 (by decide) (small2 L1 (by decide +kernel)).1 (small2 L1 (by decide +kernel)).2 ⟨by omega, by omega⟩ W h hS
  rw [a2, show L1.length = 2 from rfl] at A2
  have A3 := fun (S : List Nat) (W : World) (v : Value) (h : RiFar S W v L2) (hS : ∀ z ∈ S, z < W.heap.size) => accept_c S 1 500000 20 3000000 30 v L2 (by decide) (small2 L2 (by decide +kernel)).1 (small2 L2 (by decide +kernel)).2 ⟨by omega, by omega⟩ W h hS
  rw [a3, show L2.length = 2 from rfl] at A3
  have hb0 := alloc_below w (.cells #[.int .i64 10, .int .i64 6, .int .i64 60, .int .i64 5] 43)
  have NW1 := NW [] _ _ (rungs_out w 43) (fun z hz => by cases hz)
  obtain ⟨w0, hw0⟩ : ∃ w0, w.alloc (.cells #[.int .i64 10, .int .i64 6, .int .i64 60, .int .i64 5] 43) = w0 := ⟨_, rfl⟩
  rw [hw0] at NW1 hb0
  have HW0 := Lib.hid hw0; have NW1 := Lib.hid NW1; have K0 := Lib.hid hb0
  have A1 := Lib.hid A1; have A2 := Lib.hid A2; have A3 := Lib.hid A3
  clear n1 n2 n3 n4 a1 a2 a3 NW hw0 hb0
  go_enter Try.func4, Try.ntmps4
  go_wp2_with fail
  rw [HW0.out]
  refine NW1.out.mono ?_; rintro _ w1 ⟨A1', c1, rfl, h1, hb1⟩
  obtain ⟨b2, hb2, hz2⟩ := bx_new1 w1 #[.int .i64 1, .int .i64 500000, .slice A1' 2 c1] 24
  have hf2 := (h1.less (S' := [w1.heap.size]) (fun z hz => .inr (by simp at hz; omega))).below hb2
  obtain ⟨w2, hw2⟩ : ∃ w2, w1.alloc (.cells #[.int .i64 1, .int .i64 500000, .slice A1' 2 c1] 24) = w2 := ⟨_, rfl⟩
  rw [hw2] at b2 hb2 hz2 hf2
  have HW2 := Lib.hid hw2
  have ACC1 := Lib.hid (A1.out [w1.heap.size] w2 _ hf2.farS (fun z hz => by simp at hz; omega))
  have K2 := Lib.hid (bnext (bnext K0.out hb1) hb2); have B2 := Lib.hid b2
  have LE := Lib.hid (show w.heap.size ≤ w1.heap.size from by have h1 := K0.out.size; have h2 := hb1.size; omega)
  clear hw2 hb2 hz2 hf2 h1 hb1 b2
  go_wp2_with fail
  rw [HW2.out]
  refine ACC1.out.mono ?_; rintro _ w3 ⟨A3', c3, rfl, h3, hb3⟩
  have b3 := B2.out.below hb3
  obtain ⟨k0, k1, k2, k3, k4, k5⟩ := b3.three
  have b4 := b3.put3 (x' := .int .i64 1) (y' := .int .i64 500000) (z' := .slice A3' 2 c3)
  have h4 := h3.set3 (b := w1.heap.size) (by simp) (.int .i64 1) (.int .i64 500000) (.slice A3' 2 c3)
  have hb4 := below_put3 (b := w1.heap.size) (bnext K2.out hb3) LE.out (.int .i64 1) (.int .i64 500000) (.slice A3' 2 c3)
  have hlt4 : w1.heap.size < (((w3.setCell ⟨w1.heap.size, 0, none⟩ (.int .i64 1)).setCell ⟨w1.heap.size, 1, none⟩ (.int .i64 500000)).setCell ⟨w1.heap.size, 2, none⟩ (.slice A3' 2 c3)).heap.size := by have := b3.lt; simpa using this
  obtain ⟨w4, hw4⟩ : ∃ w4, ((w3.setCell ⟨w1.heap.size, 0, none⟩ (.int .i64 1)).setCell ⟨w1.heap.size, 1, none⟩ (.int .i64 500000)).setCell ⟨w1.heap.size, 2, none⟩ (.slice A3' 2 c3) = w4 := ⟨_, rfl⟩
  rw [hw4] at b4 h4 hb4 hlt4
  have HW4 := Lib.hid hw4
  have ACC2 := Lib.hid (A2.out [w1.heap.size] w4 _ h4.farS (fun z hz => by simp at hz; omega))
  have K4 := Lib.hid hb4; have B4 := Lib.hid b4
  clear hw4 hb4 hlt4 h4 b4 b3 h3 hb3
  go_wp2_with fail
  rw [HW4.out]
  refine ACC2.out.mono ?_; rintro _ w5 ⟨A5, c5, rfl, h5, hb5⟩
  clear k0 k1 k2 k3 k4 k5
  have b5 := B4.out.below hb5
  obtain ⟨k0, k1, k2, k3, k4, k5⟩ := b5.three
  have b6 := b5.put3 (x' := .int .i64 1) (y' := .int .i64 500000) (z' := .slice A5 2 c5)
  have h6 := h5.set3 (b := w1.heap.size) (by simp) (.int .i64 1) (.int .i64 500000) (.slice A5 2 c5)
  have hb6 := below_put3 (b := w1.heap.size) (bnext K4.out hb5) LE.out (.int .i64 1) (.int .i64 500000) (.slice A5 2 c5)
  have hlt6 : w1.heap.size < (((w5.setCell ⟨w1.heap.size, 0, none⟩ (.int .i64 1)).setCell ⟨w1.heap.size, 1, none⟩ (.int .i64 500000)).setCell ⟨w1.heap.size, 2, none⟩ (.slice A5 2 c5)).heap.size := by have := b5.lt; simpa using this
  obtain ⟨g, hg, hgB, hgl, hgS⟩ : ∃ g, A5 = some ⟨g, 0, none⟩ ∧ w4.heap.size ≤ g ∧ g < w5.heap.size ∧ g ∉ [w1.heap.size] := by
    obtain ⟨A0, c0, h0, hle, hg0⟩ := h5.form
    injection h0 with h0
    obtain ⟨g, hg, h⟩ := hg0 (by decide)
    exact ⟨g, h0.trans hg, h⟩
  subst hg
  obtain ⟨B9, d9, e0, e1, ho9, -, -⟩ := h5.at (k := 1) (r := (60, [(-1, 0), (-1, 0), (-1, 0), (-1, 0), (-1, 0)])) rfl rfl
  obtain ⟨b9, off9, hB9, hS9, x0, x1⟩ := slots_far ho9
  subst hB9
  have c1' : w5.cell? ⟨g, 3, none⟩ = some (.slice (some ⟨b9, off9, none⟩) 5 d9) := e1
  have n1 : w1.heap.size ≠ g := fun e => hgS (by rw [← e]; simp)
  have n2 : w1.heap.size ≠ b9 := fun e => hS9 (by rw [← e]; simp)
  have n3 : g ≠ w1.heap.size := fun e => n1 e.symm
  have n4 : b9 ≠ w1.heap.size := fun e => n2 e.symm
  obtain ⟨w6, hw6⟩ : ∃ w6, ((w5.setCell ⟨w1.heap.size, 0, none⟩ (.int .i64 1)).setCell ⟨w1.heap.size, 1, none⟩ (.int .i64 500000)).setCell ⟨w1.heap.size, 2, none⟩ (.slice (some ⟨g, 0, none⟩) 2 c5) = w6 := ⟨_, rfl⟩
  rw [hw6] at b6 h6 hb6 hlt6
  have HW6 := Lib.hid hw6
  have ACC3 := Lib.hid (A3.out [w1.heap.size] w6 _ h6.farS (fun z hz => by simp at hz; omega))
  have K6 := Lib.hid hb6; have B6 := Lib.hid b6
  clear hw6 hb6 hlt6 h6 b5 h5 hb5 ho9 b6 e0 e1 hS9 hgS
  go_wp2_with fail
  rw [HW6.out]
  refine ACC3.out.mono ?_; rintro _ w7 ⟨A7, c7, rfl, h7, hb7⟩
  clear k0 k1 k2 k3 k4 k5 x0 x1 c1' n1 n2 n3 n4
  have b7 := B6.out.below hb7
  obtain ⟨k0, k1, k2, k3, k4, k5⟩ := b7.three
  have b8 := b7.put3 (x' := .int .i64 1) (y' := .int .i64 500000) (z' := .slice A7 2 c7)
  have h8 := h7.set3 (b := w1.heap.size) (by simp) (.int .i64 1) (.int .i64 500000) (.slice A7 2 c7)
  have hb8 := below_put3 (b := w1.heap.size) (bnext K6.out hb7) LE.out (.int .i64 1) (.int .i64 500000) (.slice A7 2 c7)
  obtain ⟨g7, hg7, hgS7⟩ : ∃ g, A7 = some ⟨g, 0, none⟩ ∧ g ∉ [w1.heap.size] := by
    obtain ⟨A0, c0, h0, hle, hg0⟩ := h7.form
    injection h0 with h0
    obtain ⟨g, hg, h⟩ := hg0 (by decide)
    exact ⟨g, h0.trans hg, h.2.2⟩
  subst hg7
  obtain ⟨B10, d10, e0, e1, ho10, -, -⟩ := h7.at (k := 1) (r := (60, [(0, 2000000), (-1, 0), (-1, 0), (-1, 0), (-1, 0)])) rfl rfl
  obtain ⟨b10, off10, hB10, hS10, x0, x1⟩ := slots_far ho10
  subst hB10
  have c1' : w7.cell? ⟨g7, 3, none⟩ = some (.slice (some ⟨b10, off10, none⟩) 5 d10) := e1
  have n1 : w1.heap.size ≠ g7 := fun e => hgS7 (by rw [← e]; simp)
  have n2 : w1.heap.size ≠ b10 := fun e => hS10 (by rw [← e]; simp)
  have n3 : g7 ≠ w1.heap.size := fun e => n1 e.symm
  have n4 : b10 ≠ w1.heap.size := fun e => n2 e.symm
  have K8 := Lib.hid hb8
  clear hb8 h8 b7 h7 hb7 ho10 b8 e0 e1 hS10 hgS7
  go_wp2_with fail
  go_ret
  exact ⟨rfl, K8.out⟩
end Go.Proofs.Ytkgajlklhcmmcaa.AW
namespace Go.Proofs.Ytkgajlklhcmmcaa.AW
open Go.RowKit AP
theorem ftVals_few (m f fr un now : Int) (L : List Rg) : (ftVals m f L fr un now).length ≤ 400 := by
  unfold ftVals
  by_cases h : ftOk m f L fr un now = true
  · rw [if_pos h]
    unfold ftOk at h
    rw [Bool.and_eq_true, Bool.and_eq_true, Bool.and_eq_true, Bool.and_eq_true] at h
    obtain ⟨hR, h1, h2, h3, _⟩ := h
    have hr := (lRight_iff.1 hR).2.2 _ _ (ftR_at hR fr now)
    rw [lVals_length]
    exact (fetch_ok (s := (ftR L fr now).1) (l := (ftR L fr now).2) hr h1 h2 h3).few
  · rw [if_neg h]
    exact Nat.zero_le _
/-- What great answers. -/
def GrD (D : Value) (L : List Rg) : Prop := ∃ d, D = .bool d ∧ (d = false → L.length ≤ 3000 ∧ ∀ r ∈ L, r.2.length ≤ 3000)
set_option maxRecDepth 100000 in
set_option maxHeartbeats 4000000 in
theorem great_c (m f : Int) (v : Value) (L : List Rg) (hl : L.length ≤ 1125899906842624) (hs : ∀ r ∈ L, r.2.length ≤ 1125899906842624) (w : World) (h : RiOut w v L) :
    Calls Try.prog 5 #[.agg #[.int .i64 m, .int .i64 f, v]] w fun e w' => ∃ D, e = .returned D ∧ GrD D L ∧ Below w.heap.size w w' := by
  obtain ⟨A, c, rfl, hc, hx⟩ := id h
  obtain ⟨n, hn⟩ : ∃ n, L.length = n := ⟨_, rfl⟩
  rw [hn] at hc hl ⊢
  obtain ⟨b1, hb, hz⟩ := bx_new1 w #[.int .i64 m, .int .i64 f, .slice A n c] 24
  obtain ⟨wp, hwp⟩ : ∃ wp, w.alloc (.cells #[.int .i64 m, .int .i64 f, .slice A n c] 24) = wp := ⟨_, rfl⟩
  rw [hwp] at b1 hb hz
  obtain ⟨k0, k1, k2, -⟩ := b1.three
  have KP := Lib.hid hb; have HWP := Lib.hid hwp; have B1 := Lib.hid b1; have HX := Lib.hid hx; have HN := Lib.hid hn; have HS := Lib.hid hs; have HLL := Lib.hid hl
  clear h hn b1 hb hz hwp hx hs
  go_enter Try.func5, Try.ntmps5
  go_wp2_with fail
  rw [HWP.out]
  go_loopw [3, 4] (fun v3 v4 wr => ∃ k q : Nat, v3 = .int .i64 (q : Nat) ∧ v4 = .int .i64 (k : Nat) ∧ k ≤ n ∧ n ≤ q ∧ Hid (q ≤ 1125899906845624) ∧ Hid (∀ (j : Nat) (r : Rg), j < k → L[j]? = some r → r.2.length ≤ q) ∧ Hid (Below wp.heap.size wp wr)) (fun _ v4 _ => n - (intOf v4).toNat)
  case atStart => exact ⟨0, n, rfl, rfl, Nat.zero_le _, Nat.le_refl _, by show n ≤ _; omega, fun j r hj => absurd hj (Nat.not_lt_zero j), Below.refl _ _⟩
  case round =>
    as_aux_lemma =>
      obtain ⟨k, q, rfl, rfl, hk, hnq, HQ, HA, HI⟩ := hrel
      obtain ⟨k0, k1, k2, -⟩ := (B1.out.below HI.out).three
      by_cases hlt : k < n ∧ q ≤ 3000
      · as_aux_lemma =>
          have KW := Lib.hid (bnext KP.out HI.out)
          obtain ⟨b, off, s, l, A', c', z, rfl, hp, hq, e0, e1, ho⟩ := AP.ri_at (c := c) (fun hn => by obtain ⟨b, off, e, ha⟩ := HX.out hn; exact ⟨b, off, e, ha.below KW.out⟩) HN.out hlt.1
          have hz : z ≤ 1125899906842624 := by rw [← hq]; exact HS.out _ (List.mem_of_getElem? hp)
          have hki : (k : Int) < (n : Int) := by omega
          have hqi : (q : Int) ≤ 3000 := by omega
          have hw : IntKind.i64.wrap ((q : Int) + (z : Int)) = ((q + z : Nat) : Int) := by rw [IntKind.wrap_i64]; omega
          have HA2 := Lib.hid (show ∀ (j : Nat) (r : Rg), j < k + 1 → L[j]? = some r → r.2.length ≤ q + z from fun j r hj hr => by
            by_cases e : j = k
            · subst e
              rw [hp] at hr
              obtain rfl := Option.some.inj hr
              show l.length ≤ q + z
              omega
            · have := HA.out j r (by omega) hr
              omega)
          have HQ2 := Lib.hid (show q + z ≤ 1125899906845624 by omega)
          have hkc : (k : Int) < (c : Int) := by omega
          have i0 : (0 : Int) ≤ (k : Int) := by omega
          clear hp hq ho hz
          go_wp2
          go_roundw
          case rel => exact ⟨k + 1, q + z, rfl, by go_num, by omega, by omega, HQ2.out, HA2.out, HI.out⟩
          case measure => first | (simp [intOf]; done) | (simp [intOf]; omega)
      · have KW := Lib.hid (bnext KP.out HI.out)
        have HD := Lib.hid (show decide ((3000 : Int) < (q : Int)) = false → n ≤ 3000 ∧ ∀ r ∈ L, r.2.length ≤ 3000 from fun h => by
          have h3 : ¬ (3000 : Int) < (q : Int) := of_decide_eq_false h
          refine ⟨by omega, fun r hr => ?_⟩
          obtain ⟨j, hj⟩ := List.getElem?_of_mem hr
          have hjl := (List.getElem?_eq_some_iff.1 hj).1
          have hn := HN.out
          have := HA.out j r (by omega) hj
          omega)
        by_cases hk2 : k < n
        · as_aux_lemma =>
            have hki : (k : Int) < (n : Int) := by omega
            have hqi : ¬ (q : Int) ≤ 3000 := by omega
            have hq3 : (3000 : Int) < (q : Int) := by omega
            rw [decide_eq_true hq3] at HD
            go_wp2
            go_ret
            exact ⟨_, rfl, ⟨true, rfl, fun h => absurd h (by decide)⟩, KW.out⟩
        · as_aux_lemma =>
            have hki : ¬ (k : Int) < (n : Int) := by omega
            obtain ⟨d, hd⟩ : ∃ d, decide ((3000 : Int) < (q : Int)) = d := ⟨_, rfl⟩
            rw [hd] at HD
            go_wp2
            go_ret
            exact ⟨_, rfl, ⟨d, by first | rfl | (rw [← hd]; rfl) | (simp [hd]; done), by rw [HN.out]; exact HD.out⟩, KW.out⟩
set_option maxRecDepth 100000 in
set_option maxHeartbeats 8000000 in
theorem ladderFetches_c (m f fr un now : Int) (v : Value) (L : List Rg) (hl : L.length ≤ 1125899906842624) (hs : ∀ r ∈ L, r.2.length ≤ 1125899906842624) (w : World) (o : RiOut w v L) :
    Calls Try.prog 3 #[.agg #[.int .i64 m, .int .i64 f, v], .agg #[.int .i64 fr, .int .i64 un, .int .i64 now]] w fun e w' => e = .returned (.bool true) ∧ Below w.heap.size w w' := by
  obtain ⟨A, c, hv, hc, -⟩ := id o
  obtain ⟨n, hn⟩ : ∃ n, L.length = n := ⟨_, rfl⟩
  rw [hn] at hv hc
  obtain ⟨b1, b2, hb, hz⟩ := bx_new2 w #[.int .i64 m, .int .i64 f, v] #[.int .i64 fr, .int .i64 un, .int .i64 now] 24 26
  obtain ⟨wp, hwp⟩ : ∃ wp, (w.alloc (.cells #[.int .i64 m, .int .i64 f, v] 24)).alloc (.cells #[.int .i64 fr, .int .i64 un, .int .i64 now] 26) = wp := ⟨_, rfl⟩
  rw [hwp] at b1 b2 hb hz
  have AL := Lib.hid (fun W => alive_c W)
  have HO := Lib.hid o; have HN := Lib.hid hn; have KP := Lib.hid hb; have HWP := Lib.hid hwp; have BA := Lib.hid b1; have BB := Lib.hid b2
  have GR := Lib.hid (fun (W : World) (hB : Below w.heap.size w W) => great_c m f v L hl hs W (o.below hB))
  clear o hn hb hwp b1 b2 hz hl hs
  subst hv
  go_enter Try.func3, Try.ntmps3
  go_wp2_with fail
  rw [HWP.out]
  refine (AL.out _).mono ?_; rintro _ w1 ⟨rfl, hb1⟩
  have K1 := Lib.hid (bnext KP.out hb1)
  have A1 := Lib.hid (BA.out.below hb1); have B1 := Lib.hid (BB.out.below hb1)
  obtain ⟨k0, k1, k2, -⟩ := A1.out.three
  have GR1 := Lib.hid (GR.out w1 K1.out)
  clear hb1 AL GR
  go_wp2_with fail
  refine GR1.out.mono ?_; rintro _ w2 ⟨D, rfl, ⟨d, rfl, hd⟩, hb2⟩
  have K2 := Lib.hid (bnext K1.out hb2)
  have A2 := Lib.hid (A1.out.below hb2); have B2 := Lib.hid (B1.out.below hb2)
  clear k0 k1 k2 hb2 GR1
  cases d with
  | true =>
    as_aux_lemma =>
      go_wp2
      go_ret
      exact ⟨rfl, K2.out⟩
  | false =>
    as_aux_lemma =>
      obtain ⟨hl3, hs3⟩ := hd rfl
      obtain ⟨k0, k1, k2, -⟩ := A2.out.three
      have CP := Lib.hid (AR.copy_c [] m f _ L (by omega) (fun r hr => by have := hs3 r hr; omega) w2 (HO.out.below K2.out) (fun z hz => by cases hz))
      have HL3 := Lib.hid hl3; have HS3 := Lib.hid hs3
      clear hd hl3 hs3
      go_wp2_with fail
      refine CP.out.mono ?_; rintro _ w3 ⟨A5, c5, rfl, hN5, hb3⟩
      rw [HN.out] at hN5 ⊢
      obtain ⟨bx4, hb4, hz4⟩ := bx_new1 w3 #[.int .i64 m, .int .i64 f, .slice A5 n c5] 24
      have R4 := Lib.hid (hN5.out.below hb4)
      obtain ⟨w4, hw4⟩ : ∃ w4, w3.alloc (.cells #[.int .i64 m, .int .i64 f, .slice A5 n c5] 24) = w4 := ⟨_, rfl⟩
      rw [hw4] at bx4 hb4 hz4 R4
      have hb34 := bnext hb3 hb4
      have K4 := Lib.hid (bnext K2.out hb34)
      have A4 := Lib.hid (A2.out.below hb34); have B4 := Lib.hid (B2.out.below hb34); have C4 := Lib.hid bx4; have HW4 := Lib.hid hw4
      obtain ⟨k0, k1, k2, -⟩ := A4.out.three
      obtain ⟨l0, l1, l2, -⟩ := B4.out.three
      obtain ⟨q0, q1, q2, -⟩ := C4.out.three
      obtain ⟨S, hS⟩ : ∃ S, ftStart m f L fr un now = S := ⟨_, rfl⟩
      obtain ⟨T, hT⟩ : ∃ T, ftStep m f L fr un now = T := ⟨_, rfl⟩
      obtain ⟨V, hV⟩ : ∃ V, ftVals m f L fr un now = V := ⟨_, rfl⟩
      obtain ⟨E, hE⟩ : ∃ E, ftE m f L fr un now = E := ⟨_, rfl⟩
      have F1 := fun (W : World) (hr : RiOut W (.slice A5 n c5) L) => AP.fetch_c m f fr un now (.slice A5 n c5) L (by have := HL3.out; omega) (fun r hr => by have := HS3.out r hr; omega) W hr
      have F2 := fun (W : World) (hB : Below w.heap.size w W) => AR.fetch_c m f fr un now (.slice A n c) L (by have := HL3.out; omega) (fun r hr => by have := HS3.out r hr; omega) W (HO.out.below hB)
      rw [hS, hT, hV, hE] at F1 F2
      have hfew := ftVals_few m f fr un now L
      rw [hV] at hfew
      obtain ⟨z, hz⟩ : ∃ z, V.length = z := ⟨_, rfl⟩
      rw [hz] at F1 F2 hfew
      have HZ := Lib.hid hz
      have G1 := Lib.hid (F1 w4 R4.out); have G2 := Lib.hid F2
      rw [← HW4.out] at k0 k1 k2 l0 l1 l2 q0 q1 q2
      clear hS hT hV hE F1 F2 hz bx4 hb4 hz4 hw4 hb3 hb34 hN5 CP
      go_wp2_with fail
      rw [HW4.out]
      refine G1.out.mono ?_; rintro _ w5 ⟨A6, c6, rfl, hn6, hb5⟩
      obtain ⟨bx6, hb6, hz6⟩ := bx_new1 w5 #[.string (ByteArray.mk #[]), .int .i64 S, .int .i64 T, .slice A6 z c6] 32
      have hb46 := bnext hb5 hb6
      have N6 := Lib.hid ((NuNew.out hn6).below hb6)
      obtain ⟨w6, hw6⟩ : ∃ w6, w5.alloc (.cells #[.string (ByteArray.mk #[]), .int .i64 S, .int .i64 T, .slice A6 z c6] 32) = w6 := ⟨_, rfl⟩
      rw [hw6] at bx6 hb6 hz6 N6 hb46
      have K6 := Lib.hid (bnext K4.out hb46)
      have A6' := Lib.hid (A4.out.below hb46); have B6 := Lib.hid (B4.out.below hb46); have C6 := Lib.hid (C4.out.below hb46); have D6 := Lib.hid bx6; have R6 := Lib.hid (R4.out.below hb46); have HW6 := Lib.hid hw6
      clear k0 k1 k2 l0 l1 l2 q0 q1 q2
      obtain ⟨k0, k1, k2, -⟩ := A6'.out.three
      obtain ⟨l0, l1, l2, -⟩ := B6.out.three
      have G26 := Lib.hid (G2.out w6 K6.out)
      rw [← HW6.out] at k0 k1 k2 l0 l1 l2
      clear hn6 hb5 bx6 hb6 hz6 hw6 hb46 G1 G2
      go_wp2_with fail
      rw [HW6.out]
      refine G26.out.mono ?_; rintro _ w7 ⟨A8, c8, rfl, hn8, hb7⟩
      obtain ⟨bx8, hb8, hz8⟩ := bx_new1 w7 #[.string (ByteArray.mk #[]), .int .i64 S, .int .i64 T, .slice A8 z c8] 32
      have hb68 := bnext hb7 hb8
      have N8 := Lib.hid ((NuNew.out hn8).below hb8)
      obtain ⟨w8, hw8⟩ : ∃ w8, w7.alloc (.cells #[.string (ByteArray.mk #[]), .int .i64 S, .int .i64 T, .slice A8 z c8] 32) = w8 := ⟨_, rfl⟩
      rw [hw8] at bx8 hb8 hz8 N8 hb68
      have K8 := Lib.hid (bnext K6.out hb68)
      have A8' := Lib.hid (A6'.out.below hb68); have B8 := Lib.hid (B6.out.below hb68); have C8 := Lib.hid (C6.out.below hb68); have D8 := Lib.hid (D6.out.below hb68); have E8 := Lib.hid bx8; have R8 := Lib.hid (R6.out.below hb68); have M8 := Lib.hid (N6.out.below hb68); have HW8 := Lib.hid hw8
      obtain ⟨P, hP⟩ : ∃ P, lPick m f L fr now = P := ⟨_, rfl⟩
      have SS := fun (p : Laid w8) => AR.sameSeries_c S T A6 A8 c6 c8 V (by rw [HZ.out]; omega) p.W (by rw [HZ.out]; exact M8.out.below p.h) (by rw [HZ.out]; exact N8.out.below p.h)
      have P1 := fun (p : Laid w8) => AP.pick_c m f fr now (.slice A5 n c5) L (by have := HL3.out; omega) (fun r hr => by have := HS3.out r hr; omega) p.W (R8.out.below p.h)
      have P2 := fun (p : Laid w8) => AR.pick_c m f fr now (.slice A n c) L (by have := HL3.out; omega) (fun r hr => by have := HS3.out r hr; omega) p.W (HO.out.below (bnext K8.out p.h))
      have SM := fun (p : Laid w8) => AR.same_self m f (.slice A5 n c5) (.slice A n c) L (by have := HL3.out; omega) (fun r hr => by have := HS3.out r hr; omega) p.W (R8.out.below p.h) (HO.out.below (bnext K8.out p.h))
      rw [HZ.out] at SS
      rw [hP] at P1 P2
      have HSS := Lib.hid SS; have HP1 := Lib.hid P1; have HP2 := Lib.hid P2; have HSM := Lib.hid SM
      obtain ⟨gd, hgd⟩ : ∃ gd, w5.heap.size = gd := ⟨_, rfl⟩
      obtain ⟨ge, hge⟩ : ∃ ge, w7.heap.size = ge := ⟨_, rfl⟩
      obtain ⟨gc, hgc⟩ : ∃ gc, w3.heap.size = gc := ⟨_, rfl⟩
      have Y0 : ∀ p : Laid w8, p.W.cell? ⟨w.heap.size, 0, none⟩ = some (.int .i64 m) := fun p => cellb p.h (A8'.out.cells 0 _ rfl).1
      have Y1 : ∀ p : Laid w8, p.W.cell? ⟨w.heap.size, 1, none⟩ = some (.int .i64 f) := fun p => cellb p.h (A8'.out.cells 1 _ rfl).1
      have Y2 : ∀ p : Laid w8, p.W.cell? ⟨w.heap.size, 2, none⟩ = some (.slice A n c) := fun p => cellb p.h (A8'.out.cells 2 _ rfl).1
      have Y3 : ∀ p : Laid w8, p.W.cell? ⟨w.heap.size + 1, 0, none⟩ = some (.int .i64 fr) := fun p => cellb p.h (B8.out.cells 0 _ rfl).1
      have Y4 : ∀ p : Laid w8, p.W.cell? ⟨w.heap.size + 1, 2, none⟩ = some (.int .i64 now) := fun p => cellb p.h (B8.out.cells 2 _ rfl).1
      have Y5 : ∀ p : Laid w8, p.W.cell? ⟨w3.heap.size, 0, none⟩ = some (.int .i64 m) := fun p => cellb p.h (C8.out.cells 0 _ rfl).1
      have Y6 : ∀ p : Laid w8, p.W.cell? ⟨w3.heap.size, 1, none⟩ = some (.int .i64 f) := fun p => cellb p.h (C8.out.cells 1 _ rfl).1
      have Y7 : ∀ p : Laid w8, p.W.cell? ⟨w3.heap.size, 2, none⟩ = some (.slice A5 n c5) := fun p => cellb p.h (C8.out.cells 2 _ rfl).1
      have Y8 : ∀ p : Laid w8, p.W.cell? ⟨w5.heap.size, 0, none⟩ = some (.string (ByteArray.mk #[])) := fun p => cellb p.h (D8.out.cells 0 _ rfl).1
      have Y9 : ∀ p : Laid w8, p.W.cell? ⟨w5.heap.size, 1, none⟩ = some (.int .i64 S) := fun p => cellb p.h (D8.out.cells 1 _ rfl).1
      have Y10 : ∀ p : Laid w8, p.W.cell? ⟨w5.heap.size, 2, none⟩ = some (.int .i64 T) := fun p => cellb p.h (D8.out.cells 2 _ rfl).1
      have Y11 : ∀ p : Laid w8, p.W.cell? ⟨w5.heap.size, 3, none⟩ = some (.slice A6 z c6) := fun p => cellb p.h (D8.out.cells 3 _ rfl).1
      have Y12 : ∀ p : Laid w8, p.W.cell? ⟨w7.heap.size, 0, none⟩ = some (.string (ByteArray.mk #[])) := fun p => cellb p.h (E8.out.cells 0 _ rfl).1
      have Y13 : ∀ p : Laid w8, p.W.cell? ⟨w7.heap.size, 1, none⟩ = some (.int .i64 S) := fun p => cellb p.h (E8.out.cells 1 _ rfl).1
      have Y14 : ∀ p : Laid w8, p.W.cell? ⟨w7.heap.size, 2, none⟩ = some (.int .i64 T) := fun p => cellb p.h (E8.out.cells 2 _ rfl).1
      have Y15 : ∀ p : Laid w8, p.W.cell? ⟨w7.heap.size, 3, none⟩ = some (.slice A8 z c8) := fun p => cellb p.h (E8.out.cells 3 _ rfl).1
      have hz400 : (z : Int) ≤ 400 := by omega
      clear k0 k1 k2 l0 l1 l2 hn8 hb7 bx8 hb8 hz8 hw8 hb68 G26 SS P1 P2 SM hP hgd hge hgc
      go_wp2_with fail
      rw [HW8.out]
      refine wp_region_laid (by kernel_rfl) (by kernel_rfl) ?_
      repeat (go_big_quiet_step (first
        | (go_at_call 9; with_reducible exact Calls.laid (HSS.out _))
        | (go_at_call 10; with_reducible exact Calls.laid (HP1.out _))
        | (go_at_call 11; with_reducible exact Calls.laid (HP2.out _))
        | (go_at_call 12; with_reducible exact Calls.laid (HSM.out _))))
      refine wpQuiet_nil ?_
      intro _ hw'
      obtain ⟨pq, hw''⟩ := hw'
      subst hw''
      go_wp2
      go_ret
      exact ⟨rfl, bnext K8.out pq.h⟩
end Go.Proofs.Ytkgajlklhcmmcaa.AW
namespace Go.Proofs.Ytkgajlklhcmmcaa
open Go.ChangeShapes Go.WideShapes Go.ChangeAt Go.RowKit Go.Joins Go.Deep
/-- No block of a reading is greater than memory bears. -/
def Light {H : Type} (P : Program) (t : TypeId) (d : DataW H) : Prop := ∀ n ∈ DataW.weights P t d, n ≤ reachBytes
theorem weightsAll_mem {H : Type} {P : Program} {e : TypeId} : ∀ {l : List (DataW H)} {d : DataW H}, d ∈ l → ∀ n ∈ DataW.weights P e d, n ∈ DataW.weightsAll P e l
  | x :: l, d, h, n, hn => by
    simp only [DataW.weightsAll, List.mem_append]
    rcases List.mem_cons.1 h with rfl | h
    · exact .inl hn
    · exact .inr (weightsAll_mem h n hn)
theorem light_of {H : Type} {P : Program} {ts : List TypeId} {ds : List (DataW H)} {j : Nat} {t : TypeId} {d : DataW H} (h : (DataW.weightsEach P ts ds).all (· ≤ reachBytes) = true) (ht : ts[j]? = some t) (hd : ds[j]? = some d) : Light P t d := fun n hn => by
  simpa using List.all_eq_true.1 h n (DataW.weights_mem_each ht hd n hn)
section
variable {H : Type} {enc : TypeId × Value → H} {P : Program} {w : World} {base : Nat} {sp : Nat → Bool} {held : Bool}
/-- A row of things of k cells each, out of its reading. -/
theorem row_inW {α : Type} {t e : TypeId} {k : Nat} {n : Nat} {v : Value} {y : DataW H × List MemPlace} (R : α → List Value → Prop) (ht : P.underlying t = some (.slice e)) (hk : P.cellsOf e = k) (hk0 : 0 < k) (hL : Light P t y.1)
    (hR : ∀ (m : Nat) (cs : List Value) (z : DataW H × List MemPlace), DataW.trod enc P w base sp held m e cs = some z → cs.length = k → Light P e z.1 → ∃ x, R x cs)
    (h : DataW.trod enc P w base sp held n t [v] = some y) :
    ∃ (A : Option Addr) (len cap : Nat) (l : List α), v = .slice A len cap ∧ len ≤ cap ∧ len ≤ 9223372036854775807 ∧ len * P.bytesOf e ≤ reachBytes ∧ l.length = len ∧ (0 < len → ∃ b off, A = some ⟨b, off, none⟩ ∧ ∀ i x, l[i]? = some x → ∃ cs, cs.length = k ∧ R x cs ∧ ∀ j u, cs[j]? = some u → w.cell? ⟨b, off + i * k + j, none⟩ = some u) := by
  rcases open_slice ht h with ⟨hcs, _⟩ | ⟨a, len, cap, m, n', D, Pl, hcs, hb, hl, hm, hmm, hy, hi⟩
  · exact ⟨none, 0, 0, [], by simpa using hcs, Nat.le_refl _, Nat.zero_le _, by rw [Nat.zero_mul]; exact Nat.zero_le _, rfl, fun h => absurd h (Nat.lt_irrefl _)⟩
  · have hv : v = .slice (some a) len cap := by simpa using hcs
    have hlm : len ≤ m := by rw [hmm]; split <;> omega
    rw [hy] at hL
    have hLb : len * P.bytesOf e ≤ reachBytes := by
      have := hL ((len + (m - len)) * P.bytesOf e) (by simp [DataW.weights, ht])
      exact Nat.le_trans (Nat.mul_le_mul_right _ (Nat.le_add_right _ _)) this
    have hLi : ∀ i, i < len → Light P e (D i) := fun i hil n hn => hL n (by
      unfold DataW.weights
      rw [ht]
      simp only [List.mem_cons, List.mem_append]
      exact .inr (.inl (weightsAll_mem (List.mem_map.2 ⟨i, List.mem_range.2 hil, rfl⟩) n hn)))
    obtain ⟨l, hl2, hr⟩ := rows_exist len (fun i (x : α) => ∃ cs : List Value, cs.length = k ∧ R x cs ∧ ∀ j u, cs[j]? = some u → w.cell? ((a.add (i * k)).add j) = some u) (fun i hil => by
      obtain ⟨cs, hc, hd⟩ := hi i (by omega)
      rw [hk] at hc
      obtain ⟨_, hcl, hat⟩ := World.cells?_some hc
      obtain ⟨x, hx⟩ := hR _ _ _ hd hcl (hLi i hil)
      refine ⟨x, cs, hcl, hx, fun j u hu => ?_⟩
      have hj : j < k := by rw [← hcl]; exact (List.getElem?_eq_some_iff.1 hu).1
      rw [hat j hj, hu])
    refine ⟨some a, len, cap, l, hv, hl, by unfold maxLen at hm; omega, hLb, hl2, fun h0 => ?_⟩
    obtain ⟨cs0, hk1, _, hc0⟩ := hr 0 _ (List.getElem?_eq_getElem (by omega))
    have h0c := hc0 0 _ (List.getElem?_eq_getElem (by omega))
    obtain ⟨b, off, spot⟩ := a
    have hspot : spot = none := by
      have := World.cell?_spot h0c
      simpa [Addr.add] using this
    subst hspot
    refine ⟨b, off, rfl, fun i x hx => ?_⟩
    obtain ⟨cs, h1, h2, h3⟩ := hr i x hx
    refine ⟨cs, h1, h2, fun j u hu => ?_⟩
    have := h3 j u hu
    have e : ((⟨b, off, none⟩ : Addr).add (i * k)).add j = ⟨b, off + i * k + j, none⟩ := by unfold Addr.add; split <;> split <;> simp_all [Nat.add_assoc]
    rwa [e] at this
end
section
variable {H : Type} {enc : TypeId × Value → H} {w : World} {base : Nat} {sp : Nat → Bool} {held : Bool}
theorem field_inW {n : Nat} {t : TypeId} {fs : Array Field} {cs : List Value} {y : DataW H × List MemPlace} (ht : Try.prog.underlying t = some (.struct fs)) (h : DataW.trod enc Try.prog w base sp held n t cs = some y) (hL : Light Try.prog t y.1) (i : Nat) (f : Field) (hf : fs[i]? = some f) (c : Value)
    (hk : Try.prog.cellsOf f.type = 1) (hc : (cs.drop f.offset).take 1 = [c]) : ∃ m z, DataW.trod enc Try.prog w base sp held m f.type [c] = some z ∧ Light Try.prog f.type z.1 := by
  obtain ⟨xs, m, _, hy, _, hl, hg⟩ := DataW.trod_struct ht h
  have h1 := hg i f hf
  rw [hk, hc] at h1
  have hi : i < fs.size := (Array.getElem?_eq_some_iff.1 hf).1
  have hxs : xs[i]? = some (xs[i]'(by omega)) := List.getElem?_eq_getElem (by omega)
  refine ⟨m, _, h1.trans hxs, fun k hk2 => hL k ?_⟩
  rw [hy]
  unfold DataW.weights
  rw [ht]
  refine DataW.weights_mem_each (j := i) (t := f.type) (d := (xs[i]'(by omega)).1) ?_ ?_ k hk2
  · rw [List.getElem?_map, Array.getElem?_toList, hf]; rfl
  · rw [List.getElem?_map, hxs]; rfl
/-- A row of slots, read. -/
theorem slots_inW {n : Nat} {v : Value} {y : DataW H × List MemPlace} (h : DataW.trod enc Try.prog w base sp held n 51 [v] = some y) (hL : Light Try.prog 51 y.1) : ∃ l : List (Int × Int), RgOut w v l ∧ l.length ≤ 1125899906842624 := by
  obtain ⟨A, len, cap, l, rfl, hc, hl, hb, hll, hx⟩ := row_inW (α := Int × Int) (fun g cs => cs = [.int .i64 g.1, .int .i64 g.2]) Try.underlying51 (k := 2) (by kernel_rfl) (by decide) hL (fun m cs z hz hk hLz => by
    match cs, hk with
    | [c0, c1], _ =>
      obtain ⟨_, _, g0⟩ := field_in Try.underlying50 hz 0 _ rfl c0 (by kernel_rfl) rfl
      obtain ⟨_, _, g1⟩ := field_in Try.underlying50 hz 1 _ rfl c1 (by kernel_rfl) rfl
      obtain ⟨x0, rfl, _⟩ := int_is Try.underlying3 g0
      obtain ⟨x1, rfl, _⟩ := int_is Try.underlying2 g1
      exact ⟨(x0, x1), rfl⟩) h
  have h2 : Try.prog.bytesOf 50 = 16 := by kernel_rfl
  have h3 : reachBytes = 140737488351232 := by decide
  rw [h2, h3] at hb
  refine ⟨l, ⟨A, cap, by rw [hll], by omega, fun hn => ?_⟩, by omega⟩
  obtain ⟨b, off, hA, hf⟩ := hx (by rw [← hll]; exact List.length_pos_iff.2 hn)
  refine ⟨b, off, hA, fun k g hk => ?_⟩
  obtain ⟨cs, _, rfl, hcell⟩ := hf k g hk
  exact ⟨hcell 0 _ rfl, hcell 1 _ rfl⟩
/-- A row of rings, read. -/
theorem rings_inW {n : Nat} {v : Value} {y : DataW H × List MemPlace} (h : DataW.trod enc Try.prog w base sp held n 22 [v] = some y) (hL : Light Try.prog 22 y.1) : ∃ L : List Rg, RiOut w v L ∧ L.length ≤ 1125899906842624 ∧ ∀ r ∈ L, r.2.length ≤ 1125899906842624 := by
  obtain ⟨A, len, cap, l, rfl, hc, hl, hb, hll, hx⟩ := row_inW (α := Rg) (fun r cs => r.2.length ≤ 1125899906842624 ∧ ∃ u, cs = [.int .i64 r.1, u] ∧ RgOut w u r.2) Try.underlying22 (k := 2) (by kernel_rfl) (by decide) hL (fun m cs z hz hk hLz => by
    match cs, hk with
    | [c0, c1], _ =>
      obtain ⟨_, _, g0⟩ := field_in Try.underlying53 hz 0 _ rfl c0 (by kernel_rfl) rfl
      obtain ⟨_, _, g1, l1⟩ := field_inW Try.underlying53 hz hLz 1 _ rfl c1 (by kernel_rfl) rfl
      obtain ⟨x0, rfl, _⟩ := int_is Try.underlying3 g0
      obtain ⟨l, hl, hll⟩ := slots_inW g1 l1
      exact ⟨(x0, l), hll, c1, rfl, hl⟩) h
  have h2 : Try.prog.bytesOf 53 = 32 := by kernel_rfl
  have h3 : reachBytes = 140737488351232 := by decide
  rw [h2, h3] at hb
  refine ⟨l, ⟨A, cap, by rw [hll], by omega, fun hn => ?_⟩, by omega, fun r hr => ?_⟩
  · obtain ⟨b, off, hA, hf⟩ := hx (by rw [← hll]; exact List.length_pos_iff.2 hn)
    refine ⟨b, off, hA, fun k r hk => ?_⟩
    obtain ⟨cs, _, ⟨_, u, rfl, hu⟩, hcell⟩ := hf k r hk
    obtain ⟨A', c', rfl, _⟩ := id hu
    exact ⟨A', c', hcell 0 _ rfl, hcell 1 _ rfl, hu⟩
  · obtain ⟨i, hi⟩ := List.getElem?_of_mem hr
    have h0 : 0 < len := by have := (List.getElem?_eq_some_iff.1 hi).1; omega
    obtain ⟨_, _, _, hf⟩ := hx h0
    obtain ⟨_, _, ⟨h1, _⟩, _⟩ := hf i r hi
    exact h1
set_option maxRecDepth 100000 in
/-- A ladder, read. -/
theorem open_ladder {r : Reach} {b0 : Nat} {v : Value} {d : DataW H} {ps : List MemPlace} (hval : Value.okWide Try.prog w r b0 24 v) (hd : DataW.Trod enc Try.prog w base sp held 24 v d ps) (hL : Light Try.prog 24 d) :
    ∃ (m f : Int) (u : Value) (L : List Rg), v = .agg #[.int .i64 m, .int .i64 f, u] ∧ RiOut w u L ∧ L.length ≤ 1125899906842624 ∧ ∀ r ∈ L, r.2.length ≤ 1125899906842624 := by
  obtain ⟨cs, rfl, hsz⟩ := okWide_struct Try.underlying24 hval
  have h2 : Try.prog.cellsOf 24 = 3 := by kernel_rfl
  obtain ⟨l⟩ := cs
  match l, hsz.trans h2 with
  | [c0, c1, c2], _ =>
    obtain ⟨fuel, hf⟩ := hd
    obtain ⟨_, _, g0⟩ := field_in Try.underlying24 hf 0 _ rfl c0 (by kernel_rfl) rfl
    obtain ⟨_, _, g1⟩ := field_in Try.underlying24 hf 1 _ rfl c1 (by kernel_rfl) rfl
    obtain ⟨_, _, g2, l2⟩ := field_inW Try.underlying24 hf hL 2 _ rfl c2 (by kernel_rfl) rfl
    obtain ⟨m, rfl, _⟩ := int_is Try.underlying3 g0
    obtain ⟨f, rfl, _⟩ := int_is Try.underlying2 g1
    obtain ⟨L, h1, h2, h3⟩ := rings_inW g2 l2
    exact ⟨m, f, c2, L, rfl, h1, h2, h3⟩
set_option maxRecDepth 100000 in
/-- Three numbers, read. -/
theorem open_span {r : Reach} {b0 : Nat} {v : Value} {d : DataW H} {ps : List MemPlace} (hval : Value.okWide Try.prog w r b0 26 v) (hd : DataW.Trod enc Try.prog w base sp held 26 v d ps) :
    ∃ (x y z : Int), v = .agg #[.int .i64 x, .int .i64 y, .int .i64 z] := by
  obtain ⟨cs, rfl, hsz⟩ := okWide_struct Try.underlying26 hval
  have h2 : Try.prog.cellsOf 26 = 3 := by kernel_rfl
  obtain ⟨l⟩ := cs
  match l, hsz.trans h2 with
  | [c0, c1, c2], _ =>
    obtain ⟨fuel, hf⟩ := hd
    obtain ⟨_, _, g0⟩ := field_in Try.underlying26 hf 0 _ rfl c0 (by kernel_rfl) rfl
    obtain ⟨_, _, g1⟩ := field_in Try.underlying26 hf 1 _ rfl c1 (by kernel_rfl) rfl
    obtain ⟨_, _, g2⟩ := field_in Try.underlying26 hf 2 _ rfl c2 (by kernel_rfl) rfl
    obtain ⟨x, rfl, _⟩ := int_is Try.underlying3 g0
    obtain ⟨y, rfl, _⟩ := int_is Try.underlying3 g1
    obtain ⟨z, rfl, _⟩ := int_is Try.underlying3 g2
    exact ⟨x, y, z, rfl⟩
end
end Go.Proofs.Ytkgajlklhcmmcaa
namespace Go.Proofs.Ytkgajlklhcmmcaa
open Go.ChangeShapes Go.WideShapes Go.ChangeAt Go.RowKit Go.Joins

set_option maxRecDepth 100000 in
theorem ladderFetches_lifted (os : Os) (started : os.Started) (H : Type) (enc : TypeId × Value → H) :
    ReturnsInHanded {} Try.checked os 3 .any (Rows.ladderFetchesSpec.pre6 enc Try.prog Try.f3 Rows.ladderFetchesRow.domain false) (Rows.ladderFetchesSpec.post enc Try.prog Try.f3 false true false false) := by
  refine returns_plain (C := Try.checked) own started (by kernel_rfl) Try.func3
    (ChangeSpec.witness6 (enc := enc) (C := Try.checked) false ⟨#[], #[.agg #[.int .i64 0, .int .i64 0, .slice none 0 0], .agg #[.int .i64 0, .int .i64 0, .int .i64 0]], []⟩ 8 (by kernel_rfl) (by kernel_rfl) (by kernel_rfl) (by kernel_rfl)) ?_
  intro W base args ds gs before hval0 hW hsz
  have hval : ∀ (j : Nat) t v, Try.f3.params[j]? = some t → args[j]? = some v → Value.okWide Try.prog W .any base t v := hval0
  have hW' := hW
  obtain ⟨p, q, hA0, hV, rfl, hfz, hnd⟩ := hW
  have hA : DataW.TrodAll enc Try.prog W 0 (fun _ => true) true Try.f3.params.toList args.toList ds p := hA0
  rw [Try.params3] at hA hval
  obtain ⟨v0, vs0, d0, ds0, p0, q0, hargs, rfl, rfl, h0, r0⟩ := trodAll_cons hA
  obtain ⟨v1, vs1, d1, ds1, p1, q1, rfl, rfl, rfl, h1, r1⟩ := trodAll_cons r0
  obtain ⟨rfl, rfl, rfl⟩ := trodAll_nil r1
  obtain rfl : args = #[v0, v1] := by cases args; simp_all
  obtain ⟨rfl, rfl⟩ := trodVars_none hV
  obtain ⟨m, f, u, L, rfl, hro, hl, hs⟩ := open_ladder (hval 0 24 v0 rfl rfl) h0 (light_of (j := 0) hsz rfl rfl)
  obtain ⟨x, y, z, rfl⟩ := open_span (hval 1 26 v1 rfl rfl) h1
  clear hA0 hval0
  refine (AW.ladderFetches_c m f x y z u L hl hs W hro).mono fun e W' ⟨he, hg⟩ => ?_
  subst he
  exact ⟨_, rfl, post_of_below (pa := p0 ++ (p1 ++ [])) (pv := []) hW' (fun _ _ _ => trodAll_mk1 (shut_bool Try.underlying4 _)) (fun sp hsp => (trodAll_cons_mk (WideElems.Trod_stays laid_out (by kernel_rfl) (of_decide_eq_true (by kernel_rfl)) h0 (fun x hx => hg.same (hW'.lt x (by simp [hx]))) (fun x hx => hsp x (by simp [hx]))) (trodAll_cons_mk (WideElems.Trod_stays laid_out (by kernel_rfl) (of_decide_eq_true (by kernel_rfl)) h1 (fun x hx => hg.same (hW'.lt x (by simp [hx]))) (fun x hx => hsp x (by simp [hx]))) trodAll_mk0))) (fun _ _ => rfl) (by simp)
    hg (ok_one (by kernel_rfl) rfl (okWide_bool_mk Try.underlying4 _))⟩
/-- LadderFetches, as given. -/
theorem ladderFetches_holds : Rows.LadderFetchesSaid :=
  OpenClaim.holds_of_wide 3 Try.f3 rfl rfl rfl rfl rfl rfl rfl ⟨rfl, rfl, rfl, rfl, rfl⟩ rfl rfl rfl rfl rfl (by kernel_rfl) Try.func3 (by kernel_rfl)
    (of_decide_eq_true (by kernel_rfl)) (by unfold Func.isWrapper; first | (rw [if_pos (by decide +kernel)]; kernel_rfl) | (rw [if_neg (by decide +kernel)]; exact ⟨rfl, rfl⟩))
    (fun os started H enc _ => ladderFetches_lifted os started H enc)
end Go.Proofs.Ytkgajlklhcmmcaa
