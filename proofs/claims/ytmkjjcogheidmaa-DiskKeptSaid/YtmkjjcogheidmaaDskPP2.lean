/-
  copied: the walk.
-/
import Derived.Test.YtmkjjcogheidmaaDskPP
import Derived.Deep.RegionWith
set_option linter.unusedSimpArgs false
set_option linter.unusedVariables false
namespace Go.Proofs.Ytmkjjcogheidmaa.DP
open Go.RowKit
set_option maxRecDepth 100000 in
set_option maxHeartbeats 4000000 in
theorem copied_c {S : Nat → Prop} {w : World} {D : PD} {q x : Int} {A1 A2 A3 A4 : Option Addr} {n1 c1 n2 c2 n3 c3 n4 c4 : Nat} (h : DkIn S w (.agg #[.int .i64 q, .slice A1 n1 c1, .slice A2 n2 c2, .slice A3 n3 c3, .slice A4 n4 c4, .int .i64 x]) D) :
    Calls Try.prog 30 #[.agg #[.int .i64 q, .slice A1 n1 c1, .slice A2 n2 c2, .slice A3 n3 c3, .slice A4 n4 c4, .int .i64 x]] w fun e w' => (∃ vf vn vk vm us, e = .returned (.agg #[.int .i64 q, vf, vn, vk, vm, .int .i64 x]) ∧ DkOwn w.heap.size w' vf vn vk vm us D) ∧ Below w.heap.size w w' := by
  have hL := h.lets
  have hn1 : n1 ≤ 256 := by have := h.inv.f256; rw [hL.h1] at this; exact this
  have hn2 : n2 ≤ 256 := by have := h.inv.namesFew; rw [hL.h2] at this; exact this
  have hn3 : n3 ≤ 256 := by have := h.inv.keptFew; rw [hL.h3] at this; exact this
  have hn4 : n4 ≤ 200 := by have := h.few; rw [hL.h4] at this; exact this
  have hbl : ∀ f ∈ D.files, f.bytes.length ≤ 1073741824 := fun f hf => by
    have h1 : f.bytes.length ≤ usedF D.files := le_used hf
    have := h.inv.used
    have := h.inv.quota
    omega
  obtain ⟨uo, huo, hrd, hbo⟩ := files_reads (A := A1) (c := c1) (l := D.files) (w := w) (S := S) (by rw [hL.h1]; exact hL.at_.f)
  have hcc : n1 ≤ c1 ∧ n2 ≤ c2 ∧ n3 ≤ c3 ∧ n4 ≤ c4 := by
    refine ⟨?_, ?_, ?_, ?_⟩
    · obtain ⟨_, _, e, hc, _⟩ := hL.at_.f; injection e with _ _ e; rw [e, ← hL.h1]; exact hc
    · obtain ⟨_, _, e, hc, _⟩ := hL.at_.n; injection e with _ _ e; rw [e, ← hL.h2]; exact hc
    · obtain ⟨_, _, e, hc, _⟩ := hL.at_.k; injection e with _ _ e; rw [e, ← hL.h3]; exact hc
    · obtain ⟨_, _, e, hc, _⟩ := hL.at_.m; injection e with _ _ e; rw [e, ← hL.h4]; exact hc
  have hone : ∀ p ∈ D.files.zip uo, p.2.oneCell' = true := fun p hp => by
    obtain ⟨A, c, e, _⟩ := hbo p hp
    rw [e]; rfl
  have HCF : Hid (∀ y, Below w.heap.size w y → Calls Try.prog 44 #[.slice A1 n1 c1] y fun e w' => ∃ v', e = .returned v' ∧ w'.ownsRow y.heap.size 58 3 v' n1 ((D.files.zip uo).flatMap cF) ∧ Below y.heap.size y w') := Lib.hid fun y hb => by
    rw [hL.h1] at hrd
    exact clone_files (by omega) hcc.1 ((hrd.below hb).more hb.size) (cF_one hone)
  have HCN : Hid (∀ y, Below w.heap.size w y → Calls Try.prog 41 #[.slice A2 n2 c2] y fun e w' => ∃ v', e = .returned v' ∧ w'.ownsRow y.heap.size 79 2 v' n2 (D.names.flatMap cN) ∧ Below y.heap.size y w') := Lib.hid fun y hb => by
    have hr := names_reads (A := A2) (c := c2) (l := D.names) (w := w) (by rw [hL.h2]; exact hL.at_.n)
    rw [hL.h2] at hr
    exact clone_names (by omega) hcc.2.1 ((hr.below hb).more hb.size) (cN_one _)
  have HCK : Hid (∀ y, Below w.heap.size w y → Calls Try.prog 41 #[.slice A3 n3 c3] y fun e w' => ∃ v', e = .returned v' ∧ w'.ownsRow y.heap.size 79 2 v' n3 (D.kept.flatMap cN) ∧ Below y.heap.size y w') := Lib.hid fun y hb => by
    have hr := names_reads (A := A3) (c := c3) (l := D.kept) (w := w) (by rw [hL.h3]; exact hL.at_.k)
    rw [hL.h3] at hr
    exact clone_names (by omega) hcc.2.2.1 ((hr.below hb).more hb.size) (cN_one _)
  have HCM : Hid (∀ y, Below w.heap.size w y → Calls Try.prog 45 #[.slice A4 n4 c4] y fun e w' => ∃ v', e = .returned v' ∧ w'.ownsRow y.heap.size 66 4 v' n4 (D.moves.flatMap cM) ∧ Below y.heap.size y w') := Lib.hid fun y hb => by
    have hr := moves_reads (A := A4) (c := c4) (l := D.moves) (w := w) (by rw [hL.h4]; exact hL.at_.m)
    rw [hL.h4] at hr
    exact clone_moves (by omega) hcc.2.2.2 ((hr.below hb).more hb.size) (cM_one _)
  have HBY : Hid (∀ (k : Nat) (f : PF) (u : Value), D.files[k]? = some f → uo[k]? = some u → ∃ Z d z, u = .slice Z d z ∧ f.bytes.length = d ∧ ∀ y, Below w.heap.size w y → Calls Try.prog 37 #[.slice Z d z] y fun e w' => ∃ v', e = .returned v' ∧ w'.ownsRow y.heap.size 5 1 v' d (bys f.bytes) ∧ Below y.heap.size y w') := Lib.hid fun k f u hf hu => by
    have hm : (f, u) ∈ D.files.zip uo := List.mem_of_getElem? (i := k) (by rw [List.getElem?_zip_eq_some]; exact ⟨hf, hu⟩)
    have hs := hbo _ hm
    obtain ⟨Z, z, e, hz, _⟩ := hs
    have e : u = .slice Z f.bytes.length z := e
    refine ⟨Z, _, z, e, rfl, fun y hb => ?_⟩
    have hs2 := hbo _ hm
    have hs2 : ByS S w u f.bytes := hs2
    rw [e] at hs2
    obtain ⟨h1, _, h3⟩ := by_reads (hs2.below hb)
    have h4 := hbl f (List.mem_of_getElem? hf)
    exact clone_bytes (by omega) h3 h1 (bys_one _)
  have H1 := Lib.hid hL.h1; have H2 := Lib.hid hL.h2; have H3 := Lib.hid hL.h3; have H4 := Lib.hid hL.h4
  have HUO := Lib.hid huo
  clear h hL hbl hrd hbo hcc hone huo
  go_enter Try.func30, Try.ntmps30
  go_wp2_with fail
  obtain ⟨W0, hW0⟩ : ∃ y, (w.alloc (.cells #[.int .i64 q, .slice A1 n1 c1, .slice A2 n2 c2, .slice A3 n3 c3, .slice A4 n4 c4, .int .i64 x] 29)).alloc (.cells #[.int .i64 0, .slice none 0 0, .slice none 0 0, .slice none 0 0, .slice none 0 0, .int .i64 0] 29) = y := ⟨_, rfl⟩
  have hs0 : W0.heap.size = w.heap.size + 2 := by rw [← hW0]; simp
  have a0 := alloc_below w (.cells #[.int .i64 q, .slice A1 n1 c1, .slice A2 n2 c2, .slice A3 n3 c3, .slice A4 n4 c4, .int .i64 x] 29)
  have B0 : Hid (Below w.heap.size w W0) := Lib.hid (by rw [← hW0]; exact bnext a0 (alloc_below _ _))
  have X0 : Hid (Holds W0 w.heap.size [.int .i64 q, .slice A1 n1 c1, .slice A2 n2 c2, .slice A3 n3 c3, .slice A4 n4 c4, .int .i64 x]) := Lib.hid (by rw [← hW0]; exact (holds_box w #[.int .i64 q, .slice A1 n1 c1, .slice A2 n2 c2, .slice A3 n3 c3, .slice A4 n4 c4, .int .i64 x] 29).below (alloc_below _ _))
  have V0 : Hid (DVar W0 w.heap.size 6) := Lib.hid (by rw [← hW0]; exact (DVar.alloc (w := w) #[.int .i64 q, .slice A1 n1 c1, .slice A2 n2 c2, .slice A3 n3 c3, .slice A4 n4 c4, .int .i64 x] 29).below (alloc_below _ _))
  have V1 : Hid (DVar W0 (w.heap.size + 1) 6) := Lib.hid (by
    have := DVar.alloc (w := w.alloc (.cells #[.int .i64 q, .slice A1 n1 c1, .slice A2 n2 c2, .slice A3 n3 c3, .slice A4 n4 c4, .int .i64 x] 29)) #[.int .i64 0, .slice none 0 0, .slice none 0 0, .slice none 0 0, .slice none 0 0, .int .i64 0] 29
    rw [hW0, show (w.alloc (.cells #[.int .i64 q, .slice A1 n1 c1, .slice A2 n2 c2, .slice A3 n3 c3, .slice A4 n4 c4, .int .i64 x] 29)).heap.size = w.heap.size + 1 from by simp] at this
    exact this)
  rw [hW0]
  clear hW0 a0
  refine (HCF.out _ B0.out).mono ?_
  rintro _ w1 ⟨vf, rfl, ho, hb⟩
  rw [hs0] at ho
  have X1 := Lib.hid (X0.out.below hb)
  have V2 := Lib.hid (V0.out.below hb)
  have V3 := Lib.hid (V1.out.below hb)
  have B1 := Lib.hid (bnext B0.out hb)
  have hs1 : w.heap.size + 2 ≤ w1.heap.size := by have := hb.size; omega
  have HO := Lib.hid ho
  obtain ⟨d0, d1, d2, d3, d4, d5⟩ := X1.out.six
  have f1 := V2.out.f 1 (by omega)
  have hbx : w.heap.size < w1.heap.size := by omega
  obtain ⟨A0, c0, rfl, hc0, hcm0⟩ := own_form ho
  clear ho hb hs0
  go_wp2_with fail
  go_loopw [3, 4, 12] (fun _ _ s12 wr => ∃ k : Nat, k ≤ n1 ∧ s12 = .int .i64 k ∧ Hid (∃ us, CI w wr k (.slice A0 n1 c0) q x (.slice A2 n2 c2) (.slice A3 n3 c3) (.slice A4 n4 c4) uo us D.files)) (fun _ _ s12 _ => n1 - (intOf s12).toNat)
  case atStart =>
    refine ⟨0, Nat.zero_le _, rfl, Lib.hid ⟨[], ?_, V2.out.set _, V3.out.set _, B1.out.setCell (show w.heap.size ≤ w.heap.size from Nat.le_refl _) _, by simp; exact hs1, rfl, ?_, fun p hp => absurd hp (by simp), List.pairwise_singleton _ _⟩⟩
    · intro j v hj
      by_cases e : j = 1
      · subst e
        have : v = .slice A0 n1 c0 := by simpa using hj.symm
        rw [this]
        exact World.cell?_setCell_same w1 ⟨w.heap.size, 1, none⟩ _ d1
      · rw [World.cell?_setCell_other w1 _ _ _ (fun h => e (by injection h with _ h; exact h.symm))]
        refine X1.out j v ?_
        match j, e with
        | 0, _ => exact hj
        | 2, _ => exact hj
        | 3, _ => exact hj
        | 4, _ => exact hj
        | 5, _ => exact hj
        | j + 6, _ => simp at hj
    · have := own_setCell (b := w.heap.size) (o := 1) (u := .slice A0 n1 c0) HO.out (by omega)
      rw [H1.out]
      exact this
  case round =>
    obtain ⟨k, hk, rfl, HI⟩ := hrel
    clear d0 d1 d2 d3 d4 d5 f1
    obtain ⟨us, hci⟩ := HI.out
    obtain ⟨d0, d1, d2, d3, d4, d5⟩ := hci.box.six
    have hbx2 : w.heap.size < wr.heap.size := hci.dv.lt
    by_cases hlt : k < n1
    · obtain ⟨f, hf⟩ : ∃ f, D.files[k]? = some f := ⟨_, List.getElem?_eq_getElem (by rw [H1.out]; exact hlt)⟩
      obtain ⟨u, hu⟩ : ∃ u, uo[k]? = some u := ⟨_, List.getElem?_eq_getElem (by rw [HUO.out, H1.out]; exact hlt)⟩
      obtain ⟨Z, d, z, rfl, hd, hbc⟩ := HBY.out k f u hf hu
      have hx := hci.at_k hf hu
      have hown := hci.f
      rw [H1.out] at hown
      have r0 := flat_at cF 3 (fun _ => rfl) _ k _ hx 0 (by decide)
      have r1 := flat_at cF 3 (fun _ => rfl) _ k _ hx 1 (by decide)
      have r2 := flat_at cF 3 (fun _ => rfl) _ k _ hx 2 (by decide)
      obtain ⟨g, hA0, hg1, hg2, k0, _⟩ := own_nth hown r0
      have hg2' := hg2
      obtain ⟨g', e', _, _, k1, z1⟩ := own_nth hown r1
      obtain rfl : g = g' := by rw [hA0] at e'; injection e' with e'; injection e'
      obtain ⟨g', e'', _, _, k2, _⟩ := own_nth hown r2
      obtain rfl : g = g' := by rw [hA0] at e''; injection e'' with e''; injection e''
      subst hA0
      have HF := Lib.hid hf; have HU := Lib.hid hu; have HD := Lib.hid hd
      have HCI := Lib.hid hci
      have HB := Lib.hid (fun y (hb : Below wr.heap.size wr y) => hbc y (bnext hci.below hb))
      clear hf hu hd hx hown r0 r1 r2 e' e'' hci hbc HI
      rw [Nat.add_zero] at k0
      generalize f.sure = fs at k2
      generalize f.id = fi at k0
      go_wp2_with fail
      have hg3 : g < wr.heap.size + 1 := by omega
      have hg4 : w.heap.size < wr.heap.size + 1 := by omega
      go_region_with (go_at_call 37; refine (HB.out _ ((alloc_below _ _).drew)).mono ?_; rintro e w5 ⟨u', rfl, ho, hb⟩; obtain ⟨A', c', rfl, _, _⟩ := own_form ho; have HOU : Hid (ByNew wr.heap.size w5 (.slice A' d c') f.bytes) := Lib.hid (by (have hob := own_base ho (base' := wr.heap.size) (by simp)); (unfold ByNew); (rw [HD.out]); (exact hob)); have HBU := Lib.hid (show Below wr.heap.size wr w5 from ((alloc_below wr _).drew).trans (hb.mono (by simp))); have hs5 : g < w5.heap.size := Nat.lt_of_lt_of_le hg2' HBU.out.size; have kk1 := cell_below HBU.out k1; have kf := (HBU.out.frozen (p := ⟨g, k * 3 + 1, none⟩) hg2').trans z1; have kd1 := cell_below HBU.out d1; clear ho hb)
      all_goals
        go_wp2
        go_roundw
        case rel => exact ⟨k + 1, by omega, by go_num, Lib.hid ⟨_, HCI.out.next rfl HF.out HU.out HBU.out HOU.out⟩⟩
        case measure => simp [intOf]; omega
    · obtain rfl : k = n1 := by omega
      have hn2' : D.files.take k = D.files := List.take_of_length_le (by rw [H1.out]; exact Nat.le_refl _)
      have hown := hci.f
      rw [hn2', List.drop_eq_nil_of_le (by rw [H1.out]; exact Nat.le_refl _), List.zip_nil_left, List.append_nil] at hown
      have hby := hci.by_
      rw [hn2'] at hby
      have HOF := Lib.hid hown; have HBB := Lib.hid hby; have HCI := Lib.hid hci
      have e1 := hci.dv.f 2 (by omega); have e2 := hci.dv.f 3 (by omega); have e3 := hci.dv.f 4 (by omega)
      have hsz := hci.size
      have HCNy := Lib.hid (fun y (hb : Below wr.heap.size wr y) => HCN.out y (bnext hci.below hb))
      have HCKy := Lib.hid (fun y (hb : Below wr.heap.size wr y) => HCK.out y (bnext hci.below hb))
      have HCMy := Lib.hid (fun y (hb : Below wr.heap.size wr y) => HCM.out y (bnext hci.below hb))
      clear hown hby hci HI hn2'
      go_wp2_with fail
      go_region_with (first
        | (go_at_call 41; (with_reducible refine (HCNy.out _ ((Below.refl _ _).drew)).mono ?_); rintro e w5 ⟨v2, rfl, ho, hb⟩; obtain ⟨A2', c2', rfl, _, _⟩ := own_form ho; have HO2 := Lib.hid (show w5.ownsRow wr.heap.size 79 2 (.slice A2' n2 c2') n2 (D.names.flatMap cN) from ho); have HB2 := Lib.hid (show Below wr.heap.size wr w5 from ((Below.refl _ wr).drew).trans hb); have g1 := cell_below HB2.out d2; have g2 := cell_below HB2.out d3; have g3 := cell_below HB2.out d4; have hs5 := HB2.out.size; clear ho hb)
        | (go_at_call 41; (with_reducible refine (HCKy.out _ HB2.out).mono ?_); rintro e w6 ⟨v3, rfl, ho, hb⟩; obtain ⟨A3', c3', rfl, _, _⟩ := own_form ho; have HO3 := Lib.hid ho; have HB3 := Lib.hid (bnext HB2.out hb); have HB36 := Lib.hid hb; have l1 := cell_below HB3.out d2; have l2 := cell_below HB3.out d3; have l3 := cell_below HB3.out d4; have hs6 := hb.size; clear ho hb)
        | (go_at_call 45; (with_reducible refine (HCMy.out _ HB3.out).mono ?_); rintro e w7 ⟨v4, rfl, ho, hb⟩; obtain ⟨A4', c4', rfl, _, _⟩ := own_form ho; have HO4 := Lib.hid ho; have HB4 := Lib.hid (bnext HB3.out hb); have HB47 := Lib.hid hb; have m1 := cell_below HB4.out d2; have m2 := cell_below HB4.out d3; have m3 := cell_below HB4.out d4; have p1 := (HB4.out.frozen (p := ⟨w.heap.size, 2, none⟩) hbx2).trans e1; have p2 := (HB4.out.frozen (p := ⟨w.heap.size, 3, none⟩) hbx2).trans e2; have p3 := (HB4.out.frozen (p := ⟨w.heap.size, 4, none⟩) hbx2).trans e3; have hs7 := hb.size; clear ho hb))
      all_goals
        have HFIN := Lib.hid (copied_fin HCI.out H1.out HOF.out HBB.out HB2.out HB36.out HB47.out (by rw [H2.out]; exact HO2.out) (by rw [H3.out]; exact HO3.out) (by rw [H4.out]; exact HO4.out))
        clear HCI HOF HBB HO2 HO3 HO4 HB3 HB4 HB36 HB47 g1 g2 g3 l1 l2 l3 m1 m2 m3 p1 p2 p3 d0 d1 d2 d3 d4 d5 e1 e2 e3
        generalize ((w7.setCell ⟨w.heap.size, 2, none⟩ (.slice A2' n2 c2')).setCell ⟨w.heap.size, 3, none⟩ (.slice A3' n3 c3')).setCell ⟨w.heap.size, 4, none⟩ (.slice A4' n4 c4') = W8 at HFIN ⊢
        obtain ⟨b0, b1, b2, b3, b4, b5⟩ := HFIN.out.box.six
        go_wp2_with (refine wpList_put rfl 29 _ _ rfl (w.heap.size + 1) _ rfl rfl HFIN.out.rv (by kernel_rfl) (by simp [Value.oneCell']) ?_; intro y1 hp; obtain ⟨t0, t1, t2, t3, t4, t5⟩ := hp.at_.six)
        refine bodyPost_ret (v := .agg #[.int .i64 q, .slice A0 k c0, .slice A2' n2 c2', .slice A3' n3 c3', .slice A4' n4 c4', .int .i64 x]) (by simp [results, Try.results30, go_sem, t0, t1, t2, t3, t4, t5]) rfl ⟨⟨_, _, _, _, us, rfl, (HFIN.out.own.put hp.grown (by omega)).base (by omega)⟩, HFIN.out.below.grown hp.grown HFIN.out.below.size (fun y e => by have := Option.some.inj e; omega)⟩
end Go.Proofs.Ytmkjjcogheidmaa.DP
