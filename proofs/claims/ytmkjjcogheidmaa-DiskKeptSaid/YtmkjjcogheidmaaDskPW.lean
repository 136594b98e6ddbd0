/-
  settled: the walk.
-/
import Derived.Test.YtmkjjcogheidmaaDskPV
import Derived.Deep.Cut
set_option linter.unusedSimpArgs false
set_option linter.unusedVariables false
namespace Go.Proofs.Ytmkjjcogheidmaa.DP
open Go.RowKit
set_option maxRecDepth 100000 in
set_option maxHeartbeats 2000000 in
theorem settled_c {base : Nat} {w : World} {D : PD} {q x : Int} {A1 A2 A3 A4 AN : Option Addr} {n1 c1 n2 c2 n3 c3 n4 c4 nN cN' : Nat} {us : List Value} {l : List PN} (h : SetIn base w (.slice A1 n1 c1) (.slice AN nN cN') us D.files l) (hb : base ≤ w.heap.size) (hl : l.length ≤ 1000)
    (hnd : (l.map PN.id).Nodup) (hids : ∀ n ∈ l, n.id ≤ 1099511627776) (hfid : ∀ f ∈ D.files, f.id ≤ 1099511627776) (hfl : D.files.length ≤ 1000) :
    Calls Try.prog 33 #[.agg #[.int .i64 q, .slice A1 n1 c1, .slice A2 n2 c2, .slice A3 n3 c3, .slice A4 n4 c4, .int .i64 x], .slice AN nN cN'] w (OwnRet base (pSettle D l) w q x) := by
  have hnN : l.length = nN := by obtain ⟨_, _, e, _⟩ := own_form h.n; injection e with _ e; exact e.symm
  have hn1 : D.files.length = n1 := by obtain ⟨_, _, e, _⟩ := own_form h.f; injection e with _ e; exact e.symm
  have hcN : nN ≤ cN' := by obtain ⟨_, _, e, hc, _⟩ := own_form h.n; injection e with _ _ e; omega
  have hmk := makeMap_hint nN (by omega)
  obtain ⟨W0, hW0⟩ : ∃ y, (w.alloc (.cells #[.int .i64 q, .slice A1 n1 c1, .slice A2 n2 c2, .slice A3 n3 c3, .slice A4 n4 c4, .int .i64 x] 29)).alloc (.cells #[.int .i64 0, .slice none 0 0, .slice none 0 0, .slice none 0 0, .slice none 0 0, .int .i64 0] 29) = y := ⟨_, rfl⟩
  have hB0 := boxR_of w hb #[.int .i64 q, .slice A1 n1 c1, .slice A2 n2 c2, .slice A3 n3 c3, .slice A4 n4 c4, .int .i64 x] 29
  have h00 : Below w.heap.size w W0 := by rw [← hW0]; exact (boxR_of w (Nat.le_refl _) #[.int .i64 q, .slice A1 n1 c1, .slice A2 n2 c2, .slice A3 n3 c3, .slice A4 n4 c4, .int .i64 x] 29).below
  rw [hW0] at hB0
  have hs0 : W0.heap.size = w.heap.size + 1 + 1 := by rw [← hW0]; simp
  obtain ⟨W3, hW3⟩ : ∃ y, (W0.alloc (.map #[] 0)).alloc (.cells #[.map (some (w.heap.size + 1 + 1))] 80) = y := ⟨_, rfl⟩
  have hm3 : Met W3 (w.heap.size + 1 + 1) [] := by
    have := met_made W0
    rw [hs0] at this
    rw [← hW3]
    exact this.below (alloc_below _ _)
  have hbb : Below W0.heap.size W0 W3 := by rw [← hW3]; exact bnext (alloc_below _ _) (alloc_below _ _)
  have hB3 := hB0.step hbb hb
  have hs3 : W3.heap.size = w.heap.size + 1 + 1 + 1 + 1 := by rw [← hW3]; simp [hs0]
  have hv3 : W3.cell? ⟨w.heap.size + 1 + 1 + 1, 0, none⟩ = some (.map (some (w.heap.size + 1 + 1))) := by
    have := holds_box (W0.alloc (.map #[] 0)) #[.map (some (w.heap.size + 1 + 1))] 80 0 _ rfl
    rw [show (W0.alloc (.map #[] 0)).heap.size = w.heap.size + 1 + 1 + 1 from by simp [hs0]] at this
    rw [← hW3]
    exact this
  have h3 := (h.below h00).below hbb
  -- what stays through the loop
  have HST : Hid (∀ W, W3.grownBy W (some (w.heap.size + 1 + 1)) → SetIn base W (.slice A1 n1 c1) (.slice AN nN cN') us D.files l ∧ BoxR base w W [.int .i64 q, .slice A1 n1 c1, .slice A2 n2 c2, .slice A3 n3 c3, .slice A4 n4 c4, .int .i64 x] ∧ W.cell? ⟨w.heap.size + 1 + 1 + 1, 0, none⟩ = some (.map (some (w.heap.size + 1 + 1))) ∧ w.heap.size + 1 + 1 + 1 < W.heap.size) := Lib.hid fun W hg => by
    refine ⟨h3.far hg fun v hv e => ?_, hB3.grown hg hb (fun g e => by have := Option.some.inj e; omega) (by simp), ((grown_cells hg (by omega) (fun e => by have := Option.some.inj e; omega)).1 0).trans hv3, by have := hg.size; omega⟩
    have := (h.all v hv _ e).2
    omega
  have HW : Hid ((((w.alloc (.cells #[.int .i64 q, .slice A1 n1 c1, .slice A2 n2 c2, .slice A3 n3 c3, .slice A4 n4 c4, .int .i64 x] 29)).alloc (.cells #[.int .i64 0, .slice none 0 0, .slice none 0 0, .slice none 0 0, .slice none 0 0, .int .i64 0] 29)).alloc (.map #[] 0)).alloc (.cells #[.map (some (w.heap.size + 1 + 1))] 80) = W3) := Lib.hid (by rw [hW0]; exact hW3)
  have HM := Lib.hid hm3; have HND := Lib.hid hnd; have HID := Lib.hid hids; have HN := Lib.hid hnN; have HF1 := Lib.hid hn1; have HFI := Lib.hid hfid
  have hlow : ∀ g, (Value.slice A1 n1 c1).ownBlock = some g → g < w.heap.size := fun g e => (h.f.lt g e).2
  have HLO := Lib.hid hlow
  have hlb : ∀ g, (Value.slice A1 n1 c1).ownBlock = some g → base ≤ g := fun g e => (h.f.lt g e).1
  have HLB := Lib.hid hlb
  have HOFF := Lib.hid (fun (b : Nat) (hb : w.heap.size ≤ b) => h.off hb)
  have hnN2 : nN ≤ 1000 := by omega
  have hn12 : n1 ≤ 1000 := by omega
  clear hW3 hW0 hm3 hbb hB3 hs3 hv3 h3 hB0 h00 hs0 hnd hids hnN hn1 hfid h hlow hlb hl hfl
  go_enter Try.func33, Try.ntmps33
  go_wp2
  go_loopw [7, 13] (fun _ s13 wr => ∃ k : Nat, k ≤ nN ∧ s13 = .int .i64 k ∧ Hid (Met wr (w.heap.size + 1 + 1) ((l.take k).map PN.id)) ∧ Hid (W3.grownBy wr (some (w.heap.size + 1 + 1)))) (fun _ s13 _ => nN - (intOf s13).toNat)
  case atStart =>
    refine ⟨0, Nat.zero_le _, rfl, ?_, ?_⟩
    · rw [HW.out]; exact HM
    · rw [HW.out]; exact Lib.hid ⟨rfl, rfl, rfl, Nat.le_refl _, fun _ _ _ => rfl⟩
  case round =>
    obtain ⟨k, hk, rfl, HM2, HG⟩ := hrel
    obtain ⟨hsi, hbx, hvm, hvl⟩ := HST.out _ HG.out
    by_cases hlt : k < nN
    · obtain ⟨y, hy⟩ : ∃ y, l[k]? = some y := ⟨_, List.getElem?_eq_getElem (by rw [HN.out]; exact hlt)⟩
      obtain ⟨b3, o3, y', rfl, hy', k0, k1⟩ := nm_at (A := AN) (n := nN) (c := cN') (names_own hsi.n) hlt
      obtain rfl : y = y' := Option.some.inj (hy.symm.trans hy')
      have hyk : y ∈ l := List.mem_of_getElem? hy
      have hidn : y.id ∉ (l.take k).map PN.id := fun hc => by
        have hn := HND.out
        have e := List.take_append_drop k l
        rw [← e, List.map_append] at hn
        have hd := (List.nodup_append.1 hn).2.2
        refine hd _ hc _ (List.mem_map_of_mem (f := PN.id) (a := y) ?_) rfl
        exact List.mem_of_getElem? (i := 0) (by rw [List.getElem?_drop, Nat.add_zero]; exact hy)
      have ha := alloc_below wr (.cells #[.string y.name, .int .i64 (y.id : Nat)] 79)
      obtain ⟨w2, hup, hm2, hg2⟩ := (HM2.out.below ha).put (idOk_of (HID.out y hyk)) hidn (by rw [List.length_map, List.length_take]; omega)
      have HM3 : Hid (Met w2 (w.heap.size + 1 + 1) ((l.take (k + 1)).map PN.id)) := Lib.hid (by rw [List.take_add_one, hy]; simpa using hm2)
      have HG3 : Hid (W3.grownBy w2 (some (w.heap.size + 1 + 1))) := Lib.hid ((HG.out.trans (grown_of_below ha _)).trans hg2)
      clear hy hy' hyk hidn ha hm2 hg2 hsi hbx
      generalize y.id = yi at k1 hup
      generalize y.name = ym at k0 hup
      go_wp2
      go_roundw
      case rel => exact ⟨k + 1, by omega, by go_num, HM3, HG3⟩
      case measure => simp [intOf]; omega
    · obtain rfl : k = nN := by omega
      have hM2 : Met wr (w.heap.size + 1 + 1) (l.map PN.id) := by
        have := HM2.out
        rwa [List.take_of_length_le (by rw [HN.out]; exact Nat.le_refl _)] at this
      have hsl : ∀ p ∈ D.files.zip us, p.1.id ≤ 1099511627776 ∧ ∃ Z d z, p.2 = .slice Z d z := fun p hp => ⟨HFI.out _ (List.of_mem_zip hp).1, by obtain ⟨Z, z, e, _⟩ := (hsi.by_ p hp).form; exact ⟨Z, _, z, e⟩⟩
      have hdf := deleteFunc_c (P := D.files.zip us) (by have := hsi.f; rw [HF1.out] at this; exact this) hM2 hvm (by rw [List.length_zip, hsi.hu, Nat.min_self, HF1.out]) (by omega) hsl (fun e => by have := HLO.out _ e.symm; omega) (fun e => by have := HLO.out _ e.symm; omega)
      obtain ⟨d0, d1, d2, d3, d4, d5⟩ := Holds.six hbx.d
      have HSI := Lib.hid hsi; have HBX := Lib.hid hbx
      have hwl : w.heap.size < wr.heap.size := by omega
      clear hM2 hsl hsi hbx HM2 HM HST
      go_wp2_with fail
      refine hdf.mono ?_
      rintro _ w5 ⟨vf', rfl, ho, hg, hat⟩
      have HDEL : Hid (Deleted base ((D.files.zip us).filter (keepF (l.map PN.id))) wr (.slice A1 n1 c1) (.returned vf') w5) := Lib.hid ⟨_, rfl, ho, hg, hat⟩
      have hB5 := HBX.out.grown hg hb (fun g e => ⟨HLB.out g e, .inl (HLO.out g e)⟩) (by simp)
      have hs5 := hB5.size
      have hmid := set_mid HSI.out HDEL.out
      obtain ⟨us', hus⟩ : ∃ u, ((D.files.zip us).filter (keepF (l.map PN.id))).map (·.2) = u := ⟨_, rfl⟩
      rw [hus] at hmid
      obtain ⟨A5, c5, rfl, _, _⟩ := own_form ho
      generalize ((D.files.zip us).filter (keepF (l.map PN.id))).length = nF at *
      obtain ⟨X1, hX1⟩ : ∃ y, w5.setCell ⟨w.heap.size, 1, none⟩ (.slice A5 nF c5) = y := ⟨_, rfl⟩
      have hB6 := hB5.store hb (i := 1) (by simp) (.slice A5 nF c5)
      have hsub : ∀ u ∈ us', u ∈ us := fun u hu => by
        rw [← hus] at hu
        exact (led_sub HSI.out.hu).subset hu
      have hoff : ∀ b, w.heap.size ≤ b → Off b (.slice AN k cN' :: .slice A5 nF c5 :: us') := fun b hb' v hv => by
        rcases List.mem_cons.1 hv with rfl | hv
        · exact HOFF.out b hb' _ (by simp)
        rcases List.mem_cons.1 hv with rfl | hv
        · rw [hat]; exact HOFF.out b hb' _ (by simp)
        · exact HOFF.out b hb' v (by simp [hsub v hv])
      have hm6 := hmid.far (grown_set1 w5 w.heap.size 1 (.slice A5 nF c5)) (hoff _ (Nat.le_refl _))
      rw [hX1] at hB6 hm6
      have hrd : Reads X1 X1.heap.size 2 AN k (l.flatMap cN) := by
        have h1 := hm6.n
        rw [HN.out] at h1
        exact Reads.of_own h1
      have hcl := clone_names (A := AN) (n := k) (c := cN') (by omega) hcN hrd (cN_one l)
      have hs6 := hB6.size
      obtain ⟨g0, g1, g2, g3, g4, g5⟩ := Holds.six hB5.d
      have f1 := hB5.dv.f 1 (by simp)
      have hw5 : w.heap.size < w5.heap.size := by omega
      have HB6 := Lib.hid hB6; have HM6 := Lib.hid hm6; have HOF := Lib.hid hoff; have HX1 := Lib.hid hX1
      clear ho hg hat hus hmid hB5 hm6 hrd hoff hsub hB6 hdf
      rw [← hX1] at hcl
      clear hX1
      go_wp2_with fail
      refine hcl.mono ?_
      rintro _ w6 ⟨vk, rfl, ho6, hb6⟩
      rw [HX1.out] at ho6 hb6
      have hB7 := HB6.out.step hb6 hb
      have own7 := set_fin (D := D) HM6.out (by rw [HN.out]; exact ho6) hb6 (by have := HB6.out.size; omega)
      obtain ⟨A6, c6, rfl, _, _⟩ := own_form ho6
      have hoff7 : ∀ b, w.heap.size ≤ b → b < X1.heap.size → Off b (.slice AN k cN' :: .slice A6 k c6 :: .slice none 0 0 :: .slice A5 nF c5 :: us') := fun b h1 h2 v hv e => by
        rcases List.mem_cons.1 hv with rfl | hv
        · exact HOF.out b h1 _ (by simp) e
        rcases List.mem_cons.1 hv with rfl | hv
        · have := (ho6.lt b e).1; omega
        rcases List.mem_cons.1 hv with rfl | hv
        · cases e
        · exact HOF.out b h1 v (List.mem_cons_of_mem _ hv) e
      have hsx := HB6.out.size
      have hB8 := ((hB7.store hb (i := 2) (by simp) (.slice AN k cN')).store hb (i := 3) (by simp) (.slice A6 k c6)).store hb (i := 4) (by simp) (.slice none 0 0)
      have own8 := (((own7.far (grown_set1 w6 w.heap.size 2 (.slice AN k cN')) (hoff7 _ (Nat.le_refl _) (by omega))).far (grown_set1 _ w.heap.size 3 (.slice A6 k c6)) (hoff7 _ (Nat.le_refl _) (by omega))).far (grown_set1 _ w.heap.size 4 (.slice none 0 0)) (hoff7 _ (Nat.le_refl _) (by omega)))
      obtain ⟨e0, e1, e2, e3, e4, e5⟩ := Holds.six hB7.d
      have f2 := hB7.dv.f 2 (by simp)
      have f3 := hB7.dv.f 3 (by simp)
      have f4 := hB7.dv.f 4 (by simp)
      have HB8 := Lib.hid hB8; have OW8 := Lib.hid own8
      have OFR := Lib.hid (hoff7 (w.heap.size + 1) (by omega) (by omega))
      clear hB7 own7 hoff7 hB8 own8 ho6 hb6 hcl HSI HBX HDEL hsx
      go_upto_region 9 with (fail)
      generalize ((w6.setCell ⟨w.heap.size, 2, none⟩ (.slice AN k cN')).setCell ⟨w.heap.size, 3, none⟩ (.slice A6 k c6)).setCell ⟨w.heap.size, 4, none⟩ (.slice none 0 0) = W8 at HB8 OW8 ⊢
      clear e0 e1 e2 e3 e4 e5 f2 f3 f4
      obtain ⟨e0, e1, e2, e3, e4, e5⟩ := Holds.six HB8.out.d
      go_wp2_with (refine wpList_put rfl 29 _ _ rfl (w.heap.size + 1) _ rfl rfl HB8.out.rv (by kernel_rfl) (by simp [Value.oneCell']) ?_; intro y1 hp; obtain ⟨t0, t1, t2, t3, t4, t5⟩ := hp.at_.six)
      refine bodyPost_ret (v := .agg #[.int .i64 q, .slice A5 nF c5, .slice AN k cN', .slice A6 k c6, .slice none 0 0, .int .i64 x]) (by simp [results, Try.results33, go_sem, t0, t1, t2, t3, t4, t5]) rfl ⟨_, _, _, _, us', rfl, OW8.out.far hp.grown OFR.out, HB8.out.below.grown hp.grown (by have := HB8.out.size; omega) (fun y e => by have := Option.some.inj e; omega)⟩
end Go.Proofs.Ytmkjjcogheidmaa.DP
