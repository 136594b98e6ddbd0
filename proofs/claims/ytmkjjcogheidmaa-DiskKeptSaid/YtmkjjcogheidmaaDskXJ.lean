/-
  Crash.
-/
import Derived.Test.YtmkjjcogheidmaaDskXI
set_option linter.unusedSimpArgs false
set_option linter.unusedVariables false
namespace Go.Proofs.Ytmkjjcogheidmaa.DP
open Go.RowKit
theorem set_kept {base : Nat} {w : World} {vf vn vk vm : Value} {us : List Value} {D : PD} (h : DkOwn base w vf vn vk vm us D) : SetIn base w vf vk us D.files D.kept :=
  ⟨h.hu, h.f, h.k, h.by_, h.apart.sublist (List.Sublist.cons _ (List.Sublist.cons_cons _ (List.Sublist.cons _ (List.Sublist.refl _))))⟩
theorem own_gf {base n c : Nat} {w : World} {A : Option Addr} {vn vk vm : Value} {us : List Value} {D : PD} (h : DkOwn base w (.slice A n c) vn vk vm us D) : ∃ gf, (∀ y ∈ vn :: vk :: vm :: us, y.ownBlock ≠ some gf) ∧ ∀ g, A = some ⟨g, 0, none⟩ → g = gf := by
  rcases h.f.2 with ⟨e, _⟩ | ⟨g, cap, cur, e, _⟩
  · injection e with e1 _ _
    subst e1
    refine ⟨w.heap.size, fun y hy ey => ?_, fun g e => by cases e⟩
    have := (h.all y (by simp only [List.mem_cons] at hy ⊢; rcases hy with h | h | h | h; exact .inl h; exact .inr (.inl h); exact .inr (.inr (.inl h)); exact .inr (.inr (.inr (.inr h)))) _ ey).2
    omega
  · injection e with e1 _ _
    subst e1
    have ha := List.pairwise_cons.1 h.apart
    have hb := List.pairwise_cons.1 ha.2
    have hc := List.pairwise_cons.1 hb.2
    have hd := List.pairwise_cons.1 hc.2
    refine ⟨g, fun y hy ey => ?_, fun g' e => by injection e with e; injection e with e; exact e.symm⟩
    rcases List.mem_cons.1 hy with rfl | hy
    · exact ha.1 (.slice (some ⟨g, 0, none⟩) n c) (by simp) g ey rfl
    rcases List.mem_cons.1 hy with rfl | hy
    · exact hb.1 (.slice (some ⟨g, 0, none⟩) n c) (by simp) g ey rfl
    rcases List.mem_cons.1 hy with rfl | hy
    · exact hc.1 (.slice (some ⟨g, 0, none⟩) n c) (by simp) g ey rfl
    · exact hd.1 y hy g rfl ey
set_option maxRecDepth 100000 in
set_option maxHeartbeats 4000000 in
theorem crash_c {S : Nat → Prop} {D : PD} {v : Value} {w : World} {k : Int} {ks : List (Int × Int)} {u : Value} (hk : -9223372036854775808 ≤ k ∧ k ≤ 9223372036854775807) (hks : KOk ks) (h : DkIn S w v D) (hu : KsOut w u ks) : Calls Try.prog 18 #[v, .int .i64 k, u] w (DkRet S (pCrash D k ks) 0 w) := by
  obtain ⟨q, A1, n1, c1, A2, n2, c2, A3, n3, c3, A4, n4, c4, x, rfl⟩ := h.form
  have hL := h.lets
  have hq := hL.hq; have hx := hL.hx
  have hi := h.inv; have hf := h.few
  have HQ := Lib.hid hq; have HX := Lib.hid hx
  have HCP := Lib.hid (copied_mid h (boxR_of w (Nat.le_refl _) #[.int .i64 q, .slice A1 n1 c1, .slice A2 n2 c2, .slice A3 n3 c3, .slice A4 n4 c4, .int .i64 x] 29) rfl)
  have hl4 := hL.h4
  have hc4 : n4 ≤ 200 := by omega
  have HR := Lib.hid (fun (W : World) (B1 B2 B3 B4 : Option Addr) (d1 d2 d3 d4 : Nat) (us : List Value) (hm : Mid w W q x (.slice B1 n1 d1) (.slice B2 n2 d2) (.slice B3 n3 d3) (.slice B4 n4 d4) us D) => right_c (hm.in_ hq hx hi hf))
  have HWI := Lib.hid (fun W => within_c k n4 (by omega) hk W)
  have HKM : Hid (D.moves.take k.toNat = D.moves.take (min k.toNat n4)) := Lib.hid (by rw [← hl4, ← List.take_eq_take_min])
  generalize hkm : min k.toNat n4 = km at HWI HKM
  have hkm4 : km ≤ n4 := by omega
  have HI := Lib.hid hi
  have HU := Lib.hid hu
  have HK := Lib.hid hks
  have HPC : Hid (pCrash D k ks = ⟨D.quota, (pSettle D (mRun D.kept (D.moves.take km))).files.map (fCut ks), mRun D.kept (D.moves.take km), mRun D.kept (D.moves.take km), [], D.next⟩) := Lib.hid (by unfold pCrash; rw [HKM.out])
  have HL4 := Lib.hid hl4
  clear hL h hi hf hq hx hk hkm hl4 hu hks
  rw [HPC.out]
  go_enter Try.func18, Try.ntmps18
  go_upto_region 5 with (first
      | (go_at_call 30; (with_reducible refine HCP.out.mono ?_); rintro _ w1 ⟨B1, d1, B2, d2, B3, d3, B4, d4, us, rfl, HV, HM⟩)
      | (refine wpList_put rfl 29 _ _ rfl (w.heap.size) _ rfl rfl HV.out (by kernel_rfl) (by simp [Value.oneCell']) ?_; intro w2 hp; have HM2 := Lib.hid (HM.out _ hp); obtain ⟨t0, t1, t2, t3, t4, t5⟩ := hp.at_.six; clear hp HM HV)
      | (go_at_call 11; (with_reducible refine (HR.out _ _ _ _ _ _ _ _ _ _ HM2.out).mono ?_); rintro _ w3 ⟨rfl, hb3⟩; have HM3 := Lib.hid (HM2.out.step hb3); obtain ⟨s0, s1, s2, s3, s4, s5⟩ := Holds.six HM3.out.box.d; clear hb3 HM2 t0 t1 t2 t3 t4 t5))
  have hd4 : n4 ≤ d4 := by obtain ⟨_, _, e, hc, _⟩ := own_form HM3.out.own.m; injection e with _ _ e; have := own_len HM3.out.own.m; omega
  have hkd : km ≤ d4 := by omega
  have hc4 : ∀ p : Laid w3, p.W.cell? ⟨w.heap.size, 4, none⟩ = some (.slice B4 n4 d4) := fun p => cell_below p.h s4
  refine wp_region_laid (by kernel_rfl) (by kernel_rfl) ?_
  repeat (quiet_step ((go_at_call 34; exact Calls.laid ((HWI.out _).mono fun _ _ h => ⟨h.1, h.2 ▸ Below.refl _ _⟩))))
  refine wpQuiet_nil ?_
  intro _ hw'
  obtain ⟨pq, hw''⟩ := hw'
  subst hw''
  have HM4 := Lib.hid (HM3.out.step pq.h)
  clear HM3 s0 s1 s2 s3 s4 s5 hc4
  generalize pq.W = W4 at HM4 ⊢
  clear pq
  go_wp2_with fail
  go_loopw [8, 10, 31] (fun s8 _ s31 wr => ∃ (j : Nat) (E : Option Addr) (n e : Nat), j ≤ km ∧ s8 = .slice E n e ∧ s31 = .int .i64 j ∧ Hid (BoxR w.heap.size w wr [.int .i64 q, .slice B1 n1 d1, .slice B2 n2 d2, .slice B3 n3 d3, .slice B4 n4 d4, .int .i64 x]) ∧ Hid (DkOwn (w.heap.size + 2) wr (.slice B1 n1 d1) (.slice B2 n2 d2) (.slice E n e) (.slice B4 n4 d4) us ⟨D.quota, D.files, D.names, mRun D.kept (D.moves.take j), D.moves, D.next⟩)) (fun _ _ s31 _ => km - (intOf s31).toNat)
  case atStart => exact ⟨0, B3, n3, d3, Nat.zero_le _, rfl, rfl, Lib.hid HM4.out.box, Lib.hid HM4.out.own⟩
  case round =>
    obtain ⟨j, E, n, e, hj, rfl, rfl, HB, HO⟩ := hrel
    by_cases hlt : j < km
    · obtain ⟨b4, o4, m, rfl, hm, k0, k1, k2, k3⟩ := mv_at (A := B4) (n := n4) (c := d4) (moves_own HO.out.m) (show j < n4 by omega)
      have hmok := HI.out.doable.nth hm
      have HNX : Hid (mRun D.kept (D.moves.take (j + 1)) = mv (mRun D.kept (D.moves.take j)) m) := Lib.hid (run_next hm)
      have ha := alloc_below wr (.cells #[.int .i64 (m.kind : Nat), .string m.name, .string m.to, .int .i64 (m.id : Nat)] 66)
      have hoA := HO.out.below ha
      have HDN := Lib.hid (done_c (l := mRun D.kept (D.moves.take j)) hoA.k (HI.out.runDir j).sorted hmok (by have := HI.out.few j; omega) (by have := HB.out.size; have := ha.size; omega))
      have HBA := Lib.hid (HB.out.step ha (Nat.le_refl _))
      have HOA := Lib.hid hoA
      clear hm hmok ha hoA
      generalize m.kind = mk at k0 HDN HBA HOA
      generalize m.id = mi at k3 HDN HBA HOA
      generalize m.name = mn at k1 HDN HBA HOA
      generalize m.to = mt at k2 HDN HBA HOA
      go_wp2_with (go_at_call 35; go_loud (refine HDN.out.mono ?_; rintro _ w5 ⟨v5, rfl, ho5, hg5, hL5⟩; have HO5 := Lib.hid (HOA.out.keptT hg5 ho5 hL5); have HB5 := Lib.hid (HBA.out.grown hg5 (Nat.le_refl _) (fun g eg => by have := (HOA.out.k.lt g eg).1; omega) (by simp)); obtain ⟨E5, e5, rfl, _, _⟩ := own_form ho5; clear ho5 hg5 hL5))
      go_roundw
      case rel => exact ⟨j + 1, _, _, _, by omega, rfl, by go_num, HB5, by rw [HNX.out]; exact HO5⟩
      case measure => simp [intOf]; omega
    · obtain rfl : j = km := by omega
      clear hlt hj
      have HST : Hid (Calls Try.prog 33 #[.agg #[.int .i64 q, .slice B1 n1 d1, .slice B2 n2 d2, .slice B3 n3 d3, .slice B4 n4 d4, .int .i64 x], .slice E n e] wr (OwnRet (w.heap.size + 2) (pSettle D (mRun D.kept (D.moves.take j))) wr q x)) := Lib.hid (settled_c (D := D) (l := mRun D.kept (D.moves.take j)) (set_kept HO.out) HB.out.size (by have := HI.out.few j; omega) (HI.out.crashDir j).nd (fun y hy => id_small HI.out ((HI.out.crashDir j).sub y hy)) (fun f hf => id_small HI.out (List.mem_map_of_mem hf)) (by have := HI.out.f256; omega))
      obtain ⟨s0, s1, s2, s3, s4, s5⟩ := Holds.six HB.out.d
      have HSI := Lib.hid (HI.out.settle (HI.out.crashDir j))
      clear HWI HR HKM HPC HCP
      go_upto_region 11 with (first
        | (go_at_call 33; go_loud ((with_reducible refine HST.out.mono ?_); rintro _ w6 ⟨vf, vn, vk, vm, us', rfl, ho, hb6⟩; obtain ⟨E1, e1, rfl, _, _⟩ := own_form ho.f; obtain ⟨E2, e2, rfl, _, _⟩ := own_form ho.n; obtain ⟨E3, e3, rfl, _, _⟩ := own_form ho.k; obtain ⟨E4, e4, rfl, _, _⟩ := own_form ho.m; have HB6 := Lib.hid (HB.out.low hb6); have HO6 := Lib.hid ho; clear ho hb6 s0 s1 s2 s3 s4 s5))
        | (refine wpList_put rfl 29 _ _ rfl (w.heap.size) _ rfl rfl HB6.out.dv (by kernel_rfl) (by simp [Value.oneCell']) ?_; intro w7 hp; have HM7 : Hid (Mid w w7 q x _ _ _ _ us' (pSettle D (mRun D.kept (D.moves.take j)))) := Lib.hid ⟨HB6.out.put hp (Nat.le_refl _), HO6.out.far hp.grown (HO6.out.offLow (by omega))⟩; obtain ⟨t0, t1, t2, t3, t4, t5⟩ := hp.at_.six; clear hp))
      have hq2 : q = ((pSettle D (mRun D.kept (D.moves.take j))).quota : Nat) := HQ.out
      have hx2 : x = ((pSettle D (mRun D.kept (D.moves.take j))).next : Nat) := HX.out
      have HQ2 := Lib.hid hq2; have HX2 := Lib.hid hx2
      clear hq2 hx2 HQ HX
      have HDD : Hid ((⟨D.quota, (pSettle D (mRun D.kept (D.moves.take j))).files.map (fCut ks), mRun D.kept (D.moves.take j), mRun D.kept (D.moves.take j), [], D.next⟩ : PD) = ⟨(pSettle D (mRun D.kept (D.moves.take j))).quota, (pSettle D (mRun D.kept (D.moves.take j))).files.map (fCut ks), (pSettle D (mRun D.kept (D.moves.take j))).names, (pSettle D (mRun D.kept (D.moves.take j))).kept, (pSettle D (mRun D.kept (D.moves.take j))).moves, (pSettle D (mRun D.kept (D.moves.take j))).next⟩) := Lib.hid rfl
      generalize pSettle D (mRun D.kept (D.moves.take j)) = DS at *
      have hf256 := HSI.out.f256
      have HLF : Hid (DS.files.length = DS.files.length) := Lib.hid rfl
      obtain ⟨gf, hga, hgf⟩ := own_gf HM7.out.own
      have HC7 := Lib.hid (CutI.start (ks := ks) HM7.out hga)
      have HGF := Lib.hid hgf
      clear HM7 hga hgf HO6 HB6 HST HB HO
      generalize hnf : DS.files.length = nf at *
      generalize DS.names.length = nn at *
      generalize DS.kept.length = nk at *
      generalize DS.moves.length = nm at *
      have HNF := Lib.hid hnf
      clear hnf HLF
      go_wp2_with fail
      clear t0 t2 t3 t4 t5
      go_loopw [11, 12, 13, 45] (fun _ _ _ s45 wr => ∃ i : Nat, i ≤ nf ∧ s45 = .int .i64 i ∧ Hid (CutI ks w wr gf i q x (.slice E1 nf e1) (.slice E2 nn e2) (.slice E3 nk e3) (.slice E4 nm e4) DS)) (fun _ _ _ s45 _ => nf - (intOf s45).toNat)
      case atStart => exact ⟨0, Nat.zero_le _, rfl, HC7⟩
      case round =>
        obtain ⟨i, hin, rfl, HC⟩ := hrel
        by_cases hlt : i < nf
        · obtain ⟨g, f, Z, d, rfl, hfi, hg1, hg2, hbd, k0, k1, k2, kf, hby⟩ := HC.out.read hlt
          obtain rfl := HGF.out g rfl
          have hfok := HSI.out.fok f (List.mem_of_getElem? hfi)
          have hnx := HSI.out.next2
          have hbl : f.bytes.length ≤ 1073741824 := by
            have h1 : f.bytes.length ≤ usedF DS.files := le_used (List.mem_of_getElem? hfi)
            have := HSI.out.used
            have := HSI.out.quota
            omega
          obtain ⟨mm, hmm⟩ : ∃ mm, min (keepOf ks f.id) (f.bytes.length - f.sure) = mm := ⟨_, rfl⟩
          obtain ⟨st, hst⟩ : ∃ st, f.sure + mm = st := ⟨_, rfl⟩
          have hsn : st ≤ f.bytes.length := by omega
          have HNX := Lib.hid (fun W (hb : Below wr.heap.size wr W) => CutI.next (HC.out.below hb) hfi hg1 (hby.below hb) (by rw [hmm]; exact hst) hsn)
          have HKP : Hid (∀ W, Below wr.heap.size wr W → Calls Try.prog 36 #[.int .i64 (f.id : Nat), u] W fun e w' => e = .returned (.int .i64 (kraw ks f.id)) ∧ Below W.heap.size W w') := Lib.hid fun W hb => keptOf_c HK.out (HU.out.below (bnext HC.out.box.below hb))
          have HWN : Hid (∀ W, Calls Try.prog 34 #[.int .i64 (kraw ks f.id), .int .i64 ((f.bytes.length : Int) - (f.sure : Int))] W fun e w' => e = .returned (.int .i64 (mm : Nat)) ∧ W = w') := Lib.hid fun W => by
            have h1 := within_c (kraw ks f.id) (f.bytes.length - f.sure) (by omega) (kraw_range HK.out f.id) W
            rw [kraw_keep, hmm, show ((f.bytes.length - f.sure : Nat) : Int) = (f.bytes.length : Int) - (f.sure : Int) from by omega] at h1
            exact h1
          have hw1 : IntKind.i64.wrap ((f.bytes.length : Int) - (f.sure : Int)) = (f.bytes.length : Int) - (f.sure : Int) := by rw [IntKind.wrap_i64]; omega
          have hw2 : IntKind.i64.wrap ((f.sure : Int) + (mm : Int)) = (st : Int) := by rw [IntKind.wrap_i64]; omega
          have hw3 : (f.sure : Int) + (mm : Int) = (st : Int) := by omega
          have hw4 : IntKind.i64.wrap (st : Int) = (st : Int) := by rw [IntKind.wrap_i64]; omega
          have hsd : st ≤ d := by omega
          have z0 := kf 0 (by decide); have z1 := kf 1 (by decide); have z2 := kf 2 (by decide)
          have HFR := Lib.hid (fun W (hb : Below wr.heap.size wr W) => show W.frozen? ⟨g, i * 3, none⟩ = false ∧ W.frozen? ⟨g, i * 3 + 1, none⟩ = false ∧ W.frozen? ⟨g, i * 3 + 2, none⟩ = false from ⟨(hb.frozen (p := ⟨g, i * 3, none⟩) hg2).trans z0, (hb.frozen (p := ⟨g, i * 3 + 1, none⟩) hg2).trans z1, (hb.frozen (p := ⟨g, i * 3 + 2, none⟩) hg2).trans z2⟩)
          clear kf z0 z1 z2 hby hfok hnx hmm hfi hbl hsn hg1
          generalize f.id = fi at k0 HNX HKP HWN
          generalize f.bytes.length = nb at k1 HNX HWN hw1 hbd hst
          generalize f.sure = sr at k2 HNX HWN hw1 hw2 hw3 hst
          generalize kraw ks fi = kr at HKP HWN
          clear hst
          have hbx := holds_box wr #[.int .i64 (fi : Nat), .slice Z nb d, .int .i64 (sr : Nat)] 58
          have ha := alloc_below wr (.cells #[.int .i64 (fi : Nat), .slice Z nb d, .int .i64 (sr : Nat)] 58)
          have b0 := hbx 0 _ rfl; have b1 := hbx 1 _ rfl; have b2 := hbx 2 _ rfl
          have hD1 := Holds.six HC.out.box.d
          have hd1 := hD1.2.1
          go_upto_region 14 with fail
          have HA := Lib.hid ha
          have hc0 : ∀ p : Laid (wr.alloc (.cells #[.int .i64 (fi : Nat), .slice Z nb d, .int .i64 (sr : Nat)] 58)), p.W.cell? ⟨wr.heap.size, 0, none⟩ = some (.int .i64 (fi : Nat)) := fun p => cell_below p.h b0
          have hc1 : ∀ p : Laid (wr.alloc (.cells #[.int .i64 (fi : Nat), .slice Z nb d, .int .i64 (sr : Nat)] 58)), p.W.cell? ⟨wr.heap.size, 1, none⟩ = some (.slice Z nb d) := fun p => cell_below p.h b1
          have hc2 : ∀ p : Laid (wr.alloc (.cells #[.int .i64 (fi : Nat), .slice Z nb d, .int .i64 (sr : Nat)] 58)), p.W.cell? ⟨wr.heap.size, 2, none⟩ = some (.int .i64 (sr : Nat)) := fun p => cell_below p.h b2
          refine wp_region_laid (by kernel_rfl) (by kernel_rfl) ?_
          repeat (quiet_step ((first
            | (go_at_call 36; exact Calls.laid (HKP.out _ (bnext HA.out (Laid.h _))))
            | (go_at_call 34; exact Calls.laid ((HWN.out _).mono fun _ _ h => ⟨h.1, h.2 ▸ Below.refl _ _⟩)))))
          refine wpQuiet_nil ?_
          intro _ hw'
          obtain ⟨pq, hw''⟩ := hw'
          subst hw''
          have HB14 := Lib.hid (bnext HA.out pq.h)
          have x0 := hc0 pq; have x1 := hc1 pq; have x2 := hc2 pq
          have xd := cell_below HB14.out hd1
          have hdr := (Below.refl pq.W.heap.size pq.W).drew
          have y0 := cell_below (bnext HB14.out hdr) k0; have y1 := cell_below (bnext HB14.out hdr) k1; have y2 := cell_below (bnext HB14.out hdr) k2
          have HB15 := Lib.hid (bnext HB14.out hdr)
          obtain ⟨z0, z1, z2⟩ := HFR.out _ HB15.out
          clear hc0 hc1 hc2 b0 b1 b2 hbx ha k0 k1 k2 hd1 hD1 HA HKP HWN HFR hdr
          generalize pq.W = W14 at HB14 HB15 x0 x1 x2 xd y0 y1 y2 z0 z1 z2 ⊢
          clear pq
          go_wp2_with fail
          go_still_tail 13, (by kernel_rfl)
          change wpList _ _ _ _ _ W14.drew
          generalize W14.drew = W15 at HB15 y0 y1 y2 z0 z1 z2 ⊢
          have HNX2 := Lib.hid (HNX.out W15 HB15.out)
          clear x0 x1 x2 xd HB14 HNX HC
          go_wp2_with fail
          go_roundw
          case rel => exact ⟨i + 1, by omega, by go_num, HNX2⟩
          case measure => simp [intOf]; omega
        · obtain rfl : i = nf := by omega
          obtain ⟨s0, s1, s2, s3, s4, s5⟩ := Holds.six HC.out.box.d
          go_wp2_with (refine wpList_put rfl 29 _ _ rfl (w.heap.size + 1) _ rfl rfl HC.out.box.rv (by kernel_rfl) (by simp [Value.oneCell']) ?_; intro y1 hp; obtain ⟨t0, t1, t2, t3, t4, t5⟩ := hp.at_.six)
          exact bodyPost_ret (v := .tuple #[.agg #[.int .i64 q, .slice E1 i e1, .slice E2 nn e2, .slice E3 nk e3, .slice E4 nm e4, .int .i64 x], .int .i64 0]) (by simp [results, Try.results18, go_sem, t0, t1, t2, t3, t4, t5]) rfl ⟨_, rfl, by rw [HDD.out]; exact HC.out.fin (by rw [HNF.out]; exact Nat.le_refl _) hp HQ2.out HX2.out⟩
end Go.Proofs.Ytmkjjcogheidmaa.DP
