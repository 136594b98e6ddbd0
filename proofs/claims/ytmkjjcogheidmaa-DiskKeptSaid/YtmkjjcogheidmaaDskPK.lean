/-
  namesRight at a disk that is right.
-/
import Derived.Test.YtmkjjcogheidmaaDskPJ
import Derived.Test.YtmkjjcogheidmaaDskClone
import Derived.Laws.Cover1
set_option linter.unusedSimpArgs false
set_option linter.unusedVariables false
namespace Go.Proofs.Ytmkjjcogheidmaa.DP
open Go.RowKit
theorem eg_new : ∀ args w, (callFunc 39 args).run Try.prog w = .ok (.enter 39 args) w := enters_of Try.func39 (by kernel_rfl) rfl
theorem mv_at {S : Nat → Prop} {w : World} {A : Option Addr} {n c : Nat} {l : List PM} (h : MsOut S w (.slice A n c) l) {k : Nat} (hk : k < n) : ∃ b off x, A = some ⟨b, off, none⟩ ∧ l[k]? = some x ∧ w.cell? ⟨b, off + k * 4, none⟩ = some (.int .i64 (x.kind : Nat)) ∧ w.cell? ⟨b, off + k * 4 + 1, none⟩ = some (.string x.name) ∧ w.cell? ⟨b, off + k * 4 + 2, none⟩ = some (.string x.to) ∧ w.cell? ⟨b, off + k * 4 + 3, none⟩ = some (.int .i64 (x.id : Nat)) := by
  obtain ⟨A', c', hv, _, hx⟩ := h
  injection hv with h1 h2 _
  subst h1 h2
  obtain ⟨b, off, hA, _, hf⟩ := hx (by omega)
  obtain ⟨x, h1, h2, h3, h4, h5⟩ := hf k hk
  exact ⟨b, off, x, hA, h1, h2, h3, h4, h5⟩
/-- What stands behind the first rows of namesRight. -/
structure NR (W : World) (B0 mb vb : Nat) (cs : List Value) (vf vn vk vm : Value) (D : PD) : Prop where
  box : Holds W B0 cs
  met : W.cell? ⟨vb, 0, none⟩ = some (.map (some mb))
  lts : B0 < W.heap.size ∧ mb < W.heap.size ∧ vb < W.heap.size ∧ B0 ≠ mb ∧ vb ≠ mb
  at_ : DkAt (fun g => g ≠ mb ∧ g < W.heap.size) W vf vn vk vm D
theorem NR.step {W W' : World} {B0 mb vb : Nat} {cs : List Value} {vf vn vk vm : Value} {D : PD} (h : NR W B0 mb vb cs vf vn vk vm D) (hg : W.grownBy W' (some mb)) (hn : cs ≠ []) : NR W' B0 mb vb cs vf vn vk vm D := by
  obtain ⟨h1, h2, h3, h4, h5⟩ := h.lts
  have hs := hg.size
  refine ⟨h.box.grown hg (fun e => h4 (Option.some.inj e)) hn, ((grown_cells hg h3 (fun e => h5 (Option.some.inj e))).1 0).trans h.met, ⟨by omega, by omega, by omega, h4, h5⟩, ?_⟩
  exact (h.at_.keep (keep_grown hg)).mono fun g hg2 hs => ⟨hs.1, hg2⟩
set_option maxRecDepth 100000 in
theorem nil_lt {s : ByteArray} (h : 1 ≤ s.size) : slt ⟨#[]⟩ s := by
  show ([] : List UInt8) < sl s
  cases e : sl s with
  | nil =>
    have : s.data.toList.length = 0 := by rw [show s.data.toList = [] from e]; rfl
    have e2 : s.data.toList.length = s.size := Array.length_toList
    omega
  | cons a r => exact List.nil_lt_cons a r
theorem holds_box (w : World) (cs : Array Value) (t : TypeId) : Holds (w.alloc (.cells cs t)) w.heap.size cs.toList := by
  intro j v hv
  rw [cell_of_row _ _ _ _ _ _ (heap_alloc_new w _), ← Array.getElem?_toList]
  exact hv
set_option maxRecDepth 100000 in
set_option maxHeartbeats 8000000 in
theorem namesRight_c {S : Nat → Prop} {D : PD} {v : Value} {w : World} (h : DkIn S w v D) : Calls Try.prog 28 #[v] w fun e w' => e = .returned (.bool true) ∧ Below w.heap.size w w' := by
  obtain ⟨vf, vn, vk, vm, rfl, hat⟩ := h.at_
  obtain ⟨A1, c1, A2, c2, A3, c3, A4, c4, rfl, rfl, rfl, rfl⟩ := hat.forms
  have hn1 := h.inv.f256
  have hn2 := h.inv.namesFew
  have hn3 := h.inv.keptFew
  have hn4 := h.few
  have HI := Lib.hid h.inv
  have eg := eg_new
  obtain ⟨q, hq⟩ : ∃ q : Int, ((D.quota : Nat) : Int) = q := ⟨_, rfl⟩
  obtain ⟨x, hx⟩ : ∃ q : Int, ((D.next : Nat) : Int) = q := ⟨_, rfl⟩
  have HAT := Lib.hid hat
  rw [hq, hx]
  clear hat hq hx h
  obtain ⟨n1, h1⟩ : ∃ n, D.files.length = n := ⟨_, rfl⟩
  obtain ⟨n2, h2⟩ : ∃ n, D.names.length = n := ⟨_, rfl⟩
  obtain ⟨n3, h3⟩ : ∃ n, D.kept.length = n := ⟨_, rfl⟩
  obtain ⟨n4, h4⟩ : ∃ n, D.moves.length = n := ⟨_, rfl⟩
  have H1 := Lib.hid h1; have H2 := Lib.hid h2; have H3 := Lib.hid h3; have H4 := Lib.hid h4
  rw [h1] at hn1 HAT ⊢
  rw [h2] at hn2 HAT ⊢
  rw [h3] at hn3 HAT ⊢
  rw [h4] at hn4 HAT ⊢
  clear h1 h2 h3 h4
  have hmk := makeMap_hint n1 (by omega)
  obtain ⟨B0, hB0⟩ : ∃ b, w.heap.size = b := ⟨_, rfl⟩
  obtain ⟨W3, hW3⟩ : ∃ W3, W3 = ((w.alloc (.cells #[.int .i64 q, .slice A1 n1 c1, .slice A2 n2 c2, .slice A3 n3 c3, .slice A4 n4 c4, .int .i64 x] 29)).alloc (.map #[] 0)).alloc (.cells #[.map (some (B0 + 1))] 80) := ⟨_, rfl⟩
  have HW := Lib.hid hW3
  have hs3 : W3.heap.size = B0 + 3 := by rw [hW3, ← hB0]; simp
  obtain ⟨mb, hmb⟩ : ∃ b, B0 + 1 = b := ⟨_, rfl⟩
  obtain ⟨vb, hvb⟩ : ∃ b, mb + 1 = b := ⟨_, rfl⟩
  have hne1 : B0 ≠ mb := by omega
  have hne2 : vb ≠ mb := by omega
  have ha1 := alloc_below w (.cells #[.int .i64 q, .slice A1 n1 c1, .slice A2 n2 c2, .slice A3 n3 c3, .slice A4 n4 c4, .int .i64 x] 29)
  have HBW : Hid (Below B0 w W3) := Lib.hid (by
    rw [hW3, ← hB0]
    exact ((ha1.alloc (by simp) _).alloc (by simp; omega) _))
  have HNR : Hid (NR W3 B0 mb vb [.int .i64 q, .slice A1 n1 c1, .slice A2 n2 c2, .slice A3 n3 c3, .slice A4 n4 c4, .int .i64 x] (.slice A1 n1 c1) (.slice A2 n2 c2) (.slice A3 n3 c3) (.slice A4 n4 c4) D) := Lib.hid (by
    have hb1 := holds_box w #[.int .i64 q, .slice A1 n1 c1, .slice A2 n2 c2, .slice A3 n3 c3, .slice A4 n4 c4, .int .i64 x] 29
    rw [hB0] at hb1
    refine ⟨?_, ?_, ⟨by omega, by omega, by omega, hne1, hne2⟩, ?_⟩
    · rw [hW3]
      exact (hb1.below (alloc_below _ _)).below (alloc_below _ _)
    · have := holds_box ((w.alloc (.cells #[.int .i64 q, .slice A1 n1 c1, .slice A2 n2 c2, .slice A3 n3 c3, .slice A4 n4 c4, .int .i64 x] 29)).alloc (.map #[] 0)) #[.map (some (B0 + 1))] 80 0 _ rfl
      rw [hW3, ← hvb, ← hmb]
      have e : ((w.alloc (.cells #[.int .i64 q, .slice A1 n1 c1, .slice A2 n2 c2, .slice A3 n3 c3, .slice A4 n4 c4, .int .i64 x] 29)).alloc (.map #[] 0)).heap.size = B0 + 1 + 1 := by rw [← hB0]; simp
      rwa [e] at this
    · have := HAT.out.below (w' := W3) (by rw [hB0]; exact HBW.out)
      exact (HAT.out.mono (S' := fun g => g ≠ mb ∧ g < W3.heap.size) fun g h1 _ => ⟨by omega, by omega⟩).below (by rw [hB0]; exact HBW.out))
  have HM0 : Hid (Met W3 mb []) := Lib.hid (by
    have := met_made (w.alloc (.cells #[.int .i64 q, .slice A1 n1 c1, .slice A2 n2 c2, .slice A3 n3 c3, .slice A4 n4 c4, .int .i64 x] 29))
    have e : (w.alloc (.cells #[.int .i64 q, .slice A1 n1 c1, .slice A2 n2 c2, .slice A3 n3 c3, .slice A4 n4 c4, .int .i64 x] 29)).heap.size = mb := by rw [← hmb, ← hB0]; simp
    rw [e] at this
    rw [hW3]
    exact this.below (alloc_below _ _))
  have HISN : Hid (∀ (W : World) (ids : List Nat) (i : Nat), W3.grownBy W (some mb) → Met W mb ids → i ∉ ids → i ∈ D.files.map PF.id → ids.length ≤ 256 → Calls Try.prog 39 #[.int .i64 (i : Nat), .pointer (some ⟨vb, 0, none⟩), .pointer (some ⟨B0, 0, none⟩)] W fun e w' => e = .returned (.bool true) ∧ Met w' mb (ids ++ [i]) ∧ W.grownBy w' (some mb)) := Lib.hid fun W ids i hg hm hi hin hl => by
    have hN := HNR.out.step hg (by simp)
    obtain ⟨f, hf, ef⟩ := List.mem_map.1 hin
    exact isNew_c hm hN.met hN.box (hN.at_.f.mono fun g _ h => h.1) (by omega) HI.out.fsort (by rw [← ef]; exact HI.out.idLe hf) hi ⟨f, hf, ef⟩ (by omega) hne1
  have HCL : Hid (∀ W, W3.grownBy W (some mb) → Calls Try.prog 41 #[.slice A3 n3 c3] W fun e w' => ∃ v', e = .returned v' ∧ w'.ownsRow W.heap.size 79 2 v' n3 (D.kept.flatMap cN) ∧ Below W.heap.size W w') := Lib.hid fun W hg => by
    have hN := (HNR.out.step hg (by simp)).at_.k
    have hc : n3 ≤ c3 := by obtain ⟨_, _, e, h, _⟩ := hN; injection e with _ _ e; rw [e, ← H3.out]; exact h
    have hr := names_reads (A := A3) (c := c3) (l := D.kept) (w := W) (by rw [H3.out]; exact hN)
    rw [H3.out] at hr
    exact clone_names (by omega) hc hr (cN_one _)
  have hs3' : B0 < W3.heap.size := by omega
  have hs4' : mb < W3.heap.size := by omega
  clear hW3 ha1
  clear hs3
  subst hvb hmb hB0
  go_enter Try.func28, Try.ntmps28
  go_wp2
  go_loopw [5, 7, 19] (fun s5 _ s19 wr => ∃ (k : Nat) (bf : ByteArray), k ≤ n3 ∧ s5 = .string bf ∧ s19 = .int .i64 k ∧ Hid (∀ y : PN, D.kept[k]? = some y → slt bf y.name) ∧ Hid (Met wr (w.heap.size + 1) ((D.kept.take k).map PN.id)) ∧ Hid (W3.grownBy wr (some (w.heap.size + 1)))) (fun _ _ s19 _ => n3 - (intOf s19).toNat)
  case atStart =>
    refine ⟨0, ⟨#[]⟩, Nat.zero_le _, rfl, rfl, Lib.hid fun y hy => ?_, ?_, ?_⟩
    · exact nil_lt (HI.out.kept.ok y (List.mem_of_getElem? hy)).1
    · rw [← HW.out]; exact HM0
    · rw [← HW.out]; exact Lib.hid ⟨rfl, rfl, rfl, Nat.le_refl _, fun _ _ _ => rfl⟩
  case round =>
    obtain ⟨k, bf, hk, rfl, rfl, HB, HM, HG⟩ := hrel
    by_cases hlt : k < n3
    · have hN := HNR.out.step HG.out (by simp)
      obtain ⟨b3, o3, y, rfl, hy, k0, k1⟩ := nm_at hN.at_.k hlt
      obtain ⟨f1, f2⟩ := less_no (HB.out y hy)
      have hyk : y ∈ D.kept := List.mem_of_getElem? hy
      have hmb3 : ¬ wr.heap.size = w.heap.size + 1 := by have := HG.out.size; omega
      have hgw : wr.grownBy (wr.alloc (.cells #[.string y.name, .int .i64 (y.id : Nat)] 79)) (some (w.heap.size + 1)) := World.grownBy_alloc wr _ _
      have hidn : y.id ∉ (D.kept.take k).map PN.id := fun hc => by
        obtain ⟨z, hz, ez⟩ := List.mem_map.1 hc
        have : z = y := uniq_id HI.out.kept.nd (List.mem_of_mem_take hz) hyk ez
        rw [this] at hz
        obtain ⟨j, hj⟩ := List.getElem?_of_mem hz
        have hjk : j < k := by
          have := (List.getElem?_eq_some_iff.1 hj).1
          rw [List.length_take] at this
          omega
        rw [List.getElem?_take, if_pos hjk] at hj
        have h3 := (List.pairwise_iff_getElem.1 HI.out.kept.sorted) _ _ (List.getElem?_eq_some_iff.1 hj).1 (List.getElem?_eq_some_iff.1 hy).1 hjk
        rw [(List.getElem?_eq_some_iff.1 hj).2, (List.getElem?_eq_some_iff.1 hy).2] at h3
        exact slt_irrefl _ h3
      have hic := HISN.out _ _ y.id (HG.out.trans hgw) (HM.out.kept (World.grownBy_alloc wr _ none) (by simp)) hidn ((HI.out.ids _).1 (sub_mRunIds (List.mem_map_of_mem hyk))) (by rw [List.length_map, List.length_take]; omega)
      have hmy := fun W => mayBe_c y.name (HI.out.kept.ok y hyk) W
      have HY := Lib.hid hy
      have HN1 : Hid ((D.kept.take (k + 1)).map PN.id = (D.kept.take k).map PN.id ++ [y.id]) := Lib.hid (by rw [List.take_add_one, hy]; simp)
      have HB1 : Hid (∀ z : PN, D.kept[k + 1]? = some z → slt y.name z.name) := Lib.hid fun z hz => by
        have h3 := (List.pairwise_iff_getElem.1 HI.out.kept.sorted) _ _ (List.getElem?_eq_some_iff.1 hy).1 (List.getElem?_eq_some_iff.1 hz).1 (Nat.lt_succ_self k)
        rw [(List.getElem?_eq_some_iff.1 hy).2, (List.getElem?_eq_some_iff.1 hz).2] at h3
        exact h3
      have HGW := Lib.hid hgw
      clear hy hidn hgw hyk hN
      generalize y.id = yi at k1 hic HN1 HGW
      generalize y.name = ym at k0 f1 f2 hmy hic HB1 HGW
      go_wp2_with (first
        | (go_at_call 38; refine (hmy _).mono ?_; rintro e w1 ⟨rfl, rfl⟩)
        | (go_at_fn 39; refine hic.mono ?_; rintro e w2 ⟨rfl, hm2, hg2⟩; obtain ⟨z1, z2⟩ := grown_cells hg2 (b := wr.heap.size) (by simp) (fun e => hmb3 (Option.some.inj e)); have HM2 := Lib.hid hm2; have HG2 := Lib.hid hg2; clear hm2 hg2))
      go_roundw
      case rel => exact ⟨k + 1, ym, by omega, rfl, by go_num, HB1, Lib.hid (by rw [HN1.out]; exact HM2.out), Lib.hid ((HG.out.trans HGW.out).trans HG2.out)⟩
      case measure => simp [intOf]; omega
    · obtain rfl : k = n3 := by omega
      have hN := HNR.out.step HG.out (by simp)
      obtain ⟨d0, d1, d2, d3, d4, d5⟩ := hN.box.six
      have hcl := HCL.out _ HG.out
      have HM3 : Hid (Met wr (w.heap.size + 1) (mRunIds (D.kept.map PN.id) (D.moves.take 0))) := Lib.hid (by
        have := HM.out
        rw [List.take_of_length_le (by rw [H3.out]; exact Nat.le_refl _)] at this
        exact this)
      have hws := HG.out.size
      have hwl : w.heap.size < wr.heap.size := Nat.lt_of_lt_of_le hs3' hws
      clear HM hN HB
      go_wp2_with (go_at_call 41; refine hcl.mono ?_; rintro e w4 ⟨v4, rfl, ho, hb⟩; have HO := Lib.hid (own_base ho hws); have HM4 := Lib.hid (HM3.out.below hb); have HG4 := Lib.hid (HG.out.trans (grown_of_below hb _)); obtain ⟨y1, y2⟩ := bcl hb; have hw4 : wr.heap.size ≤ w4.heap.size := hb.size; clear ho hb)
      go_loopw [8, 10, 49] (fun s8 _ s49 wq => ∃ k : Nat, k ≤ n4 ∧ s49 = .int .i64 k ∧ Hid (wq.ownsRow W3.heap.size 79 2 s8 (mRun D.kept (D.moves.take k)).length ((mRun D.kept (D.moves.take k)).flatMap cN)) ∧ Hid (Met wq (w.heap.size + 1) (mRunIds (D.kept.map PN.id) (D.moves.take k))) ∧ Hid (W3.grownBy wq (some (w.heap.size + 1)))) (fun _ _ s49 _ => n4 - (intOf s49).toNat)
      case atStart => exact ⟨0, Nat.zero_le _, rfl, Lib.hid (by
        have := HO.out
        rw [← H3.out] at this
        exact this), HM4, HG4⟩
      case round =>
        clear d0 d1 d2 d3 d4 d5 y1 y2 hcl HM4 HG4 HM3 HO hw4
        obtain ⟨k, hk, rfl, HO, HM, HG2⟩ := hrel
        have hN := HNR.out.step HG2.out (by simp)
        obtain ⟨d0, d1, d2, d3, d4, d5⟩ := hN.box.six
        have hws2 := HG2.out.size
        have hwl2 : w.heap.size < wr.heap.size := Nat.lt_of_lt_of_le hs3' hws2
        by_cases hlt2 : k < n4
        · obtain ⟨b5, o5, m, rfl, hm, k0, k1, k2, k3⟩ := mv_at hN.at_.m hlt2
          have hmok := HI.out.doable.nth hm
          have hdir := HI.out.runDir k
          have hfew := HI.out.few k
          have hids := HI.out.fewIds k
          have hcb := fun kz (hkz : ((m.kind : Nat) : Int) = kz) => canBeDone_c (names_own (HO.out.alloc (.cells #[.int .i64 kz, .string m.name, .string m.to, .int .i64 (m.id : Nat)] 66))) hdir.sorted (by omega) hmok
          have hdn := fun (W : World) (h : W.ownsRow W3.heap.size 79 2 u8 (mRun D.kept (D.moves.take k)).length ((mRun D.kept (D.moves.take k)).flatMap cN)) (hs : W3.heap.size ≤ W.heap.size) => done_c h hdir.sorted hmok (by omega) hs
          have HLM : Hid (mRun D.kept (D.moves.take (k + 1)) = mv (mRun D.kept (D.moves.take k)) m) := Lib.hid (run_next hm)
          have HLI : Hid (mRunIds (D.kept.map PN.id) (D.moves.take (k + 1)) = mIds (mRunIds (D.kept.map PN.id) (D.moves.take k)) m) := Lib.hid (ids_next hm)
          have hnw : ¬ wr.heap.size = w.heap.size + 1 := by omega
          have HMO := Lib.hid hmok
          have HIN : Hid (m.kind = 1 → m.id ∈ D.files.map PF.id) := Lib.hid fun e => (HI.out.ids _).1 (by
            have h1 := mRunIds_take (ids := D.kept.map PN.id) (k + 1) (i := m.id) (ms := D.moves) (by
              rw [ids_next hm]
              unfold mIds
              rw [if_pos e]
              simp)
            exact h1)
          clear hm hmok hdir hfew
          obtain ⟨kz, hkz⟩ : ∃ z : Int, ((m.kind : Nat) : Int) = z := ⟨_, rfl⟩
          have hcb := hcb kz hkz
          rw [hkz] at k0 hcb hdn
          by_cases hk1 : m.kind = 1
          · obtain rfl : kz = 1 := by rw [← hkz, hk1]; rfl
            have hinF := HIN.out hk1
            have hni : m.id ∉ mRunIds (D.kept.map PN.id) (D.moves.take k) := by
              rcases HMO.out.2 with ⟨_, _, _, _, h⟩ | ⟨h, _⟩ | ⟨h, _⟩
              · exact h
              · omega
              · omega
            have HF : Hid (∀ W, W3.grownBy W (some (w.heap.size + 1)) → Met W (w.heap.size + 1) (mRunIds (D.kept.map PN.id) (D.moves.take k)) → Calls Try.prog 39 #[.int .i64 (m.id : Nat), .pointer (some ⟨w.heap.size + 1 + 1, 0, none⟩), .pointer (some ⟨w.heap.size, 0, none⟩)] W fun e w' => e = .returned (.bool true) ∧ Met w' (w.heap.size + 1) (mRunIds (D.kept.map PN.id) (D.moves.take k) ++ [m.id]) ∧ W.grownBy w' (some (w.heap.size + 1))) := Lib.hid fun W h1 h2 => HISN.out W _ _ h1 h2 hni hinF hids
            have HLI2 : Hid (mRunIds (D.kept.map PN.id) (D.moves.take (k + 1)) = mRunIds (D.kept.map PN.id) (D.moves.take k) ++ [m.id]) := Lib.hid (by rw [HLI.out]; unfold mIds; rw [if_pos hk1])
            have HBX : Hid (W3.grownBy (wr.alloc (.cells #[.int .i64 1, .string m.name, .string m.to, .int .i64 (m.id : Nat)] 66)) (some (w.heap.size + 1))) := Lib.hid (HG2.out.trans (World.grownBy_alloc wr _ _))
            have HOX : Hid ((wr.alloc (.cells #[.int .i64 1, .string m.name, .string m.to, .int .i64 (m.id : Nat)] 66)).ownsRow W3.heap.size 79 2 u8 (mRun D.kept (D.moves.take k)).length ((mRun D.kept (D.moves.take k)).flatMap cN)) := Lib.hid (HO.out.alloc _)
            have HMX : Hid (Met (wr.alloc (.cells #[.int .i64 1, .string m.name, .string m.to, .int .i64 (m.id : Nat)] 66)) (w.heap.size + 1) (mRunIds (D.kept.map PN.id) (D.moves.take k))) := Lib.hid (HM.out.below (alloc_below _ _))
            have HDN := Lib.hid hdn
            clear hinF hni hids hdn hk1 hkz
            generalize m.id = mi at k3 hcb HDN HF HLI2 HBX HOX HMX
            generalize m.name = mn at k1 hcb HDN HBX HOX HMX
            generalize m.to = mt at k2 hcb HDN HBX HOX HMX
            go_wp2_with (first
              | (go_at_call 42; refine hcb.mono ?_; rintro e w5 ⟨rfl, hb5⟩; have HG5 := Lib.hid (HBX.out.trans (grown_of_below hb5 _)); have HO5 := Lib.hid (own_below HOX.out hb5); have HM5 := Lib.hid (HMX.out.below hb5); obtain ⟨p1, p2⟩ := bcl hb5; have hs5 : wr.heap.size < w5.heap.size := Nat.lt_of_lt_of_le (by simp) hb5.size; clear hb5)
              | (go_at_fn 39; refine (HF.out _ HG5.out HM5.out).mono ?_; rintro e w6 ⟨rfl, hm6, hg6⟩; obtain ⟨q1, q2⟩ := grown_cells hg6 (b := wr.heap.size) hs5 (fun e => hnw (Option.some.inj e)); have HG6 := Lib.hid (HG5.out.trans hg6); have HM6 := Lib.hid hm6; have HO6 := Lib.hid (HO5.out.kept hg6 (.inr (fun e => by have := (HO5.out.lt _ e).1; omega))); clear hm6 hg6)
              | (go_at_call 35; refine (HDN.out _ HO6.out HG6.out.size).mono ?_; rintro e w7 ⟨v7, rfl, ho7, hg7, hL7⟩; have HG7 := Lib.hid (grown_far HG6.out hg7 (fun g e => (HO6.out.lt g e).1)); have HM7 := Lib.hid (HM6.out.kept hg7 (fun e => by have := (HO6.out.lt _ e.symm).1; omega)); have HO7 := Lib.hid ho7; clear ho7 hg7 hL7))
            go_roundw
            case rel => exact ⟨k + 1, by omega, by go_num, Lib.hid (by rw [HLM.out]; exact HO7.out), Lib.hid (by rw [HLI2.out]; exact HM7.out), HG7⟩
            case measure => simp [intOf]; omega
          · have hkn : ¬ kz = 1 := fun e => hk1 (by omega)
            have HLI2 : Hid (mRunIds (D.kept.map PN.id) (D.moves.take (k + 1)) = mRunIds (D.kept.map PN.id) (D.moves.take k)) := Lib.hid (by rw [HLI.out]; unfold mIds; rw [if_neg hk1])
            have HBX : Hid (W3.grownBy (wr.alloc (.cells #[.int .i64 kz, .string m.name, .string m.to, .int .i64 (m.id : Nat)] 66)) (some (w.heap.size + 1))) := Lib.hid (HG2.out.trans (World.grownBy_alloc wr _ _))
            have HOX : Hid ((wr.alloc (.cells #[.int .i64 kz, .string m.name, .string m.to, .int .i64 (m.id : Nat)] 66)).ownsRow W3.heap.size 79 2 u8 (mRun D.kept (D.moves.take k)).length ((mRun D.kept (D.moves.take k)).flatMap cN)) := Lib.hid (HO.out.alloc _)
            have HMX : Hid (Met (wr.alloc (.cells #[.int .i64 kz, .string m.name, .string m.to, .int .i64 (m.id : Nat)] 66)) (w.heap.size + 1) (mRunIds (D.kept.map PN.id) (D.moves.take k))) := Lib.hid (HM.out.below (alloc_below _ _))
            have HDN := Lib.hid hdn
            clear hdn hk1 hkz hids
            generalize m.id = mi at k3 hcb HDN HBX HOX HMX
            generalize m.name = mn at k1 hcb HDN HBX HOX HMX
            generalize m.to = mt at k2 hcb HDN HBX HOX HMX
            go_wp2_with (first
              | (go_at_call 42; refine hcb.mono ?_; rintro e w5 ⟨rfl, hb5⟩; have HG5 := Lib.hid (HBX.out.trans (grown_of_below hb5 _)); have HO5 := Lib.hid (own_below HOX.out hb5); have HM5 := Lib.hid (HMX.out.below hb5); obtain ⟨p1, p2⟩ := bcl hb5; have hs5 : wr.heap.size < w5.heap.size := Nat.lt_of_lt_of_le (by simp) hb5.size; clear hb5)
              | (go_at_call 35; refine (HDN.out _ HO5.out HG5.out.size).mono ?_; rintro e w7 ⟨v7, rfl, ho7, hg7, hL7⟩; have HG7 := Lib.hid (grown_far HG5.out hg7 (fun g e => (HO5.out.lt g e).1)); have HM7 := Lib.hid (HM5.out.kept hg7 (fun e => by have := (HO5.out.lt _ e.symm).1; omega)); have HO7 := Lib.hid ho7; clear ho7 hg7 hL7))
            go_roundw
            case rel => exact ⟨k + 1, by omega, by go_num, Lib.hid (by rw [HLM.out]; exact HO7.out), Lib.hid (by rw [HLI2.out]; exact HM7.out), HG7⟩
            case measure => simp [intOf]; omega
        · obtain rfl : k = n4 := by omega
          have hlen := fun ty => HM.out.len ty
          have e1 : (mRunIds (D.kept.map PN.id) (D.moves.take k)).length = n1 := by rw [← H4.out, List.take_length, HI.out.count, H1.out]
          rw [e1] at hlen
          have e2 : mRun D.kept (D.moves.take k) = D.names := by rw [← H4.out, List.take_length, HI.out.names]
          have HO2 := HO.out
          rw [e2] at HO2
          have heq := fun (W : World) (h : W = wr) => equal_c (by rw [H2.out]; omega) (names_own (h ▸ HO2)) (h ▸ hN.at_.n)
          have hn5 := hN.met
          clear HO2 e1 e2
          go_wp2_with (go_at_call 43; refine (heq _ rfl).mono ?_; rintro e w8 ⟨rfl, hb8⟩)
          go_ret
          refine ⟨rfl, ?_⟩
          exact (HBW.out.grown HG2.out (by omega) (fun k e => by have := Option.some.inj e; omega)).trans (hb8.mono (by have := HG2.out.size; omega))
end Go.Proofs.Ytmkjjcogheidmaa.DP
