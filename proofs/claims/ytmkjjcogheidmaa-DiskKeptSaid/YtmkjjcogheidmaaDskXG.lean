/-
  Append.
-/
import Derived.Test.YtmkjjcogheidmaaDskXE
import Derived.Test.YtmkjjcogheidmaaMemRow
import Derived.Deep.RegionWith
set_option linter.unusedSimpArgs false
set_option linter.unusedVariables false
namespace Go.Proofs.Ytmkjjcogheidmaa.DP
open Go.RowKit
theorem Mid.appended {w W W1 : World} {q x : Int} {g n c p : Nat} {vn vk vm u u' : Value} {us : List Value} {D : PD} {b : List Nat} (h : Mid w W q x (.slice (some ⟨g, 0, none⟩) n c) vn vk vm us D) {f : PF} (hf : D.files[p]? = some f) (hu : us[p]? = some u)
    (hg : W.grownBy W1 u.ownBlock) (ho : ByNew (w.heap.size + 2) W1 u' (f.bytes ++ b)) (hat : u'.ownBlock = u.ownBlock ∨ u'.ownBlock = some W.heap.size) :
    Mid w (W1.setCell ⟨g, p * 3 + 1, none⟩ u') q x (.slice (some ⟨g, 0, none⟩) n c) vn vk vm (us.set p u') ⟨D.quota, D.files.set p ⟨f.id, f.bytes ++ b, f.sure⟩, D.names, D.kept, D.moves, D.next⟩ := by
  have hgb := (h.own.f.lt g rfl).1
  refine ⟨(h.box.grown hg (Nat.le_refl _) (fun k e => ?_) (by simp)).grown (grown_set1 _ _ _ _) (Nat.le_refl _) (fun k e => by have := Option.some.inj e; omega) (by simp), h.own.appended hf hu hg ho (hat.imp (fun h => h) fun h => ⟨_, h, Nat.le_refl _⟩)⟩
  have := h.own.all u (by simp [List.mem_of_getElem? hu]) k e
  omega
set_option maxRecDepth 100000 in
set_option maxHeartbeats 2000000 in
theorem append_c {S : Nat → Prop} {D D' : PD} {r : Int} {s : ByteArray} {v : Value} {w : World} {b : List Nat} {u : Value} (he : pAppend D s b = (D', r)) (hs : okN s) (hb : Bytes b) (hl : b.length ≤ 100000) (h : DkIn S w v D) (hu : ByOut w u b) : Calls Try.prog 15 #[v, .string s, u] w (DkRet S D' r w) := by
  obtain ⟨Au, cu, rfl, hcu, hxu⟩ := hu
  have hru := reads_by hxu
  obtain ⟨q, A1, n1, c1, A2, n2, c2, A3, n3, c3, A4, n4, c4, x, rfl⟩ := h.form
  have hL := h.lets
  have hq := hL.hq; have hx := hL.hx
  have hi := h.inv; have hf := h.few
  have HQ := Lib.hid hq; have HX := Lib.hid hx
  have HCP := Lib.hid (copied_mid h (boxR_of w (Nat.le_refl _) #[.int .i64 q, .slice A1 n1 c1, .slice A2 n2 c2, .slice A3 n3 c3, .slice A4 n4 c4, .int .i64 x] 29) rfl)
  obtain ⟨bl, hbl⟩ : ∃ bl, b.length = bl := ⟨_, rfl⟩
  have HBL := Lib.hid hbl
  by_cases hn : nHas s D.names
  · by_cases hfull : D.quota < usedF D.files + b.length
    · obtain ⟨f, hfp, hid⟩ := file_at hi hn
      obtain ⟨p, hp⟩ : ∃ p, fAt (nId s D.names) D.files = p := ⟨_, rfl⟩
      rw [hp] at hfp
      have hub := hi.used
      have hqb := hi.quota
      have hfl : f.bytes.length ≤ 1073741824 := by
        have h1 : f.bytes.length ≤ usedF D.files := le_used (List.mem_of_getElem? hfp)
        omega
      have hl2 : bl ≤ 100000 := by omega
      have HF := Lib.hid (fun (W : World) (B1 B2 B3 B4 : Option Addr) (d1 d2 d3 d4 : Nat) (us : List Value) (hm : Mid w W q x (.slice B1 n1 d1) (.slice B2 n2 d2) (.slice B3 n3 d3) (.slice B4 n4 d4) us D) => fileOwn_c hm hq hx hi hf hs hn hp hfp)
      have he2 : D = D' ∧ (6 : Int) = r := by
        unfold pAppend at he
        rw [if_neg (by simpa using hn), if_pos hfull] at he
        exact ⟨congrArg Prod.fst he, congrArg Prod.snd he⟩
      obtain ⟨rfl, rfl⟩ := he2
      have HUS := Lib.hid (fun (W : World) (B1 B2 B3 B4 : Option Addr) (d1 d2 d3 d4 : Nat) (us : List Value) (hm : Mid w W q x (.slice B1 n1 d1) (.slice B2 n2 d2) (.slice B3 n3 d3) (.slice B4 n4 d4) us D) => used_c (hm.in_ hq hx hi hf))
      have hq0 : 0 ≤ q := by omega
      have hq1 : q ≤ 1073741824 := by omega
      have huq : ((usedF D.files : Nat) : Int) ≤ q := by omega
      generalize hug : usedF D.files = uf at HUS huq hfull
      have hu0 : (0 : Int) ≤ (uf : Int) := by omega
      have hw : IntKind.i64.wrap (q - (uf : Int)) = q - (uf : Int) := by rw [IntKind.wrap_i64]; omega
      have hd : ¬ ((bl : Int) ≤ q - (uf : Int)) := by omega
      have hdd : decide (q - (uf : Int) < (bl : Int)) = true := by simp; omega
      clear he hL h hi hf hs hn hq hx hp hfp hid hub hqb hfl hfull hxu hru hcu hug hb hl
      rw [hbl]
      clear hbl
      go_enter Try.func15, Try.ntmps15
      go_upto_region 5 with (first
        | (go_at_call 30; (with_reducible refine HCP.out.mono ?_); rintro _ w1 ⟨B1, d1, B2, d2, B3, d3, B4, d4, us, rfl, HV, HM⟩)
        | (refine wpList_put rfl 29 _ _ rfl (w.heap.size) _ rfl rfl HV.out (by kernel_rfl) (by simp [Value.oneCell']) ?_; intro w2 hp; have HM2 := Lib.hid (HM.out _ hp); obtain ⟨t0, t1, t2, t3, t4, t5⟩ := hp.at_.six; clear hp HM HV)
        | (go_at_call 31; (with_reducible refine (HF.out _ _ _ _ _ _ _ _ _ _ HM2.out).mono ?_); rintro _ w3 ⟨⟨g, A, nb, cb, rfl, rfl, HU, HN, k1, kf1, k2, kf2, HG⟩, hb3⟩; have HM3 := Lib.hid (HM2.out.step hb3); obtain ⟨s0, s1, s2, s3, s4, s5⟩ := Holds.six HM3.out.box.d; clear hb3 HM2 t0 t1 t2 t3 t4 t5))
      clear k1 kf1 k2 kf2
      go_region_with (go_at_call 12; (refine (HUS.out _ _ _ _ _ _ _ _ _ _ (HM3.out.step ((Below.refl _ _).drew))).mono ?_); rintro _ w4 ⟨rfl, hb4⟩; have HB4 := Lib.hid (show Below w3.heap.size w3 w4 from ((Below.refl _ _).drew).trans (hb4.mono (by simp))); obtain ⟨r0, r1, r2, r3, r4, r5⟩ := Holds.six (HM3.out.step HB4.out).box.d; clear hb4)
      all_goals
        have HM4 := Lib.hid (HM3.out.step HB4.out)
        clear s0 s1 s2 s3 s4 s5 r0 r1 r2 r3 r4 r5
        obtain ⟨s0, s1, s2, s3, s4, s5⟩ := Holds.six HM4.out.box.d
        go_wp2_with (first
          | (refine wpList_put rfl 29 _ _ rfl (w.heap.size + 1) _ rfl rfl HM4.out.box.rv (by kernel_rfl) (by simp [Value.oneCell']) ?_; intro y1 hp; obtain ⟨t0, t1, t2, t3, t4, t5⟩ := hp.at_.six))
        exact bodyPost_ret (by simp [results, Try.results15, go_sem, t0, t1, t2, t3, t4, t5]) rfl ⟨_, rfl, HM4.out.ret hp HQ.out HX.out⟩
    · obtain ⟨f, hfp, hid⟩ := file_at hi hn
      obtain ⟨p, hp⟩ : ∃ p, fAt (nId s D.names) D.files = p := ⟨_, rfl⟩
      rw [hp] at hfp
      have hub := hi.used
      have hqb := hi.quota
      have hfl : f.bytes.length ≤ 1073741824 := by
        have h1 : f.bytes.length ≤ usedF D.files := le_used (List.mem_of_getElem? hfp)
        omega
      have hl2 : bl ≤ 100000 := by omega
      have HF := Lib.hid (fun (W : World) (B1 B2 B3 B4 : Option Addr) (d1 d2 d3 d4 : Nat) (us : List Value) (hm : Mid w W q x (.slice B1 n1 d1) (.slice B2 n2 d2) (.slice B3 n3 d3) (.slice B4 n4 d4) us D) => fileOwn_c hm hq hx hi hf hs hn hp hfp)
      have he2 : (⟨D.quota, D.files.set p ⟨f.id, f.bytes ++ b, f.sure⟩, D.names, D.kept, D.moves, D.next⟩ : PD) = D' ∧ (0 : Int) = r := by
        unfold pAppend at he
        rw [← hp] at hfp
        rw [if_neg (by simpa using hn), if_neg hfull, map_at (fun f h => by unfold fAdd; rw [if_neg h]) hi.fsort hfp hid] at he
        unfold fAdd at he
        rw [if_pos hid, hp] at he
        exact ⟨congrArg Prod.fst he, congrArg Prod.snd he⟩
      obtain ⟨rfl, rfl⟩ := he2
      have HUS := Lib.hid (fun (W : World) (B1 B2 B3 B4 : Option Addr) (d1 d2 d3 d4 : Nat) (us : List Value) (hm : Mid w W q x (.slice B1 n1 d1) (.slice B2 n2 d2) (.slice B3 n3 d3) (.slice B4 n4 d4) us D) => used_c (hm.in_ hq hx hi hf))
      have hq0 : 0 ≤ q := by omega
      have hq1 : q ≤ 1073741824 := by omega
      have huq : ((usedF D.files : Nat) : Int) ≤ q := by omega
      generalize hug : usedF D.files = uf at HUS huq hfull
      have hu0 : (0 : Int) ≤ (uf : Int) := by omega
      have hw : IntKind.i64.wrap (q - (uf : Int)) = q - (uf : Int) := by rw [IntKind.wrap_i64]; omega
      have hd : (bl : Int) ≤ q - (uf : Int) := by omega
      have hdd : decide (q - (uf : Int) < (bl : Int)) = false := by simp; omega
      have HFP := Lib.hid hfp
      have HFL := Lib.hid hfl
      have HRU : Hid (Reads w w.heap.size 1 Au bl (bys b)) := by rw [hbl] at hru; exact Lib.hid hru
      obtain ⟨i0, hi0, hz0, hz1, hz2⟩ := info_parts (P := Try.prog) (e := 5) (z := .int .u8 0) (size := 1) (bytes := 1) (by kernel_rfl)
      have HI := Lib.hid (And.intro hi0 (And.intro hz0 (And.intro hz1 hz2)))
      clear he hL h hi hf hs hn hq hx hp hfp hid hub hqb hfl hfull hxu hru hcu hug hb hl hi0 hz0 hz1 hz2
      rw [hbl]
      clear hbl
      go_enter Try.func15, Try.ntmps15
      go_upto_region 5 with (first
        | (go_at_call 30; (with_reducible refine HCP.out.mono ?_); rintro _ w1 ⟨B1, d1, B2, d2, B3, d3, B4, d4, us, rfl, HV, HM⟩)
        | (refine wpList_put rfl 29 _ _ rfl (w.heap.size) _ rfl rfl HV.out (by kernel_rfl) (by simp [Value.oneCell']) ?_; intro w2 hp; have HM2 := Lib.hid (HM.out _ hp); obtain ⟨t0, t1, t2, t3, t4, t5⟩ := hp.at_.six; clear hp HM HV)
        | (go_at_call 31; (with_reducible refine (HF.out _ _ _ _ _ _ _ _ _ _ HM2.out).mono ?_); rintro _ w3 ⟨⟨g, A, nb, cb, rfl, rfl, HU, HN, k1, kf1, k2, kf2, HG⟩, hb3⟩; have HM3 := Lib.hid (HM2.out.step hb3); obtain ⟨s0, s1, s2, s3, s4, s5⟩ := Holds.six HM3.out.box.d; clear hb3 HM2 t0 t1 t2 t3 t4 t5))
      have kk := And.intro k1 kf1
      clear k1 kf1 k2 kf2
      go_region_with (go_at_call 12; (refine (HUS.out _ _ _ _ _ _ _ _ _ _ (HM3.out.step ((Below.refl _ _).drew))).mono ?_); rintro _ w4 ⟨rfl, hb4⟩; have HB4 := Lib.hid (show Below w3.heap.size w3 w4 from ((Below.refl _ _).drew).trans (hb4.mono (by simp))); obtain ⟨r0, r1, r2, r3, r4, r5⟩ := Holds.six (HM3.out.step HB4.out).box.d; clear hb4)
      all_goals
        have HM4 := Lib.hid (HM3.out.step HB4.out)
        have k1 := cell_below HB4.out kk.1
        have kf1 := (HB4.out.frozen (p := ⟨g, p * 3 + 1, none⟩) HG.out.2).trans kk.2
        clear s0 s1 s2 s3 s4 s5 kk r0 r1 r2 r3 r4 r5
        obtain ⟨s0, s1, s2, s3, s4, s5⟩ := Holds.six HM4.out.box.d
        have hgl : g < w4.heap.size := Nat.lt_of_lt_of_le HG.out.2 HB4.out.size
        have hne : some g ≠ (Value.slice A nb cb).ownBlock := fun e => by
          have hpw := List.pairwise_cons.1 HM4.out.own.apart
          have hpw := List.pairwise_cons.1 hpw.2
          have hpw := List.pairwise_cons.1 hpw.2
          have hpw := List.pairwise_cons.1 hpw.2
          exact hpw.1 _ (List.mem_of_getElem? HU.out) g rfl e.symm
        have HBY : Hid (w4.ownsRow (w.heap.size + 2) 5 1 (.slice A nb cb) nb (bys f.bytes)) := Lib.hid (by
          have := HM4.out.own.by_ (f, .slice A nb cb) (List.mem_of_getElem? (List.getElem?_zip_eq_some.2 ⟨HFP.out, HU.out⟩))
          unfold ByNew at this
          rw [HN.out] at this
          exact this)
        obtain ⟨v5, w5, hr, ho, hg5, hat⟩ := run_append_any (P := Try.prog) w4 (w.heap.size + 2) 34 34 5 i0 (.int .u8 0) 1 1 Try.underlying34 HI.out.1 HI.out.2.1 HI.out.2.2.1 HI.out.2.2.2 rfl (by decide) (.slice A nb cb) nb (bys f.bytes) HBY.out w.heap.size Au bl cu (bys b) (HRU.out.below HM4.out.box.below) (bys_one b) (by simp only [maxLen]; have := HFL.out; have := HN.out; omega) (by have := HFL.out; have := HN.out; omega) HM4.out.box.size
        obtain ⟨E5, e5, rfl, _, _⟩ := own_form ho
        have HM6 := Lib.hid (HM4.out.appended (b := b) HFP.out HU.out hg5 (by unfold ByNew; rw [List.length_append, HN.out, HBL.out, bys_app]; exact ho) hat)
        have k1' := ((grown_cells hg5 hgl hne).1 (p * 3 + 1)).trans k1
        have kf1' := ((grown_cells hg5 hgl hne).2 (p * 3 + 1)).trans kf1
        have HR := Lib.hid hr
        clear hr ho hg5 hat hne hgl HM3 HB4
        go_upto_region 8 with (at_builtin; refine wpList_append_eq rfl _ _ _ _ rfl _ _ rfl rfl HR.out ?_)
        clear s0 s1 s2 s3 s4 s5 k1 kf1 k1' kf1'
        generalize w5.setCell ⟨g, p * 3 + 1, none⟩ (.slice E5 (nb + bl) e5) = W6 at HM6 ⊢
        obtain ⟨s0, s1, s2, s3, s4, s5⟩ := Holds.six HM6.out.box.d
        go_wp2_with (first
          | (refine wpList_put rfl 29 _ _ rfl (w.heap.size + 1) _ rfl rfl HM6.out.box.rv (by kernel_rfl) (by simp [Value.oneCell']) ?_; intro y1 hp; obtain ⟨t0, t1, t2, t3, t4, t5⟩ := hp.at_.six))
        exact bodyPost_ret (by simp [results, Try.results15, go_sem, t0, t1, t2, t3, t4, t5]) rfl ⟨_, rfl, HM6.out.ret hp HQ.out HX.out⟩
  · have HF := Lib.hid (fun (W : World) (B1 B2 B3 B4 : Option Addr) (d1 d2 d3 d4 : Nat) (us : List Value) (hm : Mid w W q x (.slice B1 n1 d1) (.slice B2 n2 d2) (.slice B3 n3 d3) (.slice B4 n4 d4) us D) => fileNo_c (hm.in_ hq hx hi hf) hs hn)
    have he2 : D = D' ∧ (4 : Int) = r := by
      unfold pAppend at he
      rw [if_pos hn] at he
      exact ⟨congrArg Prod.fst he, congrArg Prod.snd he⟩
    obtain ⟨rfl, rfl⟩ := he2
    clear he hL h hi hf hs hn hq hx hxu hru hcu hb hl
    rw [hbl]
    clear hbl
    go_enter Try.func15, Try.ntmps15
    go_wp2_with (first
      | (go_at_call 30; (with_reducible refine HCP.out.mono ?_); rintro _ w1 ⟨B1, d1, B2, d2, B3, d3, B4, d4, us, rfl, HV, HM⟩)
      | (refine wpList_put rfl 29 _ _ rfl (w.heap.size) _ rfl rfl HV.out (by kernel_rfl) (by simp [Value.oneCell']) ?_; intro w2 hp; have HM2 := Lib.hid (HM.out _ hp); obtain ⟨t0, t1, t2, t3, t4, t5⟩ := hp.at_.six; clear hp HM HV)
      | (go_at_call 31; (with_reducible refine (HF.out _ _ _ _ _ _ _ _ _ _ HM2.out).mono ?_); rintro _ w3 ⟨rfl, hb3⟩; have HM3 := Lib.hid (HM2.out.step hb3); obtain ⟨s0, s1, s2, s3, s4, s5⟩ := Holds.six HM3.out.box.d; clear hb3 HM2 t0 t1 t2 t3 t4 t5)
      | (refine wpList_put rfl 29 _ _ rfl (w.heap.size + 1) _ rfl rfl HM3.out.box.rv (by kernel_rfl) (by simp [Value.oneCell']) ?_; intro y1 hp; obtain ⟨t0, t1, t2, t3, t4, t5⟩ := hp.at_.six))
    exact bodyPost_ret (by simp [results, Try.results15, go_sem, t0, t1, t2, t3, t4, t5]) rfl ⟨_, rfl, HM3.out.ret hp HQ.out HX.out⟩
end Go.Proofs.Ytmkjjcogheidmaa.DP
