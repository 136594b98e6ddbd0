/-
  Create.
-/
import Derived.Test.YtmkjjcogheidmaaDskXE
set_option linter.unusedSimpArgs false
set_option linter.unusedVariables false
namespace Go.Proofs.Ytmkjjcogheidmaa.DP
open Go.RowKit
end Go.Proofs.Ytmkjjcogheidmaa.DP
namespace Go.Proofs.Ytmkjjcogheidmaa
open Go.RowKit
theorem DkOwn.created {base i nx : Nat} {w w' : World} {vf vf' vn vk vm : Value} {us : List Value} {D : PD} (h : DkOwn base w vf vn vk vm us D) (hg : w.grownBy w' vf.ownBlock) (hn : w'.ownsRow base 58 3 vf' (D.files.length + 1) ((D.files.zip us).flatMap cF ++ [.int .i64 (i : Nat), .slice none 0 0, .int .i64 0])) (hL : Lies w vf vf') :
    DkOwn base w' vf' vn vk vm (us ++ [.slice none 0 0]) ⟨D.quota, D.files ++ [⟨i, [], 0⟩], D.names, D.kept, D.moves, nx⟩ := by
  have ha := List.pairwise_cons.1 h.apart
  have hb := List.pairwise_cons.1 ha.2
  have hc := List.pairwise_cons.1 hb.2
  have hd := List.pairwise_cons.1 hc.2
  have hz : (D.files ++ [(⟨i, [], 0⟩ : PF)]).zip (us ++ [.slice none 0 0]) = D.files.zip us ++ [(⟨i, [], 0⟩, .slice none 0 0)] := by rw [List.zip_append h.hu.symm]; rfl
  have hap : Apart (vn :: vk :: vm :: vf' :: us) := apart_set (i := 3) h.apart (fun v hv k e => (h.all v hv k e).2) rfl hL
  have hap2 : Apart ((vn :: vk :: vm :: vf' :: us) ++ [.slice none 0 0]) := List.pairwise_append.2 ⟨hap, List.pairwise_singleton _ _, fun a _ b hb g e1 e2 => by rw [List.mem_singleton.1 hb] at e2; cases e2⟩
  refine ⟨by simp [h.hu], by rw [hz, List.flatMap_append, List.length_append]; exact hn, own_kept h.n hg (ha.1 _ (by simp)), own_kept h.k hg (hb.1 _ (by simp)), own_kept h.m hg (hc.1 _ (by simp)), fun p hp => ?_, hap2⟩
  rw [show (⟨D.quota, D.files ++ [⟨i, [], 0⟩], D.names, D.kept, D.moves, nx⟩ : PD).files = D.files ++ [⟨i, [], 0⟩] from rfl, hz] at hp
  rcases List.mem_append.1 hp with hp | hp
  · exact own_kept (h.by_ p hp) hg (hd.1 _ (List.of_mem_zip hp).2).symm
  · rw [List.mem_singleton.1 hp]
    exact ⟨rfl, .inl ⟨rfl, rfl⟩⟩
end Go.Proofs.Ytmkjjcogheidmaa
namespace Go.Proofs.Ytmkjjcogheidmaa.DP
open Go.RowKit
theorem info_file : (Try.prog.info? 58).map (fun i => (i.zero, i.size, i.bytes)) = some (some (.agg #[.int .i64 0, .slice none 0 0, .int .i64 0]), 3, 40) := by kernel_rfl
set_option maxRecDepth 100000 in
set_option maxHeartbeats 2000000 in
theorem create_c {S : Nat → Prop} {D D' : PD} {r : Int} {s : ByteArray} {v : Value} {w : World} (he : pCreate D s = (D', r)) (hs : okN s) (h : DkIn S w v D) : Calls Try.prog 14 #[v, .string s] w (DkRet S D' r w) := by
  obtain ⟨q, A1, n1, c1, A2, n2, c2, A3, n3, c3, A4, n4, c4, x, rfl⟩ := h.form
  have hL := h.lets
  have hq := hL.hq; have hx := hL.hx
  have hi := h.inv; have hf := h.few
  have HQ := Lib.hid hq; have HX := Lib.hid hx
  have HCP := Lib.hid (copied_mid h (boxR_of w (Nat.le_refl _) #[.int .i64 q, .slice A1 n1 c1, .slice A2 n2 c2, .slice A3 n3 c3, .slice A4 n4 c4, .int .i64 x] 29) rfl)
  by_cases hn : nHas s D.names
  · have HF := Lib.hid (fun (W : World) (B1 B2 B3 B4 : Option Addr) (d1 d2 d3 d4 : Nat) (us : List Value) (hm : Mid w W q x (.slice B1 n1 d1) (.slice B2 n2 d2) (.slice B3 n3 d3) (.slice B4 n4 d4) us D) => fileYes_c (hm.in_ hq hx hi hf) hs hn)
    have he2 : D = D' ∧ (5 : Int) = r := by
      unfold pCreate at he
      rw [if_pos hn] at he
      exact ⟨congrArg Prod.fst he, congrArg Prod.snd he⟩
    obtain ⟨rfl, rfl⟩ := he2
    clear he hL h hi hf hs hn hq hx
    go_enter Try.func14, Try.ntmps14
    go_wp2_with (first
      | (go_at_call 30; (with_reducible refine HCP.out.mono ?_); rintro _ w1 ⟨B1, d1, B2, d2, B3, d3, B4, d4, us, rfl, HV, HM⟩)
      | (refine wpList_put rfl 29 _ _ rfl (w.heap.size) _ rfl rfl HV.out (by kernel_rfl) (by simp [Value.oneCell']) ?_; intro w2 hp; have HM2 := Lib.hid (HM.out _ hp); obtain ⟨t0, t1, t2, t3, t4, t5⟩ := hp.at_.six; clear hp HM HV)
      | (go_at_call 31; (with_reducible refine (HF.out _ _ _ _ _ _ _ _ _ _ HM2.out).mono ?_); rintro _ w3 ⟨⟨b, off, rfl, rfl⟩, hb3⟩; have HM3 := Lib.hid (HM2.out.step hb3); obtain ⟨s0, s1, s2, s3, s4, s5⟩ := Holds.six HM3.out.box.d; clear hb3 HM2 t0 t1 t2 t3 t4 t5)
      | (refine wpList_put rfl 29 _ _ rfl (w.heap.size + 1) _ rfl rfl HM3.out.box.rv (by kernel_rfl) (by simp [Value.oneCell']) ?_; intro y1 hp; obtain ⟨t0, t1, t2, t3, t4, t5⟩ := hp.at_.six))
    exact bodyPost_ret (by simp [results, Try.results14, go_sem, t0, t1, t2, t3, t4, t5]) rfl ⟨_, rfl, HM3.out.ret hp HQ.out HX.out⟩
  by_cases hfull : D.files.length = 256 ∨ D.next = 1099511627776
  · have HF := Lib.hid (fun (W : World) (B1 B2 B3 B4 : Option Addr) (d1 d2 d3 d4 : Nat) (us : List Value) (hm : Mid w W q x (.slice B1 n1 d1) (.slice B2 n2 d2) (.slice B3 n3 d3) (.slice B4 n4 d4) us D) => fileNo_c (hm.in_ hq hx hi hf) hs hn)
    have he2 : D = D' ∧ (11 : Int) = r := by
      unfold pCreate at he
      rw [if_neg hn, if_pos hfull] at he
      exact ⟨congrArg Prod.fst he, congrArg Prod.snd he⟩
    obtain ⟨rfl, rfl⟩ := he2
    have e1 := hL.h1
    by_cases h256 : n1 = 256
    · clear he hL h hi hf hs hn hq hx hfull
      subst h256
      clear e1
      go_enter Try.func14, Try.ntmps14
      go_wp2_with (first
        | (go_at_call 30; (with_reducible refine HCP.out.mono ?_); rintro _ w1 ⟨B1, d1, B2, d2, B3, d3, B4, d4, us, rfl, HV, HM⟩)
        | (refine wpList_put rfl 29 _ _ rfl (w.heap.size) _ rfl rfl HV.out (by kernel_rfl) (by simp [Value.oneCell']) ?_; intro w2 hp; have HM2 := Lib.hid (HM.out _ hp); obtain ⟨t0, t1, t2, t3, t4, t5⟩ := hp.at_.six; clear hp HM HV)
        | (go_at_call 31; (with_reducible refine (HF.out _ _ _ _ _ _ _ _ _ _ HM2.out).mono ?_); rintro _ w3 ⟨rfl, hb3⟩; have HM3 := Lib.hid (HM2.out.step hb3); obtain ⟨s0, s1, s2, s3, s4, s5⟩ := Holds.six HM3.out.box.d; clear hb3 HM2 t0 t1 t2 t3 t4 t5)
        | (refine wpList_put rfl 29 _ _ rfl (w.heap.size + 1) _ rfl rfl HM3.out.box.rv (by kernel_rfl) (by simp [Value.oneCell']) ?_; intro y1 hp; obtain ⟨t0, t1, t2, t3, t4, t5⟩ := hp.at_.six))
      exact bodyPost_ret (by simp [results, Try.results14, go_sem, t0, t1, t2, t3, t4, t5]) rfl ⟨_, rfl, HM3.out.ret hp HQ.out HX.out⟩
    · have hx2 : x = 1099511627776 := by omega
      have hz : ((n1 : Int) == 256) = false := by
        rw [beq_eq_false_iff_ne]
        omega
      clear he hL h hi hf hs hn hq hx hfull e1
      subst hx2
      go_enter Try.func14, Try.ntmps14
      go_wp2_with (first
        | (go_at_call 30; (with_reducible refine HCP.out.mono ?_); rintro _ w1 ⟨B1, d1, B2, d2, B3, d3, B4, d4, us, rfl, HV, HM⟩)
        | (refine wpList_put rfl 29 _ _ rfl (w.heap.size) _ rfl rfl HV.out (by kernel_rfl) (by simp [Value.oneCell']) ?_; intro w2 hp; have HM2 := Lib.hid (HM.out _ hp); obtain ⟨t0, t1, t2, t3, t4, t5⟩ := hp.at_.six; clear hp HM HV)
        | (go_at_call 31; (with_reducible refine (HF.out _ _ _ _ _ _ _ _ _ _ HM2.out).mono ?_); rintro _ w3 ⟨rfl, hb3⟩; have HM3 := Lib.hid (HM2.out.step hb3); obtain ⟨s0, s1, s2, s3, s4, s5⟩ := Holds.six HM3.out.box.d; clear hb3 HM2 t0 t1 t2 t3 t4 t5)
        | (refine wpList_put rfl 29 _ _ rfl (w.heap.size + 1) _ rfl rfl HM3.out.box.rv (by kernel_rfl) (by simp [Value.oneCell']) ?_; intro y1 hp; obtain ⟨t0, t1, t2, t3, t4, t5⟩ := hp.at_.six))
      exact bodyPost_ret (by simp [results, Try.results14, go_sem, t0, t1, t2, t3, t4, t5]) rfl ⟨_, rfl, HM3.out.ret hp HQ.out HX.out⟩
  · have HF := Lib.hid (fun (W : World) (B1 B2 B3 B4 : Option Addr) (d1 d2 d3 d4 : Nat) (us : List Value) (hm : Mid w W q x (.slice B1 n1 d1) (.slice B2 n2 d2) (.slice B3 n3 d3) (.slice B4 n4 d4) us D) => fileNo_c (hm.in_ hq hx hi hf) hs hn)
    have he2 : (⟨D.quota, D.files ++ [⟨D.next, [], 0⟩], nIns ⟨s, D.next⟩ D.names, D.kept, D.moves ++ [⟨1, s, noN, D.next⟩], D.next + 1⟩ : PD) = D' ∧ (0 : Int) = r := by
      unfold pCreate at he
      rw [if_neg hn, if_neg hfull] at he
      exact ⟨congrArg Prod.fst he, congrArg Prod.snd he⟩
    obtain ⟨rfl, rfl⟩ := he2
    have e1 := hL.h1
    have hnx := hi.next2
    have hf256 := hi.f256
    have hx2 : x < 1099511627776 := by omega
    have hx0 : 0 ≤ x := by omega
    have hz : ((n1 : Int) == 256) = false := by
      rw [beq_eq_false_iff_ne]
      omega
    have hz2 : (x == 1099511627776) = false := by
      rw [beq_eq_false_iff_ne]
      omega
    have HN1 : Hid (n1 ≤ 256) := Lib.hid (by omega)
    have HX2 : Hid (x + 1 = ((D.next + 1 : Nat) : Int)) := Lib.hid (by omega)
    have HMVX : Hid (∀ (W : World) (E1 E2 E3 E4 : Option Addr) (m1 m2 m3 m4 e1 e2 e3 e4 : Nat) (us : List Value), DkOwn (w.heap.size + 2) W (.slice E1 m1 e1) (.slice E2 m2 e2) (.slice E3 m3 e3) (.slice E4 m4 e4) us ⟨D.quota, D.files ++ [⟨D.next, [], 0⟩], D.names, D.kept, D.moves, D.next + 1⟩ → w.heap.size + 2 ≤ W.heap.size →
        Calls Try.prog 32 #[.agg #[.int .i64 q, .slice E1 m1 e1, .slice E2 m2 e2, .slice E3 m3 e3, .slice E4 m4 e4, .int .i64 (x + 1)], .agg #[.int .i64 1, .string s, .string ⟨#[]⟩, .int .i64 x]] W (OwnRet (w.heap.size + 2) ⟨D.quota, D.files ++ [⟨D.next, [], 0⟩], nIns ⟨s, D.next⟩ D.names, D.kept, D.moves ++ [⟨1, s, noN, D.next⟩], D.next + 1⟩ W q (x + 1))) := Lib.hid fun W E1 E2 E3 E4 m1 m2 m3 m4 e1 e2 e3 e4 us ho hsz => by
      have := moved_c (q := q) (x := x + 1) (kz := 1) (m := ⟨1, s, noN, D.next⟩) (ids := []) ho hsz hi.dir.sorted ⟨hs, .inl ⟨rfl, hn, rfl, hi.next1, by simp⟩⟩ (by show D.names.length ≤ _; have := hi.namesFew; omega) (by show D.moves.length ≤ _; omega) rfl
      have em : mv D.names ⟨1, s, noN, D.next⟩ = nIns ⟨s, D.next⟩ D.names := by unfold mv; rw [if_pos rfl]
      rw [em] at this
      rw [hx] at this ⊢
      exact this
    clear he hL h hi hf hs hn hfull e1 hnx hf256 hq hx
    go_enter Try.func14, Try.ntmps14
    go_upto_region 9 with (first
      | (go_at_call 30; (with_reducible refine HCP.out.mono ?_); rintro _ w1 ⟨B1, d1, B2, d2, B3, d3, B4, d4, us, rfl, HV, HM⟩)
      | (refine wpList_put rfl 29 _ _ rfl (w.heap.size) _ rfl rfl HV.out (by kernel_rfl) (by simp [Value.oneCell']) ?_; intro w2 hp; have HM2 := Lib.hid (HM.out _ hp); obtain ⟨t0, t1, t2, t3, t4, t5⟩ := hp.at_.six; clear hp HM HV)
      | (go_at_call 31; (with_reducible refine (HF.out _ _ _ _ _ _ _ _ _ _ HM2.out).mono ?_); rintro _ w3 ⟨rfl, hb3⟩; have HM3 := Lib.hid (HM2.out.step hb3); obtain ⟨s0, s1, s2, s3, s4, s5⟩ := Holds.six HM3.out.box.d; clear hb3 HM2 t0 t1 t2 t3 t4 t5))
    have hM := HM3.out
    have hlen := own_len hM.own.f
    have hS := HM3.out.box.store (i := 5) (Nat.le_refl _) (by simp) (.int .i64 (x + 1))
    have own2 := hM.own.far (grown_set1 w3 w.heap.size 5 (.int .i64 (x + 1))) (hM.own.offLow (by omega))
    have hsz := hM.box.size
    obtain ⟨X1, hX1⟩ : ∃ y, w3.setCell ⟨w.heap.size, 5, none⟩ (.int .i64 (x + 1)) = y := ⟨_, rfl⟩
    rw [hX1] at hS own2
    have ha := alloc_below X1 (.cells #[.int .i64 x, .slice none 0 0, .int .i64 0] 58)
    have own3 := own2.below ha
    have hS3 := hS.step ha (Nat.le_refl _)
    have hs3 := hS3.size
    have hlit := heap_alloc_new X1 (.cells #[.int .i64 x, .slice none 0 0, .int .i64 0] 58)
    obtain ⟨i0, hi0, hz0, hz1, hz2'⟩ := info_parts (P := Try.prog) info_file
    obtain ⟨vf', w5, hr, ho5, hg5, _, hat⟩ := run_append_own_at (P := Try.prog) _ (w.heap.size + 2) 25 25 58 i0 _ 3 40 Try.underlying25 hi0 hz0 hz1 hz2' rfl (by decide) (.slice B1 n1 d1) D.files.length _ own3.f ⟨X1.heap.size, 0, none⟩ 1 1 [.int .i64 x, .slice none 0 0, .int .i64 0] rfl (cells_of_row hlit 0 rfl) (by intro u hu; simp at hu; rcases hu with rfl | rfl | rfl <;> rfl) (by simp only [maxLen]; have := HN1.out; omega) (by have := HN1.out; omega) (by omega)
    have hL5 : Lies (X1.alloc (.cells #[.int .i64 x, .slice none 0 0, .int .i64 0] 58)) (.slice B1 n1 d1) vf' := hat.imp (fun h => h) fun h => ⟨_, h, Nat.le_refl _⟩
    have own5 := own3.created (i := D.next) (nx := D.next + 1) hg5 (by rw [← HX.out]; exact ho5) hL5
    have hS5 := hS3.grown hg5 (Nat.le_refl _) (fun g e => by have := (own3.f.lt g e).1; omega) (by simp)
    obtain ⟨E1, e1, rfl, _, _⟩ := own_form ho5
    have hS6 := hS5.store (i := 1) (Nat.le_refl _) (by simp) (.slice E1 (D.files.length + 1) e1)
    have own6 := own5.far (grown_set1 w5 w.heap.size 1 (.slice E1 (D.files.length + 1) e1)) (own5.offLow (by omega))
    obtain ⟨g0, g1, g2, g3, g4, g5⟩ := Holds.six hS5.d
    have f5 := hM.box.dv.f 5 (by simp)
    have f1 := hS5.dv.f 1 (by simp)
    have hl1 : w.heap.size < w3.heap.size := by omega
    have HS6 := Lib.hid hS6
    have OW6 := Lib.hid own6
    have hsx : X1.heap.size = w3.heap.size := by rw [← hX1]; simp
    rw [hsx] at hr
    rw [← hX1] at hr
    have HR := Lib.hid hr
    clear hM hS own2 hX1 ha own3 hS3 hs3 hlit hz0 hz1 hz2' hi0 hr hat hL5 own5 hS5 hS6 own6 hg5 ho5 hsx hsz HM3
    clear hlen hz hz2
    go_wp2_with (first
      | (at_builtin; refine wpList_append_eq rfl _ _ _ _ rfl _ _ rfl rfl HR.out ?_)
      | (go_at_call 32; (with_reducible refine (HMVX.out _ _ _ _ _ _ _ _ _ _ _ _ _ _ OW6.out HS6.out.size).mono ?_); rintro _ w7 ⟨vf, vn, vk, vm, us', rfl, ho, hb4⟩; obtain ⟨E1', e1', rfl, _, _⟩ := own_form ho.f; obtain ⟨E2, e2, rfl, _, _⟩ := own_form ho.n; obtain ⟨E3, e3, rfl, _, _⟩ := own_form ho.k; obtain ⟨E4, e4, rfl, _, _⟩ := own_form ho.m; have HB4 := Lib.hid (HS6.out.low hb4); have HO := Lib.hid ho; clear ho hb4 g0 g1 g2 g3 g4 g5)
      | (refine wpList_put rfl 29 _ _ rfl (w.heap.size + 1) _ rfl rfl HB4.out.rv (by kernel_rfl) (by simp [Value.oneCell']) ?_; intro y1 hp; obtain ⟨t0, t1, t2, t3, t4, t5⟩ := hp.at_.six))
    exact bodyPost_ret (by simp [results, Try.results14, go_sem, t0, t1, t2, t3, t4, t5]) rfl ⟨_, rfl, ret_own HB4.out (HO.out.base (by omega)) (HO.out.offLow (by omega)) hp HQ.out HX2.out⟩
end Go.Proofs.Ytmkjjcogheidmaa.DP
