/-
  SyncDir and Rename.
-/
import Derived.Test.YtmkjjcogheidmaaDskXB
import Derived.Laws.Cover1
set_option linter.unusedSimpArgs false
set_option linter.unusedVariables false
namespace Go.Proofs.Ytmkjjcogheidmaa.DP
open Go.RowKit
theorem set_names {base : Nat} {w : World} {vf vn vk vm : Value} {us : List Value} {D : PD} (h : DkOwn base w vf vn vk vm us D) : SetIn base w vf vn us D.files D.names :=
  ⟨h.hu, h.f, h.n, h.by_, h.apart.sublist (List.Sublist.cons_cons _ (List.Sublist.cons _ (List.Sublist.cons _ (List.Sublist.refl _))))⟩
theorem id_small {D : PD} (h : PInv D) {i : Nat} (hi : i ∈ D.files.map PF.id) : i ≤ 1099511627776 := by
  obtain ⟨f, hf, rfl⟩ := List.mem_map.1 hi
  have := (h.fok f hf).2.1
  have := h.next2
  omega
set_option maxRecDepth 100000 in
set_option maxHeartbeats 2000000 in
theorem syncDir_c {S : Nat → Prop} {D : PD} {v : Value} {w : World} (h : DkIn S w v D) : Calls Try.prog 17 #[v] w (DkRet S (pSyncDir D) 0 w) := by
  obtain ⟨q, A1, n1, c1, A2, n2, c2, A3, n3, c3, A4, n4, c4, x, rfl⟩ := h.form
  have hL := h.lets
  have hq := hL.hq; have hx := hL.hx
  have hi := h.inv; have hf := h.few
  have HQ := Lib.hid hq; have HX := Lib.hid hx
  have HCP := Lib.hid (copied_mid h (boxR_of w (Nat.le_refl _) #[.int .i64 q, .slice A1 n1 c1, .slice A2 n2 c2, .slice A3 n3 c3, .slice A4 n4 c4, .int .i64 x] 29) rfl)
  have HR := Lib.hid (fun (W : World) (B1 B2 B3 B4 : Option Addr) (d1 d2 d3 d4 : Nat) (us : List Value) (hm : Mid w W q x (.slice B1 n1 d1) (.slice B2 n2 d2) (.slice B3 n3 d3) (.slice B4 n4 d4) us D) => right_c (hm.in_ hq hx hi hf))
  have HST : Hid (∀ (W : World) (B1 B2 B3 B4 : Option Addr) (d1 d2 d3 d4 : Nat) (us : List Value), Mid w W q x (.slice B1 n1 d1) (.slice B2 n2 d2) (.slice B3 n3 d3) (.slice B4 n4 d4) us D → Calls Try.prog 33 #[.agg #[.int .i64 q, .slice B1 n1 d1, .slice B2 n2 d2, .slice B3 n3 d3, .slice B4 n4 d4, .int .i64 x], .slice B2 n2 d2] W (OwnRet (w.heap.size + 2) (pSettle D D.names) W q x)) := Lib.hid fun W B1 B2 B3 B4 d1 d2 d3 d4 us hm => settled_c (set_names hm.own) hm.box.size (by have := hi.namesFew; omega) hi.dir.nd (fun n hn => id_small hi (hi.dir.sub n hn)) (fun f hf => id_small hi (List.mem_map_of_mem hf)) (by have := hi.f256; omega)
  clear hL h hi hf hq hx
  go_enter Try.func17, Try.ntmps17
  go_wp2_with (first
      | (go_at_call 30; (with_reducible refine HCP.out.mono ?_); rintro _ w1 ⟨B1, d1, B2, d2, B3, d3, B4, d4, us, rfl, HV, HM⟩)
      | (refine wpList_put rfl 29 _ _ rfl (w.heap.size) _ rfl rfl HV.out (by kernel_rfl) (by simp [Value.oneCell']) ?_; intro w2 hp; have HM2 := Lib.hid (HM.out _ hp); obtain ⟨t0, t1, t2, t3, t4, t5⟩ := hp.at_.six; clear hp HM HV)
      | (go_at_call 11; (with_reducible refine (HR.out _ _ _ _ _ _ _ _ _ _ HM2.out).mono ?_); rintro _ w3 ⟨rfl, hb3⟩; have HM3 := Lib.hid (HM2.out.step hb3); obtain ⟨s0, s1, s2, s3, s4, s5⟩ := Holds.six HM3.out.box.d; clear hb3 HM2 t0 t1 t2 t3 t4 t5)
      | (go_at_call 33; (with_reducible refine (HST.out _ _ _ _ _ _ _ _ _ _ HM3.out).mono ?_); rintro _ w4 ⟨vf, vn, vk, vm, us', rfl, ho, hb4⟩; obtain ⟨E1, e1, rfl, _, _⟩ := own_form ho.f; obtain ⟨E2, e2, rfl, _, _⟩ := own_form ho.n; obtain ⟨E3, e3, rfl, _, _⟩ := own_form ho.k; obtain ⟨E4, e4, rfl, _, _⟩ := own_form ho.m; have HB4 := Lib.hid (HM3.out.box.low hb4); have HO := Lib.hid ho; clear ho hb4 HM3 s0 s1 s2 s3 s4 s5)
      | (refine wpList_put rfl 29 _ _ rfl (w.heap.size + 1) _ rfl rfl HB4.out.rv (by kernel_rfl) (by simp [Value.oneCell']) ?_; intro y1 hp; obtain ⟨t0, t1, t2, t3, t4, t5⟩ := hp.at_.six))
  exact bodyPost_ret (by simp [results, Try.results17, go_sem, t0, t1, t2, t3, t4, t5]) rfl ⟨_, rfl, ret_own HB4.out (HO.out.base (by omega)) (HO.out.offLow (by omega)) hp HQ.out HX.out⟩
set_option maxRecDepth 100000 in
set_option maxHeartbeats 2000000 in
theorem rename_c {S : Nat → Prop} {D D' : PD} {r : Int} {s t : ByteArray} {v : Value} {w : World} (he : pRename D s t = (D', r)) (hs : okN s) (ht : okN t) (h : DkIn S w v D) : Calls Try.prog 20 #[v, .string s, .string t] w (DkRet S D' r w) := by
  obtain ⟨q, A1, n1, c1, A2, n2, c2, A3, n3, c3, A4, n4, c4, x, rfl⟩ := h.form
  have hL := h.lets
  have hq := hL.hq; have hx := hL.hx
  have hi := h.inv; have hf := h.few
  have HQ := Lib.hid hq; have HX := Lib.hid hx
  have HCP := Lib.hid (copied_mid h (boxR_of w (Nat.le_refl _) #[.int .i64 q, .slice A1 n1 c1, .slice A2 n2 c2, .slice A3 n3 c3, .slice A4 n4 c4, .int .i64 x] 29) rfl)
  have HMB := Lib.hid (fun W => mayBe_c t ht W)
  by_cases hn : nHas s D.names
  · by_cases hst : s = t
    · have HF := Lib.hid (fun (W : World) (B1 B2 B3 B4 : Option Addr) (d1 d2 d3 d4 : Nat) (us : List Value) (hm : Mid w W q x (.slice B1 n1 d1) (.slice B2 n2 d2) (.slice B3 n3 d3) (.slice B4 n4 d4) us D) => fileYes_c (hm.in_ hq hx hi hf) hs hn)
      have he2 : D = D' ∧ (0 : Int) = r := by
        unfold pRename at he
        rw [if_neg (by simpa using hn), if_pos hst] at he
        exact ⟨congrArg Prod.fst he, congrArg Prod.snd he⟩
      obtain ⟨rfl, rfl⟩ := he2
      subst hst
      clear he hL h hi hf hs ht hn hq hx
      go_enter Try.func20, Try.ntmps20
      go_wp2_with (first
        | (go_at_call 30; (with_reducible refine HCP.out.mono ?_); rintro _ w1 ⟨B1, d1, B2, d2, B3, d3, B4, d4, us, rfl, HV, HM⟩)
        | (refine wpList_put rfl 29 _ _ rfl (w.heap.size) _ rfl rfl HV.out (by kernel_rfl) (by simp [Value.oneCell']) ?_; intro w2 hp; have HM2 := Lib.hid (HM.out _ hp); obtain ⟨t0, t1, t2, t3, t4, t5⟩ := hp.at_.six; clear hp HM HV)
        | (go_at_call 38; (with_reducible refine (HMB.out _).mono ?_); rintro _ _ ⟨rfl, rfl⟩)
        | (go_at_call 31; (with_reducible refine (HF.out _ _ _ _ _ _ _ _ _ _ HM2.out).mono ?_); rintro _ w3 ⟨⟨b, off, rfl, rfl⟩, hb3⟩; have HM3 := Lib.hid (HM2.out.step hb3); obtain ⟨s0, s1, s2, s3, s4, s5⟩ := Holds.six HM3.out.box.d; clear hb3 HM2 t0 t1 t2 t3 t4 t5)
        | (refine wpList_put rfl 29 _ _ rfl (w.heap.size + 1) _ rfl rfl HM3.out.box.rv (by kernel_rfl) (by simp [Value.oneCell']) ?_; intro y1 hp; obtain ⟨t0, t1, t2, t3, t4, t5⟩ := hp.at_.six))
      exact bodyPost_ret (by simp [results, Try.results20, go_sem, t0, t1, t2, t3, t4, t5]) rfl ⟨_, rfl, HM3.out.ret hp HQ.out HX.out⟩
    · have HF := Lib.hid (fun (W : World) (B1 B2 B3 B4 : Option Addr) (d1 d2 d3 d4 : Nat) (us : List Value) (hm : Mid w W q x (.slice B1 n1 d1) (.slice B2 n2 d2) (.slice B3 n3 d3) (.slice B4 n4 d4) us D) => fileYes_c (hm.in_ hq hx hi hf) hs hn)
      have HMV : Hid (∀ (W : World) (B1 B2 B3 B4 : Option Addr) (d1 d2 d3 d4 : Nat) (us : List Value), Mid w W q x (.slice B1 n1 d1) (.slice B2 n2 d2) (.slice B3 n3 d3) (.slice B4 n4 d4) us D → Calls Try.prog 32 #[.agg #[.int .i64 q, .slice B1 n1 d1, .slice B2 n2 d2, .slice B3 n3 d3, .slice B4 n4 d4, .int .i64 x], .agg #[.int .i64 3, .string s, .string t, .int .i64 0]] W (OwnRet (w.heap.size + 2) (pMoved D ⟨3, s, t, 0⟩) W q x)) := Lib.hid fun W B1 B2 B3 B4 d1 d2 d3 d4 us hm => by
        have := moved_c (q := q) (x := x) (kz := 3) (m := ⟨3, s, t, 0⟩) (ids := []) hm.own hm.box.size hi.dir.sorted ⟨hs, .inr (.inr ⟨rfl, hn, ht, fun e => hst e.symm, rfl⟩)⟩ (by have := hi.namesFew; omega) (by omega) rfl
        exact this
      have he2 : pMoved D ⟨3, s, t, 0⟩ = D' ∧ (0 : Int) = r := by
        unfold pRename at he
        rw [if_neg (by simpa using hn), if_neg hst] at he
        exact ⟨congrArg Prod.fst he, congrArg Prod.snd he⟩
      obtain ⟨rfl, rfl⟩ := he2
      have hne2 : ¬ s.toList = t.toList := fun e => hst (sl_inj (by rw [ByteArray.toList_eq, ByteArray.toList_eq] at e; exact e))
      have hne3 : (s.toList == t.toList) = false := by simpa using hne2
      clear he hL h hi hf hs ht hn hst hq hx
      go_enter Try.func20, Try.ntmps20
      go_wp2_with (first
        | (go_at_call 30; (with_reducible refine HCP.out.mono ?_); rintro _ w1 ⟨B1, d1, B2, d2, B3, d3, B4, d4, us, rfl, HV, HM⟩)
        | (refine wpList_put rfl 29 _ _ rfl (w.heap.size) _ rfl rfl HV.out (by kernel_rfl) (by simp [Value.oneCell']) ?_; intro w2 hp; have HM2 := Lib.hid (HM.out _ hp); obtain ⟨t0, t1, t2, t3, t4, t5⟩ := hp.at_.six; clear hp HM HV)
        | (go_at_call 38; (with_reducible refine (HMB.out _).mono ?_); rintro _ _ ⟨rfl, rfl⟩)
        | (go_at_call 31; (with_reducible refine (HF.out _ _ _ _ _ _ _ _ _ _ HM2.out).mono ?_); rintro _ w3 ⟨⟨b, off, rfl, rfl⟩, hb3⟩; have HM3 := Lib.hid (HM2.out.step hb3); obtain ⟨s0, s1, s2, s3, s4, s5⟩ := Holds.six HM3.out.box.d; clear hb3 HM2 t0 t1 t2 t3 t4 t5)
        | (go_at_call 32; (with_reducible refine (HMV.out _ _ _ _ _ _ _ _ _ _ HM3.out).mono ?_); rintro _ w4 ⟨vf, vn, vk, vm, us', rfl, ho, hb4⟩; obtain ⟨E1, e1, rfl, _, _⟩ := own_form ho.f; obtain ⟨E2, e2, rfl, _, _⟩ := own_form ho.n; obtain ⟨E3, e3, rfl, _, _⟩ := own_form ho.k; obtain ⟨E4, e4, rfl, _, _⟩ := own_form ho.m; have HB4 := Lib.hid (HM3.out.box.low hb4); have HO := Lib.hid ho; clear ho hb4 HM3 s0 s1 s2 s3 s4 s5)
        | (refine wpList_put rfl 29 _ _ rfl (w.heap.size + 1) _ rfl rfl HB4.out.rv (by kernel_rfl) (by simp [Value.oneCell']) ?_; intro y1 hp; obtain ⟨t0, t1, t2, t3, t4, t5⟩ := hp.at_.six))
      exact bodyPost_ret (by simp [results, Try.results20, go_sem, t0, t1, t2, t3, t4, t5]) rfl ⟨_, rfl, ret_own HB4.out (HO.out.base (by omega)) (HO.out.offLow (by omega)) hp HQ.out HX.out⟩
  · have HF := Lib.hid (fun (W : World) (B1 B2 B3 B4 : Option Addr) (d1 d2 d3 d4 : Nat) (us : List Value) (hm : Mid w W q x (.slice B1 n1 d1) (.slice B2 n2 d2) (.slice B3 n3 d3) (.slice B4 n4 d4) us D) => fileNo_c (hm.in_ hq hx hi hf) hs hn)
    have he2 : D = D' ∧ (4 : Int) = r := by
      unfold pRename at he
      rw [if_pos hn] at he
      exact ⟨congrArg Prod.fst he, congrArg Prod.snd he⟩
    obtain ⟨rfl, rfl⟩ := he2
    clear he hL h hi hf hs ht hn hq hx
    go_enter Try.func20, Try.ntmps20
    go_wp2_with (first
      | (go_at_call 30; (with_reducible refine HCP.out.mono ?_); rintro _ w1 ⟨B1, d1, B2, d2, B3, d3, B4, d4, us, rfl, HV, HM⟩)
      | (refine wpList_put rfl 29 _ _ rfl (w.heap.size) _ rfl rfl HV.out (by kernel_rfl) (by simp [Value.oneCell']) ?_; intro w2 hp; have HM2 := Lib.hid (HM.out _ hp); obtain ⟨t0, t1, t2, t3, t4, t5⟩ := hp.at_.six; clear hp HM HV)
      | (go_at_call 38; (with_reducible refine (HMB.out _).mono ?_); rintro _ _ ⟨rfl, rfl⟩)
      | (go_at_call 31; (with_reducible refine (HF.out _ _ _ _ _ _ _ _ _ _ HM2.out).mono ?_); rintro _ w3 ⟨rfl, hb3⟩; have HM3 := Lib.hid (HM2.out.step hb3); obtain ⟨s0, s1, s2, s3, s4, s5⟩ := Holds.six HM3.out.box.d; clear hb3 HM2 t0 t1 t2 t3 t4 t5)
      | (refine wpList_put rfl 29 _ _ rfl (w.heap.size + 1) _ rfl rfl HM3.out.box.rv (by kernel_rfl) (by simp [Value.oneCell']) ?_; intro y1 hp; obtain ⟨t0, t1, t2, t3, t4, t5⟩ := hp.at_.six))
    exact bodyPost_ret (by simp [results, Try.results20, go_sem, t0, t1, t2, t3, t4, t5]) rfl ⟨_, rfl, HM3.out.ret hp HQ.out HX.out⟩
end Go.Proofs.Ytmkjjcogheidmaa.DP
