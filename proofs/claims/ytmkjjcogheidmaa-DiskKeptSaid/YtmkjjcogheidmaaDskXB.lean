/-
  The calls on a disk that copy it first: what they share; Remove and SyncDir.
-/
import Derived.Test.YtmkjjcogheidmaaDskXA
set_option linter.unusedSimpArgs false
set_option linter.unusedVariables false
namespace Go.Proofs.Ytmkjjcogheidmaa.DP
open Go.RowKit
theorem BoxR.low {w W W' : World} {cs : List Value} (h : BoxR w.heap.size w W cs) (hb : Below (w.heap.size + 2) W W') : BoxR w.heap.size w W' cs := by
  have c : ∀ b o, b < w.heap.size + 2 → W'.cell? ⟨b, o, none⟩ = W.cell? ⟨b, o, none⟩ := fun b o hb' => hb.cell (p := ⟨b, o, none⟩) hb'
  have f : ∀ b o, b < w.heap.size + 2 → W'.frozen? ⟨b, o, none⟩ = W.frozen? ⟨b, o, none⟩ := fun b o hb' => hb.frozen (p := ⟨b, o, none⟩) hb'
  exact ⟨fun j v hj => (c _ _ (by omega)).trans (h.d j v hj), ⟨Nat.lt_of_lt_of_le h.dv.lt hb.size, fun i hi => by obtain ⟨u, hu⟩ := h.dv.c i hi; exact ⟨u, (c _ _ (by omega)).trans hu⟩, fun i hi => (f _ _ (by omega)).trans (h.dv.f i hi)⟩, ⟨Nat.lt_of_lt_of_le h.rv.lt hb.size, fun i hi => by obtain ⟨u, hu⟩ := h.rv.c i hi; exact ⟨u, (c _ _ (by omega)).trans hu⟩, fun i hi => (f _ _ (by omega)).trans (h.rv.f i hi)⟩, h.below.trans (hb.mono (by omega)), Nat.le_trans h.size hb.size⟩
theorem copied_mid {S : Nat → Prop} {w W0 : World} {D : PD} {q x : Int} {A1 A2 A3 A4 : Option Addr} {n1 c1 n2 c2 n3 c3 n4 c4 : Nat} {cs : List Value} (h : DkIn S w (.agg #[.int .i64 q, .slice A1 n1 c1, .slice A2 n2 c2, .slice A3 n3 c3, .slice A4 n4 c4, .int .i64 x]) D) (hB0 : BoxR w.heap.size w W0 cs) (hc : cs.length = 6) :
    Calls Try.prog 30 #[.agg #[.int .i64 q, .slice A1 n1 c1, .slice A2 n2 c2, .slice A3 n3 c3, .slice A4 n4 c4, .int .i64 x]] W0 fun e w1 => ∃ B1 d1 B2 d2 B3 d3 B4 d4 us, e = .returned (.agg #[.int .i64 q, .slice B1 n1 d1, .slice B2 n2 d2, .slice B3 n3 d3, .slice B4 n4 d4, .int .i64 x]) ∧ Hid (DVar w1 w.heap.size 6) ∧
      Hid (∀ w2, Put w1 w2 w.heap.size [.int .i64 q, .slice B1 n1 d1, .slice B2 n2 d2, .slice B3 n3 d3, .slice B4 n4 d4, .int .i64 x] → Mid w w2 q x (.slice B1 n1 d1) (.slice B2 n2 d2) (.slice B3 n3 d3) (.slice B4 n4 d4) us D) := by
  have hL := h.lets
  refine (copied_c (h.below hB0.below)).mono ?_
  rintro _ w1 ⟨⟨vf, vn, vk, vm, us, rfl, ho⟩, hb1⟩
  obtain ⟨B1, d1, rfl, _, _⟩ := own_form ho.f
  obtain ⟨B2, d2, rfl, _, _⟩ := own_form ho.n
  obtain ⟨B3, d3, rfl, _, _⟩ := own_form ho.k
  obtain ⟨B4, d4, rfl, _, _⟩ := own_form ho.m
  have e1 := hL.h1; have e2 := hL.h2; have e3 := hL.h3; have e4 := hL.h4
  have hdv := (hB0.step hb1 (Nat.le_refl _)).dv
  rw [hc] at hdv
  clear hL h
  subst e1 e2 e3 e4
  exact ⟨B1, d1, B2, d2, B3, d3, B4, d4, us, rfl, Lib.hid hdv, Lib.hid fun w2 hp => mid_of hB0 ho hb1 hp⟩
set_option maxRecDepth 100000 in
set_option maxHeartbeats 2000000 in
theorem remove_c {S : Nat → Prop} {D D' : PD} {r : Int} {s : ByteArray} {v : Value} {w : World} (he : pRemove D s = (D', r)) (hs : okN s) (h : DkIn S w v D) : Calls Try.prog 26 #[v, .string s] w (DkRet S D' r w) := by
  obtain ⟨q, A1, n1, c1, A2, n2, c2, A3, n3, c3, A4, n4, c4, x, rfl⟩ := h.form
  have hL := h.lets
  have hq := hL.hq; have hx := hL.hx
  have hi := h.inv; have hf := h.few
  have HCP := Lib.hid (copied_mid h (boxR_of w (Nat.le_refl _) #[.int .i64 q, .slice A1 n1 c1, .slice A2 n2 c2, .slice A3 n3 c3, .slice A4 n4 c4, .int .i64 x] 29) rfl)
  by_cases hn : nHas s D.names
  · have HF := Lib.hid (fun (W : World) (B1 B2 B3 B4 : Option Addr) (d1 d2 d3 d4 : Nat) (us : List Value) (hm : Mid w W q x (.slice B1 n1 d1) (.slice B2 n2 d2) (.slice B3 n3 d3) (.slice B4 n4 d4) us D) => fileYes_c (hm.in_ hq hx hi hf) hs hn)
    have HMV : Hid (∀ (W : World) (B1 B2 B3 B4 : Option Addr) (d1 d2 d3 d4 : Nat) (us : List Value), Mid w W q x (.slice B1 n1 d1) (.slice B2 n2 d2) (.slice B3 n3 d3) (.slice B4 n4 d4) us D → Calls Try.prog 32 #[.agg #[.int .i64 q, .slice B1 n1 d1, .slice B2 n2 d2, .slice B3 n3 d3, .slice B4 n4 d4, .int .i64 x], .agg #[.int .i64 2, .string s, .string ⟨#[]⟩, .int .i64 0]] W (OwnRet (w.heap.size + 2) (pMoved D ⟨2, s, noN, 0⟩) W q x)) := Lib.hid fun W B1 B2 B3 B4 d1 d2 d3 d4 us hm => by
      have := moved_c (q := q) (x := x) (kz := 2) (m := ⟨2, s, noN, 0⟩) (ids := []) hm.own hm.box.size hi.dir.sorted ⟨hs, .inr (.inl ⟨rfl, hn, rfl, rfl⟩)⟩ (by have := hi.namesFew; omega) (by omega) rfl
      exact this
    have he2 : pMoved D ⟨2, s, noN, 0⟩ = D' ∧ (0 : Int) = r := by
      unfold pRemove at he
      rw [if_neg (by simpa using hn)] at he
      exact ⟨congrArg Prod.fst he, congrArg Prod.snd he⟩
    obtain ⟨rfl, rfl⟩ := he2
    have HQ := Lib.hid hq; have HX := Lib.hid hx
    clear he hL h hi hf hs hn hq hx
    go_enter Try.func26, Try.ntmps26
    go_wp2_with (first
      | (go_at_call 30; (with_reducible refine HCP.out.mono ?_); rintro _ w1 ⟨B1, d1, B2, d2, B3, d3, B4, d4, us, rfl, HV, HM⟩)
      | (refine wpList_put rfl 29 _ _ rfl (w.heap.size) _ rfl rfl HV.out (by kernel_rfl) (by simp [Value.oneCell']) ?_; intro w2 hp; have HM2 := Lib.hid (HM.out _ hp); obtain ⟨t0, t1, t2, t3, t4, t5⟩ := hp.at_.six; clear hp HM HV)
      | (go_at_call 31; (with_reducible refine (HF.out _ _ _ _ _ _ _ _ _ _ HM2.out).mono ?_); rintro _ w3 ⟨⟨b, off, rfl, rfl⟩, hb3⟩; have HM3 := Lib.hid (HM2.out.step hb3); obtain ⟨s0, s1, s2, s3, s4, s5⟩ := Holds.six HM3.out.box.d; clear hb3 HM2 t0 t1 t2 t3 t4 t5)
      | (go_at_call 32; (with_reducible refine (HMV.out _ _ _ _ _ _ _ _ _ _ HM3.out).mono ?_); rintro _ w4 ⟨vf, vn, vk, vm, us', rfl, ho, hb4⟩; obtain ⟨E1, e1, rfl, _, _⟩ := own_form ho.f; obtain ⟨E2, e2, rfl, _, _⟩ := own_form ho.n; obtain ⟨E3, e3, rfl, _, _⟩ := own_form ho.k; obtain ⟨E4, e4, rfl, _, _⟩ := own_form ho.m; have HB4 := Lib.hid (HM3.out.box.low hb4); have HO := Lib.hid ho; clear ho hb4 HM3 s0 s1 s2 s3 s4 s5)
      | (refine wpList_put rfl 29 _ _ rfl (w.heap.size + 1) _ rfl rfl HB4.out.rv (by kernel_rfl) (by simp [Value.oneCell']) ?_; intro y1 hp; obtain ⟨t0, t1, t2, t3, t4, t5⟩ := hp.at_.six))
    exact bodyPost_ret (by simp [results, Try.results26, go_sem, t0, t1, t2, t3, t4, t5]) rfl ⟨_, rfl, ret_own HB4.out (HO.out.base (by omega)) (HO.out.offLow (by omega)) hp HQ.out HX.out⟩
  · have HF := Lib.hid (fun (W : World) (B1 B2 B3 B4 : Option Addr) (d1 d2 d3 d4 : Nat) (us : List Value) (hm : Mid w W q x (.slice B1 n1 d1) (.slice B2 n2 d2) (.slice B3 n3 d3) (.slice B4 n4 d4) us D) => fileNo_c (hm.in_ hq hx hi hf) hs hn)
    have he2 : D = D' ∧ (4 : Int) = r := by
      unfold pRemove at he
      rw [if_pos hn] at he
      exact ⟨congrArg Prod.fst he, congrArg Prod.snd he⟩
    obtain ⟨rfl, rfl⟩ := he2
    have HQ := Lib.hid hq; have HX := Lib.hid hx
    clear he hL h hi hf hs hn hq hx
    go_enter Try.func26, Try.ntmps26
    go_wp2_with (first
      | (go_at_call 30; (with_reducible refine HCP.out.mono ?_); rintro _ w1 ⟨B1, d1, B2, d2, B3, d3, B4, d4, us, rfl, HV, HM⟩)
      | (refine wpList_put rfl 29 _ _ rfl (w.heap.size) _ rfl rfl HV.out (by kernel_rfl) (by simp [Value.oneCell']) ?_; intro w2 hp; have HM2 := Lib.hid (HM.out _ hp); obtain ⟨t0, t1, t2, t3, t4, t5⟩ := hp.at_.six; clear hp HM HV)
      | (go_at_call 31; (with_reducible refine (HF.out _ _ _ _ _ _ _ _ _ _ HM2.out).mono ?_); rintro _ w3 ⟨rfl, hb3⟩; have HM3 := Lib.hid (HM2.out.step hb3); obtain ⟨s0, s1, s2, s3, s4, s5⟩ := Holds.six HM3.out.box.d; clear hb3 HM2 t0 t1 t2 t3 t4 t5)
      | (refine wpList_put rfl 29 _ _ rfl (w.heap.size + 1) _ rfl rfl HM3.out.box.rv (by kernel_rfl) (by simp [Value.oneCell']) ?_; intro y1 hp; obtain ⟨t0, t1, t2, t3, t4, t5⟩ := hp.at_.six))
    exact bodyPost_ret (by simp [results, Try.results26, go_sem, t0, t1, t2, t3, t4, t5]) rfl ⟨_, rfl, HM3.out.ret hp HQ.out HX.out⟩
end Go.Proofs.Ytmkjjcogheidmaa.DP
