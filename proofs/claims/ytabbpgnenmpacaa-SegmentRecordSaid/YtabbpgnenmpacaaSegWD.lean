/-
  The statements of layer 8, walked: a record that is put and taken.
-/
import Derived.Test.YtabbpgnenmpacaaSegWC
set_option linter.unusedSimpArgs false
set_option linter.unusedVariables false
namespace Go.Proofs.Ytabbpgnenmpacaa.SW
open Go Go.RowKit
open CR (below_next own_ge)
open SP (rc_plain)
theorem not_great {r : PR} (h : tooGreat r = false) : r.rungs.length ≤ 1000 ∧ r.path.length ≤ 1000 := by
  unfold tooGreat at h
  rw [Bool.or_eq_false_iff, decide_eq_false_iff_not, decide_eq_false_iff_not] at h
  omega
set_option maxRecDepth 100000 in
set_option maxHeartbeats 2000000 in
theorem record_tail (A : Option Addr) (c : Nat) (r : PR) (hp : Bytes r.path) (hv : vOk r) (v : Value) (l : List Nat) (hl : l.length ≤ 140737488351232) (hb : Bytes l) (w : World) (fr : RgOut w (.slice A r.rungs.length c) r.rungs) (g : ByOut w v l) (hg : tooGreat r = false)
    (hx : (rTake l).2 = 0 ∨ (rTake l).2 ≠ 0) :
    Calls Try.prog 4 #[.agg #[.int .i64 r.kind, .string (strB r.path), .int .i64 r.method, .int .i64 r.factor, .slice A r.rungs.length c, .int .i64 r.rung, .int .i64 r.time, .int .i64 r.now, .int .i64 r.value], v] w fun e w' => e = .returned (.bool true) ∧ Below w.heap.size w w' := by
  have hng := not_great hg
  have O0 := Lib.hid g
  have AL := Lib.hid alive_c
  have hok := rTake_ok hb
  have GR := Lib.hid (fun (W : World) (h : RgOut W (.slice A r.rungs.length c) r.rungs) => great_c (.agg #[.int .i64 r.kind, .string (strB r.path), .int .i64 r.method, .int .i64 r.factor, .slice A r.rungs.length c, .int .i64 r.rung, .int .i64 r.time, .int .i64 r.now, .int .i64 r.value]) r W (rc_mk h))
  have TP := Lib.hid (fun W h => SP.take_c v l hb (by omega) W h)
  have PR' := Lib.hid (fun W (h : RgOut W (.slice A r.rungs.length c) r.rungs) => SP.put_c (.agg #[.int .i64 r.kind, .string (strB r.path), .int .i64 r.method, .int .i64 r.factor, .slice A r.rungs.length c, .int .i64 r.rung, .int .i64 r.time, .int .i64 r.now, .int .i64 r.value]) r hp (by omega) W (rc_mk h))
  have RR' := Lib.hid (fun W (h : RgOut W (.slice A r.rungs.length c) r.rungs) => SR.right_c (.agg #[.int .i64 r.kind, .string (strB r.path), .int .i64 r.method, .int .i64 r.factor, .slice A r.rungs.length c, .int .i64 r.rung, .int .i64 r.time, .int .i64 r.now, .int .i64 r.value]) r hp (by omega) W (rc_mk h))
  have S3 := fun v1 v2 w f1 f2 => CR.same_big v1 v2 l l hl hl w f1 f2
  rw [decide_eq_true rfl] at S3
  have H3 := Lib.hid S3
  have S1 := fun va vb w fa fb => SR.same_c va vb r r hp hp (by omega) (by omega) w fa fb
  rw [decide_eq_true rfl] at S1
  have H1 := Lib.hid S1
  rw [hg] at GR
  have hyes := rTake_yes (l := l)
  obtain ⟨⟨s, x⟩, hT⟩ : ∃ x, rTake l = x := ⟨_, rfl⟩
  rw [hT] at TP hok hyes hx
  have hmk : ∀ (W : World) (A : Option Addr) (c : Nat), RgOut W (.slice A s.rungs.length c) s.rungs → RcOut W (.agg #[.int .i64 s.kind, .string (strB s.path), .int .i64 s.method, .int .i64 s.factor, .slice A s.rungs.length c, .int .i64 s.rung, .int .i64 s.time, .int .i64 s.now, .int .i64 s.value]) s := fun W A c h => rc_mk h
  have hfm : ∀ (B : Nat) (W : World) (v : Value), RcNew B W v s → ∃ A c, v = .agg #[.int .i64 s.kind, .string (strB s.path), .int .i64 s.method, .int .i64 s.factor, .slice A s.rungs.length c, .int .i64 s.rung, .int .i64 s.time, .int .i64 s.now, .int .i64 s.value] ∧ RgOut W (.slice A s.rungs.length c) s.rungs := fun B W v h => rc_form h
  have hmr : ∀ (W : World) (A : Option Addr) (c : Nat), RgOut W (.slice A r.rungs.length c) r.rungs → RcOut W (.agg #[.int .i64 r.kind, .string (strB r.path), .int .i64 r.method, .int .i64 r.factor, .slice A r.rungs.length c, .int .i64 r.rung, .int .i64 r.time, .int .i64 r.now, .int .i64 r.value]) r := fun W A c h => rc_mk h
  have hfr : ∀ (B : Nat) (W : World) (v : Value), RcNew B W v r → ∃ A c, v = .agg #[.int .i64 r.kind, .string (strB r.path), .int .i64 r.method, .int .i64 r.factor, .slice A r.rungs.length c, .int .i64 r.rung, .int .i64 r.time, .int .i64 r.now, .int .i64 r.value] ∧ RgOut W (.slice A r.rungs.length c) r.rungs := fun B W v h => rc_form h
  obtain ⟨ns, hns⟩ : ∃ n, s.rungs.length = n := ⟨_, rfl⟩
  obtain ⟨nr, hnr⟩ : ∃ n, r.rungs.length = n := ⟨_, rfl⟩
  have PS := Lib.hid (fun (v : Value) (W : World) (h : RcOut W v s) => SP.put_c v s hok.1 hok.2 W h)
  have FR := Lib.hid fr
  rw [hns] at hmk hfm
  rw [hnr] at hmr hfr GR PR' RR' FR ⊢
  have HMK := Lib.hid hmk; have HFM := Lib.hid hfm; have HMR := Lib.hid hmr; have HFR := Lib.hid hfr
  have HV := Lib.hid (fun (W : World) => DVar.alloc (w := W) ([.int .i64 0, .string ⟨#[]⟩, .int .i64 0, .int .i64 0, .slice none 0 0, .int .i64 0, .int .i64 0, .int .i64 0, .int .i64 0] : List Value).toArray 27)
  have HH := Lib.hid (holds_alloc w [.int .i64 r.kind, .string (strB r.path), .int .i64 r.method, .int .i64 r.factor, .slice A nr c, .int .i64 r.rung, .int .i64 r.time, .int .i64 r.now, .int .i64 r.value] 27)
  obtain ⟨A0, c0, rfl, _, _⟩ := g
  obtain ⟨n, hn⟩ : ∃ n, l.length = n := ⟨_, rfl⟩
  rw [hn] at O0 TP ⊢
  have TQ := Lib.hid (fun (hr : rRight r = true) (v : Value) (W : World) (h : ByOut W v (rBytes r)) => by
    have h2 := SP.take_c v (rBytes r) (rBytes_bytes hr hp) (by have := rBytes_len hr; omega) W h
    rw [rTake_put hr hv] at h2
    exact h2)
  have hcase : (rRight r = true ∧ rPut r = (rBytes r, 0)) ∨ (rRight r = false ∧ rPut r = ([], 1)) := by
    unfold rPut
    by_cases h : rRight r = true
    · exact Or.inl ⟨h, if_pos h⟩
    · exact Or.inr ⟨by simpa using h, if_neg h⟩
  have HCS := Lib.hid hcase; have HYES := Lib.hid hyes
  clear hT hok S1 S3 hmk hfm hmr hfr hn hl hb hns hnr hcase hyes hng fr hg hp hv
  rcases hx with hx | hx
  · have hxq : (x == 0) = true := by rw [show x = 0 from hx]; rfl
    obtain ⟨hsr, hsb⟩ := HYES.out hx
    change rRight s = true at hsr
    change rBytes s = l at hsb
    have hPs : rPut s = (l, 0) := by unfold rPut; rw [if_pos hsr, hsb]
    rw [hPs] at PS
    clear hx hsr hsb hPs
    go_enter Try.func4, Try.ntmps4
    go_wp2_with fail
    refine (AL.out _).mono ?_; rintro _ w1 ⟨rfl, hb1⟩
    have B1 := Lib.hid (show Below w.heap.size w w1 from (alloc_below w _).trans (hb1.mono (by simp)))
    have H1b := Lib.hid (HH.out.below hb1 : Holds w1 w.heap.size _)
    obtain ⟨r0, r1, r2, r3, r4, r5, r6, r7, r8⟩ := Holds.nine H1b.out
    clear hb1
    go_wp2_with fail
    refine (GR.out _ (FR.out.below B1.out)).mono ?_; rintro _ w2 ⟨rfl, hb2⟩
    have B2 := Lib.hid (below_next B1.out hb2); have H2b := Lib.hid (H1b.out.below hb2 : Holds w2 w.heap.size _)
    clear hb2 r0 r1 r2 r3 r4 r5 r6 r7 r8
    go_wp2_with fail
    refine (TP.out _ (O0.out.below B2.out)).mono ?_; rintro _ w3 ⟨v3, rfl, hr3, hb3⟩
    obtain ⟨A3, c3, rfl, ho3⟩ := HFM.out _ _ _ hr3
    have R3 := Lib.hid ho3; have B3 := Lib.hid (below_next B2.out hb3); have H3b := Lib.hid (H2b.out.below hb3 : Holds w3 w.heap.size _)
    clear hr3 hb3 ho3
    go_wp2_with (refine wpList_put rfl 27 _ _ rfl w3.heap.size [.int .i64 s.kind, .string (strB s.path), .int .i64 s.method, .int .i64 s.factor, .slice A3 ns c3, .int .i64 s.rung, .int .i64 s.time, .int .i64 s.now, .int .i64 s.value] rfl rfl (HV.out w3) (by kernel_rfl) (by simp [Value.oneCell']) ?_; intro w4 hp4; have BP4 := Lib.hid (var_put hp4); obtain ⟨x0, x1, x2, x3, x4, x5, x6, x7, x8⟩ := Holds.nine hp4.at_; clear hp4)
    have B4 := Lib.hid (below_next B3.out BP4.out); have H4b := Lib.hid (H3b.out.below BP4.out : Holds w4 w.heap.size _)
    refine (PS.out _ w4 (HMK.out _ _ _ (R3.out.below BP4.out))).mono ?_; rintro _ w5 ⟨v5, rfl, hn5, hb5⟩
    have O5 := Lib.hid hn5.out; have B5 := Lib.hid (below_next B4.out hb5); have H5b := Lib.hid (H4b.out.below hb5 : Holds w5 w.heap.size _)
    clear hn5 hb5 x0 x1 x2 x3 x4 x5 x6 x7 x8
    go_wp2_with fail
    refine (H3.out _ _ _ (O0.out.below B5.out) O5.out).mono ?_; rintro _ w6 ⟨rfl, hb6⟩
    have B6 := Lib.hid (below_next B5.out hb6); have H6b := Lib.hid (H5b.out.below hb6 : Holds w6 w.heap.size _)
    clear hb6
    obtain ⟨r0, r1, r2, r3, r4, r5, r6, r7, r8⟩ := Holds.nine H6b.out
    rcases HCS.out with ⟨hr, hP⟩ | ⟨hr, hP⟩
    · rw [hP] at PR'
      have TQ1 := Lib.hid (TQ.out hr)
      have hlen := (rBytes_len hr).2
      obtain ⟨Q, hQ⟩ : ∃ Q, rBytes r = Q := ⟨_, rfl⟩
      rw [hQ] at PR' TQ1 hlen
      obtain ⟨m, hm⟩ : ∃ m, Q.length = m := ⟨_, rfl⟩
      rw [hm] at hlen
      have HM := Lib.hid hm
      have hli : (m : Int) ≤ 296 := by omega
      clear hr hP hQ hm
      go_wp2_with fail
      refine (PR'.out _ (FR.out.below B6.out)).mono ?_; rintro _ w7 ⟨v7, rfl, hn7, hb7⟩
      obtain ⟨A7, c7, hv7, _, _⟩ := hn7.form
      rw [HM.out] at hv7
      subst hv7
      have O7 := Lib.hid hn7.out; have B7 := Lib.hid (below_next B6.out hb7); have H7b := Lib.hid (H6b.out.below hb7 : Holds w7 w.heap.size _)
      clear hn7 hb7 r0 r1 r2 r3 r4 r5 r6 r7 r8
      go_wp2_with fail
      refine (TQ1.out _ _ O7.out).mono ?_; rintro _ w8 ⟨v8, rfl, hr8, hb8⟩
      obtain ⟨A8, c8, rfl, ho8⟩ := HFR.out _ _ _ hr8
      have R8 := Lib.hid ho8; have B8 := Lib.hid (below_next B7.out hb8); have H8b := Lib.hid (H7b.out.below hb8 : Holds w8 w.heap.size _)
      clear hr8 hb8 ho8
      go_wp2_with (refine wpList_put rfl 27 _ _ rfl w8.heap.size [.int .i64 r.kind, .string (strB r.path), .int .i64 r.method, .int .i64 r.factor, .slice A8 nr c8, .int .i64 r.rung, .int .i64 r.time, .int .i64 r.now, .int .i64 r.value] rfl rfl (HV.out w8) (by kernel_rfl) (by simp [Value.oneCell']) ?_; intro w9 hp9; have BP9 := Lib.hid (var_put hp9); obtain ⟨x0, x1, x2, x3, x4, x5, x6, x7, x8⟩ := Holds.nine hp9.at_; obtain ⟨r0, r1, r2, r3, r4, r5, r6, r7, r8⟩ := Holds.nine (H8b.out.below BP9.out : Holds w9 w.heap.size _); clear hp9)
      have B9 := Lib.hid (below_next B8.out BP9.out)
      refine (H1.out _ _ _ (HMR.out _ _ _ (R8.out.below BP9.out)) (HMR.out _ _ _ (FR.out.below B9.out))).mono ?_; rintro _ w10 ⟨rfl, hb10⟩
      have B10 := Lib.hid (below_next B9.out hb10)
      clear hb10 x0 x1 x2 x3 x4 x5 x6 x7 x8 r0 r1 r2 r3 r4 r5 r6 r7 r8
      go_wp2
      go_ret
      exact ⟨rfl, B10.out⟩
    · rw [hP] at PR'
      rw [hr] at RR'
      clear hr hP
      go_wp2_with fail
      refine (PR'.out _ (FR.out.below B6.out)).mono ?_; rintro _ w7 ⟨v7, rfl, hn7, hb7⟩
      obtain ⟨A7, c7, hv7, _, _⟩ := hn7.form
      change v7 = .slice A7 0 c7 at hv7
      subst hv7
      have B7 := Lib.hid (below_next B6.out hb7); have H7b := Lib.hid (H6b.out.below hb7 : Holds w7 w.heap.size _)
      clear hn7 hb7 r0 r1 r2 r3 r4 r5 r6 r7 r8
      obtain ⟨r0, r1, r2, r3, r4, r5, r6, r7, r8⟩ := Holds.nine H7b.out
      go_wp2_with fail
      refine (RR'.out _ (FR.out.below B7.out)).mono ?_; rintro _ w8 ⟨rfl, hb8⟩
      have B8 := Lib.hid (below_next B7.out hb8)
      clear hb8 r0 r1 r2 r3 r4 r5 r6 r7 r8
      go_wp2
      go_ret
      exact ⟨rfl, B8.out⟩
  · have hxq : (x == 0) = false := beq_false_of_ne hx
    clear hx
    go_enter Try.func4, Try.ntmps4
    go_wp2_with fail
    refine (AL.out _).mono ?_; rintro _ w1 ⟨rfl, hb1⟩
    have B1 := Lib.hid (show Below w.heap.size w w1 from (alloc_below w _).trans (hb1.mono (by simp)))
    have H1b := Lib.hid (HH.out.below hb1 : Holds w1 w.heap.size _)
    obtain ⟨r0, r1, r2, r3, r4, r5, r6, r7, r8⟩ := Holds.nine H1b.out
    clear hb1
    go_wp2_with fail
    refine (GR.out _ (FR.out.below B1.out)).mono ?_; rintro _ w2 ⟨rfl, hb2⟩
    have B2 := Lib.hid (below_next B1.out hb2); have H2b := Lib.hid (H1b.out.below hb2 : Holds w2 w.heap.size _)
    clear hb2 r0 r1 r2 r3 r4 r5 r6 r7 r8
    go_wp2_with fail
    refine (TP.out _ (O0.out.below B2.out)).mono ?_; rintro _ w3 ⟨v3, rfl, hr3, hb3⟩
    obtain ⟨A3, c3, rfl, ho3⟩ := HFM.out _ _ _ hr3
    have B3 := Lib.hid (below_next B2.out hb3); have H3b := Lib.hid (H2b.out.below hb3 : Holds w3 w.heap.size _)
    clear hr3 hb3 ho3
    go_wp2_with (refine wpList_put rfl 27 _ _ rfl w3.heap.size [.int .i64 s.kind, .string (strB s.path), .int .i64 s.method, .int .i64 s.factor, .slice A3 ns c3, .int .i64 s.rung, .int .i64 s.time, .int .i64 s.now, .int .i64 s.value] rfl rfl (HV.out w3) (by kernel_rfl) (by simp [Value.oneCell']) ?_; intro w6 hp6; have BP6 := Lib.hid (var_put hp6); have B6 := Lib.hid (below_next B3.out BP6.out); have H6b := Lib.hid (H3b.out.below BP6.out : Holds w6 w.heap.size _); obtain ⟨r0, r1, r2, r3, r4, r5, r6, r7, r8⟩ := Holds.nine H6b.out; clear hp6)
    rcases HCS.out with ⟨hr, hP⟩ | ⟨hr, hP⟩
    · rw [hP] at PR'
      have TQ1 := Lib.hid (TQ.out hr)
      have hlen := (rBytes_len hr).2
      obtain ⟨Q, hQ⟩ : ∃ Q, rBytes r = Q := ⟨_, rfl⟩
      rw [hQ] at PR' TQ1 hlen
      obtain ⟨m, hm⟩ : ∃ m, Q.length = m := ⟨_, rfl⟩
      rw [hm] at hlen
      have HM := Lib.hid hm
      have hli : (m : Int) ≤ 296 := by omega
      clear hr hP hQ hm
      refine (PR'.out _ (FR.out.below B6.out)).mono ?_; rintro _ w7 ⟨v7, rfl, hn7, hb7⟩
      obtain ⟨A7, c7, hv7, _, _⟩ := hn7.form
      rw [HM.out] at hv7
      subst hv7
      have O7 := Lib.hid hn7.out; have B7 := Lib.hid (below_next B6.out hb7); have H7b := Lib.hid (H6b.out.below hb7 : Holds w7 w.heap.size _)
      clear hn7 hb7 r0 r1 r2 r3 r4 r5 r6 r7 r8
      go_wp2_with fail
      refine (TQ1.out _ _ O7.out).mono ?_; rintro _ w8 ⟨v8, rfl, hr8, hb8⟩
      obtain ⟨A8, c8, rfl, ho8⟩ := HFR.out _ _ _ hr8
      have R8 := Lib.hid ho8; have B8 := Lib.hid (below_next B7.out hb8); have H8b := Lib.hid (H7b.out.below hb8 : Holds w8 w.heap.size _)
      clear hr8 hb8 ho8
      go_wp2_with (refine wpList_put rfl 27 _ _ rfl w8.heap.size [.int .i64 r.kind, .string (strB r.path), .int .i64 r.method, .int .i64 r.factor, .slice A8 nr c8, .int .i64 r.rung, .int .i64 r.time, .int .i64 r.now, .int .i64 r.value] rfl rfl (HV.out w8) (by kernel_rfl) (by simp [Value.oneCell']) ?_; intro w9 hp9; have BP9 := Lib.hid (var_put hp9); obtain ⟨x0, x1, x2, x3, x4, x5, x6, x7, x8⟩ := Holds.nine hp9.at_; obtain ⟨r0, r1, r2, r3, r4, r5, r6, r7, r8⟩ := Holds.nine (H8b.out.below BP9.out : Holds w9 w.heap.size _); clear hp9)
      have B9 := Lib.hid (below_next B8.out BP9.out)
      refine (H1.out _ _ _ (HMR.out _ _ _ (R8.out.below BP9.out)) (HMR.out _ _ _ (FR.out.below B9.out))).mono ?_; rintro _ w10 ⟨rfl, hb10⟩
      have B10 := Lib.hid (below_next B9.out hb10)
      clear hb10 x0 x1 x2 x3 x4 x5 x6 x7 x8 r0 r1 r2 r3 r4 r5 r6 r7 r8
      go_wp2
      go_ret
      exact ⟨rfl, B10.out⟩
    · rw [hP] at PR'
      rw [hr] at RR'
      clear hr hP
      refine (PR'.out _ (FR.out.below B6.out)).mono ?_; rintro _ w7 ⟨v7, rfl, hn7, hb7⟩
      obtain ⟨A7, c7, hv7, _, _⟩ := hn7.form
      change v7 = .slice A7 0 c7 at hv7
      subst hv7
      have B7 := Lib.hid (below_next B6.out hb7); have H7b := Lib.hid (H6b.out.below hb7 : Holds w7 w.heap.size _)
      clear hn7 hb7 r0 r1 r2 r3 r4 r5 r6 r7 r8
      obtain ⟨r0, r1, r2, r3, r4, r5, r6, r7, r8⟩ := Holds.nine H7b.out
      go_wp2_with fail
      refine (RR'.out _ (FR.out.below B7.out)).mono ?_; rintro _ w8 ⟨rfl, hb8⟩
      have B8 := Lib.hid (below_next B7.out hb8)
      clear hb8 r0 r1 r2 r3 r4 r5 r6 r7 r8
      go_wp2
      go_ret
      exact ⟨rfl, B8.out⟩
set_option maxRecDepth 100000 in
set_option maxHeartbeats 2000000 in
theorem segmentRecord_c (vr : Value) (r : PR) (hp : Bytes r.path) (hv : vOk r) (v : Value) (l : List Nat) (hl : l.length ≤ 140737488351232) (hb : Bytes l) (w : World) (fr : RcOut w vr r) (g : ByOut w v l) :
    Calls Try.prog 4 #[vr, v] w fun e w' => e = .returned (.bool true) ∧ Below w.heap.size w w' := by
  obtain ⟨u, rfl, hu⟩ := fr
  obtain ⟨A, c, rfl, _, _⟩ := id hu
  change Calls Try.prog 4 #[.agg #[.int .i64 r.kind, .string (strB r.path), .int .i64 r.method, .int .i64 r.factor, .slice A r.rungs.length c, .int .i64 r.rung, .int .i64 r.time, .int .i64 r.now, .int .i64 r.value], v] w _
  by_cases hg : tooGreat r = false
  · exact record_tail A c r hp hv v l hl hb w hu g hg (by by_cases h : (rTake l).2 = 0; exact Or.inl h; exact Or.inr h)
  · have hg2 : tooGreat r = true := by simpa using hg
    have AL := Lib.hid alive_c
    have GR := Lib.hid (fun (W : World) (h : RgOut W (.slice A r.rungs.length c) r.rungs) => great_c (.agg #[.int .i64 r.kind, .string (strB r.path), .int .i64 r.method, .int .i64 r.factor, .slice A r.rungs.length c, .int .i64 r.rung, .int .i64 r.time, .int .i64 r.now, .int .i64 r.value]) r W (rc_mk h))
    rw [hg2] at GR
    have FR := Lib.hid hu
    obtain ⟨nr, hnr⟩ : ∃ n, r.rungs.length = n := ⟨_, rfl⟩
    rw [hnr] at GR FR ⊢
    have HH := Lib.hid (holds_alloc w [.int .i64 r.kind, .string (strB r.path), .int .i64 r.method, .int .i64 r.factor, .slice A nr c, .int .i64 r.rung, .int .i64 r.time, .int .i64 r.now, .int .i64 r.value] 27)
    clear hg hg2 hu hnr hp hv hl hb g
    go_enter Try.func4, Try.ntmps4
    go_wp2_with fail
    refine (AL.out _).mono ?_; rintro _ w1 ⟨rfl, hb1⟩
    have B1 := Lib.hid (show Below w.heap.size w w1 from (alloc_below w _).trans (hb1.mono (by simp)))
    obtain ⟨r0, r1, r2, r3, r4, r5, r6, r7, r8⟩ := Holds.nine (HH.out.below hb1 : Holds w1 w.heap.size _)
    clear hb1
    go_wp2_with fail
    refine (GR.out _ (FR.out.below B1.out)).mono ?_; rintro _ w2 ⟨rfl, hb2⟩
    have B2 := Lib.hid (below_next B1.out hb2)
    clear hb2 r0 r1 r2 r3 r4 r5 r6 r7 r8
    go_wp2
    go_ret
    exact ⟨rfl, B2.out⟩
end Go.Proofs.Ytabbpgnenmpacaa.SW
