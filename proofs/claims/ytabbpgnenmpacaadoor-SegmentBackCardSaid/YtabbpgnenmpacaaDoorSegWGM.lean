/-
  The statements of layer 8, walked: what is written is scanned as it was, and of a beginning the records that are whole.
-/
import Derived.Test.YtabbpgnenmpacaaDoorSegWFM
import Derived.Test.YtabbpgnenmpacaaDoorSegRefHM
set_option linter.unusedSimpArgs false
set_option linter.unusedVariables false
namespace Go.Proofs.YtabbpgnenmpacaaDoor.SW
open Go Go.RowKit
open CR (below_next own_ge)
open SP (rc_plain)
theorem not_great {r : PR} (h : tooGreat r = false) : r.rungs.length ≤ 1000 ∧ r.path.length ≤ 1000 := by
  unfold tooGreat at h
  rw [Bool.or_eq_false_iff, decide_eq_false_iff_not, decide_eq_false_iff_not] at h
  omega
theorem stop_at (f : Nat → Nat) (e : Nat) (h0 : f 0 ≤ e) : ∀ n : Nat, ∃ k, k ≤ n ∧ (∀ j, j ≤ k → f j ≤ e) ∧ (k < n → e < f (k + 1))
  | 0 => ⟨0, Nat.le_refl _, fun j hj => by obtain rfl : j = 0 := by omega
                                           exact h0, fun h => absurd h (Nat.lt_irrefl _)⟩
  | n + 1 => by
    obtain ⟨k, h1, h2, h3⟩ := stop_at f e h0 n
    by_cases hk : k < n
    · exact ⟨k, by omega, h2, fun _ => h3 hk⟩
    · obtain rfl : k = n := by omega
      by_cases hf : f (k + 1) ≤ e
      · refine ⟨k + 1, Nat.le_refl _, fun j hj => ?_, fun h => absurd h (Nat.lt_irrefl _)⟩
        rcases Nat.lt_or_ge j (k + 1) with h | h
        · exact h2 j (by omega)
        · obtain rfl : j = k + 1 := by omega
          exact hf
      · exact ⟨k, by omega, h2, fun _ => by omega⟩
theorem sFlat_one (ls : List PR) (k : Nat) (q : PR) (h : ls[k]? = some q) : sSz (ls.take (k + 1)) = sSz (ls.take k) + (rFrm q).length := by
  have e : ls.take (k + 1) = ls.take k ++ [q] := by rw [List.take_add_one, h]; rfl
  show (sFlat (ls.take (k + 1))).length = (sFlat (ls.take k)).length + (rFrm q).length
  rw [e]
  unfold sFlat
  rw [List.flatMap_append, List.flatMap_cons, List.flatMap_nil, List.append_nil, List.length_append]
theorem rFrm_bytes {r : PR} (h : rRight r = true) (hp : Bytes r.path) : Bytes (rFrm r) := fFrm_bytes (rBytes_bytes h hp)
theorem sFlat_bytes : ∀ (ls : List PR), (∀ r ∈ ls, rRight r = true ∧ Bytes r.path) → Bytes (sFlat ls) := fun ls h x hx => by
  obtain ⟨r, hr, hx2⟩ := List.mem_flatMap.1 hx
  exact rFrm_bytes (h r hr).1 (h r hr).2 x hx2
theorem rca_form {N : Nat} {w : World} {v : Value} {r : PR} (h : RcApart N w v r) : ∃ A c, v = .agg #[.int .i64 r.kind, .string (strB r.path), .int .i64 r.method, .int .i64 r.factor, .slice A r.rungs.length c, .int .i64 r.rung, .int .i64 r.time, .int .i64 r.now, .int .i64 r.value] ∧ RgApart N none w (.slice A r.rungs.length c) r.rungs := by
  obtain ⟨u, rfl, hu⟩ := h
  obtain ⟨A, c, rfl, _, _⟩ := id hu
  exact ⟨A, c, rfl, hu⟩
set_option maxRecDepth 100000 in
set_option maxHeartbeats 40000000 in
theorem back_tail (A0 : Option Addr) (c0 : Nat) (hd : PR) (hp : Bytes hd.path) (hv : vOk hd) (A : Option Addr) (c : Nat) (ls : List PR) (hb : ∀ r ∈ ls, Bytes r.path ∧ vOk r) (t : Nat) (ht : t < 65536) (w : World) (hG : G w)
    (fr : RgOut w (.slice A0 hd.rungs.length c0) hd.rungs) (fl : RsOut w (.slice A ls.length c) ls) (hx : ls ≠ [] → ∃ b off, A = some ⟨b, off, none⟩ ∧ RcAt w b off ls) (hc : ls.length ≤ c) (hg : tooGreat hd = false) (hn100 : ls.length ≤ 100) :
    Calls Tryd.prog 5 #[.agg #[.int .i64 hd.kind, .string (strB hd.path), .int .i64 hd.method, .int .i64 hd.factor, .slice A0 hd.rungs.length c0, .int .i64 hd.rung, .int .i64 hd.time, .int .i64 hd.now, .int .i64 hd.value], .slice A ls.length c, .int .u16 (t : Nat)] w fun e w' => e = .returned (.bool true) ∧ Below w.heap.size w w' := by
  have HG := Lib.hid hG
  have hng := (not_great hg).1
  have AL := Lib.hid alive_c
  have GR := Lib.hid (fun (W : World) (h : RgOut W (.slice A0 hd.rungs.length c0) hd.rungs) => great_c (.agg #[.int .i64 hd.kind, .string (strB hd.path), .int .i64 hd.method, .int .i64 hd.factor, .slice A0 hd.rungs.length c0, .int .i64 hd.rung, .int .i64 hd.time, .int .i64 hd.now, .int .i64 hd.value]) hd W (rc_mk h))
  have GQ := Lib.hid (fun (W : World) (q : PR) (v : Value) (h : RcOut W v q) => great_c v q W h)
  have PW := Lib.hid (fun (hbs : ∀ r ∈ ls, Bytes r.path ∧ r.rungs.length ≤ 100000) (W : World) (g : G W) (h1 : RgOut W (.slice A0 hd.rungs.length c0) hd.rungs) (h2 : RsOut W (.slice A ls.length c) ls) => SP.write_c (.agg #[.int .i64 hd.kind, .string (strB hd.path), .int .i64 hd.method, .int .i64 hd.factor, .slice A0 hd.rungs.length c0, .int .i64 hd.rung, .int .i64 hd.time, .int .i64 hd.now, .int .i64 hd.value]) (.slice A ls.length c) hd ls hp (by omega) (by omega) hbs W g (rc_mk h1) h2)
  have RW := Lib.hid (fun (hbs : ∀ r ∈ ls, Bytes r.path ∧ r.rungs.length ≤ 100000) (W : World) (h1 : RgOut W (.slice A0 hd.rungs.length c0) hd.rungs) (h2 : RsOut W (.slice A ls.length c) ls) => SR.write_c (.agg #[.int .i64 hd.kind, .string (strB hd.path), .int .i64 hd.method, .int .i64 hd.factor, .slice A0 hd.rungs.length c0, .int .i64 hd.rung, .int .i64 hd.time, .int .i64 hd.now, .int .i64 hd.value]) (.slice A ls.length c) hd ls hp (by omega) (by omega) hbs W (rc_mk h1) h2)
  have PF := Lib.hid (fun W (g : G W) (h : RgOut W (.slice A0 hd.rungs.length c0) hd.rungs) => SP.frame_c (.agg #[.int .i64 hd.kind, .string (strB hd.path), .int .i64 hd.method, .int .i64 hd.factor, .slice A0 hd.rungs.length c0, .int .i64 hd.rung, .int .i64 hd.time, .int .i64 hd.now, .int .i64 hd.value]) hd hp (by omega) W g (rc_mk h))
  rw [hg] at GR
  have FR := Lib.hid fr; have OL := Lib.hid fl; have HX := Lib.hid hx; have HB := Lib.hid hb
  have hmh : ∀ (W : World) (A : Option Addr) (c : Nat), RgOut W (.slice A hd.rungs.length c) hd.rungs → RcOut W (.agg #[.int .i64 hd.kind, .string (strB hd.path), .int .i64 hd.method, .int .i64 hd.factor, .slice A hd.rungs.length c, .int .i64 hd.rung, .int .i64 hd.time, .int .i64 hd.now, .int .i64 hd.value]) hd := fun W A c h => rc_mk h
  have hfmo : ∀ (W : World) (v : Value), RcOut W v hd → ∃ A c, v = .agg #[.int .i64 hd.kind, .string (strB hd.path), .int .i64 hd.method, .int .i64 hd.factor, .slice A hd.rungs.length c, .int .i64 hd.rung, .int .i64 hd.time, .int .i64 hd.now, .int .i64 hd.value] ∧ RgOut W (.slice A hd.rungs.length c) hd.rungs := fun W v h => rco_form h
  have hfma : ∀ (N : Nat) (W : World) (v : Value), RcApart N W v hd → ∃ A c, v = .agg #[.int .i64 hd.kind, .string (strB hd.path), .int .i64 hd.method, .int .i64 hd.factor, .slice A hd.rungs.length c, .int .i64 hd.rung, .int .i64 hd.time, .int .i64 hd.now, .int .i64 hd.value] ∧ RgApart N none W (.slice A hd.rungs.length c) hd.rungs := fun N W v h => rca_form h
  obtain ⟨nh, hnh⟩ : ∃ n, hd.rungs.length = n := ⟨_, rfl⟩
  obtain ⟨n, hn⟩ : ∃ n, ls.length = n := ⟨_, rfl⟩
  rw [hnh] at hmh hfmo hfma GR PW RW PF FR hng ⊢
  rw [hn] at PW RW OL hc hn100 ⊢
  have HMH := Lib.hid hmh; have HFMO := Lib.hid hfmo; have HFMA := Lib.hid hfma; have HN := Lib.hid hn
  have HH := Lib.hid (holds_alloc w [.int .i64 hd.kind, .string (strB hd.path), .int .i64 hd.method, .int .i64 hd.factor, .slice A0 nh c0, .int .i64 hd.rung, .int .i64 hd.time, .int .i64 hd.now, .int .i64 hd.value] 24)
  have HV := Lib.hid (fun (W : World) => DVar.alloc (w := W) ([.int .i64 0, .string ⟨#[]⟩, .int .i64 0, .int .i64 0, .slice none 0 0, .int .i64 0, .int .i64 0, .int .i64 0, .int .i64 0] : List Value).toArray 24)
  have hli : (n : Int) ≤ 100 := by omega
  have HNH := Lib.hid hnh
  clear hmh hfmo hfma hx hn fr fl hb hG hg hnh
  go_enter Tryd.func5, Tryd.ntmps5
  go_wp2_with fail
  refine (AL.out _).mono ?_; rintro _ w1 ⟨rfl, hb1⟩
  have B1 := Lib.hid (show Below w.heap.size w w1 from (alloc_below w _).trans (hb1.mono (by simp)))
  have H1b := Lib.hid (HH.out.below hb1 : Holds w1 w.heap.size _)
  obtain ⟨r0, r1, r2, r3, r4, r5, r6, r7, r8⟩ := Holds.nine H1b.out
  clear hb1
  go_wp2_with fail
  refine (GR.out _ (FR.out.below B1.out)).mono ?_; rintro _ w2 ⟨rfl, hb2⟩
  have B2 := Lib.hid (below_next B1.out hb2); have H2b := Lib.hid (H1b.out.below hb2 : Holds w2 w.heap.size _)
  clear hb2 r0 r1 r2 r3 r4 r5 r6 r7 r8
  go_wp2
  go_loopw [7] (fun i wr => ∃ k : Nat, k ≤ n ∧ i = .int .i64 k ∧ Hid ((∀ (j : Nat) (q : PR), j < k → ls[j]? = some q → tooGreat q = false) ∧ Below w2.heap.size w2 wr)) (fun i _ => n - (intOf i).toNat)
  case atStart => exact ⟨0, Nat.zero_le _, rfl, fun j q h => absurd h (Nat.not_lt_zero _), Below.refl _ _⟩
  case round =>
    obtain ⟨k, hk, rfl, HI⟩ := hrel
    have BR2 := Lib.hid HI.out.2
    have BR := Lib.hid (below_next B2.out BR2.out)
    have HGR := Lib.hid HI.out.1
    clear HI
    by_cases hlt : k < n
    · have hkl : k < ls.length := by rw [HN.out]; exact hlt
      obtain ⟨b, off, rfl, ha⟩ := HX.out (by intro e; rw [e] at hkl; exact absurd hkl (Nat.not_lt_zero _))
      have hp0 := List.getElem?_eq_getElem hkl
      have hmem := List.getElem_mem hkl
      obtain ⟨u, hu, hcs⟩ := ha k _ hp0
      generalize ls[k] = q at *
      obtain ⟨Aq, cq, rfl⟩ := SP.rg_form hu
      have hcells := fun (j : Nat) (x : Value) h => cellb BR.out (hcs j x h)
      obtain ⟨nq, hnq⟩ : ∃ n, q.rungs.length = n := ⟨_, rfl⟩
      have hcells2 : ∀ (j : Nat) (x : Value), ([.int .i64 q.kind, .string (strB q.path), .int .i64 q.method, .int .i64 q.factor, .slice Aq nq cq, .int .i64 q.rung, .int .i64 q.time, .int .i64 q.now, .int .i64 q.value] : List Value)[j]? = some x → wr.cell? ⟨b, off + k * 9 + j, none⟩ = some x := by rw [← hnq]; exact hcells
      obtain ⟨y0, y1, y2, y3, y4, y5, y6, y7, y8⟩ := nine (b := b) (o := off + k * 9) hcells2
      have hu2 := hu.below BR.out
      rw [hnq] at hu2
      have HU := Lib.hid hu2
      have hmq : ∀ W : World, RgOut W (.slice Aq nq cq) q.rungs → RcOut W (.agg #[.int .i64 q.kind, .string (strB q.path), .int .i64 q.method, .int .i64 q.factor, .slice Aq nq cq, .int .i64 q.rung, .int .i64 q.time, .int .i64 q.now, .int .i64 q.value]) q := fun W h => by
        rw [← hnq] at h ⊢
        exact ⟨_, rfl, h⟩
      have HMQ := Lib.hid hmq
      have HP0 := Lib.hid hp0
      clear hmq hcells hcells2 hcs hu hu2 hp0 ha hkl hnq hmem
      have G1 := GQ.out wr q _ (HMQ.out _ HU.out)
      cases hgq : tooGreat q with
      | true =>
        rw [hgq] at G1
        go_wp2_with fail
        refine G1.mono ?_; rintro _ w3 ⟨rfl, hb3⟩
        have B3 := Lib.hid (below_next BR.out hb3)
        clear hb3 y0 y1 y2 y3 y4 y5 y6 y7 y8
        go_wp2
        go_ret
        exact ⟨rfl, B3.out⟩
      | false =>
        rw [hgq] at G1
        have HGQ := Lib.hid hgq
        clear hgq
        go_wp2_with fail
        refine G1.mono ?_; rintro _ w3 ⟨rfl, hb3⟩
        have B3 := Lib.hid (below_next BR2.out hb3)
        clear hb3 y0 y1 y2 y3 y4 y5 y6 y7 y8 G1
        go_wp2
        go_roundw
        case rel =>
          refine ⟨k + 1, by omega, by go_num, fun j q2 h1 h2 => ?_, B3.out⟩
          rcases Nat.lt_or_ge j k with h | h
          · exact HGR.out j q2 h h2
          · obtain rfl : j = k := by omega
            rw [HP0.out] at h2
            obtain rfl := Option.some.inj h2
            exact HGQ.out
        case measure => simp [intOf]; omega
    · obtain rfl : n = k := by omega
      have hbs : ∀ r ∈ ls, Bytes r.path ∧ r.rungs.length ≤ 100000 := fun r hr => by
        obtain ⟨j, hj⟩ := List.getElem?_of_mem hr
        have h1 := not_great (HGR.out j r (by rw [← HN.out]; exact (List.getElem?_eq_some_iff.1 hj).1) hj)
        exact ⟨(HB.out r hr).1, by omega⟩
      have BW := BR; have HWR := Lib.hid (H2b.out.below BR2.out : Holds wr w.heap.size _)
      clear hk hlt HGR GQ
      by_cases hc2 : rHead hd = true ∧ ls.all rIn = true
      · have hW : sWrite hd ls = (rFrm hd ++ sFlat ls, 0) := if_pos hc2
        obtain ⟨hhd, hal⟩ := hc2
        have hall : ∀ r ∈ ls, rIn r = true := List.all_eq_true.1 hal
        have hrr := rHead_iff.1 hhd
        have hok : ∀ r ∈ ls, rIn r = true ∧ vOk r := fun r hr => ⟨hall r hr, (HB.out r hr).2⟩
        have hfr : rFrame hd = (rFrm hd, 0) := by rcases SP.rFrame_two hd with ⟨_, e⟩ | ⟨g, _⟩; exact e; rw [hrr.1] at g; cases g
        have hPb : Bytes (rFrm hd ++ sFlat ls) := (rFrm_bytes hrr.1 hp).append (sFlat_bytes ls (fun r hr => ⟨(rIn_iff.1 (hall r hr)).1, (HB.out r hr).1⟩))
        have hf302 : (rFrm hd).length ≤ 302 := by have := (rBytes_len hrr.1).2; rw [rFrm_length]; omega
        have hss : sSz ls ≤ 302 * n := by have := SP.sSz_le ls (fun r hr => (rIn_iff.1 (hall r hr)).1); rw [HN.out] at this; exact this
        have hsl : (rFrm hd ++ sFlat ls).length = (rFrm hd).length + sSz ls := List.length_append
        have hsc := sScan_all (l := ls) hhd hv hok
        have PW1 := PW.out hbs
        have RW1 := RW.out hbs
        rw [hW] at PW1 RW1
        have PW2 := Lib.hid PW1; have RW2 := Lib.hid RW1
        have PF1 := PF.out
        rw [hfr] at PF1
        have PF2 := Lib.hid PF1
        obtain ⟨f0, hf0⟩ : ∃ f, (rFrm hd).length = f := ⟨_, rfl⟩
        have hPk : ∀ (i e : Nat), i ≤ n → f0 + sSz (ls.take i) ≤ e → (i < n → e < f0 + sSz (ls.take (i + 1))) → sScan ((rFrm hd ++ sFlat ls).take e) = (hd, ls.take i, f0 + sSz (ls.take i), 0) := fun i e h1 h2 h3 => by
          rw [← hf0] at h2 h3 ⊢
          exact sScan_part hhd hv hok i e (by rw [HN.out]; exact h1) h2 (fun h => h3 (by rw [← HN.out]; exact h))
        have hPn : ∀ e, e < f0 → sScan ((rFrm hd ++ sFlat ls).take e) = (PR.zero, [], 0, 7) := fun e he => sScan_none hhd (by rw [hf0]; exact he)
        have hFQ : ∀ (q : PR), q ∈ ls → ∀ (v : Value) (W : World), G W → RcOut W v q → Calls Tryd.prog 10 #[v] W fun e w' => ∃ v', e = .returned (.tuple #[v', .int .i64 0]) ∧ ByNew W.heap.size w' v' (rFrm q) ∧ Below W.heap.size W w' := fun q hq v W g h => by
          have h2 := SP.frame_c v q (hbs q hq).1 (hbs q hq).2 W g h
          have e : rFrame q = (rFrm q, 0) := by rcases SP.rFrame_two q with ⟨_, e⟩ | ⟨g, _⟩; exact e; rw [(rIn_iff.1 (hall q hq)).1] at g; cases g
          rw [e] at h2
          exact h2
        have FQ := Lib.hid hFQ
        have hF302 : ∀ q ∈ ls, (rFrm q).length ≤ 302 := fun q hq => by have := (rBytes_len (rIn_iff.1 (hall q hq)).1).2; rw [rFrm_length]; omega
        have HF302 := Lib.hid hF302
        obtain ⟨F0, hF0⟩ : ∃ f, rFrm hd = f := ⟨_, rfl⟩
        rw [hF0] at hf0 hf302 hsl hPb hsc hPk hPn PF2 PW2 RW2
        obtain ⟨P, hP⟩ : ∃ P, F0 ++ sFlat ls = P := ⟨_, rfl⟩
        rw [hP] at hsl hPb hsc hPk hPn PW2 RW2
        rw [hf0] at hf302 hsl
        have S1 := fun v1 v2 w f1 f2 => CR.same_c v1 v2 P P (by omega) (by omega) w f1 f2
        have SH := fun va vb w fa fb => SR.same_c va vb hd hd hp hp (by rw [HNH.out]; omega) (by rw [HNH.out]; omega) w fa fb
        have SL := fun va vb w fa fb => SR.sameList_c va vb ls ls (by rw [HN.out]; omega) (by rw [HN.out]; omega) hbs hbs w fa fb
        have SLK := fun (K : Nat) va vb w fa fb => SR.sameList_c va vb (ls.take K) (ls.take K) (by rw [List.length_take, HN.out]; omega) (by rw [List.length_take, HN.out]; omega) (fun p hp => hbs p (List.mem_of_mem_take hp)) (fun p hp => hbs p (List.mem_of_mem_take hp)) w fa fb
        rw [decide_eq_true rfl] at S1 SH SL
        have HS1 := Lib.hid S1; have HSH := Lib.hid SH; have HSL := Lib.hid SL; have HSLK := Lib.hid SLK
        have C1 := fun v W g o => SP.scan_c v P hPb (by omega) W g o
        rw [hsc] at C1
        obtain ⟨s, hs⟩ : ∃ s, P.length = s := ⟨_, rfl⟩
        rw [hs] at hsl C1
        have HC1 := Lib.hid C1; have HPL := Lib.hid hs; have HF0 := Lib.hid hf0
        obtain ⟨en, hen⟩ : ∃ en, t % (s + 1) = en := ⟨_, rfl⟩
        have hens : en ≤ s := by rw [← hen]; have := Nat.mod_lt t (show 0 < s + 1 by omega); omega
        have hmod : (t : Int) % ((s : Int) + 1) = (en : Int) := by
          have h := Int.natCast_emod t (s + 1)
          rw [hen] at h
          have e : ((s + 1 : Nat) : Int) = (s : Int) + 1 := by omega
          rw [e] at h
          exact h.symm
        have hs32 : s ≤ 31000 := by omega
        have C2 := Lib.hid (fun v W g o => SP.scan_n v (P.take en) (hPb.takes en) (by rw [List.length_take]; omega) W g o)
        have HPK := Lib.hid (fun i => hPk i en); have HPN := Lib.hid (hPn en)
        skip
        clear hsl S1 SH SL SLK C1 PW1 RW1 PF1 hsc hPk hPn hPb hFQ hF302 hf0 hF0 hP hs hen hfr hrr hok hall hal hhd hW hbs hss
        obtain ⟨r0, r1, r2, r3, r4, r5, r6, r7, r8⟩ := Holds.nine HWR.out
        go_wp2_with fail
        refine (PW2.out _ (HG.out.below BW.out) (FR.out.below BW.out) (OL.out.below BW.out)).mono ?_; rintro _ w4 ⟨v4, rfl, hn4, hb4⟩
        have O4 := Lib.hid hn4.out; have B4 := Lib.hid (below_next BW.out hb4); have H4b := Lib.hid (HWR.out.below hb4 : Holds w4 w.heap.size _)
        obtain ⟨A4, c4, hv4, hc4, _⟩ := hn4.out
        rw [HPL.out] at hv4 hc4
        subst hv4
        clear hn4 hb4 r0 r1 r2 r3 r4 r5 r6 r7 r8
        obtain ⟨r0, r1, r2, r3, r4, r5, r6, r7, r8⟩ := Holds.nine H4b.out
        go_wp2_with fail
        refine (RW2.out _ (FR.out.below B4.out) (OL.out.below B4.out)).mono ?_; rintro _ w5 ⟨v5, rfl, hn5, hb5⟩
        have O5 := Lib.hid hn5.out; have O45 := Lib.hid (O4.out.below hb5); have B5 := Lib.hid (below_next B4.out hb5); have H5b := Lib.hid (H4b.out.below hb5 : Holds w5 w.heap.size _)
        clear hn5 hb5 r0 r1 r2 r3 r4 r5 r6 r7 r8
        go_wp2_with fail
        refine (HS1.out _ _ _ O45.out O5.out).mono ?_; rintro _ w5b ⟨rfl, hb5b⟩
        have O5b := Lib.hid (O45.out.below hb5b); have B5b := Lib.hid (below_next B5.out hb5b); have H5c := Lib.hid (H5b.out.below hb5b : Holds w5b w.heap.size _)
        clear hb5b
        go_wp2_with fail
        refine (HC1.out _ _ (HG.out.below B5b.out) O5b.out).mono ?_; rintro _ w6 ⟨v6, q6, rfl, hr6, hq6, hb6⟩
        obtain ⟨A6, c6, rfl, ho6⟩ := HFMO.out _ _ hr6
        have R6 := Lib.hid ho6; have Q6 := Lib.hid hq6; have O6 := Lib.hid (O5b.out.below hb6); have B6 := Lib.hid (below_next B5b.out hb6); have H6b := Lib.hid (H5c.out.below hb6 : Holds w6 w.heap.size _)
        clear hr6 ho6 hq6 hb6
        have hnt6 : w.heap.size ≤ w6.heap.size := B6.out.size
        go_wp2_with (refine wpList_put rfl 24 _ _ rfl w6.heap.size [.int .i64 hd.kind, .string (strB hd.path), .int .i64 hd.method, .int .i64 hd.factor, .slice A6 nh c6, .int .i64 hd.rung, .int .i64 hd.time, .int .i64 hd.now, .int .i64 hd.value] rfl rfl (HV.out w6) (by kernel_rfl) (by simp [Value.oneCell']) ?_; intro w7 hp7; obtain ⟨x0, x1, x2, x3, x4, x5, x6, x7, x8⟩ := Holds.nine hp7.at_; have BP7 := Lib.hid (var_put hp7); have V7 := Lib.hid (show DVar w7 w6.heap.size 9 from hp7.var); have Z7 := Lib.hid (show w6.heap.size < w7.heap.size by rw [hp7.size]; simp); clear hp7; have H7b := Lib.hid (H6b.out.below BP7.out : Holds w7 w.heap.size _); obtain ⟨r0, r1, r2, r3, r4, r5, r6, r7, r8⟩ := Holds.nine H7b.out)
        have B7 := Lib.hid (below_next B6.out BP7.out); have R7 := Lib.hid (R6.out.below BP7.out); have Q7 := Lib.hid (Q6.out.below BP7.out); have O7 := Lib.hid (O6.out.below BP7.out)
        refine (HSH.out _ _ _ (HMH.out _ _ _ R7.out) (HMH.out _ _ _ (FR.out.below B7.out))).mono ?_; rintro _ w8 ⟨rfl, hb8⟩
        have B8 := Lib.hid (below_next B7.out hb8); have BA8 := Lib.hid (below_next BP7.out hb8); have Q8 := Lib.hid (Q7.out.below hb8); have O8 := Lib.hid (O7.out.below hb8); have V8 := Lib.hid (V7.out.below hb8); have Z8 := Lib.hid (Nat.lt_of_lt_of_le Z7.out hb8.size)
        clear hb8 x0 x1 x2 x3 x4 x5 x6 x7 x8 r0 r1 r2 r3 r4 r5 r6 r7 r8
        go_wp2_with fail
        refine (HSL.out _ _ _ Q8.out (OL.out.below B8.out)).mono ?_; rintro _ w9 ⟨rfl, hb9⟩
        have B9 := Lib.hid (below_next B8.out hb9); have BA9 := Lib.hid (below_next BA8.out hb9); have O9 := Lib.hid (O8.out.below hb9); have V9 := Lib.hid (V8.out.below hb9); have Z9 := Lib.hid (Nat.lt_of_lt_of_le Z8.out hb9.size); have H9b := Lib.hid (H6b.out.below BA9.out : Holds w9 w.heap.size _)
        clear hb9
        obtain ⟨r0, r1, r2, r3, r4, r5, r6, r7, r8⟩ := Holds.nine H9b.out
        go_wp2_with fail
        refine (PF2.out _ (HG.out.below B9.out) (FR.out.below B9.out)).mono ?_; rintro _ w10 ⟨v10, rfl, hn10, hb10⟩
        obtain ⟨A10, c10, hv10, _, _⟩ := hn10.form
        rw [HF0.out] at hv10
        subst hv10
        have B10 := Lib.hid (below_next B9.out hb10); have BA10 := Lib.hid (below_next BA9.out hb10); have O10 := Lib.hid (O9.out.below hb10); have V10 := Lib.hid (V9.out.below hb10); have Z10 := Lib.hid (Nat.lt_of_lt_of_le Z9.out hb10.size)
        clear hn10 hb10 r0 r1 r2 r3 r4 r5 r6 r7 r8
        have hcs : (en : Int) ≤ (c4 : Int) := by omega
        go_wp2_with fail
        by_cases hA : en < f0
        · have C2' := C2.out
          rw [HPN.out hA] at C2'
          have hAi : (en : Int) < (f0 : Int) := by omega
          refine (C2' _ _ (HG.out.below B10.out) (CR.ByOut.take O10.out hens)).mono ?_; rintro _ w11 ⟨v11, q11, rfl, hr11, hq11, hb11⟩
          obtain ⟨A11, c11, rfl, _⟩ := rca_form hr11
          obtain ⟨D11, e11, hv11⟩ := hq11.form
          change q11 = .slice D11 0 e11 at hv11
          subst hv11
          have B11 := Lib.hid (below_next B10.out hb11); have BA11 := Lib.hid (below_next BA10.out hb11); have V11 := Lib.hid (V10.out.below hb11)
          clear hr11 hq11 hb11 C2'
          go_wp2_with (refine wpList_put rfl 24 _ _ rfl w6.heap.size [.int .i64 0, .string ⟨#[]⟩, .int .i64 0, .int .i64 0, .slice A11 0 c11, .int .i64 0, .int .i64 0, .int .i64 0, .int .i64 0] rfl rfl V11.out (by kernel_rfl) (by simp [Value.oneCell']) ?_; intro w12 hp12; have B12 := Lib.hid (hp12.below hnt6 B11.out); clear hp12)
          go_ret
          exact ⟨rfl, B12.out⟩
        · have hAi : ¬ (en : Int) < (f0 : Int) := by omega
          obtain ⟨K, hKn, hKj, hKe⟩ := stop_at (fun k => f0 + sSz (ls.take k)) en (by show f0 + sSz (ls.take 0) ≤ en; rw [List.take_zero]; show f0 + 0 ≤ en; omega) n
          have C2' := C2.out
          rw [HPK.out K hKn (hKj K (Nat.le_refl _)) hKe] at C2'
          obtain ⟨QK, hQK⟩ : ∃ q, f0 + sSz (ls.take K) = q := ⟨_, rfl⟩
          rw [hQK] at C2'
          have hSK := HSLK.out K
          simp only [decide_true] at hSK
          have HSK := Lib.hid hSK
          have hkn : K ≤ n := hKn
          have HKJ := Lib.hid hKj; have HKE := Lib.hid hKe; have HQK := Lib.hid hQK
          have hKq := hKj K (Nat.le_refl _)
          refine (C2' _ _ (HG.out.below B10.out) (CR.ByOut.take O10.out hens)).mono ?_; rintro _ w11 ⟨v11, q11, rfl, hr11, hq11, hb11⟩
          obtain ⟨A11, c11, rfl, ho11⟩ := HFMA.out _ _ _ hr11
          have RA11 := Lib.hid ho11; have QA11 := Lib.hid hq11
          have B11 := Lib.hid (below_next B10.out hb11); have BA11 := Lib.hid (below_next BA10.out hb11); have V11 := Lib.hid (V10.out.below hb11)
          clear hr11 hq11 hb11 C2' hSK hKj hKe hQK ho11 hKq hKn
          go_wp2_with (refine wpList_put rfl 24 _ _ rfl w6.heap.size [.int .i64 hd.kind, .string (strB hd.path), .int .i64 hd.method, .int .i64 hd.factor, .slice A11 nh c11, .int .i64 hd.rung, .int .i64 hd.time, .int .i64 hd.now, .int .i64 hd.value] rfl rfl V11.out (by kernel_rfl) (by simp [Value.oneCell']) ?_; intro w12 hp12; have B12 := Lib.hid (hp12.below hnt6 B11.out); have BA12 := Lib.hid (hp12.below (Nat.le_refl _) BA11.out); have H12 := Lib.hid hp12.at_; have RO := Lib.hid (RgApart.out (RgApart.kept RA11.out hp12.grown Z10.out)); have QO := Lib.hid (RsNew.out (RsNew.kept QA11.out hp12.grown Z10.out)); clear hp12)
          have H12b := Lib.hid (H6b.out.below BA12.out : Holds w12 w.heap.size _)
          clear C2
          go_loopw [19, 20, 21, 22, 23] (fun sz wh i _ _ wr => ∃ k q : Nat, k ≤ K ∧ q ≤ en ∧ sz = .int .i64 q ∧ wh = .int .i64 k ∧ i = .int .i64 k ∧ Hid (f0 + sSz (ls.take k) = q ∧ Below w12.heap.size w12 wr)) (fun _ _ i _ _ _ => n - (intOf i).toNat)
          case atStart => exact ⟨0, f0, Nat.zero_le _, by omega, rfl, rfl, rfl, by rw [List.take_zero]; rfl, Below.refl _ _⟩
          case round =>
            obtain ⟨k, q0, hk, hq, rfl, rfl, rfl, HI⟩ := hrel
            have BPR := Lib.hid HI.out.2
            have BR := Lib.hid (below_next B12.out BPR.out)
            have HQ0 := Lib.hid HI.out.1
            clear HI
            by_cases hlt : k < n
            · have hkl : k < ls.length := by rw [HN.out]; exact hlt
              obtain ⟨b, off, rfl, ha⟩ := HX.out (by intro e; rw [e] at hkl; exact absurd hkl (Nat.not_lt_zero _))
              have hp0 := List.getElem?_eq_getElem hkl
              have hmem := List.getElem_mem hkl
              obtain ⟨u, hu, hcs⟩ := ha k _ hp0
              generalize ls[k] = q at *
              obtain ⟨Aq, cq, rfl⟩ := SP.rg_form hu
              have hcells := fun (j : Nat) (x : Value) h => cellb BR.out (hcs j x h)
              obtain ⟨nq, hnq⟩ : ∃ n, q.rungs.length = n := ⟨_, rfl⟩
              have hcells2 : ∀ (j : Nat) (x : Value), ([.int .i64 q.kind, .string (strB q.path), .int .i64 q.method, .int .i64 q.factor, .slice Aq nq cq, .int .i64 q.rung, .int .i64 q.time, .int .i64 q.now, .int .i64 q.value] : List Value)[j]? = some x → wr.cell? ⟨b, off + k * 9 + j, none⟩ = some x := by rw [← hnq]; exact hcells
              obtain ⟨y0, y1, y2, y3, y4, y5, y6, y7, y8⟩ := nine (b := b) (o := off + k * 9) hcells2
              have hu2 := hu.below BR.out
              rw [hnq] at hu2
              have HU := Lib.hid hu2
              have FQ1 := FQ.out q hmem
              have htk := sFlat_one ls k q hp0
              have hqm := HF302.out q hmem
              have hmq : ∀ W : World, RgOut W (.slice Aq nq cq) q.rungs → RcOut W (.agg #[.int .i64 q.kind, .string (strB q.path), .int .i64 q.method, .int .i64 q.factor, .slice Aq nq cq, .int .i64 q.rung, .int .i64 q.time, .int .i64 q.now, .int .i64 q.value]) q := fun W h => by
                rw [← hnq] at h ⊢
                exact ⟨_, rfl, h⟩
              have HMQ := Lib.hid hmq
              obtain ⟨m, hm⟩ : ∃ m, (rFrm q).length = m := ⟨_, rfl⟩
              rw [hm] at htk hqm
              have FQ2 := Lib.hid FQ1; have HM := Lib.hid hm
              have hq0i : q0 + m ≤ 40000 := by omega
              clear FQ1 hmq hcells hcells2 hcs hu hu2 hp0 ha hkl hnq hm hmem
              go_wp2_with fail
              refine (FQ2.out _ _ (HG.out.below BR.out) (HMQ.out _ HU.out)).mono ?_; rintro _ w13 ⟨v13, rfl, hn13, hb13⟩
              obtain ⟨A13, c13, hv13, _, _⟩ := hn13.form
              rw [HM.out] at hv13
              subst hv13
              have B13 := Lib.hid (below_next BR.out hb13); have BP13 := Lib.hid (below_next BPR.out hb13)
              clear hn13 hb13 y0 y1 y2 y3 y4 y5 y6 y7 y8
              by_cases hkK : k < K
              · have h6 : q0 + m ≤ en := by
                  have h7 : f0 + sSz (ls.take (k + 1)) ≤ en := HKJ.out (k + 1) (by omega)
                  have h8 := HQ0.out
                  omega
                have h6i : (q0 : Int) + (m : Int) ≤ (en : Int) := by omega
                have HT := Lib.hid htk
                clear htk
                go_wp2
                go_roundw
                case rel => exact ⟨k + 1, q0 + m, by omega, h6, by go_num, by go_num, by go_num, by have h8 := HQ0.out; have h9 := HT.out; omega, BP13.out⟩
                case measure => simp [intOf]; omega
              · obtain rfl : k = K := by omega
                have h6 : en < q0 + m := by
                  have h7 : en < f0 + sSz (ls.take (k + 1)) := HKE.out hlt
                  have h8 := HQ0.out
                  omega
                have h6i : ¬ (q0 : Int) + (m : Int) ≤ (en : Int) := by omega
                obtain rfl : q0 = QK := HQ0.out.symm.trans HQK.out
                have hkc : (k : Int) ≤ (c : Int) := by omega
                have hki : (k : Int) ≤ (n : Int) := by omega
                have HVW := Lib.hid (H12.out.below BP13.out : Holds w13 w6.heap.size _); have HHW := Lib.hid (H12b.out.below BP13.out : Holds w13 w.heap.size _); have BPW := BP13; have BWW := B13
                clear htk
                obtain ⟨x0, x1, x2, x3, x4, x5, x6, x7, x8⟩ := Holds.nine (HVW.out : Holds w13 w6.heap.size _)
                obtain ⟨r0, r1, r2, r3, r4, r5, r6, r7, r8⟩ := Holds.nine (HHW.out : Holds w13 w.heap.size _)
                go_wp2_with fail
                refine (HSH.out _ _ _ (HMH.out _ _ _ (RO.out.below BPW.out)) (HMH.out _ _ _ (FR.out.below BWW.out))).mono ?_; rintro _ w15 ⟨rfl, hb15⟩
                have B15 := Lib.hid (below_next BWW.out hb15); have QO15 := Lib.hid ((QO.out.below BPW.out).below hb15)
                clear hb15 x0 x1 x2 x3 x4 x5 x6 x7 x8 r0 r1 r2 r3 r4 r5 r6 r7 r8
                go_wp2_with fail
                refine (HSK.out _ _ _ QO15.out (RsOut.take (OL.out.below B15.out) hkn)).mono ?_; rintro _ w16 ⟨rfl, hb16⟩
                have B16 := Lib.hid (below_next B15.out hb16)
                clear hb16
                go_wp2
                go_ret
                exact ⟨rfl, B16.out⟩
            · obtain rfl : n = k := by omega
              obtain rfl : n = K := by omega
              obtain rfl : q0 = QK := HQ0.out.symm.trans HQK.out
              have hkc : (n : Int) ≤ (c : Int) := by omega
              have HVW := Lib.hid (H12.out.below BPR.out : Holds wr w6.heap.size _); have HHW := Lib.hid (H12b.out.below BPR.out : Holds wr w.heap.size _); have BPW := BPR; have BWW := BR
              obtain ⟨x0, x1, x2, x3, x4, x5, x6, x7, x8⟩ := Holds.nine (HVW.out : Holds wr w6.heap.size _)
              obtain ⟨r0, r1, r2, r3, r4, r5, r6, r7, r8⟩ := Holds.nine (HHW.out : Holds wr w.heap.size _)
              go_wp2_with fail
              refine (HSH.out _ _ _ (HMH.out _ _ _ (RO.out.below BPW.out)) (HMH.out _ _ _ (FR.out.below BWW.out))).mono ?_; rintro _ w15 ⟨rfl, hb15⟩
              have B15 := Lib.hid (below_next BWW.out hb15); have QO15 := Lib.hid ((QO.out.below BPW.out).below hb15)
              clear hb15 x0 x1 x2 x3 x4 x5 x6 x7 x8 r0 r1 r2 r3 r4 r5 r6 r7 r8
              go_wp2_with fail
              refine (HSK.out _ _ _ QO15.out (RsOut.take (OL.out.below B15.out) hkn)).mono ?_; rintro _ w16 ⟨rfl, hb16⟩
              have B16 := Lib.hid (below_next B15.out hb16)
              clear hb16
              go_wp2
              go_ret
              exact ⟨rfl, B16.out⟩
      · have hW : sWrite hd ls = ([], 1) := if_neg hc2
        clear hc2
        have PW1 := PW.out hbs
        have RW1 := RW.out hbs
        rw [hW] at PW1 RW1
        have PW2 := Lib.hid PW1; have RW2 := Lib.hid RW1
        have S1 := fun v1 v2 w f1 f2 => CR.same_c v1 v2 [] [] (Nat.zero_le _) (Nat.zero_le _) w f1 f2
        rw [decide_eq_true rfl] at S1
        have H1 := Lib.hid S1
        clear PW1 RW1 S1 hW hbs
        obtain ⟨r0, r1, r2, r3, r4, r5, r6, r7, r8⟩ := Holds.nine HWR.out
        go_wp2_with fail
        refine (PW2.out _ (HG.out.below BW.out) (FR.out.below BW.out) (OL.out.below BW.out)).mono ?_; rintro _ w4 ⟨v4, rfl, hn4, hb4⟩
        have O4 := Lib.hid hn4.out; have B4 := Lib.hid (below_next BW.out hb4); have H4b := Lib.hid (HWR.out.below hb4 : Holds w4 w.heap.size _)
        obtain ⟨A4, c4, hv4, _, _⟩ := hn4.form
        change v4 = .slice A4 0 c4 at hv4
        subst hv4
        clear hn4 hb4 r0 r1 r2 r3 r4 r5 r6 r7 r8
        obtain ⟨r0, r1, r2, r3, r4, r5, r6, r7, r8⟩ := Holds.nine H4b.out
        go_wp2_with fail
        refine (RW2.out _ (FR.out.below B4.out) (OL.out.below B4.out)).mono ?_; rintro _ w5 ⟨v5, rfl, hn5, hb5⟩
        have O5 := Lib.hid hn5.out; have O45 := Lib.hid (O4.out.below hb5); have B5 := Lib.hid (below_next B4.out hb5)
        clear hn5 hb5 r0 r1 r2 r3 r4 r5 r6 r7 r8
        go_wp2_with fail
        refine (H1.out _ _ _ O45.out O5.out).mono ?_; rintro _ w6 ⟨rfl, hb6⟩
        have B6 := Lib.hid (below_next B5.out hb6)
        clear hb6
        go_wp2
        go_ret
        exact ⟨rfl, B6.out⟩
set_option maxRecDepth 100000 in
set_option maxHeartbeats 4000000 in
theorem segmentBack_c (vh : Value) (hd : PR) (hp : Bytes hd.path) (hv : vOk hd) (v : Value) (ls : List PR) (hb : ∀ r ∈ ls, Bytes r.path ∧ vOk r) (hz : ls.length ≤ 9223372036854775807) (t : Nat) (ht : t < 65536) (w : World) (hG : G w) (fh : RcOut w vh hd) (fl : RsOut w v ls) :
    Calls Tryd.prog 5 #[vh, v, .int .u16 (t : Nat)] w fun e w' => e = .returned (.bool true) ∧ Below w.heap.size w w' := by
  obtain ⟨u, rfl, hu⟩ := fh
  obtain ⟨A0, c0, rfl, _, _⟩ := id hu
  obtain ⟨A, c, rfl, hc, hx⟩ := id fl
  change Calls Tryd.prog 5 #[.agg #[.int .i64 hd.kind, .string (strB hd.path), .int .i64 hd.method, .int .i64 hd.factor, .slice A0 hd.rungs.length c0, .int .i64 hd.rung, .int .i64 hd.time, .int .i64 hd.now, .int .i64 hd.value], .slice A ls.length c, .int .u16 (t : Nat)] w _
  have AL := Lib.hid alive_c
  have GR := Lib.hid (fun (W : World) (h : RgOut W (.slice A0 hd.rungs.length c0) hd.rungs) => great_c (.agg #[.int .i64 hd.kind, .string (strB hd.path), .int .i64 hd.method, .int .i64 hd.factor, .slice A0 hd.rungs.length c0, .int .i64 hd.rung, .int .i64 hd.time, .int .i64 hd.now, .int .i64 hd.value]) hd W (rc_mk h))
  by_cases hg : tooGreat hd = false
  · by_cases hn : ls.length ≤ 100
    · exact back_tail A0 c0 hd hp hv A c ls hb t ht w hG hu fl hx hc hg hn
    · rw [hg] at GR
      have FR := Lib.hid hu
      obtain ⟨nh, hnh⟩ : ∃ n, hd.rungs.length = n := ⟨_, rfl⟩
      obtain ⟨n, hnn⟩ : ∃ n, ls.length = n := ⟨_, rfl⟩
      rw [hnh] at GR FR ⊢
      rw [hnn] at hn hz ⊢
      have hli : (100 : Int) < (n : Int) := by omega
      have HH := Lib.hid (holds_alloc w [.int .i64 hd.kind, .string (strB hd.path), .int .i64 hd.method, .int .i64 hd.factor, .slice A0 nh c0, .int .i64 hd.rung, .int .i64 hd.time, .int .i64 hd.now, .int .i64 hd.value] 24)
      clear hg hu fl hx hc hp hv hb hG hnh hnn
      go_enter Tryd.func5, Tryd.ntmps5
      go_wp2_with fail
      refine (AL.out _).mono ?_; rintro _ w1 ⟨rfl, hb1⟩
      have B1 := Lib.hid (show Below w.heap.size w w1 from (alloc_below w _).trans (hb1.mono (by simp)))
      obtain ⟨r0, r1, r2, r3, r4, r5, r6, r7, r8⟩ := Holds.nine (HH.out.below hb1 : Holds w1 w.heap.size _)
      clear hb1
      go_wp2_with fail
      refine (GR.out _ (FR.out.below B1.out)).mono ?_; rintro _ w2 ⟨rfl, hb2⟩
      have B2 := Lib.hid (below_next B1.out hb2)
      clear hb2 r0 r1 r2 r3 r4 r5 r6 r7 r8
      go_wp2
      go_ret
      exact ⟨rfl, B2.out⟩
  · have hg2 : tooGreat hd = true := by simpa using hg
    rw [hg2] at GR
    have FR := Lib.hid hu
    obtain ⟨nh, hnh⟩ : ∃ n, hd.rungs.length = n := ⟨_, rfl⟩
    obtain ⟨n, hnn⟩ : ∃ n, ls.length = n := ⟨_, rfl⟩
    rw [hnh] at GR FR ⊢
    rw [hnn]
    have HH := Lib.hid (holds_alloc w [.int .i64 hd.kind, .string (strB hd.path), .int .i64 hd.method, .int .i64 hd.factor, .slice A0 nh c0, .int .i64 hd.rung, .int .i64 hd.time, .int .i64 hd.now, .int .i64 hd.value] 24)
    clear hg hg2 hu fl hx hc hp hv hb hG hnh hnn
    go_enter Tryd.func5, Tryd.ntmps5
    go_wp2_with fail
    refine (AL.out _).mono ?_; rintro _ w1 ⟨rfl, hb1⟩
    have B1 := Lib.hid (show Below w.heap.size w w1 from (alloc_below w _).trans (hb1.mono (by simp)))
    obtain ⟨r0, r1, r2, r3, r4, r5, r6, r7, r8⟩ := Holds.nine (HH.out.below hb1 : Holds w1 w.heap.size _)
    clear hb1
    go_wp2_with fail
    refine (GR.out _ (FR.out.below B1.out)).mono ?_; rintro _ w2 ⟨rfl, hb2⟩
    have B2 := Lib.hid (below_next B1.out hb2)
    clear hb2 r0 r1 r2 r3 r4 r5 r6 r7 r8
    go_wp2
    go_ret
    exact ⟨rfl, B2.out⟩
end Go.Proofs.YtabbpgnenmpacaaDoor.SW
