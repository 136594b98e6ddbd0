/-
  Texts of the trie's proofs, merged: TrlRD, TrlRG.
-/
import Derived.Test.YtbfbjalnahngjaaGreatDoorTriQ14
import Derived.Test.YtbfbjalnahngjaaGreatDoorTriQ6
import Derived.Test.YtbfbjalnahngjaaGreatDoorTriQ18
import Derived.Test.YtbfbjalnahngjaaGreatDoorTriQ7
set_option linter.unusedSimpArgs false
set_option linter.unusedVariables false
namespace Go.Proofs.YtbfbjalnahngjaaGreatDoor
theorem gTxt_cons (a : GA) (e : List GA) : gTxt (a :: e) = a.txt ++ gTxt e := rfl
/-- What a place says of the piece that begins there. -/
theorem piece_at {s : List Nat} {k : Nat} {a : GA} {e : List GA} (ha : a.Good) (h : s.drop k = gTxt (a :: e)) : k < s.length ∧ k + a.txt.length ≤ s.length ∧ s.drop (k + a.txt.length) = gTxt e ∧ 1 ≤ a.txt.length ∧ s.getD k 0 = a.txt.headD 0 := by
  obtain ⟨c, u, ht, _, _, _⟩ := good_txt ha
  rw [gTxt_cons] at h
  have hl := congrArg List.length h
  rw [List.length_drop, List.length_append] at hl
  have h1 : 1 ≤ a.txt.length := by rw [ht]; simp
  refine ⟨by omega, by omega, ?_, h1, ?_⟩
  · rw [← List.drop_drop, h, List.drop_left']
    rfl
  · have := drop_cons (s := s) (k := k) (by omega)
    rw [h, ht] at this
    rw [ht]
    injection this with h1 _
    exact h1.symm
theorem cls_at {s : List Nat} {k : Nat} {t : List Nat} {rs : List (Nat × Nat)} {e : List GA} (ha : GA.Good (.cls t rs)) (h : s.drop k = gTxt (.cls t rs :: e)) : s.getD k 0 = 91 ∧ (∃ n, gCls (s.drop (k + 1)) = some (rs, n)) ∧ clsV s (k + 1) = ((k + t.length : Nat) : Int) := by
  obtain ⟨hk, hle, _, _, hc⟩ := piece_at ha h
  obtain ⟨u, rfl, hu, hrs, hun⟩ := id ha
  have hc : s.getD k 0 = 91 := hc
  have hd : s.drop (k + 1) = u ++ gTxt e := by
    have := drop_cons hk
    rw [h] at this
    injection this with _ h2
    exact h2.symm
  refine ⟨hc, ⟨_, by rw [hd]; exact hu _⟩, ?_⟩
  have hg : gAt (s.drop k) = some (.cls (91 :: u) rs, (91 :: u).length) := by
    rw [h]
    exact gAt_txt (a := .cls (91 :: u) rs) ha _
  rcases gAt_cls hk hc with ⟨_, hn⟩ | ⟨x, j, hv, _, _, hx⟩
  · rw [hg] at hn; cases hn
  · rw [hg] at hx
    injection hx with hx
    injection hx with _ hj
    rw [hv, hj]
namespace GR
open Go.RowKit GP
set_option maxRecDepth 100000 in
set_option maxHeartbeats 8000000 in
theorem fits_c (p N : ByteArray) (e : List GA) (he : ∀ a ∈ e, a.Good) (hpe : bs p = gTxt e) (hp : p.size ≤ 128) (hs : N.size ≤ 900) (w : World) :
    Calls Tryz.prog 58 #[.string p, .string N] w fun r w' => r = .returned (.bool (gLd (bs N) (ofA e) gE0 (bs N).length)) ∧ Below w.heap.size w w' := by
  obtain ⟨M, hM⟩ : ∃ M, gLd (bs N) (ofA e) gE0 (bs N).length = M := ⟨_, rfl⟩
  rw [hM]
  rw [bs_length] at hM
  obtain ⟨i0, hi0, hz0, hzz1, hzz2⟩ := info_parts bool_info
  obtain ⟨n, hn⟩ : ∃ n, N.size = n := ⟨_, rfl⟩
  rw [hn] at hs hM
  have HNN := Lib.hid hn
  have hn1 : IntKind.i64.wrap ((N.size : Int) + 1) = ((n + 1 : Nat) : Int) := by rw [IntKind.wrap_i64]; omega
  have HL := Lib.hid (bs_length p)
  have HST := Lib.hid (show ∃ e', (∀ a ∈ e', a.Good) ∧ (bs p).drop 0 = gTxt e' ∧ gLd (bs N) (ofA e') gE0 n = M from ⟨e, he, hpe, hM⟩)
  have CL := Lib.hid (fun (k : Nat) (hk : k ≤ p.size) (W : World) => class_c p k hp hk W)
  have HAS := Lib.hid (fun (a c : Nat) (hc : c < 256) (rs : List (Nat × Nat)) (m : Nat) (hg : gCls ((bs p).drop a) = some (rs, m)) (W : World) => has_c p a c hp hc rs m hg W)
  clear he hpe hM
  go_enter Tryz.func58, Tryz.ntmps58
  go_upto_region 2 with (at_make; refine wpList_make_full _ rfl _ _ 99 rfl 0 4 i0 (.bool false) 1 Tryz.underlying99 hi0 hz0 hzz1 .i64 .i64 _ _ (n + 1) rfl rfl (by omega) (by omega) (by rw [hzz2]; omega) (by unfold maxLen; omega) (Nat.zero_le _) ?_; intro w3 hown3 hg3)
  have hbl := below_none hg3
  have hx3 := BRow.made hown3 (Nat.succ_pos n)
  obtain ⟨g0, hg0⟩ : ∃ g0, w.heap.size = g0 := ⟨_, rfl⟩
  rw [hg0] at hx3 ⊢
  have c0 := hx3.c 0 (by omega)
  have f0 := hx3.fz 0 (by omega)
  have HX4 := Lib.hid (show BRow (w3.setCell ⟨g0, 0, none⟩ (.bool true)) g0 (n + 1) gE0 from hx3.set (x := true) (k := 0) (by omega) (fun j hj => by
    unfold gE0
    by_cases e : j = 0
    · rw [if_pos e, e]; rfl
    · rw [if_neg e, decide_eq_false e]))
  have HB4 := Lib.hid (show Below w.heap.size w (w3.setCell ⟨g0, 0, none⟩ (.bool true)) from hbl.setCell (p := ⟨g0, 0, none⟩) (by rw [hg0]; exact Nat.le_refl _) _)
  have hbI : (0 : Int) < (n : Int) + 1 := by omega
  have HG0 := Lib.hid (show w.heap.size ≤ g0 by omega)
  clear hown3 hg3 hbl hx3 hg0
  go_wp2_with fail
  go_loopw [5, 6, 7, 8] (fun v5 v6 _ _ wr => ∃ (g k : Nat), v5 = .slice (some ⟨g, 0, none⟩) (n + 1) (n + 1) ∧ v6 = .int .i64 (k : Nat) ∧ k ≤ p.size ∧ Hid (w.heap.size ≤ g) ∧ Hid (∃ f e', BRow wr g (n + 1) f ∧ (∀ a ∈ e', a.Good) ∧ (bs p).drop k = gTxt e' ∧ gLd (bs N) (ofA e') f n = M) ∧ Hid (Below w.heap.size w wr)) (fun _ v6 _ _ _ => p.size - (intOf v6).toNat)
  case atStart =>
    obtain ⟨e', h1, h2, h3⟩ := HST.out
    exact ⟨g0, 0, rfl, rfl, Nat.zero_le _, HG0.out, ⟨gE0, e', HX4.out, h1, h2, h3⟩, HB4.out⟩
  case round =>
    obtain ⟨g, k, rfl, rfl, hk, HG, HI, HB⟩ := hrel
    by_cases hlt : k < p.size
    · have hki : (k : Int) < (p.size : Int) := by omega
      obtain ⟨f, e', hbr, hgood, hdr, hld⟩ := HI.out
      cases e' with
      | nil =>
        have := congrArg List.length hdr
        rw [List.length_drop, HL.out] at this
        have h0 : (gTxt []).length = 0 := rfl
        omega
      | cons a e2 =>
        have ha := hgood a (by simp)
        obtain ⟨hk1, hk2, hk3, hk4, hk5⟩ := piece_at ha hdr
        obtain ⟨c, hcb, x0, hc⟩ := bs_get hlt
        rw [HL.out] at hk2
        have HNX := Lib.hid (show ∀ W, BRow W w.heap.size 0 gE0 → True from fun _ _ => trivial)
        have HEND := Lib.hid (show ∀ (W : World) (g2 : Nat), BRow W g2 (n + 1) (gAd (bs N) a f) → ∃ f e', BRow W g2 (n + 1) f ∧ (∀ a ∈ e', a.Good) ∧ (bs p).drop (k + a.txt.length) = gTxt e' ∧ gLd (bs N) (ofA e') f n = M from fun W g2 h => ⟨_, e2, h, fun b hb => hgood b (by simp [hb]), hk3, hld⟩)
        have HR0 := Lib.hid hbr
        have hgl := hbr.lt
        go_upto_region 6 with (at_make; refine wpList_make_full _ rfl _ _ 99 rfl 0 4 i0 (.bool false) 1 Tryz.underlying99 hi0 hz0 hzz1 .i64 .i64 _ _ (n + 1) rfl rfl (by omega) (by omega) (by rw [hzz2]; omega) (by unfold maxLen; omega) (Nat.zero_le _) ?_; intro w4 hown4 hg4)
        have hbl4 := below_none hg4
        have hx4 := BRow.made hown4 (Nat.succ_pos n)
        obtain ⟨gx, hgx⟩ : ∃ gx, wr.heap.size = gx := ⟨_, rfl⟩
        have hgne : ¬ gx = g := by omega
        have HGX := Lib.hid (show w.heap.size < gx by have := HG.out; omega)
        rw [hgx] at hx4 ⊢
        have HX4 := Lib.hid hx4
        have HR4 := Lib.hid (HR0.out.below hbl4)
        have HB4 := Lib.hid (bnext HB.out hbl4)
        have HN2 := Lib.hid (fun (k : Nat) (h : k < n) => show (bs N).getD k 0 = (bs N).getD k 0 from rfl)
        clear hown4 hg4 hbl4 hx4 hgx hgl hbr hk1 hk3 hld hgood HI
        cases a with
        | star =>
          as_aux_lemma =>
            obtain rfl : c = 42 := hcb.symm.trans hk5
            clear hcb hk5 ha hdr
            go_wp2_with fail
            go_loopw [8] (fun v8 wq => ∃ q : Nat, v8 = .int .i64 (q : Nat) ∧ q ≤ n + 1 ∧ Hid (BRow wq g (n + 1) f) ∧ Hid (BRow wq gx (n + 1) (fun j => if j < q then gAd (bs N) .star f j else false)) ∧ Hid (Below w.heap.size w wq)) (fun v8 _ => n + 1 - (intOf v8).toNat)
            case atStart => exact ⟨0, rfl, Nat.zero_le _, HR4.out, HX4.out.congr (fun j _ => (if_neg (Nat.not_lt_zero j)).symm), HB4.out⟩
            case round =>
              obtain ⟨q, rfl, hq, HR, HX, HBq⟩ := hrel
              by_cases hql : q ≤ n
              · have hqi : (q : Int) ≤ (n : Int) := by omega
                have hqs : (q : Int) ≤ (N.size : Int) := by rw [HNN.out]; omega
                have hqJ : (q : Int) < (n : Int) + 1 := by omega
                have hqN : q < n + 1 := by omega
                have hq0 : (0 : Int) ≤ (q : Int) := by omega
                have cX := HX.out.c q (by omega)
                have fX := HX.out.fz q (by omega)
                rw [if_neg (Nat.lt_irrefl q)] at cX
                have cE := HR.out.c q (by omega)
                have hrs := reachd_succ f q
                obtain ⟨x, hx⟩ : ∃ x, f q = x := ⟨_, rfl⟩
                rw [hx] at cE hrs
                have HSTP := Lib.hid (fun (v : Bool) (hv : reachd f (q + 1) = v) => show BRow (wr.setCell ⟨gx, q, none⟩ (.bool v)) gx (n + 1) (fun j => if j < q + 1 then gAd (bs N) .star f j else false) from HX.out.step (by omega) (by rw [gAd_star]; exact hv))
                clear hx
                cases x with
                | true =>
                  as_aux_lemma =>
                    have HST := Lib.hid (HSTP.out true (by rw [hrs, Bool.or_true]))
                    clear hrs HSTP
                    go_wp2
                    go_roundw
                    case rel => exact ⟨q + 1, by go_num, by omega, HR.out.other hgne, HST.out, below_own HBq.out HGX.out⟩
                    case measure => first | (simp [intOf]; done) | (simp [intOf]; omega)
                | false =>
                  rw [Bool.or_false] at hrs
                  by_cases hq0 : q = 0
                  · subst hq0
                    as_aux_lemma =>
                      have HST := Lib.hid (HSTP.out false (by rw [hrs]; rfl))
                      clear hrs HSTP
                      go_wp2
                      go_roundw
                      case rel => exact ⟨1, by go_num, by omega, HR.out.other hgne, HST.out, below_own HBq.out HGX.out⟩
                      case measure => first | (simp [intOf]; done) | (simp [intOf]; omega)
                  · obtain ⟨r, rfl⟩ : ∃ r, q = r + 1 := ⟨q - 1, by omega⟩
                    as_aux_lemma =>
                      have cP := HX.out.c r (by omega)
                      rw [if_pos (Nat.lt_succ_self r), gAd_star] at cP
                      obtain ⟨y, hy⟩ : ∃ y, reachd f (r + 1) = y := ⟨_, rfl⟩
                      rw [hy] at cP
                      have HST := Lib.hid (HSTP.out y (by rw [hrs, hy]))
                      have hr0 : (0 : Int) < ((r + 1 : Nat) : Int) := by omega
                      have hrw : IntKind.i64.wrap (((r + 1 : Nat) : Int) - 1) = (r : Int) := by rw [IntKind.wrap_i64]; omega
                      have hrJ : (r : Int) < (n : Int) + 1 := by omega
                      have hrN : r < n + 1 := by omega
                      clear hrs HSTP hy
                      go_wp2
                      go_roundw
                      case rel => exact ⟨r + 1 + 1, by go_num, by omega, HR.out.other hgne, HST.out, below_own HBq.out HGX.out⟩
                      case measure => first | (simp [intOf]; done) | (simp [intOf]; omega)
              · as_aux_lemma =>
                  obtain rfl : q = n + 1 := by omega
                  have HXE := Lib.hid (HX.out.congr (h := gAd (bs N) .star f) (fun z hz => if_pos hz))
                  have hqs : ¬ ((n + 1 : Nat) : Int) ≤ (N.size : Int) := by rw [HNN.out]; omega
                  clear HX
                  have hd91 : ¬ ((42 : Nat) : Int) = 91 := by omega
                  have hwk : IntKind.i64.wrap ((k : Int) + 1) = ((k + 1 : Nat) : Int) := by rw [IntKind.wrap_i64]; omega
                  have HE := Lib.hid (HEND.out wr gx HXE.out)
                  go_wp2
                  go_roundw
                  case rel => exact ⟨gx, k + 1, rfl, rfl, by omega, Nat.le_of_lt HGX.out, HE.out, HBq.out⟩
                  case measure => first | (simp [intOf]; done) | (simp [intOf]; omega)
        | each =>
          as_aux_lemma =>
            obtain rfl : c = 63 := hcb.symm.trans hk5
            clear hcb hk5 ha hdr
            go_wp2_with fail
            go_loopw [8] (fun v8 wq => ∃ q : Nat, v8 = .int .i64 (q : Nat) ∧ q ≤ n + 1 ∧ Hid (BRow wq g (n + 1) f) ∧ Hid (BRow wq gx (n + 1) (fun j => if j < q then gAd (bs N) .each f j else false)) ∧ Hid (Below w.heap.size w wq)) (fun v8 _ => n + 1 - (intOf v8).toNat)
            case atStart => exact ⟨0, rfl, Nat.zero_le _, HR4.out, HX4.out.congr (fun j _ => (if_neg (Nat.not_lt_zero j)).symm), HB4.out⟩
            case round =>
              obtain ⟨q, rfl, hq, HR, HX, HBq⟩ := hrel
              by_cases hql : q ≤ n
              · have hqi : (q : Int) ≤ (n : Int) := by omega
                have hqs : (q : Int) ≤ (N.size : Int) := by rw [HNN.out]; omega
                have hqJ : (q : Int) < (n : Int) + 1 := by omega
                have hqN : q < n + 1 := by omega
                have hq0 : (0 : Int) ≤ (q : Int) := by omega
                have cX := HX.out.c q (by omega)
                have fX := HX.out.fz q (by omega)
                rw [if_neg (Nat.lt_irrefl q)] at cX
                by_cases hq0' : q = 0
                · subst hq0'
                  as_aux_lemma =>
                    have HST := Lib.hid (show BRow wr gx (n + 1) (fun j => if j < 0 + 1 then gAd (bs N) .each f j else false) from HX.out.congr (fun j hj => by
                      rw [if_neg (Nat.not_lt_zero j)]
                      by_cases e : j = 0
                      · subst e; rw [if_pos (by omega)]; exact (gAd_zero (by decide) f).symm
                      · rw [if_neg (by omega)]))

                    go_wp2
                    go_roundw
                    case rel => exact ⟨1, by go_num, by omega, HR.out, HST.out, HBq.out⟩
                    case measure => first | (simp [intOf]; done) | (simp [intOf]; omega)
                · obtain ⟨r, rfl⟩ : ∃ r, q = r + 1 := ⟨q - 1, by omega⟩
                  have cE := HR.out.c r (by omega)
                  have hrw : IntKind.i64.wrap (((r + 1 : Nat) : Int) - 1) = (r : Int) := by rw [IntKind.wrap_i64]; omega
                  have hrJ : (r : Int) < (n : Int) + 1 := by omega
                  have hrN : r < n + 1 := by omega
                  have hr0 : ¬ ((r + 1 : Nat) : Int) = 0 := by omega
                  have hr0b : (((r + 1 : Nat) : Int) == 0) = false := beq_false_of_ne hr0
                  have hri : (0 : Int) ≤ (r : Int) := by omega
                  have hrs : r < N.size := by rw [HNN.out]; omega
                  have hrsi : (r : Int) < (N.size : Int) := by omega
                  obtain ⟨b, hbb, y0, hb⟩ := bs_get hrs
                  have hsu := gAd_succ (n := bs N) (a := .each) (by decide) f r
                  obtain ⟨x, hx⟩ : ∃ x, f r = x := ⟨_, rfl⟩
                  rw [hx] at cE
                  rw [hx, hbb] at hsu
                  have HSTP := Lib.hid (fun (W : World) (v : Bool) (hv : (x && GA.fit .each b) = v) (hW : BRow W gx (n + 1) (fun j => if j < r + 1 then gAd (bs N) .each f j else false)) => show BRow (W.setCell ⟨gx, r + 1, none⟩ (.bool v)) gx (n + 1) (fun j => if j < r + 1 + 1 then gAd (bs N) .each f j else false) from hW.step (by omega) (by rw [hsu]; exact hv))
                  clear hx hbb hsu
                  cases x with
                  | false =>
                    as_aux_lemma =>
                      have HST := Lib.hid (HSTP.out wr false rfl HX.out)
                      clear HSTP
                      go_upto_region 9 with (fail)
                      go_region
                      go_wp2
                      go_roundw
                      case rel => exact ⟨r + 1 + 1, by go_num, by omega, (HR.out.other hgne).drew, HST.out.drew, (below_own HBq.out HGX.out).drew⟩
                      case measure => first | (simp [intOf]; done) | (simp [intOf]; omega)
                  | true =>
                    as_aux_lemma =>
                      have HST := Lib.hid (HSTP.out wr true rfl HX.out)
                      clear HSTP
                      go_upto_region 9 with (fail)
                      go_region
                      go_wp2
                      go_roundw
                      case rel => exact ⟨r + 1 + 1, by go_num, by omega, (HR.out.other hgne).drew, HST.out.drew, (below_own HBq.out HGX.out).drew⟩
                      case measure => first | (simp [intOf]; done) | (simp [intOf]; omega)
              · as_aux_lemma =>
                  obtain rfl : q = n + 1 := by omega
                  have HXE := Lib.hid (HX.out.congr (h := gAd (bs N) .each f) (fun z hz => if_pos hz))
                  have hqs : ¬ ((n + 1 : Nat) : Int) ≤ (N.size : Int) := by rw [HNN.out]; omega
                  clear HX
                  have hd91 : ¬ ((63 : Nat) : Int) = 91 := by omega
                  have hwk : IntKind.i64.wrap ((k : Int) + 1) = ((k + 1 : Nat) : Int) := by rw [IntKind.wrap_i64]; omega
                  have HE := Lib.hid (HEND.out wr gx HXE.out)
                  go_wp2
                  go_roundw
                  case rel => exact ⟨gx, k + 1, rfl, rfl, by omega, Nat.le_of_lt HGX.out, HE.out, HBq.out⟩
                  case measure => first | (simp [intOf]; done) | (simp [intOf]; omega)
        | one c' =>
          as_aux_lemma =>
            obtain rfl : c' = c := (hcb.symm.trans hk5).symm
            have hB : isB c' = true := ha
            have h42 : ¬ (c' : Int) = 42 := by have := isB_ne hB (d := 42) (by decide); omega
            have h91 : ¬ (c' : Int) = 91 := by have := isB_ne hB (d := 91) (by decide); omega
            have h63 : ¬ (c' : Int) = 63 := by have := isB_ne hB (d := 63) (by decide); omega
            have b42 : ((c' : Int) == 42) = false := beq_false_of_ne h42
            have b91 : ((c' : Int) == 91) = false := beq_false_of_ne h91
            have b63 : ((c' : Int) == 63) = false := beq_false_of_ne h63
            clear hcb hk5 ha hdr hB
            go_wp2_with fail
            go_loopw [8] (fun v8 wq => ∃ q : Nat, v8 = .int .i64 (q : Nat) ∧ q ≤ n + 1 ∧ Hid (BRow wq g (n + 1) f) ∧ Hid (BRow wq gx (n + 1) (fun j => if j < q then gAd (bs N) (.one c') f j else false)) ∧ Hid (Below w.heap.size w wq)) (fun v8 _ => n + 1 - (intOf v8).toNat)
            case atStart => exact ⟨0, rfl, Nat.zero_le _, HR4.out, HX4.out.congr (fun j _ => (if_neg (Nat.not_lt_zero j)).symm), HB4.out⟩
            case round =>
              obtain ⟨q, rfl, hq, HR, HX, HBq⟩ := hrel
              by_cases hql : q ≤ n
              · have hqi : (q : Int) ≤ (n : Int) := by omega
                have hqs : (q : Int) ≤ (N.size : Int) := by rw [HNN.out]; omega
                have hqJ : (q : Int) < (n : Int) + 1 := by omega
                have hqN : q < n + 1 := by omega
                have hq0 : (0 : Int) ≤ (q : Int) := by omega
                have cX := HX.out.c q (by omega)
                have fX := HX.out.fz q (by omega)
                rw [if_neg (Nat.lt_irrefl q)] at cX
                by_cases hq0' : q = 0
                · subst hq0'
                  as_aux_lemma =>
                    have HST := Lib.hid (show BRow wr gx (n + 1) (fun j => if j < 0 + 1 then gAd (bs N) (.one c') f j else false) from HX.out.congr (fun j hj => by
                      rw [if_neg (Nat.not_lt_zero j)]
                      by_cases e : j = 0
                      · subst e; rw [if_pos (by omega)]; exact (gAd_zero (by show ¬ (0 = 2); decide) f).symm
                      · rw [if_neg (by omega)]))

                    go_wp2
                    go_roundw
                    case rel => exact ⟨1, by go_num, by omega, HR.out, HST.out, HBq.out⟩
                    case measure => first | (simp [intOf]; done) | (simp [intOf]; omega)
                · obtain ⟨r, rfl⟩ : ∃ r, q = r + 1 := ⟨q - 1, by omega⟩
                  have cE := HR.out.c r (by omega)
                  have hrw : IntKind.i64.wrap (((r + 1 : Nat) : Int) - 1) = (r : Int) := by rw [IntKind.wrap_i64]; omega
                  have hrJ : (r : Int) < (n : Int) + 1 := by omega
                  have hrN : r < n + 1 := by omega
                  have hr0 : ¬ ((r + 1 : Nat) : Int) = 0 := by omega
                  have hr0b : (((r + 1 : Nat) : Int) == 0) = false := beq_false_of_ne hr0
                  have hri : (0 : Int) ≤ (r : Int) := by omega
                  have hrs : r < N.size := by rw [HNN.out]; omega
                  have hrsi : (r : Int) < (N.size : Int) := by omega
                  obtain ⟨b, hbb, y0, hb⟩ := bs_get hrs
                  have hsu := gAd_succ (n := bs N) (a := (.one c')) (by show ¬ (0 = 2); decide) f r
                  obtain ⟨x, hx⟩ : ∃ x, f r = x := ⟨_, rfl⟩
                  rw [hx] at cE
                  rw [hx, hbb] at hsu
                  have HSTP := Lib.hid (fun (W : World) (v : Bool) (hv : (x && GA.fit (.one c') b) = v) (hW : BRow W gx (n + 1) (fun j => if j < r + 1 then gAd (bs N) (.one c') f j else false)) => show BRow (W.setCell ⟨gx, r + 1, none⟩ (.bool v)) gx (n + 1) (fun j => if j < r + 1 + 1 then gAd (bs N) (.one c') f j else false) from hW.step (by omega) (by rw [hsu]; exact hv))
                  clear hx hbb hsu
                  cases x with
                  | false =>
                    as_aux_lemma =>
                      have HST := Lib.hid (HSTP.out wr false rfl HX.out)
                      clear HSTP
                      go_upto_region 9 with (fail)
                      go_region
                      go_wp2
                      go_roundw
                      case rel => exact ⟨r + 1 + 1, by go_num, by omega, (HR.out.other hgne).drew, HST.out.drew, (below_own HBq.out HGX.out).drew⟩
                      case measure => first | (simp [intOf]; done) | (simp [intOf]; omega)
                  | true =>
                    by_cases hcb2 : c' = b
                    · as_aux_lemma =>
                        subst hcb2
                        have HST := Lib.hid (HSTP.out wr true (by show (true && decide (c' = c')) = true; rw [decide_eq_true rfl]; rfl) HX.out)
                        clear HSTP
                        go_upto_region 9 with (fail)
                        go_region
                        go_wp2
                        go_roundw
                        case rel => exact ⟨r + 1 + 1, by go_num, by omega, (HR.out.other hgne).drew, HST.out.drew, (below_own HBq.out HGX.out).drew⟩
                        case measure => first | (simp [intOf]; done) | (simp [intOf]; omega)
                    · as_aux_lemma =>
                        have HST := Lib.hid (HSTP.out wr false (by show (true && decide (c' = b)) = false; rw [decide_eq_false hcb2]; rfl) HX.out)
                        have hcbi : ¬ (c' : Int) = (b : Int) := by omega
                        have hcbb : ((c' : Int) == (b : Int)) = false := beq_false_of_ne hcbi
                        clear HSTP
                        go_upto_region 9 with (fail)
                        go_region
                        go_wp2
                        go_roundw
                        case rel => exact ⟨r + 1 + 1, by go_num, by omega, (HR.out.other hgne).drew, HST.out.drew, (below_own HBq.out HGX.out).drew⟩
                        case measure => first | (simp [intOf]; done) | (simp [intOf]; omega)
              · as_aux_lemma =>
                  obtain rfl : q = n + 1 := by omega
                  have HXE := Lib.hid (HX.out.congr (h := gAd (bs N) (.one c') f) (fun z hz => if_pos hz))
                  have hqs : ¬ ((n + 1 : Nat) : Int) ≤ (N.size : Int) := by rw [HNN.out]; omega
                  clear HX
                  have hwk : IntKind.i64.wrap ((k : Int) + 1) = ((k + 1 : Nat) : Int) := by rw [IntKind.wrap_i64]; omega
                  have HE := Lib.hid (HEND.out wr gx HXE.out)
                  go_wp2
                  go_roundw
                  case rel => exact ⟨gx, k + 1, rfl, rfl, by omega, Nat.le_of_lt HGX.out, HE.out, HBq.out⟩
                  case measure => first | (simp [intOf]; done) | (simp [intOf]; omega)
        | cls t rs =>
          as_aux_lemma =>
            obtain ⟨hc91, ⟨m, hgc⟩, hcv⟩ := cls_at ha hdr
            obtain rfl : c = 91 := hcb.symm.trans hc91
            have HCLS := Lib.hid (fun (b : Nat) (hb : b < 256) (W : World) => HAS.out (k + 1) b hb rs m hgc W)
            have HCV := Lib.hid hcv
            have hwk1 : IntKind.i64.wrap ((k : Int) + 1) = ((k + 1 : Nat) : Int) := by rw [IntKind.wrap_i64]; omega
            have hk2 : k + t.length ≤ p.size := hk2
            have hk4 : 1 ≤ t.length := hk4
            clear hcb hk5 ha hdr hc91 hgc hcv
            go_wp2_with fail
            go_loopw [8] (fun v8 wq => ∃ q : Nat, v8 = .int .i64 (q : Nat) ∧ q ≤ n + 1 ∧ Hid (BRow wq g (n + 1) f) ∧ Hid (BRow wq gx (n + 1) (fun j => if j < q then gAd (bs N) (.cls t rs) f j else false)) ∧ Hid (Below w.heap.size w wq)) (fun v8 _ => n + 1 - (intOf v8).toNat)
            case atStart => exact ⟨0, rfl, Nat.zero_le _, HR4.out, HX4.out.congr (fun j _ => (if_neg (Nat.not_lt_zero j)).symm), HB4.out⟩
            case round =>
              obtain ⟨q, rfl, hq, HR, HX, HBq⟩ := hrel
              by_cases hql : q ≤ n
              · have hqi : (q : Int) ≤ (n : Int) := by omega
                have hqs : (q : Int) ≤ (N.size : Int) := by rw [HNN.out]; omega
                have hqJ : (q : Int) < (n : Int) + 1 := by omega
                have hqN : q < n + 1 := by omega
                have hq0 : (0 : Int) ≤ (q : Int) := by omega
                have cX := HX.out.c q (by omega)
                have fX := HX.out.fz q (by omega)
                rw [if_neg (Nat.lt_irrefl q)] at cX
                by_cases hq0' : q = 0
                · subst hq0'
                  as_aux_lemma =>
                    have HST := Lib.hid (show BRow wr gx (n + 1) (fun j => if j < 0 + 1 then gAd (bs N) (.cls t rs) f j else false) from HX.out.congr (fun j hj => by
                      rw [if_neg (Nat.not_lt_zero j)]
                      by_cases e : j = 0
                      · subst e; rw [if_pos (by omega)]; exact (gAd_zero (by show ¬ (3 = 2); decide) f).symm
                      · rw [if_neg (by omega)]))

                    go_wp2
                    go_roundw
                    case rel => exact ⟨1, by go_num, by omega, HR.out, HST.out, HBq.out⟩
                    case measure => first | (simp [intOf]; done) | (simp [intOf]; omega)
                · obtain ⟨r, rfl⟩ : ∃ r, q = r + 1 := ⟨q - 1, by omega⟩
                  have cE := HR.out.c r (by omega)
                  have hrw : IntKind.i64.wrap (((r + 1 : Nat) : Int) - 1) = (r : Int) := by rw [IntKind.wrap_i64]; omega
                  have hrJ : (r : Int) < (n : Int) + 1 := by omega
                  have hrN : r < n + 1 := by omega
                  have hr0 : ¬ ((r + 1 : Nat) : Int) = 0 := by omega
                  have hr0b : (((r + 1 : Nat) : Int) == 0) = false := beq_false_of_ne hr0
                  have hri : (0 : Int) ≤ (r : Int) := by omega
                  have hrs : r < N.size := by rw [HNN.out]; omega
                  have hrsi : (r : Int) < (N.size : Int) := by omega
                  obtain ⟨b, hbb, y0, hb⟩ := bs_get hrs
                  have hsu := gAd_succ (n := bs N) (a := (.cls t rs)) (by show ¬ (3 = 2); decide) f r
                  obtain ⟨x, hx⟩ : ∃ x, f r = x := ⟨_, rfl⟩
                  rw [hx] at cE
                  rw [hx, hbb] at hsu
                  have HSTP := Lib.hid (fun (W : World) (v : Bool) (hv : (x && GA.fit (.cls t rs) b) = v) (hW : BRow W gx (n + 1) (fun j => if j < r + 1 then gAd (bs N) (.cls t rs) f j else false)) => show BRow (W.setCell ⟨gx, r + 1, none⟩ (.bool v)) gx (n + 1) (fun j => if j < r + 1 + 1 then gAd (bs N) (.cls t rs) f j else false) from hW.step (by omega) (by rw [hsu]; exact hv))
                  clear hx hbb hsu
                  obtain ⟨fd, hfd⟩ : ∃ fd, rs.any (inRg b) = fd := ⟨_, rfl⟩
                  have HC := HCLS.out b hb
                  rw [hfd] at HC
                  have HHC := Lib.hid HC
                  have HFD := Lib.hid hfd
                  clear HC hfd
                  cases x with
                  | false =>
                    as_aux_lemma =>
                      have HST := Lib.hid (HSTP.out wr false rfl HX.out)
                      clear HSTP
                      go_wp2
                      go_roundw
                      case rel => exact ⟨r + 1 + 1, by go_num, by omega, HR.out.other hgne, HST.out, below_own HBq.out HGX.out⟩
                      case measure => first | (simp [intOf]; done) | (simp [intOf]; omega)
                  | true =>
                    as_aux_lemma =>
                      have HSF := Lib.hid (fun (W : World) hW => HSTP.out W fd (by show (true && rs.any (inRg b)) = fd; rw [HFD.out]; rfl) hW)
                      clear HSTP
                      go_wp2_with fail
                      refine (HHC.out wr).mono ?_; rintro _ w5 ⟨rfl, hb5⟩
                      have n4 := cellb hb5 cX
                      have n5 := (hb5.frozen (p := ⟨gx, r + 1, none⟩) HX.out.lt).trans fX
                      have HST := Lib.hid (HSF.out w5 (HX.out.below hb5))
                      have HR5 := Lib.hid (HR.out.below hb5)
                      have HB5 := Lib.hid (bnext HBq.out hb5)
                      clear hb5
                      go_wp2
                      go_roundw
                      case rel => exact ⟨r + 1 + 1, by go_num, by omega, HR5.out.other hgne, HST.out, below_own HB5.out HGX.out⟩
                      case measure => first | (simp [intOf]; done) | (simp [intOf]; omega)
              · as_aux_lemma =>
                  obtain rfl : q = n + 1 := by omega
                  have HXE := Lib.hid (HX.out.congr (h := gAd (bs N) (.cls t rs) f) (fun z hz => if_pos hz))
                  have hqs : ¬ ((n + 1 : Nat) : Int) ≤ (N.size : Int) := by rw [HNN.out]; omega
                  clear HX
                  have CC := CL.out (k + 1) (by omega) wr
                  rw [HCV.out] at CC
                  have HCC := Lib.hid CC
                  have hwk : IntKind.i64.wrap ((k : Int) + 1) = ((k + 1 : Nat) : Int) := by rw [IntKind.wrap_i64]; omega
                  clear CC
                  go_wp2_with fail
                  refine HCC.out.mono ?_; rintro _ w5 ⟨rfl, hb5⟩
                  have HE := Lib.hid (HEND.out w5 gx (HXE.out.below hb5))
                  have HB5 := Lib.hid (bnext HBq.out hb5)
                  clear hb5
                  go_wp2
                  go_roundw
                  case rel => exact ⟨gx, k + t.length, rfl, rfl, hk2, Nat.le_of_lt HGX.out, HE.out, HB5.out⟩
                  case measure => first | (simp [intOf]; done) | (simp [intOf]; omega)
    · as_aux_lemma =>
        obtain rfl : k = p.size := by omega
        obtain ⟨f, e', hbr, hgood, hdr, hld⟩ := HI.out
        have : e' = [] := by
          cases e' with
          | nil => rfl
          | cons a e2 =>
            have := (piece_at (hgood a (by simp)) hdr).1
            rw [HL.out] at this
            omega
        subst this
        have cn := hbr.c n (by omega)
        rw [show f n = M from hld] at cn
        have hbJ : (n : Int) < (n : Int) + 1 := by omega
        have hbN : n < n + 1 := by omega
        have hsn : ((N.size : Nat) : Int) = (n : Int) := by rw [HNN.out]
        clear hbr hgood hdr hld HI
        go_wp2
        go_ret
        exact ⟨rfl, HB.out⟩
end GR
end Go.Proofs.YtbfbjalnahngjaaGreatDoor
namespace Go.Proofs.YtbfbjalnahngjaaGreatDoor
theorem gEx_bytes : ∀ (t : Tr), (Good false t ∨ Good true t) → ∀ e ∈ gEx t, ∀ b ∈ gTxt e, b ∈ gStr t
  | .nil, _, e, he, b, hb => by
    obtain rfl : e = [] := by simpa [gEx] using he
    cases hb
  | .none, _, e, he, b, hb => by cases he
  | .atom a r, h, e, he, b, hb => by
    have h : a.Good ∧ Good false r := h.resolve_right (fun h => h.elim)
    obtain ⟨e', he', rfl⟩ := List.mem_map.1 he
    have hb : b ∈ a.txt ++ gTxt e' := hb
    show b ∈ a.txt ++ gStr r
    rcases List.mem_append.1 hb with hb | hb
    · exact List.mem_append_left _ hb
    · exact List.mem_append_right _ (gEx_bytes r (.inl h.2) e' he' b hb)
  | .br ws r, h, e, he, b, hb => by
    have h : Good true ws ∧ ws ≠ .none ∧ Good false r := h.resolve_right (fun h => h.elim)
    obtain ⟨e', he', hm⟩ := List.mem_flatMap.1 he
    obtain ⟨e2, he2, rfl⟩ := List.mem_map.1 hm
    have hb : b ∈ List.flatMap GA.txt (e' ++ e2) := hb
    rw [List.flatMap_append] at hb
    show b ∈ 123 :: (gStr ws ++ gStr r)
    refine List.mem_cons_of_mem _ ?_
    rcases List.mem_append.1 hb with hb | hb
    · exact List.mem_append_left _ (gEx_bytes ws (.inr h.1) e' he' b hb)
    · exact List.mem_append_right _ (gEx_bytes r (.inl h.2.2) e2 he2 b hb)
  | .way p ws, h, e, he, b, hb => by
    have h : Good false p ∧ Good true ws := h.resolve_left (fun h => h.elim)
    rcases List.mem_append.1 he with he | he
    · have := gEx_bytes p (.inl h.1) e he b hb
      by_cases hn : ws = .none
      · subst hn
        exact List.mem_append_left _ this
      · rw [gStr_more hn h.2]
        exact List.mem_append_left _ this
    · have := gEx_bytes ws (.inr h.2) e he b hb
      by_cases hn : ws = .none
      · subst hn; cases this
      · rw [gStr_more hn h.2]
        exact List.mem_append_right _ (List.mem_cons_of_mem _ this)
theorem set_bytes {s : List Nat} (h : gErr s = 0) (hb : ∀ c ∈ s, c < 256) : ∀ x ∈ gTx (gTree s) [[]], ∀ b ∈ x, b < 256 := fun x hx b hbx => by
  obtain ⟨hg, _, _, he⟩ := gErr_good h
  obtain ⟨a, ha, e, hex, hxe⟩ := ((gTx_mem (gTree s)).1 hg [[]] x).1 hx
  obtain rfl := List.mem_singleton.1 ha
  refine hb b ?_
  rw [he]
  rw [hxe] at hbx
  exact gEx_bytes (gTree s) (.inl hg) e hex b hbx
/-- What was found among the first k. -/
def anyTo (F : List Nat → Bool) (L : List (List Nat)) (k : Nat) : Bool := (L.take k).any F
theorem anyTo_succ {F : List Nat → Bool} {L : List (List Nat)} {k : Nat} {x : List Nat} (h : L[k]? = some x) : anyTo F L (k + 1) = (anyTo F L k || F x) := by
  unfold anyTo
  rw [take_snoc' h, List.any_append]
  simp
namespace GR
open Go.RowKit GP
set_option maxRecDepth 100000 in
set_option maxHeartbeats 4000000 in
theorem rexpand_c (p : ByteArray) (hp : p.size ≤ 9223372036854775807) (w : World) : Calls Tryz.prog 57 #[.string p] w fun r w' =>
    ∃ v, r = .returned (.tuple #[v, .int .i64 (gErr (bs p))]) ∧ (gErr (bs p) = 0 → TxNew w.heap.size w' v (gTx (gTree (bs p)) [[]])) ∧ (gErr (bs p) ≠ 0 → v = .slice none 0 0) ∧ Below w.heap.size w w' := by
  have CC := check_c p hp w
  by_cases h0 : gErr (bs p) = 0
  · obtain ⟨h1, h2, _, _, _⟩ := gErr_zero h0
    obtain ⟨_, _, h5, _⟩ := gErr_good h0
    have EX := fun (W : World) => expand_all (p.size - 0) p 0 (gTree (bs p)) p.size (by rw [← bs_length]; exact h1) (Nat.zero_le _) (Nat.le_refl _) (by
      rw [List.drop_zero, h2, List.drop_eq_nil_of_le (by rw [bs_length]; exact Nat.le_refl _)]) (Nat.le_refl _) h5 W
    rw [h0] at CC ⊢
    obtain ⟨G, hG⟩ : ∃ G, gTx (gTree (bs p)) [[]] = G := ⟨_, rfl⟩
    rw [hG] at EX ⊢
    have HCC := Lib.hid CC; have HEX := Lib.hid EX
    clear CC EX h0 h1 h2 h5 hG
    go_enter Tryz.func57, Tryz.ntmps57
    go_wp2_with fail
    refine HCC.out.mono ?_; rintro _ w2 ⟨rfl, hb2⟩
    have HB2 := Lib.hid hb2
    clear hb2
    go_wp2_with fail
    refine (HEX.out w2).mono ?_; rintro _ w3 ⟨v, rfl, ht, hb3⟩
    have HT := Lib.hid (ht.mono HB2.out.size); have HB3 := Lib.hid (bnext HB2.out hb3)
    clear ht hb3
    go_wp2
    go_ret2
    exact ⟨_, rfl, fun _ => HT.out, fun h => absurd rfl h, HB3.out⟩
  · obtain ⟨E, hE⟩ : ∃ E, gErr (bs p) = E := ⟨_, rfl⟩
    rw [hE] at CC h0 ⊢
    have HCC := Lib.hid CC
    have hb : (E != 0) = true := bne_iff_ne.2 h0
    clear CC hE
    go_enter Tryz.func57, Tryz.ntmps57
    go_wp2_with fail
    refine HCC.out.mono ?_; rintro _ w2 ⟨rfl, hb2⟩
    have HB2 := Lib.hid hb2
    clear hb2
    go_wp2
    go_ret2
    exact ⟨_, rfl, fun h => absurd h h0, fun _ => rfl, HB2.out⟩
set_option maxRecDepth 100000 in
set_option maxHeartbeats 4000000 in
/-- The document's Match, of a pattern that may be. -/
theorem rmatch_c (p N : ByteArray) (hp : p.size ≤ 9223372036854775807) (hs : N.size ≤ 900) (h0 : gErr (bs p) = 0) (w : World) :
    Calls Tryz.prog 39 #[.string p, .string N] w fun r w' => r = .returned (.tuple #[.bool (gMatch (bs p) (bs N)), .int .i64 0]) ∧ Below w.heap.size w w' := by
  have RX := rexpand_c p hp w
  rw [h0] at RX
  have HSA := Lib.hid (set_any h0 (bs N))
  have hlen : (gTx (gTree (bs p)) [[]]).length ≤ 64 := by
    obtain ⟨g1, _, g3, _⟩ := gErr_good h0
    rw [(gTx_length (gTree (bs p))).1 g1]
    simpa using g3
  have HFT := Lib.hid (fun (x : List Nat) (hx : x ∈ gTx (gTree (bs p)) [[]]) (W : World) => show Calls Tryz.prog 58 #[.string (str x), .string N] W fun r w' => r = .returned (.bool (fitOne (bs N) x)) ∧ Below W.heap.size W w' by
    obtain ⟨g1, g2, _, _⟩ := gErr_good h0
    obtain ⟨a, ha, e, he, hxe⟩ := ((gTx_mem (gTree (bs p))).1 g1 [[]] x).1 hx
    obtain rfl := List.mem_singleton.1 ha
    have hb := set_bytes h0 (bs_mem p) x hx
    have hl := (set_ok h0 hx).2
    rw [List.nil_append] at hxe
    rw [(fit_one h0 he hxe (bs N)).2]
    exact fits_c (str x) N e (gEx_good (gTree (bs p)) (.inl g1) e he) (by rw [bs_str hb, hxe]) (by rw [str_size]; exact hl) hs W)
  obtain ⟨L, hL⟩ : ∃ L, gTx (gTree (bs p)) [[]] = L := ⟨_, rfl⟩
  obtain ⟨M, hM⟩ : ∃ M, gMatch (bs p) (bs N) = M := ⟨_, rfl⟩
  rw [hL] at RX HSA HFT hlen
  rw [hM] at HSA ⊢
  have HRX := Lib.hid RX
  clear RX h0 hL hM
  go_enter Tryz.func39, Tryz.ntmps39
  go_wp2_with fail
  refine HRX.out.mono ?_; rintro _ w2 ⟨v, rfl, hv, _, hb2⟩
  have ht := hv (by first | rfl | trivial)
  obtain ⟨A, c, rfl, hc, hx⟩ := ht.form
  obtain ⟨n, hn⟩ : ∃ n, L.length = n := ⟨_, rfl⟩
  have HX := Lib.hid (fun (h : 0 < n) => show ∃ g, A = some ⟨g, 0, none⟩ ∧ TxAt w2 g L by obtain ⟨g, e, _, _, h⟩ := hx (by rw [hn]; exact h); exact ⟨g, e, h⟩)
  have HB2 := Lib.hid hb2; have HN := Lib.hid hn
  rw [hn] at hc hlen ⊢
  clear hv ht hx hb2 hn HRX
  go_wp2_with fail
  go_loopw [8] (fun v8 wr => ∃ k : Nat, v8 = .int .i64 (k : Nat) ∧ k ≤ n ∧ Hid (anyTo (fitOne (bs N)) L k = false) ∧ Hid (Below w2.heap.size w2 wr)) (fun v8 _ => n - (intOf v8).toNat)
  case atStart => exact ⟨0, rfl, Nat.zero_le _, rfl, Below.refl _ _⟩
  case round =>
    as_aux_lemma =>
      obtain ⟨k, rfl, hk, HF, HB⟩ := hrel
      by_cases hlt : k < n
      · as_aux_lemma =>
          have hki : (k : Int) < (n : Int) := by omega
          obtain ⟨g, rfl, hg⟩ := HX.out (by omega)
          obtain ⟨x, hx⟩ : ∃ x, L[k]? = some x := ⟨_, List.getElem?_eq_getElem (by rw [HN.out]; exact hlt)⟩
          have z0 := cellb HB.out (hg k x hx)
          have FT := HFT.out x (List.mem_of_getElem? hx) wr
          have hsu := anyTo_succ (F := fitOne (bs N)) hx
          have hmem := List.mem_of_getElem? hx
          obtain ⟨X, hX⟩ : ∃ X, str x = X := ⟨_, rfl⟩
          rw [hX] at z0 FT
          obtain ⟨fx, hfx⟩ : ∃ fx, fitOne (bs N) x = fx := ⟨_, rfl⟩
          rw [hfx] at FT hsu
          have HT := Lib.hid (fun (h : fx = true) => show true = M by
            rw [← HSA.out]
            symm
            rw [List.any_eq_true]
            exact ⟨x, hmem, by rw [hfx, h]⟩)
          have HFT2 := Lib.hid FT; have HSU := Lib.hid hsu
          clear FT hsu hg hx hX hfx hmem
          cases fx with
          | true =>
            have HE := Lib.hid (HT.out rfl)
            go_wp2_with fail
            refine HFT2.out.mono ?_; rintro _ w3 ⟨rfl, hb3⟩
            have HB3 := Lib.hid (bnext HB2.out (bnext HB.out hb3))
            clear hb3
            go_wp2
            go_ret2
            exact ⟨congrArg (fun z => Ending.returned (.tuple #[.bool z, .int .i64 0])) HE.out, HB3.out⟩
          | false =>
            have HN2 := Lib.hid (show anyTo (fitOne (bs N)) L (k + 1) = false by rw [HSU.out, HF.out]; rfl)
            go_wp2_with fail
            refine HFT2.out.mono ?_; rintro _ w3 ⟨rfl, hb3⟩
            have HB3 := Lib.hid (bnext HB.out hb3)
            clear hb3
            go_wp2
            go_roundw
            case rel => exact ⟨k + 1, by go_num, by omega, HN2.out, HB3.out⟩
            case measure => first | (simp [intOf]; done) | (simp [intOf]; omega)
      · as_aux_lemma =>
          obtain rfl : k = n := by omega
          have HE := Lib.hid (show false = M by
            rw [← HSA.out, ← HF.out]
            unfold anyTo
            rw [List.take_of_length_le (by rw [HN.out]; exact Nat.le_refl _)])
          go_wp2
          go_ret2
          exact ⟨congrArg (fun z => Ending.returned (.tuple #[.bool z, .int .i64 0])) HE.out, bnext HB2.out HB.out⟩
end GR
end Go.Proofs.YtbfbjalnahngjaaGreatDoor
