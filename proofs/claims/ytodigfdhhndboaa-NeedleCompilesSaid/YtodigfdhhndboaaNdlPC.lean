/-
  Contracts of the program's own functions of layer 9: step.
-/
import Derived.Test.YtodigfdhhndboaaNdlPA
import Derived.Test.YtodigfdhhndboaaNdlPB
set_option linter.unusedSimpArgs false
set_option linter.unusedVariables false
namespace Go.Proofs.Ytodigfdhhndboaa.NP
open Go.RowKit
/-- What step's loop keeps: behind k places of the row. -/
structure StpI (is : List NI) (b : Nat) (row next : List Nat) (k d : Nat) (L : List Nat) : Prop where
  eq : L = ndGo is b next (row.take k)
  inv : RowI is L d
  top : ∀ q ∈ L, q ≤ is.length
  low : ∀ a ∈ row.drop k, d ≤ a
theorem RowI.len {is : List NI} {L : List Nat} {d : Nat} (h : RowI is L d) (ht : ∀ q ∈ L, q ≤ is.length) : L.length ≤ is.length + 1 := by
  rcases rise_length L 0 h.rise (fun q hq => ⟨Nat.zero_le _, ht q hq⟩) with h | rfl
  · omega
  · exact Nat.zero_le _
theorem StpI.start {is : List NI} {b : Nat} {row next : List Nat} (hn : RowI is next 0) (ht : ∀ q ∈ next, q ≤ is.length) : StpI is b row next 0 0 next := ⟨by rw [List.take_zero]; rfl, hn, ht, fun a _ => Nat.zero_le _⟩
theorem StpI.next {is : List NI} {b : Nat} {row next L : List Nat} {k d : Nat} (h : StpI is b row next k d L) (hr : row.Pairwise (· < ·)) (hb : ∀ a ∈ row, a ≤ is.length) (hk : k < row.length) :
    ∃ d', StpI is b row next (k + 1) d' (ndPut is b L (row.getD k 0)) := by
  obtain ⟨x, hx⟩ : ∃ x, row.getD k 0 = x := ⟨_, rfl⟩
  have e : row[k] = x := by rw [← hx, List.getD_eq_getElem?_getD, List.getElem?_eq_getElem hk]; rfl
  have ed : row.drop k = x :: row.drop (k + 1) := by rw [← e]; exact List.drop_eq_getElem_cons hk
  have et : row.take (k + 1) = row.take k ++ [x] := by rw [List.take_add_one, List.getElem?_eq_getElem hk, e]; rfl
  have hdx := h.low x (by rw [ed]; exact List.mem_cons_self)
  have hp : (x :: row.drop (k + 1)).Pairwise (· < ·) := by rw [← ed]; exact hr.sublist (List.drop_sublist _ _)
  rw [List.pairwise_cons] at hp
  have heq : ndPut is b L x = ndGo is b next (row.take (k + 1)) := by
    rw [et, h.eq]
    unfold ndGo
    rw [List.foldl_append]
    rfl
  have hxl : x ≤ is.length := hb x (by rw [← e]; exact List.getElem_mem hk)
  rw [hx]
  by_cases hc : x = is.length ∨ ndFits (is.getD x NI.zero) b = false
  · have e2 : ndPut is b L x = L := if_pos hc
    exact ⟨d, heq, by rw [e2]; exact h.inv, fun q hq => h.top q (by rw [e2] at hq; exact hq), fun a ha => h.low a (by rw [ed]; exact List.mem_cons_of_mem _ ha)⟩
  · have e2 : ndPut is b L x = ndReach is L (ndDest is x) := if_neg hc
    have hd := dest_le is x
    have hlt : x < is.length := by
      rcases Nat.lt_or_ge x is.length with h | h
      · exact h
      · exact absurd (.inl (by omega)) hc
    have hj : RowI is L (ndDest is x) := h.inv.mono (by omega)
    refine ⟨ndDest is x, heq, by rw [e2]; exact reach_rise hj, fun q hq => ?_, fun a ha => by have := hp.1 a ha; omega⟩
    rw [e2, reach_mem hj] at hq
    rcases hq with hq | hq
    · exact h.top q hq
    · have := ndEnd_le (is := is) (a := ndDest is x) (by omega)
      omega
theorem item_form (i : NI) : ∃ s0 s1 s2 s3 st, i = ⟨s0, s1, s2, s3, st⟩ := ⟨i.s0, i.s1, i.s2, i.s3, i.star, rfl⟩
set_option maxRecDepth 100000 in
set_option maxHeartbeats 2000000 in
theorem step_c (B : Nat) (v x u : Value) (next row : List Nat) (is : List NI) (b : Nat) (hb : b < 256) (hi : is.length ≤ 1000) (hok : ∀ i ∈ is, i.ok) (hn : RowI is next 0) (hnt : ∀ q ∈ next, q ≤ is.length)
    (hr : row.Pairwise (· < ·)) (hrt : ∀ a ∈ row, a ≤ is.length) (w : World) (hB : B ≤ w.heap.size) (hv : PlNew B w v next) (hx : PlNew B w x row) (hap : Apart v x) (hu : ItLow B w u is) :
    Calls Try.prog 28 #[v, x, u, .int .u8 (b : Nat)] w fun e w' => ∃ v', e = .returned v' ∧ Rch B w v w' v' (ndGo is b next row) := by
  have hrl : row.length ≤ is.length + 1 := by
    rcases rise_length row 0 hr (fun q hq => ⟨Nat.zero_le _, hrt q hq⟩) with h | rfl
    · omega
    · exact Nat.zero_le _
  have HV := Lib.hid hv; have HX := Lib.hid hx; have HU := Lib.hid hu; have HA := Lib.hid hap; have HOK := Lib.hid hok
  have HR := Lib.hid hr; have HRT := Lib.hid hrt
  have H0 := Lib.hid (StpI.start (b := b) (row := row) hn hnt)
  obtain ⟨AX, cx, hxe, hcx, hgx⟩ := hx.form
  obtain ⟨AU, cu, hue, hcu, hgu⟩ := hu
  obtain ⟨n, hnn⟩ : ∃ n, row.length = n := ⟨_, rfl⟩
  obtain ⟨m, hm⟩ : ∃ m, is.length = m := ⟨_, rfl⟩
  have HN := Lib.hid hnn; have HM := Lib.hid hm; have HGX := Lib.hid hgx
  have HS0 := Lib.hid (Rch.start hv)
  subst hxe hue
  rw [hnn] at hrl hcx HX HA ⊢
  rw [hm] at hi hcu hrl HU ⊢
  clear hv hx hap hn hnt hr hrt hok hgx hgu hnn hm
  go_enter Try.func28, Try.ntmps28
  go_wp2
  go_loopw [0, 10, 13] (fun rv _ kv wr => ∃ (k d : Nat) (L : List Nat) (vr : Value), rv = vr ∧ kv = .int .i64 (k : Nat) ∧ k ≤ n ∧ Hid (StpI is b row next k d L) ∧ Hid (Rch B w v wr vr L)) (fun _ _ kv _ => n - (intOf kv).toNat)
  case atStart => exact ⟨0, 0, next, _, rfl, rfl, Nat.zero_le _, H0.out, HS0.out⟩
  case round =>
    obtain ⟨k, d, L, vr, rfl, rfl, hk, HI, HC⟩ := hrel
    have hlow := HC.out.low HV.out hB
    have IT := Lib.hid (HU.out.below hlow)
    obtain ⟨hx2, ha2⟩ := HC.out.other HX.out HA.out
    have hLl := RowI.len HI.out.inv HI.out.top
    rw [HM.out] at hLl
    by_cases hlt : k < n
    · obtain ⟨d', hn'⟩ := HI.out.next HR.out HRT.out (by rw [HN.out]; exact hlt)
      have hne : row ≠ [] := by intro e; have := HN.out; rw [e] at this; simp at this; omega
      obtain ⟨g, rfl⟩ := HGX.out hne
      have hcl := hx2.cellAt (k := k) (by rw [HN.out]; exact hlt)
      obtain ⟨y, hy⟩ : ∃ y, row.getD k 0 = y := ⟨_, rfl⟩
      have hym : y ≤ m := by
        rw [← HM.out, ← hy, List.getD_eq_getElem?_getD, List.getElem?_eq_getElem (by rw [HN.out]; exact hlt)]
        exact HRT.out _ (List.getElem_mem _)
      rw [hy] at hcl hn'
      have HNX := Lib.hid hn'
      clear hn' hy hne hx2
      obtain ⟨ln, hln⟩ : ∃ ln, L.length = ln := ⟨_, rfl⟩
      rw [hln] at hLl
      by_cases hye : y = m
      · have e2 : ndPut is b L y = L := if_pos (.inl (by rw [hye, HM.out]))
        rw [e2] at HNX
        clear e2 hlow ha2
        go_wp2
        go_roundw
        case rel => exact ⟨k + 1, d', L, _, rfl, by go_num, by omega, HNX.out, HC.out⟩
        case measure => simp [intOf]; omega
      · have hym2 : y < m := by omega
        have hy3 : y < is.length := by rw [HM.out]; exact hym2
        obtain ⟨A2, c2, hv2, hc2, hx2⟩ := IT.out
        injection hv2 with e1 e2 e3
        subst e1 e3
        obtain ⟨bb, off, rfl, _, hat⟩ := hx2 (by intro h; rw [h] at hy3; exact absurd hy3 (Nat.not_lt_zero _))
        obtain ⟨y0, y1, y2, y3, y4⟩ := hat.five hy3
        obtain ⟨it, hit⟩ : ∃ it, is.getD y NI.zero = it := ⟨_, rfl⟩
        have hok : it.ok := HOK.out it (by rw [← hit, List.getD_eq_getElem?_getD, List.getElem?_eq_getElem hy3]; exact List.getElem_mem _)
        have FC := Lib.hid (fun w => fits_c it hok b hb w)
        have HIT := Lib.hid hit
        rw [hit] at y0 y1 y2 y3 y4
        obtain ⟨s0, s1, s2, s3, st, rfl⟩ := item_form it
        clear hit hok hat hx2 e2 hlow IT
        cases hf : ndFits ⟨s0, s1, s2, s3, st⟩ b with
        | false =>
          have e2 : ndPut is b L y = L := if_pos (.inr (by rw [HIT.out]; exact hf))
          rw [e2] at HNX
          rw [hf] at FC
          clear e2 hf
          go_wp2_with fail
          refine (FC.out _).mono ?_; rintro _ w2 ⟨rfl, hb2⟩
          have HC2 := Lib.hid (HC.out.below hb2)
          clear hb2
          go_wp2
          go_roundw
          case rel => exact ⟨k + 1, d', L, _, rfl, by go_num, by omega, HNX.out, HC2.out⟩
          case measure => simp [intOf]; omega
        | true =>
          cases st with
          | true =>
            have e2 : ndPut is b L y = ndReach is L y := (if_neg (by rw [HIT.out, hf, HM.out]; simp; omega)).trans (by unfold ndDest; rw [HIT.out]; rfl)
            rw [e2] at HNX
            rw [hf] at FC
            have RC := Lib.hid (fun (w2 : World) (h : Rch B w v w2 u0 L) => reach_c B u0 (.slice (some ⟨bb, off, none⟩) m cu) L is y (by omega) (by rw [HM.out]; exact hi) (by rw [HM.out]; omega) HI.out.top w2 (Nat.le_trans hB h.keep.size) h.new (HU.out.below (h.low HV.out hB)))
            clear e2 hf
            go_wp2_with fail
            refine (FC.out _).mono ?_; rintro _ w2 ⟨rfl, hb2⟩
            have HC2 := Lib.hid (HC.out.below hb2)
            have y5 := cell_keep hb2 y4
            clear hb2 y0 y1 y2 y3 y4
            go_wp2_with fail
            refine (RC.out _ HC2.out).mono ?_; rintro _ w3 ⟨v3, rfl, hr3⟩
            have HC3 := Lib.hid (HC2.out.next hr3)
            clear hr3
            go_wp2
            go_roundw
            case rel => exact ⟨k + 1, d', _, _, rfl, by go_num, by omega, HNX.out, HC3.out⟩
            case measure => simp [intOf]; omega
          | false =>
            have e2 : ndPut is b L y = ndReach is L (y + 1) := (if_neg (by rw [HIT.out, hf, HM.out]; simp; omega)).trans (by unfold ndDest; rw [HIT.out]; rfl)
            rw [e2] at HNX
            rw [hf] at FC
            have RC := Lib.hid (fun (w2 : World) (h : Rch B w v w2 u0 L) => reach_c B u0 (.slice (some ⟨bb, off, none⟩) m cu) L is (y + 1) (by omega) (by rw [HM.out]; exact hi) (by rw [HM.out]; omega) HI.out.top w2 (Nat.le_trans hB h.keep.size) h.new (HU.out.below (h.low HV.out hB)))
            clear e2 hf
            go_wp2_with fail
            refine (FC.out _).mono ?_; rintro _ w2 ⟨rfl, hb2⟩
            have HC2 := Lib.hid (HC.out.below hb2)
            have y5 := cell_keep hb2 y4
            clear hb2 y0 y1 y2 y3 y4
            go_wp2_with fail
            refine (RC.out _ HC2.out).mono ?_; rintro _ w3 ⟨v3, rfl, hr3⟩
            have HC3 := Lib.hid (HC2.out.next hr3)
            clear hr3
            go_wp2
            go_roundw
            case rel => exact ⟨k + 1, d', _, _, rfl, by go_num, by omega, HNX.out, HC3.out⟩
            case measure => simp [intOf]; omega
    · obtain rfl : k = n := by omega
      have hge := HI.out.eq
      rw [List.take_of_length_le (by rw [HN.out]; exact Nat.le_refl _)] at hge
      have HGE := Lib.hid hge
      clear hge hlow ha2 hx2
      go_wp2
      go_ret
      exact ⟨_, rfl, HGE.out ▸ HC.out⟩
end Go.Proofs.Ytodigfdhhndboaa.NP
