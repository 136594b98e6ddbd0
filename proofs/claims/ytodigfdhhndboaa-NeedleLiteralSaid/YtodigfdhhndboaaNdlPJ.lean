/-
  Contracts of the program's own functions of layer 9: Compile.
-/
import Derived.Test.YtodigfdhhndboaaNdlPI
import Derived.Test.YtodigfdhhndboaaNdlOwn
import Derived.Deep.Cut
set_option linter.unusedSimpArgs false
set_option linter.unusedVariables false
namespace Go.Proofs.Ytodigfdhhndboaa.NP
open Go.RowKit
theorem ownsRow_next {B : Nat} {w w' : World} {e : TypeId} {sz n : Nat} {v : Value} {us : List Value} (h : w.ownsRow B e sz v n us) (hb : Below w.heap.size w w') : w'.ownsRow B e sz v n us := by
  refine ⟨h.1, ?_⟩
  rcases h.2 with ⟨rfl, h0⟩ | ⟨g, cap, cur, rfl, hg, hh, hr⟩
  · exact Or.inl ⟨rfl, h0⟩
  · exact Or.inr ⟨g, cap, cur, rfl, hg, (hb.block g (Array.getElem?_eq_some_iff.1 hh).1).trans hh, hr⟩
theorem dvar_low {B b n : Nat} {w w' : World} (hb : Below B w w') (hlt : b < B) (h : DVar w b n) : DVar w' b n :=
  ⟨Nat.lt_of_lt_of_le h.lt hb.size, fun i hi => by obtain ⟨u, hu⟩ := h.c i hi; exact ⟨u, (hb.cell (p := ⟨b, i, none⟩) hlt).trans hu⟩, fun i hi => (hb.frozen (p := ⟨b, i, none⟩) hlt).trans (h.f i hi)⟩
theorem is_dollar {R : ByteArray} (h : bs R = [36]) : R = ⟨#[36]⟩ := by
  have e : str (bs R) = R := str_bs R
  rw [← e, h]
  rfl
theorem not_dollar {R : ByteArray} (h : ¬ bs R = [36]) : (R.toList == [36]) = false := by
  rw [beq_eq_false_iff_ne]
  intro e
  apply h
  rw [ByteArray.toList_eq] at e
  show R.data.toList.map (·.toNat) = [36]
  rw [e]
  rfl
set_option maxRecDepth 100000 in
set_option maxHeartbeats 4000000 in
theorem compile_c (p : ByteArray) (hp : p.size ≤ 9223372036854775807) (w : World) :
    Calls Try.prog 10 #[.string p] w fun e w' => ∃ v, e = .returned (.tuple #[v, .int .i64 (ndComp (bs p)).2]) ∧ NnOut w' v (ndComp (bs p)).1 ∧ (ndComp (bs p)).1.ok ∧ (ndComp (bs p)).1.items.length ≤ 64 ∧ Below w.heap.size w w' := by
  obtain ⟨N, E, hN⟩ : ∃ N E, ndComp (bs p) = (N, E) := ⟨_, _, rfl⟩
  rw [hN]
  by_cases hl : 64 < p.size
  · rw [ndComp_long (by rw [bs_length]; exact hl)] at hN
    injection hN with h1 h2
    subst h1 h2
    go_enter Try.func10, Try.ntmps10
    go_wp2
    exact bodyPost_ret (v := .tuple #[.agg #[.bool false, .bool false, .slice none 0 0], .int .i64 12]) (by simp [results, Try.results10, go_sem]) rfl ⟨_, rfl, ⟨_, rfl, ItOut.nil _⟩, (fun i h => by cases h), Nat.zero_le _, alloc_below _ _⟩
  · have hl2 : ¬ 64 < (bs p).length := by rw [bs_length]; exact hl
    have CP := Lib.hid (fun W => cutp_c p ⟨#[94]⟩ 94 rfl (by decide) W)
    have HN := Lib.hid hN; have HL := Lib.hid hl2
    obtain ⟨i0, hi0, hz0, hzz1, hzz2⟩ := info_parts items_info
    clear hN hl2
    go_enter Try.func10, Try.ntmps10
    go_wp2_with fail
    refine (CP.out _).mono ?_; rintro _ w1 ⟨R0, rfl, hR0, hw1⟩
    obtain ⟨st, hst⟩ : ∃ st, ((bs p).getD 0 0 == (94 : UInt8).toNat) = st := ⟨_, rfl⟩
    rw [hst]
    have hD : DVar w1 w.heap.size 3 := hw1 ▸ DVar.alloc _ _
    have hB : Below w.heap.size w w1 := hw1 ▸ alloc_below _ _
    have hS : w.heap.size + 1 ≤ w1.heap.size := by rw [hw1]; simp
    have hlr : R0.size ≤ 64 := by rw [← bs_length, hR0]; have := cutB_length 94 (bs p); rw [bs_length] at this; exact Nat.le_trans this (by omega)
    have HST := Lib.hid (show ((bs p).getD 0 0 == 94) = st from hst); have HR0 := Lib.hid (show bs R0 = cutB 94 (bs p) from hR0); have HD0 := Lib.hid hD; have HB0 := Lib.hid hB; have HS0 := Lib.hid hS
    clear hst hR0 hD hB hw1 hS
    go_wp2
    go_loopw [4, 6, 7, 8, 9] (fun rv iv _ _ _ wr => ∃ (R : ByteArray) (n : Nat) (vr : Value) (L : List NI), rv = .string R ∧ iv = vr ∧ n + R.size ≤ 64 ∧ Hid (ItNew (w.heap.size + 1) wr vr L) ∧ Hid (L.length = n) ∧ Hid (ItmI (cutB 94 (bs p)) (bs R) L) ∧ Hid (∀ i ∈ L, i.ok) ∧ Hid (DVar wr w.heap.size 3) ∧ Hid (Below w.heap.size w wr) ∧ Hid (w.heap.size + 1 ≤ wr.heap.size)) (fun rv _ _ _ _ _ => strLen rv)
    case atStart => exact ⟨R0, 0, _, [], rfl, rfl, by omega, ItNew.nil _ _, rfl, by rw [HR0.out]; exact ItmI.start _, (fun i h => by cases h), HD0.out, HB0.out, HS0.out⟩
    case round =>
      obtain ⟨R, n, vr, L, rfl, rfl, hn, HI, HL2, HM, HOK, HD, HB, HS⟩ := hrel
      by_cases hz : R.size = 0
      · obtain rfl := is_empty hz
        obtain ⟨A, cap, hv, hcap, _⟩ := HI.out.out
        subst hv
        have hc := ndComp_yes HL.out (ItmI.end_ (show ItmI (cutB 94 (bs p)) [] L from HM.out))
        rw [HN.out, HST.out] at hc
        injection hc with hc1 hc2
        subst hc1 hc2
        have hLl : L.length ≤ 64 := by have := HL2.out; omega
        have HLL := Lib.hid hLl
        clear hLl
        go_wp2_with (refine wpList_put rfl 29 _ _ rfl w.heap.size [.bool st, .bool false, .slice A L.length cap] rfl rfl HD.out (by kernel_rfl) (by simp [Value.oneCell']) ?_; intro y1 hq; obtain ⟨t0, t1, t2⟩ := hq.at_.three)
        exact bodyPost_ret (v := .tuple #[.agg #[.bool st, .bool false, .slice A L.length cap], .int .i64 0]) (by simp [results, Try.results10, go_sem, t0, t1, t2]) rfl ⟨_, rfl, ⟨_, rfl, (HI.out.kept hq.grown (Nat.lt_succ_self _)).out⟩, HOK.out, HLL.out, hq.below (Nat.le_refl _) HB.out⟩
      · have hz2 : 0 < R.size := by omega
        have hne := ne_empty hz2
        by_cases hdol : bs R = [36]
        · obtain rfl := is_dollar hdol
          obtain ⟨A, cap, hv, hcap, _⟩ := HI.out.out
          subst hv
          have hc := ndComp_yes HL.out (ItmI.dollar (show ItmI (cutB 94 (bs p)) [36] L from HM.out))
          rw [HN.out, HST.out] at hc
          injection hc with hc1 hc2
          subst hc1 hc2
          have hLl : L.length ≤ 64 := by have := HL2.out; omega
          have HLL := Lib.hid hLl
          clear hLl
          go_wp2_with (refine wpList_put rfl 29 _ _ rfl w.heap.size [.bool st, .bool true, .slice A L.length cap] rfl rfl HD.out (by kernel_rfl) (by simp [Value.oneCell']) ?_; intro y1 hq; obtain ⟨t0, t1, t2⟩ := hq.at_.three)
          exact bodyPost_ret (v := .tuple #[.agg #[.bool st, .bool true, .slice A L.length cap], .int .i64 0]) (by simp [results, Try.results10, go_sem, t0, t1, t2]) rfl ⟨_, rfl, ⟨_, rfl, (HI.out.kept hq.grown (Nat.lt_succ_self _)).out⟩, HOK.out, HLL.out, hq.below (Nat.le_refl _) HB.out⟩
        · have hnd := not_dollar hdol
          obtain ⟨a, m, hb, e0, hml, ha⟩ := bs_cons hz2
          have IC := Lib.hid (fun W => item_c R hz2 (by omega) W)
          have hm0 := HM.out
          rw [hb] at hm0
          have HM2 := Lib.hid hm0
          have HBS := Lib.hid hb
          have HND := Lib.hid (show ¬ (a = 36 ∧ m = []) from fun e => hdol (by rw [hb, e.1, e.2]))
          clear hb hm0 hdol
          go_wp2_with fail
          refine (IC.out _).mono ?_; rintro _ w2 ⟨a0, a1, a2, a3, sst, R2, ok, rfl, hii, hio, hb2⟩
          rw [HBS.out] at hii
          have HD2 := Lib.hid (HD.out.below hb2); have HB2 := Lib.hid (bnext HB.out hb2); have HI2 := Lib.hid (HI.out.below hb2); have HS2 := Lib.hid (Nat.le_trans HS.out hb2.size)
          cases ok with
          | false =>
            have hc := ndComp_no HL.out (ItmI.fail HM2.out HND.out hii)
            rw [HN.out] at hc
            injection hc with hc1 hc2
            subst hc1 hc2
            clear hii hb2 hio
            go_upto_region 8 with (refine wpList_put rfl 25 _ _ rfl w2.heap.size [.int .u64 (a0 : Nat), .int .u64 (a1 : Nat), .int .u64 (a2 : Nat), .int .u64 (a3 : Nat), .bool sst] rfl rfl (DVar.alloc _ _) (by kernel_rfl) (by simp [Value.oneCell']) ?_; intro y1 hq)
            have hb3 : Below w2.heap.size w2 y1 := hq.below (Nat.le_refl _) (alloc_below _ _)
            have HD3 := Lib.hid (HD2.out.below hb3); have HB3 := Lib.hid (bnext HB2.out hb3)
            clear hq hb3
            go_wp2_with (refine wpList_put rfl 29 _ _ rfl w.heap.size [.bool false, .bool false, .slice none 0 0] rfl rfl HD3.out (by kernel_rfl) (by simp [Value.oneCell']) ?_; intro y2 hq2; obtain ⟨t0, t1, t2⟩ := hq2.at_.three)
            exact bodyPost_ret (v := .tuple #[.agg #[.bool false, .bool false, .slice none 0 0], .int .i64 10]) (by simp [results, Try.results10, go_sem, t0, t1, t2]) rfl ⟨_, rfl, ⟨_, rfl, ItOut.nil _⟩, (fun i h => by cases h), Nat.zero_le _, hq2.below (Nat.le_refl _) HB3.out⟩
          | true =>
            obtain ⟨hnx, hrl⟩ := ItmI.next HM2.out hii
            have HNX := Lib.hid hnx
            rw [bs_length] at hrl
            have HIO := Lib.hid hio
            obtain ⟨A, cap, hv, hcap, _⟩ := HI2.out.out
            subst hv
            have how : w2.ownsRow (w.heap.size + 1) 25 5 (.slice A L.length cap) L.length (itsC L) := HI2.out
            have HLE := Lib.hid (show ∀ i ∈ L ++ [(⟨a0, a1, a2, a3, sst⟩ : NI)], i.ok from fun i h => by
              rcases List.mem_append.1 h with h | h
              · exact HOK.out i h
              · obtain rfl := List.mem_singleton.1 h
                exact HIO.out)
            have HLN := Lib.hid (show (L ++ [(⟨a0, a1, a2, a3, sst⟩ : NI)]).length = n + 1 by rw [List.length_append, HL2.out]; rfl)
            rw [HL2.out] at how HI HI2 hcap ⊢
            clear hii hb2 hnx hio
            go_upto_region 9 with (refine wpList_put rfl 25 _ _ rfl w2.heap.size [.int .u64 (a0 : Nat), .int .u64 (a1 : Nat), .int .u64 (a2 : Nat), .int .u64 (a3 : Nat), .bool sst] rfl rfl (DVar.alloc _ _) (by kernel_rfl) (by simp [Value.oneCell']) ?_; intro y1 hq; obtain ⟨t0, t1, t2, t3, t4⟩ := hq.at_.cells5)
            have hb3 : Below w2.heap.size w2 y1 := hq.below (Nat.le_refl _) (alloc_below _ _)
            have HD3 := Lib.hid (HD2.out.below hb3); have HB3 := Lib.hid (bnext HB2.out hb3)
            have HOW := Lib.hid (ownsRow_next how hb3); have HS3 := Lib.hid (Nat.le_trans HS2.out hb3.size)
            clear hq hb3 how
            go_wp2_with (at_builtin; refine wpList_append_any _ rfl (.tmp 34) (.tmp 36) _ rfl (w.heap.size + 1) 25 i0 (.agg #[.int .u64 0, .int .u64 0, .int .u64 0, .int .u64 0, .bool false]) 5 40 Try.underlying27 hi0 hz0 hzz1 hzz2 rfl (by decide) (.slice A n cap) n (itsC L) rfl (World.ownsRow.alloc HOW.out _) _ (some ⟨y1.heap.size, 0, none⟩) 1 1 (itC ⟨a0, a1, a2, a3, sst⟩) rfl (Reads.of_own (World.ownsRow_lit (base := 0) (e := 25) (size := 5) y1 #[.int .u64 (a0 : Nat), .int .u64 (a1 : Nat), .int .u64 (a2 : Nat), .int .u64 (a3 : Nat), .bool sst] 1 (Nat.zero_le _) (by decide) rfl)) (it_one _) (by simp only [maxLen]; omega) (by omega) (by have := HS3.out; simp; omega) ?_; intro v3 w3 hown3 hg3 hat3)
            have hlow : Below (w.heap.size + 1) y1 w3 := Below.grown ((Below.refl _ y1).alloc HS3.out _) hg3 (by have := HS3.out; simp; omega) (fun k e => (World.ownsRow.lt HOW.out k e).1)
            have HB4 := Lib.hid (HB3.out.trans (hlow.mono (Nat.le_succ _))); have HD4 := Lib.hid (dvar_low hlow (Nat.lt_succ_self _) HD3.out)
            have HI4 := Lib.hid (ItNew.push (l := L) (i := ⟨a0, a1, a2, a3, sst⟩) (by rw [HL2.out]; exact hown3)); have HS4 := Lib.hid (Nat.le_trans HS3.out hlow.size)
            clear hown3 hg3 hat3 hlow
            go_wp2
            go_roundw
            case rel => exact ⟨R2, n + 1, _, _, rfl, rfl, by omega, HI4.out, HLN.out, HNX.out, HLE.out, HD4.out, HB4.out, HS4.out⟩
            case measure => simp only [strLen_is]; omega
end Go.Proofs.Ytodigfdhhndboaa.NP
