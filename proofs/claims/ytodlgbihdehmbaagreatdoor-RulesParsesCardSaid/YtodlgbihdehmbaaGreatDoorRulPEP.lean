/-
  Contracts of the program's functions of layer 12: the stores of a configuration, read.
-/
import Derived.Test.YtodlgbihdehmbaaGreatDoorRulPDP
set_option linter.unusedSimpArgs false
set_option linter.unusedVariables false
namespace Go.Proofs.YtodlgbihdehmbaaGreatDoor.LP
open Go.RowKit Cf Cf.KR Cf.KP
theorem ret_vi {v : Value} {a b : Int} (h : a = b) : Ending.returned (.tuple #[v, .int .i64 a]) = .returned (.tuple #[v, .int .i64 b]) := by rw [h]
set_option maxRecDepth 100000 in
set_option maxHeartbeats 4000000 in
theorem readS_p (s : ByteArray) (w : World) (vm : Value) (g : G w) (fm : TxOut w vm [patB, retB]) :
    Calls Tryz.prog 25 #[.string s, vm, .slice none 0 0, .func (.func 26) #[] #[]] w fun e w' => ∃ v, e = .returned (.tuple #[v, .int .i64 (storesV (bs s)).2]) ∧ StOut w' v (storesV (bs s)).1 ∧ Below w.heap.size w w' := by
  have eg := eg_store
  have PC := parse_p s w
  have OKS := conf_ok (l := bs s) (bs_small s)
  have SE := fun (k : Nat) (x : Sec) => @stores_err (bs s) k x
  have SO := @stores_ok (bs s)
  have SZ : (confV (bs s)).2 ≠ 0 → storesV (bs s) = ([], (confV (bs s)).2) := fun h => by unfold storesV; rw [if_pos h]
  have FEW := (conf_few (bs s)).secs
  obtain ⟨⟨L, E⟩, hC⟩ : ∃ C, confV (bs s) = C := ⟨_, rfl⟩
  rw [hC] at PC OKS SE SO SZ FEW
  obtain ⟨⟨D, Z⟩, hD⟩ : ∃ D, storesV (bs s) = D := ⟨_, rfl⟩
  rw [hD] at SE SO SZ ⊢
  simp only at PC OKS SE SO SZ FEW ⊢
  clear hC hD
  obtain ⟨n, hn⟩ : ∃ n, L.length = n := ⟨_, rfl⟩
  rw [hn] at FEW
  obtain ⟨Am, cm, rfl, hcm, hxm⟩ := id fm
  have FM := Lib.hid fm
  simp only [List.length_cons, List.length_nil, Nat.zero_add, Nat.reduceAdd] at FM ⊢
  obtain ⟨i0, hi0, hz0, hz1, hz2⟩ := info_parts store_info
  have PCC := Lib.hid PC; have HOK := Lib.hid OKS; have HSE := Lib.hid SE; have HSO := Lib.hid SO; have HSZ := Lib.hid SZ; have HN := Lib.hid hn; have GG := Lib.hid g
  clear PC OKS SE SO SZ hn g fm hcm hxm
  go_enter Tryz.func25, Tryz.ntmps25
  go_wp2_with fail
  refine PCC.out.mono ?_; rintro _ w1 ⟨v, rfl, hv, hb1⟩
  obtain ⟨AL, cL, rfl, hcL, hxL⟩ := id hv
  have HV := Lib.hid hv; have HXL := Lib.hid hxL; have HB1 := Lib.hid hb1
  rw [HN.out] at hcL HV ⊢
  clear hv hxL hb1 PCC
  by_cases h0 : E = 0
  · subst h0
    clear HSZ
    go_wp2
    go_loopw [31, 12] (fun i o wr => ∃ k : Nat, i = .int .i64 (k : Nat) ∧ k ≤ n ∧ ((∀ y ∈ L.take k, (stoV y).2 = 0) ∧ StNew w1.heap.size wr o (stsV (L.take k)) ∧ Below w1.heap.size w1 wr)) (fun i _ _ => n - (intOf i).toNat)
    case atStart => exact ⟨0, rfl, Nat.zero_le _, fun y hy => (by simp at hy), StNew.nil _ _, Below.refl _ _⟩
    case round =>
      obtain ⟨k, rfl, hk, hz, hst, hbw⟩ := hrel
      have hlen : (stsV (L.take k)).length = k := by unfold stsV; rw [List.length_map, List.length_take, HN.out]; omega
      obtain ⟨AO, cO, rfl, hcO, hown⟩ := hst.form
      rw [hlen] at hcO hst hown ⊢
      have HZ := Lib.hid hz; have HST := Lib.hid hst; have HBW := Lib.hid hbw; have HOW := Lib.hid hown; have HLEN := Lib.hid hlen
      have HW := Lib.hid (bnext HB1.out hbw)
      clear hz hst hown hlen
      by_cases hlt : k < n
      · have hkl : k < L.length := by rw [HN.out]; exact hlt
        obtain ⟨bb, rfl, ha⟩ := HXL.out (by intro e; rw [e] at hkl; exact absurd hkl (Nat.not_lt_zero _))
        have hp := List.getElem?_eq_getElem hkl
        obtain ⟨⟨nm, kv⟩, hxx⟩ : ∃ x, L[k] = x := ⟨_, rfl⟩
        rw [hxx] at hp
        obtain ⟨u, c0, c1, hkv⟩ := (ha.below hbw) k (nm, kv) hp
        have OK := HOK.out (nm, kv) (List.mem_of_getElem? hp)
        have few := OK.few
        simp only at few c0 hkv
        have HP := Lib.hid hp
        have KEYS := fun (W : World) (h : Below wr.heap.size wr W) => keys_p (str nm) u (.slice Am 2 cm) (.slice none 0 0) kv [patB, retB] [] (by omega) (fun x hx => (OK.kv x hx).1) (by decide) (by decide) (by unfold Byt patB retB; decide) (fun m hm => nomatch hm) W (hkv.below h) (FM.out.below (bnext HW.out h)) ⟨none, 0, rfl, Nat.le_refl _, fun h => absurd rfl h⟩
        have GET := fun (W : World) (h : Below wr.heap.size wr W) => get_p (str nm) u kv (by omega) (fun x hx => (OK.kv x hx).1) (str patB) W (hkv.below h)
        rw [bs_str (by unfold Byt patB; decide : Byt patB)] at GET
        have COMP := fun (W : World) => Nd.NP.compile_c (str ((getV kv patB).getD [])) (by rw [str_size]; have := (OK.val patB).2; simp only at this; omega) W
        rw [bs_str (OK.val patB).1] at COMP
        have STO := fun (W : World) (h : Below wr.heap.size wr W) => store_p (str nm) (str ((getV kv patB).getD [])) u kv (by omega) OK.kv W (GG.out.below (bnext HW.out h)) (hkv.below h)
        have SNO := @stoV_no (nm, kv)
        have SYES := @stoV_yes (nm, kv)
        have BYT : Byt nm ∧ Byt ((getV kv patB).getD []) := ⟨OK.nm, (OK.val patB).1⟩
        simp only at SNO SYES
        obtain ⟨A1, c1', rfl, -, -⟩ := id hkv
        generalize kv.length = m at *
        obtain ⟨pt, hpt⟩ : ∃ pt, (getV kv patB).getD [] = pt := ⟨_, rfl⟩
        obtain ⟨PT, hPT⟩ : ∃ PT, str pt = PT := ⟨_, rfl⟩
        obtain ⟨NM, hNM⟩ : ∃ NM, str nm = NM := ⟨_, rfl⟩
        obtain ⟨⟨R, E2⟩, hR⟩ : ∃ R, parseV ((getV kv retB).getD []) = R := ⟨_, rfl⟩
        obtain ⟨kd, hkd⟩ : ∃ kd, keysV [patB, retB] [] kv = kd := ⟨_, rfl⟩
        obtain ⟨gd, hgd⟩ : ∃ gd, (getV kv patB).isSome = gd := ⟨_, rfl⟩
        rw [hpt] at GET COMP STO SYES BYT
        obtain ⟨E1, hE1⟩ : ∃ E1, (Nd.ndComp pt).2 = E1 := ⟨_, rfl⟩
        rw [hE1] at COMP SYES
        rw [hR] at STO SYES
        rw [hkd] at KEYS SNO SYES
        rw [hgd] at GET
        rw [hPT] at GET COMP STO
        rw [hNM] at KEYS GET STO c0
        have K2 := Lib.hid KEYS; have G2 := Lib.hid GET; have C2 := Lib.hid COMP; have S2 := Lib.hid STO; have N2 := Lib.hid SNO; have Y2 := Lib.hid SYES; have B2 := Lib.hid BYT
        have HPT := Lib.hid hPT; have HNM := Lib.hid hNM
        clear KEYS GET COMP STO SNO SYES BYT hPT hNM hpt hR hkd hgd hE1 hp hxx ha hkl hkv few OK
        have ERR := Lib.hid (fun (e : Int) (h : stoV (nm, kv) = (Sto.none, e)) (he : e ≠ 0) => (show D = [] ∧ Z = e from by
          have := HSE.out k (nm, kv) trivial HP.out HZ.out (by rw [h]; exact he)
          rw [h] at this
          exact ⟨congrArg Prod.fst this, congrArg Prod.snd this⟩))
        have BOX := Lib.hid (alloc_below wr (.cells #[.string NM, .slice A1 m c1'] 63))
        cases kd
        · have F := Lib.hid (ERR.out 7 (N2.out rfl) (by decide))
          clear HSE HSO HOK N2 Y2 ERR G2 C2 S2 HST HZ
          go_wp2_with (go_at_call 50; refine (K2.out _ BOX.out).mono ?_; rintro _ w2 ⟨rfl, hb2⟩)
          go_ret2
          exact ⟨_, ret_vi F.out.2.symm, by rw [F.out.1]; exact StOut.nil _, bnext (bnext HW.out BOX.out) hb2⟩
        · have Y3 := Lib.hid (Y2.out rfl)
          clear Y2 N2
          by_cases h1 : E1 = 0
          · subst h1
            by_cases h2 : E2 = 0
            · subst h2
              have HV2 := Lib.hid (show stoV (nm, kv) = ((nm, pt, R), 0) from Y3.out.trans ((if_neg (fun h => h rfl)).trans (if_neg (fun h => h rfl))))
              have NEXT := Lib.hid (show (∀ y ∈ L.take (k + 1), (stoV y).2 = 0) ∧ stsV (L.take (k + 1)) = stsV (L.take k) ++ [(nm, pt, R)] from by
                rw [List.take_add_one, HP.out]
                simp only [Option.toList_some]
                refine ⟨fun y hy => ?_, ?_⟩
                · rcases List.mem_append.1 hy with hy | hy
                  · exact HZ.out y hy
                  · rw [List.mem_singleton.1 hy, HV2.out]
                · unfold stsV
                  rw [List.map_append, List.map_cons, List.map_nil, HV2.out])
              have PUSH := Lib.hid (fun (W1 : World) (N : Nat) (A4 : Option Addr) (n4 c4 : Nat) (h : Below wr.heap.size wr W1) (hN : wr.heap.size ≤ N) (hu : RgNew N W1 (.slice A4 n4 c4) R) =>
                (show ∃ xs, W1.ownsRow w1.heap.size 47 3 (.slice AO k cO) k xs ∧ ∀ (g cap : Nat) (w2 : World), w2.ownsRow w1.heap.size 47 3 (.slice (some ⟨g, 0, none⟩) (k + 1) cap) (k + 1) (xs ++ [.string NM, .string PT, .slice A4 n4 c4]) → W1.grownBy w2 (Value.ownBlock (.slice AO k cO)) → (Value.ownBlock (.slice AO k cO) = some g ∨ g = W1.heap.size) → StNew w1.heap.size w2 (.slice (some ⟨g, 0, none⟩) (k + 1) cap) (stsV (L.take (k + 1))) ∧ Below w1.heap.size w1 w2 from by
                  have hz := StNew.push (w1 := W1) (w2 := W1) (u := .slice A4 n4 c4) (s := (nm, pt, R)) HST.out h B2.out (hu.far fun g hg => Nat.lt_of_lt_of_le (HOW.out g hg).2 hN)
                  rw [HLEN.out] at hz
                  obtain ⟨xs, hr, hf⟩ := hz
                  refine ⟨xs, hr, fun g cap w2 ho hg hat => ⟨?_, ?_⟩⟩
                  · rw [NEXT.out.2]
                    exact hf g cap w2 (by rw [HNM.out, HPT.out]; exact ho) hg (hat.imp id fun e => Nat.le_of_eq e.symm)
                  · exact (HBW.out.trans (h.mono HBW.out.size)).grown hg (Nat.le_trans HBW.out.size h.size) (fun j ej => (HOW.out j ej).1)))
              clear HSE HSO HOK Y3 ERR HST HZ
              go_wp2_with (first
                | (go_at_call 50; refine (K2.out _ BOX.out).mono ?_; rintro _ w2 ⟨rfl, hb2⟩; have BB2 := Lib.hid (bnext BOX.out hb2); have v0 := cellb hb2 (two_new wr (.string NM) (.slice A1 m c1') 63).1; have v1 := cellb hb2 (two_new wr (.string NM) (.slice A1 m c1') 63).2.1)
                | (go_at_call 51; refine (G2.out _ BB2.out).mono ?_; rintro _ w3 ⟨rfl, hb3⟩; have BB3 := Lib.hid (bnext BB2.out hb3); have v0 := cellb hb3 v0; have v1 := cellb hb3 v1)
                | (go_at_call 52; refine (C2.out _).mono ?_; rintro _ w4 ⟨nv, rfl, hnv, -, -, hb4⟩; obtain ⟨s1, f1, A5, n5, c5, rfl⟩ := needle_form hnv; clear hnv; have BB4 := Lib.hid (bnext (bnext BB3.out hb4) (alloc_below _ (.cells #[.bool s1, .bool f1, .slice A5 n5 c5] 67))); have v0 := cellb (bnext hb4 (alloc_below w4 (.cells #[.bool s1, .bool f1, .slice A5 n5 c5] 67))) v0; have v1 := cellb (bnext hb4 (alloc_below w4 (.cells #[.bool s1, .bool f1, .slice A5 n5 c5] 67))) v1)
                | (go_at_fn 26; refine (S2.out _ BB4.out).mono ?_; rintro _ w5 ⟨a5, b5, A6, n6, c6, rfl, hs5, hb5⟩; obtain ⟨rfl, rfl, hR5⟩ := hs5 rfl; have BD := Lib.hid (bnext (alloc_below w5 (.cells #[.string a5, .string b5, .slice A6 n6 c6] 47)) (alloc_below (w5.alloc (.cells #[.string a5, .string b5, .slice A6 n6 c6] 47)) (.cells #[.string a5, .string b5, .slice A6 n6 c6] 47))); have PU := Lib.hid (PUSH.out ((w5.alloc (.cells #[.string a5, .string b5, .slice A6 n6 c6] 47)).alloc (.cells #[.string a5, .string b5, .slice A6 n6 c6] 47)) _ A6 n6 c6 (bnext (bnext BB4.out hb5) BD.out) BB4.out.size (hR5.below BD.out)); have NEWS := Lib.hid (row_newsd (w5.alloc (.cells #[.string a5, .string b5, .slice A6 n6 c6] 47)) [.string a5, .string b5, .slice A6 n6 c6] 47 (w5.heap.size + 1) (by simp)); have HBS := Lib.hid (Nat.le_trans HBW.out.size (bnext (bnext BB4.out hb5) BD.out).size); clear hs5 hR5)
                | (at_builtin; obtain ⟨xs, hrow, hfin⟩ := PU.out; refine wpList_append_lies _ rfl (.tmp 63) (.tmp 65) _ rfl w1.heap.size 47 i0 (.agg #[.string ⟨#[]⟩, .string ⟨#[]⟩, .slice none 0 0]) 3 56 Tryz.underlying23 hi0 hz0 hz1 hz2 rfl (by decide) (.slice AO k cO) k xs rfl hrow ⟨w5.heap.size + 1, 0, none⟩ 1 1 [.string a5, .string b5, .slice A6 n6 c6] rfl rfl NEWS.out (by simp [Value.oneCell']) (by decide) (by simp only [maxLen]; omega) (by omega) HBS.out _ rfl ?_; intro g9 cap9 w9 hown9 hg9 hat9 hlt9; have FN := Lib.hid (hfin g9 cap9 w9 hown9 hg9 hat9); clear hown9 hg9 hat9 hlt9 hfin hrow))
              go_roundw
              case rel => exact ⟨k + 1, by go_num, by omega, NEXT.out.1, FN.out.1, FN.out.2⟩
              case measure => simp [intOf]; omega
            · have F := Lib.hid (ERR.out E2 (Y3.out.trans ((if_neg (by decide)).trans (if_pos h2))) h2)
              have h3 : (E2 != 0) = true := by simpa using h2
              clear HSE HSO HOK Y3 ERR HST HZ
              go_wp2_with (first
                | (go_at_call 50; refine (K2.out _ BOX.out).mono ?_; rintro _ w2 ⟨rfl, hb2⟩; have BB2 := Lib.hid (bnext BOX.out hb2); have v0 := cellb hb2 (two_new wr (.string NM) (.slice A1 m c1') 63).1; have v1 := cellb hb2 (two_new wr (.string NM) (.slice A1 m c1') 63).2.1)
                | (go_at_call 51; refine (G2.out _ BB2.out).mono ?_; rintro _ w3 ⟨rfl, hb3⟩; have BB3 := Lib.hid (bnext BB2.out hb3); have v0 := cellb hb3 v0; have v1 := cellb hb3 v1)
                | (go_at_call 52; refine (C2.out _).mono ?_; rintro _ w4 ⟨nv, rfl, hnv, -, -, hb4⟩; obtain ⟨s1, f1, A5, n5, c5, rfl⟩ := needle_form hnv; clear hnv; have BB4 := Lib.hid (bnext (bnext BB3.out hb4) (alloc_below _ (.cells #[.bool s1, .bool f1, .slice A5 n5 c5] 67))); have v0 := cellb (bnext hb4 (alloc_below w4 (.cells #[.bool s1, .bool f1, .slice A5 n5 c5] 67))) v0; have v1 := cellb (bnext hb4 (alloc_below w4 (.cells #[.bool s1, .bool f1, .slice A5 n5 c5] 67))) v1)
                | (go_at_fn 26; refine (S2.out _ BB4.out).mono ?_; rintro _ w5 ⟨a5, b5, A6, n6, c6, rfl, -, hb5⟩))
              go_ret2
              exact ⟨_, ret_vi F.out.2.symm, by rw [F.out.1]; exact StOut.nil _, bnext (bnext HW.out (bnext BB4.out hb5)) (alloc_below _ _)⟩
          · have F := Lib.hid (ERR.out E1 (Y3.out.trans (if_pos h1)) h1)
            have h3 : (E1 != 0) = true := by simpa using h1
            clear HSE HSO HOK Y3 ERR HST HZ S2
            go_wp2_with (first
              | (go_at_call 50; refine (K2.out _ BOX.out).mono ?_; rintro _ w2 ⟨rfl, hb2⟩; have BB2 := Lib.hid (bnext BOX.out hb2); have v0 := cellb hb2 (two_new wr (.string NM) (.slice A1 m c1') 63).1; have v1 := cellb hb2 (two_new wr (.string NM) (.slice A1 m c1') 63).2.1)
              | (go_at_call 51; refine (G2.out _ BB2.out).mono ?_; rintro _ w3 ⟨rfl, hb3⟩; have BB3 := Lib.hid (bnext BB2.out hb3); have v0 := cellb hb3 v0; have v1 := cellb hb3 v1)
              | (go_at_call 52; refine (C2.out _).mono ?_; rintro _ w4 ⟨nv, rfl, hnv, -, -, hb4⟩; obtain ⟨s1, f1, A5, n5, c5, rfl⟩ := needle_form hnv; clear hnv))
            go_ret2
            exact ⟨_, ret_vi F.out.2.symm, by rw [F.out.1]; exact StOut.nil _, bnext (bnext HW.out (bnext BB3.out hb4)) (alloc_below _ _)⟩
      · obtain rfl : n = k := by omega
        have HE := Lib.hid (HSO.out trivial (by rw [← HN.out, List.take_length] at HZ; exact HZ.out))
        have HS2 := Lib.hid (show StNew w1.heap.size wr (.slice AO n cO) D from by
          have h := HST.out
          rw [← HN.out, List.take_length] at h
          rw [HN.out, show stsV L = D from (congrArg Prod.fst HE.out).symm] at h
          exact h)
        have e2 := congrArg Prod.snd HE.out
        simp only at e2
        have E2 := Lib.hid e2
        clear HSE HSO HOK HZ HST HE e2
        go_wp2
        go_ret2
        exact ⟨_, ret_vi E2.out.symm, HS2.out.out, HW.out⟩
  · have h1 : (E != 0) = true := by simpa using h0
    have SEV := Lib.hid (HSZ.out h0)
    clear HSO HSE HSZ
    go_wp2
    go_ret2
    injection SEV.out with e1 e2
    exact ⟨_, ret_vi e2.symm, by rw [e1]; exact StOut.nil _, HB1.out⟩
end Go.Proofs.YtodlgbihdehmbaaGreatDoor.LP
