/-
  The statements of layer 7, walked, the second part: Cut, and a frame of which a byte is another one.
-/
import Derived.Test.YthkplnljfknphaaDoorFrmW
set_option linter.unusedSimpArgs false
set_option linter.unusedVariables false
namespace Go.Proofs.YthkplnljfknphaaDoor.FW
open Go.RowKit
open CR (below_next own_ge)
theorem great_c (A : Option Addr) (n c : Nat) (w : World) : Calls Tryd.prog 15 #[.slice A n c] w fun e w' => e = .returned (.bool (decide ((5000 : Int) < (n : Int)))) ∧ w = w' := by
  go_enter Tryd.func15, Tryd.ntmps15
  go_wp2
  go_ret
  exact ⟨rfl, rfl⟩
theorem fCutK_len : ∀ (k : Nat) (b : List Nat), ∀ p ∈ (fCutK k b).1, p.length ≤ 512
  | 0, _, p, hp => by cases hp
  | k + 1, b, p, hp => by
    have hp' : p ∈ (if (fTake b).2.2 = 0 then ((fTake b).1 :: (fCutK k (b.drop (fTake b).2.1)).1, (fTake b).2.1 + (fCutK k (b.drop (fTake b).2.1)).2) else (([], 0) : List (List Nat) × Nat)).1 := hp
    split at hp'
    · rcases List.mem_cons.1 hp' with rfl | h
      · exact fTake_len b
      · exact fCutK_len k _ p h
    · cases hp'
theorem fCut_len (b : List Nat) : ∀ p ∈ (fCut b).1, p.length ≤ 512 := fCutK_len _ b
set_option maxRecDepth 100000 in
set_option maxHeartbeats 2000000 in
theorem frameCuts_c (v : Value) (l : List Nat) (hb : Bytes l) (w : World) (hG : G w) (g : ByOut w v l) :
    Calls Tryd.prog 5 #[v] w fun e w' => e = .returned (.bool true) ∧ Below w.heap.size w w' := by
  have HG := Lib.hid hG
  clear hG
  have O0 := Lib.hid g
  obtain ⟨A, c, rfl, hc, x⟩ := g
  obtain ⟨n, hn⟩ : ∃ n, l.length = n := ⟨_, rfl⟩
  rw [hn] at hc O0 ⊢
  have AL := Lib.hid alive_c
  have GR := great_c A n c
  by_cases h1 : 5000 < n
  · rw [decide_eq_true (show (5000 : Int) < (n : Int) by omega)] at GR
    have G1 := Lib.hid GR
    clear GR x
    go_enter Tryd.func5, Tryd.ntmps5
    go_wp2_with fail
    refine (AL.out _ HG.out).mono ?_; rintro _ w1 ⟨rfl, hb1⟩
    go_wp2_with fail
    refine (G1.out _).mono ?_; rintro _ w2 ⟨rfl, rfl⟩
    go_wp2
    go_ret
    exact ⟨rfl, hb1⟩
  · rw [decide_eq_false (show ¬ (5000 : Int) < (n : Int) by omega)] at GR
    have hk1 : (fCut l).1.length ≤ 5000 := by have := fCut_le _ l (Nat.le_refl _); omega
    have hk2 : ∀ p ∈ (fCut l).1, p.length ≤ 100000 := fun p hp => by have := fCut_len l p hp; omega
    have G1 := Lib.hid GR
    have CC := Lib.hid (fun w h => CR.copy_c (.slice A n c) l (by omega) w h 0 (Nat.zero_le _))
    have PP := Lib.hid (fun v w k h => FP.cut_c v l (by omega) hb w k h)
    have RP := Lib.hid (fun w h => FR.cut_c (.slice A n c) l (by omega) hb w h)
    have S1 := fun v1 v2 w f1 f2 => FR.same_c v1 v2 (fCut l).1 (fCut l).1 (by omega) (by omega) hk2 hk2 w f1 f2
    have S3 := fun v1 v2 w f1 f2 => CR.same_c v1 v2 l l (by omega) (by omega) w f1 f2
    rw [decide_eq_true rfl] at S1 S3
    have H1 := Lib.hid S1; have H3 := Lib.hid S3
    obtain ⟨⟨t, s⟩, hT⟩ : ∃ x, fCut l = x := ⟨_, rfl⟩
    rw [hT] at PP RP H1
    clear GR x hk1 hk2 S1 S3 hT hn hb
    go_enter Tryd.func5, Tryd.ntmps5
    go_wp2_with fail
    refine (AL.out _ HG.out).mono ?_; rintro _ w1 ⟨rfl, hb1⟩
    have B1 := Lib.hid hb1
    clear hb1
    go_wp2_with fail
    refine (G1.out _).mono ?_; rintro _ w2 ⟨rfl, rfl⟩
    go_wp2_with fail
    refine (CC.out _ (O0.out.below B1.out)).mono ?_; rintro _ w2 ⟨v2, rfl, hn2, hb2⟩
    have OW2 := Lib.hid hn2.out; have B2 := Lib.hid (below_next B1.out hb2)
    clear hn2 hb2
    go_wp2_with fail
    refine (PP.out _ _ (HG.out.below B2.out) OW2.out).mono ?_; rintro _ w3 ⟨v3, rfl, hn3, hb3⟩
    have P3 := Lib.hid hn3.out; have OW3 := Lib.hid (OW2.out.below hb3); have B3 := Lib.hid (below_next B2.out hb3)
    clear hn3 hb3
    go_wp2_with fail
    refine (RP.out _ (O0.out.below B3.out)).mono ?_; rintro _ w4 ⟨v4, rfl, hn4, hb4⟩
    have R4 := Lib.hid hn4.out; have P4 := Lib.hid (P3.out.below hb4); have OW4 := Lib.hid (OW3.out.below hb4); have B4 := Lib.hid (below_next B3.out hb4)
    clear hn4 hb4
    go_wp2_with fail
    refine (H1.out _ _ _ P4.out R4.out).mono ?_; rintro _ w5 ⟨rfl, hb5⟩
    have OW5 := Lib.hid (OW4.out.below hb5); have B5 := Lib.hid (below_next B4.out hb5)
    clear hb5
    go_wp2_with fail
    refine (H3.out _ _ _ OW5.out (O0.out.below B5.out)).mono ?_; rintro _ w6 ⟨rfl, hb6⟩
    have B6 := Lib.hid (below_next B5.out hb6)
    clear hb6
    go_wp2
    go_ret
    exact ⟨rfl, B6.out⟩
/-- A byte of a row is written. -/
theorem by_set {w0 w : World} {g c n k x : Nat} {l : List Nat} (hb : Below w0.heap.size w0 w) (hB : w0.heap.size ≤ g) (hl : l.length = n) (hc : n ≤ c) (hk : k < n) (h : ByAt w g 0 l) :
    Below w0.heap.size w0 (w.setCell ⟨g, k, none⟩ (.int .u8 (x : Int))) ∧ ByOut (w.setCell ⟨g, k, none⟩ (.int .u8 (x : Int))) (.slice (some ⟨g, 0, none⟩) n c) (l.set k x) := by
  have hlt : k < l.length := by omega
  have hu : w.cell? ⟨g, k, none⟩ = some (.int .u8 ((l[k] : Nat) : Int)) := by
    have := h k _ (List.getElem?_eq_getElem hlt)
    rwa [Nat.zero_add] at this
  refine ⟨hb.setCell (p := ⟨g, k, none⟩) hB _, _, c, by rw [List.length_set, hl], by rw [List.length_set, hl]; exact hc, fun _ => ⟨g, 0, rfl, fun j u hj => ?_⟩⟩
  rw [Nat.zero_add]
  rw [List.getElem?_set] at hj
  by_cases e : k = j
  · subst e
    rw [if_pos rfl, if_pos hlt] at hj
    obtain rfl := Option.some.inj hj
    exact World.cell?_setCell_same _ _ _ hu
  · rw [if_neg e] at hj
    refine (World.cell?_setCell_other _ _ _ _ (by intro e'; simp only [Addr.mk.injEq] at e'; omega)).trans ?_
    have := h j u hj
    rwa [Nat.zero_add] at this
set_option maxRecDepth 100000 in
set_option maxHeartbeats 2000000 in
theorem frameTorn_c (v : Value) (l : List Nat) (hb : Bytes l) (t y : Nat) (ht : t < 65536) (hy : y < 256) (w : World) (hG : G w) (g : ByOut w v l) :
    Calls Tryd.prog 7 #[v, .int .u16 (t : Nat), .int .u8 (y : Nat)] w fun e w' => e = .returned (.bool true) ∧ Below w.heap.size w w' := by
  have HG := Lib.hid hG
  clear hG
  have O0 := Lib.hid g
  have AL := Lib.hid alive_c
  have PP := Lib.hid (fun w k h => FP.put_c v l hb w k h)
  obtain ⟨A, c, rfl, hc, x⟩ := g
  obtain ⟨n, hn⟩ : ∃ n, l.length = n := ⟨_, rfl⟩
  rw [hn] at hc O0 PP ⊢
  clear x
  rcases fPut_two l with ⟨hok, hP⟩ | ⟨hok, hP, hP2⟩
  · rw [hP] at PP
    clear hP
    by_cases h0 : y = 0
    · subst h0
      clear hok hb hn
      go_enter Tryd.func7, Tryd.ntmps7
      go_wp2_with fail
      refine (AL.out _ HG.out).mono ?_; rintro _ w1 ⟨rfl, hb1⟩
      have B1 := Lib.hid hb1
      clear hb1
      go_wp2_with fail
      refine (PP.out _ (HG.out.below B1.out) (O0.out.below B1.out)).mono ?_; rintro _ w2 ⟨v2, rfl, hn2, hb2⟩
      have B2 := Lib.hid (below_next B1.out hb2)
      clear hn2 hb2
      go_wp2
      go_ret
      exact ⟨rfl, B2.out⟩
    · have h0i : ¬ (y : Int) = 0 := by omega
      have hfl : (fFrm l).length = n + 6 := by rw [fFrm_length, hn]
      have hfb := fFrm_bytes hb
      have hn1 : 1 ≤ n := by have := hok.1; omega
      have hn5 : n ≤ 512 := by have := hok.2; omega
      obtain ⟨k, hk⟩ : ∃ k, t % (n + 4) = k := ⟨_, rfl⟩
      have hkn : k < n + 4 := by rw [← hk]; exact Nat.mod_lt _ (by omega)
      have hmod : (t : Int) % ((n : Int) + 6 - 2) = (k : Int) := by
        have h := Int.natCast_emod t (n + 4)
        rw [hk] at h
        have e : ((n + 4 : Nat) : Int) = (n : Int) + 6 - 2 := by omega
        rw [e] at h
        exact h.symm
      have htorn := fTake_torn hok hb (k := k) (by rw [hn]; exact hkn) hy h0
      have hxk : (fFrm l)[2 + k]? = some ((fFrm l).getD (2 + k) 0) := by
        have hlt : 2 + k < (fFrm l).length := by omega
        rw [List.getD_eq_getElem?_getD, List.getElem?_eq_getElem hlt]
        rfl
      have hx2 : (fFrm l).getD (2 + k) 0 < 256 := hfb _ (List.mem_of_getElem? hxk)
      generalize (fFrm l).getD (2 + k) 0 = z at *
      have hxor : bits .xor .u8 (z : Int) (y : Int) = ((z ^^^ y : Nat) : Int) := u8_xor_nat z y hx2 hy
      have hzz : z ^^^ y < 256 := Nat.xor_lt_two_pow (n := 8) hx2 hy
      have hset := fun (w0 w : World) (g c : Nat) (a1 : Below w0.heap.size w0 w) (a2 : w0.heap.size ≤ g) (a3 : n + 6 ≤ c) (a4 : ByAt w g 0 (fFrm l)) => by_set (x := z ^^^ y) (k := 2 + k) (n := n + 6) (c := c) a1 a2 hfl a3 (by omega) a4
      have hsl : ((fFrm l).set (2 + k) (z ^^^ y)).length = n + 6 := by rw [List.length_set, hfl]
      have hsb : Bytes ((fFrm l).set (2 + k) (z ^^^ y)) := fun a ha => by
        rcases List.mem_or_eq_of_mem_set ha with h | rfl
        · exact hfb a h
        · exact hzz
      have hcut : fCut ((fFrm l).set (2 + k) (z ^^^ y)) = ([], 0) := fCut_no (by rw [htorn]; decide)
      have TK := Lib.hid (fun v w g1 h => FP.take_c v ((fFrm l).set (2 + k) (z ^^^ y)) hsb w g1 h)
      have CT := Lib.hid (fun v w g1 h => FP.cut_c v ((fFrm l).set (2 + k) (z ^^^ y)) (by omega) hsb w g1 h)
      have HSET := Lib.hid hset; have HFL := Lib.hid hfl; have HXK := Lib.hid hxk
      rw [htorn] at TK
      rw [hcut] at CT
      clear hcut htorn hsb hsl hset hfl hxk hfb hok hk hb hn
      go_enter Tryd.func7, Tryd.ntmps7
      go_wp2_with fail
      refine (AL.out _ HG.out).mono ?_; rintro _ w1 ⟨rfl, hb1⟩
      have B1 := Lib.hid hb1
      clear hb1
      go_wp2_with fail
      refine (PP.out _ (HG.out.below B1.out) (O0.out.below B1.out)).mono ?_; rintro _ w2 ⟨v2, rfl, hn2, hb2⟩
      obtain ⟨A2, c2, hv2, hc2, hx2⟩ := hn2.form
      have hne : fFrm l ≠ [] := by intro e; have := HFL.out; rw [e] at this; simp at this
      obtain ⟨g2, rfl, hg2, hg3, ha2, hf2⟩ := hx2 hne
      rw [HFL.out] at hv2 hc2
      subst hv2
      have cz : w2.cell? ⟨g2, 2 + k, none⟩ = some (.int .u8 (z : Int)) := by
        have := ha2 _ _ HXK.out
        rwa [Nat.zero_add] at this
      have fz : w2.frozen? ⟨g2, 2 + k, none⟩ = false := hf2 _
      obtain ⟨hbs, hos⟩ := HSET.out w w2 g2 c2 (below_next B1.out hb2) (Nat.le_trans B1.out.size hg2) hc2 ha2
      have BS := Lib.hid hbs; have OS := Lib.hid hos
      clear hn2 hb2 hx2 hne ha2 hf2 hbs hos hg2 hg3
      go_wp2_with fail
      refine (TK.out _ _ (HG.out.below BS.out) OS.out).mono ?_; rintro _ w3 ⟨v3, rfl, hn3, hb3⟩
      obtain ⟨A3, c3, rfl, _, _⟩ := hn3.out
      have O3 := Lib.hid (OS.out.below hb3); have B3 := Lib.hid (below_next BS.out hb3)
      clear hn3 hb3
      go_wp2_with fail
      refine (CT.out _ _ (HG.out.below B3.out) O3.out).mono ?_; rintro _ w4 ⟨v4, rfl, hn4, hb4⟩
      obtain ⟨A4, c4, rfl, _, _⟩ := hn4.out
      have B4 := Lib.hid (below_next B3.out hb4)
      clear hn4 hb4
      go_wp2
      go_ret
      exact ⟨rfl, B4.out⟩
  · have he0 := hP
    rw [hP2] at PP
    have hor : n = 0 ∨ 512 < n := by unfold fOk at hok; omega
    obtain ⟨er, her⟩ : ∃ er, (fPut l).2 = er := ⟨_, rfl⟩
    rw [her] at he0 PP
    clear hP hP2 her hok hb
    rcases hor with rfl | hor
    · clear hn
      go_enter Tryd.func7, Tryd.ntmps7
      go_wp2_with fail
      refine (AL.out _ HG.out).mono ?_; rintro _ w1 ⟨rfl, hb1⟩
      have B1 := Lib.hid hb1
      clear hb1
      go_wp2_with fail
      refine (PP.out _ (HG.out.below B1.out) (O0.out.below B1.out)).mono ?_; rintro _ w2 ⟨v2, rfl, hn2, hb2⟩
      obtain ⟨A2, c2, rfl, _, _⟩ := hn2.out
      have B2 := Lib.hid (below_next B1.out hb2)
      clear hn2 hb2
      go_wp2
      go_ret
      exact ⟨rfl, B2.out⟩
    · have h5i : (512 : Int) < (n : Int) := by omega
      have h0i : ¬ (n : Int) = 0 := by omega
      clear hn hor
      go_enter Tryd.func7, Tryd.ntmps7
      go_wp2_with fail
      refine (AL.out _ HG.out).mono ?_; rintro _ w1 ⟨rfl, hb1⟩
      have B1 := Lib.hid hb1
      clear hb1
      go_wp2_with fail
      refine (PP.out _ (HG.out.below B1.out) (O0.out.below B1.out)).mono ?_; rintro _ w2 ⟨v2, rfl, hn2, hb2⟩
      obtain ⟨A2, c2, rfl, _, _⟩ := hn2.out
      have B2 := Lib.hid (below_next B1.out hb2)
      clear hn2 hb2
      go_wp2
      go_ret
      exact ⟨rfl, B2.out⟩
end Go.Proofs.YthkplnljfknphaaDoor.FW
