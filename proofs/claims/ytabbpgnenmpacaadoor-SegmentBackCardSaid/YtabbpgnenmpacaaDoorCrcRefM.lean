/-
  Contracts of the document's own functions of layer 5 (isobarref05): Copy, Same, Sum, Put, Check.
-/
import Derived.Test.YtabbpgnenmpacaaDoorCrcGM
import Derived.Test.YtabbpgnenmpacaaDoorByRow
import Derived.Test.YtabbpgnenmpacaaDoorProg
import Derived.Laws.BitsAllLaws
import Derived.OwnWalk
import Derived.Carry
import Derived.BigRegion
set_option linter.unusedSimpArgs false
set_option linter.unusedVariables false
namespace Go.Proofs.YtabbpgnenmpacaaDoor.CR
open Go.RowKit
set_option maxRecDepth 100000 in
set_option maxHeartbeats 2000000 in
theorem copy_c (v : Value) (l : List Nat) (hl : l.length ≤ 100000) (w : World) (h : ByOut w v l) (B : Nat) (hB : B ≤ w.heap.size) :
    Calls Tryd.prog 15 #[v] w fun e w' => ∃ v', e = .returned v' ∧ ByNew w.heap.size w' v' l ∧ Below w.heap.size w w' := by
  obtain ⟨A, c, rfl, hc, hx⟩ := h
  obtain ⟨n, hln⟩ : ∃ n, l.length = n := ⟨_, rfl⟩
  have hR := reads_by hx
  rw [hln] at hl hc hR ⊢
  have HL := Lib.hid hln
  clear hx hln
  obtain ⟨i0, hi0, hz0, hz1, hz2⟩ := info_parts (P := Tryd.prog) (e := 5) (z := .int .u8 0) (size := 1) (bytes := 1) (by kernel_rfl)
  have HR := Lib.hid hR
  clear hR
  go_enter Tryd.func15, Tryd.ntmps15
  go_wp2_with (at_builtin; refine wpList_append_any _ rfl (.tmp 3) (.tmp 4) _ rfl w.heap.size 5 i0 (.int .u8 0) 1 1 Tryd.underlying27 hi0 hz0 hz1 hz2 rfl (by decide) (.slice (some ⟨w.heap.size, 0, none⟩) 0 0) 0 [] rfl (World.ownsRow_made _ _ _ (Nat.le_refl _) (by decide) rfl) w.heap.size A n c (bys l) rfl (HR.out.alloc (Nat.le_refl _) _) (bys_one _) (by simp only [maxLen]; omega) (by omega) (by simp) ?_; intro v1 w3 hown1 hg1 hat1)
  go_ret
  refine ⟨v1, rfl, ?_, Below.grown ((Below.refl _ _).alloc (Nat.le_refl _) _) hg1 (by simp) (by intro g hg; simp [Value.ownBlock] at hg; omega)⟩
  unfold ByNew
  rw [HL.out]
  simpa using hown1
set_option maxRecDepth 100000 in
set_option maxHeartbeats 2000000 in
theorem same_c (v1 v2 : Value) (l1 l2 : List Nat) (h1 : l1.length ≤ 100000) (h2 : l2.length ≤ 100000) (w : World) (f1 : ByOut w v1 l1) (f2 : ByOut w v2 l2) :
    Calls Tryd.prog 14 #[v1, v2] w fun e w' => e = .returned (.bool (decide (l1 = l2))) ∧ Below w.heap.size w w' := by
  obtain ⟨A1, c1, rfl, hc1, x1⟩ := f1
  obtain ⟨A2, c2, rfl, hc2, x2⟩ := f2
  obtain ⟨n1, hn1⟩ : ∃ n, l1.length = n := ⟨_, rfl⟩
  obtain ⟨n2, hn2⟩ : ∃ n, l2.length = n := ⟨_, rfl⟩
  rw [hn1] at h1 hc1 ⊢
  rw [hn2] at h2 hc2 ⊢
  by_cases hne : n1 = n2
  · subst hne
    have X1 := Lib.hid x1; have X2 := Lib.hid x2; have N1 := Lib.hid hn1; have N2 := Lib.hid hn2
    clear x1 x2 hn1 hn2
    go_enter Tryd.func14, Tryd.ntmps14
    go_wp2
    go_loopw [5] (fun i wr => ∃ k : Nat, k ≤ n1 ∧ i = .int .i64 k ∧ Hid ((∀ j, j < k → l1[j]? = l2[j]?) ∧ Below w.heap.size w wr)) (fun i _ => n1 - (intOf i).toNat)
    case atStart => exact ⟨0, Nat.zero_le _, rfl, fun j h => absurd h (Nat.not_lt_zero j), Below.refl _ _⟩
    case round =>
      obtain ⟨k, hk, rfl, HI⟩ := hrel
      by_cases hlt : k < n1
      · have hl1 : k < l1.length := by rw [N1.out]; exact hlt
        have hl2 : k < l2.length := by rw [N2.out]; exact hlt
        obtain ⟨b1, o1, rfl, a1⟩ := X1.out (by intro h; rw [h] at hl1; exact absurd hl1 (Nat.not_lt_zero _))
        obtain ⟨b2, o2, rfl, a2⟩ := X2.out (by intro h; rw [h] at hl2; exact absurd hl2 (Nat.not_lt_zero _))
        have y1 := (a1.below HI.out.2) k _ (List.getElem?_eq_getElem hl1)
        have y2 := (a2.below HI.out.2) k _ (List.getElem?_eq_getElem hl2)
        have e1 : l1[k]? = some l1[k] := List.getElem?_eq_getElem hl1
        have e2 : l2[k]? = some l2[k] := List.getElem?_eq_getElem hl2
        generalize l1[k] = p at *
        generalize l2[k] = q at *
        have E1 := Lib.hid e1; have E2 := Lib.hid e2
        clear e1 e2 a1 a2
        go_wp2
        go_region
        by_cases hpq : p = q
        · have ht : ((p : Int) != (q : Int)) = false := by rw [hpq]; simp
          have HPQ := Lib.hid hpq
          clear hpq
          go_wp2
          go_roundw
          case rel =>
            refine ⟨k + 1, by omega, by go_num, fun j hj => ?_, (Below.drew HI.out.2)⟩
            by_cases he : j = k
            · rw [he, E1.out, E2.out, HPQ.out]
            · exact HI.out.1 j (by omega)
          case measure => simp [intOf]; omega
        · have ht : ((p : Int) != (q : Int)) = true := by rw [bne_iff_ne]; omega
          have hd : decide (l1 = l2) = false := by
            rw [decide_eq_false_iff_not]
            intro h
            have h3 := E1.out
            rw [h, E2.out] at h3
            exact hpq (Option.some.inj h3).symm
          have HD := Lib.hid hd
          clear hpq hd
          go_wp2
          go_ret
          exact ⟨congrArg (fun z => Ending.returned (.bool z)) HD.out.symm, (Below.drew HI.out.2)⟩
      · obtain rfl : k = n1 := by omega
        have hd : decide (l1 = l2) = true := by
          rw [decide_eq_true_eq]
          refine List.ext_getElem? fun j => ?_
          rcases Nat.lt_or_ge j k with hj | hj
          · exact HI.out.1 j hj
          · rw [List.getElem?_eq_none (by rw [N1.out]; exact hj), List.getElem?_eq_none (by rw [N2.out]; exact hj)]
        have HD := Lib.hid hd
        clear hd
        go_wp2
        go_ret
        exact ⟨congrArg (fun z => Ending.returned (.bool z)) HD.out.symm, HI.out.2⟩
  · have hd : decide (l1 = l2) = false := by
      rw [decide_eq_false_iff_not]
      intro h
      rw [h, hn2] at hn1
      exact hne hn1.symm
    have hni : ¬ (n1 : Int) = (n2 : Int) := by omega
    have HD := Lib.hid hd
    clear hd hne x1 x2 hn1 hn2
    go_enter Tryd.func14, Tryd.ntmps14
    go_wp2
    go_ret
    exact ⟨congrArg (fun z => Ending.returned (.bool z)) HD.out.symm, Below.refl _ _⟩
theorem and_one32 (s : Nat) (h : s < 4294967296) : bits .and .u32 (s : Int) 1 = ((s % 2 : Nat) : Int) := by
  have e := u32_and_nat s 1 h (by decide)
  refine e.trans ?_
  congr 1
  exact Nat.and_two_pow_sub_one_eq_mod s 1
set_option maxRecDepth 100000 in
set_option maxHeartbeats 4000000 in
theorem sum_c (v : Value) (l : List Nat) (hl : l.length ≤ 100000) (hb : Bytes l) (w : World) (h : ByOut w v l) :
    Calls Tryd.prog 49 #[v] w fun e w' => e = .returned (.int .u32 (cSum l : Nat)) ∧ w = w' := by
  obtain ⟨A, c, rfl, hc, hx⟩ := h
  obtain ⟨n, hln⟩ : ∃ n, l.length = n := ⟨_, rfl⟩
  rw [hln] at hl hc ⊢
  have HX := Lib.hid hx; have HL := Lib.hid hln; have HB := Lib.hid hb
  clear hx hln hb
  go_enter Tryd.func49, Tryd.ntmps49
  go_wp2
  go_loop [3, 4, 5, 6] (fun s i x y => ∃ k r : Nat, k ≤ n ∧ r < 4294967296 ∧ s = .int .u32 r ∧ i = .int .i64 k ∧ Hid (r = cRun 4294967295 (l.take k))) (fun _ i _ _ => n - (intOf i).toNat)
  case atStart => exact ⟨0, 4294967295, Nat.zero_le _, by decide, rfl, rfl, rfl⟩
  case round =>
    obtain ⟨k, r, hk, hr, rfl, rfl, HI⟩ := hrel
    by_cases hlt : k < n
    · have hkl : k < l.length := by rw [HL.out]; exact hlt
      obtain ⟨b, off, rfl, ha⟩ := HX.out (by intro h; rw [h] at hkl; exact absurd hkl (Nat.not_lt_zero _))
      have hx0 := List.getElem?_eq_getElem hkl
      have hbx : l[k] < 256 := HB.out _ (List.getElem_mem hkl)
      have hstep : cRun 4294967295 (l.take (k + 1)) = cBits 8 (r ^^^ l[k]) := by
        rw [List.take_add_one, hx0, cRun_app, ← HI.out]; rfl
      have c0 := ha k _ hx0
      generalize l[k] = x at *
      have hxor : bits .xor .u32 (r : Int) (x : Int) = ((r ^^^ x : Nat) : Int) := u32_xor_nat r x hr (by omega)
      have ht : r ^^^ x < 4294967296 := Nat.xor_lt_two_pow (n := 32) hr (by omega)
      generalize r ^^^ x = t at *
      have hx1 : (0 : Int) ≤ (x : Int) := by omega
      have hx2 : (x : Int) < 256 := by omega
      have HST := Lib.hid hstep; have HC := Lib.hid ha
      clear hstep ha hx0 HI
      go_wp2
      go_loop [3, 5, 6] (fun s j y => ∃ m u : Nat, m ≤ 8 ∧ u < 4294967296 ∧ s = .int .u32 u ∧ j = .int .i64 m ∧ Hid (cBits (8 - m) u = cBits 8 t)) (fun _ j _ => 8 - (intOf j).toNat)
      case atStart => exact ⟨0, t, Nat.zero_le _, ht, rfl, rfl, rfl⟩
      case round =>
        obtain ⟨m, u, hm, hu, rfl, rfl, HJ⟩ := hrel
        by_cases hlt8 : m < 8
        · have ha1 := and_one32 u hu
          have hj2 : cBits (8 - (m + 1)) (cBit u) = cBits 8 t := by
            rw [← HJ.out, show 8 - m = (8 - (m + 1)) + 1 from by omega]; rfl
          have hcl := cBit_lt hu
          by_cases ho : u % 2 = 1
          · have hcb : cBit u = (u / 2) ^^^ 2197175160 := by unfold cBit; rw [if_pos ho]
            have hx3 : bits .xor .u32 ((u : Int) / 2) 2197175160 = ((cBit u : Nat) : Int) := by
              rw [hcb]
              have e : (u : Int) / 2 = ((u / 2 : Nat) : Int) := by omega
              rw [e]
              exact u32_xor_nat (u / 2) 2197175160 (by omega) (by decide)
            rw [ho] at ha1
            generalize cBit u = z at *
            have HJ2 := Lib.hid hj2; have HCB := Lib.hid hcb
            clear hj2 hcb HJ ho
            go_wp2
            go_round
            case rel => exact ⟨m + 1, z, by omega, hcl, rfl, by go_num, HJ2⟩
            case measure => simp [intOf]; omega
          · have hcb : cBit u = u / 2 := by unfold cBit; rw [if_neg ho]
            have ho0 : u % 2 = 0 := by omega
            rw [ho0] at ha1
            have hx3 : (u : Int) / 2 = ((cBit u : Nat) : Int) := by rw [hcb]; omega
            generalize cBit u = z at *
            have HJ2 := Lib.hid hj2; have HCB := Lib.hid hcb
            clear hj2 hcb HJ ho ho0
            go_wp2
            go_round
            case rel => exact ⟨m + 1, z, by omega, hcl, rfl, by go_num, HJ2⟩
            case measure => simp [intOf]; omega
        · obtain rfl : m = 8 := by omega
          have hue : u = cBits 8 t := HJ.out
          have HU := Lib.hid hue
          clear hue
          go_wp2
          go_round
          case rel => exact ⟨k + 1, u, by omega, hu, rfl, by go_num, by rw [HST.out]; exact HU.out⟩
          case measure => simp [intOf]; omega
    · obtain rfl : k = n := by omega
      have hs : bits .xor .u32 4294967295 (r : Int) = ((cSum l : Nat) : Int) := by
        have e := u32_xor_nat 4294967295 r (by decide) hr
        refine e.trans ?_
        congr 1
        unfold cSum cNot
        rw [HI.out, List.take_of_length_le (by rw [HL.out]; exact Nat.le_refl _)]
      have HS := Lib.hid hs
      clear hs
      go_wp2
      go_ret
      exact ⟨congrArg (fun z => Ending.returned (.int .u32 z)) HS.out, rfl⟩
theorem own_ge {w : World} {B : Nat} {e : TypeId} {sz n : Nat} {v : Value} {xs : List Value} (h : w.ownsRow B e sz v n xs) : ∀ g, v.ownBlock = some g → B ≤ g := by
  intro g hg
  rcases h.2 with ⟨rfl, _⟩ | ⟨g', cap, cur, rfl, hb, _⟩
  · cases hg
  · simp [Value.ownBlock] at hg; omega
theorem below_next {a b c : World} (h : Below a.heap.size a b) (k : Below b.heap.size b c) : Below a.heap.size a c := h.trans (k.mono h.size)
theorem u8_wrap (n : Int) : IntKind.u8.wrap n = n % 256 := by simp [IntKind.wrap, IntKind.bits, IntKind.signed]
set_option maxRecDepth 100000 in
set_option maxHeartbeats 4000000 in
theorem put_c (v : Value) (l : List Nat) (hl : l.length ≤ 99000) (hb : Bytes l) (w : World) (h : ByOut w v l) :
    Calls Tryd.prog 41 #[v] w fun e w' => ∃ v', e = .returned v' ∧ ByNew w.heap.size w' v' (cPut l) ∧ Below w.heap.size w w' := by
  have S := Lib.hid (sum_c v l (by omega) hb w h)
  have C := Lib.hid (copy_c v l (by omega) w h 0 (Nat.zero_le _))
  have hs := cSum_lt hb
  have hp : bys (cPut l) = bys l ++ bys (le4 (cSum l)) := by unfold cPut; exact bys_app _ _
  have hpl : (cPut l).length = l.length + 4 := by unfold cPut; rw [List.length_append, le4_length]
  obtain ⟨n, hln⟩ : ∃ n, l.length = n := ⟨_, rfl⟩
  have hN : ∀ (w' : World) (v' : Value), w'.ownsRow w.heap.size 5 1 v' (n + 4) (bys l ++ bys (le4 (cSum l))) → ByNew w.heap.size w' v' (cPut l) := by
    intro w' v' h
    unfold ByNew
    rw [hpl, hp, hln]
    exact h
  have k0 : IntKind.u8.wrap ((cSum l : Nat) : Int) = ((cSum l % 256 : Nat) : Int) := by rw [u8_wrap]; omega
  have k1 : IntKind.u8.wrap (((cSum l : Nat) : Int) / 256) = ((cSum l / 256 % 256 : Nat) : Int) := by rw [u8_wrap]; omega
  have k2 : IntKind.u8.wrap (((cSum l : Nat) : Int) / 65536) = ((cSum l / 65536 % 256 : Nat) : Int) := by rw [u8_wrap]; omega
  have k3 : IntKind.u8.wrap (((cSum l : Nat) : Int) / 16777216) = ((cSum l / 16777216 % 256 : Nat) : Int) := by rw [u8_wrap]; omega
  have hb4 : bys (le4 (cSum l)) = [.int .u8 ((cSum l % 256 : Nat) : Int), .int .u8 ((cSum l / 256 % 256 : Nat) : Int), .int .u8 ((cSum l / 65536 % 256 : Nat) : Int), .int .u8 ((cSum l / 16777216 % 256 : Nat) : Int)] := rfl
  rw [hb4] at hN
  obtain ⟨s, hsE⟩ : ∃ s : Int, ((cSum l : Nat) : Int) = s := ⟨_, rfl⟩
  have hs0 : 0 ≤ s := by omega
  have hs1 : s < 4294967296 := by omega
  rw [hsE] at k0 k1 k2 k3 S
  generalize ((cSum l % 256 : Nat) : Int) = b0 at *
  generalize ((cSum l / 256 % 256 : Nat) : Int) = b1 at *
  generalize ((cSum l / 65536 % 256 : Nat) : Int) = b2 at *
  generalize ((cSum l / 16777216 % 256 : Nat) : Int) = b3 at *
  have HN := Lib.hid hN; have HL := Lib.hid hln
  rw [hln] at hl
  obtain ⟨i0, hi0, hz0, hz1, hz2⟩ := info_parts (P := Tryd.prog) (e := 5) (z := .int .u8 0) (size := 1) (bytes := 1) (by kernel_rfl)
  clear hN hln hp hpl hb4 hs hsE h hb
  go_enter Tryd.func41, Tryd.ntmps41
  go_wp2_with fail
  refine S.out.mono ?_; rintro _ w1 ⟨rfl, rfl⟩
  go_wp2_with fail
  refine C.out.mono ?_; rintro _ w2 ⟨v1, rfl, hn1, hb2⟩
  have hown : w2.ownsRow w.heap.size 5 1 v1 n (bys l) := by unfold ByNew at hn1; rw [HL.out] at hn1; exact hn1
  have OWN := Lib.hid hown; have B2 := Lib.hid hb2
  clear hown hn1 hb2
  go_wp2_with (at_builtin; refine wpList_append_any _ rfl (.tmp 7) (.tmp 19) _ rfl w.heap.size 5 i0 (.int .u8 0) 1 1 Tryd.underlying27 hi0 hz0 hz1 hz2 rfl (by decide) v1 n (bys l) rfl (World.ownsRow.alloc OWN.out _) _ (some ⟨w2.heap.size, 0, none⟩) 4 4 [.int .u8 b0, .int .u8 b1, .int .u8 b2, .int .u8 b3] rfl (Reads.of_own (World.ownsRow_lit (base := 0) (e := 5) (size := 1) w2 #[.int .u8 b0, .int .u8 b1, .int .u8 b2, .int .u8 b3] 4 (Nat.zero_le _) (by decide) rfl)) (by simp [Value.oneCell']) (by simp only [maxLen]; omega) (by omega) (by have := B2.out.size; simp; omega) ?_; intro v3 w3 hown3 hg3 hat3)
  have hb3 : Below w.heap.size w w3 := Below.grown (B2.out.alloc B2.out.size _) hg3 (by have := B2.out.size; simp; omega) (own_ge OWN.out)
  have HO := Lib.hid (HN.out _ _ hown3); have HB3 := Lib.hid hb3
  clear hown3 hg3 hat3 hb3
  go_ret
  exact ⟨v3, rfl, HO.out, HB3.out⟩
theorem ByOut.take {w : World} {A : Option Addr} {n c m : Nat} {l : List Nat} (h : ByOut w (.slice A n c) l) (hm : m ≤ n) : ByOut w (.slice A m c) (l.take m) := by
  obtain ⟨A', c', hv, hc, hx⟩ := h
  injection hv with h1 h2 h3
  subst h1 h2 h3
  have hl : (l.take m).length = m := by rw [List.length_take]; omega
  refine ⟨A, c, by rw [hl], by rw [hl]; omega, fun hne => ?_⟩
  obtain ⟨b, off, hA, hf⟩ := hx (by intro h0; apply hne; rw [h0]; simp)
  refine ⟨b, off, hA, fun i y hi => hf i y ?_⟩
  rw [List.getElem?_take] at hi
  split at hi
  · exact hi
  · cases hi
theorem Bytes.take {l : List Nat} (h : Bytes l) (m : Nat) : Bytes (l.take m) := fun b hb => h b (List.mem_of_mem_take hb)
set_option maxRecDepth 100000 in
set_option maxHeartbeats 4000000 in
theorem check_c (v : Value) (l : List Nat) (hl : l.length ≤ 90000) (hb : Bytes l) (w : World) (h : ByOut w v l) :
    Calls Tryd.prog 43 #[v] w fun e w' => ∃ v', e = .returned (.tuple #[v', .int .i64 (cChk l).2]) ∧ ByOut w' v' (cChk l).1 ∧ Below w.heap.size w w' := by
  have hF := h
  obtain ⟨A, c, rfl, hc, hx⟩ := h
  obtain ⟨n, hln⟩ : ∃ n, l.length = n := ⟨_, rfl⟩
  rw [hln] at hl hc hF ⊢
  have nilOut : ∀ w : World, ByOut w (.slice none 0 0) [] := fun w => ⟨none, 0, rfl, Nat.le_refl _, fun h => absurd rfl h⟩
  by_cases h4 : n < 4
  · have hk : cChk l = ([], 9) := by unfold cChk; rw [if_pos (by rw [hln]; exact h4)]
    rw [hk]
    have h4i : (n : Int) < 4 := by omega
    clear hk hx hF
    go_enter Tryd.func43, Tryd.ntmps43
    go_wp2
    exact bodyPost_ret (v := .tuple #[.slice none 0 0, .int .i64 9]) (by simp [results, Tryd.results43, go_sem]) rfl ⟨.slice none 0 0, rfl, nilOut _, Below.refl _ _⟩
  · obtain ⟨m, hm⟩ : ∃ m, n - 4 = m := ⟨_, rfl⟩
    have hnm : (n : Int) - 4 = (m : Int) := by omega
    have hmn : m ≤ n := by omega
    have hmc : (m : Int) ≤ (c : Int) := by omega
    have h4i : ¬ (n : Int) < 4 := by omega
    have ht : (l.take m).length = m := by rw [List.length_take]; omega
    have hput : (cPut (l.take m)).length = m + 4 := by unfold cPut; rw [List.length_append, le4_length, ht]
    have C := Lib.hid (copy_c (.slice A m c) (l.take m) (by rw [ht]; omega) w (ByOut.take hF hmn) 0 (Nat.zero_le _))
    have PT := Lib.hid (fun (v1 : Value) (w1 : World) (h1 : ByOut w1 v1 (l.take m)) => put_c v1 (l.take m) (by rw [ht]; omega) (Bytes.take hb m) w1 h1)
    have SM := Lib.hid (fun (v2 : Value) (w2 : World) (h1 : ByOut w2 v2 (cPut (l.take m))) (h2 : ByOut w2 (.slice A n c) l) => same_c v2 (.slice A n c) (cPut (l.take m)) l (by rw [hput]; omega) (by rw [hln]; omega) w2 h1 h2)
    have hk : cChk l = if cPut (l.take m) = l then (l.take m, 0) else ([], 8) := by unfold cChk; rw [if_neg (by rw [hln]; omega), hln, hm]
    have HK := Lib.hid hk; have HF := Lib.hid hF
    clear hk hF hx hput ht hln hm
    by_cases hq : cPut (l.take m) = l
    · have hk2 : cChk l = (l.take m, 0) := by rw [HK.out, if_pos hq]
      rw [hk2]
      rw [decide_eq_true hq] at SM
      clear hk2 hq
      generalize l.take m = a at *
      go_enter Tryd.func43, Tryd.ntmps43
      go_wp2_with fail
      refine C.out.mono ?_; rintro _ w1 ⟨v1, rfl, hn1, hb1⟩
      have O1 := Lib.hid hn1.out; have B1 := Lib.hid hb1
      clear hn1 hb1
      go_wp2_with fail
      refine (PT.out _ _ O1.out).mono ?_; rintro _ w2 ⟨v2, rfl, hn2, hb2⟩
      have O2 := Lib.hid hn2.out; have B2 := Lib.hid (below_next B1.out hb2); have O12 := Lib.hid (O1.out.below hb2)
      clear hn2 hb2
      go_wp2_with fail
      refine (SM.out _ _ O2.out (HF.out.below B2.out)).mono ?_; rintro _ w3 ⟨rfl, hb3⟩
      have B3 := Lib.hid (below_next B2.out hb3); have O13 := Lib.hid (O12.out.below hb3)
      clear hb3
      go_wp2
      exact bodyPost_ret (v := .tuple #[v1, .int .i64 0]) (by simp [results, Tryd.results43, go_sem]) rfl ⟨v1, rfl, O13.out, B3.out⟩
    · have hk2 : cChk l = ([], 8) := by rw [HK.out, if_neg hq]
      rw [hk2]
      rw [decide_eq_false hq] at SM
      clear hk2 hq
      generalize l.take m = a at *
      go_enter Tryd.func43, Tryd.ntmps43
      go_wp2_with fail
      refine C.out.mono ?_; rintro _ w1 ⟨v1, rfl, hn1, hb1⟩
      have O1 := Lib.hid hn1.out; have B1 := Lib.hid hb1
      clear hn1 hb1
      go_wp2_with fail
      refine (PT.out _ _ O1.out).mono ?_; rintro _ w2 ⟨v2, rfl, hn2, hb2⟩
      have O2 := Lib.hid hn2.out; have B2 := Lib.hid (below_next B1.out hb2); have O12 := Lib.hid (O1.out.below hb2)
      clear hn2 hb2
      go_wp2_with fail
      refine (SM.out _ _ O2.out (HF.out.below B2.out)).mono ?_; rintro _ w3 ⟨rfl, hb3⟩
      have B3 := Lib.hid (below_next B2.out hb3)
      clear hb3
      go_wp2
      exact bodyPost_ret (v := .tuple #[.slice none 0 0, .int .i64 8]) (by simp [results, Tryd.results43, go_sem]) rfl ⟨.slice none 0 0, rfl, nilOut _, B3.out⟩
end Go.Proofs.YtabbpgnenmpacaaDoor.CR
