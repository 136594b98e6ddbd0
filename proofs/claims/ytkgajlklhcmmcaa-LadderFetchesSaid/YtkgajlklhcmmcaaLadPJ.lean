/-
  A new ladder, by the program.
-/
import Derived.Test.YtkgajlklhcmmcaaLadSt
import Derived.Test.YtkgajlklhcmmcaaRinPH
set_option linter.unusedSimpArgs false
set_option linter.unusedVariables false
namespace Go.Proofs.Ytkgajlklhcmmcaa
open Go.RowKit
/-- What New answers. -/
def lNewOk (m f : Int) (rg : List (Int × Int)) : Bool := tog rg && lWay m f
def lNew (rg : List (Int × Int)) : List Rg := rg.map fun g => (g.1, rNew g.2.toNat)
def nwL (m f : Int) (rg : List (Int × Int)) : List Rg := if lNewOk m f rg = true then lNew rg else []
def nwM (m f : Int) (rg : List (Int × Int)) : Int := if lNewOk m f rg = true then m else 0
def nwF (m f : Int) (rg : List (Int × Int)) : Int := if lNewOk m f rg = true then f else 0
def nwE (m f : Int) (rg : List (Int × Int)) : Int := if lNewOk m f rg = true then 0 else 1
theorem nw_no {m f : Int} {rg : List (Int × Int)} (h : lNewOk m f rg = false) : nwL m f rg = [] ∧ nwM m f rg = 0 ∧ nwF m f rg = 0 ∧ nwE m f rg = 1 := by
  unfold nwL nwM nwF nwE
  rw [h]
  exact ⟨rfl, rfl, rfl, rfl⟩
theorem nw_yes {m f : Int} {rg : List (Int × Int)} (h : lNewOk m f rg = true) : nwL m f rg = lNew rg ∧ nwM m f rg = m ∧ nwF m f rg = f ∧ nwE m f rg = 0 := by
  unfold nwL nwM nwF nwE
  rw [h]
  exact ⟨rfl, rfl, rfl, rfl⟩
theorem lNew_length (rg : List (Int × Int)) : (lNew rg).length = rg.length := by unfold lNew; rw [List.length_map]
theorem rgOk_may {g : Int × Int} (h : rgOk g = true) : rMay g.1 g.2 = true := rMay_iff.2 (of_decide_eq_true h)
theorem lNew_right {m f : Int} {rg : List (Int × Int)} (h : lNewOk m f rg = true) : lRight m f (lNew rg) = true ∧ lRungs (lNew rg) = rg ∧ lFine (lNew rg) := by
  unfold lNewOk at h
  rw [Bool.and_eq_true] at h
  obtain ⟨h1, h2⟩ := h
  have hok := ((tog_iff _).1 h1).2.1
  have e : lRungs (lNew rg) = rg := by
    unfold lRungs lNew
    rw [List.map_map]
    refine List.ext_getElem? fun k => ?_
    rw [List.getElem?_map]
    cases hk : rg[k]? with
    | none => rfl
    | some g =>
      have := rMay_iff.1 (rgOk_may (hok k g hk))
      show some (g.1, ((rNew g.2.toNat).length : Int)) = some g
      rw [show (rNew g.2.toNat).length = g.2.toNat from List.length_replicate, Int.toNat_of_nonneg (by omega)]
  refine ⟨lRight_iff.2 ⟨h2, by rw [e]; exact h1, fun k r hk => ?_⟩, e, fun r hr g hg => ?_⟩
  · unfold lNew at hk
    rw [List.getElem?_map] at hk
    obtain ⟨g, hg, rfl⟩ := Option.map_eq_some_iff.1 hk
    have hm := rgOk_may (hok k g hg)
    refine rNew_right ?_
    have := rMay_iff.1 hm
    rw [Int.toNat_of_nonneg (by omega)]
    exact hm
  · unfold lNew at hr
    obtain ⟨x, _, rfl⟩ := List.mem_map.1 hr
    have : g = (-1, 0) := (List.mem_replicate.1 hg).2
    subst this
    unfold I64; simp
theorem Bx.reads {w : World} {b n size : Nat} {cs : List Value} (h : Bx w b cs) (hl : cs.length = n * size) : Reads w w.heap.size size (some ⟨b, 0, none⟩) n cs :=
  ⟨hl, fun _ => ⟨_, rfl, h.lt, fun j u hj => by
    have ea : (⟨b, 0, none⟩ : Addr).add j = ⟨b, j, none⟩ := by unfold Addr.add; split <;> simp_all
    rw [ea]
    exact (h.cells j u hj).1⟩⟩
namespace AP
open IP
set_option maxRecDepth 100000 in
set_option maxHeartbeats 4000000 in
theorem new_c (S : List Nat) (m f : Int) (v : Value) (rg : List (Int × Int)) (hl : rg.length ≤ 100000) (w : World) (h : RgOut w v rg) (hSS : ∀ z ∈ S, z < w.heap.size) :
    Calls Try.prog 13 #[.agg #[v, .int .i64 m, .int .i64 f]] w fun e w' => ∃ A c, e = .returned (.tuple #[.agg #[.int .i64 (nwM m f rg), .int .i64 (nwF m f rg), .slice A (nwL m f rg).length c], .int .i64 (nwE m f rg)]) ∧ RiNew w.heap.size S w' (.slice A (nwL m f rg).length c) (nwL m f rg) ∧ Below w.heap.size w w' := by
  have hMem : ∀ (z q : Nat), z ∈ (w.heap.size + 1) :: q :: S → z = w.heap.size + 1 ∨ z = q ∨ z < w.heap.size := fun z q hz => by
    rcases List.mem_cons.1 hz with h | hz
    · exact .inl h
    · rcases List.mem_cons.1 hz with h | hz
      · exact .inr (.inl h)
      · exact .inr (.inr (hSS z hz))
  have MEM := Lib.hid hMem
  clear hMem hSS
  have TG0 := fun (W : World) (o : RgOut W v rg) => RP.together_c v rg hl W o
  obtain ⟨A, c, rfl, hc, hx⟩ := id h
  obtain ⟨n, hn⟩ : ∃ n, rg.length = n := ⟨_, rfl⟩
  rw [hn] at TG0 hc hl
  rw [hn]
  obtain ⟨b1, b2, hb, hz⟩ := bx_new2 w #[.slice A n c, .int .i64 m, .int .i64 f] #[.int .i64 0, .int .i64 0, .slice none 0 0] 46 24
  obtain ⟨wp, hwp⟩ : ∃ wp, (w.alloc (.cells #[.slice A n c, .int .i64 m, .int .i64 f] 46)).alloc (.cells #[.int .i64 0, .int .i64 0, .slice none 0 0] 24) = wp := ⟨_, rfl⟩
  rw [hwp] at b1 b2 hb hz
  rw [hn] at h
  have TG1 := TG0 wp (h.below hb)
  obtain ⟨tg, htg⟩ : ∃ tg, tog rg = tg := ⟨_, rfl⟩
  obtain ⟨wy, hwy⟩ : ∃ wy, lWay m f = wy := ⟨_, rfl⟩
  have IW := fun W => isWay_b m f W
  rw [htg] at TG1
  rw [hwy] at IW
  have NO := Lib.hid (show (tg && wy) = false → nwL m f rg = [] ∧ nwM m f rg = 0 ∧ nwF m f rg = 0 ∧ nwE m f rg = 1 from fun e => nw_no (by unfold lNewOk; rw [htg, hwy]; exact e))
  have YES := Lib.hid (show (tg && wy) = true → (nwL m f rg = lNew rg ∧ nwM m f rg = m ∧ nwF m f rg = f ∧ nwE m f rg = 0) ∧ (∀ (k : Nat) (g : Int × Int), rg[k]? = some g → rMay g.1 g.2 = true) ∧ n ≤ 4 from fun e => by
    have hok : lNewOk m f rg = true := by unfold lNewOk; rw [htg, hwy]; exact e
    rw [Bool.and_eq_true] at e
    have ht := (tog_iff _).1 (htg.trans e.1)
    exact ⟨nw_yes hok, fun k g hk => rgOk_may (ht.2.1 k g hk), by have := ht.1.2; omega⟩)
  obtain ⟨k0, k1, k2, -⟩ := b1.three
  have TG1 := Lib.hid TG1; have IW := Lib.hid IW; have KP := Lib.hid hb; have HWP := Lib.hid hwp; have HN := Lib.hid hn; have B1 := Lib.hid b1; have B2 := Lib.hid b2; have ZP := Lib.hid hz; have HX := Lib.hid hx
  obtain ⟨i0, hi0, hz0, hz1, hz2⟩ := info_parts ring_info
  clear h TG0 b1 b2 hb hz hwp hn htg hwy hx
  go_enter Try.func13, Try.ntmps13
  go_wp2_with fail
  rw [HWP.out]
  refine TG1.out.mono ?_; rintro _ w1 ⟨rfl, hb1⟩
  have K1 := Lib.hid hb1
  obtain ⟨k0, k1, k2, -⟩ := (B1.out.below K1.out).three
  cases tg
  · obtain ⟨j0, j1, j2, j3, j4, j5⟩ := (B2.out.below K1.out).three
    have NO2 := Lib.hid (NO.out rfl)
    clear hb1
    go_wp2_with fail
    refine bodyPost_ret (v := .tuple #[.agg #[.int .i64 0, .int .i64 0, .slice none 0 0], .int .i64 1]) (by simp [results, Try.results13, go_sem, j0, j1, j2, j3, j4, j5]) rfl ⟨none, 0, ?_, ?_, ?_⟩
    · obtain ⟨e1, e2, e3, e4⟩ := NO2.out; rw [e1, e2, e3, e4]; rfl
    · rw [NO2.out.1]; exact RiNew.nil _ _ _
    · exact below_set (below_set (below_set (bnext KP.out K1.out) (by omega) _) (by omega) _) (by omega) _
  · clear hb1
    go_wp2_with fail
    refine (IW.out _).mono ?_; rintro _ w2 ⟨rfl, hb2⟩
    have K2 := Lib.hid (bnext K1.out hb2)
    obtain ⟨k0, k1, k2, -⟩ := (B1.out.below K2.out).three
    clear hb2
    cases wy
    · obtain ⟨j0, j1, j2, j3, j4, j5⟩ := (B2.out.below K2.out).three
      have NO2 := Lib.hid (NO.out rfl)
      go_wp2_with fail
      refine bodyPost_ret (v := .tuple #[.agg #[.int .i64 0, .int .i64 0, .slice none 0 0], .int .i64 1]) (by simp [results, Try.results13, go_sem, j0, j1, j2, j3, j4, j5]) rfl ⟨none, 0, ?_, ?_, ?_⟩
      · obtain ⟨e1, e2, e3, e4⟩ := NO2.out; rw [e1, e2, e3, e4]; rfl
      · rw [NO2.out.1]; exact RiNew.nil _ _ _
      · exact below_set (below_set (below_set (bnext KP.out K2.out) (by omega) _) (by omega) _) (by omega) _
    · obtain ⟨⟨y1, y2, y3, y4⟩, hmay, hn4⟩ := YES.out rfl
      have HY := Lib.hid (show nwL m f rg = lNew rg ∧ nwM m f rg = m ∧ nwF m f rg = f ∧ nwE m f rg = 0 from ⟨y1, y2, y3, y4⟩)
      have HM := Lib.hid hmay
      obtain ⟨b3, hb3, hz3⟩ := bx_new1 w2 #[.int .i64 m, .int .i64 f, .slice none 0 0] 24
      have z0 := cellb hb3 k0
      obtain ⟨w3, hw3⟩ : ∃ w3, w2.alloc (.cells #[.int .i64 m, .int .i64 f, .slice none 0 0] 24) = w3 := ⟨_, rfl⟩
      have HW3 := Lib.hid hw3
      rw [hw3] at b3 hb3 hz3
      have K3 := Lib.hid (bnext K2.out hb3)
      have LB := Lib.hid (show w.heap.size + 1 < w2.heap.size ∧ w3.heap.size = w2.heap.size + 1 from ⟨by have h1 := K2.out.size; have h2 := ZP.out; omega, hz3⟩)
      have ST := Lib.hid (show Bx w3 w.heap.size [.slice A n c, .int .i64 m, .int .i64 f] ∧ Bx w3 (w.heap.size + 1) [.int .i64 0, .int .i64 0, .slice none 0 0] ∧ Bx w3 w2.heap.size [.int .i64 m, .int .i64 f, .slice none 0 0] ∧ RiNew (w2.heap.size + 1) ((w.heap.size + 1) :: w2.heap.size :: S) w3 (.slice none 0 0) (lNew (rg.take 0)) ∧ Below w.heap.size w w3 ∧ w2.heap.size + 1 ≤ w3.heap.size from ⟨B1.out.below K3.out, B2.out.below K3.out, b3, RiNew.nil _ _ _, bnext KP.out K3.out, by omega⟩)
      clear y1 y2 y3 y4 hmay hw3 b3 hb3 hz3
      go_wp2_with fail
      rw [HW3.out]
      clear z0 k0 k1 k2
      go_loopw [30] (fun i wr => ∃ (k : Nat) (A4 : Option Addr) (c4 : Nat), k ≤ n ∧ i = .int .i64 k ∧ Hid (Bx wr w.heap.size [.slice A n c, .int .i64 m, .int .i64 f] ∧ Bx wr (w.heap.size + 1) [.int .i64 0, .int .i64 0, .slice none 0 0] ∧ Bx wr w2.heap.size [.int .i64 m, .int .i64 f, .slice A4 k c4] ∧ RiNew (w2.heap.size + 1) ((w.heap.size + 1) :: w2.heap.size :: S) wr (.slice A4 k c4) (lNew (rg.take k)) ∧ Below w.heap.size w wr ∧ w2.heap.size + 1 ≤ wr.heap.size)) (fun i _ => n - (intOf i).toNat)
      case atStart => exact ⟨0, none, 0, Nat.zero_le _, rfl, ST.out⟩
      case round =>
        obtain ⟨k, A4, c4, hk, rfl, HI⟩ := hrel
        obtain ⟨l0, l1, l2, l3, l4, l5⟩ := HI.out.2.2.1.three
        by_cases hlt : k < n
        · have hkl : k < rg.length := by rw [HN.out]; exact hlt
          obtain ⟨b, off, rfl, ha⟩ := HX.out (by intro e; rw [e] at hkl; exact absurd hkl (Nat.not_lt_zero _))
          obtain ⟨⟨s, cn⟩, hp⟩ : ∃ p, rg[k]? = some p := ⟨_, List.getElem?_eq_getElem hkl⟩
          obtain ⟨e0, e1⟩ := (ha.below HI.out.2.2.2.2.1) k _ hp
          simp only at e0 e1
          have hmay := HM.out k _ hp
          simp only at hmay
          have hm4 := rMay_iff.1 hmay
          have NR := fun W => IP.new_c s cn W
          rw [show newS s cn = s from by unfold newS; rw [hmay]; rfl, show newL s cn = rNew cn.toNat from by unfold newL; rw [hmay]; rfl, show newE s cn = 0 from by unfold newE; rw [hmay]; rfl] at NR
          obtain ⟨q, hq⟩ : ∃ q, (rNew cn.toNat).length = q := ⟨_, rfl⟩
          rw [hq] at NR
          have NR := Lib.hid NR
          have NEXT := Lib.hid (show lNew (rg.take (k + 1)) = lNew (rg.take k) ++ [(s, rNew cn.toNat)] from by unfold lNew; rw [List.take_add_one, hp, List.map_append]; rfl)
          have HL := Lib.hid (show (lNew (rg.take k)).length = k from by rw [lNew_length, List.length_take]; omega)
          obtain ⟨b5, hb5, hz5⟩ := bx_new1 wr #[.int .i64 s, .int .i64 cn] 43
          obtain ⟨w5, hw5⟩ : ∃ w5, wr.alloc (.cells #[.int .i64 s, .int .i64 cn] 43) = w5 := ⟨_, rfl⟩
          rw [hw5] at b5 hb5 hz5
          obtain ⟨y0, y1, -, -⟩ := b5.two
          have HW5 := Lib.hid hw5
          have K5 := Lib.hid hb5
          clear hw5 hb5 hz5 b5 hp hq
          go_wp2_with fail
          rw [HW5.out]
          refine (NR.out _).mono ?_; rintro _ w6 ⟨A6, c6, rfl, hN6, hb6⟩
          have K6 := Lib.hid (bnext K5.out hb6)
          have D7 := Lib.hid (bx_new2 w6 #[.int .i64 s, .slice A6 q c6] #[.int .i64 s, .slice A6 q c6] 53 53)
          obtain ⟨l0, l1, l2, l3, l4, l5⟩ := (HI.out.2.2.1.below K6.out).three
          have hb7 := alloc_below w6 (.cells #[.int .i64 s, .slice A6 q c6] 53)
          have z2 := cellb hb7 l2
          have K8 := Lib.hid (bnext K6.out D7.out.2.2.1)
          obtain ⟨P, hm, hown, hsg, hP⟩ := HI.out.2.2.2.1.below K8.out
          rw [HL.out] at hown
          have N8 := hN6.below D7.out.2.2.1
          have FAR := Lib.hid (show RgFar ((Value.slice A4 k c4).ownBlock.toList ++ ((w.heap.size + 1) :: w2.heap.size :: S)) (w6.alloc (.cells #[.int .i64 s, .slice A6 q c6] 53)) (.slice A6 q c6) (rNew cn.toNat) from (hN6.below hb7).far fun z hz => by
            have h2 := K5.out.size; have h3 := LB.out; have h4 := HI.out.2.2.2.2.2
            rcases List.mem_append.1 hz with h | h
            · obtain ⟨P', _, ho', _, _⟩ := HI.out.2.2.2.1
              have := (own_lt ho' (by simpa using h)).2
              exact .inl (by omega)
            · have h9 := MEM.out z _ h
              exact .inl (by omega))
          have ROW := Lib.hid (show ∃ P : List (Value × Rg), P.map Prod.snd = lNew (rg.take k) ∧ (∀ g, (Value.slice A4 k c4).ownBlock = some g → g ∉ ((w.heap.size + 1) :: w2.heap.size :: S)) ∧ (∀ x ∈ P, RgFar ((Value.slice A4 k c4).ownBlock.toList ++ ((w.heap.size + 1) :: w2.heap.size :: S)) (w6.alloc (.cells #[.int .i64 s, .slice A6 q c6] 53)) x.1 x.2.2) ∧ ((w6.alloc (.cells #[.int .i64 s, .slice A6 q c6] 53)).alloc (.cells #[.int .i64 s, .slice A6 q c6] 53)).ownsRow (w2.heap.size + 1) 53 2 (.slice A4 k c4) k (riC P) from by
            obtain ⟨P, hm, hown, hsg, hP⟩ := HI.out.2.2.2.1.below (bnext K6.out hb7)
            rw [HL.out] at hown
            exact ⟨P, hm, hsg, hP, World.ownsRow.alloc hown _⟩)
          clear hm hown hsg hP P
          obtain ⟨P, hm, hsg, hP, hown⟩ := ROW.out
          have OWN := Lib.hid hown; have HP2 := Lib.hid hP; have HM2 := Lib.hid hm; have HSG := Lib.hid hsg
          have B63 := Lib.hid (show k + 1 ≤ maxLen by simp only [maxLen]; omega)
          have B48 := Lib.hid (show (k + 1) * 32 ≤ 140737488355328 by omega)
          have FORM := Lib.hid (fun (W' : World) (v' : Value) (xs : List Value) (h : W'.ownsRow (w2.heap.size + 1) 53 2 v' (k + 1) xs) => own_form h)
          have SZ8 := Lib.hid (show w2.heap.size + 1 ≤ ((w6.alloc (.cells #[.int .i64 s, .slice A6 q c6] 53)).alloc (.cells #[.int .i64 s, .slice A6 q c6] 53)).heap.size from by have h1 := K8.out.size; have h2 := HI.out.2.2.2.2.2; omega)
          have RD := Lib.hid (D7.out.2.1.reads (n := 1) (size := 2) rfl)
          have B8 := Lib.hid (HI.out.2.2.1.below K8.out)
          have NEB := Lib.hid (show some w2.heap.size ≠ (Value.slice A4 k c4).ownBlock from fun e => hsg _ e.symm (by simp))
          clear hm hown hsg hP N8 hN6 hb6 l0 l1 l2 l3 l4 l5 hb7
          go_wp2_with (at_builtin; refine wpList_append_any _ rfl (.tmp 43) (.tmp 45) _ rfl (w2.heap.size + 1) 53 i0 (.agg #[.int .i64 0, .slice none 0 0]) 2 32 Try.underlying22 hi0 hz0 hz1 hz2 rfl (by decide) (.slice A4 k c4) k (riC P) rfl OWN.out _ (some ⟨w6.heap.size + 1, 0, none⟩) 1 1 [.int .i64 s, .slice A6 q c6] rfl RD.out (by simp [Value.oneCell']) B63.out B48.out SZ8.out ?_; intro v20 w20 hown20 hg20 hat20; obtain ⟨A20, c20, hv20, _, _⟩ := FORM.out _ _ _ hown20; subst hv20; have HO := Lib.hid hown20; have HG := Lib.hid hg20; have HA := Lib.hid hat20; obtain ⟨l0, l1, l2, l3, l4, l5⟩ := (B8.out.grown HG.out NEB.out).three; clear hown20 hg20 hat20)
          go_roundw
          case rel =>
            have g0 := HG.out
            have hne : ∀ b, b < w2.heap.size + 1 → some b ≠ (Value.slice A4 k c4).ownBlock := fun b hb e => by have := (own_lt OWN.out e.symm).1; omega
            have hR := RiNew.push (S := ((w.heap.size + 1) :: w2.heap.size :: S)) (u := .slice A6 q c6) (r := (s, rNew cn.toNat)) HM2.out HSG.out HP2.out FAR.out g0 HO.out HA.out (fun z hz => by
              have h1 := K6.out.size; have h2 := LB.out; have h3 := HI.out.2.2.2.2.2
              have h9 := MEM.out z _ hz
              simp
              omega) HL.out
            refine ⟨k + 1, A20, c20, by omega, by go_num, ((HI.out.1.below K8.out).grown g0 (hne _ (by have := LB.out; omega))).other (by have := LB.out; omega) _, ((HI.out.2.1.below K8.out).grown g0 (hne _ (by have := LB.out; omega))).other (by have := LB.out; omega) _, ?_, ?_, ?_, ?_⟩
            · exact (B8.out.grown g0 NEB.out).set (j := 2) (by simp) _
            · rw [NEXT.out]
              exact hR.kept (fun b _ hb => heap_setCell_other _ ⟨w2.heap.size, 2, none⟩ b _ (fun e => hb (by rw [e]; simp)))
            · refine below_set (Below.grown (bnext HI.out.2.2.2.2.1 K8.out) g0 (by have h1 := SZ8.out; have h2 := LB.out; omega) (fun j ej => ?_)) (by have := LB.out; omega) _
              have := (own_lt OWN.out ej).1; have := LB.out; omega
            · have h1 := SZ8.out; have h2 := g0.size; simp; omega
          case measure => simp [intOf]; omega
        · obtain rfl : k = n := by omega
          obtain ⟨j0, j1, j2, j3, j4, j5⟩ := HI.out.2.1.three
          have hfull : lNew (rg.take k) = lNew rg := by rw [show rg.take k = rg from by rw [← HN.out]; exact List.take_length]
          obtain ⟨y1, y2, y3, y4⟩ := HY.out
          have HLL := Lib.hid (show (nwL m f rg).length = k ∧ nwL m f rg = lNew (rg.take k) ∧ nwM m f rg = m ∧ nwF m f rg = f ∧ nwE m f rg = 0 from ⟨by rw [y1, lNew_length]; exact HN.out, by rw [y1, hfull], y2, y3, y4⟩)
          clear y1 y2 y3 y4 hfull
          go_wp2_with fail
          refine bodyPost_ret (v := .tuple #[.agg #[.int .i64 m, .int .i64 f, .slice A4 k c4], .int .i64 0]) (by simp [results, Try.results13, go_sem, j0, j1, j2, j3, j4, j5]) rfl ⟨A4, c4, ?_, ?_, ?_⟩
          · obtain ⟨e0, e1, e2, e3, e4⟩ := HLL.out; rw [e0, e2, e3, e4]
          · obtain ⟨e0, e1, -⟩ := HLL.out
            rw [e0, e1]
            exact ((HI.out.2.2.2.1.set3 (b := w.heap.size + 1) (by simp) _ _ _).less (fun z hz => .inl (by simp [hz]))).mono (by have := LB.out; omega)
          · exact below_set (below_set (below_set HI.out.2.2.2.2.1 (by omega) _) (by omega) _) (by omega) _
end AP
end Go.Proofs.Ytkgajlklhcmmcaa
