/-
  Contracts of the program's functions of layer 11: sections with the key that one line more says (grown).
-/
import Derived.Test.YtgdjmbekamdlgaaDoorCfgGr
set_option linter.unusedSimpArgs false
set_option linter.unusedVariables false
namespace Go.Proofs.YtgdjmbekamdlgaaDoor.KP
open Go.RowKit KR
set_option maxRecDepth 100000 in
set_option maxHeartbeats 1000000 in
/-- A line that begins no section, and says no key, or stands ahead of any section. -/
theorem grown_wrong (B : Nat) (A : Option Addr) (nu c : Nat) (L : List Sec) (hL : L.length = nu) (s : ByteArray) (hs : s.size ≤ 100000) (hn : headV (bs s) = none) (hw : (cutC (bs s)).2 = false ∨ nu = 0) (hnu : nu ≤ 16) (w : World) (hB : B ≤ w.heap.size) :
    Calls Tryd.prog 13 #[.slice A nu c, .string s] w (Grew B w L (bs s)) := by
  have hst : (stepV L (bs s)).2 = 7 := by
    rcases hw with h | h
    · rw [step_wrong hn h]
    · rw [List.eq_nil_of_length_eq_zero (hL.trans h), step_none hn]
  have SE := (section_c s hs w)
  rw [hn] at SE
  have SE2 := Lib.hid (SE.mono fun e w' ⟨M, h1, h2, h3⟩ => (show ∃ M, e = Ending.returned (.tuple #[.string M, .bool false]) ∧ w = w' from ⟨M, h1, h3⟩))
  have PC := Lib.hid (pair_c s hs w)
  obtain ⟨ok, hok⟩ : ∃ ok, (cutC (bs s)).2 = ok := ⟨_, rfl⟩
  rw [hok] at hw PC
  have HST := Lib.hid hst
  clear hst SE hok hn
  by_cases ho : ok = false
  · subst ho
    go_enter Tryd.func13, Tryd.ntmps13
    go_wp2_with (first
      | (go_at_call 25; refine SE2.out.mono ?_; rintro _ w1 ⟨M, rfl, rfl⟩)
      | (go_at_call 28; refine PC.out.mono ?_; rintro _ w2 ⟨KS, VS, rfl, hkv, hb2⟩; clear hkv))
    go_ret2
    exact Grew.err HST.out (by decide) (bnext hb2 (alloc_below _ _)) hB
  · obtain rfl : ok = true := by simpa using ho
    obtain rfl : nu = 0 := hw.resolve_left (by decide)
    go_enter Tryd.func13, Tryd.ntmps13
    go_wp2_with (first
      | (go_at_call 25; refine SE2.out.mono ?_; rintro _ w1 ⟨M, rfl, rfl⟩)
      | (go_at_call 28; refine PC.out.mono ?_; rintro _ w2 ⟨KS, VS, rfl, hkv, hb2⟩; clear hkv))
    go_ret2
    exact Grew.err HST.out (by decide) (bnext hb2 (alloc_below _ _)) hB
set_option maxRecDepth 100000 in
set_option maxHeartbeats 2000000 in
/-- A line that says a key, behind a section. -/
theorem grown_key (B : Nat) (gs : Nat) (nu c q : Nat) (ui : List (Value × Sec)) (Au : Option Addr) (nk cu : Nat) (nm : List Nat) (kl : List KV) (s : ByteArray) (hs : s.size ≤ 100000) (hn : headV (bs s) = none) (hok : (cutC (bs s)).2 = true) (w : World) (hB : B ≤ w.heap.size)
    (HU : ScUs B w (.slice (some ⟨gs, 0, none⟩) nu c) (ui ++ [(.slice Au nk cu, (nm, kl))])) (hq : ui.length = q) (hqn : q + 1 = nu) (hfew : nu ≤ 16) (hnk : kl.length = nk) (hk16 : nk ≤ 16) (hbyt : ∀ p ∈ kl, Byt p.1) :
    Calls Tryd.prog 13 #[.slice (some ⟨gs, 0, none⟩) nu c, .string s] w (Grew B w ((ui ++ [((.slice Au nk cu : Value), ((nm, kl) : Sec))]).map Prod.snd) (bs s)) := by
  obtain ⟨⟨⟨K, V⟩, ok⟩, hcut⟩ : ∃ x, cutC (bs s) = x := ⟨_, rfl⟩
  have cb := cutC_byt (byt_bs s)
  have hst := step_key (out := ui.map Prod.snd) (x := (nm, kl)) hn
  rw [hcut] at hst hok cb
  simp only at hok cb
  subst hok
  simp only [Bool.true_eq_false, if_false] at hst
  have HST := Lib.hid (show stepV ((ui ++ [((.slice Au nk cu : Value), ((nm, kl) : Sec))]).map Prod.snd) (bs s) = if (getV kl K).isSome = true then ([], 5) else if kl.length = 16 then ([], 11) else (ui.map Prod.snd ++ [(nm, kl ++ [(K, V)])], 0) by
    rw [List.map_append]; exact hst)
  rw [get_any, hnk] at HST
  have SE := (section_c s hs w)
  rw [hn] at SE
  have SE2 := Lib.hid (SE.mono fun e w' ⟨M, h1, h2, h3⟩ => (show ∃ M, e = Ending.returned (.tuple #[.string M, .bool false]) ∧ w = w' from ⟨M, h1, h3⟩))
  have PC0 := pair_c s hs w
  rw [hcut] at PC0
  obtain ⟨KS, hKS⟩ : ∃ KS, str K = KS := ⟨_, rfl⟩
  obtain ⟨VS, hVS⟩ : ∃ VS, str V = VS := ⟨_, rfl⟩
  have hKb : bs KS = K := by rw [← hKS]; exact bs_str cb.1
  have PC := Lib.hid (PC0.mono fun e w' ⟨K1, V1, h1, h2, h3⟩ => (show e = Ending.returned (.tuple #[.agg #[.string KS, .string VS], .bool true]) ∧ Below w.heap.size w w' from ⟨by
    obtain ⟨e1, e2⟩ := h2 rfl
    rw [h1, e1, e2, ← hKS, ← hVS], h3⟩))
  have HKS := Lib.hid hKS; have HVS := Lib.hid hVS; have HU0 := Lib.hid HU; have HQ := Lib.hid hq; have HNK := Lib.hid hnk
  have hmem : ((.slice Au nk cu : Value), ((nm, kl) : Sec)) ∈ ui ++ [((.slice Au nk cu : Value), ((nm, kl) : Sec))] := List.mem_append_right _ (List.mem_singleton.2 rfl)
  have hlast : (ui ++ [((.slice Au nk cu : Value), ((nm, kl) : Sec))])[q]? = some (.slice Au nk cu, (nm, kl)) := by rw [← hq]; simp
  obtain ⟨c0, c1, f1⟩ := HU.cells hlast
  simp only at c1
  have hkv : KvNew B w (.slice Au nk cu) kl := HU.kv _ hmem
  have hgl := own_lt HU.row (g := gs) rfl
  have CF := Lib.hid (fun (b : Nat) (W : World) (h1 : Below w.heap.size w W) (h2 : W.cell? ⟨b, 0, none⟩ = some (.string KS)) => hasK_c (.slice Au nk cu) kl (by omega) hbyt b KS W h2 (hkv.out.below h1))
  rw [hKb] at CF
  have ROW := Lib.hid (show ∀ W, Below w.heap.size w W → W.ownsRow B 34 2 (.slice Au nk cu) nk (kvC kl) from fun W h => by
    have h2 := ownsRow_below2 hkv h
    rw [hnk] at h2; exact h2)
  obtain ⟨d, hd⟩ : ∃ d, (kl.any fun p => p.1 == K) = d := ⟨_, rfl⟩
  rw [hd] at HST CF
  have KB := Lib.hid (fun W => keyed_b KS W)
  have HGL := Lib.hid hgl
  have zq : (nu : Int) - 1 = (q : Int) := by omega
  have zlt : q < nu := by omega
  have n0 : ¬ (nu : Int) = 0 := by omega
  have n0b : ((nu : Int) == 0) = false := beq_false_of_ne n0
  clear hst SE PC0 hcut cb hKS hVS hKb HU hq hnk hmem hlast hkv hgl hbyt hd hn
  -- up to the region that calls keyed and added
  cases d with
  | true =>
    rw [if_pos rfl] at HST
    have AD := Lib.hid (fun (b : Nat) (W : World) (h1 : Below w.heap.size w W) (h2 : W.cell? ⟨b, 0, none⟩ = some (.string KS)) => addedK_has Au nk cu KS VS (.func (.func 51) #[] #[.pointer (some ⟨b, 0, none⟩)]) ⟨b, rfl⟩ W (fun W2 h3 => CF.out b W2 (bnext h1 h3) (cellb h3 h2)))
    clear CF ROW
    go_enter Tryd.func13, Tryd.ntmps13
    go_wp2_with (first
      | (go_at_call 25; refine SE2.out.mono ?_; rintro _ w1 ⟨M, rfl, rfl⟩)
      | (go_at_call 28; refine PC.out.mono ?_; rintro _ w2 ⟨rfl, hb2⟩))
    obtain ⟨p0, p1, -, -⟩ := two_new w2 (.string KS) (.string VS) 34
    have hbX := bnext hb2 (alloc_below w2 (.cells #[.string KS, .string VS] 34))
    have lt0 : w.heap.size < (w2.alloc (.cells #[.string KS, .string VS] 34)).heap.size := Nat.lt_of_le_of_lt hb2.size (by simp)
    obtain ⟨X, hX⟩ : ∃ X, w2.alloc (.cells #[.string KS, .string VS] 34) = X := ⟨_, rfl⟩
    rw [hX] at p0 p1 hbX ⊢
    have d0 := cellb hbX c1
    have fd0 := (hbX.frozen (p := ⟨gs, q * 2 + 1, none⟩) (by have := HGL.out.2; simp only; omega)).trans f1
    have HBX := Lib.hid hbX
    have HFZ := Lib.hid (show ∀ W, Below X.heap.size X W → W.frozen? ⟨gs, q * 2 + 1, none⟩ = false from fun W h => (h.frozen (p := ⟨gs, q * 2 + 1, none⟩) (by have := HGL.out.2; have := HBX.out.size; simp only; omega)).trans fd0)
    have hdw : Below X.heap.size X X.drew := (Below.refl _ _).drew
    have hpb : w2.heap.size < X.heap.size := by rw [← hX]; simp
    have HPB := Lib.hid hpb
    have SB := Lib.hid (show ∀ W, Below X.heap.size X W → W.cell? ⟨gs, q * 2 + 1, none⟩ = some (.slice Au nk cu) ∧ W.cell? ⟨w2.heap.size, 0, none⟩ = some (.string KS) ∧ W.cell? ⟨w2.heap.size, 1, none⟩ = some (.string VS) from fun W h => ⟨cellb h d0, cellb h p0, cellb h p1⟩)
    have HW2 := Lib.hid hb2.size
    clear hb2 hbX hX c0 c1 f1 lt0 hpb
    have hne1 : ¬ gs = w2.heap.size := by have := HGL.out.2; have := HW2.out; omega
    have hne2 : ¬ w2.heap.size = gs := fun e => hne1 e.symm
    refine wp_region_held_drew (S := fun y => y.cell? ⟨w2.heap.size, 0, none⟩ = some (.string KS) ∧ y.cell? ⟨w2.heap.size, 1, none⟩ = some (.string VS)) (by kernel_rfl) ?hs (fun hHeld => ?hr)
    case hs => ((try dsimp only); (first | assumption | go_keep))
    case hr =>
      refine wpAnyH_take (i := 0) (v := ?_) rfl (by kernel_rfl) (by kernel_rfl) (by kernel_rfl) (fun _ _ _ h => h) (Or.inl ⟨by rfl, ?_⟩) (by assumption) ?_
      rotate_left
      · intro w hSw
        (try dsimp only at hSw)
        go_simp
        (try with_reducible rfl)
      change wpAnyH _ _ _ _ _ _ _ (Act.put _ (some 44) _) _
      simp only [Act.put, List.setIfInBounds_toArray, List.set_cons_zero, List.set_cons_succ]
      refine wpAnyH_take (i := 1) (v := ?_) rfl (by kernel_rfl) (by kernel_rfl) (by kernel_rfl) (fun _ _ _ h => h) (Or.inl ⟨by rfl, ?_⟩) (by assumption) ?_
      rotate_left
      · intro w hSw
        (try dsimp only at hSw)
        go_simp
        (try with_reducible rfl)
      change wpAnyH _ _ _ _ _ _ _ (Act.put _ (some 45) _) _
      simp only [Act.put, List.setIfInBounds_toArray, List.set_cons_zero, List.set_cons_succ]
      refine wpAnyH_take (i := 2) (v := ?_) rfl (by kernel_rfl) (by kernel_rfl) (by kernel_rfl) (fun _ _ _ h => h) (Or.inl ⟨by rfl, ?_⟩) (by assumption) ?_
      rotate_left
      · intro w hSw
        (try dsimp only at hSw)
        go_simp
        (try with_reducible rfl)
      change wpAnyH _ _ _ _ _ _ _ (Act.put _ (some 46) _) _
      simp only [Act.put, List.setIfInBounds_toArray, List.set_cons_zero, List.set_cons_succ]
      refine wpAnyH_take (i := 3) (v := ?_) rfl (by kernel_rfl) (by kernel_rfl) (by kernel_rfl) (fun _ _ _ h => h) (Or.inl ⟨by rfl, ?_⟩) (by assumption) ?_
      rotate_left
      · intro w hSw
        (try dsimp only at hSw)
        go_simp
        (try with_reducible rfl)
      change wpAnyH _ _ _ _ _ _ _ (Act.put _ (some 47) _) _
      simp only [Act.put, List.setIfInBounds_toArray, List.set_cons_zero, List.set_cons_succ]
      refine wpAnyH_take (i := 5) (v := ?_) rfl (by kernel_rfl) (by kernel_rfl) (by kernel_rfl) (fun _ _ _ h => h) (Or.inl ⟨by rfl, ?_⟩) (by assumption) ?_
      rotate_left
      · intro w hSw
        (try dsimp only at hSw)
        go_simp
        (try with_reducible rfl)
      change wpAnyH _ _ _ _ _ _ _ (Act.put _ (some 49) _) _
      simp only [Act.put, List.setIfInBounds_toArray, List.set_cons_zero, List.set_cons_succ]
      refine wpAnyH_take (i := 6) (v := ?_) rfl (by kernel_rfl) (by kernel_rfl) (by kernel_rfl) (fun _ _ _ h => h) (Or.inl ⟨by rfl, ?_⟩) (by assumption) ?_
      rotate_left
      · intro w hSw
        (try dsimp only at hSw)
        go_simp
        (try with_reducible rfl)
      change wpAnyH _ _ _ _ _ _ _ (Act.put _ (some 50) _) _
      simp only [Act.put, List.setIfInBounds_toArray, List.set_cons_zero, List.set_cons_succ]
      refine wpAnyH_take (i := 7) (v := ?_) rfl (by kernel_rfl) (by kernel_rfl) (by kernel_rfl) (fun _ _ _ h => h) (Or.inl ⟨by rfl, ?_⟩) (by assumption) ?_
      rotate_left
      · intro w hSw
        (try dsimp only at hSw)
        go_simp
        (try with_reducible rfl)
      change wpAnyH _ _ _ _ _ _ _ (Act.put _ (some 51) _) _
      simp only [Act.put, List.setIfInBounds_toArray, List.set_cons_zero, List.set_cons_succ]
      refine wpAnyH_ready (rs := [4, 8]) (by kernel_rfl) (by simp) ?_
      refine AllReadyH.cons rfl (fun K hK => ?_) (AllReadyH.cons rfl (fun K hK => ?_) AllReadyH.nil)
      · go_simp
        refine hK.out _ _ ?_ (fun hHeld => ?_)
        · ((try dsimp only); (first | assumption | go_keep))
        clear hK K
        (try simp only [Act.put, List.setIfInBounds_toArray, List.set_cons_zero, List.set_cons_succ])
        refine wpAnyH_ready (rs := [8]) (by kernel_rfl) (by simp) ?_
        refine AllReadyH.cons rfl (fun K hK => ?_) AllReadyH.nil
        · go_simp
          (go_at_call 30; (with_reducible refine (KB.out _).mono ?_); rintro _ w5 ⟨b5, rfl, hc5, hb5⟩; obtain ⟨e0, e1, e2⟩ := SB.out _ (bnext hdw hb5); have hS5 := (And.intro e1 e2))
          (try go_wp2_with fail)
          refine hK.out _ _ ?_ (fun hHeld => ?_)
          · ((try dsimp only); (first | assumption | go_keep))
          clear hK K
          (try simp only [Act.put, List.setIfInBounds_toArray, List.set_cons_zero, List.set_cons_succ])
          refine wpAnyH_ready (rs := [9]) (by kernel_rfl) (by simp) ?_
          refine AllReadyH.cons rfl (fun K hK => ?_) AllReadyH.nil
          · go_simp
            (go_at_call 29; (with_reducible refine (AD.out b5 _ (bnext HBX.out (bnext hdw hb5)) hc5).mono ?_); rintro _ w6 ⟨rfl, hb6⟩; have hbx6 := bnext hdw (bnext hb5 hb6); have fz6 := HFZ.out _ hbx6; obtain ⟨x0, x1, x2⟩ := SB.out _ hbx6; have hS6 := (And.intro x1 x2); have BB6 := Lib.hid ((bnext HBX.out hbx6).mono hB))
            (try go_wp2_with fail)
            refine hK.out _ _ ?_ (fun hHeld => ?_)
            · ((try dsimp only); (first | assumption | go_keep))
            clear hK K
            (try simp only [Act.put, List.setIfInBounds_toArray, List.set_cons_zero, List.set_cons_succ])
            refine wpAnyH_take (i := 10) (v := ?_) rfl (by kernel_rfl) (by kernel_rfl) (by kernel_rfl) (fun _ _ _ h => h) (Or.inl ⟨by rfl, ?_⟩) (by assumption) ?_
            rotate_left
            · intro w hSw
              (try dsimp only at hSw)
              go_simp
              (try with_reducible rfl)
            change wpAnyH _ _ _ _ _ _ _ (Act.put _ (some 43) _) _
            simp only [Act.put, List.setIfInBounds_toArray, List.set_cons_zero, List.set_cons_succ]
            refine wpAnyH_take (i := 11) (v := ?_) rfl (by kernel_rfl) (by kernel_rfl) (by kernel_rfl) (fun _ _ _ h => h) (Or.inl ⟨by rfl, ?_⟩) (by assumption) ?_
            rotate_left
            · intro w hSw
              (try dsimp only at hSw)
              go_simp
              (try with_reducible rfl)
            change wpAnyH _ _ _ _ _ _ _ (Act.put _ (some 54) _) _
            simp only [Act.put, List.setIfInBounds_toArray, List.set_cons_zero, List.set_cons_succ]
            refine wpAnyH_take (i := 12) (v := ?_) rfl (by kernel_rfl) (by kernel_rfl) (by kernel_rfl) (fun _ _ _ h => h) (Or.inl ⟨by rfl, ?_⟩) (by assumption) ?_
            rotate_left
            · intro w hSw
              (try dsimp only at hSw)
              go_simp
              (try with_reducible rfl)
            change wpAnyH _ _ _ _ _ _ _ (Act.put _ (some 55) _) _
            simp only [Act.put, List.setIfInBounds_toArray, List.set_cons_zero, List.set_cons_succ]
            refine wpAnyH_take (i := 13) (v := ?_) rfl (by kernel_rfl) (by kernel_rfl) (by kernel_rfl) (fun _ _ _ h => h) (Or.inl ⟨by rfl, ?_⟩) (by assumption) ?_
            rotate_left
            · intro w hSw
              (try dsimp only at hSw)
              go_simp
              (try with_reducible rfl)
            change wpAnyH _ _ _ _ _ _ _ (Act.put _ (some 56) _) _
            simp only [Act.put, List.setIfInBounds_toArray, List.set_cons_zero, List.set_cons_succ]
            refine wpAnyH_take (i := 14) (v := ?_) rfl (by kernel_rfl) (by kernel_rfl) (by kernel_rfl) (fun _ _ _ h => h) (Or.inl ⟨by rfl, ?_⟩) (by assumption) ?_
            rotate_left
            · intro w hSw
              (try dsimp only at hSw)
              go_simp
              (try with_reducible rfl)
            change wpAnyH _ _ _ _ _ _ _ (Act.put _ (some 57) _) _
            simp only [Act.put, List.setIfInBounds_toArray, List.set_cons_zero, List.set_cons_succ]
            refine wpAnyH_ready (rs := [15]) (by kernel_rfl) (by simp) ?_
            refine AllReadyH.cons rfl (fun K hK => ?_) AllReadyH.nil
            · go_simp
              refine hK.out _ _ ?_ (fun hHeld => ?_)
              · ((try dsimp only); (first | assumption | go_keep))
              clear hK K
              (try simp only [Act.put, List.setIfInBounds_toArray, List.set_cons_zero, List.set_cons_succ])
              refine wpAnyH_take (i := 16) (v := ?_) rfl (by kernel_rfl) (by kernel_rfl) (by kernel_rfl) (fun _ _ _ h => h) (Or.inl ⟨by rfl, ?_⟩) (by assumption) ?_
              rotate_left
              · intro w hSw
                (try dsimp only at hSw)
                go_simp
                (try with_reducible rfl)
              change wpAnyH _ _ _ _ _ _ _ (Act.put _ (some 11) _) _
              simp only [Act.put, List.setIfInBounds_toArray, List.set_cons_zero, List.set_cons_succ]
              refine wpAnyH_done (by kernel_rfl) ?_ _
              go_wp2
              go_ret2
              exact ⟨_, _, _, ret_vn2 (by rw [HST.out]), fun e => absurd ((congrArg Prod.snd HST.out).symm.trans e) (by decide), BB6.out.setCell (p := ⟨gs, q * 2 + 1, none⟩) HGL.out.1 _⟩
      · go_simp
        (go_at_call 30; (with_reducible refine (KB.out _).mono ?_); rintro _ w5 ⟨b5, rfl, hc5, hb5⟩; obtain ⟨e0, e1, e2⟩ := SB.out _ (bnext hdw hb5); have hS5 := (And.intro e1 e2))
        (try go_wp2_with fail)
        refine hK.out _ _ ?_ (fun hHeld => ?_)
        · ((try dsimp only); (first | assumption | go_keep))
        clear hK K
        (try simp only [Act.put, List.setIfInBounds_toArray, List.set_cons_zero, List.set_cons_succ])
        refine wpAnyH_ready (rs := [4]) (by kernel_rfl) (by simp) ?_
        refine AllReadyH.cons rfl (fun K hK => ?_) AllReadyH.nil
        · go_simp
          refine hK.out _ _ ?_ (fun hHeld => ?_)
          · ((try dsimp only); (first | assumption | go_keep))
          clear hK K
          (try simp only [Act.put, List.setIfInBounds_toArray, List.set_cons_zero, List.set_cons_succ])
          refine wpAnyH_ready (rs := [9]) (by kernel_rfl) (by simp) ?_
          refine AllReadyH.cons rfl (fun K hK => ?_) AllReadyH.nil
          · go_simp
            (go_at_call 29; (with_reducible refine (AD.out b5 _ (bnext HBX.out (bnext hdw hb5)) hc5).mono ?_); rintro _ w6 ⟨rfl, hb6⟩; have hbx6 := bnext hdw (bnext hb5 hb6); have fz6 := HFZ.out _ hbx6; obtain ⟨x0, x1, x2⟩ := SB.out _ hbx6; have hS6 := (And.intro x1 x2); have BB6 := Lib.hid ((bnext HBX.out hbx6).mono hB))
            (try go_wp2_with fail)
            refine hK.out _ _ ?_ (fun hHeld => ?_)
            · ((try dsimp only); (first | assumption | go_keep))
            clear hK K
            (try simp only [Act.put, List.setIfInBounds_toArray, List.set_cons_zero, List.set_cons_succ])
            refine wpAnyH_take (i := 10) (v := ?_) rfl (by kernel_rfl) (by kernel_rfl) (by kernel_rfl) (fun _ _ _ h => h) (Or.inl ⟨by rfl, ?_⟩) (by assumption) ?_
            rotate_left
            · intro w hSw
              (try dsimp only at hSw)
              go_simp
              (try with_reducible rfl)
            change wpAnyH _ _ _ _ _ _ _ (Act.put _ (some 43) _) _
            simp only [Act.put, List.setIfInBounds_toArray, List.set_cons_zero, List.set_cons_succ]
            refine wpAnyH_take (i := 11) (v := ?_) rfl (by kernel_rfl) (by kernel_rfl) (by kernel_rfl) (fun _ _ _ h => h) (Or.inl ⟨by rfl, ?_⟩) (by assumption) ?_
            rotate_left
            · intro w hSw
              (try dsimp only at hSw)
              go_simp
              (try with_reducible rfl)
            change wpAnyH _ _ _ _ _ _ _ (Act.put _ (some 54) _) _
            simp only [Act.put, List.setIfInBounds_toArray, List.set_cons_zero, List.set_cons_succ]
            refine wpAnyH_take (i := 12) (v := ?_) rfl (by kernel_rfl) (by kernel_rfl) (by kernel_rfl) (fun _ _ _ h => h) (Or.inl ⟨by rfl, ?_⟩) (by assumption) ?_
            rotate_left
            · intro w hSw
              (try dsimp only at hSw)
              go_simp
              (try with_reducible rfl)
            change wpAnyH _ _ _ _ _ _ _ (Act.put _ (some 55) _) _
            simp only [Act.put, List.setIfInBounds_toArray, List.set_cons_zero, List.set_cons_succ]
            refine wpAnyH_take (i := 13) (v := ?_) rfl (by kernel_rfl) (by kernel_rfl) (by kernel_rfl) (fun _ _ _ h => h) (Or.inl ⟨by rfl, ?_⟩) (by assumption) ?_
            rotate_left
            · intro w hSw
              (try dsimp only at hSw)
              go_simp
              (try with_reducible rfl)
            change wpAnyH _ _ _ _ _ _ _ (Act.put _ (some 56) _) _
            simp only [Act.put, List.setIfInBounds_toArray, List.set_cons_zero, List.set_cons_succ]
            refine wpAnyH_take (i := 14) (v := ?_) rfl (by kernel_rfl) (by kernel_rfl) (by kernel_rfl) (fun _ _ _ h => h) (Or.inl ⟨by rfl, ?_⟩) (by assumption) ?_
            rotate_left
            · intro w hSw
              (try dsimp only at hSw)
              go_simp
              (try with_reducible rfl)
            change wpAnyH _ _ _ _ _ _ _ (Act.put _ (some 57) _) _
            simp only [Act.put, List.setIfInBounds_toArray, List.set_cons_zero, List.set_cons_succ]
            refine wpAnyH_ready (rs := [15]) (by kernel_rfl) (by simp) ?_
            refine AllReadyH.cons rfl (fun K hK => ?_) AllReadyH.nil
            · go_simp
              refine hK.out _ _ ?_ (fun hHeld => ?_)
              · ((try dsimp only); (first | assumption | go_keep))
              clear hK K
              (try simp only [Act.put, List.setIfInBounds_toArray, List.set_cons_zero, List.set_cons_succ])
              refine wpAnyH_take (i := 16) (v := ?_) rfl (by kernel_rfl) (by kernel_rfl) (by kernel_rfl) (fun _ _ _ h => h) (Or.inl ⟨by rfl, ?_⟩) (by assumption) ?_
              rotate_left
              · intro w hSw
                (try dsimp only at hSw)
                go_simp
                (try with_reducible rfl)
              change wpAnyH _ _ _ _ _ _ _ (Act.put _ (some 11) _) _
              simp only [Act.put, List.setIfInBounds_toArray, List.set_cons_zero, List.set_cons_succ]
              refine wpAnyH_done (by kernel_rfl) ?_ _
              go_wp2
              go_ret2
              exact ⟨_, _, _, ret_vn2 (by rw [HST.out]), fun e => absurd ((congrArg Prod.snd HST.out).symm.trans e) (by decide), BB6.out.setCell (p := ⟨gs, q * 2 + 1, none⟩) HGL.out.1 _⟩
  | false =>
    rw [if_neg (by decide)] at HST
    by_cases h16 : 16 ≤ nk
    · rw [if_pos (by omega)] at HST
      have AD := Lib.hid (fun (b : Nat) (W : World) (h1 : Below w.heap.size w W) (h2 : W.cell? ⟨b, 0, none⟩ = some (.string KS)) => addedK_full Au nk cu h16 KS VS (.func (.func 51) #[] #[.pointer (some ⟨b, 0, none⟩)]) ⟨b, rfl⟩ W (fun W2 h3 => CF.out b W2 (bnext h1 h3) (cellb h3 h2)))
      clear CF ROW
      go_enter Tryd.func13, Tryd.ntmps13
      go_wp2_with (first
        | (go_at_call 25; refine SE2.out.mono ?_; rintro _ w1 ⟨M, rfl, rfl⟩)
        | (go_at_call 28; refine PC.out.mono ?_; rintro _ w2 ⟨rfl, hb2⟩))
      obtain ⟨p0, p1, -, -⟩ := two_new w2 (.string KS) (.string VS) 34
      have hbX := bnext hb2 (alloc_below w2 (.cells #[.string KS, .string VS] 34))
      have lt0 : w.heap.size < (w2.alloc (.cells #[.string KS, .string VS] 34)).heap.size := Nat.lt_of_le_of_lt hb2.size (by simp)
      obtain ⟨X, hX⟩ : ∃ X, w2.alloc (.cells #[.string KS, .string VS] 34) = X := ⟨_, rfl⟩
      rw [hX] at p0 p1 hbX ⊢
      have d0 := cellb hbX c1
      have fd0 := (hbX.frozen (p := ⟨gs, q * 2 + 1, none⟩) (by have := HGL.out.2; simp only; omega)).trans f1
      have HBX := Lib.hid hbX
      have HFZ := Lib.hid (show ∀ W, Below X.heap.size X W → W.frozen? ⟨gs, q * 2 + 1, none⟩ = false from fun W h => (h.frozen (p := ⟨gs, q * 2 + 1, none⟩) (by have := HGL.out.2; have := HBX.out.size; simp only; omega)).trans fd0)
      have hdw : Below X.heap.size X X.drew := (Below.refl _ _).drew
      have hpb : w2.heap.size < X.heap.size := by rw [← hX]; simp
      have HPB := Lib.hid hpb
      have SB := Lib.hid (show ∀ W, Below X.heap.size X W → W.cell? ⟨gs, q * 2 + 1, none⟩ = some (.slice Au nk cu) ∧ W.cell? ⟨w2.heap.size, 0, none⟩ = some (.string KS) ∧ W.cell? ⟨w2.heap.size, 1, none⟩ = some (.string VS) from fun W h => ⟨cellb h d0, cellb h p0, cellb h p1⟩)
      have HW2 := Lib.hid hb2.size
      clear hb2 hbX hX c0 c1 f1 lt0 hpb
      have hne1 : ¬ gs = w2.heap.size := by have := HGL.out.2; have := HW2.out; omega
      have hne2 : ¬ w2.heap.size = gs := fun e => hne1 e.symm
      refine wp_region_held_drew (S := fun y => y.cell? ⟨w2.heap.size, 0, none⟩ = some (.string KS) ∧ y.cell? ⟨w2.heap.size, 1, none⟩ = some (.string VS)) (by kernel_rfl) ?hs (fun hHeld => ?hr)
      case hs => ((try dsimp only); (first | assumption | go_keep))
      case hr =>
        refine wpAnyH_take (i := 0) (v := ?_) rfl (by kernel_rfl) (by kernel_rfl) (by kernel_rfl) (fun _ _ _ h => h) (Or.inl ⟨by rfl, ?_⟩) (by assumption) ?_
        rotate_left
        · intro w hSw
          (try dsimp only at hSw)
          go_simp
          (try with_reducible rfl)
        change wpAnyH _ _ _ _ _ _ _ (Act.put _ (some 44) _) _
        simp only [Act.put, List.setIfInBounds_toArray, List.set_cons_zero, List.set_cons_succ]
        refine wpAnyH_take (i := 1) (v := ?_) rfl (by kernel_rfl) (by kernel_rfl) (by kernel_rfl) (fun _ _ _ h => h) (Or.inl ⟨by rfl, ?_⟩) (by assumption) ?_
        rotate_left
        · intro w hSw
          (try dsimp only at hSw)
          go_simp
          (try with_reducible rfl)
        change wpAnyH _ _ _ _ _ _ _ (Act.put _ (some 45) _) _
        simp only [Act.put, List.setIfInBounds_toArray, List.set_cons_zero, List.set_cons_succ]
        refine wpAnyH_take (i := 2) (v := ?_) rfl (by kernel_rfl) (by kernel_rfl) (by kernel_rfl) (fun _ _ _ h => h) (Or.inl ⟨by rfl, ?_⟩) (by assumption) ?_
        rotate_left
        · intro w hSw
          (try dsimp only at hSw)
          go_simp
          (try with_reducible rfl)
        change wpAnyH _ _ _ _ _ _ _ (Act.put _ (some 46) _) _
        simp only [Act.put, List.setIfInBounds_toArray, List.set_cons_zero, List.set_cons_succ]
        refine wpAnyH_take (i := 3) (v := ?_) rfl (by kernel_rfl) (by kernel_rfl) (by kernel_rfl) (fun _ _ _ h => h) (Or.inl ⟨by rfl, ?_⟩) (by assumption) ?_
        rotate_left
        · intro w hSw
          (try dsimp only at hSw)
          go_simp
          (try with_reducible rfl)
        change wpAnyH _ _ _ _ _ _ _ (Act.put _ (some 47) _) _
        simp only [Act.put, List.setIfInBounds_toArray, List.set_cons_zero, List.set_cons_succ]
        refine wpAnyH_take (i := 5) (v := ?_) rfl (by kernel_rfl) (by kernel_rfl) (by kernel_rfl) (fun _ _ _ h => h) (Or.inl ⟨by rfl, ?_⟩) (by assumption) ?_
        rotate_left
        · intro w hSw
          (try dsimp only at hSw)
          go_simp
          (try with_reducible rfl)
        change wpAnyH _ _ _ _ _ _ _ (Act.put _ (some 49) _) _
        simp only [Act.put, List.setIfInBounds_toArray, List.set_cons_zero, List.set_cons_succ]
        refine wpAnyH_take (i := 6) (v := ?_) rfl (by kernel_rfl) (by kernel_rfl) (by kernel_rfl) (fun _ _ _ h => h) (Or.inl ⟨by rfl, ?_⟩) (by assumption) ?_
        rotate_left
        · intro w hSw
          (try dsimp only at hSw)
          go_simp
          (try with_reducible rfl)
        change wpAnyH _ _ _ _ _ _ _ (Act.put _ (some 50) _) _
        simp only [Act.put, List.setIfInBounds_toArray, List.set_cons_zero, List.set_cons_succ]
        refine wpAnyH_take (i := 7) (v := ?_) rfl (by kernel_rfl) (by kernel_rfl) (by kernel_rfl) (fun _ _ _ h => h) (Or.inl ⟨by rfl, ?_⟩) (by assumption) ?_
        rotate_left
        · intro w hSw
          (try dsimp only at hSw)
          go_simp
          (try with_reducible rfl)
        change wpAnyH _ _ _ _ _ _ _ (Act.put _ (some 51) _) _
        simp only [Act.put, List.setIfInBounds_toArray, List.set_cons_zero, List.set_cons_succ]
        refine wpAnyH_ready (rs := [4, 8]) (by kernel_rfl) (by simp) ?_
        refine AllReadyH.cons rfl (fun K hK => ?_) (AllReadyH.cons rfl (fun K hK => ?_) AllReadyH.nil)
        · go_simp
          refine hK.out _ _ ?_ (fun hHeld => ?_)
          · ((try dsimp only); (first | assumption | go_keep))
          clear hK K
          (try simp only [Act.put, List.setIfInBounds_toArray, List.set_cons_zero, List.set_cons_succ])
          refine wpAnyH_ready (rs := [8]) (by kernel_rfl) (by simp) ?_
          refine AllReadyH.cons rfl (fun K hK => ?_) AllReadyH.nil
          · go_simp
            (go_at_call 30; (with_reducible refine (KB.out _).mono ?_); rintro _ w5 ⟨b5, rfl, hc5, hb5⟩; obtain ⟨e0, e1, e2⟩ := SB.out _ (bnext hdw hb5); have hS5 := (And.intro e1 e2))
            (try go_wp2_with fail)
            refine hK.out _ _ ?_ (fun hHeld => ?_)
            · ((try dsimp only); (first | assumption | go_keep))
            clear hK K
            (try simp only [Act.put, List.setIfInBounds_toArray, List.set_cons_zero, List.set_cons_succ])
            refine wpAnyH_ready (rs := [9]) (by kernel_rfl) (by simp) ?_
            refine AllReadyH.cons rfl (fun K hK => ?_) AllReadyH.nil
            · go_simp
              (go_at_call 29; (with_reducible refine (AD.out b5 _ (bnext HBX.out (bnext hdw hb5)) hc5).mono ?_); rintro _ w6 ⟨rfl, hb6⟩; have hbx6 := bnext hdw (bnext hb5 hb6); have fz6 := HFZ.out _ hbx6; obtain ⟨x0, x1, x2⟩ := SB.out _ hbx6; have hS6 := (And.intro x1 x2); have BB6 := Lib.hid ((bnext HBX.out hbx6).mono hB))
              (try go_wp2_with fail)
              refine hK.out _ _ ?_ (fun hHeld => ?_)
              · ((try dsimp only); (first | assumption | go_keep))
              clear hK K
              (try simp only [Act.put, List.setIfInBounds_toArray, List.set_cons_zero, List.set_cons_succ])
              refine wpAnyH_take (i := 10) (v := ?_) rfl (by kernel_rfl) (by kernel_rfl) (by kernel_rfl) (fun _ _ _ h => h) (Or.inl ⟨by rfl, ?_⟩) (by assumption) ?_
              rotate_left
              · intro w hSw
                (try dsimp only at hSw)
                go_simp
                (try with_reducible rfl)
              change wpAnyH _ _ _ _ _ _ _ (Act.put _ (some 43) _) _
              simp only [Act.put, List.setIfInBounds_toArray, List.set_cons_zero, List.set_cons_succ]
              refine wpAnyH_take (i := 11) (v := ?_) rfl (by kernel_rfl) (by kernel_rfl) (by kernel_rfl) (fun _ _ _ h => h) (Or.inl ⟨by rfl, ?_⟩) (by assumption) ?_
              rotate_left
              · intro w hSw
                (try dsimp only at hSw)
                go_simp
                (try with_reducible rfl)
              change wpAnyH _ _ _ _ _ _ _ (Act.put _ (some 54) _) _
              simp only [Act.put, List.setIfInBounds_toArray, List.set_cons_zero, List.set_cons_succ]
              refine wpAnyH_take (i := 12) (v := ?_) rfl (by kernel_rfl) (by kernel_rfl) (by kernel_rfl) (fun _ _ _ h => h) (Or.inl ⟨by rfl, ?_⟩) (by assumption) ?_
              rotate_left
              · intro w hSw
                (try dsimp only at hSw)
                go_simp
                (try with_reducible rfl)
              change wpAnyH _ _ _ _ _ _ _ (Act.put _ (some 55) _) _
              simp only [Act.put, List.setIfInBounds_toArray, List.set_cons_zero, List.set_cons_succ]
              refine wpAnyH_take (i := 13) (v := ?_) rfl (by kernel_rfl) (by kernel_rfl) (by kernel_rfl) (fun _ _ _ h => h) (Or.inl ⟨by rfl, ?_⟩) (by assumption) ?_
              rotate_left
              · intro w hSw
                (try dsimp only at hSw)
                go_simp
                (try with_reducible rfl)
              change wpAnyH _ _ _ _ _ _ _ (Act.put _ (some 56) _) _
              simp only [Act.put, List.setIfInBounds_toArray, List.set_cons_zero, List.set_cons_succ]
              refine wpAnyH_take (i := 14) (v := ?_) rfl (by kernel_rfl) (by kernel_rfl) (by kernel_rfl) (fun _ _ _ h => h) (Or.inl ⟨by rfl, ?_⟩) (by assumption) ?_
              rotate_left
              · intro w hSw
                (try dsimp only at hSw)
                go_simp
                (try with_reducible rfl)
              change wpAnyH _ _ _ _ _ _ _ (Act.put _ (some 57) _) _
              simp only [Act.put, List.setIfInBounds_toArray, List.set_cons_zero, List.set_cons_succ]
              refine wpAnyH_ready (rs := [15]) (by kernel_rfl) (by simp) ?_
              refine AllReadyH.cons rfl (fun K hK => ?_) AllReadyH.nil
              · go_simp
                refine hK.out _ _ ?_ (fun hHeld => ?_)
                · ((try dsimp only); (first | assumption | go_keep))
                clear hK K
                (try simp only [Act.put, List.setIfInBounds_toArray, List.set_cons_zero, List.set_cons_succ])
                refine wpAnyH_take (i := 16) (v := ?_) rfl (by kernel_rfl) (by kernel_rfl) (by kernel_rfl) (fun _ _ _ h => h) (Or.inl ⟨by rfl, ?_⟩) (by assumption) ?_
                rotate_left
                · intro w hSw
                  (try dsimp only at hSw)
                  go_simp
                  (try with_reducible rfl)
                change wpAnyH _ _ _ _ _ _ _ (Act.put _ (some 11) _) _
                simp only [Act.put, List.setIfInBounds_toArray, List.set_cons_zero, List.set_cons_succ]
                refine wpAnyH_done (by kernel_rfl) ?_ _
                go_wp2
                go_ret2
                exact ⟨_, _, _, ret_vn2 (by rw [HST.out]), fun e => absurd ((congrArg Prod.snd HST.out).symm.trans e) (by decide), BB6.out.setCell (p := ⟨gs, q * 2 + 1, none⟩) HGL.out.1 _⟩
        · go_simp
          (go_at_call 30; (with_reducible refine (KB.out _).mono ?_); rintro _ w5 ⟨b5, rfl, hc5, hb5⟩; obtain ⟨e0, e1, e2⟩ := SB.out _ (bnext hdw hb5); have hS5 := (And.intro e1 e2))
          (try go_wp2_with fail)
          refine hK.out _ _ ?_ (fun hHeld => ?_)
          · ((try dsimp only); (first | assumption | go_keep))
          clear hK K
          (try simp only [Act.put, List.setIfInBounds_toArray, List.set_cons_zero, List.set_cons_succ])
          refine wpAnyH_ready (rs := [4]) (by kernel_rfl) (by simp) ?_
          refine AllReadyH.cons rfl (fun K hK => ?_) AllReadyH.nil
          · go_simp
            refine hK.out _ _ ?_ (fun hHeld => ?_)
            · ((try dsimp only); (first | assumption | go_keep))
            clear hK K
            (try simp only [Act.put, List.setIfInBounds_toArray, List.set_cons_zero, List.set_cons_succ])
            refine wpAnyH_ready (rs := [9]) (by kernel_rfl) (by simp) ?_
            refine AllReadyH.cons rfl (fun K hK => ?_) AllReadyH.nil
            · go_simp
              (go_at_call 29; (with_reducible refine (AD.out b5 _ (bnext HBX.out (bnext hdw hb5)) hc5).mono ?_); rintro _ w6 ⟨rfl, hb6⟩; have hbx6 := bnext hdw (bnext hb5 hb6); have fz6 := HFZ.out _ hbx6; obtain ⟨x0, x1, x2⟩ := SB.out _ hbx6; have hS6 := (And.intro x1 x2); have BB6 := Lib.hid ((bnext HBX.out hbx6).mono hB))
              (try go_wp2_with fail)
              refine hK.out _ _ ?_ (fun hHeld => ?_)
              · ((try dsimp only); (first | assumption | go_keep))
              clear hK K
              (try simp only [Act.put, List.setIfInBounds_toArray, List.set_cons_zero, List.set_cons_succ])
              refine wpAnyH_take (i := 10) (v := ?_) rfl (by kernel_rfl) (by kernel_rfl) (by kernel_rfl) (fun _ _ _ h => h) (Or.inl ⟨by rfl, ?_⟩) (by assumption) ?_
              rotate_left
              · intro w hSw
                (try dsimp only at hSw)
                go_simp
                (try with_reducible rfl)
              change wpAnyH _ _ _ _ _ _ _ (Act.put _ (some 43) _) _
              simp only [Act.put, List.setIfInBounds_toArray, List.set_cons_zero, List.set_cons_succ]
              refine wpAnyH_take (i := 11) (v := ?_) rfl (by kernel_rfl) (by kernel_rfl) (by kernel_rfl) (fun _ _ _ h => h) (Or.inl ⟨by rfl, ?_⟩) (by assumption) ?_
              rotate_left
              · intro w hSw
                (try dsimp only at hSw)
                go_simp
                (try with_reducible rfl)
              change wpAnyH _ _ _ _ _ _ _ (Act.put _ (some 54) _) _
              simp only [Act.put, List.setIfInBounds_toArray, List.set_cons_zero, List.set_cons_succ]
              refine wpAnyH_take (i := 12) (v := ?_) rfl (by kernel_rfl) (by kernel_rfl) (by kernel_rfl) (fun _ _ _ h => h) (Or.inl ⟨by rfl, ?_⟩) (by assumption) ?_
              rotate_left
              · intro w hSw
                (try dsimp only at hSw)
                go_simp
                (try with_reducible rfl)
              change wpAnyH _ _ _ _ _ _ _ (Act.put _ (some 55) _) _
              simp only [Act.put, List.setIfInBounds_toArray, List.set_cons_zero, List.set_cons_succ]
              refine wpAnyH_take (i := 13) (v := ?_) rfl (by kernel_rfl) (by kernel_rfl) (by kernel_rfl) (fun _ _ _ h => h) (Or.inl ⟨by rfl, ?_⟩) (by assumption) ?_
              rotate_left
              · intro w hSw
                (try dsimp only at hSw)
                go_simp
                (try with_reducible rfl)
              change wpAnyH _ _ _ _ _ _ _ (Act.put _ (some 56) _) _
              simp only [Act.put, List.setIfInBounds_toArray, List.set_cons_zero, List.set_cons_succ]
              refine wpAnyH_take (i := 14) (v := ?_) rfl (by kernel_rfl) (by kernel_rfl) (by kernel_rfl) (fun _ _ _ h => h) (Or.inl ⟨by rfl, ?_⟩) (by assumption) ?_
              rotate_left
              · intro w hSw
                (try dsimp only at hSw)
                go_simp
                (try with_reducible rfl)
              change wpAnyH _ _ _ _ _ _ _ (Act.put _ (some 57) _) _
              simp only [Act.put, List.setIfInBounds_toArray, List.set_cons_zero, List.set_cons_succ]
              refine wpAnyH_ready (rs := [15]) (by kernel_rfl) (by simp) ?_
              refine AllReadyH.cons rfl (fun K hK => ?_) AllReadyH.nil
              · go_simp
                refine hK.out _ _ ?_ (fun hHeld => ?_)
                · ((try dsimp only); (first | assumption | go_keep))
                clear hK K
                (try simp only [Act.put, List.setIfInBounds_toArray, List.set_cons_zero, List.set_cons_succ])
                refine wpAnyH_take (i := 16) (v := ?_) rfl (by kernel_rfl) (by kernel_rfl) (by kernel_rfl) (fun _ _ _ h => h) (Or.inl ⟨by rfl, ?_⟩) (by assumption) ?_
                rotate_left
                · intro w hSw
                  (try dsimp only at hSw)
                  go_simp
                  (try with_reducible rfl)
                change wpAnyH _ _ _ _ _ _ _ (Act.put _ (some 11) _) _
                simp only [Act.put, List.setIfInBounds_toArray, List.set_cons_zero, List.set_cons_succ]
                refine wpAnyH_done (by kernel_rfl) ?_ _
                go_wp2
                go_ret2
                exact ⟨_, _, _, ret_vn2 (by rw [HST.out]), fun e => absurd ((congrArg Prod.snd HST.out).symm.trans e) (by decide), BB6.out.setCell (p := ⟨gs, q * 2 + 1, none⟩) HGL.out.1 _⟩
    · rw [if_neg (by omega)] at HST
      have AD := Lib.hid (fun (b : Nat) (W : World) (h1 : Below w.heap.size w W) (h2 : W.cell? ⟨b, 0, none⟩ = some (.string KS)) => addedK_room B Au nk cu (kvC kl) h16 KS VS (.func (.func 51) #[] #[.pointer (some ⟨b, 0, none⟩)]) ⟨b, rfl⟩ W (Nat.le_trans hB h1.size) (ROW.out W h1) (fun W2 h3 => CF.out b W2 (bnext h1 h3) (cellb h3 h2)))
      have FIN := Lib.hid (show ∀ (wa w6 : World) (g cap : Nat), Below w.heap.size w wa → wa.grownBy w6 (Value.ownBlock (.slice Au nk cu)) → w6.ownsRow B 34 2 (.slice (some ⟨g, 0, none⟩) (nk + 1) cap) (nk + 1) (kvC kl ++ [.string KS, .string VS]) → (Value.ownBlock (.slice Au nk cu) = some g ∨ wa.heap.size ≤ g) →
          w6.cell? ⟨gs, q * 2 + 1, none⟩ = some (.slice Au nk cu) ∧ w6.frozen? ⟨gs, q * 2 + 1, none⟩ = false ∧ (∀ j, Value.ownBlock (.slice Au nk cu) = some j → j < w.heap.size) ∧
          Grew B w ((ui ++ [((.slice Au nk cu : Value), ((nm, kl) : Sec))]).map Prod.snd) (bs s) (.returned (.tuple #[.slice (some ⟨gs, 0, none⟩) nu c, .int .i64 0])) (w6.setCell ⟨gs, q * 2 + 1, none⟩ (.slice (some ⟨g, 0, none⟩) (nk + 1) cap)) from fun wa w6 g cap h1 hg ho hat => by
        have hM := @ScUs.more B wa w6 gs nu c ui (.slice Au nk cu) (nm, kl) (K, V) g cap (HU0.out.below h1) (by simp only [kvC1, HNK.out, HKS.out, HVS.out]; exact ho) hg hat
        rw [HQ.out] at hM
        obtain ⟨a1, a2, a3⟩ := hM
        simp only [HNK.out] at a3
        have hw := ROW.out w (Below.refl _ _)
        refine ⟨a1, a2, fun j ej => (own_lt hw ej).2, ?_⟩
        refine ⟨_, _, _, ret_vn2 (by rw [HST.out]), fun _ => ⟨_, by rw [HST.out, List.map_append]; rfl, a3⟩, ?_⟩
        exact ((h1.mono hB).grown hg (Nat.le_trans hB h1.size) (fun j ej => (own_lt hw ej).1)).setCell (p := ⟨gs, q * 2 + 1, none⟩) HGL.out.1 _)
      have RLT := Lib.hid (show ∀ j, Value.ownBlock (.slice Au nk cu) = some j → j < w.heap.size from fun j ej => (own_lt (ROW.out w (Below.refl _ _)) ej).2)
      clear h16
      clear CF ROW
      go_enter Tryd.func13, Tryd.ntmps13
      go_wp2_with (first
        | (go_at_call 25; refine SE2.out.mono ?_; rintro _ w1 ⟨M, rfl, rfl⟩)
        | (go_at_call 28; refine PC.out.mono ?_; rintro _ w2 ⟨rfl, hb2⟩))
      obtain ⟨p0, p1, -, -⟩ := two_new w2 (.string KS) (.string VS) 34
      have hbX := bnext hb2 (alloc_below w2 (.cells #[.string KS, .string VS] 34))
      have lt0 : w.heap.size < (w2.alloc (.cells #[.string KS, .string VS] 34)).heap.size := Nat.lt_of_le_of_lt hb2.size (by simp)
      obtain ⟨X, hX⟩ : ∃ X, w2.alloc (.cells #[.string KS, .string VS] 34) = X := ⟨_, rfl⟩
      rw [hX] at p0 p1 hbX ⊢
      have d0 := cellb hbX c1
      have fd0 := (hbX.frozen (p := ⟨gs, q * 2 + 1, none⟩) (by have := HGL.out.2; simp only; omega)).trans f1
      have HBX := Lib.hid hbX
      have HFZ := Lib.hid (show ∀ W, Below X.heap.size X W → W.frozen? ⟨gs, q * 2 + 1, none⟩ = false from fun W h => (h.frozen (p := ⟨gs, q * 2 + 1, none⟩) (by have := HGL.out.2; have := HBX.out.size; simp only; omega)).trans fd0)
      have hdw : Below X.heap.size X X.drew := (Below.refl _ _).drew
      have hpb : w2.heap.size < X.heap.size := by rw [← hX]; simp
      have HPB := Lib.hid hpb
      have SB := Lib.hid (show ∀ W, Below X.heap.size X W → W.cell? ⟨gs, q * 2 + 1, none⟩ = some (.slice Au nk cu) ∧ W.cell? ⟨w2.heap.size, 0, none⟩ = some (.string KS) ∧ W.cell? ⟨w2.heap.size, 1, none⟩ = some (.string VS) from fun W h => ⟨cellb h d0, cellb h p0, cellb h p1⟩)
      have HW2 := Lib.hid hb2.size
      have SFAR := Lib.hid (show ∀ (wa w6 : World), Below X.heap.size X wa → wa.grownBy w6 (Value.ownBlock (.slice Au nk cu)) → w6.cell? ⟨w2.heap.size, 0, none⟩ = some (.string KS) ∧ w6.cell? ⟨w2.heap.size, 1, none⟩ = some (.string VS) from fun wa w6 h hg => by
        have hw2 := HW2.out
        have hne : some w2.heap.size ≠ Value.ownBlock (.slice Au nk cu) := fun e => by have := RLT.out _ e.symm; omega
        have hl : w2.heap.size < wa.heap.size := Nat.lt_of_lt_of_le HPB.out h.size
        exact ⟨(World.cell?_of_block (hg.block _ hl hne)).trans (cellb h p0), (World.cell?_of_block (hg.block _ hl hne)).trans (cellb h p1)⟩)
      clear hb2 hbX hX c0 c1 f1 lt0 hpb
      have hne1 : ¬ gs = w2.heap.size := by have := HGL.out.2; have := HW2.out; omega
      have hne2 : ¬ w2.heap.size = gs := fun e => hne1 e.symm
      refine wp_region_held_drew (S := fun y => y.cell? ⟨w2.heap.size, 0, none⟩ = some (.string KS) ∧ y.cell? ⟨w2.heap.size, 1, none⟩ = some (.string VS)) (by kernel_rfl) ?hs (fun hHeld => ?hr)
      case hs => ((try dsimp only); (first | assumption | go_keep))
      case hr =>
        refine wpAnyH_take (i := 0) (v := ?_) rfl (by kernel_rfl) (by kernel_rfl) (by kernel_rfl) (fun _ _ _ h => h) (Or.inl ⟨by rfl, ?_⟩) (by assumption) ?_
        rotate_left
        · intro w hSw
          (try dsimp only at hSw)
          go_simp
          (try with_reducible rfl)
        change wpAnyH _ _ _ _ _ _ _ (Act.put _ (some 44) _) _
        simp only [Act.put, List.setIfInBounds_toArray, List.set_cons_zero, List.set_cons_succ]
        refine wpAnyH_take (i := 1) (v := ?_) rfl (by kernel_rfl) (by kernel_rfl) (by kernel_rfl) (fun _ _ _ h => h) (Or.inl ⟨by rfl, ?_⟩) (by assumption) ?_
        rotate_left
        · intro w hSw
          (try dsimp only at hSw)
          go_simp
          (try with_reducible rfl)
        change wpAnyH _ _ _ _ _ _ _ (Act.put _ (some 45) _) _
        simp only [Act.put, List.setIfInBounds_toArray, List.set_cons_zero, List.set_cons_succ]
        refine wpAnyH_take (i := 2) (v := ?_) rfl (by kernel_rfl) (by kernel_rfl) (by kernel_rfl) (fun _ _ _ h => h) (Or.inl ⟨by rfl, ?_⟩) (by assumption) ?_
        rotate_left
        · intro w hSw
          (try dsimp only at hSw)
          go_simp
          (try with_reducible rfl)
        change wpAnyH _ _ _ _ _ _ _ (Act.put _ (some 46) _) _
        simp only [Act.put, List.setIfInBounds_toArray, List.set_cons_zero, List.set_cons_succ]
        refine wpAnyH_take (i := 3) (v := ?_) rfl (by kernel_rfl) (by kernel_rfl) (by kernel_rfl) (fun _ _ _ h => h) (Or.inl ⟨by rfl, ?_⟩) (by assumption) ?_
        rotate_left
        · intro w hSw
          (try dsimp only at hSw)
          go_simp
          (try with_reducible rfl)
        change wpAnyH _ _ _ _ _ _ _ (Act.put _ (some 47) _) _
        simp only [Act.put, List.setIfInBounds_toArray, List.set_cons_zero, List.set_cons_succ]
        refine wpAnyH_take (i := 5) (v := ?_) rfl (by kernel_rfl) (by kernel_rfl) (by kernel_rfl) (fun _ _ _ h => h) (Or.inl ⟨by rfl, ?_⟩) (by assumption) ?_
        rotate_left
        · intro w hSw
          (try dsimp only at hSw)
          go_simp
          (try with_reducible rfl)
        change wpAnyH _ _ _ _ _ _ _ (Act.put _ (some 49) _) _
        simp only [Act.put, List.setIfInBounds_toArray, List.set_cons_zero, List.set_cons_succ]
        refine wpAnyH_take (i := 6) (v := ?_) rfl (by kernel_rfl) (by kernel_rfl) (by kernel_rfl) (fun _ _ _ h => h) (Or.inl ⟨by rfl, ?_⟩) (by assumption) ?_
        rotate_left
        · intro w hSw
          (try dsimp only at hSw)
          go_simp
          (try with_reducible rfl)
        change wpAnyH _ _ _ _ _ _ _ (Act.put _ (some 50) _) _
        simp only [Act.put, List.setIfInBounds_toArray, List.set_cons_zero, List.set_cons_succ]
        refine wpAnyH_take (i := 7) (v := ?_) rfl (by kernel_rfl) (by kernel_rfl) (by kernel_rfl) (fun _ _ _ h => h) (Or.inl ⟨by rfl, ?_⟩) (by assumption) ?_
        rotate_left
        · intro w hSw
          (try dsimp only at hSw)
          go_simp
          (try with_reducible rfl)
        change wpAnyH _ _ _ _ _ _ _ (Act.put _ (some 51) _) _
        simp only [Act.put, List.setIfInBounds_toArray, List.set_cons_zero, List.set_cons_succ]
        refine wpAnyH_ready (rs := [4, 8]) (by kernel_rfl) (by simp) ?_
        refine AllReadyH.cons rfl (fun K hK => ?_) (AllReadyH.cons rfl (fun K hK => ?_) AllReadyH.nil)
        · go_simp
          refine hK.out _ _ ?_ (fun hHeld => ?_)
          · ((try dsimp only); (first | assumption | go_keep))
          clear hK K
          (try simp only [Act.put, List.setIfInBounds_toArray, List.set_cons_zero, List.set_cons_succ])
          refine wpAnyH_ready (rs := [8]) (by kernel_rfl) (by simp) ?_
          refine AllReadyH.cons rfl (fun K hK => ?_) AllReadyH.nil
          · go_simp
            (go_at_call 30; (with_reducible refine (KB.out _).mono ?_); rintro _ w5 ⟨b5, rfl, hc5, hb5⟩; obtain ⟨e0, e1, e2⟩ := SB.out _ (bnext hdw hb5); have hS5 := (And.intro e1 e2))
            (try go_wp2_with fail)
            refine hK.out _ _ ?_ (fun hHeld => ?_)
            · ((try dsimp only); (first | assumption | go_keep))
            clear hK K
            (try simp only [Act.put, List.setIfInBounds_toArray, List.set_cons_zero, List.set_cons_succ])
            refine wpAnyH_ready (rs := [9]) (by kernel_rfl) (by simp) ?_
            refine AllReadyH.cons rfl (fun K hK => ?_) AllReadyH.nil
            · go_simp
              (go_at_call 29; (with_reducible refine (AD.out b5 _ (bnext HBX.out (bnext hdw hb5)) hc5).mono ?_); rintro _ w6 ⟨wa, g6, cap6, rfl, hb6, hg6, ho6, hat6⟩; obtain ⟨m1, m2, hk6, F6⟩ := FIN.out wa w6 g6 cap6 (bnext HBX.out (bnext hdw (bnext hb5 hb6))) hg6 ho6 hat6;  have hS6 := SFAR.out wa w6 (bnext hdw (bnext hb5 hb6)) hg6; have HF6 := Lib.hid F6; clear hg6 ho6 hat6 F6)
              (try go_wp2_with fail)
              refine hK.out _ _ ?_ (fun hHeld => ?_)
              · ((try dsimp only); (first | assumption | go_keep))
              clear hK K
              (try simp only [Act.put, List.setIfInBounds_toArray, List.set_cons_zero, List.set_cons_succ])
              refine wpAnyH_take (i := 10) (v := ?_) rfl (by kernel_rfl) (by kernel_rfl) (by kernel_rfl) (fun _ _ _ h => h) (Or.inl ⟨by rfl, ?_⟩) (by assumption) ?_
              rotate_left
              · intro w hSw
                (try dsimp only at hSw)
                go_simp
                (try with_reducible rfl)
              change wpAnyH _ _ _ _ _ _ _ (Act.put _ (some 43) _) _
              simp only [Act.put, List.setIfInBounds_toArray, List.set_cons_zero, List.set_cons_succ]
              refine wpAnyH_take (i := 11) (v := ?_) rfl (by kernel_rfl) (by kernel_rfl) (by kernel_rfl) (fun _ _ _ h => h) (Or.inl ⟨by rfl, ?_⟩) (by assumption) ?_
              rotate_left
              · intro w hSw
                (try dsimp only at hSw)
                go_simp
                (try with_reducible rfl)
              change wpAnyH _ _ _ _ _ _ _ (Act.put _ (some 54) _) _
              simp only [Act.put, List.setIfInBounds_toArray, List.set_cons_zero, List.set_cons_succ]
              refine wpAnyH_take (i := 12) (v := ?_) rfl (by kernel_rfl) (by kernel_rfl) (by kernel_rfl) (fun _ _ _ h => h) (Or.inl ⟨by rfl, ?_⟩) (by assumption) ?_
              rotate_left
              · intro w hSw
                (try dsimp only at hSw)
                go_simp
                (try with_reducible rfl)
              change wpAnyH _ _ _ _ _ _ _ (Act.put _ (some 55) _) _
              simp only [Act.put, List.setIfInBounds_toArray, List.set_cons_zero, List.set_cons_succ]
              refine wpAnyH_take (i := 13) (v := ?_) rfl (by kernel_rfl) (by kernel_rfl) (by kernel_rfl) (fun _ _ _ h => h) (Or.inl ⟨by rfl, ?_⟩) (by assumption) ?_
              rotate_left
              · intro w hSw
                (try dsimp only at hSw)
                go_simp
                (try with_reducible rfl)
              change wpAnyH _ _ _ _ _ _ _ (Act.put _ (some 56) _) _
              simp only [Act.put, List.setIfInBounds_toArray, List.set_cons_zero, List.set_cons_succ]
              refine wpAnyH_take (i := 14) (v := ?_) rfl (by kernel_rfl) (by kernel_rfl) (by kernel_rfl) (fun _ _ _ h => h) (Or.inl ⟨by rfl, ?_⟩) (by assumption) ?_
              rotate_left
              · intro w hSw
                (try dsimp only at hSw)
                go_simp
                (try with_reducible rfl)
              change wpAnyH _ _ _ _ _ _ _ (Act.put _ (some 57) _) _
              simp only [Act.put, List.setIfInBounds_toArray, List.set_cons_zero, List.set_cons_succ]
              refine wpAnyH_ready (rs := [15]) (by kernel_rfl) (by simp) ?_
              refine AllReadyH.cons rfl (fun K hK => ?_) AllReadyH.nil
              · go_simp
                refine hK.out _ _ ?_ (fun hHeld => ?_)
                · ((try dsimp only); (first | assumption | go_keep))
                clear hK K
                (try simp only [Act.put, List.setIfInBounds_toArray, List.set_cons_zero, List.set_cons_succ])
                refine wpAnyH_take (i := 16) (v := ?_) rfl (by kernel_rfl) (by kernel_rfl) (by kernel_rfl) (fun _ _ _ h => h) (Or.inl ⟨by rfl, ?_⟩) (by assumption) ?_
                rotate_left
                · intro w hSw
                  (try dsimp only at hSw)
                  go_simp
                  (try with_reducible rfl)
                change wpAnyH _ _ _ _ _ _ _ (Act.put _ (some 11) _) _
                simp only [Act.put, List.setIfInBounds_toArray, List.set_cons_zero, List.set_cons_succ]
                refine wpAnyH_done (by kernel_rfl) ?_ _
                go_wp2
                go_ret2
                exact HF6.out
        · go_simp
          (go_at_call 30; (with_reducible refine (KB.out _).mono ?_); rintro _ w5 ⟨b5, rfl, hc5, hb5⟩; obtain ⟨e0, e1, e2⟩ := SB.out _ (bnext hdw hb5); have hS5 := (And.intro e1 e2))
          (try go_wp2_with fail)
          refine hK.out _ _ ?_ (fun hHeld => ?_)
          · ((try dsimp only); (first | assumption | go_keep))
          clear hK K
          (try simp only [Act.put, List.setIfInBounds_toArray, List.set_cons_zero, List.set_cons_succ])
          refine wpAnyH_ready (rs := [4]) (by kernel_rfl) (by simp) ?_
          refine AllReadyH.cons rfl (fun K hK => ?_) AllReadyH.nil
          · go_simp
            refine hK.out _ _ ?_ (fun hHeld => ?_)
            · ((try dsimp only); (first | assumption | go_keep))
            clear hK K
            (try simp only [Act.put, List.setIfInBounds_toArray, List.set_cons_zero, List.set_cons_succ])
            refine wpAnyH_ready (rs := [9]) (by kernel_rfl) (by simp) ?_
            refine AllReadyH.cons rfl (fun K hK => ?_) AllReadyH.nil
            · go_simp
              (go_at_call 29; (with_reducible refine (AD.out b5 _ (bnext HBX.out (bnext hdw hb5)) hc5).mono ?_); rintro _ w6 ⟨wa, g6, cap6, rfl, hb6, hg6, ho6, hat6⟩; obtain ⟨m1, m2, hk6, F6⟩ := FIN.out wa w6 g6 cap6 (bnext HBX.out (bnext hdw (bnext hb5 hb6))) hg6 ho6 hat6;  have hS6 := SFAR.out wa w6 (bnext hdw (bnext hb5 hb6)) hg6; have HF6 := Lib.hid F6; clear hg6 ho6 hat6 F6)
              (try go_wp2_with fail)
              refine hK.out _ _ ?_ (fun hHeld => ?_)
              · ((try dsimp only); (first | assumption | go_keep))
              clear hK K
              (try simp only [Act.put, List.setIfInBounds_toArray, List.set_cons_zero, List.set_cons_succ])
              refine wpAnyH_take (i := 10) (v := ?_) rfl (by kernel_rfl) (by kernel_rfl) (by kernel_rfl) (fun _ _ _ h => h) (Or.inl ⟨by rfl, ?_⟩) (by assumption) ?_
              rotate_left
              · intro w hSw
                (try dsimp only at hSw)
                go_simp
                (try with_reducible rfl)
              change wpAnyH _ _ _ _ _ _ _ (Act.put _ (some 43) _) _
              simp only [Act.put, List.setIfInBounds_toArray, List.set_cons_zero, List.set_cons_succ]
              refine wpAnyH_take (i := 11) (v := ?_) rfl (by kernel_rfl) (by kernel_rfl) (by kernel_rfl) (fun _ _ _ h => h) (Or.inl ⟨by rfl, ?_⟩) (by assumption) ?_
              rotate_left
              · intro w hSw
                (try dsimp only at hSw)
                go_simp
                (try with_reducible rfl)
              change wpAnyH _ _ _ _ _ _ _ (Act.put _ (some 54) _) _
              simp only [Act.put, List.setIfInBounds_toArray, List.set_cons_zero, List.set_cons_succ]
              refine wpAnyH_take (i := 12) (v := ?_) rfl (by kernel_rfl) (by kernel_rfl) (by kernel_rfl) (fun _ _ _ h => h) (Or.inl ⟨by rfl, ?_⟩) (by assumption) ?_
              rotate_left
              · intro w hSw
                (try dsimp only at hSw)
                go_simp
                (try with_reducible rfl)
              change wpAnyH _ _ _ _ _ _ _ (Act.put _ (some 55) _) _
              simp only [Act.put, List.setIfInBounds_toArray, List.set_cons_zero, List.set_cons_succ]
              refine wpAnyH_take (i := 13) (v := ?_) rfl (by kernel_rfl) (by kernel_rfl) (by kernel_rfl) (fun _ _ _ h => h) (Or.inl ⟨by rfl, ?_⟩) (by assumption) ?_
              rotate_left
              · intro w hSw
                (try dsimp only at hSw)
                go_simp
                (try with_reducible rfl)
              change wpAnyH _ _ _ _ _ _ _ (Act.put _ (some 56) _) _
              simp only [Act.put, List.setIfInBounds_toArray, List.set_cons_zero, List.set_cons_succ]
              refine wpAnyH_take (i := 14) (v := ?_) rfl (by kernel_rfl) (by kernel_rfl) (by kernel_rfl) (fun _ _ _ h => h) (Or.inl ⟨by rfl, ?_⟩) (by assumption) ?_
              rotate_left
              · intro w hSw
                (try dsimp only at hSw)
                go_simp
                (try with_reducible rfl)
              change wpAnyH _ _ _ _ _ _ _ (Act.put _ (some 57) _) _
              simp only [Act.put, List.setIfInBounds_toArray, List.set_cons_zero, List.set_cons_succ]
              refine wpAnyH_ready (rs := [15]) (by kernel_rfl) (by simp) ?_
              refine AllReadyH.cons rfl (fun K hK => ?_) AllReadyH.nil
              · go_simp
                refine hK.out _ _ ?_ (fun hHeld => ?_)
                · ((try dsimp only); (first | assumption | go_keep))
                clear hK K
                (try simp only [Act.put, List.setIfInBounds_toArray, List.set_cons_zero, List.set_cons_succ])
                refine wpAnyH_take (i := 16) (v := ?_) rfl (by kernel_rfl) (by kernel_rfl) (by kernel_rfl) (fun _ _ _ h => h) (Or.inl ⟨by rfl, ?_⟩) (by assumption) ?_
                rotate_left
                · intro w hSw
                  (try dsimp only at hSw)
                  go_simp
                  (try with_reducible rfl)
                change wpAnyH _ _ _ _ _ _ _ (Act.put _ (some 11) _) _
                simp only [Act.put, List.setIfInBounds_toArray, List.set_cons_zero, List.set_cons_succ]
                refine wpAnyH_done (by kernel_rfl) ?_ _
                go_wp2
                go_ret2
                exact HF6.out
end Go.Proofs.YtgdjmbekamdlgaaDoor.KP
