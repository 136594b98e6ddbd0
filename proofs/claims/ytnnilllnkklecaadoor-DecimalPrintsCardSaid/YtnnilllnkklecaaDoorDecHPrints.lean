/-
  Any numbers are printed, and joined, as the document says; of up to 3000 numbers: for every input; the library's tables and sentinels that the row lists are tied to the program's text by the card.
-/
import Derived.Test.YtnnilllnkklecaaDoorDecF
import Derived.Test.YtnnilllnkklecaaDoorDecWP
import Derived.Deep.SlicePairs
import Derived.Carry
set_option linter.unusedSimpArgs false
set_option linter.unusedVariables false
namespace Go.Proofs.YtnnilllnkklecaaDoor
open Go.ChangeShapes Go.WideShapes Go.ChangeAt Go.RowKit Go.Joins

theorem laidOut : laidOutB Tryd.prog = true := by kernel_rfl
/-- What a slice of numbers holds, and the walk over it. -/
theorem prints_walk {H : Type} {enc : TypeId × Value → H} (W : World) (a : Option Addr) (len cap : Nat) (d : DataW H) (p : List MemPlace) (h : DataW.Trod enc Tryd.prog W 0 (fun _ => true) true 31 (.slice a len cap) d p) (hG : G W) :
    Calls Tryd.prog 4 #[.slice a len cap] W fun e w' => e = .returned (.bool true) ∧ Below W.heap.size W w' := by
  obtain ⟨fuel, hf⟩ := h
  rcases Deep.open_slice_pairs Tryd.underlying31 Tryd.underlying24 cells_n rfl rfl (by kernel_rfl) (by kernel_rfl) hf with ⟨hc, hx⟩ | ⟨a', len', cap', m, k, V0, V1, D0, D1, P0, P1, hc, _, hl, hm, hmm, hx, hall⟩
  · simp [Value.cells] at hc
    obtain ⟨rfl, rfl, rfl⟩ := hc
    exact DW.prints_nil none 0 W hG
  · simp [Value.cells] at hc
    obtain ⟨rfl, rfl, rfl⟩ := hc
    simp only [if_true] at hmm
    subst hmm
    by_cases h0 : len = 0
    · subst h0
      exact DW.prints_nil (some a') m W hG
    · obtain ⟨b, off, spot⟩ := a'
      have hspot : spot = none := by simpa [Addr.add] using World.cell?_spot (hall 0 (by omega)).1
      subst hspot
      refine DW.prints_row b off len m hl (fun i => match V0 i with | .bool z => z | _ => false) (fun i => match V1 i with | .int _ z => z | _ => 0) (fun i hi => ?_) W (fun i hi => ?_) hG
      · obtain ⟨n, hV, _, hw⟩ := DataW.trod_int Tryd.underlying2 (hall i (by omega)).2.2.2
        have hV1 : V1 i = .int .i64 n := by simpa using hV
        show -9223372036854775808 ≤ (match V1 i with | .int _ z => z | _ => 0) ∧ _
        rw [hV1]
        exact bounds_i64 hw
      · obtain ⟨z, hV, _⟩ := DataW.trod_bool Tryd.underlying4 (hall i (by omega)).2.2.1
        obtain ⟨n, hV', _, hw⟩ := DataW.trod_int Tryd.underlying2 (hall i (by omega)).2.2.2
        have hV0 : V0 i = .bool z := by simpa using hV
        have hV1 : V1 i = .int .i64 n := by simpa using hV'
        have c0 := (hall i (by omega)).1
        have c1 := (hall i (by omega)).2.1
        rw [hV0, WideShapes.add_plain] at c0
        rw [hV1, WideShapes.add_plain] at c1
        refine ⟨?_, ?_⟩
        · show _ = some (Value.bool (match V0 i with | .bool z => z | _ => false))
          rw [hV0]
          exact c0
        · show _ = some (Value.int .i64 (match V1 i with | .int _ z => z | _ => 0))
          rw [hV1]
          exact c1
set_option maxRecDepth 100000 in
theorem decimalPrints_lifted (os : Os) (started : os.Started) (H : Type) (enc : TypeId × Value → H) :
    ReturnsInHanded {} Tryd.checked os 4 .any (fun w args => (Rows.decimalPrintsSpec.pre enc Tryd.prog Tryd.f4 Rows.decimalPrintsRow.domain false w args ∧ laidMetH Tryd.prog laid w) ∧ sizedMet enc Tryd.prog Tryd.f4 (OpenSpec.ofChange Rows.decimalPrintsSpec) false w args)
      (Rows.decimalPrintsSpec.post enc Tryd.prog Tryd.f4 false true false false) := by
  refine returns_laid (C := Tryd.checked) (X := fun w _ => laidMetH Tryd.prog laid w) (fun _ _ _ hh h => h.of_heap hh) own started (by kernel_rfl) Tryd.func4
    (ChangeSpec.witness_shaped (enc := enc) (C := Tryd.checked) (os := os) (X := fun w _ => laidMetH Tryd.prog laid w) false (World.laidAll Tryd.prog os laid) #[.slice none 0 0] 8 (World.laidAll_os _ _ _)
      (World.shaped_of_ZipB (by kernel_rfl) (by kernel_rfl)) (by kernel_rfl) (by kernel_rfl) (by kernel_rfl)
      (by rw [MakeChecks.laidMetH_plain _ _ _ (by kernel_rfl)]; exact laidMet_laidAll _ (by kernel_rfl) (by kernel_rfl))) ?_
  intro W base args ds gs before hval0 hW hL hsh
  have hval : ∀ (j : Nat) t v, Tryd.f4.params[j]? = some t → args[j]? = some v → Value.okWide Tryd.prog W .any base t v := hval0
  have hW' := hW
  obtain ⟨p, q, hA0, hV, rfl, hfz, hnd⟩ := hW
  have hA : DataW.TrodAll enc Tryd.prog W 0 (fun _ => true) true Tryd.f4.params.toList args.toList ds p := hA0
  rw [Tryd.params4] at hA hval
  obtain ⟨v0, vs0, d0, ds0, p0, q0, hargs, rfl, rfl, h0, r0⟩ := trodAll_cons hA
  obtain ⟨rfl, rfl, rfl⟩ := trodAll_nil r0
  obtain rfl : args = #[v0] := by cases args; simp_all
  obtain ⟨rfl, rfl⟩ := trodVars_none hV
  obtain ⟨a0, l0, c0, rfl⟩ := okWide_slice Tryd.underlying31 (hval 0 31 v0 rfl rfl)
  clear hA0 hval0
  simp only [List.append_nil] at hW'
  have hlt : ∀ x ∈ p0, x.block < W.heap.size := fun x hx => hW'.lt x hx
  refine (prints_walk W a0 l0 c0 d0 p0 h0 (g_of hL hsh)).mono fun e W' ⟨he, hg⟩ => ?_
  subst he
  exact ⟨_, rfl, post_of_below (pa := p0) (pv := []) hW' (fun _ _ _ => trodAll_mk1 (shut_bool Tryd.underlying4 _))
    (fun sp hsp => trodAll_mk1 (WideElems.Trod_stays laidOut (by kernel_rfl) (of_decide_eq_true (by kernel_rfl)) h0 (fun x hx => hg.same (hlt x hx)) (fun x hx => hsp x hx))) (fun _ _ => rfl) (by simp)
    hg (ok_one (by kernel_rfl) rfl (okWide_bool_mk Tryd.underlying4 _))⟩
/-- DecimalPrints, as given. -/
theorem decimalPrints_holds : Rows.DecimalPrintsSaid :=
  OpenClaim.holds_of_wide 4 Tryd.f4 rfl rfl rfl rfl rfl rfl rfl ⟨rfl, rfl, rfl, rfl, rfl⟩ rfl rfl rfl rfl rfl (by kernel_rfl) Tryd.func4 (by kernel_rfl)
    (of_decide_eq_true (by kernel_rfl)) (by unfold Func.isWrapper; first | (rw [if_pos (by decide +kernel)]; kernel_rfl) | (rw [if_neg (by decide +kernel)]; exact ⟨rfl, rfl⟩))
    (fun os started H enc _ => decimalPrints_lifted os started H enc)
/-- DecimalPrints, as given: the card. -/
theorem decimalPrints_card : Rows.DecimalPrintsCardSaid :=
  Claim7.holds_tied_plain_at .later [] Rows.decimalPrintsCard.laidKinds true Rows.decimalPrintsCard.stood.harness Rows.decimalPrintsCard.stood.looks decimalPrints_holds (fun _ h => by cases h) (by kernel_rfl) (fun _ h => by cases h) decimalPrints_row_tie rfl ⟨rfl, rfl⟩ (by kernel_rfl) rfl
    (fun f fn hf hfn => by
      obtain rfl : f = 4 := Option.some.inj ((show Tryd.prog.funcNamed "isobar/isobarlaw03.DecimalPrints" = some 4 by kernel_rfl).symm.trans hf) |>.symm
      obtain rfl : fn = Tryd.f4 := (Option.some.inj (Tryd.func4.symm.trans hfn)).symm
      exact ⟨by kernel_rfl, fun j t ht => by
        rw [Tryd.params4] at ht
        have hm : t ∈ [31] := by simpa using Array.mem_of_getElem? ht
        have hall : ([31].all fun u => !Tryd.prog.wantsStandIn u) = true := by kernel_rfl
        exact (show Tryd.prog.wantsStandIn t = false by simpa using List.all_eq_true.1 hall t hm)⟩)
    (by kernel_rfl)
end Go.Proofs.YtnnilllnkklecaaDoor
