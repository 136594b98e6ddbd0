/-
  Contracts of the document's own functions of layer 15: Expand, Match.
-/
import Derived.Test.YtkgmglncdiccfaaDoorTrlRE
import Derived.Test.YtkgmglncdiccfaaDoorTrlRD
import Derived.Test.YtkgmglncdiccfaaDoorGlbFx
set_option linter.unusedSimpArgs false
set_option linter.unusedVariables false
namespace Go.Proofs.YtkgmglncdiccfaaDoor
theorem gEx_bytes : ∀ (t : Tr), (Good false t ∨ Good true t) → ∀ e ∈ gEx t, ∀ b ∈ gTxt e, b ∈ gStr t
  | .nil, _, e, he, b, hb => by
    obtain rfl : e = [] := by simpa [gEx] using he
    cases hb
  | .none, _, e, he, b, hb => by cases he
  | .atom a r, h, e, he, b, hb => by
    have h : a.Good ∧ Good false r := h.resolve_right (fun h => h.elim)
    obtain ⟨e', he', rfl⟩ := List.mem_map.1 he
    have hb : b ∈ a.txt ++ gTxt e' := hb
    show b ∈ a.txt ++ gStr r
    rcases List.mem_append.1 hb with hb | hb
    · exact List.mem_append_left _ hb
    · exact List.mem_append_right _ (gEx_bytes r (.inl h.2) e' he' b hb)
  | .br ws r, h, e, he, b, hb => by
    have h : Good true ws ∧ ws ≠ .none ∧ Good false r := h.resolve_right (fun h => h.elim)
    obtain ⟨e', he', hm⟩ := List.mem_flatMap.1 he
    obtain ⟨e2, he2, rfl⟩ := List.mem_map.1 hm
    have hb : b ∈ List.flatMap GA.txt (e' ++ e2) := hb
    rw [List.flatMap_append] at hb
    show b ∈ 123 :: (gStr ws ++ gStr r)
    refine List.mem_cons_of_mem _ ?_
    rcases List.mem_append.1 hb with hb | hb
    · exact List.mem_append_left _ (gEx_bytes ws (.inr h.1) e' he' b hb)
    · exact List.mem_append_right _ (gEx_bytes r (.inl h.2.2) e2 he2 b hb)
  | .way p ws, h, e, he, b, hb => by
    have h : Good false p ∧ Good true ws := h.resolve_left (fun h => h.elim)
    rcases List.mem_append.1 he with he | he
    · have := gEx_bytes p (.inl h.1) e he b hb
      by_cases hn : ws = .none
      · subst hn
        exact List.mem_append_left _ this
      · rw [gStr_more hn h.2]
        exact List.mem_append_left _ this
    · have := gEx_bytes ws (.inr h.2) e he b hb
      by_cases hn : ws = .none
      · subst hn; cases this
      · rw [gStr_more hn h.2]
        exact List.mem_append_right _ (List.mem_cons_of_mem _ this)
theorem set_bytes {s : List Nat} (h : gErr s = 0) (hb : ∀ c ∈ s, c < 256) : ∀ x ∈ gTx (gTree s) [[]], ∀ b ∈ x, b < 256 := fun x hx b hbx => by
  obtain ⟨hg, _, _, he⟩ := gErr_good h
  obtain ⟨a, ha, e, hex, hxe⟩ := ((gTx_mem (gTree s)).1 hg [[]] x).1 hx
  obtain rfl := List.mem_singleton.1 ha
  refine hb b ?_
  rw [he]
  rw [hxe] at hbx
  exact gEx_bytes (gTree s) (.inl hg) e hex b hbx
/-- What was found among the first k. -/
def anyTo (F : List Nat → Bool) (L : List (List Nat)) (k : Nat) : Bool := (L.take k).any F
theorem anyTo_succ {F : List Nat → Bool} {L : List (List Nat)} {k : Nat} {x : List Nat} (h : L[k]? = some x) : anyTo F L (k + 1) = (anyTo F L k || F x) := by
  unfold anyTo
  rw [take_snoc' h, List.any_append]
  simp
namespace GR
open Go.RowKit GP
set_option maxRecDepth 100000 in
set_option maxHeartbeats 4000000 in
theorem rexpand_c (p : ByteArray) (hp : p.size ≤ 9223372036854775807) (w : World) : Calls Tryd.prog 18 #[.string p] w fun r w' =>
    ∃ v, r = .returned (.tuple #[v, .int .i64 (gErr (bs p))]) ∧ (gErr (bs p) = 0 → TxNew w.heap.size w' v (gTx (gTree (bs p)) [[]])) ∧ (gErr (bs p) ≠ 0 → v = .slice none 0 0) ∧ Below w.heap.size w w' := by
  have CC := check_c p hp w
  by_cases h0 : gErr (bs p) = 0
  · obtain ⟨h1, h2, _, _, _⟩ := gErr_zero h0
    obtain ⟨_, _, h5, _⟩ := gErr_good h0
    have EX := fun (W : World) => expand_all (p.size - 0) p 0 (gTree (bs p)) p.size (by rw [← bs_length]; exact h1) (Nat.zero_le _) (Nat.le_refl _) (by
      rw [List.drop_zero, h2, List.drop_eq_nil_of_le (by rw [bs_length]; exact Nat.le_refl _)]) (Nat.le_refl _) h5 W
    rw [h0] at CC ⊢
    obtain ⟨G, hG⟩ : ∃ G, gTx (gTree (bs p)) [[]] = G := ⟨_, rfl⟩
    rw [hG] at EX ⊢
    have HCC := Lib.hid CC; have HEX := Lib.hid EX
    clear CC EX h0 h1 h2 h5 hG
    go_enter Tryd.func18, Tryd.ntmps18
    go_wp2_with fail
    refine HCC.out.mono ?_; rintro _ w2 ⟨rfl, hb2⟩
    have HB2 := Lib.hid hb2
    clear hb2
    go_wp2_with fail
    refine (HEX.out w2).mono ?_; rintro _ w3 ⟨v, rfl, ht, hb3⟩
    have HT := Lib.hid (ht.mono HB2.out.size); have HB3 := Lib.hid (bnext HB2.out hb3)
    clear ht hb3
    go_wp2
    go_ret2
    exact ⟨_, rfl, fun _ => HT.out, fun h => absurd rfl h, HB3.out⟩
  · obtain ⟨E, hE⟩ : ∃ E, gErr (bs p) = E := ⟨_, rfl⟩
    rw [hE] at CC h0 ⊢
    have HCC := Lib.hid CC
    have hb : (E != 0) = true := bne_iff_ne.2 h0
    clear CC hE
    go_enter Tryd.func18, Tryd.ntmps18
    go_wp2_with fail
    refine HCC.out.mono ?_; rintro _ w2 ⟨rfl, hb2⟩
    have HB2 := Lib.hid hb2
    clear hb2
    go_wp2
    go_ret2
    exact ⟨_, rfl, fun h => absurd h h0, fun _ => rfl, HB2.out⟩
set_option maxRecDepth 100000 in
set_option maxHeartbeats 4000000 in
/-- The document's Match, of a pattern that may be. -/
theorem rmatch_c (p N : ByteArray) (hp : p.size ≤ 9223372036854775807) (hs : N.size ≤ 900) (h0 : gErr (bs p) = 0) (w : World) :
    Calls Tryd.prog 9 #[.string p, .string N] w fun r w' => r = .returned (.tuple #[.bool (gMatch (bs p) (bs N)), .int .i64 0]) ∧ Below w.heap.size w w' := by
  have RX := rexpand_c p hp w
  rw [h0] at RX
  have HSA := Lib.hid (set_any h0 (bs N))
  have hlen : (gTx (gTree (bs p)) [[]]).length ≤ 64 := by
    obtain ⟨g1, _, g3, _⟩ := gErr_good h0
    rw [(gTx_length (gTree (bs p))).1 g1]
    simpa using g3
  have HFT := Lib.hid (fun (x : List Nat) (hx : x ∈ gTx (gTree (bs p)) [[]]) (W : World) => show Calls Tryd.prog 19 #[.string (str x), .string N] W fun r w' => r = .returned (.bool (fitOne (bs N) x)) ∧ Below W.heap.size W w' by
    obtain ⟨g1, g2, _, _⟩ := gErr_good h0
    obtain ⟨a, ha, e, he, hxe⟩ := ((gTx_mem (gTree (bs p))).1 g1 [[]] x).1 hx
    obtain rfl := List.mem_singleton.1 ha
    have hb := set_bytes h0 (bs_mem p) x hx
    have hl := (set_ok h0 hx).2
    rw [List.nil_append] at hxe
    rw [(fit_one h0 he hxe (bs N)).2]
    exact fits_c (str x) N e (gEx_good (gTree (bs p)) (.inl g1) e he) (by rw [bs_str hb, hxe]) (by rw [str_size]; exact hl) hs W)
  obtain ⟨L, hL⟩ : ∃ L, gTx (gTree (bs p)) [[]] = L := ⟨_, rfl⟩
  obtain ⟨M, hM⟩ : ∃ M, gMatch (bs p) (bs N) = M := ⟨_, rfl⟩
  rw [hL] at RX HSA HFT hlen
  rw [hM] at HSA ⊢
  have HRX := Lib.hid RX
  clear RX h0 hL hM
  go_enter Tryd.func9, Tryd.ntmps9
  go_wp2_with fail
  refine HRX.out.mono ?_; rintro _ w2 ⟨v, rfl, hv, _, hb2⟩
  have ht := hv (by first | rfl | trivial)
  obtain ⟨A, c, rfl, hc, hx⟩ := ht.form
  obtain ⟨n, hn⟩ : ∃ n, L.length = n := ⟨_, rfl⟩
  have HX := Lib.hid (fun (h : 0 < n) => show ∃ g, A = some ⟨g, 0, none⟩ ∧ TxAt w2 g L by obtain ⟨g, e, _, _, h⟩ := hx (by rw [hn]; exact h); exact ⟨g, e, h⟩)
  have HB2 := Lib.hid hb2; have HN := Lib.hid hn
  rw [hn] at hc hlen ⊢
  clear hv ht hx hb2 hn HRX
  go_wp2_with fail
  go_loopw [8] (fun v8 wr => ∃ k : Nat, v8 = .int .i64 (k : Nat) ∧ k ≤ n ∧ Hid (anyTo (fitOne (bs N)) L k = false) ∧ Hid (Below w2.heap.size w2 wr)) (fun v8 _ => n - (intOf v8).toNat)
  case atStart => exact ⟨0, rfl, Nat.zero_le _, rfl, Below.refl _ _⟩
  case round =>
    as_aux_lemma =>
      obtain ⟨k, rfl, hk, HF, HB⟩ := hrel
      by_cases hlt : k < n
      · as_aux_lemma =>
          have hki : (k : Int) < (n : Int) := by omega
          obtain ⟨g, rfl, hg⟩ := HX.out (by omega)
          obtain ⟨x, hx⟩ : ∃ x, L[k]? = some x := ⟨_, List.getElem?_eq_getElem (by rw [HN.out]; exact hlt)⟩
          have z0 := cellb HB.out (hg k x hx)
          have FT := HFT.out x (List.mem_of_getElem? hx) wr
          have hsu := anyTo_succ (F := fitOne (bs N)) hx
          have hmem := List.mem_of_getElem? hx
          obtain ⟨X, hX⟩ : ∃ X, str x = X := ⟨_, rfl⟩
          rw [hX] at z0 FT
          obtain ⟨fx, hfx⟩ : ∃ fx, fitOne (bs N) x = fx := ⟨_, rfl⟩
          rw [hfx] at FT hsu
          have HT := Lib.hid (fun (h : fx = true) => show true = M by
            rw [← HSA.out]
            symm
            rw [List.any_eq_true]
            exact ⟨x, hmem, by rw [hfx, h]⟩)
          have HFT2 := Lib.hid FT; have HSU := Lib.hid hsu
          clear FT hsu hg hx hX hfx hmem
          cases fx with
          | true =>
            have HE := Lib.hid (HT.out rfl)
            go_wp2_with fail
            refine HFT2.out.mono ?_; rintro _ w3 ⟨rfl, hb3⟩
            have HB3 := Lib.hid (bnext HB2.out (bnext HB.out hb3))
            clear hb3
            go_wp2
            go_ret2
            exact ⟨congrArg (fun z => Ending.returned (.tuple #[.bool z, .int .i64 0])) HE.out, HB3.out⟩
          | false =>
            have HN2 := Lib.hid (show anyTo (fitOne (bs N)) L (k + 1) = false by rw [HSU.out, HF.out]; rfl)
            go_wp2_with fail
            refine HFT2.out.mono ?_; rintro _ w3 ⟨rfl, hb3⟩
            have HB3 := Lib.hid (bnext HB.out hb3)
            clear hb3
            go_wp2
            go_roundw
            case rel => exact ⟨k + 1, by go_num, by omega, HN2.out, HB3.out⟩
            case measure => first | (simp [intOf]; done) | (simp [intOf]; omega)
      · as_aux_lemma =>
          obtain rfl : k = n := by omega
          have HE := Lib.hid (show false = M by
            rw [← HSA.out, ← HF.out]
            unfold anyTo
            rw [List.take_of_length_le (by rw [HN.out]; exact Nat.le_refl _)])
          go_wp2
          go_ret2
          exact ⟨congrArg (fun z => Ending.returned (.tuple #[.bool z, .int .i64 0])) HE.out, bnext HB2.out HB.out⟩
end GR
end Go.Proofs.YtkgmglncdiccfaaDoor
