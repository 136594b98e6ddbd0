/-
  Contracts of the program's functions of layer 15: lead.
-/
import Derived.Test.YtkgmglncdiccfaaDoorGlbPN
import Derived.Test.YtkgmglncdiccfaaDoorGlbPE
set_option linter.unusedSimpArgs false
set_option linter.unusedVariables false
namespace Go.Proofs.YtkgmglncdiccfaaDoor.GP
open Go.RowKit
theorem gCls_rows : ∀ (M : Nat) (s : List Nat), s.length ≤ M → ∀ {rs : List (Nat × Nat)} {n : Nat}, gCls s = some (rs, n) → rs.length ≤ n
  | 0, s, hs, rs, n, h => by
    obtain rfl : s = [] := List.eq_nil_of_length_eq_zero (by omega)
    rw [gCls_nil] at h
    cases h
  | M + 1, [], hs, rs, n, h => by
    rw [gCls_nil] at h
    cases h
  | M + 1, c :: t, hs, rs, n, h => by
    by_cases hc : c = 93
    · subst hc
      rw [gCls_end] at h
      simp only [Option.some.injEq, Prod.mk.injEq] at h
      rw [← h.1]
      exact Nat.zero_le _
    · cases hm : gMem (c :: t) with
      | none => rw [gCls_no hc hm] at h; cases h
      | some mk =>
        obtain ⟨m, k⟩ := mk
        rw [gCls_yes hc hm] at h
        have hk := gMem_size hm
        cases hr : gCls ((c :: t).drop k) with
        | none => rw [hr] at h; cases h
        | some x =>
          rw [hr] at h
          simp only [Option.map_some, Option.some.injEq, Prod.mk.injEq] at h
          have := gCls_rows M ((c :: t).drop k) (by rw [List.length_drop]; simp only [List.length_cons] at hs ⊢; omega) (rs := x.1) (n := x.2) hr
          rw [← h.1, ← h.2]
          simp only [List.length_cons]
          omega
theorem good_rows {a : GA} (h : a.Good) : a.rows.length ≤ a.txt.length := by
  cases a with
  | one c => exact Nat.zero_le _
  | each => exact Nat.zero_le _
  | star => exact Nat.zero_le _
  | cls t rs =>
    obtain ⟨u, rfl, hu, _, _⟩ := h
    have := gCls_rows _ (u ++ []) (Nat.le_refl _) (hu [])
    show rs.length ≤ (91 :: u).length
    simp only [List.length_cons]
    omega
theorem plead_c {x : GA ⊕ Tr} {r : Tr} (hg : Good false (consT x r)) (hl : (gStr (consT x r)).length ≤ 900) (H : AllW LdC (consT x r)) {kk : Nat} {s : ByteArray} {A1 A2 : Option Addr} {n1 c1 n2 c2 : Nat} (N : ByteArray) (n g c : Nat) (f : Nat → Bool) (w : World) (hn : N.size = n) (hs : n ≤ 900) (hc : n + 1 ≤ c) (hr : BRow w g (n + 1) f) (h : PcR w kk s (.slice A1 n1 c1) (.slice A2 n2 c2) x) :
    Calls Tryd.prog 41 #[.agg #[.int .i64 (kk : Nat), .string s, .slice A1 n1 c1, .slice A2 n2 c2], .slice (some ⟨g, 0, none⟩) (n + 1) c, .string N] w fun e w' => ∃ g' c', e = .returned (.slice (some ⟨g', 0, none⟩) (n + 1) c') ∧ n + 1 ≤ c' ∧ w.heap.size ≤ g' ∧ BRow w' g' (n + 1) (pcLd (bs N) f x) ∧ Below w.heap.size w w' := by
  cases h with
  | atom a rv h =>
    have htl : a.txt.length ≤ 900 := by
      have : (gStr (Tr.atom a r)).length = a.txt.length + (gStr r).length := List.length_append
      simp only [consT] at hl
      omega
    by_cases h2 : a.kind = 2
    · cases a with
      | star => exact lead_star _ A1 none n1 c1 0 0 N n g c f w hn hs hc hr
      | one c => cases h2
      | each => cases h2
      | cls t rs => cases h2
    · exact lead_atom a hg.1 h2 htl (by have := good_rows hg.1; omega) A1 n1 c1 N n g c f w hn hs hc hr h
  | br ws wv h => exact lead_br ws hg.1 (by have := gStr_br ws r; simp only [consT] at hl; omega) H.1 _ N n g c f w hn hs hc hr h
set_option maxRecDepth 100000 in
set_option maxHeartbeats 4000000 in
theorem lead_of (l : Tr) (H : AllW LdC l) : LdC l := by
  intro hg hl v N g c f w hs hc h hr
  have hn9 : l.len ≤ 900 := Nat.le_trans ((gStr_len l).1 hg).2 hl
  obtain ⟨A, cl, rfl, hcl, hx⟩ := h.form
  obtain ⟨m, hm⟩ : ∃ m, l.len = m := ⟨_, rfl⟩
  rw [hm] at hcl hx hn9 ⊢
  obtain ⟨n, hn⟩ : ∃ n, N.size = n := ⟨_, rfl⟩
  rw [hn] at hs hc hr ⊢
  obtain ⟨F, hF⟩ : ∃ F, gLd (bs N) l f = F := ⟨_, rfl⟩
  rw [hF]
  have HX := Lib.hid hx; have HGL := Lib.hid (show Good false l ∧ AllW LdC l ∧ (gStr l).length ≤ 900 ∧ l.len = m ∧ gLd (bs N) l f = F from ⟨hg, H, hl, hm, hF⟩)
  have HR0 := Lib.hid hr; have HNN := Lib.hid hn
  clear hx hF h hg H hl hm hr hn
  go_enter Tryd.func32, Tryd.ntmps32
  go_wp2_with fail
  go_loopw [0, 8, 11] (fun v0 _ v11 wr => ∃ (k g' c' : Nat) (f' : Nat → Bool), v0 = .slice (some ⟨g', 0, none⟩) (n + 1) c' ∧ v11 = .int .i64 (k : Nat) ∧ k ≤ m ∧ n + 1 ≤ c' ∧ (g' = g ∨ w.heap.size ≤ g') ∧ Hid (BRow wr g' (n + 1) f') ∧ Hid (Below w.heap.size w wr) ∧ Hid (∃ t, (k < m → ∀ g, A = some ⟨g, 0, none⟩ → Sx w g k t) ∧ t.len + k = m ∧ Good false t ∧ AllW LdC t ∧ (gStr t).length ≤ 900 ∧ gLd (bs N) t f' = F)) (fun _ _ v11 _ => m - (intOf v11).toNat)
  case atStart =>
    refine ⟨0, g, c, f, rfl, rfl, Nat.zero_le _, hc, .inl rfl, HR0.out, Below.refl _ _, l, fun hk g hg => ?_, by have := HGL.out.2.2.2.1; omega, HGL.out.1, HGL.out.2.1, HGL.out.2.2.1, HGL.out.2.2.2.2⟩
    obtain ⟨g', hg', hs⟩ := HX.out hk
    rw [hg'] at hg
    injection hg with hg
    injection hg with hg
    subst hg
    exact hs
  case round =>
    as_aux_lemma =>
      obtain ⟨k, g', c', f', rfl, rfl, hk, hc', hgg, HR, HB, HT⟩ := hrel
      by_cases hlt : k < m
      · as_aux_lemma =>
          obtain ⟨t, hsx, htl, htg, hta, hts, htc⟩ := HT.out
          obtain ⟨gl, rfl, -⟩ := HX.out (by omega)
          obtain ⟨x, r, kk, s, A1, A2, n1, c1, n2, c2, rfl, q0, q1, q2, q3, hpc, hsr⟩ := (hsx hlt gl rfl).next htg (by omega)
          have y0 := cellb HB.out q0; have y1 := cellb HB.out q1; have y2 := cellb HB.out q2; have y3 := cellb HB.out q3
          have hrg := consT_good htg
          rw [consT_len] at htl
          rw [gLd_cons] at htc
          have CP := fun (W : World) (hW : Below wr.heap.size wr W) => plead_c htg hts hta N n g' c' f' W HNN.out hs hc' (HR.out.below hW) ((hpc.below HB.out).below hW)
          obtain ⟨f2, hf2⟩ : ∃ f2, pcLd (bs N) f' x = f2 := ⟨_, rfl⟩
          rw [hf2] at CP htc
          have HCP := Lib.hid CP
          have HRR := Lib.hid (show (k + 1 < m → ∀ g', some (⟨gl, 0, none⟩ : Addr) = some ⟨g', 0, none⟩ → Sx w g' (k + 1) r) ∧ r.len + (k + 1) = m ∧ Good false r ∧ AllW LdC r ∧ (gStr r).length ≤ 900 ∧ gLd (bs N) r f2 = F from
            ⟨fun _ g' e => by injection e with e; injection e with e; subst e; exact hsr, by omega, hrg, by cases x with | inl a => exact hta | inr ws => exact hta.2, by
              cases x with
              | inl a => have : (gStr (Tr.atom a r)).length = a.txt.length + (gStr r).length := List.length_append; simp only [consT] at hts; omega
              | inr ws => have := gStr_br ws r; simp only [consT] at hts; omega, htc⟩)
          clear hsx htl htg hta hts htc q0 q1 q2 q3 hpc hsr hrg hf2 CP HT
          go_wp2_with fail
          have HB1 := Lib.hid (alloc_below wr (.cells #[.int .i64 (kk : Nat), .string s, .slice A1 n1 c1, .slice A2 n2 c2] 70))
          refine (HCP.out _ HB1.out).mono ?_; rintro _ w2 ⟨g3, c3, rfl, hc3, hg3, hr3, hb2⟩
          have HB2 := Lib.hid (bnext HB.out (bnext HB1.out hb2))
          have hg4 : g3 = g ∨ w.heap.size ≤ g3 := .inr (Nat.le_trans (Nat.le_trans HB.out.size HB1.out.size) hg3)
          have HR2 := Lib.hid hr3
          clear hr3 hb2 hg3 HCP
          go_wp2
          go_roundw
          case rel => exact ⟨k + 1, g3, c3, f2, rfl, by go_num, by omega, hc3, hg4, HR2.out, HB2.out, r, HRR.out⟩
          case measure => simp [intOf]; omega
      · as_aux_lemma =>
          obtain rfl : k = m := by omega
          obtain ⟨t, -, htl, htg, -, -, htc⟩ := HT.out
          have : t = .nil := by
            cases t with
            | nil => rfl
            | atom a r => simp only [Tr.len] at htl; omega
            | br ws r => simp only [Tr.len] at htl; omega
            | none => exact htg.elim
            | way p ws => exact htg.elim
          subst this
          have HRE := Lib.hid (HR.out.congr (h := F) (fun j _ => by rw [← htc]; rfl))
          clear htc HT
          go_wp2
          go_ret
          exact ⟨g', c', rfl, hc', hgg, HRE.out, HB.out⟩
theorem lead_c (l : Tr) : LdC l := (tr_ind lead_of l).1
end Go.Proofs.YtkgmglncdiccfaaDoor.GP
