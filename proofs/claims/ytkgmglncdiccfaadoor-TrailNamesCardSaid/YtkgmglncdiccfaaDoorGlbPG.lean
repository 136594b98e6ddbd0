/-
  Contracts of the program's functions of layer 15: count.
-/
import Derived.Test.YtkgmglncdiccfaaDoorGlbRd
import Derived.Test.YtkgmglncdiccfaaDoorGlbBox
import Derived.StillTailTactics
import Derived.Deep.Cut
set_option linter.unusedSimpArgs false
set_option linter.unusedVariables false
namespace Go.Proofs.YtkgmglncdiccfaaDoor.GP
open Go.RowKit
/-- count keeps its word. -/
def CntC (l : Tr) : Prop := Good false l → (gStr l).length ≤ 900 → ∀ (v : Value) (w : World), TrR w v l →
    Calls Tryd.prog 35 #[v] w fun e w' => e = .returned (.int .i64 (gCnt l 1 : Nat)) ∧ Below w.heap.size w w'
theorem consT_good {x : GA ⊕ Tr} {r : Tr} (h : Good false (consT x r)) : Good false r := by
  cases x with
  | inl a => exact h.2
  | inr ws => exact h.2.2
theorem consT_len (x : GA ⊕ Tr) (r : Tr) : (consT x r).len = r.len + 1 := by cases x <;> rfl
set_option maxRecDepth 100000 in
set_option maxHeartbeats 4000000 in
theorem count_of (l : Tr) (H : AllW CntC l) : CntC l := by
  intro hg hl v w h
  have hn9 : l.len ≤ 900 := Nat.le_trans ((gStr_len l).1 hg).2 hl
  obtain ⟨A, c, rfl, hc, hx⟩ := h.form
  obtain ⟨n, hn⟩ : ∃ n, l.len = n := ⟨_, rfl⟩
  rw [hn] at hc hx hn9 ⊢
  obtain ⟨d, hd⟩ : ∃ d, gCnt l 1 = d := ⟨_, rfl⟩
  rw [hd]
  have hd9 : d ≤ 65 := by rw [← hd]; exact gCnt_le l hg 1 (by omega)
  have HX := Lib.hid hx; have HD := Lib.hid hd; have HGL := Lib.hid (show Good false l ∧ AllW CntC l ∧ (gStr l).length ≤ 900 ∧ l.len = n from ⟨hg, H, hl, hn⟩)
  clear hx hd h hg H hl hn
  go_enter Tryd.func35, Tryd.ntmps35
  go_wp2
  go_loopw [3, 5, 6, 8, 11] (fun v3 _ _ _ v11 wr => ∃ (k m : Nat), k ≤ n ∧ v3 = .int .i64 (m : Nat) ∧ v11 = .int .i64 (k : Nat) ∧ m ≤ 65 ∧ Hid (Below w.heap.size w wr) ∧ Hid (∃ t, (k < n → ∀ g, A = some ⟨g, 0, none⟩ → Sx w g k t) ∧ t.len + k = n ∧ Good false t ∧ AllW CntC t ∧ (gStr t).length ≤ 900 ∧ gCnt t m = d)) (fun _ _ _ _ v11 _ => n - (intOf v11).toNat)
  case atStart =>
    refine ⟨0, 1, Nat.zero_le _, rfl, rfl, by omega, Below.refl _ _, l, fun hk g hg => ?_, by have := HGL.out.2.2.2; omega, HGL.out.1, HGL.out.2.1, HGL.out.2.2.1, HD.out⟩
    obtain ⟨g', hg', hs⟩ := HX.out hk
    rw [hg'] at hg
    injection hg with hg
    injection hg with hg
    subst hg
    exact hs
  case round =>
    obtain ⟨k, m, hk, rfl, rfl, hm, HB, HT⟩ := hrel
    by_cases hlt : k < n
    · obtain ⟨t, hsx, htl, htg, hta, hts, htc⟩ := HT.out
      obtain ⟨g, rfl, -⟩ := HX.out (by omega)
      obtain ⟨x, r, kk, s, A1, A2, n1, c1, n2, c2, rfl, q0, q1, q2, q3, hpc, hsr⟩ := (hsx hlt g rfl).next htg (by omega)
      have y0 := cellb HB.out q0; have y1 := cellb HB.out q1; have y2 := cellb HB.out q2; have y3 := cellb HB.out q3
      have hrg := consT_good htg
      rw [consT_len] at htl
      cases hpc with
      | atom a rv h =>
        have hka : ¬ ((a.kind : Nat) : Int) = 4 := by cases a <;> simp [GA.kind]
        have HNX := Lib.hid (show ∃ t, (k + 1 < n → ∀ g', some (⟨g, 0, none⟩ : Addr) = some ⟨g', 0, none⟩ → Sx w g' (k + 1) t) ∧ t.len + (k + 1) = n ∧ Good false t ∧ AllW CntC t ∧ (gStr t).length ≤ 900 ∧ gCnt t m = d from
          ⟨r, fun _ g' e => by injection e with e; injection e with e; subst e; exact hsr, by omega, hrg, hta, by have : (gStr (Tr.atom a r)).length = a.txt.length + (gStr r).length := List.length_append; simp only [consT] at hts; omega, htc⟩)
        obtain ⟨ka, hka2⟩ : ∃ ka, a.kind = ka := ⟨_, rfl⟩
        rw [hka2] at hka y0
        obtain ⟨sa, hsa⟩ : ∃ sa, str a.txt = sa := ⟨_, rfl⟩
        rw [hsa] at y1
        clear hsx htl htg hta hts htc q0 q1 q2 q3 hsr hrg hka2 hsa h
        go_wp2
        go_roundw
        case rel => exact ⟨k + 1, m, by omega, rfl, by go_num, hm, bnext HB.out (alloc_below _ _), HNX.out⟩
        case measure => simp [intOf]; omega
      | br ws wv h =>
        obtain ⟨A2', c2', hv2, hc2, hx2⟩ := h.form
        injection hv2 with e1 e2 e3
        subst e1 e2 e3
        have hwg : Good true ws := htg.1
        have hw9 : ws.len ≤ 900 := Nat.le_trans (ws_len hwg) (by have := gStr_br ws r; simp only [consT] at hts; omega)
        have htc' : gCnt r (min (m * gCnt ws 0) 65) = d := htc
        have HR1 := Lib.hid (show Good false r ∧ AllW CntC r ∧ (gStr r).length ≤ 900 ∧ r.len + (k + 1) = n ∧ Sx w g (k + 1) r from ⟨hrg, hta.2, by have := gStr_br ws r; simp only [consT] at hts; omega, by omega, hsr⟩)
        have HW1 := Lib.hid (show Good true ws ∧ AllW CntC ws ∧ (gStr ws).length ≤ 900 from ⟨hwg, hta.1, by have := gStr_br ws r; simp only [consT] at hts; omega⟩)
        have HX2 := Lib.hid hx2; have HTC := Lib.hid htc'
        obtain ⟨W, hW⟩ : ∃ W, gCnt ws 0 = W := ⟨_, rfl⟩
        rw [hW] at HTC
        have HWW := Lib.hid hW
        obtain ⟨n2, hn2⟩ : ∃ n2, ws.len = n2 := ⟨_, rfl⟩
        rw [hn2] at hc2 hw9 HX2 y3
        have HN2 := Lib.hid hn2
        clear hsx htl htg hta hts htc q0 q1 q2 q3 hsr hrg h hx2 hwg htc' hW hn2
        go_wp2_with fail
        have HB1 := Lib.hid (bnext HB.out (alloc_below wr (.cells #[.int .i64 4, .string ⟨#[]⟩, .slice none 0 0, .slice A2 n2 c2] 70)))
        generalize (wr.alloc (.cells #[.int .i64 4, .string ⟨#[]⟩, .slice none 0 0, .slice A2 n2 c2] 70)) = w1 at HB1 ⊢
        go_loopw [6, 8, 21] (fun v6 _ v21 wq => ∃ (j s : Nat), j ≤ n2 ∧ v6 = .int .i64 (s : Nat) ∧ v21 = .int .i64 (j : Nat) ∧ s ≤ 65 * j ∧ Hid (Below w.heap.size w wq) ∧ Hid (∃ u, (j < n2 → ∀ g, A2 = some ⟨g, 0, none⟩ → Wx w g j u) ∧ u.len + j = n2 ∧ Good true u ∧ AllW CntC u ∧ (gStr u).length ≤ 900 ∧ s + gCnt u 0 = W)) (fun _ _ v21 _ => n2 - (intOf v21).toNat)
        case atStart =>
          refine ⟨0, 0, Nat.zero_le _, rfl, rfl, by omega, HB1.out, ws, fun hk g2 hg2 => ?_, by have := HN2.out; omega, HW1.out.1, HW1.out.2.1, HW1.out.2.2, by rw [Nat.zero_add]; exact HWW.out⟩
          obtain ⟨g', hg', hs⟩ := HX2.out hk
          rw [hg'] at hg2
          injection hg2 with hg2
          injection hg2 with hg2
          subst hg2
          exact hs
        case round =>
          obtain ⟨j, s, hj, rfl, rfl, hs, HB2, HU⟩ := hrel
          by_cases hjl : j < n2
          · obtain ⟨u, hux, hul, hug, hua, hus, huc⟩ := HU.out
            obtain ⟨g2, rfl, -⟩ := HX2.out (by omega)
            obtain ⟨p, u', A3, c3, rfl, z0, hpr, hux'⟩ := (hux hjl g2 rfl).next hug (by omega)
            have zz0 := cellb HB2.out z0
            have CP := hua.1 hug.1 (by have := gStr_way hug; omega) _ wr (hpr.below HB2.out)
            have hp65 : gCnt p 1 ≤ 65 := gCnt_le p hug.1 1 (by omega)
            have huc' : s + (gCnt p 1 + gCnt u' 0) = W := huc
            obtain ⟨x, hx⟩ : ∃ x, gCnt p 1 = x := ⟨_, rfl⟩
            rw [hx] at CP hp65 huc'
            have wadd : IntKind.i64.wrap ((s : Int) + (x : Int)) = ((s + x : Nat) : Int) := by rw [IntKind.wrap_i64]; omega
            have HCP := Lib.hid CP
            have HUN := Lib.hid (show ∃ u, (j + 1 < n2 → ∀ g, some (⟨g2, 0, none⟩ : Addr) = some ⟨g, 0, none⟩ → Wx w g (j + 1) u) ∧ u.len + (j + 1) = n2 ∧ Good true u ∧ AllW CntC u ∧ (gStr u).length ≤ 900 ∧ s + x + gCnt u 0 = W from
              ⟨u', fun _ g' e => by injection e with e; injection e with e; subst e; exact hux', by simp only [Tr.len] at hul; omega, hug.2, hua.2, by have := gStr_way hug; omega, by omega⟩)
            clear hux hul hug hua hus huc z0 hpr hux' CP huc' hx
            go_wp2_with fail
            refine HCP.out.mono ?_; rintro _ w3 ⟨rfl, hb3⟩
            have HB3 := Lib.hid (bnext HB2.out hb3)
            clear hb3 HCP
            go_wp2
            go_roundw
            case rel => exact ⟨j + 1, s + x, by omega, rfl, by go_num, by omega, HB3.out, HUN.out⟩
            case measure => simp [intOf]; omega
          · obtain rfl : j = n2 := by omega
            obtain ⟨u, -, hul, hug, -, -, huc⟩ := HU.out
            have : u = .none := by
              cases u with
              | none => rfl
              | way p ws => simp only [Tr.len] at hul; omega
              | nil => exact hug.elim
              | atom a r => exact hug.elim
              | br ws r => exact hug.elim
            subst this
            obtain rfl : s = W := by have : s + 0 = W := huc; omega
            have hms : m * s ≤ 65 * (65 * 900) := Nat.mul_le_mul hm (by omega)
            have wmul : IntKind.i64.wrap ((m : Int) * (s : Int)) = ((m * s : Nat) : Int) := by
              have e : (m : Int) * (s : Int) = ((m * s : Nat) : Int) := by push_cast; rfl
              rw [e, IntKind.wrap_i64]; omega
            have HNX := Lib.hid (show ∃ t, (k + 1 < n → ∀ g', some (⟨g, 0, none⟩ : Addr) = some ⟨g', 0, none⟩ → Sx w g' (k + 1) t) ∧ t.len + (k + 1) = n ∧ Good false t ∧ AllW CntC t ∧ (gStr t).length ≤ 900 ∧ gCnt t (min (m * s) 65) = d from
              ⟨r, fun _ g' e => by injection e with e; injection e with e; subst e; exact HR1.out.2.2.2.2, HR1.out.2.2.2.1, HR1.out.1, HR1.out.2.1, HR1.out.2.2.1, HTC.out⟩)
            obtain ⟨ms, hmse⟩ : ∃ ms, m * s = ms := ⟨_, rfl⟩
            rw [hmse] at wmul hms HNX
            clear hul hug huc hmse HU HR1 HTC
            go_wp2
            go_roundw
            case rel => exact ⟨k + 1, min ms 65, by omega, by simp; split <;> omega, by go_num, Nat.min_le_right _ _, HB2.out, HNX.out⟩
            case measure => simp [intOf]; omega
    · obtain rfl : k = n := by omega
      obtain ⟨t, -, htl, htg, -, -, htc⟩ := HT.out
      have : t = .nil := by
        cases t with
        | nil => rfl
        | atom a r => simp only [Tr.len] at htl; omega
        | br ws r => simp only [Tr.len] at htl; omega
        | none => exact htg.elim
        | way p ws => exact htg.elim
      subst this
      obtain rfl : m = d := htc
      go_wp2
      go_ret
      exact ⟨rfl, HB.out⟩
theorem count_c (l : Tr) : CntC l := (tr_ind count_of l).1
end Go.Proofs.YtkgmglncdiccfaaDoor.GP
