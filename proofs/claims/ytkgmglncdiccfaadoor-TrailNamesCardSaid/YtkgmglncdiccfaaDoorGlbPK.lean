/-
  Contracts of the program's functions of layer 15: fits.
-/
import Derived.Test.YtkgmglncdiccfaaDoorGlbTx
import Derived.Test.YtkgmglncdiccfaaDoorGlbPD
import Derived.Shelf.Abstract
import Derived.BigQuiet
set_option linter.unusedSimpArgs false
set_option linter.unusedVariables false
namespace Go.Proofs.YtkgmglncdiccfaaDoor.GP
open Go.RowKit
def inRn (x : Nat) (r : Nat × Nat) : Bool := decide (r.1 ≤ x) && decide (x ≤ r.2)
set_option maxRecDepth 100000 in
set_option maxHeartbeats 2000000 in
theorem inside_c (lo hi x : Nat) (pb : Nat) (w : World) (c0 : w.cell? ⟨pb, 0, none⟩ = some (.int .u8 (x : Nat))) :
    Calls Tryd.prog 59 #[.agg #[.int .u8 (lo : Nat), .int .u8 (hi : Nat)], .pointer (some ⟨pb, 0, none⟩)] w fun e w' => e = .returned (.bool (inRn x (lo, hi))) ∧ Below w.heap.size w w' := by
  have hd : inRn x (lo, hi) = (decide ((lo : Int) ≤ (x : Int)) && decide ((x : Int) ≤ (hi : Int))) := by
    unfold inRn
    congr 1 <;> rw [decide_eq_decide] <;> omega
  rw [hd]
  have HBX := Lib.hid (alloc_below w (.cells #[.int .u8 (lo : Nat), .int .u8 (hi : Nat)] 86))
  have k0 := cellb HBX.out c0
  clear hd
  go_enter Tryd.func59, Tryd.ntmps59
  by_cases h1 : (lo : Int) ≤ (x : Int)
  · rw [decide_eq_true h1]
    go_wp2
    go_ret
    exact ⟨by simp, HBX.out⟩
  · rw [decide_eq_false h1]
    go_wp2
    go_ret
    exact ⟨by simp, HBX.out⟩
theorem eg_in : ∀ args w, (callFunc 59 args).run Tryd.prog w = .ok (.enter 59 args) w := enters_of Tryd.func59 (by kernel_rfl) rfl
def fiI (o : Option Nat) : Int := match o with
  | some k => (k : Int)
  | none => -1
theorem fi_at {α : Type} {L : List α} {p : α → Bool} {k : Nat} {r : α} (h1 : L[k]? = some r) (h2 : p r = true) (h3 : ∀ (j : Nat) (r : α), j < k → L[j]? = some r → p r = false) : fiI (L.findIdx? p) = (k : Int) := by
  have hk := (List.getElem?_eq_some_iff.1 h1).1
  have h : L.findIdx? p = some k := List.findIdx?_eq_some_iff_getElem.2 ⟨hk, by rw [List.getElem?_eq_getElem hk] at h1; rw [Option.some.inj h1]; exact h2, fun j hj => by rw [h3 j _ hj (List.getElem?_eq_getElem (by omega))]; simp⟩
  rw [h]
  rfl
theorem fi_none {α : Type} {L : List α} {p : α → Bool} (h3 : ∀ (j : Nat) (r : α), L[j]? = some r → p r = false) : fiI (L.findIdx? p) = -1 := by
  have h : L.findIdx? p = none := List.findIdx?_eq_none_iff.2 fun x hx => by
    obtain ⟨j, hj⟩ := List.getElem?_of_mem hx
    exact h3 j x hj
  rw [h]
  rfl
theorem fi_any {α : Type} (L : List α) (p : α → Bool) : decide (0 ≤ fiI (L.findIdx? p)) = L.any p := by
  cases h : L.findIdx? p with
  | none =>
    have : L.any p = false := by
      rw [List.any_eq_false]
      intro x hx
      have := List.findIdx?_eq_none_iff.1 h x hx
      simp [this]
    rw [this]
    rfl
  | some k =>
    obtain ⟨hk, h1, _⟩ := List.findIdx?_eq_some_iff_getElem.1 h
    have : L.any p = true := List.any_eq_true.2 ⟨_, List.getElem_mem hk, h1⟩
    rw [this]
    simp [fiI]
theorem RnR.form {w : World} {v : Value} {rs : List (Nat × Nat)} (h : RnR w v rs) : ∃ A c, v = .slice A rs.length c ∧ rs.length ≤ c ∧ (0 < rs.length → ∃ g, A = some ⟨g, 0, none⟩ ∧ ∀ (k : Nat) (r : Nat × Nat), rs[k]? = some r → w.cell? ⟨g, k * 2, none⟩ = some (.int .u8 (r.1 : Nat)) ∧ w.cell? ⟨g, k * 2 + 1, none⟩ = some (.int .u8 (r.2 : Nat))) := by
  obtain ⟨A, c, rfl, hc, _⟩ := own_form h.1
  refine ⟨A, c, rfl, hc, fun hn => ?_⟩
  obtain ⟨g, c', hv, _, _, _, hcs, _⟩ := own_at h.1 hn
  injection hv with e1 _ _
  exact ⟨g, e1, fun k r hk => ⟨hcs _ _ (rnC_at rs k r hk).1, hcs _ _ (rnC_at rs k r hk).2⟩⟩
set_option maxRecDepth 100000 in
set_option maxHeartbeats 4000000 in
theorem index_c (x : Nat) (v : Value) (L : List (Nat × Nat)) (hl : L.length ≤ 1000) (pb : Nat) (w : World) (f : RnR w v L) (c0 : w.cell? ⟨pb, 0, none⟩ = some (.int .u8 (x : Nat))) :
    Calls Tryd.prog 67 #[v, .func (.func 59) #[] #[.pointer (some ⟨pb, 0, none⟩)]] w fun e w' => e = .returned (.int .i64 (fiI (L.findIdx? (inRn x)))) ∧ Below w.heap.size w w' := by
  have eg := eg_in
  obtain ⟨A, c, rfl, hcl, hx⟩ := RnR.form f
  obtain ⟨n, hln⟩ : ∃ n, L.length = n := ⟨_, rfl⟩
  obtain ⟨d, hd⟩ : ∃ d, fiI (L.findIdx? (inRn x)) = d := ⟨_, rfl⟩
  rw [hd]
  rw [hln] at hcl hl hx ⊢
  have HY := Lib.hid (fun (k : Nat) (r : Nat × Nat) (h1 : L[k]? = some r) (h2 : inRn x r = true) (h3 : ∀ (j : Nat) (r : Nat × Nat), j < k → L[j]? = some r → inRn x r = false) => show (k : Int) = d from (fi_at h1 h2 h3).symm.trans hd)
  have HNO := Lib.hid (fun (h3 : ∀ (j : Nat) (r : Nat × Nat), L[j]? = some r → inRn x r = false) => show (-1 : Int) = d from (fi_none h3).symm.trans hd)
  have CL := Lib.hid (fun (W : World) (hb : Below w.heap.size w W) (lo hi : Nat) => inside_c lo hi x pb W (cellb hb c0))
  have HX := Lib.hid hx; have HN := Lib.hid hln
  clear hx hln hd c0 f
  go_enter Tryd.func67, Tryd.ntmps67
  go_wp2
  go_loopw [5, 8] (fun _ s8 wr => ∃ k : Nat, k ≤ n ∧ s8 = .int .i64 k ∧ Hid ((∀ (j : Nat) (r : Nat × Nat), j < k → L[j]? = some r → inRn x r = false) ∧ Below w.heap.size w wr)) (fun _ s8 _ => n - (intOf s8).toNat)
  case atStart => exact ⟨0, Nat.zero_le _, rfl, fun j r h => absurd h (Nat.not_lt_zero j), Below.refl _ _⟩
  case round =>
    as_aux_lemma =>
      obtain ⟨k, hk, rfl, HB⟩ := hrel
      by_cases hlt : k < n
      · obtain ⟨g, rfl, hcs⟩ := HX.out (by omega)
        obtain ⟨⟨lo, hi⟩, hp⟩ : ∃ r, L[k]? = some r := ⟨_, List.getElem?_eq_getElem (by rw [HN.out]; exact hlt)⟩
        have k0 := cellb HB.out.2 (hcs k _ hp).1
        have k1 := cellb HB.out.2 (hcs k _ hp).2
        have hc := CL.out wr HB.out.2 lo hi
        cases hpr : inRn x (lo, hi)
        · rw [hpr] at hc
          have NX := Lib.hid (show ∀ (j : Nat) (r : Nat × Nat), j < k + 1 → L[j]? = some r → inRn x r = false from fun j r h1 h2 => by
            rcases Nat.lt_or_ge j k with h | h
            · exact HB.out.1 j r h h2
            · obtain rfl : j = k := by omega
              rw [hp] at h2
              obtain rfl := Option.some.inj h2
              exact hpr)
          clear hpr hp hcs
          go_wp2_with (go_at_fn 59; refine hc.mono ?_; rintro e w2 ⟨rfl, hb2⟩)
          go_roundw
          case rel => exact ⟨k + 1, by omega, by go_num, NX.out, bnext HB.out.2 hb2⟩
          case measure => simp [intOf]; omega
        · rw [hpr] at hc
          have DK := Lib.hid (HY.out k _ hp hpr HB.out.1)
          clear hpr hp hcs
          go_wp2_with (go_at_fn 59; refine hc.mono ?_; rintro e w2 ⟨rfl, hb2⟩)
          go_ret
          exact ⟨congrArg (fun z => Ending.returned (.int .i64 z)) DK.out, bnext HB.out.2 hb2⟩
      · obtain rfl : k = n := by omega
        have DK := Lib.hid (HNO.out (fun j r h2 => HB.out.1 j r (by have := (List.getElem?_eq_some_iff.1 h2).1; have := HN.out; omega) h2))
        go_wp2
        go_ret
        exact ⟨congrArg (fun z => Ending.returned (.int .i64 z)) DK.out, HB.out.2⟩
set_option maxRecDepth 100000 in
set_option maxHeartbeats 4000000 in
theorem contains_c (x : Nat) (v : Value) (L : List (Nat × Nat)) (hl : L.length ≤ 1000) (pb : Nat) (w : World) (f : RnR w v L) (c0 : w.cell? ⟨pb, 0, none⟩ = some (.int .u8 (x : Nat))) :
    Calls Tryd.prog 58 #[v, .func (.func 59) #[] #[.pointer (some ⟨pb, 0, none⟩)]] w fun e w' => e = .returned (.bool (L.any (inRn x))) ∧ Below w.heap.size w w' := by
  have IC := Lib.hid (index_c x v L hl pb w f c0)
  have HD := Lib.hid (fi_any L (inRn x))
  obtain ⟨q, hq⟩ : ∃ q, fiI (L.findIdx? (inRn x)) = q := ⟨_, rfl⟩
  rw [hq] at IC HD
  clear hq f c0
  go_enter Tryd.func58, Tryd.ntmps58
  go_wp2_with fail
  refine IC.out.mono ?_; rintro _ w2 ⟨rfl, hb2⟩
  go_wp2
  go_ret
  exact ⟨congrArg (fun z => Ending.returned (.bool z)) HD.out, hb2⟩
set_option maxRecDepth 100000 in
set_option maxHeartbeats 4000000 in
theorem fits_c (a : GA) (hg : a.Good) (hst : a.kind ≠ 2) (hl : a.txt.length ≤ 900) (hrl : a.rows.length ≤ 1000) (A1 : Option Addr) (n1 c1 : Nat) (x : Nat) (w : World) (h : RnR w (.slice A1 n1 c1) a.rows) :
    Calls Tryd.prog 49 #[.agg #[.int .i64 (a.kind : Nat), .string (str a.txt), .slice A1 n1 c1, .slice none 0 0], .int .u8 (x : Nat)] w fun e w' => e = .returned (.bool (a.fit x)) ∧ Below w.heap.size w w' := by
  cases a with
  | star => exact absurd rfl hst
  | each =>
    have HBX := Lib.hid (bnext (alloc_below w (.cells #[.int .i64 1, .string (str [63]), .slice A1 n1 c1, .slice none 0 0] 70)) (alloc_below _ (.cells #[.int .u8 (x : Nat)] 5)))
    show Calls Tryd.prog _ #[.agg #[.int .i64 1, .string (str [63]), .slice A1 n1 c1, .slice none 0 0], .int .u8 (x : Nat)] w fun e w' => e = .returned (.bool true) ∧ Below w.heap.size w w'
    go_enter Tryd.func49, Tryd.ntmps49
    go_wp2
    go_ret
    exact ⟨rfl, HBX.out⟩
  | one c =>
    have hc : isB c = true := hg
    have hc256 : c < 256 := by
      rcases Nat.lt_or_ge c 256 with h | h
      · exact h
      · exfalso
        unfold isB at hc
        simp at hc
        omega
    obtain ⟨hz, hr0⟩ := str_first (t := []) hc256
    have e1 : (GA.one c).fit x = decide ((c : Int) = (x : Int)) := by
      show decide (c = x) = _
      rw [decide_eq_decide]
      omega
    rw [e1]
    show Calls Tryd.prog _ #[.agg #[.int .i64 0, .string (str [c]), .slice A1 n1 c1, .slice none 0 0], .int .u8 (x : Nat)] w _
    obtain ⟨R, hR⟩ : ∃ R, str [c] = R := ⟨_, rfl⟩
    have hz1 : (0 : Int) < (R.size : Int) := by rw [← hR, str_size]; simp
    obtain ⟨hzR, hR0⟩ : ∃ h : 0 < R.size, (R[0]'h).toNat = c := by subst hR; exact ⟨hz, hr0⟩
    rw [hR]
    have HBX := Lib.hid (bnext (alloc_below w (.cells #[.int .i64 0, .string R, .slice A1 n1 c1, .slice none 0 0] 70)) (alloc_below _ (.cells #[.int .u8 (x : Nat)] 5)))
    clear hR hz hr0 e1 hg h
    go_enter Tryd.func49, Tryd.ntmps49
    go_wp2
    go_region
    go_wp2
    go_ret
    exact ⟨rfl, HBX.out.drew⟩
  | cls t rs =>
    have e1 : (GA.cls t rs).fit x = rs.any (inRn x) := rfl
    rw [e1]
    show Calls Tryd.prog _ #[.agg #[.int .i64 3, .string (str t), .slice A1 n1 c1, .slice none 0 0], .int .u8 (x : Nat)] w _
    obtain ⟨R, hR⟩ : ∃ R, str t = R := ⟨_, rfl⟩
    rw [hR]
    have hmf : ∀ (fn : Fn) (first cap : Array Value) (w : World), (Instr.makeFunc fn first cap).run Tryd.prog w = .ok (.func fn first cap) w := fun _ _ _ _ => rfl
    have hb0 := bnext (alloc_below w (.cells #[.int .i64 3, .string R, .slice A1 n1 c1, .slice none 0 0] 70)) (alloc_below _ (.cells #[.int .u8 (x : Nat)] 5))
    have hpb := holds_alloc (w.alloc (.cells #[.int .i64 3, .string R, .slice A1 n1 c1, .slice none 0 0] 70)) [.int .u8 (x : Nat)] 5 0 _ rfl
    rw [show (w.alloc (.cells #[.int .i64 3, .string R, .slice A1 n1 c1, .slice none 0 0] 70)).heap.size = w.heap.size + 1 by simp] at hpb
    have CC := Lib.hid (contains_c x (.slice A1 n1 c1) rs hrl (w.heap.size + 1) _ (RnR.below h hb0) hpb)
    have HBX := Lib.hid hb0
    clear hb0 hpb e1 hR hg h
    go_enter Tryd.func49, Tryd.ntmps49
    go_wp2_with fail
    refine CC.out.mono ?_; rintro _ w2 ⟨rfl, hb2⟩
    have HB2 := Lib.hid (bnext HBX.out hb2)
    clear hb2
    go_wp2
    go_ret
    exact ⟨rfl, HB2.out⟩
end Go.Proofs.YtkgmglncdiccfaaDoor.GP
