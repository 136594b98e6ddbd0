/-
  Texts of the trie's proofs, merged: GlbPK, GlbPL, GlbPM, GlbPN, GlbPO.
-/
import Derived.Test.YtbfbjalnahngjaaGreatDoorTriQ5
import Derived.Test.YtbfbjalnahngjaaGreatDoorTriQ3
import Derived.Shelf.Abstract
import Derived.BigQuiet
import Derived.Test.YtbfbjalnahngjaaGreatDoorTriQ4
import Derived.BigRegion
import Derived.Deep.RegionWith
import Derived.Deep.RegionHeld3
set_option linter.unusedSimpArgs false
set_option linter.unusedVariables false
namespace Go.Proofs.YtbfbjalnahngjaaGreatDoor.GP
open Go.RowKit
def inRn (x : Nat) (r : Nat × Nat) : Bool := decide (r.1 ≤ x) && decide (x ≤ r.2)
set_option maxRecDepth 100000 in
set_option maxHeartbeats 2000000 in
theorem inside_c (lo hi x : Nat) (pb : Nat) (w : World) (c0 : w.cell? ⟨pb, 0, none⟩ = some (.int .u8 (x : Nat))) :
    Calls Tryz.prog 126 #[.agg #[.int .u8 (lo : Nat), .int .u8 (hi : Nat)], .pointer (some ⟨pb, 0, none⟩)] w fun e w' => e = .returned (.bool (inRn x (lo, hi))) ∧ Below w.heap.size w w' := by
  have hd : inRn x (lo, hi) = (decide ((lo : Int) ≤ (x : Int)) && decide ((x : Int) ≤ (hi : Int))) := by
    unfold inRn
    congr 1 <;> rw [decide_eq_decide] <;> omega
  rw [hd]
  have HBX := Lib.hid (alloc_below w (.cells #[.int .u8 (lo : Nat), .int .u8 (hi : Nat)] 147))
  have k0 := cellb HBX.out c0
  clear hd
  go_enter Tryz.func126, Tryz.ntmps126
  by_cases h1 : (lo : Int) ≤ (x : Int)
  · rw [decide_eq_true h1]
    go_wp2
    go_ret
    exact ⟨by simp, HBX.out⟩
  · rw [decide_eq_false h1]
    go_wp2
    go_ret
    exact ⟨by simp, HBX.out⟩
theorem eg_in : ∀ args w, (callFunc 126 args).run Tryz.prog w = .ok (.enter 126 args) w := enters_of Tryz.func126 (by kernel_rfl) rfl
def fiI (o : Option Nat) : Int := match o with
  | some k => (k : Int)
  | none => -1
theorem fi_at {α : Type} {L : List α} {p : α → Bool} {k : Nat} {r : α} (h1 : L[k]? = some r) (h2 : p r = true) (h3 : ∀ (j : Nat) (r : α), j < k → L[j]? = some r → p r = false) : fiI (L.findIdx? p) = (k : Int) := by
  have hk := (List.getElem?_eq_some_iff.1 h1).1
  have h : L.findIdx? p = some k := List.findIdx?_eq_some_iff_getElem.2 ⟨hk, by rw [List.getElem?_eq_getElem hk] at h1; rw [Option.some.inj h1]; exact h2, fun j hj => by rw [h3 j _ hj (List.getElem?_eq_getElem (by omega))]; simp⟩
  rw [h]
  rfl
theorem fi_none {α : Type} {L : List α} {p : α → Bool} (h3 : ∀ (j : Nat) (r : α), L[j]? = some r → p r = false) : fiI (L.findIdx? p) = -1 := by
  have h : L.findIdx? p = none := List.findIdx?_eq_none_iff.2 fun x hx => by
    obtain ⟨j, hj⟩ := List.getElem?_of_mem hx
    exact h3 j x hj
  rw [h]
  rfl
theorem fi_any {α : Type} (L : List α) (p : α → Bool) : decide (0 ≤ fiI (L.findIdx? p)) = L.any p := by
  cases h : L.findIdx? p with
  | none =>
    have : L.any p = false := by
      rw [List.any_eq_false]
      intro x hx
      have := List.findIdx?_eq_none_iff.1 h x hx
      simp [this]
    rw [this]
    rfl
  | some k =>
    obtain ⟨hk, h1, _⟩ := List.findIdx?_eq_some_iff_getElem.1 h
    have : L.any p = true := List.any_eq_true.2 ⟨_, List.getElem_mem hk, h1⟩
    rw [this]
    simp [fiI]
theorem RnR.form {w : World} {v : Value} {rs : List (Nat × Nat)} (h : RnR w v rs) : ∃ A c, v = .slice A rs.length c ∧ rs.length ≤ c ∧ (0 < rs.length → ∃ g, A = some ⟨g, 0, none⟩ ∧ ∀ (k : Nat) (r : Nat × Nat), rs[k]? = some r → w.cell? ⟨g, k * 2, none⟩ = some (.int .u8 (r.1 : Nat)) ∧ w.cell? ⟨g, k * 2 + 1, none⟩ = some (.int .u8 (r.2 : Nat))) := by
  obtain ⟨A, c, rfl, hc, _⟩ := own_form h.1
  refine ⟨A, c, rfl, hc, fun hn => ?_⟩
  obtain ⟨g, c', hv, _, _, _, hcs, _⟩ := own_at h.1 hn
  injection hv with e1 _ _
  exact ⟨g, e1, fun k r hk => ⟨hcs _ _ (rnC_at rs k r hk).1, hcs _ _ (rnC_at rs k r hk).2⟩⟩
set_option maxRecDepth 100000 in
set_option maxHeartbeats 4000000 in
theorem index_c (x : Nat) (v : Value) (L : List (Nat × Nat)) (hl : L.length ≤ 1000) (pb : Nat) (w : World) (f : RnR w v L) (c0 : w.cell? ⟨pb, 0, none⟩ = some (.int .u8 (x : Nat))) :
    Calls Tryz.prog 134 #[v, .func (.func 126) #[] #[.pointer (some ⟨pb, 0, none⟩)]] w fun e w' => e = .returned (.int .i64 (fiI (L.findIdx? (inRn x)))) ∧ Below w.heap.size w w' := by
  have eg := eg_in
  obtain ⟨A, c, rfl, hcl, hx⟩ := RnR.form f
  obtain ⟨n, hln⟩ : ∃ n, L.length = n := ⟨_, rfl⟩
  obtain ⟨d, hd⟩ : ∃ d, fiI (L.findIdx? (inRn x)) = d := ⟨_, rfl⟩
  rw [hd]
  rw [hln] at hcl hl hx ⊢
  have HY := Lib.hid (fun (k : Nat) (r : Nat × Nat) (h1 : L[k]? = some r) (h2 : inRn x r = true) (h3 : ∀ (j : Nat) (r : Nat × Nat), j < k → L[j]? = some r → inRn x r = false) => show (k : Int) = d from (fi_at h1 h2 h3).symm.trans hd)
  have HNO := Lib.hid (fun (h3 : ∀ (j : Nat) (r : Nat × Nat), L[j]? = some r → inRn x r = false) => show (-1 : Int) = d from (fi_none h3).symm.trans hd)
  have CL := Lib.hid (fun (W : World) (hb : Below w.heap.size w W) (lo hi : Nat) => inside_c lo hi x pb W (cellb hb c0))
  have HX := Lib.hid hx; have HN := Lib.hid hln
  clear hx hln hd c0 f
  go_enter Tryz.func134, Tryz.ntmps134
  go_wp2
  go_loopw [5, 8] (fun _ s8 wr => ∃ k : Nat, k ≤ n ∧ s8 = .int .i64 k ∧ Hid ((∀ (j : Nat) (r : Nat × Nat), j < k → L[j]? = some r → inRn x r = false) ∧ Below w.heap.size w wr)) (fun _ s8 _ => n - (intOf s8).toNat)
  case atStart => exact ⟨0, Nat.zero_le _, rfl, fun j r h => absurd h (Nat.not_lt_zero j), Below.refl _ _⟩
  case round =>
    as_aux_lemma =>
      obtain ⟨k, hk, rfl, HB⟩ := hrel
      by_cases hlt : k < n
      · obtain ⟨g, rfl, hcs⟩ := HX.out (by omega)
        obtain ⟨⟨lo, hi⟩, hp⟩ : ∃ r, L[k]? = some r := ⟨_, List.getElem?_eq_getElem (by rw [HN.out]; exact hlt)⟩
        have k0 := cellb HB.out.2 (hcs k _ hp).1
        have k1 := cellb HB.out.2 (hcs k _ hp).2
        have hc := CL.out wr HB.out.2 lo hi
        cases hpr : inRn x (lo, hi)
        · rw [hpr] at hc
          have NX := Lib.hid (show ∀ (j : Nat) (r : Nat × Nat), j < k + 1 → L[j]? = some r → inRn x r = false from fun j r h1 h2 => by
            rcases Nat.lt_or_ge j k with h | h
            · exact HB.out.1 j r h h2
            · obtain rfl : j = k := by omega
              rw [hp] at h2
              obtain rfl := Option.some.inj h2
              exact hpr)
          clear hpr hp hcs
          go_wp2_with (go_at_fn 126; refine hc.mono ?_; rintro e w2 ⟨rfl, hb2⟩)
          go_roundw
          case rel => exact ⟨k + 1, by omega, by go_num, NX.out, bnext HB.out.2 hb2⟩
          case measure => simp [intOf]; omega
        · rw [hpr] at hc
          have DK := Lib.hid (HY.out k _ hp hpr HB.out.1)
          clear hpr hp hcs
          go_wp2_with (go_at_fn 126; refine hc.mono ?_; rintro e w2 ⟨rfl, hb2⟩)
          go_ret
          exact ⟨congrArg (fun z => Ending.returned (.int .i64 z)) DK.out, bnext HB.out.2 hb2⟩
      · obtain rfl : k = n := by omega
        have DK := Lib.hid (HNO.out (fun j r h2 => HB.out.1 j r (by have := (List.getElem?_eq_some_iff.1 h2).1; have := HN.out; omega) h2))
        go_wp2
        go_ret
        exact ⟨congrArg (fun z => Ending.returned (.int .i64 z)) DK.out, HB.out.2⟩
set_option maxRecDepth 100000 in
set_option maxHeartbeats 4000000 in
theorem contains_c (x : Nat) (v : Value) (L : List (Nat × Nat)) (hl : L.length ≤ 1000) (pb : Nat) (w : World) (f : RnR w v L) (c0 : w.cell? ⟨pb, 0, none⟩ = some (.int .u8 (x : Nat))) :
    Calls Tryz.prog 125 #[v, .func (.func 126) #[] #[.pointer (some ⟨pb, 0, none⟩)]] w fun e w' => e = .returned (.bool (L.any (inRn x))) ∧ Below w.heap.size w w' := by
  have IC := Lib.hid (index_c x v L hl pb w f c0)
  have HD := Lib.hid (fi_any L (inRn x))
  obtain ⟨q, hq⟩ : ∃ q, fiI (L.findIdx? (inRn x)) = q := ⟨_, rfl⟩
  rw [hq] at IC HD
  clear hq f c0
  go_enter Tryz.func125, Tryz.ntmps125
  go_wp2_with fail
  refine IC.out.mono ?_; rintro _ w2 ⟨rfl, hb2⟩
  go_wp2
  go_ret
  exact ⟨congrArg (fun z => Ending.returned (.bool z)) HD.out, hb2⟩
set_option maxRecDepth 100000 in
set_option maxHeartbeats 4000000 in
theorem fits_c (a : GA) (hg : a.Good) (hst : a.kind ≠ 2) (hl : a.txt.length ≤ 900) (hrl : a.rows.length ≤ 1000) (A1 : Option Addr) (n1 c1 : Nat) (x : Nat) (w : World) (h : RnR w (.slice A1 n1 c1) a.rows) :
    Calls Tryz.prog 115 #[.agg #[.int .i64 (a.kind : Nat), .string (str a.txt), .slice A1 n1 c1, .slice none 0 0], .int .u8 (x : Nat)] w fun e w' => e = .returned (.bool (a.fit x)) ∧ Below w.heap.size w w' := by
  cases a with
  | star => exact absurd rfl hst
  | each =>
    have HBX := Lib.hid (bnext (alloc_below w (.cells #[.int .i64 1, .string (str [63]), .slice A1 n1 c1, .slice none 0 0] 129)) (alloc_below _ (.cells #[.int .u8 (x : Nat)] 5)))
    show Calls Tryz.prog _ #[.agg #[.int .i64 1, .string (str [63]), .slice A1 n1 c1, .slice none 0 0], .int .u8 (x : Nat)] w fun e w' => e = .returned (.bool true) ∧ Below w.heap.size w w'
    go_enter Tryz.func115, Tryz.ntmps115
    go_wp2
    go_ret
    exact ⟨rfl, HBX.out⟩
  | one c =>
    have hc : isB c = true := hg
    have hc256 : c < 256 := by
      rcases Nat.lt_or_ge c 256 with h | h
      · exact h
      · exfalso
        unfold isB at hc
        simp at hc
        omega
    obtain ⟨hz, hr0⟩ := str_first (t := []) hc256
    have e1 : (GA.one c).fit x = decide ((c : Int) = (x : Int)) := by
      show decide (c = x) = _
      rw [decide_eq_decide]
      omega
    rw [e1]
    show Calls Tryz.prog _ #[.agg #[.int .i64 0, .string (str [c]), .slice A1 n1 c1, .slice none 0 0], .int .u8 (x : Nat)] w _
    obtain ⟨R, hR⟩ : ∃ R, str [c] = R := ⟨_, rfl⟩
    have hz1 : (0 : Int) < (R.size : Int) := by rw [← hR, str_size]; simp
    obtain ⟨hzR, hR0⟩ : ∃ h : 0 < R.size, (R[0]'h).toNat = c := by subst hR; exact ⟨hz, hr0⟩
    rw [hR]
    have HBX := Lib.hid (bnext (alloc_below w (.cells #[.int .i64 0, .string R, .slice A1 n1 c1, .slice none 0 0] 129)) (alloc_below _ (.cells #[.int .u8 (x : Nat)] 5)))
    clear hR hz hr0 e1 hg h
    go_enter Tryz.func115, Tryz.ntmps115
    go_wp2
    go_region
    go_wp2
    go_ret
    exact ⟨rfl, HBX.out.drew⟩
  | cls t rs =>
    have e1 : (GA.cls t rs).fit x = rs.any (inRn x) := rfl
    rw [e1]
    show Calls Tryz.prog _ #[.agg #[.int .i64 3, .string (str t), .slice A1 n1 c1, .slice none 0 0], .int .u8 (x : Nat)] w _
    obtain ⟨R, hR⟩ : ∃ R, str t = R := ⟨_, rfl⟩
    rw [hR]
    have hmf : ∀ (fn : Fn) (first cap : Array Value) (w : World), (Instr.makeFunc fn first cap).run Tryz.prog w = .ok (.func fn first cap) w := fun _ _ _ _ => rfl
    have hb0 := bnext (alloc_below w (.cells #[.int .i64 3, .string R, .slice A1 n1 c1, .slice none 0 0] 129)) (alloc_below _ (.cells #[.int .u8 (x : Nat)] 5))
    have hpb := holds_alloc (w.alloc (.cells #[.int .i64 3, .string R, .slice A1 n1 c1, .slice none 0 0] 129)) [.int .u8 (x : Nat)] 5 0 _ rfl
    rw [show (w.alloc (.cells #[.int .i64 3, .string R, .slice A1 n1 c1, .slice none 0 0] 129)).heap.size = w.heap.size + 1 by simp] at hpb
    have CC := Lib.hid (contains_c x (.slice A1 n1 c1) rs hrl (w.heap.size + 1) _ (RnR.below h hb0) hpb)
    have HBX := Lib.hid hb0
    clear hb0 hpb e1 hR hg h
    go_enter Tryz.func115, Tryz.ntmps115
    go_wp2_with fail
    refine CC.out.mono ?_; rintro _ w2 ⟨rfl, hb2⟩
    have HB2 := Lib.hid (bnext HBX.out hb2)
    clear hb2
    go_wp2
    go_ret
    exact ⟨rfl, HB2.out⟩
end Go.Proofs.YtbfbjalnahngjaaGreatDoor.GP
namespace Go.Proofs.YtbfbjalnahngjaaGreatDoor.GP
open Go.RowKit
/-- lead keeps its word. -/
def LdC (l : Tr) : Prop := Good false l → (gStr l).length ≤ 900 → ∀ (v : Value) (N : ByteArray) (g c : Nat) (f : Nat → Bool) (w : World), N.size ≤ 900 → N.size + 1 ≤ c → TrR w v l → BRow w g (N.size + 1) f →
    Calls Tryz.prog 84 #[.slice (some ⟨g, 0, none⟩) (N.size + 1) c, v, .string N] w fun e w' => ∃ g' c', e = .returned (.slice (some ⟨g', 0, none⟩) (N.size + 1) c') ∧ N.size + 1 ≤ c' ∧ (g' = g ∨ w.heap.size ≤ g') ∧ BRow w' g' (N.size + 1) (gLd (bs N) l f) ∧ Below w.heap.size w w'
theorem below_own {w w' : World} {g o : Nat} {u : Value} (h : Below w.heap.size w w') (hg : w.heap.size < g) : Below w.heap.size w (w'.setCell ⟨g, o, none⟩ u) := h.setCell (p := ⟨g, o, none⟩) (Nat.le_of_lt hg) u
set_option maxRecDepth 100000 in
set_option maxHeartbeats 4000000 in
theorem lead_star (s : ByteArray) (A1 A2 : Option Addr) (n1 c1 n2 c2 : Nat) (N : ByteArray) (n g c : Nat) (f : Nat → Bool) (w : World) (hn : N.size = n) (hs : n ≤ 900) (hc : n + 1 ≤ c) (h : BRow w g (n + 1) f) :
    Calls Tryz.prog 105 #[.agg #[.int .i64 2, .string s, .slice A1 n1 c1, .slice A2 n2 c2], .slice (some ⟨g, 0, none⟩) (n + 1) c, .string N] w fun e w' => ∃ g' c', e = .returned (.slice (some ⟨g', 0, none⟩) (n + 1) c') ∧ n + 1 ≤ c' ∧ w.heap.size ≤ g' ∧ BRow w' g' (n + 1) (gAd (bs N) .star f) ∧ Below w.heap.size w w' := by
  obtain ⟨i0, hi0, hz0, hzz1, hzz2⟩ := info_parts bool_info
  have HB0 := Lib.hid (alloc_below w (.cells #[.int .i64 2, .string s, .slice A1 n1 c1, .slice A2 n2 c2] 129))
  have HH0 := Lib.hid (holds_alloc w [.int .i64 2, .string s, .slice A1 n1 c1, .slice A2 n2 c2] 129)
  have HR0 := Lib.hid h
  have hgl := h.lt
  clear h
  go_enter Tryz.func105, Tryz.ntmps105
  go_upto_region 2 with (at_make; refine wpList_make_full _ rfl _ _ 99 rfl 0 4 i0 (.bool false) 1 Tryz.underlying99 hi0 hz0 hzz1 .i64 .i64 _ _ (n + 1) rfl rfl (by omega) (by omega) (by rw [hzz2]; omega) (by unfold maxLen; omega) (Nat.zero_le _) ?_; intro w2 hown2 hg2)
  have hbl := below_none hg2
  have hx2 := BRow.made hown2 (Nat.succ_pos n)
  have hsz : (w.alloc (.cells #[.int .i64 2, .string s, .slice A1 n1 c1, .slice A2 n2 c2] 129)).heap.size = w.heap.size + 1 := by simp
  rw [hsz] at hx2
  have HX2 := Lib.hid hx2
  have HB2 := Lib.hid (bnext HB0.out hbl)
  have HR2 := Lib.hid (HR0.out.below HB2.out)
  obtain ⟨b0, b1, b2, b3⟩ := (Holds.below HH0.out hbl).four
  obtain ⟨gx, hgx⟩ : ∃ gx, w.heap.size + 1 = gx := ⟨_, rfl⟩
  have hgw : w.heap.size < gx := by omega
  have hgne : ¬ gx = g := by omega
  rw [hgx] at HX2 ⊢
  clear hown2 hg2 hbl hx2 hsz hgx HB0 HH0 HR0
  go_wp2_with fail
  go_loopw [8, 9, 10, 49] (fun v8 _ _ v49 wr => ∃ k : Nat, v49 = .int .i64 (k : Nat) ∧ k ≤ n + 1 ∧ v8 = .bool (reachd f k) ∧ Hid (BRow wr g (n + 1) f) ∧ Hid (BRow wr gx (n + 1) (fun j => if j < k then gAd (bs N) .star f j else false)) ∧ Hid (Below w.heap.size w wr)) (fun _ _ _ v49 _ => n + 1 - (intOf v49).toNat)
  case atStart => exact ⟨0, rfl, Nat.zero_le _, rfl, HR2.out, HX2.out.congr (fun j _ => (if_neg (Nat.not_lt_zero j)).symm), HB2.out⟩
  case round =>
    as_aux_lemma =>
      obtain ⟨k, rfl, hk, rfl, HR, HX, HB⟩ := hrel
      by_cases hlt : k ≤ n
      · as_aux_lemma =>
          have cE := HR.out.c k (by omega)
          obtain ⟨x, hx⟩ : ∃ x, f k = x := ⟨_, rfl⟩
          rw [hx] at cE
          have ck := HX.out.c k (by omega)
          have fk := HX.out.fz k (by omega)
          obtain ⟨xo, hxo⟩ : ∃ x, (if k < k then gAd (bs N) .star f k else false) = x := ⟨_, rfl⟩
          have ck2 : wr.cell? ⟨gx, k, none⟩ = some (.bool xo) := by rw [← hxo]; exact ck
          obtain ⟨rk, hrk⟩ : ∃ rk, reachd f k = rk := ⟨_, rfl⟩
          have hnx : reachd f (k + 1) = (rk || x) := by rw [reachd_succ, hrk, hx]
          have HNX := Lib.hid hnx
          have HRX := Lib.hid (HX.out.step (x := rk || x) (k := k) (by omega) (by rw [gAd_star]; exact hnx))
          have hbI : (0 : Int) ≤ (k : Int) := by omega
          have hbJ : (k : Int) < (n : Int) + 1 := by omega
          have hbN : k < n + 1 := by omega
          rw [hrk]
          clear ck hxo hrk hnx hx
          cases rk with
          | true =>
            go_wp2
            go_roundw
            case rel => exact ⟨k + 1, by go_num, by omega, by rw [HNX.out]; rfl, HR.out.other hgne, HRX.out, below_own HB.out hgw⟩
            case measure => simp [intOf]; omega
          | false =>
            rw [Bool.false_or] at HRX
            go_wp2
            go_roundw
            case rel => exact ⟨k + 1, by go_num, by omega, by rw [HNX.out]; rfl, HR.out.other hgne, HRX.out, below_own HB.out hgw⟩
            case measure => simp [intOf]; omega
      · as_aux_lemma =>
          obtain rfl : k = n + 1 := by omega
          have HRE := Lib.hid (HX.out.congr (h := gAd (bs N) .star f) (fun j hj => if_pos hj))
          have hbJ : ¬ ((n + 1 : Nat) : Int) < (n : Int) + 1 := by omega
          clear HX
          go_wp2
          go_ret
          exact ⟨gx, n + 1, rfl, Nat.le_refl _, Nat.le_of_lt hgw, HRE.out, HB.out⟩
end Go.Proofs.YtbfbjalnahngjaaGreatDoor.GP
namespace Go.Proofs.YtbfbjalnahngjaaGreatDoor.GP
open Go.RowKit
theorem cell_off {w : World} {b o b2 o2 : Nat} {x u : Value} (hn : ¬ (b2 = b ∧ o2 = o)) (h : w.cell? ⟨b2, o2, none⟩ = some u) : (w.setCell ⟨b, o, none⟩ x).cell? ⟨b2, o2, none⟩ = some u :=
  (World.cell?_setCell_other w _ _ _ (by intro e; simp only [Addr.mk.injEq] at e; exact hn ⟨e.1.symm, e.2.1.symm⟩)).trans h
set_option maxRecDepth 100000 in
set_option maxHeartbeats 4000000 in
theorem lead_atom (a : GA) (ha : a.Good) (hst : a.kind ≠ 2) (hat : a.txt.length ≤ 900) (har : a.rows.length ≤ 1000) (A1 : Option Addr) (n1 c1 : Nat) (N : ByteArray) (n g c : Nat) (f : Nat → Bool) (w : World) (hn : N.size = n) (hs : n ≤ 900) (hc : n + 1 ≤ c) (h : BRow w g (n + 1) f) (hrn : RnR w (.slice A1 n1 c1) a.rows) :
    Calls Tryz.prog 105 #[.agg #[.int .i64 (a.kind : Nat), .string (str a.txt), .slice A1 n1 c1, .slice none 0 0], .slice (some ⟨g, 0, none⟩) (n + 1) c, .string N] w fun e w' => ∃ g' c', e = .returned (.slice (some ⟨g', 0, none⟩) (n + 1) c') ∧ n + 1 ≤ c' ∧ w.heap.size ≤ g' ∧ BRow w' g' (n + 1) (gAd (bs N) a f) ∧ Below w.heap.size w w' := by
  have hk4 : a.kind ≠ 4 := by cases a <;> simp [GA.kind]
  have FT := fun (x : Nat) (W : World) (hW : Below w.heap.size w W) => fits_c a ha hst hat har A1 n1 c1 x W (RnR.below hrn hW)
  have HZ := Lib.hid (gAd_zero (n := bs N) hst f); have HSU := Lib.hid (gAd_succ (n := bs N) hst f)
  obtain ⟨ka, hka⟩ : ∃ ka, a.kind = ka := ⟨_, rfl⟩
  obtain ⟨T, hT⟩ : ∃ T, str a.txt = T := ⟨_, rfl⟩
  rw [hka, hT] at FT
  rw [hka] at hst hk4
  rw [hka, hT]
  have i2 : ¬ (ka : Int) = 2 := by omega
  have i4 : ¬ (ka : Int) = 4 := by omega
  have i2b : ((ka : Int) == 2) = false := beq_false_of_ne i2
  have i4b : ((ka : Int) == 4) = false := beq_false_of_ne i4
  have HFT := Lib.hid FT
  clear hka hT FT hrn ha hat har hst hk4
  obtain ⟨i0, hi0, hz0, hzz1, hzz2⟩ := info_parts bool_info
  have HB0 := Lib.hid (alloc_below w (.cells #[.int .i64 (ka : Nat), .string T, .slice A1 n1 c1, .slice none 0 0] 129))
  have HH0 := Lib.hid (holds_alloc w [.int .i64 (ka : Nat), .string T, .slice A1 n1 c1, .slice none 0 0] 129)
  have HR0 := Lib.hid h
  have hgl := h.lt
  clear h
  go_enter Tryz.func105, Tryz.ntmps105
  go_upto_region 2 with (at_make; refine wpList_make_full _ rfl _ _ 99 rfl 0 4 i0 (.bool false) 1 Tryz.underlying99 hi0 hz0 hzz1 .i64 .i64 _ _ (n + 1) rfl rfl (by omega) (by omega) (by rw [hzz2]; omega) (by unfold maxLen; omega) (Nat.zero_le _) ?_; intro w2 hown2 hg2)
  have hbl := below_none hg2
  have hx2 := BRow.made hown2 (Nat.succ_pos n)
  have hsz : (w.alloc (.cells #[.int .i64 (ka : Nat), .string T, .slice A1 n1 c1, .slice none 0 0] 129)).heap.size = w.heap.size + 1 := by simp
  rw [hsz] at hx2
  have HX2 := Lib.hid hx2
  have HB2 := Lib.hid (bnext HB0.out hbl)
  have HR2 := Lib.hid (HR0.out.below HB2.out)
  have HH2 := Lib.hid (Holds.below HH0.out hbl)
  obtain ⟨b0, b1, b2, b3⟩ := HH2.out.four
  obtain ⟨gx, hgx⟩ : ∃ gx, w.heap.size + 1 = gx := ⟨_, rfl⟩
  have hgw : w.heap.size < gx := by omega
  have hgne : ¬ gx = g := by omega
  rw [hgx] at HX2 ⊢
  clear hown2 hg2 hbl hx2 hsz hgx HB0 HH0 HR0
  have hnc : (n : Int) ≤ (c : Int) := by omega
  have hnn : (n : Int) ≤ (n : Int) + 1 := by omega
  go_wp2_with fail
  go_loopw [15, 16, 27] (fun _ _ v27 wr => ∃ k : Nat, v27 = .int .i64 (k : Nat) ∧ k ≤ n ∧ Hid (Holds wr w.heap.size [.int .i64 (ka : Nat), .string T, .slice A1 n1 c1, .slice none 0 0]) ∧ Hid (BRow wr g (n + 1) f) ∧ Hid (BRow wr gx (n + 1) (fun j => if j < k + 1 then gAd (bs N) a f j else false)) ∧ Hid (Below w.heap.size w wr)) (fun _ _ v27 _ => n - (intOf v27).toNat)
  case atStart => exact ⟨0, rfl, Nat.zero_le _, HH2.out, HR2.out, HX2.out.congr (fun j _ => by
    by_cases hj : j < 1
    · rw [if_pos hj, show j = 0 by omega, HZ.out]
    · rw [if_neg hj]), HB2.out⟩
  case round =>
    as_aux_lemma =>
      obtain ⟨k, rfl, hk, HH, HR, HX, HB⟩ := hrel
      by_cases hlt : k < n
      · as_aux_lemma =>
          obtain ⟨z0, z1, z2, z3⟩ := HH.out.four
          have hkN : k < N.size := by omega
          obtain ⟨ch, hch, hx0, hc256⟩ := bs_get hkN
          have cE := HR.out.c k (by omega)
          obtain ⟨x, hx⟩ : ∃ x, f k = x := ⟨_, rfl⟩
          rw [hx] at cE
          have hnx : gAd (bs N) a f (k + 1) = (x && a.fit ch) := by rw [HSU.out, hx, hch]
          have ck := HX.out.c (k + 1) (by omega)
          have fk := HX.out.fz (k + 1) (by omega)
          obtain ⟨xo, hxo⟩ : ∃ x, (if k + 1 < k + 1 then gAd (bs N) a f (k + 1) else false) = x := ⟨_, rfl⟩
          have ck2 : wr.cell? ⟨gx, k + 1, none⟩ = some (.bool xo) := by rw [← hxo]; exact ck
          have HRX := Lib.hid (fun (W : World) (hW : BRow W gx (n + 1) (fun j => if j < k + 1 then gAd (bs N) a f j else false)) => hW.step (x := x && a.fit ch) (k := k + 1) (by omega) hnx)
          have hw1 : IntKind.i64.wrap ((k : Int) + 1) = (k : Int) + 1 := by rw [IntKind.wrap_i64]; omega
          have hbI : (0 : Int) ≤ (k : Int) + 1 := by omega
          have hbJ : (k : Int) + 1 < (n : Int) + 1 := by omega
          have hbK : (k : Int) < (n : Int) := by omega
          have FC := Lib.hid (fun W hW => HFT.out ch W hW)
          clear ck hxo hnx hx hch
          cases x with
          | false =>
            rw [Bool.false_and] at HRX
            go_upto_region 6 with (fail)
            go_region
            go_wp2
            go_roundw
            case rel => exact ⟨k + 1, by go_num, by omega, (HH.out.setOther (show gx ≠ w.heap.size by omega) (j := k + 1) (.bool false)), (HR.out.other hgne).drew, (HRX.out wr HX.out).drew, (below_own HB.out hgw).drew⟩
            case measure => simp [intOf]; omega
          | true =>
            rw [Bool.true_and] at HRX
            obtain ⟨fd, hfd⟩ : ∃ fd, a.fit ch = fd := ⟨_, rfl⟩
            rw [hfd] at HRX FC
            clear hfd
            go_upto_region 6 with (fail)
            go_region_held3 (fun y => y.cell? ⟨w.heap.size, 0, none⟩ = some (.int .i64 (ka : Nat)) ∧ y.cell? ⟨w.heap.size, 1, none⟩ = some (.string T) ∧ y.cell? ⟨w.heap.size, 2, none⟩ = some (.slice A1 n1 c1) ∧ y.cell? ⟨w.heap.size, 3, none⟩ = some (.slice none 0 0))
              (first | exact ⟨cell_off (by omega) s0, cell_off (by omega) s1, cell_off (by omega) s2, cell_off (by omega) s3⟩ | go_keep)
              (first | (go_at_call 115; refine (FC.out _ HB.out.drew).mono ?_; rintro e w5 ⟨rfl, hb5⟩; have s0 := cellb hb5 z0; have s1 := cellb hb5 z1; have s2 := cellb hb5 z2; have s3 := cellb hb5 z3; have n4 := cellb hb5 ck2; have n5 := (hb5.frozen (p := ⟨gx, k + 1, none⟩) (HX.out.lt)).trans fk))
            have HH5 := Lib.hid ((Holds.below HH.out.drew hb5).setOther (show gx ≠ w.heap.size by omega) (j := k + 1) (.bool fd))
            have HR5 := Lib.hid ((HR.out.drew.below hb5).other (b := gx) (o := k + 1) (u := .bool fd) hgne)
            have HX5 := Lib.hid (HRX.out w5 (HX.out.drew.below hb5))
            have HB5 := Lib.hid (below_own (o := k + 1) (u := .bool fd) (HB.out.drew.trans (hb5.mono (by have := HB.out.size; simpa using this))) hgw)
            clear hb5
            go_wp2
            go_roundw
            case rel => exact ⟨k + 1, by go_num, by omega, HH5.out, HR5.out, HX5.out, HB5.out⟩
            case measure => simp [intOf]; omega
      · as_aux_lemma =>
          obtain rfl : k = n := by omega
          have HRE := Lib.hid (HX.out.congr (h := gAd (bs N) a f) (fun j hj => if_pos hj))
          clear HX
          go_wp2
          go_ret
          exact ⟨gx, k + 1, rfl, Nat.le_refl _, Nat.le_of_lt hgw, HRE.out, HB.out⟩
end Go.Proofs.YtbfbjalnahngjaaGreatDoor.GP
namespace Go.Proofs.YtbfbjalnahngjaaGreatDoor.GP
open Go.RowKit
set_option maxRecDepth 100000 in
set_option maxHeartbeats 4000000 in
theorem lead_br (ws : Tr) (hwg : Good true ws) (hwl : (gStr ws).length ≤ 900) (H : AllW LdC ws) (wv : Value) (N : ByteArray) (n g c : Nat) (f : Nat → Bool) (w : World) (hn : N.size = n) (hs : n ≤ 900) (hc : n + 1 ≤ c) (h : BRow w g (n + 1) f) (hw : WsR w wv ws) :
    Calls Tryz.prog 105 #[.agg #[.int .i64 4, .string ⟨#[]⟩, .slice none 0 0, wv], .slice (some ⟨g, 0, none⟩) (n + 1) c, .string N] w fun e w' => ∃ g' c', e = .returned (.slice (some ⟨g', 0, none⟩) (n + 1) c') ∧ n + 1 ≤ c' ∧ w.heap.size ≤ g' ∧ BRow w' g' (n + 1) (gLd (bs N) ws f) ∧ Below w.heap.size w w' := by
  obtain ⟨A2, c2, rfl, hc2, hx2⟩ := hw.form
  have hw9 : ws.len ≤ 900 := Nat.le_trans (ws_len hwg) hwl
  obtain ⟨n2, hn2⟩ : ∃ n2, ws.len = n2 := ⟨_, rfl⟩
  rw [hn2] at hc2 hw9 hx2 ⊢
  have HXW := Lib.hid hx2
  have HW1 := Lib.hid (show Good true ws ∧ AllW LdC ws ∧ (gStr ws).length ≤ 900 ∧ ws.len = n2 from ⟨hwg, H, hwl, hn2⟩)
  have HNN := Lib.hid hn
  clear hx2 hwg H hwl hn2 hw
  obtain ⟨i0, hi0, hz0, hzz1, hzz2⟩ := info_parts bool_info
  have HB0 := Lib.hid (alloc_below w (.cells #[.int .i64 4, .string ⟨#[]⟩, .slice none 0 0, .slice A2 n2 c2] 129))
  have HH0 := Lib.hid (holds_alloc w [.int .i64 4, .string ⟨#[]⟩, .slice none 0 0, .slice A2 n2 c2] 129)
  have HR0 := Lib.hid h
  have hgl := h.lt
  clear h
  go_enter Tryz.func105, Tryz.ntmps105
  go_upto_region 2 with (at_make; refine wpList_make_full _ rfl _ _ 99 rfl 0 4 i0 (.bool false) 1 Tryz.underlying99 hi0 hz0 hzz1 .i64 .i64 _ _ (n + 1) rfl rfl (by omega) (by omega) (by rw [hzz2]; omega) (by unfold maxLen; omega) (Nat.zero_le _) ?_; intro w2 hown2 hg2)
  have hbl := below_none hg2
  have hx2 := BRow.made hown2 (Nat.succ_pos n)
  have hsz : (w.alloc (.cells #[.int .i64 4, .string ⟨#[]⟩, .slice none 0 0, .slice A2 n2 c2] 129)).heap.size = w.heap.size + 1 := by simp
  rw [hsz] at hx2
  have HX2 := Lib.hid hx2
  have HB2 := Lib.hid (bnext HB0.out hbl)
  have HR2 := Lib.hid (HR0.out.below HB2.out)
  have HH2 := Lib.hid (Holds.below HH0.out hbl)
  obtain ⟨b0, b1, b2, b3⟩ := HH2.out.four
  obtain ⟨gx, hgx⟩ : ∃ gx, w.heap.size + 1 = gx := ⟨_, rfl⟩
  have hgw : w.heap.size < gx := by omega
  have hgne : ¬ gx = g := by omega
  rw [hgx] at HX2 ⊢
  clear hown2 hg2 hbl hx2 hsz hgx HB0 HH0 HR0
  go_wp2_with fail
  go_loopw [12, 13, 14, 68] (fun _ _ _ v68 wr => ∃ j : Nat, v68 = .int .i64 (j : Nat) ∧ j ≤ n2 ∧ Hid (BRow wr g (n + 1) f) ∧ Hid (∃ u acc, BRow wr gx (n + 1) acc ∧ (j < n2 → ∀ g, A2 = some ⟨g, 0, none⟩ → Wx w g j u) ∧ u.len + j = n2 ∧ Good true u ∧ AllW LdC u ∧ (gStr u).length ≤ 900 ∧ ∀ q, (acc q || gLd (bs N) u f q) = gLd (bs N) ws f q) ∧ Hid (Below w.heap.size w wr)) (fun _ _ _ v68 _ => n2 - (intOf v68).toNat)
  case atStart =>
    refine ⟨0, rfl, Nat.zero_le _, HR2.out, ⟨ws, fun _ => false, HX2.out, fun hk g2 hg2 => ?_, by have := HW1.out.2.2.2; omega, HW1.out.1, HW1.out.2.1, HW1.out.2.2.1, fun q => Bool.false_or _⟩, HB2.out⟩
    obtain ⟨g', hg', hs⟩ := HXW.out hk
    rw [hg'] at hg2
    injection hg2 with hg2
    injection hg2 with hg2
    subst hg2
    exact hs
  case round =>
    as_aux_lemma =>
      obtain ⟨j, rfl, hj, HR, HU, HB⟩ := hrel
      by_cases hjl : j < n2
      · as_aux_lemma =>
          obtain ⟨u, acc, hac, hux, hul, hug, hua, hus, huf⟩ := HU.out
          obtain ⟨g2, rfl, -⟩ := HXW.out (by omega)
          obtain ⟨p, u', A3, c3, rfl, z0, hpr, hux'⟩ := (hux hjl g2 rfl).next hug (by omega)
          have zz0 := cellb HB.out z0
          have CP := hua.1 hug.1 (by have := gStr_way hug; omega) _ N g c f wr (by rw [HNN.out]; exact hs) (by rw [HNN.out]; exact hc) (hpr.below HB.out) (by rw [HNN.out]; exact HR.out)
          rw [HNN.out] at CP
          obtain ⟨hf, hhf⟩ : ∃ hf, gLd (bs N) p f = hf := ⟨_, rfl⟩
          rw [hhf] at CP
          have HCP := Lib.hid CP
          have huf' : ∀ q, (acc q || (gLd (bs N) p f q || gLd (bs N) u' f q)) = gLd (bs N) ws f q := huf
          have HUN := Lib.hid (show (j + 1 < n2 → ∀ g, some (⟨g2, 0, none⟩ : Addr) = some ⟨g, 0, none⟩ → Wx w g (j + 1) u') ∧ u'.len + (j + 1) = n2 ∧ Good true u' ∧ AllW LdC u' ∧ (gStr u').length ≤ 900 ∧ ∀ q, ((acc q || hf q) || gLd (bs N) u' f q) = gLd (bs N) ws f q from
            ⟨fun _ g' e => by injection e with e; injection e with e; subst e; exact hux', by simp only [Tr.len] at hul; omega, hug.2, hua.2, by have := gStr_way hug; omega, fun q => by rw [Bool.or_assoc, ← hhf]; exact huf' q⟩)
          have HAC := Lib.hid hac
          have hgxl := hac.lt
          obtain ⟨pl, hpl⟩ : ∃ pl, p.len = pl := ⟨_, rfl⟩
          rw [hpl] at HCP zz0
          clear hux hul hug hua hus huf z0 hpr hux' CP huf' hhf hac HU hpl
          go_wp2_with fail
          refine HCP.out.mono ?_; rintro _ w3 ⟨g', c', rfl, hc', hgg, hbr, hb3⟩
          have hne3 : ¬ gx = g' := by omega
          have HB3 := Lib.hid (bnext HB.out hb3)
          have HR3 := Lib.hid (HR.out.below hb3)
          have HX3 := Lib.hid (HAC.out.below hb3)
          have HF3 := Lib.hid hbr
          clear hb3 HCP hgg hbr HAC
          go_wp2_with fail
          go_loopw [13, 14, 77] (fun _ _ v77 wq => ∃ q : Nat, v77 = .int .i64 (q : Nat) ∧ q ≤ n + 1 ∧ Hid (BRow wq g (n + 1) f) ∧ Hid (BRow wq g' (n + 1) hf) ∧ Hid (BRow wq gx (n + 1) (fun z => if z < q then acc z || hf z else acc z)) ∧ Hid (Below w.heap.size w wq)) (fun _ _ v77 _ => n + 1 - (intOf v77).toNat)
          case atStart => exact ⟨0, rfl, Nat.zero_le _, HR3.out, HF3.out, HX3.out.congr (fun z _ => (if_neg (Nat.not_lt_zero z)).symm), HB3.out⟩
          case round =>
            as_aux_lemma =>
              obtain ⟨q, rfl, hq, HRq, HFq, HXq, HBq⟩ := hrel
              by_cases hql : q ≤ n
              · as_aux_lemma =>
                  have cF := HFq.out.c q (by omega)
                  have cX := HXq.out.c q (by omega)
                  have fX := HXq.out.fz q (by omega)
                  rw [if_neg (Nat.lt_irrefl q)] at cX
                  obtain ⟨x, hx⟩ : ∃ x, hf q = x := ⟨_, rfl⟩
                  obtain ⟨y, hy⟩ : ∃ y, acc q = y := ⟨_, rfl⟩
                  rw [hx] at cF
                  rw [hy] at cX
                  have HST := Lib.hid (show BRow (wr.setCell ⟨gx, q, none⟩ (.bool (y || x))) gx (n + 1) (fun z => if z < q + 1 then acc z || hf z else acc z) from HXq.out.set (x := y || x) (k := q) (by omega) (fun z hz => by
                    by_cases e : z = q
                    · subst e
                      rw [if_pos rfl, if_pos (Nat.lt_succ_self _), hx, hy]
                    · rw [if_neg e]
                      by_cases e2 : z < q
                      · rw [if_pos e2, if_pos (by omega)]
                      · rw [if_neg e2, if_neg (by omega)]))
                  have hbI : (0 : Int) ≤ (q : Int) := by omega
                  have hbJ : (q : Int) < (n : Int) + 1 := by omega
                  have hbN : q < n + 1 := by omega
                  clear hx hy
                  cases y with
                  | true =>
                    go_wp2
                    go_roundw
                    case rel => exact ⟨q + 1, by go_num, by omega, HRq.out.other hgne, HFq.out.other hne3, HST.out, below_own HBq.out hgw⟩
                    case measure => simp [intOf]; omega
                  | false =>
                    rw [Bool.false_or] at HST
                    go_wp2
                    go_roundw
                    case rel => exact ⟨q + 1, by go_num, by omega, HRq.out.other hgne, HFq.out.other hne3, HST.out, below_own HBq.out hgw⟩
                    case measure => simp [intOf]; omega
              · as_aux_lemma =>
                  obtain rfl : q = n + 1 := by omega
                  have HXE := Lib.hid (HXq.out.congr (h := fun z => acc z || hf z) (fun z hz => if_pos hz))
                  have hbJ : ¬ ((n + 1 : Nat) : Int) < (n : Int) + 1 := by omega
                  clear HXq
                  go_wp2
                  go_roundw
                  case rel => exact ⟨j + 1, by go_num, by omega, HRq.out, ⟨u', _, HXE.out, HUN.out.1, HUN.out.2.1, HUN.out.2.2.1, HUN.out.2.2.2.1, HUN.out.2.2.2.2.1, HUN.out.2.2.2.2.2⟩, HBq.out⟩
                  case measure => simp [intOf]; omega
      · as_aux_lemma =>
          obtain rfl : j = n2 := by omega
          obtain ⟨u, acc, hac, -, hul, hug, -, -, huf⟩ := HU.out
          have : u = .none := by
            cases u with
            | none => rfl
            | way p ws => simp only [Tr.len] at hul; omega
            | nil => exact hug.elim
            | atom a r => exact hug.elim
            | br ws r => exact hug.elim
          subst this
          have HRE := Lib.hid (hac.congr (h := gLd (bs N) ws f) (fun q _ => by
            rw [← huf q]
            show acc q = (acc q || false)
            rw [Bool.or_false]))
          clear hac huf HU
          go_wp2
          go_ret
          exact ⟨gx, n + 1, rfl, Nat.le_refl _, Nat.le_of_lt hgw, HRE.out, HB.out⟩
end Go.Proofs.YtbfbjalnahngjaaGreatDoor.GP
namespace Go.Proofs.YtbfbjalnahngjaaGreatDoor.GP
open Go.RowKit
theorem gCls_rows : ∀ (M : Nat) (s : List Nat), s.length ≤ M → ∀ {rs : List (Nat × Nat)} {n : Nat}, gCls s = some (rs, n) → rs.length ≤ n
  | 0, s, hs, rs, n, h => by
    obtain rfl : s = [] := List.eq_nil_of_length_eq_zero (by omega)
    rw [gCls_nil] at h
    cases h
  | M + 1, [], hs, rs, n, h => by
    rw [gCls_nil] at h
    cases h
  | M + 1, c :: t, hs, rs, n, h => by
    by_cases hc : c = 93
    · subst hc
      rw [gCls_end] at h
      simp only [Option.some.injEq, Prod.mk.injEq] at h
      rw [← h.1]
      exact Nat.zero_le _
    · cases hm : gMem (c :: t) with
      | none => rw [gCls_no hc hm] at h; cases h
      | some mk =>
        obtain ⟨m, k⟩ := mk
        rw [gCls_yes hc hm] at h
        have hk := gMem_size hm
        cases hr : gCls ((c :: t).drop k) with
        | none => rw [hr] at h; cases h
        | some x =>
          rw [hr] at h
          simp only [Option.map_some, Option.some.injEq, Prod.mk.injEq] at h
          have := gCls_rows M ((c :: t).drop k) (by rw [List.length_drop]; simp only [List.length_cons] at hs ⊢; omega) (rs := x.1) (n := x.2) hr
          rw [← h.1, ← h.2]
          simp only [List.length_cons]
          omega
theorem good_rows {a : GA} (h : a.Good) : a.rows.length ≤ a.txt.length := by
  cases a with
  | one c => exact Nat.zero_le _
  | each => exact Nat.zero_le _
  | star => exact Nat.zero_le _
  | cls t rs =>
    obtain ⟨u, rfl, hu, _, _⟩ := h
    have := gCls_rows _ (u ++ []) (Nat.le_refl _) (hu [])
    show rs.length ≤ (91 :: u).length
    simp only [List.length_cons]
    omega
theorem plead_c {x : GA ⊕ Tr} {r : Tr} (hg : Good false (consT x r)) (hl : (gStr (consT x r)).length ≤ 900) (H : AllW LdC (consT x r)) {kk : Nat} {s : ByteArray} {A1 A2 : Option Addr} {n1 c1 n2 c2 : Nat} (N : ByteArray) (n g c : Nat) (f : Nat → Bool) (w : World) (hn : N.size = n) (hs : n ≤ 900) (hc : n + 1 ≤ c) (hr : BRow w g (n + 1) f) (h : PcR w kk s (.slice A1 n1 c1) (.slice A2 n2 c2) x) :
    Calls Tryz.prog 105 #[.agg #[.int .i64 (kk : Nat), .string s, .slice A1 n1 c1, .slice A2 n2 c2], .slice (some ⟨g, 0, none⟩) (n + 1) c, .string N] w fun e w' => ∃ g' c', e = .returned (.slice (some ⟨g', 0, none⟩) (n + 1) c') ∧ n + 1 ≤ c' ∧ w.heap.size ≤ g' ∧ BRow w' g' (n + 1) (pcLd (bs N) f x) ∧ Below w.heap.size w w' := by
  cases h with
  | atom a rv h =>
    have htl : a.txt.length ≤ 900 := by
      have : (gStr (Tr.atom a r)).length = a.txt.length + (gStr r).length := List.length_append
      simp only [consT] at hl
      omega
    by_cases h2 : a.kind = 2
    · cases a with
      | star => exact lead_star _ A1 none n1 c1 0 0 N n g c f w hn hs hc hr
      | one c => cases h2
      | each => cases h2
      | cls t rs => cases h2
    · exact lead_atom a hg.1 h2 htl (by have := good_rows hg.1; omega) A1 n1 c1 N n g c f w hn hs hc hr h
  | br ws wv h => exact lead_br ws hg.1 (by have := gStr_br ws r; simp only [consT] at hl; omega) H.1 _ N n g c f w hn hs hc hr h
set_option maxRecDepth 100000 in
set_option maxHeartbeats 4000000 in
theorem lead_of (l : Tr) (H : AllW LdC l) : LdC l := by
  intro hg hl v N g c f w hs hc h hr
  have hn9 : l.len ≤ 900 := Nat.le_trans ((gStr_len l).1 hg).2 hl
  obtain ⟨A, cl, rfl, hcl, hx⟩ := h.form
  obtain ⟨m, hm⟩ : ∃ m, l.len = m := ⟨_, rfl⟩
  rw [hm] at hcl hx hn9 ⊢
  obtain ⟨n, hn⟩ : ∃ n, N.size = n := ⟨_, rfl⟩
  rw [hn] at hs hc hr ⊢
  obtain ⟨F, hF⟩ : ∃ F, gLd (bs N) l f = F := ⟨_, rfl⟩
  rw [hF]
  have HX := Lib.hid hx; have HGL := Lib.hid (show Good false l ∧ AllW LdC l ∧ (gStr l).length ≤ 900 ∧ l.len = m ∧ gLd (bs N) l f = F from ⟨hg, H, hl, hm, hF⟩)
  have HR0 := Lib.hid hr; have HNN := Lib.hid hn
  clear hx hF h hg H hl hm hr hn
  go_enter Tryz.func84, Tryz.ntmps84
  go_wp2_with fail
  go_loopw [0, 8, 11] (fun v0 _ v11 wr => ∃ (k g' c' : Nat) (f' : Nat → Bool), v0 = .slice (some ⟨g', 0, none⟩) (n + 1) c' ∧ v11 = .int .i64 (k : Nat) ∧ k ≤ m ∧ n + 1 ≤ c' ∧ (g' = g ∨ w.heap.size ≤ g') ∧ Hid (BRow wr g' (n + 1) f') ∧ Hid (Below w.heap.size w wr) ∧ Hid (∃ t, (k < m → ∀ g, A = some ⟨g, 0, none⟩ → Sx w g k t) ∧ t.len + k = m ∧ Good false t ∧ AllW LdC t ∧ (gStr t).length ≤ 900 ∧ gLd (bs N) t f' = F)) (fun _ _ v11 _ => m - (intOf v11).toNat)
  case atStart =>
    refine ⟨0, g, c, f, rfl, rfl, Nat.zero_le _, hc, .inl rfl, HR0.out, Below.refl _ _, l, fun hk g hg => ?_, by have := HGL.out.2.2.2.1; omega, HGL.out.1, HGL.out.2.1, HGL.out.2.2.1, HGL.out.2.2.2.2⟩
    obtain ⟨g', hg', hs⟩ := HX.out hk
    rw [hg'] at hg
    injection hg with hg
    injection hg with hg
    subst hg
    exact hs
  case round =>
    as_aux_lemma =>
      obtain ⟨k, g', c', f', rfl, rfl, hk, hc', hgg, HR, HB, HT⟩ := hrel
      by_cases hlt : k < m
      · as_aux_lemma =>
          obtain ⟨t, hsx, htl, htg, hta, hts, htc⟩ := HT.out
          obtain ⟨gl, rfl, -⟩ := HX.out (by omega)
          obtain ⟨x, r, kk, s, A1, A2, n1, c1, n2, c2, rfl, q0, q1, q2, q3, hpc, hsr⟩ := (hsx hlt gl rfl).next htg (by omega)
          have y0 := cellb HB.out q0; have y1 := cellb HB.out q1; have y2 := cellb HB.out q2; have y3 := cellb HB.out q3
          have hrg := consT_good htg
          rw [consT_len] at htl
          rw [gLd_cons] at htc
          have CP := fun (W : World) (hW : Below wr.heap.size wr W) => plead_c htg hts hta N n g' c' f' W HNN.out hs hc' (HR.out.below hW) ((hpc.below HB.out).below hW)
          obtain ⟨f2, hf2⟩ : ∃ f2, pcLd (bs N) f' x = f2 := ⟨_, rfl⟩
          rw [hf2] at CP htc
          have HCP := Lib.hid CP
          have HRR := Lib.hid (show (k + 1 < m → ∀ g', some (⟨gl, 0, none⟩ : Addr) = some ⟨g', 0, none⟩ → Sx w g' (k + 1) r) ∧ r.len + (k + 1) = m ∧ Good false r ∧ AllW LdC r ∧ (gStr r).length ≤ 900 ∧ gLd (bs N) r f2 = F from
            ⟨fun _ g' e => by injection e with e; injection e with e; subst e; exact hsr, by omega, hrg, by cases x with | inl a => exact hta | inr ws => exact hta.2, by
              cases x with
              | inl a => have : (gStr (Tr.atom a r)).length = a.txt.length + (gStr r).length := List.length_append; simp only [consT] at hts; omega
              | inr ws => have := gStr_br ws r; simp only [consT] at hts; omega, htc⟩)
          clear hsx htl htg hta hts htc q0 q1 q2 q3 hpc hsr hrg hf2 CP HT
          go_wp2_with fail
          have HB1 := Lib.hid (alloc_below wr (.cells #[.int .i64 (kk : Nat), .string s, .slice A1 n1 c1, .slice A2 n2 c2] 129))
          refine (HCP.out _ HB1.out).mono ?_; rintro _ w2 ⟨g3, c3, rfl, hc3, hg3, hr3, hb2⟩
          have HB2 := Lib.hid (bnext HB.out (bnext HB1.out hb2))
          have hg4 : g3 = g ∨ w.heap.size ≤ g3 := .inr (Nat.le_trans (Nat.le_trans HB.out.size HB1.out.size) hg3)
          have HR2 := Lib.hid hr3
          clear hr3 hb2 hg3 HCP
          go_wp2
          go_roundw
          case rel => exact ⟨k + 1, g3, c3, f2, rfl, by go_num, by omega, hc3, hg4, HR2.out, HB2.out, r, HRR.out⟩
          case measure => simp [intOf]; omega
      · as_aux_lemma =>
          obtain rfl : k = m := by omega
          obtain ⟨t, -, htl, htg, -, -, htc⟩ := HT.out
          have : t = .nil := by
            cases t with
            | nil => rfl
            | atom a r => simp only [Tr.len] at htl; omega
            | br ws r => simp only [Tr.len] at htl; omega
            | none => exact htg.elim
            | way p ws => exact htg.elim
          subst this
          have HRE := Lib.hid (HR.out.congr (h := F) (fun j _ => by rw [← htc]; rfl))
          clear htc HT
          go_wp2
          go_ret
          exact ⟨g', c', rfl, hc', hgg, HRE.out, HB.out⟩
theorem lead_c (l : Tr) : LdC l := (tr_ind lead_of l).1
end Go.Proofs.YtbfbjalnahngjaaGreatDoor.GP
