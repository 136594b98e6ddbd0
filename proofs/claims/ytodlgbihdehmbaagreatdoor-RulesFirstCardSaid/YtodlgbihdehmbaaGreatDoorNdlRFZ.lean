/-
  Contracts of the document's own functions of layer 9 (isobarref09): Fits.
-/
import Derived.Test.YtodlgbihdehmbaaGreatDoorNdlRowZ
import Derived.WalkKit
import Derived.WalkSmall
import Derived.Laws.BitsAllLaws
import Derived.Carry
import Derived.Test.YtodlgbihdehmbaaGreatDoorNdlRAZ
import Derived.Test.YtodlgbihdehmbaaGreatDoorNdlPlcZ
import Derived.Deep.QuietTactic
import Derived.BigQuiet
import Derived.BigRegion
import Derived.Deep.RegionWith
import Derived.Deep.RegionHeld3
import Derived.Deep.Cut
import Derived.Deep.CutRange
import Derived.Deep.CutBlock
set_option linter.unusedSimpArgs false
set_option linter.unusedVariables false
namespace Go.Proofs.YtodlgbihdehmbaaGreatDoor.Nd.NR
open Go.RowKit
set_option maxRecDepth 100000 in
set_option maxHeartbeats 1000000 in
theorem fits_c (i : NI) (hi : i.ok) (b : Nat) (hb : b < 256) (w : World) :
    Calls Tryz.prog 93 #[.agg #[.int .u64 (i.s0 : Nat), .int .u64 (i.s1 : Nat), .int .u64 (i.s2 : Nat), .int .u64 (i.s3 : Nat), .bool i.star], .int .u8 (b : Nat)] w fun e w' => e = .returned (.bool (ndFits i b)) ∧ Below w.heap.size w w' := by
  obtain ⟨d, hd⟩ : ∃ d, ndFits i b = d := ⟨_, rfl⟩
  rw [hd]
  obtain ⟨s0, s1, s2, s3, st⟩ := i
  have h6 : b / 64 = 0 ∨ b / 64 = 1 ∨ b / 64 = 2 ∨ b / 64 = 3 := by omega
  rcases h6 with h | h | h | h
  · have e : ndFits ⟨s0, s1, s2, s3, st⟩ b = s0.testBit (b % 64) := by unfold ndFits; rw [h]; rfl
    rw [e, ← fit_bit s0 (b % 64) hi.1] at hd
    have HD := Lib.hid hd
    clear hd e hi
    go_enter Tryz.func93, Tryz.ntmps93
    go_wp2
    go_ret
    exact ⟨by rw [HD.out]; rfl, (Below.refl _ _).alloc (Nat.le_refl _) _⟩
  · have e : ndFits ⟨s0, s1, s2, s3, st⟩ b = s1.testBit (b % 64) := by unfold ndFits; rw [h]; rfl
    rw [e, ← fit_bit s1 (b % 64) hi.2.1] at hd
    have HD := Lib.hid hd
    clear hd e hi
    go_enter Tryz.func93, Tryz.ntmps93
    go_wp2
    go_ret
    exact ⟨by rw [HD.out]; rfl, (Below.refl _ _).alloc (Nat.le_refl _) _⟩
  · have e : ndFits ⟨s0, s1, s2, s3, st⟩ b = s2.testBit (b % 64) := by unfold ndFits; rw [h]; rfl
    rw [e, ← fit_bit s2 (b % 64) hi.2.2.1] at hd
    have HD := Lib.hid hd
    clear hd e hi
    go_enter Tryz.func93, Tryz.ntmps93
    go_wp2
    go_ret
    exact ⟨by rw [HD.out]; rfl, (Below.refl _ _).alloc (Nat.le_refl _) _⟩
  · have e : ndFits ⟨s0, s1, s2, s3, st⟩ b = s3.testBit (b % 64) := by unfold ndFits; rw [h]; rfl
    rw [e, ← fit_bit s3 (b % 64) hi.2.2.2] at hd
    have HD := Lib.hid hd
    clear hd e hi
    go_enter Tryz.func93, Tryz.ntmps93
    go_wp2
    go_ret
    exact ⟨by rw [HD.out]; rfl, (Below.refl _ _).alloc (Nat.le_refl _) _⟩
end Go.Proofs.YtodlgbihdehmbaaGreatDoor.Nd.NR
/-
  Contracts of the document's own functions of layer 9: Found, what its walk wants.
-/
set_option linter.unusedSimpArgs false
set_option linter.unusedVariables false
namespace Go.Proofs.YtodlgbihdehmbaaGreatDoor.Nd.NR
open Go.RowKit
theorem bool_info : (Tryz.prog.info? 4).map (fun i => (i.zero, i.size, i.bytes)) = some (some (.bool false), 1, 1) := by kernel_rfl
/-- A row of truths in a block. -/
structure BRow (w : World) (g n : Nat) (f : Nat → Bool) : Prop where
  lt : g < w.heap.size
  c : ∀ j, j < n → w.cell? ⟨g, j, none⟩ = some (.bool (f j))
  fz : ∀ j, j < n → w.frozen? ⟨g, j, none⟩ = false
theorem BRow.low {B g n : Nat} {w w' : World} {f : Nat → Bool} (h : BRow w g n f) (hb : Below B w w') (hg : g < B) : BRow w' g n f :=
  ⟨Nat.lt_of_lt_of_le h.lt hb.size, fun j hj => (hb.cell (p := ⟨g, j, none⟩) hg).trans (h.c j hj), fun j hj => (hb.frozen (p := ⟨g, j, none⟩) hg).trans (h.fz j hj)⟩
theorem BRow.below {g n : Nat} {w w' : World} {f : Nat → Bool} (h : BRow w g n f) (hb : Below w.heap.size w w') : BRow w' g n f := h.low hb h.lt
theorem BRow.made {w w' : World} {n : Nat} (h : w'.ownsRow 0 4 1 (.slice (some ⟨w.heap.size, 0, none⟩) n n) n (madeCells (Value.bool false).cells (n * 1)).toList) (hn : 0 < n) : BRow w' w.heap.size n (fun _ => false) := by
  refine ⟨(World.ownsRow.lt h _ rfl).2, fun j hj => ?_, fun j hj => h.frozenAt j⟩
  rw [h.cellAt j (by omega)]
  rw [Nat.mul_one]
  have e : (Value.bool false).cells = #[.bool false] := rfl
  rw [e]
  unfold madeCells
  simp [hj, Nat.mod_one]
theorem BRow.set {w : World} {g n k : Nat} {f h : Nat → Bool} {x : Bool} (hr : BRow w g n f) (hk : k < n) (hf : ∀ j, j < n → h j = if j = k then x else f j) : BRow (w.setCell ⟨g, k, none⟩ (.bool x)) g n h := by
  refine ⟨by simp; exact hr.lt, fun j hj => ?_, fun j hj => by rw [World.frozen?_setCell]; exact hr.fz j hj⟩
  rw [hf j hj]
  by_cases e : j = k
  · subst e
    rw [if_pos rfl]
    exact World.cell?_setCell_same w _ _ (hr.c j hj)
  · rw [if_neg e]
    exact (World.cell?_setCell_other w _ _ _ (by intro e2; simp only [Addr.mk.injEq] at e2; omega)).trans (hr.c j hj)
theorem BRow.other {w : World} {g n b o : Nat} {f : Nat → Bool} {u : Value} (hr : BRow w g n f) (hne : ¬ b = g) : BRow (w.setCell ⟨b, o, none⟩ u) g n f := by
  refine ⟨by simp; exact hr.lt, fun j hj => ?_, fun j hj => by rw [World.frozen?_setCell]; exact hr.fz j hj⟩
  exact (World.cell?_setCell_other w _ _ _ (by intro e2; simp only [Addr.mk.injEq] at e2; exact hne e2.1)).trans (hr.c j hj)
theorem BRow.drew {w : World} {g n : Nat} {f : Nat → Bool} (h : BRow w g n f) : BRow w.drew g n f := ⟨h.lt, h.c, h.fz⟩
theorem BRow.congr {w : World} {g n : Nat} {f h : Nat → Bool} (hr : BRow w g n f) (he : ∀ j, j < n → f j = h j) : BRow w g n h := ⟨hr.lt, fun j hj => by rw [← he j hj]; exact hr.c j hj, hr.fz⟩
theorem bs_get {s : ByteArray} {k : Nat} (h : k < s.size) : ∃ c, (bs s).getD k 0 = c ∧ (s[k]'h).toNat = c ∧ c < 256 := ⟨_, rfl, at_byte h, by have := byte_le s k; unfold byteAt at this; omega⟩
/-- The needle's cells stand, its items lie below. -/
structure RfW (w : World) (st fin : Bool) (u : Value) (is : List NI) (wr : World) : Prop where
  low : Below w.heap.size w wr
  size : w.heap.size < wr.heap.size
  b0 : wr.cell? ⟨w.heap.size, 0, none⟩ = some (.bool st)
  b1 : wr.cell? ⟨w.heap.size, 1, none⟩ = some (.bool fin)
  b2 : wr.cell? ⟨w.heap.size, 2, none⟩ = some u
  it : ItLow (w.heap.size + 1) wr u is
theorem RfW.next {w : World} {st fin : Bool} {u : Value} {is : List NI} {wr w' : World} (h : RfW w st fin u is wr) (hb : Below (w.heap.size + 1) wr w') : RfW w st fin u is w' :=
  ⟨h.low.trans (hb.mono (Nat.le_succ _)), Nat.lt_of_lt_of_le h.size hb.size, (hb.cell (p := ⟨_, _, _⟩) (Nat.lt_succ_self _)).trans h.b0, (hb.cell (p := ⟨_, _, _⟩) (Nat.lt_succ_self _)).trans h.b1, (hb.cell (p := ⟨_, _, _⟩) (Nat.lt_succ_self _)).trans h.b2, h.it.below hb⟩
theorem itLow_mono {B B' : Nat} {w : World} {v : Value} {l : List NI} (h : ItLow B w v l) (hB : B ≤ B') : ItLow B' w v l := by
  obtain ⟨A, cap, hv, hc, hx⟩ := h
  refine ⟨A, cap, hv, hc, fun hn => ?_⟩
  obtain ⟨b, off, hA, hlt, hf⟩ := hx hn
  exact ⟨b, off, hA, by omega, hf⟩
theorem RfW.first {w : World} {st fin : Bool} {u : Value} {is : List NI} (hu : ItOut w u is) (T : TypeId) : RfW w st fin u is (w.alloc (.cells #[.bool st, .bool fin, u] T)) := by
  have hb : Below w.heap.size w (w.alloc (.cells #[.bool st, .bool fin, u] T)) := (Below.refl _ _).alloc (Nat.le_refl _) _
  exact ⟨hb, by simp, by simp, by simp, by simp, itLow_mono ((hu.low (Nat.le_refl _)).below hb) (Nat.le_succ _)⟩
theorem RfW.set {w : World} {st fin : Bool} {u : Value} {is : List NI} {wr : World} (h : RfW w st fin u is wr) {g o : Nat} {x : Value} (hg : w.heap.size < g) : RfW w st fin u is (wr.setCell ⟨g, o, none⟩ x) := h.next ((Below.refl _ wr).setCell (p := ⟨_, _, _⟩) hg x)
theorem RfW.drew {w : World} {st fin : Bool} {u : Value} {is : List NI} {wr : World} (h : RfW w st fin u is wr) : RfW w st fin u is wr.drew := ⟨h.low.drew, h.size, h.b0, h.b1, h.b2, h.it⟩
theorem below_none {w w' : World} (h : w.grownBy w' none) : Below w.heap.size w w' := ⟨h.os, h.tape, h.output, h.size, fun k hk => h.block k hk (by simp)⟩
theorem cell_off {w : World} {b o b2 o2 : Nat} {x u : Value} (hn : ¬ (b2 = b ∧ o2 = o)) (h : w.cell? ⟨b2, o2, none⟩ = some u) : (w.setCell ⟨b, o, none⟩ x).cell? ⟨b2, o2, none⟩ = some u :=
  (World.cell?_setCell_other w _ _ _ (by intro e; simp only [Addr.mk.injEq] at e; exact hn ⟨e.1.symm, e.2.1.symm⟩)).trans h
theorem V_zero_star {t : List Nat} {st : Bool} {is : List NI} {i : Nat} {it : NI} (h : is.getD i NI.zero = it) : ndV t st is (i + 1) 0 = (it.star && ndV t st is i 0) := by rw [← h]; rfl
theorem V_star_k {t : List Nat} {st : Bool} {is : List NI} {i k c : Nat} {it : NI} (h : is.getD i NI.zero = it) (hs : it.star = true) (hc : t.getD k 0 = c) : ndV t st is (i + 1) (k + 1) = (ndV t st is i (k + 1) || (ndV t st is (i + 1) k && ndFits it c)) := by
  rw [V_succ, h, if_pos hs, hc]
theorem V_plain_k {t : List Nat} {st : Bool} {is : List NI} {i k c : Nat} {it : NI} (h : is.getD i NI.zero = it) (hs : it.star = false) (hc : t.getD k 0 = c) : ndV t st is (i + 1) (k + 1) = (ndV t st is i k && ndFits it c) := by
  rw [V_succ, h, if_neg (by rw [hs]; decide), hc]
theorem item_form (i : NI) : ∃ s0 s1 s2 s3 st, i = ⟨s0, s1, s2, s3, st⟩ := ⟨i.s0, i.s1, i.s2, i.s3, i.star, rfl⟩
/-- A row of which the places below k are made. -/
theorem BRow.step {w : World} {g n k : Nat} {f : Nat → Bool} {x : Bool} (hr : BRow w g n (fun j => if j < k then f j else false)) (hk : k < n) (hx : f k = x) : BRow (w.setCell ⟨g, k, none⟩ (.bool x)) g n (fun j => if j < k + 1 then f j else false) := hr.set hk fun j hj => by
  show (if j < k + 1 then f j else false) = if j = k then x else if j < k then f j else false
  by_cases e : j = k
  · subst e
    rw [if_pos rfl, if_pos (Nat.lt_succ_self _), hx]
  · rw [if_neg e]
    by_cases e2 : j < k
    · rw [if_pos e2, if_pos (by omega)]
    · rw [if_neg e2, if_neg (by omega)]
end Go.Proofs.YtodlgbihdehmbaaGreatDoor.Nd.NR
/-
  Contracts of the document's own functions of layer 9: Found.
-/
set_option linter.unusedSimpArgs false
set_option linter.unusedVariables false
namespace Go.Proofs.YtodlgbihdehmbaaGreatDoor.Nd.NR
open Go.RowKit
set_option maxRecDepth 100000 in
set_option maxHeartbeats 8000000 in
theorem found_c (st fin : Bool) (u : Value) (is : List NI) (s : ByteArray) (hs : s.size ≤ 100000) (hi : is.length ≤ 1000) (hok : ∀ i ∈ is, i.ok) (w : World) (hu : ItOut w u is) :
    Calls Tryz.prog 66 #[.agg #[.bool st, .bool fin, u], .string s] w fun e w' => e = .returned (.bool (ndFound ⟨st, fin, is⟩ (bs s))) ∧ Below w.heap.size w w' := by
  obtain ⟨d, hd⟩ : ∃ d, ndFound ⟨st, fin, is⟩ (bs s) = d := ⟨_, rfl⟩
  rw [hd]
  have HD := Lib.hid hd; have HOK := Lib.hid hok
  have HW1 := Lib.hid (RfW.first (st := st) (fin := fin) hu 67)
  obtain ⟨AU, cu, hue, hcu, _⟩ := hu
  obtain ⟨m, hm⟩ : ∃ m, is.length = m := ⟨_, rfl⟩
  have HM := Lib.hid hm
  rw [hm] at hue hcu hi
  subst hue
  obtain ⟨n, hn⟩ : ∃ n, s.size = n := ⟨_, rfl⟩
  have HN := Lib.hid hn
  obtain ⟨i0, hi0, hz0, hzz1, hzz2⟩ := info_parts bool_info
  have hn1 : IntKind.i64.wrap ((s.size : Int) + 1) = ((n + 1 : Nat) : Int) := by rw [IntKind.wrap_i64]; omega
  clear hd hok hm
  go_enter Tryz.func66, Tryz.ntmps66
  go_wp2_with (at_make; refine wpList_make_full _ rfl _ _ 147 rfl 0 4 i0 (.bool false) 1 Tryz.underlying147 hi0 hz0 hzz1 .i64 .i64 _ _ (n + 1) rfl rfl (by omega) (by omega) (by rw [hzz2]; omega) (by unfold maxLen; omega) (Nat.zero_le _) ?_; intro w2 hown2 hg2)
  have HR2 := Lib.hid (BRow.made hown2 (Nat.succ_pos n))
  have hbl := below_none hg2
  have hsz : (w.alloc (.cells #[.bool st, .bool fin, .slice AU m cu] 67)).heap.size = w.heap.size + 1 := by simp
  have HW2 := Lib.hid (HW1.out.next (hbl.mono (by rw [hsz]; exact Nat.le_refl _)))
  rw [hsz] at HR2
  obtain ⟨ge, hge⟩ : ∃ ge, w.heap.size + 1 = ge := ⟨_, rfl⟩
  have hgw : w.heap.size < ge := by omega
  rw [hge] at HR2 ⊢
  clear hown2 hg2 hbl hge hsz HW1
  go_loopw [6] (fun kv wr => ∃ k : Nat, kv = .int .i64 (k : Nat) ∧ k ≤ n + 1 ∧ wr.cell? ⟨w.heap.size, 0, none⟩ = some (.bool st) ∧ Hid (BRow wr ge (n + 1) (fun j => if j < k then ndE0 st j else false)) ∧ Hid (RfW w st fin (.slice AU m cu) is wr)) (fun kv _ => n + 1 - (intOf kv).toNat)
  case atStart => exact ⟨0, rfl, Nat.zero_le _, HW2.out.b0, HR2.out.congr (fun j _ => (if_neg (Nat.not_lt_zero j)).symm), HW2.out⟩
  case round =>
    obtain ⟨k, rfl, hk, c0, HR, HW⟩ := hrel
    by_cases hlt : k ≤ n
    · have ck := HR.out.c k (by omega)
      have fk := HR.out.fz k (by omega)
      obtain ⟨xo, hxo⟩ : ∃ x, (if k < k then ndE0 st k else false) = x := ⟨_, rfl⟩
      have ck2 : wr.cell? ⟨ge, k, none⟩ = some (.bool xo) := by rw [← hxo]; exact ck
      clear ck hxo
      cases st with
      | false =>
        have HRX := Lib.hid (HR.out.step (x := true) (k := k) (by omega) (by unfold ndE0; rfl))
        go_wp2
        go_roundw
        case rel => exact ⟨k + 1, by go_num, by omega, (HW.out.set hgw).b0, HRX.out, HW.out.set hgw⟩
        case measure => simp [intOf]; omega
      | true =>
        by_cases hk0 : k = 0
        · subst hk0
          have HRX := Lib.hid (HR.out.step (x := true) (k := 0) (by omega) (by unfold ndE0; rfl))
          go_wp2
          go_roundw
          case rel => exact ⟨1, rfl, by omega, (HW.out.set hgw).b0, HRX.out, HW.out.set hgw⟩
          case measure => simp [intOf]
        · have HRX := Lib.hid (HR.out.step (x := false) (k := k) (by omega) (by unfold ndE0; rw [decide_eq_false hk0]; rfl))
          have hkb : ((k : Int) == 0) = false := beq_false_of_ne (by omega)
          go_wp2
          go_roundw
          case rel => exact ⟨k + 1, by go_num, by omega, (HW.out.set hgw).b0, HRX.out, HW.out.set hgw⟩
          case measure => simp [intOf]; omega
    · obtain rfl : k = n + 1 := by omega
      have HRE := Lib.hid (HR.out.congr (h := ndV (bs s) st is 0) (fun j hj => by show (if j < n + 1 then ndE0 st j else false) = _; rw [if_pos hj]; rfl))
      clear HR HR2 HW2
      go_wp2
      have hdd : decide ((n : Int) + 1 ≤ (n : Int)) = false := decide_eq_false (by omega)
      have hcs : ((n + 1 : Nat) : Int) = (n : Int) + 1 := by omega
      simp only [hdd, hcs]
      clear hdd hcs
      go_loopw [5, 7, 8, 9] (fun ev iv _ _ wr => ∃ (i g : Nat), ev = .slice (some ⟨g, 0, none⟩) (n + 1) (n + 1) ∧ iv = .int .i64 (i : Nat) ∧ i ≤ m ∧ w.heap.size < g ∧ wr.cell? ⟨w.heap.size, 2, none⟩ = some (.slice AU m cu) ∧ Hid (BRow wr g (n + 1) (ndV (bs s) st is i)) ∧ Hid (RfW w st fin (.slice AU m cu) is wr)) (fun _ iv _ _ _ => m - (intOf iv).toNat)
      case atStart => exact ⟨0, ge, rfl, rfl, Nat.zero_le _, hgw, HW.out.b2, HRE.out, HW.out⟩
      case round =>
        obtain ⟨i, g, rfl, rfl, him, hg, c2, HE, HW⟩ := hrel
        obtain ⟨wo, rfl⟩ : ∃ wo : World, wo = wr := ⟨_, rfl⟩
        by_cases hlt : i < m
        · have hil : i < is.length := by rw [HM.out]; exact hlt
          obtain ⟨it, hit⟩ : ∃ it, is.getD i NI.zero = it := ⟨_, rfl⟩
          have hok : it.ok := HOK.out it (by rw [← hit, List.getD_eq_getElem?_getD, List.getElem?_eq_getElem hil]; exact List.getElem_mem _)
          have FC := Lib.hid (fun (b : Nat) (hb : b < 256) (w : World) => fits_c it hok b hb w)
          have HIT := Lib.hid hit
          have HIL := Lib.hid hil
          obtain ⟨s0, s1, s2, s3, sst, rfl⟩ := item_form it
          clear hit hok hil
          go_wp2_with (at_make; refine wpList_make_full _ rfl _ _ 147 rfl 0 4 i0 (.bool false) 1 Tryz.underlying147 hi0 hz0 hzz1 .i64 .i64 _ _ (n + 1) rfl rfl (by omega) (by omega) (by rw [hzz2]; omega) (by unfold maxLen; omega) (Nat.zero_le _) ?_; intro w2 hown2 hg2)
          have HX2 := Lib.hid (BRow.made hown2 (Nat.succ_pos n))
          have hbl := below_none hg2
          have HE2 := Lib.hid (HE.out.below hbl)
          have HW2 := Lib.hid (HW.out.next (hbl.mono HW.out.size))
          have hgo := HE.out.lt
          obtain ⟨gx, hgx⟩ : ∃ gx, wo.heap.size = gx := ⟨_, rfl⟩
          have hgxw : w.heap.size < gx := by have := HW.out.size; omega
          have hgne : ¬ gx = g := by omega
          rw [hgx] at HX2 ⊢
          clear hown2 hg2 hbl hgx hgo c2 HW HE
          go_loopw [9] (fun kv wr => ∃ k : Nat, kv = .int .i64 (k : Nat) ∧ k ≤ n + 1 ∧ wr.cell? ⟨w.heap.size, 2, none⟩ = some (.slice AU m cu) ∧ Hid (BRow wr g (n + 1) (ndV (bs s) st is i)) ∧ Hid (BRow wr gx (n + 1) (fun j => if j < k then ndV (bs s) st is (i + 1) j else false)) ∧ Hid (RfW w st fin (.slice AU m cu) is wr)) (fun kv _ => n + 1 - (intOf kv).toNat)
          case atStart => exact ⟨0, rfl, Nat.zero_le _, HW2.out.b2, HE2.out, HX2.out.congr (fun j _ => (if_neg (Nat.not_lt_zero j)).symm), HW2.out⟩
          case round =>
            obtain ⟨k, rfl, hk, c2, HE, HX, HW⟩ := hrel
            by_cases hkn : k ≤ n
            · obtain ⟨A2, cc2, hv2, hc2, hx2⟩ := HW.out.it
              injection hv2 with e1 e2 e3
              subst e1 e3
              obtain ⟨b, off, rfl, hbw, hat⟩ := hx2 (by intro h; have := HIL.out; rw [h] at this; exact absurd this (Nat.not_lt_zero _))
              obtain ⟨y0, y1, y2, y3, y4⟩ := hat.five HIL.out
              rw [HIT.out] at y0 y1 y2 y3 y4
              obtain ⟨ek, hek⟩ : ∃ x, ndV (bs s) st is i k = x := ⟨_, rfl⟩
              have cE := HE.out.c k (by omega)
              rw [hek] at cE
              have ck := HX.out.c k (by omega)
              have fk := HX.out.fz k (by omega)
              obtain ⟨xo, hxo⟩ : ∃ x, (if k < k then ndV (bs s) st is (i + 1) k else false) = x := ⟨_, rfl⟩
              have ck2 : wr.cell? ⟨gx, k, none⟩ = some (.bool xo) := by rw [← hxo]; exact ck
              have HEK := Lib.hid hek
              clear ck hxo hek e2 hx2 hat hc2
              cases sst with
              | true =>
                cases ek with
                | true =>
                  have HRX := Lib.hid (HX.out.step (x := true) (k := k) (by omega) (V_star (by rw [HIT.out]) HEK.out))
                  go_upto_region 14 with (fail)
                  go_region
                  go_wp2
                  go_roundw
                  case rel => exact ⟨k + 1, by go_num, by omega, ((HW.out.set hgxw).drew).b2, ((HE.out.other hgne).drew), (by first | exact HRX.out.drew | exact HRX.out), (HW.out.set hgxw).drew⟩
                  case measure => simp [intOf]; omega
                | false =>
                  by_cases hkz : k = 0
                  · subst hkz
                    have HRX := Lib.hid (HX.out.step (x := false) (k := 0) (by omega) (by rw [V_zero_star HIT.out, HEK.out]; rfl))
                    go_upto_region 14 with (fail)
                    go_region
                    go_wp2
                    go_roundw
                    case rel => exact ⟨1, rfl, by omega, ((HW.out.set hgxw).drew).b2, ((HE.out.other hgne).drew), (by first | exact HRX.out.drew | exact HRX.out), (HW.out.set hgxw).drew⟩
                    case measure => simp [intOf]
                  · obtain ⟨px, hpx⟩ : ∃ x, ndV (bs s) st is (i + 1) (k - 1) = x := ⟨_, rfl⟩
                    have HPX0 := Lib.hid hpx
                    clear hpx
                    have hk1 : 0 < k := by omega
                    obtain ⟨k0, hk0e⟩ : ∃ k0, k = k0 + 1 := ⟨k - 1, by omega⟩
                    have hk0 : k0 < s.size := by omega
                    obtain ⟨c, hcb, x0, hc256⟩ := bs_get hk0
                    have HCB := Lib.hid hcb
                    have hw1 : IntKind.i64.wrap ((k : Int) - 1) = (k0 : Int) := by rw [IntKind.wrap_i64]; omega
                    have gk : (0 : Int) < (k : Int) := by omega
                    have gkd : decide ((k : Int) > 0) = true := decide_eq_true gk
                    have hk0n : k0 < n + 1 := by omega
                    have hkk : ¬ k = k0 := by omega
                    have hkk2 : ¬ k0 = k := by omega
                    have hbI0 : (0 : Int) ≤ (k0 : Int) := by omega
                    have hbJ0 : (k0 : Int) < (n : Int) + 1 := by omega
                    have hgx1 : ¬ gx = w.heap.size := by omega
                    have hgx2 : ¬ gx = b := by omega
                    have hbI : (0 : Int) ≤ (k : Int) := by omega
                    have hbJ : (k : Int) < (n : Int) + 1 := by omega
                    have HKE := Lib.hid hk0e
                    clear hcb hk0e
                    have HPX := Lib.hid (show ndV (bs s) st is (i + 1) k0 = px by have h := HPX0.out; rw [HKE.out, Nat.add_sub_cancel] at h; exact h)
                    have cP : wr.cell? ⟨gx, k0, none⟩ = some (.bool px) := by rw [HX.out.c k0 hk0n, ← HPX.out, if_pos (by have := HKE.out; omega)]
                    clear HPX0
                    have HVK := Lib.hid (show ndV (bs s) st is (i + 1) k = (px && ndFits ⟨s0, s1, s2, s3, true⟩ c) by have h := V_star_k (st := st) HIT.out rfl HCB.out; rw [← HKE.out, HEK.out, HPX.out, Bool.false_or] at h; exact h)
                    cases px with
                    | false =>
                      have HRX := Lib.hid (HX.out.step (x := false) (k := k) (by omega) (by rw [HVK.out]; rfl))
                      go_upto_region 14 with (fail)
                      go_region
                      go_wp2
                      go_roundw
                      case rel => exact ⟨k + 1, by go_num, by omega, ((HW.out.set hgxw).drew).b2, ((HE.out.other hgne).drew), (by first | exact HRX.out.drew | exact HRX.out), (HW.out.set hgxw).drew⟩
                      case measure => simp [intOf]; omega
                    | true =>
                      obtain ⟨fd, hfd⟩ : ∃ x, ndFits ⟨s0, s1, s2, s3, true⟩ c = x := ⟨_, rfl⟩
                      have HFD := Lib.hid hfd
                      have FC2 := Lib.hid (fun W => FC.out c hc256 W)
                      rw [hfd] at FC2
                      clear hfd
                      go_upto_region 14 with (fail)
                      go_region_held3 (fun y => y.cell? ⟨w.heap.size, 2, none⟩ = some (.slice (some ⟨b, off, none⟩) m cu) ∧ y.cell? ⟨b, off + i * 5, none⟩ = some (.int .u64 (s0 : Nat)) ∧ y.cell? ⟨b, off + i * 5 + 1, none⟩ = some (.int .u64 (s1 : Nat)) ∧ y.cell? ⟨b, off + i * 5 + 2, none⟩ = some (.int .u64 (s2 : Nat)) ∧ y.cell? ⟨b, off + i * 5 + 3, none⟩ = some (.int .u64 (s3 : Nat)) ∧ y.cell? ⟨b, off + i * 5 + 4, none⟩ = some (.bool true) ∧ y.cell? ⟨gx, k0, none⟩ = some (.bool true) ∧ y.cell? ⟨g, k, none⟩ = some (.bool false))
                        (first | exact ⟨cell_off (by omega) n2, cell_off (by omega) z0, cell_off (by omega) z1, cell_off (by omega) z2, cell_off (by omega) z3, cell_off (by omega) z4, cell_off (by omega) n3, cell_off (by omega) n6⟩ | go_keep)
                        (first
                          | (go_at_call 93; refine (FC2.out _).mono ?_; rintro e w5 ⟨rfl, hb5⟩; have hl5 : Below (w.heap.size + 1) wr.drew w5 := hb5.mono HW.out.size; have n2 : w5.cell? ⟨w.heap.size, 2, none⟩ = some (.slice (some ⟨b, off, none⟩) m cu) := (HW.out.drew.next hl5).b2; obtain ⟨z0, z1, z2, z3, z4⟩ : w5.cell? ⟨b, off + i * 5, none⟩ = some (.int .u64 (s0 : Nat)) ∧ w5.cell? ⟨b, off + i * 5 + 1, none⟩ = some (.int .u64 (s1 : Nat)) ∧ w5.cell? ⟨b, off + i * 5 + 2, none⟩ = some (.int .u64 (s2 : Nat)) ∧ w5.cell? ⟨b, off + i * 5 + 3, none⟩ = some (.int .u64 (s3 : Nat)) ∧ w5.cell? ⟨b, off + i * 5 + 4, none⟩ = some (.bool true) := ⟨cell_keep hb5 y0, cell_keep hb5 y1, cell_keep hb5 y2, cell_keep hb5 y3, cell_keep hb5 y4⟩; have n3 := cell_keep hb5 cP; have n4 := cell_keep hb5 ck2; have n5 := (hb5.frozen (p := ⟨gx, k, none⟩) (HX.out.lt)).trans fk; have n6 := cell_keep hb5 cE))
                      have HW5 := Lib.hid (HW.out.drew.next hl5)
                      have HE5 := Lib.hid (HE.out.drew.below hb5)
                      have HX5 := Lib.hid ((HX.out.drew.below hb5).step (x := fd) (k := k) (by omega) (by rw [HVK.out, HFD.out]; rfl))
                      clear hb5 hl5
                      go_wp2
                      go_roundw
                      case rel => exact ⟨k + 1, by go_num, by omega, ((HW5.out.set hgxw)).b2, ((HE5.out.other hgne)), HX5.out, (HW5.out.set hgxw)⟩
                      case measure => simp [intOf]; omega
              | false =>
                by_cases hkz : k = 0
                · subst hkz
                  have HRX := Lib.hid (HX.out.step (x := false) (k := 0) (by omega) (by rw [V_zero_star HIT.out]; rfl))
                  go_upto_region 15 with (fail)
                  go_region
                  go_wp2
                  go_roundw
                  case rel => exact ⟨1, rfl, by omega, ((HW.out.set hgxw).drew).b2, ((HE.out.other hgne).drew), (by first | exact HRX.out.drew | exact HRX.out), (HW.out.set hgxw).drew⟩
                  case measure => simp [intOf]
                · obtain ⟨pe, hpe⟩ : ∃ x, ndV (bs s) st is i (k - 1) = x := ⟨_, rfl⟩
                  have HPX0 := Lib.hid hpe
                  clear hpe
                  have hk1 : 0 < k := by omega
                  obtain ⟨k0, hk0e⟩ : ∃ k0, k = k0 + 1 := ⟨k - 1, by omega⟩
                  have hk0 : k0 < s.size := by omega
                  obtain ⟨c, hcb, x0, hc256⟩ := bs_get hk0
                  have HCB := Lib.hid hcb
                  have hw1 : IntKind.i64.wrap ((k : Int) - 1) = (k0 : Int) := by rw [IntKind.wrap_i64]; omega
                  have gk : (0 : Int) < (k : Int) := by omega
                  have gkd : decide ((k : Int) > 0) = true := decide_eq_true gk
                  have hk0n : k0 < n + 1 := by omega
                  have hkk : ¬ k = k0 := by omega
                  have hkk2 : ¬ k0 = k := by omega
                  have hbI0 : (0 : Int) ≤ (k0 : Int) := by omega
                  have hbJ0 : (k0 : Int) < (n : Int) + 1 := by omega
                  have hgx1 : ¬ gx = w.heap.size := by omega
                  have hgx2 : ¬ gx = b := by omega
                  have hbI : (0 : Int) ≤ (k : Int) := by omega
                  have hbJ : (k : Int) < (n : Int) + 1 := by omega
                  have HKE := Lib.hid hk0e
                  clear hcb hk0e
                  have HPX := Lib.hid (show ndV (bs s) st is i k0 = pe by have h := HPX0.out; rw [HKE.out, Nat.add_sub_cancel] at h; exact h)
                  have cP : wr.cell? ⟨g, k0, none⟩ = some (.bool pe) := by rw [HE.out.c k0 hk0n, HPX.out]
                  clear HPX0
                  have HVK := Lib.hid (show ndV (bs s) st is (i + 1) k = (pe && ndFits ⟨s0, s1, s2, s3, false⟩ c) by have h := V_plain_k (st := st) HIT.out rfl HCB.out; rw [← HKE.out, HPX.out] at h; exact h)
                  cases pe with
                  | false =>
                    have HRX := Lib.hid (HX.out.step (x := false) (k := k) (by omega) (by rw [HVK.out]; rfl))
                    go_upto_region 15 with (fail)
                    go_region
                    go_wp2
                    go_roundw
                    case rel => exact ⟨k + 1, by go_num, by omega, ((HW.out.set hgxw).drew).b2, ((HE.out.other hgne).drew), (by first | exact HRX.out.drew | exact HRX.out), (HW.out.set hgxw).drew⟩
                    case measure => simp [intOf]; omega
                  | true =>
                    obtain ⟨fd, hfd⟩ : ∃ x, ndFits ⟨s0, s1, s2, s3, false⟩ c = x := ⟨_, rfl⟩
                    have HFD := Lib.hid hfd
                    have FC2 := Lib.hid (fun W => FC.out c hc256 W)
                    rw [hfd] at FC2
                    clear hfd
                    go_upto_region 15 with (fail)
                    go_region_held3 (fun y => y.cell? ⟨w.heap.size, 2, none⟩ = some (.slice (some ⟨b, off, none⟩) m cu) ∧ y.cell? ⟨b, off + i * 5, none⟩ = some (.int .u64 (s0 : Nat)) ∧ y.cell? ⟨b, off + i * 5 + 1, none⟩ = some (.int .u64 (s1 : Nat)) ∧ y.cell? ⟨b, off + i * 5 + 2, none⟩ = some (.int .u64 (s2 : Nat)) ∧ y.cell? ⟨b, off + i * 5 + 3, none⟩ = some (.int .u64 (s3 : Nat)) ∧ y.cell? ⟨b, off + i * 5 + 4, none⟩ = some (.bool false) ∧ y.cell? ⟨g, k0, none⟩ = some (.bool true) ∧ y.cell? ⟨g, k, none⟩ = some (.bool ek))
                      (first | exact ⟨cell_off (by omega) n2, cell_off (by omega) z0, cell_off (by omega) z1, cell_off (by omega) z2, cell_off (by omega) z3, cell_off (by omega) z4, cell_off (by omega) n3, cell_off (by omega) n6⟩ | go_keep)
                      (first
                        | (go_at_call 93; refine (FC2.out _).mono ?_; rintro e w5 ⟨rfl, hb5⟩; have hl5 : Below (w.heap.size + 1) wr.drew w5 := hb5.mono HW.out.size; have n2 : w5.cell? ⟨w.heap.size, 2, none⟩ = some (.slice (some ⟨b, off, none⟩) m cu) := (HW.out.drew.next hl5).b2; obtain ⟨z0, z1, z2, z3, z4⟩ : w5.cell? ⟨b, off + i * 5, none⟩ = some (.int .u64 (s0 : Nat)) ∧ w5.cell? ⟨b, off + i * 5 + 1, none⟩ = some (.int .u64 (s1 : Nat)) ∧ w5.cell? ⟨b, off + i * 5 + 2, none⟩ = some (.int .u64 (s2 : Nat)) ∧ w5.cell? ⟨b, off + i * 5 + 3, none⟩ = some (.int .u64 (s3 : Nat)) ∧ w5.cell? ⟨b, off + i * 5 + 4, none⟩ = some (.bool false) := ⟨cell_keep hb5 y0, cell_keep hb5 y1, cell_keep hb5 y2, cell_keep hb5 y3, cell_keep hb5 y4⟩; have n3 := cell_keep hb5 cP; have n4 := cell_keep hb5 ck2; have n5 := (hb5.frozen (p := ⟨gx, k, none⟩) (HX.out.lt)).trans fk; have n6 := cell_keep hb5 cE))
                    have HW5 := Lib.hid (HW.out.drew.next hl5)
                    have HE5 := Lib.hid (HE.out.drew.below hb5)
                    have HX5 := Lib.hid ((HX.out.drew.below hb5).step (x := fd) (k := k) (by omega) (by rw [HVK.out, HFD.out]; rfl))
                    clear hb5 hl5
                    go_wp2
                    go_roundw
                    case rel => exact ⟨k + 1, by go_num, by omega, ((HW5.out.set hgxw)).b2, ((HE5.out.other hgne)), HX5.out, (HW5.out.set hgxw)⟩
                    case measure => simp [intOf]; omega
            · obtain rfl : k = n + 1 := by omega
              have HXE := Lib.hid (HX.out.congr (h := ndV (bs s) st is (i + 1)) (fun j hj => if_pos hj))
              clear HX HX2 HE2 HW2
              go_wp2
              go_roundw
              case rel => exact ⟨i + 1, gx, rfl, by go_num, by omega, hgxw, c2, HXE.out, HW.out⟩
              case measure => simp [intOf]; omega
        · obtain rfl : i = m := by omega
          have HVE := Lib.hid (fun k => show ndV (bs s) st is i k = ndEnds (bs s) (ndE0 st) is k by
            have h := ndV_is (bs s) st is is.length (Nat.le_refl _)
            rw [List.take_length, HM.out] at h
            rw [h])
          have c1 := HW.out.b1
          have HWK := HW
          cases fin with
          | true =>
            have cE := HE.out.c n (by omega)
            have HDE := Lib.hid (show ndV (bs s) st is i n = d by have h := HD.out; rw [ndFound_fin rfl, bs_length, HN.out] at h; rw [HVE.out]; exact h)
            rw [HDE.out] at cE
            go_wp2
            go_ret
            exact ⟨rfl, HW.out.low⟩
          | false =>
            go_wp2
            have hdd : decide (¬ (n : Int) + 1 ≤ (n : Int)) = true := decide_eq_true (by omega)
            clear HW HRE c1 c2
            go_loopw [10] (fun kv wr => ∃ k : Nat, kv = .int .i64 (k : Nat) ∧ k ≤ n + 1 ∧ (∀ j, j < k → ndV (bs s) st is i j = false) ∧ Hid (BRow wr g (n + 1) (ndV (bs s) st is i)) ∧ Hid (RfW w st false (.slice AU i cu) is wr)) (fun kv _ => n + 1 - (intOf kv).toNat)
            case atStart => exact ⟨0, rfl, Nat.zero_le _, fun j hj => absurd hj (Nat.not_lt_zero _), HE, HWK⟩
            case round =>
              obtain ⟨k, rfl, hk, hno, HE, HW⟩ := hrel
              have HNO := Lib.hid hno
              clear hno
              by_cases hlt : k ≤ n
              · have ck := HE.out.c k (by omega)
                obtain ⟨x, hx⟩ : ∃ x, ndV (bs s) st is i k = x := ⟨_, rfl⟩
                have HX := Lib.hid hx
                rw [hx] at ck
                clear hx
                cases x with
                | true =>
                  have HDT := Lib.hid (show d = true by rw [← HD.out]; exact (ndFound_any rfl).2 ⟨k, by rw [bs_length, HN.out]; exact hlt, by rw [← HVE.out]; exact HX.out⟩)
                  go_wp2
                  go_ret
                  exact ⟨by rw [HDT.out]; rfl, HW.out.low⟩
                | false =>
                  go_wp2
                  go_roundw
                  case rel => exact ⟨k + 1, by go_num, by omega, fun j hj => (by rcases Nat.lt_succ_iff_lt_or_eq.1 hj with h | h; exact HNO.out j h; rw [h]; exact HX.out), HE, HW⟩
                  case measure => simp [intOf]; omega
              · obtain rfl : k = n + 1 := by omega
                have HDF := Lib.hid (show d = false by
                  rw [← HD.out]
                  cases hq : ndFound ⟨st, false, is⟩ (bs s) with
                  | false => rfl
                  | true =>
                    obtain ⟨j, h1, h2⟩ := (ndFound_any rfl).1 hq
                    rw [bs_length, HN.out] at h1
                    have h3 := HNO.out j (by omega)
                    rw [HVE.out] at h3
                    exact h2.symm.trans h3)
                go_wp2
                go_ret
                exact ⟨by rw [HDF.out]; rfl, HW.out.low⟩
end Go.Proofs.YtodlgbihdehmbaaGreatDoor.Nd.NR
