/-
  Contracts of the program's own functions of layer 9: Found.
-/
import Derived.Test.YtodigfdhhndboaaNdlPC
import Derived.Test.YtodigfdhhndboaaDecMath
import Derived.StillTailTactics
import Derived.Deep.QuietTactic
import Derived.BigQuiet
import Derived.Deep.Cut
import Derived.Deep.RegionHeld3
set_option linter.unusedSimpArgs false
set_option linter.unusedVariables false
namespace Go.Proofs.Ytodigfdhhndboaa.NP
open Go.RowKit
theorem itLow_mono {B B' : Nat} {w : World} {v : Value} {l : List NI} (h : ItLow B w v l) (hB : B ≤ B') : ItLow B' w v l := by
  obtain ⟨A, cap, hv, hc, hx⟩ := h
  refine ⟨A, cap, hv, hc, fun hn => ?_⟩
  obtain ⟨b, off, hA, hlt, hf⟩ := hx hn
  exact ⟨b, off, hA, by omega, hf⟩
/-- A world of the call: the needle's cells stand. -/
structure FndW (w : World) (st fin : Bool) (u : Value) (is : List NI) (wr : World) : Prop where
  low : Below w.heap.size w wr
  size : w.heap.size + 1 ≤ wr.heap.size
  b0 : wr.cell? ⟨w.heap.size, 0, none⟩ = some (.bool st)
  b1 : wr.cell? ⟨w.heap.size, 1, none⟩ = some (.bool fin)
  b2 : wr.cell? ⟨w.heap.size, 2, none⟩ = some u
  it : ItLow (w.heap.size + 1) wr u is
theorem FndW.next {w : World} {st fin : Bool} {u : Value} {is : List NI} {wr w' : World} (h : FndW w st fin u is wr) (hb : Below (w.heap.size + 1) wr w') : FndW w st fin u is w' :=
  ⟨h.low.trans (hb.mono (Nat.le_succ _)), Nat.le_trans h.size hb.size, (hb.cell (p := ⟨_, _, _⟩) (Nat.lt_succ_self _)).trans h.b0, (hb.cell (p := ⟨_, _, _⟩) (Nat.lt_succ_self _)).trans h.b1, (hb.cell (p := ⟨_, _, _⟩) (Nat.lt_succ_self _)).trans h.b2, h.it.below hb⟩
theorem FndW.first {w : World} {st fin : Bool} {u : Value} {is : List NI} (hu : ItOut w u is) (T : TypeId) : FndW w st fin u is (w.alloc (.cells #[.bool st, .bool fin, u] T)) := by
  have hb : Below w.heap.size w (w.alloc (.cells #[.bool st, .bool fin, u] T)) := (Below.refl _ _).alloc (Nat.le_refl _) _
  exact ⟨hb, by simp, by simp, by simp, by simp, itLow_mono ((hu.low (Nat.le_refl _)).below hb) (Nat.le_succ _)⟩
/-- The rows of Found's loop. -/
structure FndI (B : Nat) (st fin : Bool) (is : List NI) (t : List Nat) (k : Nat) (wr : World) (vr vs : Value) : Prop where
  row : PlNew B wr vr (ndRow is st t k)
  spare : ∃ l, PlNew B wr vs l
  apart : Apart vr vs
  no : fin = false → ∀ j, j < k → ndThrough is (ndRow is st t j) = false
theorem apart_nil (v : Value) : Apart v (.slice none 0 0) := fun g _ h => by cases h
theorem rowR (is : List NI) (st : Bool) (t : List Nat) (k : Nat) : (ndRow is st t k).Pairwise (· < ·) := (ndRow_is _ _ _ k).1
theorem rowT (is : List NI) (st : Bool) (t : List Nat) (k : Nat) : ∀ a ∈ ndRow is st t k, a ≤ is.length := fun a h => ndRow_le h
theorem rowL (is : List NI) (st : Bool) (t : List Nat) (k : Nat) : (ndRow is st t k).length ≤ is.length + 1 := by
  rcases rise_length _ 0 (rowR is st t k) (fun q hq => ⟨Nat.zero_le _, rowT is st t k q hq⟩) with h | h
  · omega
  · rw [h]; exact Nat.zero_le _
theorem bs_get {s : ByteArray} {k : Nat} (h : k < s.size) : ∃ c, (bs s).getD k 0 = c ∧ (s[k]'h).toNat = c ∧ c < 256 := ⟨_, rfl, at_byte h, by have := byte_le s k; unfold byteAt at this; omega⟩
theorem first_inv (is : List NI) : RowI is (ndReach is [] 0) 0 := reach_rise (RowI.nil is 0)
theorem first_top (is : List NI) : ∀ q ∈ ndReach is [] 0, q ≤ is.length := fun q hq => by
  have := row_first.1 hq
  have := ndEnd_le (Nat.zero_le is.length)
  omega
theorem rch_first {B : Nat} {w w' : World} {v' : Value} {l : List Nat} (h : Rch B w (.slice none 0 0) w' v' l) (hB : B ≤ w.heap.size) : Below B w w' := h.low (PlNew.nil B w) hB
theorem FndW.drew {w : World} {st fin : Bool} {u : Value} {is : List NI} {wr : World} (h : FndW w st fin u is wr) : FndW w st fin u is wr.drew := ⟨h.low.drew, h.size, h.b0, h.b1, h.b2, h.it⟩
theorem apart_cut {v : Value} {A : Option Addr} {n c : Nat} (h : Apart v (.slice A n c)) : Apart (.slice A 0 c) v := fun g h1 h2 => by
  cases A with
  | none => cases h1
  | some a => exact h g h2 h1
theorem FndI.next {B : Nat} {st fin : Bool} {is : List NI} {t : List Nat} {k b : Nat} {wr w' : World} {vr vs v v' : Value} {next : List Nat} (hI : FndI B st fin is t k wr vr vs) (hb : t.getD k 0 = b) (hn : next = if st = true then [] else ndReach is [] 0)
    {w4 : World} (hrow : PlNew B w4 vr (ndRow is st t k)) (ha : Apart v vr) (hr : Rch B w4 v w' v' (ndGo is b next (ndRow is st t k))) (hno : fin = false → ndThrough is (ndRow is st t k) = false) : FndI B st fin is t (k + 1) w' v' vr := by
  obtain ⟨h1, h2⟩ := hr.other hrow ha
  refine ⟨?_, ⟨_, h1⟩, h2, fun hf j hj => ?_⟩
  · have e : ndRow is st t (k + 1) = ndGo is b next (ndRow is st t k) := by rw [hn, ← hb]; rfl
    rw [e]
    exact hr.new
  · rcases Nat.lt_or_ge j k with h | h
    · exact hI.no hf j h
    · obtain rfl : j = k := by omega
      exact hno hf
theorem found_mid {st : Bool} {is : List NI} {t : List Nat} {k : Nat} (hk : k ≤ t.length) (h : ndThrough is (ndRow is st t k) = true) : ndFound ⟨st, false, is⟩ t = true :=
  (ndFound_any rfl).2 ⟨k, hk, (through_row is st t k).symm.trans h⟩
theorem found_end {B : Nat} {st fin : Bool} {is : List NI} {t : List Nat} {wr : World} {vr vs : Value} (h : FndI B st fin is t t.length wr vr vs) : ndThrough is (ndRow is st t t.length) = ndFound ⟨st, fin, is⟩ t := by
  cases fin with
  | true => rw [ndFound_fin rfl]; exact through_row is st t _
  | false =>
    rw [Bool.eq_iff_iff]
    constructor
    · exact found_mid (Nat.le_refl _)
    · intro h1
      obtain ⟨k, h2, h3⟩ := (ndFound_any rfl).1 h1
      rw [← through_row] at h3
      rcases Nat.lt_or_ge k t.length with h4 | h4
      · have h5 := h.no rfl k h4
        have h6 : ndThrough is (ndRow is st t k) = true := h3
        rw [h5] at h6
        cases h6
      · obtain rfl : k = t.length := by omega
        exact h3
set_option maxRecDepth 100000 in
set_option maxHeartbeats 4000000 in
theorem found_c (st fin : Bool) (u : Value) (is : List NI) (s : ByteArray) (hs : s.size ≤ 100000) (hi : is.length ≤ 1000) (hok : ∀ i ∈ is, i.ok) (w : World) (hu : ItOut w u is) :
    Calls Try.prog 16 #[.agg #[.bool st, .bool fin, u], .string s] w fun e w' => e = .returned (.bool (ndFound ⟨st, fin, is⟩ (bs s))) ∧ Below w.heap.size w w' := by
  obtain ⟨d, hd⟩ : ∃ d, ndFound ⟨st, fin, is⟩ (bs s) = d := ⟨_, rfl⟩
  rw [hd]
  have HD := Lib.hid hd; have HOK := Lib.hid hok; have HLI := Lib.hid hi
  have HW1 := Lib.hid (FndW.first (st := st) (fin := fin) hu 29)
  obtain ⟨AU, cu, hue, hcu, _⟩ := hu
  obtain ⟨m, hm⟩ : ∃ m, is.length = m := ⟨_, rfl⟩
  rw [hm] at hue hcu
  subst hue
  have RC0 := Lib.hid (fun (wr : World) (h : FndW w st fin (.slice AU m cu) is wr) (v : Value) (hv : PlNew (w.heap.size + 1) wr v []) => reach_c (w.heap.size + 1) v (.slice AU m cu) [] is 0 (Nat.zero_le _) hi (Nat.zero_le _) (fun q hq => by cases hq) wr h.size hv h.it)
  have TC := Lib.hid (fun (wr : World) (h : FndW w st fin (.slice AU m cu) is wr) (v : Value) (k : Nat) (hv : PlNew (w.heap.size + 1) wr v (ndRow is st (bs s) k)) => through_c (w.heap.size + 1) v (.slice AU m cu) (ndRow is st (bs s) k) is (by have := rowL is st (bs s) k; omega) hi wr hv h.it)
  have SC := Lib.hid (fun (wr : World) (h : FndW w st fin (.slice AU m cu) is wr) (v x : Value) (next : List Nat) (k b : Nat) (hb : b < 256) (hn : RowI is next 0) (hnt : ∀ q ∈ next, q ≤ is.length) (hv : PlNew (w.heap.size + 1) wr v next) (hx : PlNew (w.heap.size + 1) wr x (ndRow is st (bs s) k)) (ha : Apart v x) => step_c (w.heap.size + 1) v x (.slice AU m cu) next (ndRow is st (bs s) k) is b hb hi hok hn hnt (rowR _ _ _ _) (rowT _ _ _ _) wr h.size hv hx ha h.it)
  clear hd hok hi hm
  go_enter Try.func16, Try.ntmps16
  obtain ⟨c0, c1, c2⟩ : (w.alloc (.cells #[.bool st, .bool fin, .slice AU m cu] 29)).cell? ⟨w.heap.size, 0, none⟩ = some (.bool st) ∧ (w.alloc (.cells #[.bool st, .bool fin, .slice AU m cu] 29)).cell? ⟨w.heap.size, 1, none⟩ = some (.bool fin) ∧ (w.alloc (.cells #[.bool st, .bool fin, .slice AU m cu] 29)).cell? ⟨w.heap.size, 2, none⟩ = some (.slice AU m cu) := ⟨HW1.out.b0, HW1.out.b1, HW1.out.b2⟩
  clear c0 c1 c2
  go_wp2_with fail
  refine (RC0.out _ HW1.out _ (PlNew.nil _ _)).mono ?_; rintro _ w2 ⟨v2, rfl, hr2⟩
  have HW2 := Lib.hid (HW1.out.next (rch_first hr2 HW1.out.size))
  have HI2 := Lib.hid (show FndI (w.heap.size + 1) st fin is (bs s) 0 w2 v2 (.slice none 0 0) from ⟨hr2.new, ⟨[], PlNew.nil _ _⟩, apart_nil _, fun _ j hj => absurd hj (Nat.not_lt_zero _)⟩)
  clear hr2 HW1
  go_wp2
  go_loopw [5, 6, 7, 8, 14] (fun rv sv _ _ kv wr => ∃ (k : Nat), kv = .int .i64 (k : Nat) ∧ k ≤ s.size ∧ wr.cell? ⟨w.heap.size, 0, none⟩ = some (.bool st) ∧ wr.cell? ⟨w.heap.size, 1, none⟩ = some (.bool fin) ∧ wr.cell? ⟨w.heap.size, 2, none⟩ = some (.slice AU m cu) ∧ Hid (FndI (w.heap.size + 1) st fin is (bs s) k wr rv sv) ∧ Hid (FndW w st fin (.slice AU m cu) is wr)) (fun _ _ _ _ kv _ => s.size - (intOf kv).toNat)
  case atStart => exact ⟨0, rfl, Nat.zero_le _, HW2.out.b0, HW2.out.b1, HW2.out.b2, HI2.out, HW2.out⟩
  case round =>
    obtain ⟨k, rfl, hk, c0, c1, c2, HI, HW⟩ := hrel
    by_cases hlt : k < s.size
    · obtain ⟨b, hb1, hb2, hb3⟩ := bs_get hlt
      have HB1 := Lib.hid hb1
      obtain ⟨ls, hsp⟩ := HI.out.spare
      obtain ⟨AS, cs, rfl, hcs, hgs⟩ := hsp.form
      obtain ⟨n, hn⟩ : ∃ n, ls.length = n := ⟨_, rfl⟩
      rw [hn] at hsp hcs HI ⊢
      have HSP := Lib.hid hsp.cut
      clear hb1 hn hsp hgs
      cases fin with
      | true =>
        have AP := Lib.hid (apart_cut HI.out.apart)
        cases st with
        | true =>
          have NX := Lib.hid (fun (w' : World) (v' : Value) (hr : Rch (w.heap.size + 1) wr.drew (.slice AS 0 cs) w' v' (ndGo is b [] (ndRow is true (bs s) k))) => FndI.next (w4 := wr.drew) HI.out HB1.out rfl HI.out.row AP.out hr (fun h => by cases h))
          go_upto_region 11 with (fail)
          go_region_held3 (fun y => y.cell? ⟨w.heap.size, 2, none⟩ = some (.slice AU m cu))
            (first | go_keep)
            (first
              | (go_at_call 28; refine (SC.out _ HW.out.drew _ _ [] k b hb3 (RowI.nil _ _) (fun q hq => by cases hq) HSP.out HI.out.row AP.out).mono ?_; rintro e w5 ⟨v5, rfl, hr5⟩; have hl5 : Below (w.heap.size + 1) wr.drew w5 := hr5.low HSP.out HW.out.size; have q2 : w5.cell? ⟨w.heap.size, 2, none⟩ = some (.slice AU m cu) := (HW.out.drew.next hl5).b2))
          have HW5 := Lib.hid (HW.out.drew.next hl5)
          have HI5 := Lib.hid (NX.out _ _ hr5)
          clear hr5 hl5
          go_wp2
          go_roundw
          case rel => exact ⟨k + 1, by go_num, by omega, HW5.out.b0, HW5.out.b1, HW5.out.b2, HI5.out, HW5.out⟩
          case measure => simp [intOf]; omega
        | false =>
          go_upto_region 11 with (first | (go_at_call 26; refine (RC0.out _ HW.out _ HSP.out).mono ?_; rintro e w4 ⟨v4, rfl, hr4⟩; have hl4 : Below (w.heap.size + 1) wr w4 := hr4.low HSP.out HW.out.size; have c3 : w4.cell? ⟨w.heap.size, 2, none⟩ = some (.slice AU m cu) := (HW.out.next hl4).b2))
          obtain ⟨ho4, ha4⟩ := hr4.other HI.out.row AP.out
          have HW4 := Lib.hid (HW.out.next hl4)
          have HN4 := Lib.hid hr4.new
          have HO4 := Lib.hid ho4; have HA4 := Lib.hid ha4
          have NX := Lib.hid (fun (w' : World) (v' : Value) (hr : Rch (w.heap.size + 1) w4.drew v4 w' v' (ndGo is b (ndReach is [] 0) (ndRow is false (bs s) k))) => FndI.next (w4 := w4.drew) HI.out HB1.out rfl HO4.out HA4.out hr (fun h => by cases h))
          clear hr4 hl4 ho4 ha4
          go_region_held3 (fun y => y.cell? ⟨w.heap.size, 2, none⟩ = some (.slice AU m cu))
            (first | go_keep)
            (first
              | (go_at_call 28; refine (SC.out _ HW4.out.drew _ _ (ndReach is [] 0) k b hb3 (first_inv is) (first_top is) HN4.out HO4.out HA4.out).mono ?_; rintro e w5 ⟨v5, rfl, hr5⟩; have hl5 : Below (w.heap.size + 1) w4.drew w5 := hr5.low HN4.out HW4.out.size; have q2 : w5.cell? ⟨w.heap.size, 2, none⟩ = some (.slice AU m cu) := (HW4.out.drew.next hl5).b2))
          have HW5 := Lib.hid (HW4.out.drew.next hl5)
          have HI5 := Lib.hid (NX.out _ _ hr5)
          clear hr5 hl5
          go_wp2
          go_roundw
          case rel => exact ⟨k + 1, by go_num, by omega, HW5.out.b0, HW5.out.b1, HW5.out.b2, HI5.out, HW5.out⟩
          case measure => simp [intOf]; omega
      | false =>
        have AP := Lib.hid (apart_cut HI.out.apart)
        cases hth : ndThrough is (ndRow is st (bs s) k) with
        | true =>
          have HT1 := Lib.hid (found_mid (by rw [bs_length]; exact hk) hth)
          rw [HD.out] at HT1
          have HTH := Lib.hid hth
          clear hth
          go_wp2_with fail
          refine (TC.out _ HW.out _ k HI.out.row).mono ?_; rintro _ w3 ⟨rfl, rfl⟩
          rw [HTH.out]
          go_wp2
          go_ret
          exact ⟨by rw [HT1.out]; rfl, HW.out.low⟩
        | false =>
          have HTH := Lib.hid hth
          clear hth
          cases st with
          | true =>
            have NX := Lib.hid (fun (w' : World) (v' : Value) (hr : Rch (w.heap.size + 1) wr.drew (.slice AS 0 cs) w' v' (ndGo is b [] (ndRow is true (bs s) k))) => FndI.next (w4 := wr.drew) HI.out HB1.out rfl HI.out.row AP.out hr (fun _ => HTH.out))
            go_upto_region 11 with (first | (go_at_call 27; refine (TC.out _ HW.out _ k HI.out.row).mono ?_; rintro e w3 ⟨rfl, hw3⟩; obtain rfl := hw3.symm; rw [HTH.out]))
            go_region_held3 (fun y => y.cell? ⟨w.heap.size, 2, none⟩ = some (.slice AU m cu))
              (first | go_keep)
              (first
                | (go_at_call 28; refine (SC.out _ HW.out.drew _ _ [] k b hb3 (RowI.nil _ _) (fun q hq => by cases hq) HSP.out HI.out.row AP.out).mono ?_; rintro e w5 ⟨v5, rfl, hr5⟩; have hl5 : Below (w.heap.size + 1) wr.drew w5 := hr5.low HSP.out HW.out.size; have q2 : w5.cell? ⟨w.heap.size, 2, none⟩ = some (.slice AU m cu) := (HW.out.drew.next hl5).b2))
            have HW5 := Lib.hid (HW.out.drew.next hl5)
            have HI5 := Lib.hid (NX.out _ _ hr5)
            clear hr5 hl5
            go_wp2
            go_roundw
            case rel => exact ⟨k + 1, by go_num, by omega, HW5.out.b0, HW5.out.b1, HW5.out.b2, HI5.out, HW5.out⟩
            case measure => simp [intOf]; omega
          | false =>
            go_upto_region 11 with (first | (go_at_call 27; refine (TC.out _ HW.out _ k HI.out.row).mono ?_; rintro e w3 ⟨rfl, hw3⟩; obtain rfl := hw3.symm; rw [HTH.out]) | (go_at_call 26; refine (RC0.out _ HW.out _ HSP.out).mono ?_; rintro e w4 ⟨v4, rfl, hr4⟩; have hl4 : Below (w.heap.size + 1) wr w4 := hr4.low HSP.out HW.out.size; have c3 : w4.cell? ⟨w.heap.size, 2, none⟩ = some (.slice AU m cu) := (HW.out.next hl4).b2))
            obtain ⟨ho4, ha4⟩ := hr4.other HI.out.row AP.out
            have HW4 := Lib.hid (HW.out.next hl4)
            have HN4 := Lib.hid hr4.new
            have HO4 := Lib.hid ho4; have HA4 := Lib.hid ha4
            have NX := Lib.hid (fun (w' : World) (v' : Value) (hr : Rch (w.heap.size + 1) w4.drew v4 w' v' (ndGo is b (ndReach is [] 0) (ndRow is false (bs s) k))) => FndI.next (w4 := w4.drew) HI.out HB1.out rfl HO4.out HA4.out hr (fun _ => HTH.out))
            clear hr4 hl4 ho4 ha4
            go_region_held3 (fun y => y.cell? ⟨w.heap.size, 2, none⟩ = some (.slice AU m cu))
              (first | go_keep)
              (first
                | (go_at_call 28; refine (SC.out _ HW4.out.drew _ _ (ndReach is [] 0) k b hb3 (first_inv is) (first_top is) HN4.out HO4.out HA4.out).mono ?_; rintro e w5 ⟨v5, rfl, hr5⟩; have hl5 : Below (w.heap.size + 1) w4.drew w5 := hr5.low HN4.out HW4.out.size; have q2 : w5.cell? ⟨w.heap.size, 2, none⟩ = some (.slice AU m cu) := (HW4.out.drew.next hl5).b2))
            have HW5 := Lib.hid (HW4.out.drew.next hl5)
            have HI5 := Lib.hid (NX.out _ _ hr5)
            clear hr5 hl5
            go_wp2
            go_roundw
            case rel => exact ⟨k + 1, by go_num, by omega, HW5.out.b0, HW5.out.b1, HW5.out.b2, HI5.out, HW5.out⟩
            case measure => simp [intOf]; omega
    · obtain rfl : k = s.size := by omega
      have he : ndThrough is (ndRow is st (bs s) s.size) = d := by
        have h := HI.out
        rw [← bs_length] at h ⊢
        rw [found_end h]
        exact HD.out
      have HE := Lib.hid he
      clear he
      go_wp2_with fail
      refine (TC.out _ HW.out _ s.size HI.out.row).mono ?_; rintro _ w3 ⟨rfl, rfl⟩
      rw [HE.out]
      go_wp2
      go_ret
      exact ⟨rfl, HW.out.low⟩
end Go.Proofs.Ytodigfdhhndboaa.NP
