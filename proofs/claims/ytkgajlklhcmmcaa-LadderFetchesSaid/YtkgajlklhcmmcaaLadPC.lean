/-
  Contracts of the program's functions of layer 14: which ring reaches a time.
-/
import Derived.Test.YtkgajlklhcmmcaaLadPB
import Derived.Shelf.Abstract
set_option linter.unusedSimpArgs false
set_option linter.unusedVariables false
namespace Go.Proofs.Ytkgajlklhcmmcaa.AP
open Go.RowKit IP
theorem lReaches_eq (s : Int) (l : List (Int × Int)) (t now : Int) : lReaches t now (s, l) = decide (now - s * (l.length : Int) < rAt s t) := rfl
def lAsks (fr now : Int) (r : Rg) : Bool := decide (now - fr ≤ lReach r)
theorem reach_le {s : Int} {l : List (Int × Int)} (hr : rRight s l = true) : 1 ≤ s * (l.length : Int) ∧ s * (l.length : Int) ≤ 34560000 := by
  obtain ⟨m1, m2, m3, m4⟩ := rMay_iff.1 (rRight_iff.1 hr).1
  have h1 : s * (l.length : Int) ≤ 86400 * 400 := Int.mul_le_mul m2 m4 (by omega) (by omega)
  have h2 : 1 * 1 ≤ s * (l.length : Int) := Int.mul_le_mul m1 m3 (by omega) (by omega)
  omega
set_option maxRecDepth 100000 in
set_option maxHeartbeats 4000000 in
theorem reaches_c (s t now : Int) (v : Value) (l : List (Int × Int)) (pb nb : Nat) (hr : rRight s l = true) (ht : rTm t = true) (hn : rTm now = true) (w : World) (f : RgOut w v l) (c0 : w.cell? ⟨pb, 0, none⟩ = some (.int .i64 t)) (c1 : w.cell? ⟨nb, 0, none⟩ = some (.int .i64 now)) :
    Calls Try.prog 33 #[.agg #[.int .i64 s, v], .pointer (some ⟨pb, 0, none⟩), .pointer (some ⟨nb, 0, none⟩)] w fun e w' => e = .returned (.bool (lReaches t now (s, l))) ∧ Below w.heap.size w w' := by
  obtain ⟨m1, m2, m3, m4⟩ := rMay_iff.1 (rRight_iff.1 hr).1
  obtain ⟨p1, p2⟩ := reach_le hr
  obtain ⟨t0, t1⟩ := rTm_iff.1 ht
  obtain ⟨n0, n1⟩ := rTm_iff.1 hn
  obtain ⟨a0, a1, -, -, -⟩ := rAt_facts (s := s) m1 t0
  have SO := fun (W : World) (h : Below w.heap.size w W) => slotOf_c s t v l hr ht W (f.below h)
  rw [lReaches_eq]
  obtain ⟨A, c, rfl, hc, -⟩ := id f
  have RE := fun W => reach_c s A l.length c ⟨m1, m2⟩ ⟨by omega, by omega⟩ W
  obtain ⟨n, hl⟩ : ∃ n, l.length = n := ⟨_, rfl⟩
  rw [hl] at SO RE p1 p2 ⊢
  obtain ⟨u, hu⟩ : ∃ u, rAt s t = u := ⟨_, rfl⟩
  obtain ⟨q, hq⟩ : ∃ q, s * (n : Int) = q := ⟨_, rfl⟩
  rw [hu] at SO a0 a1 ⊢
  rw [hq] at RE p1 p2 ⊢
  obtain ⟨b1, hb, hz⟩ := bx_new1 w #[.int .i64 s, .slice A n c] 53
  obtain ⟨wc, hwc⟩ : ∃ wc, (w.alloc (.cells #[.int .i64 s, .slice A n c] 53)) = wc := ⟨_, rfl⟩
  rw [hwc] at b1 hb hz
  obtain ⟨k0, k1, -, -⟩ := b1.two
  have Y0 : ∀ z : Laid wc, z.W.cell? ⟨w.heap.size, 0, none⟩ = some (.int .i64 s) := fun z => cellb z.h k0
  have Y1 : ∀ z : Laid wc, z.W.cell? ⟨w.heap.size, 1, none⟩ = some (.slice A n c) := fun z => cellb z.h k1
  have Y2 : ∀ z : Laid wc, z.W.cell? ⟨pb, 0, none⟩ = some (.int .i64 t) := fun z => cellb z.h (cellb hb c0)
  have Y3 : ∀ z : Laid wc, z.W.cell? ⟨nb, 0, none⟩ = some (.int .i64 now) := fun z => cellb z.h (cellb hb c1)
  have SO1 := Lib.hid (fun (p : Laid wc) => SO p.W (bnext hb p.h))
  have RE1 := Lib.hid RE
  have KB := Lib.hid hb; have HWC := Lib.hid hwc
  have w1 : IntKind.i64.wrap (now - q) = now - q := by rw [IntKind.wrap_i64]; omega
  clear b1 hb hz hwc f hc hl hu hq hr ht hn m1 m2 m3 m4 k0 k1 SO RE c0 c1
  go_enter Try.func33, Try.ntmps33
  go_wp2_with fail
  rw [HWC.out]
  refine wp_region_laid (by kernel_rfl) (by kernel_rfl) ?_
  repeat (go_big_quiet_step (first | (go_at_call 34; with_reducible exact Calls.laid (SO1.out _)) | (go_at_call 19; with_reducible exact Calls.laid (RE1.out _))))
  refine wpQuiet_nil ?_
  intro _ hw'
  obtain ⟨pq, hw''⟩ := hw'
  subst hw''
  have KX := Lib.hid (bnext KB.out pq.h)
  go_wp2
  go_ret
  exact ⟨rfl, KX.out⟩
set_option maxRecDepth 100000 in
set_option maxHeartbeats 4000000 in
theorem asks_c (s fr now : Int) (v : Value) (l : List (Int × Int)) (nb pb : Nat) (hr : rRight s l = true) (ht : rTm fr = true) (hn : rTm now = true) (w : World) (f : RgOut w v l) (c0 : w.cell? ⟨pb, 0, none⟩ = some (.int .i64 fr)) (c1 : w.cell? ⟨nb, 0, none⟩ = some (.int .i64 now)) :
    Calls Try.prog 40 #[.agg #[.int .i64 s, v], .pointer (some ⟨nb, 0, none⟩), .pointer (some ⟨pb, 0, none⟩)] w fun e w' => e = .returned (.bool (lAsks fr now (s, l))) ∧ Below w.heap.size w w' := by
  obtain ⟨m1, m2, m3, m4⟩ := rMay_iff.1 (rRight_iff.1 hr).1
  obtain ⟨p1, p2⟩ := reach_le hr
  obtain ⟨t0, t1⟩ := rTm_iff.1 ht
  obtain ⟨n0, n1⟩ := rTm_iff.1 hn
  rw [show lAsks fr now (s, l) = decide (now - fr ≤ s * (l.length : Int)) from rfl]
  obtain ⟨A, c, rfl, hc, -⟩ := id f
  have RE := fun W => reach_c s A l.length c ⟨m1, m2⟩ ⟨by omega, by omega⟩ W
  obtain ⟨n, hl⟩ : ∃ n, l.length = n := ⟨_, rfl⟩
  rw [hl] at RE p1 p2 ⊢
  obtain ⟨q, hq⟩ : ∃ q, s * (n : Int) = q := ⟨_, rfl⟩
  rw [hq] at RE p1 p2 ⊢
  obtain ⟨b1, hb, hz⟩ := bx_new1 w #[.int .i64 s, .slice A n c] 53
  obtain ⟨wc, hwc⟩ : ∃ wc, (w.alloc (.cells #[.int .i64 s, .slice A n c] 53)) = wc := ⟨_, rfl⟩
  rw [hwc] at b1 hb hz
  obtain ⟨k0, k1, -, -⟩ := b1.two
  have Y0 : ∀ z : Laid wc, z.W.cell? ⟨w.heap.size, 0, none⟩ = some (.int .i64 s) := fun z => cellb z.h k0
  have Y1 : ∀ z : Laid wc, z.W.cell? ⟨w.heap.size, 1, none⟩ = some (.slice A n c) := fun z => cellb z.h k1
  have Y2 : ∀ z : Laid wc, z.W.cell? ⟨pb, 0, none⟩ = some (.int .i64 fr) := fun z => cellb z.h (cellb hb c0)
  have Y3 : ∀ z : Laid wc, z.W.cell? ⟨nb, 0, none⟩ = some (.int .i64 now) := fun z => cellb z.h (cellb hb c1)
  have RE1 := Lib.hid RE
  have KB := Lib.hid hb; have HWC := Lib.hid hwc
  have w1 : IntKind.i64.wrap (now - fr) = now - fr := by rw [IntKind.wrap_i64]; omega
  clear b1 hb hz hwc f hc hl hq hr ht hn m1 m2 m3 m4 k0 k1 RE c0 c1
  go_enter Try.func40, Try.ntmps40
  go_wp2_with fail
  rw [HWC.out]
  refine wp_region_laid (by kernel_rfl) (by kernel_rfl) ?_
  repeat (go_big_quiet_step (first | (go_at_call 19; with_reducible exact Calls.laid (RE1.out _))))
  refine wpQuiet_nil ?_
  intro _ hw'
  obtain ⟨pq, hw''⟩ := hw'
  subst hw''
  have KX := Lib.hid (bnext KB.out pq.h)
  go_wp2
  go_ret
  exact ⟨rfl, KX.out⟩
/-! ### The first one -/
def fiI (o : Option Nat) : Int := match o with
  | some k => (k : Int)
  | none => -1
theorem fi_at {α : Type} {L : List α} {p : α → Bool} {k : Nat} {r : α} (h1 : L[k]? = some r) (h2 : p r = true) (h3 : ∀ (j : Nat) (r : α), j < k → L[j]? = some r → p r = false) : fiI (L.findIdx? p) = (k : Int) := by
  have hk := (List.getElem?_eq_some_iff.1 h1).1
  have h : L.findIdx? p = some k := List.findIdx?_eq_some_iff_getElem.2 ⟨hk, by rw [List.getElem?_eq_getElem hk] at h1; rw [Option.some.inj h1]; exact h2, fun j hj => by rw [h3 j _ hj (List.getElem?_eq_getElem (by omega))]; simp⟩
  rw [h]
  rfl
theorem fi_none {α : Type} {L : List α} {p : α → Bool} (h3 : ∀ (j : Nat) (r : α), L[j]? = some r → p r = false) : fiI (L.findIdx? p) = -1 := by
  have h : L.findIdx? p = none := List.findIdx?_eq_none_iff.2 fun x hx => by
    obtain ⟨j, hj⟩ := List.getElem?_of_mem hx
    exact h3 j x hj
  rw [h]
  rfl
theorem fi_some {α : Type} {L : List α} {p : α → Bool} {k : Nat} (h : L.findIdx? p = some k) : ∃ r, L[k]? = some r ∧ p r = true := by
  obtain ⟨hk, h1, _⟩ := List.findIdx?_eq_some_iff_getElem.1 h
  exact ⟨_, List.getElem?_eq_getElem hk, h1⟩
theorem eg_reaches : ∀ args w, (callFunc 33 args).run Try.prog w = .ok (.enter 33 args) w := enters_of Try.func33 (by kernel_rfl) rfl
set_option maxRecDepth 100000 in
set_option maxHeartbeats 4000000 in
theorem index_reaches (x now : Int) (v : Value) (L : List Rg) (hr : ∀ (k : Nat) (r : Rg), L[k]? = some r → rRight r.1 r.2 = true) (hl : L.length ≤ 100000) (ht : rTm x = true) (hn : rTm now = true) (pb nb : Nat) (w : World) (f : RiOut w v L) (c0 : w.cell? ⟨pb, 0, none⟩ = some (.int .i64 x)) (c1 : w.cell? ⟨nb, 0, none⟩ = some (.int .i64 now)) :
    Calls Try.prog 35 #[v, .func (.func 33) #[] #[.pointer (some ⟨pb, 0, none⟩), .pointer (some ⟨nb, 0, none⟩)]] w fun e w' => e = .returned (.int .i64 (fiI (L.findIdx? (lReaches x now)))) ∧ Below w.heap.size w w' := by
  have eg := eg_reaches
  obtain ⟨A, c, rfl, hcl, hx⟩ := f
  obtain ⟨n, hln⟩ : ∃ n, L.length = n := ⟨_, rfl⟩
  obtain ⟨d, hd⟩ : ∃ d, fiI (L.findIdx? (lReaches x now)) = d := ⟨_, rfl⟩
  rw [hd]
  rw [hln] at hcl hl ⊢
  have HY := Lib.hid (fun (k : Nat) (r : Rg) (h1 : L[k]? = some r) (h2 : lReaches x now r = true) (h3 : ∀ (j : Nat) (r : Rg), j < k → L[j]? = some r → lReaches x now r = false) => show (k : Int) = d from (fi_at h1 h2 h3).symm.trans hd)
  have HNO := Lib.hid (fun (h3 : ∀ (j : Nat) (r : Rg), L[j]? = some r → lReaches x now r = false) => show (-1 : Int) = d from (fi_none h3).symm.trans hd)
  have CL := Lib.hid (fun (W : World) (hb : Below w.heap.size w W) (s : Int) (l : List (Int × Int)) (u : Value) (h1 : rRight s l = true) (h2 : RgOut W u l) => reaches_c s x now u l pb nb h1 ht hn W h2 (cellb hb c0) (cellb hb c1))
  have HX := Lib.hid hx; have HN := Lib.hid hln; have HR := Lib.hid hr
  clear hx hln hr hd ht hn c0 c1
  go_enter Try.func35, Try.ntmps35
  go_wp2
  go_loopw [5, 8] (fun _ s8 wr => ∃ k : Nat, k ≤ n ∧ s8 = .int .i64 k ∧ Hid ((∀ (j : Nat) (r : Rg), j < k → L[j]? = some r → lReaches x now r = false) ∧ Below w.heap.size w wr)) (fun _ s8 _ => n - (intOf s8).toNat)
  case atStart => exact ⟨0, Nat.zero_le _, rfl, fun j r h => absurd h (Nat.not_lt_zero j), Below.refl _ _⟩
  case round =>
    obtain ⟨k, hk, rfl, HB⟩ := hrel
    by_cases hlt : k < n
    · obtain ⟨b, off, s, l, A', c', q, rfl, hp, hq, k0, k1, ho⟩ := ri_at (c := c) (fun hn => by obtain ⟨b, off, e, ha⟩ := HX.out hn; exact ⟨b, off, e, ha.below HB.out.2⟩) HN.out hlt
      have hc := CL.out wr HB.out.2 s l _ (HR.out k _ hp) ho
      cases hpr : lReaches x now (s, l)
      · rw [hpr] at hc
        have NX := Lib.hid (show ∀ (j : Nat) (r : Rg), j < k + 1 → L[j]? = some r → lReaches x now r = false from fun j r h1 h2 => by
          rcases Nat.lt_or_ge j k with h | h
          · exact HB.out.1 j r h h2
          · obtain rfl : j = k := by omega
            rw [hp] at h2
            obtain rfl := Option.some.inj h2
            exact hpr)
        clear hpr hp hq ho
        go_wp2_with (go_at_fn 33; refine hc.mono ?_; rintro e w2 ⟨rfl, hb2⟩)
        go_roundw
        case rel => exact ⟨k + 1, by omega, by go_num, NX.out, bnext HB.out.2 hb2⟩
        case measure => simp [intOf]; omega
      · rw [hpr] at hc
        have DK := Lib.hid (HY.out k _ hp hpr HB.out.1)
        clear hpr hp hq ho
        go_wp2_with (go_at_fn 33; refine hc.mono ?_; rintro e w2 ⟨rfl, hb2⟩)
        go_ret
        exact ⟨congrArg (fun z => Ending.returned (.int .i64 z)) DK.out, bnext HB.out.2 hb2⟩
    · obtain rfl : k = n := by omega
      have DK := Lib.hid (HNO.out (fun j r h2 => HB.out.1 j r (by have := (List.getElem?_eq_some_iff.1 h2).1; have := HN.out; omega) h2))
      go_wp2
      go_ret
      exact ⟨congrArg (fun z => Ending.returned (.int .i64 z)) DK.out, HB.out.2⟩
theorem eg_asks : ∀ args w, (callFunc 40 args).run Try.prog w = .ok (.enter 40 args) w := enters_of Try.func40 (by kernel_rfl) rfl
set_option maxRecDepth 100000 in
set_option maxHeartbeats 4000000 in
theorem index_asks (x now : Int) (v : Value) (L : List Rg) (hr : ∀ (k : Nat) (r : Rg), L[k]? = some r → rRight r.1 r.2 = true) (hl : L.length ≤ 100000) (ht : rTm x = true) (hn : rTm now = true) (pb nb : Nat) (w : World) (f : RiOut w v L) (c0 : w.cell? ⟨pb, 0, none⟩ = some (.int .i64 x)) (c1 : w.cell? ⟨nb, 0, none⟩ = some (.int .i64 now)) :
    Calls Try.prog 35 #[v, .func (.func 40) #[] #[.pointer (some ⟨nb, 0, none⟩), .pointer (some ⟨pb, 0, none⟩)]] w fun e w' => e = .returned (.int .i64 (fiI (L.findIdx? (lAsks x now)))) ∧ Below w.heap.size w w' := by
  have eg := eg_asks
  obtain ⟨A, c, rfl, hcl, hx⟩ := f
  obtain ⟨n, hln⟩ : ∃ n, L.length = n := ⟨_, rfl⟩
  obtain ⟨d, hd⟩ : ∃ d, fiI (L.findIdx? (lAsks x now)) = d := ⟨_, rfl⟩
  rw [hd]
  rw [hln] at hcl hl ⊢
  have HY := Lib.hid (fun (k : Nat) (r : Rg) (h1 : L[k]? = some r) (h2 : lAsks x now r = true) (h3 : ∀ (j : Nat) (r : Rg), j < k → L[j]? = some r → lAsks x now r = false) => show (k : Int) = d from (fi_at h1 h2 h3).symm.trans hd)
  have HNO := Lib.hid (fun (h3 : ∀ (j : Nat) (r : Rg), L[j]? = some r → lAsks x now r = false) => show (-1 : Int) = d from (fi_none h3).symm.trans hd)
  have CL := Lib.hid (fun (W : World) (hb : Below w.heap.size w W) (s : Int) (l : List (Int × Int)) (u : Value) (h1 : rRight s l = true) (h2 : RgOut W u l) => asks_c s x now u l nb pb h1 ht hn W h2 (cellb hb c0) (cellb hb c1))
  have HX := Lib.hid hx; have HN := Lib.hid hln; have HR := Lib.hid hr
  clear hx hln hr hd ht hn c0 c1
  go_enter Try.func35, Try.ntmps35
  go_wp2
  go_loopw [5, 8] (fun _ s8 wr => ∃ k : Nat, k ≤ n ∧ s8 = .int .i64 k ∧ Hid ((∀ (j : Nat) (r : Rg), j < k → L[j]? = some r → lAsks x now r = false) ∧ Below w.heap.size w wr)) (fun _ s8 _ => n - (intOf s8).toNat)
  case atStart => exact ⟨0, Nat.zero_le _, rfl, fun j r h => absurd h (Nat.not_lt_zero j), Below.refl _ _⟩
  case round =>
    obtain ⟨k, hk, rfl, HB⟩ := hrel
    by_cases hlt : k < n
    · obtain ⟨b, off, s, l, A', c', q, rfl, hp, hq, k0, k1, ho⟩ := ri_at (c := c) (fun hn => by obtain ⟨b, off, e, ha⟩ := HX.out hn; exact ⟨b, off, e, ha.below HB.out.2⟩) HN.out hlt
      have hc := CL.out wr HB.out.2 s l _ (HR.out k _ hp) ho
      cases hpr : lAsks x now (s, l)
      · rw [hpr] at hc
        have NX := Lib.hid (show ∀ (j : Nat) (r : Rg), j < k + 1 → L[j]? = some r → lAsks x now r = false from fun j r h1 h2 => by
          rcases Nat.lt_or_ge j k with h | h
          · exact HB.out.1 j r h h2
          · obtain rfl : j = k := by omega
            rw [hp] at h2
            obtain rfl := Option.some.inj h2
            exact hpr)
        clear hpr hp hq ho
        go_wp2_with (go_at_fn 40; refine hc.mono ?_; rintro e w2 ⟨rfl, hb2⟩)
        go_roundw
        case rel => exact ⟨k + 1, by omega, by go_num, NX.out, bnext HB.out.2 hb2⟩
        case measure => simp [intOf]; omega
      · rw [hpr] at hc
        have DK := Lib.hid (HY.out k _ hp hpr HB.out.1)
        clear hpr hp hq ho
        go_wp2_with (go_at_fn 40; refine hc.mono ?_; rintro e w2 ⟨rfl, hb2⟩)
        go_ret
        exact ⟨congrArg (fun z => Ending.returned (.int .i64 z)) DK.out, bnext HB.out.2 hb2⟩
    · obtain rfl : k = n := by omega
      have DK := Lib.hid (HNO.out (fun j r h2 => HB.out.1 j r (by have := (List.getElem?_eq_some_iff.1 h2).1; have := HN.out; omega) h2))
      go_wp2
      go_ret
      exact ⟨congrArg (fun z => Ending.returned (.int .i64 z)) DK.out, HB.out.2⟩
end Go.Proofs.Ytkgajlklhcmmcaa.AP
