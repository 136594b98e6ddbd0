/-
  Contracts of the program's functions of layer 14: Right.
-/
import Derived.Test.YtkgajlklhcmmcaaLadPA
set_option linter.unusedSimpArgs false
set_option linter.unusedVariables false
namespace Go.Proofs.Ytkgajlklhcmmcaa.AP
open Go.RowKit IP
theorem own_rg {B : Nat} {e : TypeId} {w : World} {v : Value} {l : List (Int × Int)} (h : w.ownsRow B e 2 v l.length (rgC l)) : RgOut w v l := by
  rcases h.2 with ⟨rfl, h0⟩ | ⟨g, cap, cur, rfl, hb, hh, hle, _, _, ht⟩
  · exact ⟨none, 0, by rw [h0], by omega, fun hn => absurd (List.eq_nil_of_length_eq_zero h0) hn⟩
  · refine ⟨_, cap, rfl, hle, fun _ => ⟨g, 0, rfl, fun k x hk => ?_⟩⟩
    have hlt : k < l.length := (List.getElem?_eq_some_iff.1 hk).1
    obtain ⟨e1, e2⟩ := rgC_at l k x hk
    have key : ∀ (j : Nat) (u : Value), j < l.length * 2 → (rgC l)[j]? = some u → w.cell? ⟨g, 0 + j, none⟩ = some u := fun j u hj hu => by
      rw [Nat.zero_add]
      refine (cell_of_row w g j cur _ (0, 0) hh).trans ?_
      have h5 : (cur.toList.take (l.length * 2))[j]? = some u := by rw [ht]; exact hu
      rw [List.getElem?_take, if_pos hj] at h5
      simpa using h5
    exact ⟨by have := key (k * 2) _ (by omega) e1; simpa using this, by have := key (k * 2 + 1) _ (by omega) e2; simpa [Nat.add_assoc] using this⟩
theorem rung_info : (Try.prog.info? 43).map (fun i => (i.zero, i.size, i.bytes)) = some (some (.agg #[.int .i64 0, .int .i64 0]), 2, 16) := by kernel_rfl
/-- A ring of a row of them. -/
theorem ri_at {w : World} {A : Option Addr} {n c k : Nat} {L : List Rg} (hx : L ≠ [] → ∃ b off, A = some ⟨b, off, none⟩ ∧ RiAt w b off L) (hn : L.length = n) (hk : k < n) :
    ∃ (b off : Nat) (s : Int) (l : List (Int × Int)) (A' : Option Addr) (c' q : Nat), A = some ⟨b, off, none⟩ ∧ L[k]? = some (s, l) ∧ l.length = q ∧ w.cell? ⟨b, off + k * 2, none⟩ = some (.int .i64 s) ∧ w.cell? ⟨b, off + k * 2 + 1, none⟩ = some (.slice A' q c') ∧ RgOut w (.slice A' q c') l := by
  have hkl : k < L.length := by omega
  obtain ⟨b, off, hA, ha⟩ := hx (by intro e; rw [e] at hkl; exact absurd hkl (Nat.not_lt_zero _))
  have hp := List.getElem?_eq_getElem hkl
  obtain ⟨A', c', h1, h2, h3⟩ := ha k _ hp
  exact ⟨b, off, L[k].1, L[k].2, A', c', _, hA, hp, rfl, h1, h2, h3⟩
theorem lRungs_take {L : List Rg} {k : Nat} {s : Int} {l : List (Int × Int)} (h : L[k]? = some (s, l)) : lRungs (L.take (k + 1)) = lRungs (L.take k) ++ [(s, (l.length : Int))] := by
  unfold lRungs
  rw [List.take_add_one, h, List.map_append]
  rfl
set_option maxRecDepth 100000 in
set_option maxHeartbeats 4000000 in
theorem right_c (m f : Int) (v : Value) (L : List Rg) (hl : L.length ≤ 100000) (hs : ∀ r ∈ L, r.2.length ≤ 100000) (w : World) (h : RiOut w v L) :
    Calls Try.prog 16 #[.agg #[.int .i64 m, .int .i64 f, v]] w fun e w' => e = .returned (.bool (lRight m f L)) ∧ Below w.heap.size w w' := by
  obtain ⟨A, c, rfl, hc, hx⟩ := h
  obtain ⟨n, hn⟩ : ∃ n, L.length = n := ⟨_, rfl⟩
  obtain ⟨d, hd⟩ : ∃ d, lRight m f L = d := ⟨_, rfl⟩
  rw [hd]
  rw [hn] at hc hl ⊢
  obtain ⟨b1, hb, hz⟩ := bx_new1 w #[.int .i64 m, .int .i64 f, .slice A n c] 24
  obtain ⟨wp, hwp⟩ : ∃ wp, w.alloc (.cells #[.int .i64 m, .int .i64 f, .slice A n c] 24) = wp := ⟨_, rfl⟩
  rw [hwp] at b1 hb hz
  obtain ⟨k0, k1, k2, -⟩ := b1.three
  have HX := Lib.hid hx; have HN := Lib.hid hn; have HS := Lib.hid hs; have KP := Lib.hid hb; have HWP := Lib.hid hwp; have B1 := Lib.hid b1
  have NO := Lib.hid (fun (k : Nat) (s : Int) (l : List (Int × Int)) (h1 : L[k]? = some (s, l)) (h2 : rRight s l = false) => show d = false from by
    rw [← hd]
    refine Bool.eq_false_iff.2 fun h => ?_
    have := (lRight_iff.1 h).2.2 k _ h1
    rw [h2] at this; cases this)
  have FIN := Lib.hid (fun (h1 : ∀ (j : Nat) (r : Rg), L[j]? = some r → rRight r.1 r.2 = true) => show (tog (lRungs L) && lWay m f) = d from by
    rw [← hd]
    unfold lRight
    rw [show (L.all fun r => rRight r.1 r.2) = true from List.all_eq_true.2 (fun r hr => by obtain ⟨j, hj⟩ := List.getElem?_of_mem hr; exact h1 j r hj), Bool.and_true, Bool.and_comm])
  have SZ := Lib.hid (show wp.heap.size = w.heap.size + 1 from hz)
  obtain ⟨i0, hi0, hz0, hz1, hz2⟩ := info_parts rung_info
  clear hx hn hs hb hwp b1 hd hz
  go_enter Try.func16, Try.ntmps16
  go_wp2_with fail
  rw [HWP.out]
  clear k0 k1 k2
  go_loopw [3, 9] (fun r i wr => ∃ (k : Nat) (A3 : Option Addr) (c3 : Nat), k ≤ n ∧ i = .int .i64 k ∧ r = .slice A3 k c3 ∧ Hid (wr.ownsRow wp.heap.size 43 2 (.slice A3 k c3) k (rgC (lRungs (L.take k))) ∧ (∀ (j : Nat) (r : Rg), j < k → L[j]? = some r → rRight r.1 r.2 = true) ∧ Below wp.heap.size wp wr)) (fun _ i _ => n - (intOf i).toNat)
  case atStart => exact ⟨0, none, 0, Nat.zero_le _, rfl, rfl, ⟨rfl, .inl ⟨rfl, rfl⟩⟩, fun j r h => absurd h (Nat.not_lt_zero j), Below.refl _ _⟩
  case round =>
    obtain ⟨k, A3, c3, hk, rfl, rfl, HI⟩ := hrel
    obtain ⟨k0, k1, k2, -⟩ := (B1.out.below HI.out.2.2).three
    by_cases hlt : k < n
    · have KW := Lib.hid (bnext KP.out HI.out.2.2)
      obtain ⟨b, off, s, l, A', c', q, rfl, hp, hq, c0, c1, ho⟩ := ri_at (c := c) (fun hn => by obtain ⟨b, off, e, ha⟩ := HX.out hn; exact ⟨b, off, e, ha.below KW.out⟩) HN.out hlt
      have hq1 : q ≤ 100000 := by rw [← hq]; exact HS.out _ (List.mem_of_getElem? hp)
      obtain ⟨b2, hbc, hzc⟩ := bx_new1 wr #[.int .i64 s, .slice A' q c'] 53
      obtain ⟨wc, hwc⟩ : ∃ wc, wr.alloc (.cells #[.int .i64 s, .slice A' q c'] 53) = wc := ⟨_, rfl⟩
      rw [hwc] at b2 hbc hzc
      obtain ⟨y0, y1, -, -⟩ := b2.two
      have RC := IP.right_c s (.slice A' q c') l (by omega) wc (ho.below hbc)
      have HP := Lib.hid hp; have HQ := Lib.hid hq; have HWC := Lib.hid hwc; have B2 := Lib.hid b2
      have KB := Lib.hid (bnext KW.out hbc)
      have KC := Lib.hid hbc
      cases hr : rRight s l
      · obtain rfl := NO.out k s l hp hr
        rw [hr] at RC
        have RC := Lib.hid RC
        clear hr hp hq ho hbc hwc b2
        go_wp2_with fail
        rw [HWC.out]
        refine RC.out.mono ?_; rintro _ w1 ⟨rfl, hb1⟩
        have KX := Lib.hid (bnext KB.out hb1)
        go_wp2
        go_ret
        exact ⟨rfl, KX.out⟩
      · rw [hr] at RC
        have RC := Lib.hid RC
        have ALL := Lib.hid (show ∀ (j : Nat) (r : Rg), j < k + 1 → L[j]? = some r → rRight r.1 r.2 = true from fun j r h1 h2 => by
          rcases Nat.lt_or_ge j k with h | h
          · exact HI.out.2.1 j r h h2
          · obtain rfl : j = k := by omega
            rw [HP.out] at h2
            obtain rfl := Option.some.inj h2
            exact hr)
        clear hr hp hq ho hbc hwc b2
        go_wp2_with fail
        rw [HWC.out]
        refine RC.out.mono ?_; rintro _ w1 ⟨rfl, hb1⟩
        obtain ⟨y0, y1, -, -⟩ := (B2.out.below hb1).two
        have B3 := Lib.hid (B2.out.below hb1)
        have KX := Lib.hid (bnext KC.out hb1)
        clear hb1
        go_wp2_with fail
        refine (rung_c s A' q c' _).mono ?_; rintro _ w2 ⟨rfl, hb2⟩
        have KY := Lib.hid (bnext KX.out hb2)
        have OWN := Lib.hid (own_keep HI.out.1 (fun g _ hg _ => KY.out.block g hg))
        have SZ2 := Lib.hid (show wp.heap.size ≤ w2.heap.size from by have h1 := HI.out.2.2.size; have h2 := KY.out.size; omega)
        have B63 := Lib.hid (show k + 1 ≤ maxLen by simp only [maxLen]; omega)
        have B48 := Lib.hid (show (k + 1) * 16 ≤ 140737488355328 by omega)
        have FORM := Lib.hid (fun (W' : World) (v' : Value) (xs : List Value) (h : W'.ownsRow wp.heap.size 43 2 v' (k + 1) xs) => own_form h)
        clear hb2
        go_wp2_with (at_builtin; refine wpList_append_any _ rfl (.tmp 16) (.tmp 19) _ rfl wp.heap.size 43 i0 (.agg #[.int .i64 0, .int .i64 0]) 2 16 Try.underlying44 hi0 hz0 hz1 hz2 rfl (by decide) (.slice A3 k c3) k (rgC (lRungs (L.take k))) rfl (World.ownsRow.alloc OWN.out _) _ (some ⟨w2.heap.size, 0, none⟩) 1 1 [.int .i64 s, .int .i64 (q : Int)] rfl (Reads.of_own (World.ownsRow_lit (base := 0) (e := 43) (size := 2) w2 #[.int .i64 s, .int .i64 (q : Int)] 1 (Nat.zero_le _) (by decide) rfl)) (by simp [Value.oneCell']) B63.out B48.out (by have := SZ2.out; simp; omega) ?_; intro v20 w20 hown20 hg20 hat20; obtain ⟨A20, c20, hv20, _, _⟩ := FORM.out _ _ _ hown20; subst hv20; have HO := Lib.hid hown20; have HG := Lib.hid hg20; clear hown20 hg20 hat20)
        go_roundw
        case rel =>
          refine ⟨k + 1, A20, c20, by omega, by go_num, rfl, ?_, ALL.out, ?_⟩
          · rw [lRungs_take HP.out, rgC_app, HQ.out]
            exact HO.out
          · refine (((HI.out.2.2.trans (KY.out.mono HI.out.2.2.size)).alloc SZ2.out _).grown HG.out (by have := SZ2.out; simp; omega) (fun j ej => ?_))
            exact (own_lt OWN.out ej).1
        case measure => simp [intOf]; omega
    · obtain rfl : k = n := by omega
      have hall := FIN.out (fun j r h1 => HI.out.2.1 j r (by have := (List.getElem?_eq_some_iff.1 h1).1; have := HN.out; omega) h1)
      have OWN := HI.out.1
      rw [show L.take k = L from by rw [← HN.out]; exact List.take_length] at OWN
      have RG : RgOut wr (.slice A3 k c3) (lRungs L) := own_rg (B := wp.heap.size) (e := 43) (by rw [lRungs_length, HN.out]; exact OWN)
      have TG := Lib.hid (RP.together_c (.slice A3 k c3) (lRungs L) (by rw [lRungs_length, HN.out]; omega) wr RG)
      have IW := Lib.hid (fun W => isWay_b m f W)
      have KW := Lib.hid (bnext KP.out HI.out.2.2)
      have B2 := Lib.hid (B1.out.below HI.out.2.2)
      clear OWN RG
      obtain ⟨tg, htg⟩ : ∃ tg, tog (lRungs L) = tg := ⟨_, rfl⟩
      obtain ⟨wy, hwy⟩ : ∃ wy, lWay m f = wy := ⟨_, rfl⟩
      rw [htg] at TG hall
      rw [hwy] at IW hall
      have HD := Lib.hid hall
      clear hall htg hwy
      go_wp2_with fail
      refine TG.out.mono ?_; rintro _ w1 ⟨rfl, hb1⟩
      obtain ⟨k0, k1, k2, -⟩ := (B2.out.below hb1).three
      have KX := Lib.hid (bnext KW.out hb1)
      clear hb1
      cases tg
      · obtain rfl : d = false := HD.out.symm
        go_wp2
        go_ret
        exact ⟨rfl, KX.out⟩
      · obtain rfl : wy = d := by rw [← HD.out]; rfl
        go_wp2_with fail
        refine (IW.out _).mono ?_; rintro _ w2 ⟨rfl, hb2⟩
        have KY := Lib.hid (bnext KX.out hb2)
        go_wp2
        go_ret
        exact ⟨rfl, KY.out⟩
end Go.Proofs.Ytkgajlklhcmmcaa.AP
