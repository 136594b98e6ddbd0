/-
  Contracts of the document's own functions of layer 10 (isobarref10): a text's parts.
-/
import Derived.Test.YtodlgbihdehmbaaGreatDoorRetRCP
import Derived.Test.YtodlgbihdehmbaaGreatDoorRetREP
import Derived.Test.YtodlgbihdehmbaaGreatDoorRetRHP
set_option linter.unusedSimpArgs false
set_option linter.unusedVariables false
namespace Go.Proofs.YtodlgbihdehmbaaGreatDoor.RR
open Go.RowKit
theorem str_one (s : ByteArray) (k : Nat) (h : k < s.size) : s.extract k (k + 1) = str [byteAt (bs s) k] := by
  have e : s = str (bs s) := (str_bs s).symm
  have h1 : (str (bs s)).extract k (k + 1) = str [byteAt (bs s) k] := by
    rw [str_extract]
    congr 1
    have hk : k < (bs s).length := by rw [bs_length]; exact h
    rw [show k + 1 - k = 1 from by omega, List.drop_eq_getElem_cons hk, List.take_succ_cons, List.take_zero]
    unfold byteAt
    rw [List.getD_eq_getElem?_getD, List.getElem?_eq_getElem hk]; rfl
  rwa [← e] at h1
theorem set_last {ls : List (List Nat)} (hn : ls ≠ []) (t : List Nat) : ls.set (ls.length - 1) t = ls.dropLast ++ [t] := by
  rcases List.eq_nil_or_concat ls with rfl | ⟨m, c, rfl⟩
  · exact absurd rfl hn
  · rw [List.concat_eq_append]; simp
theorem last_at {ls : List (List Nat)} (hn : ls ≠ []) : ls[ls.length - 1]? = some (ls.getLastD []) := by
  rcases List.eq_nil_or_concat ls with rfl | ⟨m, c, rfl⟩
  · exact absurd rfl hn
  · rw [List.concat_eq_append]; simp
set_option maxRecDepth 100000 in
set_option maxHeartbeats 2000000 in
theorem split_c (s : ByteArray) (hs : s.size ≤ 100000) (c : Nat) (hc : c ≤ 255) (w : World) :
    Calls Tryz.prog 60 #[.string s, .int .u8 (c : Int)] w fun e w' => ∃ v, e = .returned v ∧ TxNew w.heap.size w' v (spl c (bs s)) ∧ Below w.heap.size w w' := by
  obtain ⟨i0, hi0, hz0, hz1, hz2⟩ := info_parts text_info
  have lit := TxNew.lit (w := w) []
  have HS := Lib.hid hs
  obtain ⟨n, hn⟩ : ∃ n, s.size = n := ⟨_, rfl⟩
  have hn1 : n ≤ 100000 := by omega
  have HN := Lib.hid hn
  have LIT := Lib.hid lit
  clear hs lit hn
  go_enter Tryz.func60, Tryz.ntmps60
  go_wp2
  go_loopw [5, 6] (fun o i wr => ∃ (k : Nat), k ≤ n ∧ i = .int .i64 k ∧ Hid (TxNew w.heap.size wr o (spl c ((bs s).take k)) ∧ Below w.heap.size w wr)) (fun _ i _ => n - (intOf i).toNat)
  case atStart => exact ⟨0, Nat.zero_le _, rfl, LIT.out, alloc_below _ _⟩
  case round =>
    obtain ⟨k, hk, rfl, HI⟩ := hrel
    have hne := spl_ne c ((bs s).take k)
    obtain ⟨g, cap, rfl, hB, hglt, hcap⟩ := HI.out.1.form hne
    have hmle : (spl c ((bs s).take k)).length ≤ k + 1 := Nat.le_trans (spl_length c _) (by rw [List.length_take]; omega)
    have hmp : 0 < (spl c ((bs s).take k)).length := List.length_pos_iff.2 hne
    by_cases hlt : k < n
    · have hlt0 : k < s.size := by rw [HN.out]; exact hlt
      obtain ⟨x, hx⟩ : ∃ x, byteAt (bs s) k = x := ⟨_, rfl⟩
      have hb : (s[k]'hlt0).toNat = x := (at_byte hlt0).trans hx
      have hx1 : x ≤ 255 := by rw [← hx]; exact byte_le s k
      have hst := str_one s k hlt0
      rw [hx] at hst
      have hsn := spl_snoc c x ((bs s).take k)
      rw [← hx, ← take_snoc (by rw [bs_length]; exact hlt0), hx] at hsn
      have hl := last_at hne
      have hsl := set_last hne ((spl c ((bs s).take k)).getLastD [] ++ [x])
      have hlsz : ((spl c ((bs s).take k)).getLastD []).length ≤ 100000 := by
        have h1 : (spl c ((bs s).take k)).getLastD [] ∈ spl c ((bs s).take k) := List.mem_of_getElem? hl
        have h2 := spl_part_length c _ _ h1
        rw [List.length_take, bs_length] at h2
        omega
      generalize spl c ((bs s).take k) = ls at *
      obtain ⟨m, hm⟩ : ∃ m, ls.length = m := ⟨_, rfl⟩
      rw [hm] at hmle hmp hl hsl hcap HI
      rw [hm]
      by_cases hxc : x = c
      · subst hxc
        rw [if_pos rfl] at hsn
        have SN := Lib.hid hsn; have HX := Lib.hid hx
        have B63 := Lib.hid (show m + 1 ≤ maxLen by simp only [maxLen]; omega)
        have B48 := Lib.hid (show (m + 1) * 16 ≤ 140737488355328 by omega)
        have ROW := Lib.hid (show wr.ownsRow w.heap.size 9 1 (.slice (some ⟨g, 0, none⟩) m cap) m (txC ls) from by
          have h2 := HI.out.1
          unfold TxNew at h2
          rw [hm] at h2
          exact h2)
        have FORM := Lib.hid (show ∀ (W' : World) (v' : Value), W'.ownsRow w.heap.size 9 1 v' (m + 1) (txC ls ++ [.string (str [])]) → ∃ A c, v' = .slice A (m + 1) c from fun W' v' h => by
          rcases h.2 with ⟨_, h0⟩ | ⟨g', cap, cur, rfl, _⟩
          · omega
          · exact ⟨_, _, rfl⟩)
        have APP := Lib.hid (show ∀ (W' : World) (v' : Value), W'.ownsRow w.heap.size 9 1 v' (m + 1) (txC ls ++ [.string (str [])]) → (wr.alloc (.cells #[.string (str [])] 9)).grownBy W' (some g) → TxNew w.heap.size W' v' (spl x ((bs s).take (k + 1))) ∧ Below w.heap.size w W' from fun W' v' ho hg => by
          refine ⟨?_, (HI.out.2.alloc HI.out.2.size _).grown hg (by have := HI.out.2.size; simp; omega) (fun j ej => by cases ej; exact hB)⟩
          rw [SN.out]
          exact TxNew.push (by rw [hm]; exact ho))
        have SZ := Lib.hid HI.out.2.size
        clear hsn hx hst hl hsl hlsz hm hne
        go_wp2_with (at_builtin; refine wpList_append_any _ rfl (.tmp 19) (.tmp 20) _ rfl w.heap.size 9 i0 (.string ⟨#[]⟩) 1 16 Tryz.underlying54 hi0 hz0 hz1 hz2 rfl (by decide) (.slice (some ⟨g, 0, none⟩) m cap) m (txC ls) rfl (World.ownsRow.alloc ROW.out _) _ (some ⟨wr.heap.size, 0, none⟩) 1 1 [.string (str [])] rfl (Reads.of_own (World.ownsRow_lit (base := 0) (e := 9) (size := 1) wr #[.string (str [])] 1 (Nat.zero_le _) (by decide) rfl)) (by simp [Value.oneCell']) B63.out B48.out (by have := SZ.out; simp; omega) ?_; intro v13 w13 hown13 hg13 hat13; obtain ⟨A13, c13, hv13⟩ := FORM.out _ _ hown13; subst hv13; have hs13 := Lib.hid (APP.out _ _ hown13 hg13); clear hown13 hg13 hat13)
        go_roundw
        case rel => exact ⟨k + 1, by omega, by go_num, hs13.out⟩
        case measure => simp only [intOf]; omega
      · rw [if_neg hxc] at hsn
        have hci : ((x : Int) == (c : Int)) = false := by rw [beq_eq_false_iff_ne]; omega
        obtain ⟨c0, f0⟩ := (show TxNew w.heap.size wr (.slice (some ⟨g, 0, none⟩) m cap) ls from HI.out.1).cellAt hl
        have PUT := Lib.hid (show TxNew w.heap.size (wr.setCell ⟨g, m - 1, none⟩ (.string (str (ls.getLastD [] ++ [x])))) (.slice (some ⟨g, 0, none⟩) m cap) (spl c ((bs s).take (k + 1))) from by
          have h2 := TxNew.put HI.out.1 (k := m - 1) (by omega) (ls.getLastD [] ++ [x])
          rw [hsl, ← hsn] at h2
          exact h2)
        have LOW := Lib.hid (show Below w.heap.size w (wr.setCell ⟨g, m - 1, none⟩ (.string (str (ls.getLastD [] ++ [x])))) from HI.out.2.setCell hB _)
        have happ := str_append (ls.getLastD []) [x]
        have hEs := str_size (ls.getLastD [])
        generalize str (ls.getLastD []) = E at *
        generalize str (ls.getLastD [] ++ [x]) = E2 at *
        have hE1 : E.size ≤ 100000 := by rw [hEs]; exact hlsz
        have hX1 : (str [x]).size = 1 := rfl
        generalize str [x] = X at *
        have hm1 : ((m : Int) - 1) = ((m - 1 : Nat) : Int) := by omega
        have hm2 : m - 1 < m := by omega
        generalize m - 1 = m1 at *
        clear hsn hx hl hsl hlsz hm hne hEs hxc
        go_wp2
        go_region
        go_wp2
        go_roundw
        case rel => exact ⟨k + 1, by omega, by go_num, PUT.out.below (Below.refl _ _).drew, Below.drew LOW.out⟩
        case measure => simp only [intOf]; omega
    · obtain rfl : k = n := by omega
      have hT : (bs s).take k = bs s := by rw [← HN.out, ← bs_length, List.take_length]
      have HI2 := Lib.hid (show TxNew w.heap.size wr (.slice (some ⟨g, 0, none⟩) (spl c ((bs s).take k)).length cap) (spl c (bs s)) ∧ Below w.heap.size w wr from by rw [hT]; rw [hT] at HI; exact HI.out)
      clear hT HI
      generalize (spl c ((bs s).take k)).length = m at *
      have hge : s.size ≤ k := by rw [HN.out]; exact Nat.le_refl _
      go_wp2
      go_ret
      exact ⟨_, rfl, HI2.out⟩
end Go.Proofs.YtodlgbihdehmbaaGreatDoor.RR
/-
  Contracts of the document's own functions of layer 10 (isobarref10): Parse.
-/
set_option linter.unusedSimpArgs false
set_option linter.unusedVariables false
namespace Go.Proofs.YtodlgbihdehmbaaGreatDoor.RR
open Go.RowKit
theorem eit_bd {l : List Nat} {x e : Int} {s : Bool} (h : eitV l = (x, s, e)) : 0 ≤ x ∧ x ≤ 1099511627776 ∧ (e = 0 ∨ e = 2 ∨ e = 3) := by
  unfold eitV at h
  split at h
  · injection h with h1 h2
    injection h2 with h2 h3
    subst h1 h3
    exact ⟨by omega, by omega, .inr (.inl rfl)⟩
  · split at h
    · injection h with h1 h2
      injection h2 with h2 h3
      subst h1 h3
      exact ⟨by omega, by omega, .inr (.inr rfl)⟩
    · injection h with h1 h2
      injection h2 with h2 h3
      subst h1 h3
      exact ⟨by omega, by omega, .inl rfl⟩
theorem eit_rg {t a b : List Nat} (ht : spl 58 t = [a, b]) {x y e f : Int} {sa sb : Bool} (ha : eitV a = (x, sa, e)) (hb : eitV b = (y, sb, f)) :
    rgV t = if e = 2 ∨ f = 2 then ((0, 0), 7) else if e ≠ 0 ∨ f ≠ 0 ∨ x = 0 then ((0, 0), 3) else ((x, if sb then y else y / x), 0) := by
  have hr : rgV t = match amt a, amt b with
    | some (x, _), some (y, s) => if x = 0 ∨ 1099511627776 < x ∨ 1099511627776 < y then ((0, 0), 3) else (((x : Int), if s then (y : Int) / (x : Int) else (y : Int)), 0)
    | _, _ => ((0, 0), 7) := by unfold rgV; rw [ht]; rfl
  rw [hr]
  unfold eitV at ha hb
  cases hA : amt a with
  | none =>
    rw [hA] at ha
    injection ha with h1 h2
    injection h2 with h2 h3
    rw [if_pos (.inl h3.symm)]
  | some A =>
    obtain ⟨m, s⟩ := A
    rw [hA] at ha
    cases hB : amt b with
    | none =>
      rw [hB] at hb
      injection hb with h1 h2
      injection h2 with h2 h3
      rw [if_pos (.inr h3.symm)]
    | some B =>
      obtain ⟨n, r⟩ := B
      rw [hB] at hb
      simp only at ha hb ⊢
      by_cases hm : 1099511627776 < m
      · rw [if_pos hm] at ha
        injection ha with h1 h2
        injection h2 with h2 h3
        have hf : ¬ f = 2 := by split at hb <;> (injection hb with g1 g2; injection g2 with g2 g3; omega)
        rw [if_pos (.inr (.inl hm)), if_neg (by omega), if_pos (by omega)]
      · rw [if_neg hm] at ha
        injection ha with h1 h2
        injection h2 with h2 h3
        by_cases hn : 1099511627776 < n
        · rw [if_pos hn] at hb
          injection hb with g1 g2
          injection g2 with g2 g3
          rw [if_pos (.inr (.inr hn)), if_neg (by omega), if_pos (by omega)]
        · rw [if_neg hn] at hb
          injection hb with g1 g2
          injection g2 with g2 g3
          by_cases h0 : m = 0
          · rw [if_pos (.inl h0), if_neg (by omega), if_pos (by omega)]
          · have n1 : ¬ (m = 0 ∨ 1099511627776 < m ∨ 1099511627776 < n) := by omega
            have n2 : ¬ (e = 2 ∨ f = 2) := by omega
            have n3 : ¬ (e ≠ 0 ∨ f ≠ 0 ∨ x = 0) := by omega
            rw [if_neg n1, if_neg n2, if_neg n3, ← h1, ← g1, ← g2]
            cases r <;> rfl
theorem rg_other {t : List Nat} (h : (spl 58 t).length ≠ 2) : rgV t = ((0, 0), 7) := by
  unfold rgV
  split
  · rename_i a b hs
    rw [hs] at h
    exact absurd rfl h
  · rfl
theorem trimB_mem {l : List Nat} {c : Nat} (h : c ∈ trimB l) : c ∈ l := by
  unfold trimB trimR trimL at h
  rw [List.mem_reverse] at h
  have h1 := (List.dropWhile_sublist _).subset h
  rw [List.mem_reverse] at h1
  exact (List.dropWhile_sublist _).subset h1
/-- The archives that have no error. -/
def okV (rs : List ((Int × Int) × Int)) : List (Int × Int) := (rs.filter fun r => r.2 == 0).map (·.1)
theorem okV_snoc (rs : List ((Int × Int) × Int)) (r : (Int × Int) × Int) : okV (rs ++ [r]) = if r.2 = 0 then okV rs ++ [r.1] else okV rs := by
  unfold okV
  rw [List.filter_append, List.map_append]
  by_cases h : r.2 = 0
  · rw [if_pos h, List.filter_cons_of_pos (by simpa using h)]; rfl
  · rw [if_neg h, List.filter_cons_of_neg (by simpa using h)]; simp
theorem okV_all {rs : List ((Int × Int) × Int)} (h : ∀ r ∈ rs, r.2 = 0) : okV rs = rs.map (·.1) := by
  unfold okV
  rw [List.filter_eq_self.2 (fun r hr => by simpa using h r hr)]
def worstV (rs : List ((Int × Int) × Int)) : Int := if rs.any (fun r => r.2 == 3) then 3 else 0
theorem worst_snoc (rs : List ((Int × Int) × Int)) (r : (Int × Int) × Int) : worstV (rs ++ [r]) = if r.2 = 3 then 3 else worstV rs := by
  unfold worstV
  rw [List.any_append]
  by_cases h : r.2 = 3
  · rw [if_pos h, if_pos (by simp [h])]
  · rw [if_neg h]
    have : ([r].any fun r => r.2 == 3) = false := by simpa using h
    rw [this, Bool.or_false]
theorem rsV_take {ps : List (List Nat)} {k : Nat} {p : List Nat} (h : ps[k]? = some p) : rsV (ps.take (k + 1)) = rsV (ps.take k) ++ [rgV (trimB p)] := by
  unfold rsV
  rw [List.take_add_one, h, List.map_append]; rfl
theorem okV_length (rs : List ((Int × Int) × Int)) : (okV rs).length ≤ rs.length := by
  unfold okV; rw [List.length_map]; exact List.length_filter_le _ _
theorem lst_seven {ps : List (List Nat)} {k : Nat} {p : List Nat} (h : ps[k]? = some p) (h7 : (rgV (trimB p)).2 = 7) : lstV (rsV ps) = ([], 7) := by
  unfold lstV
  rw [if_pos]
  rw [List.any_eq_true]
  exact ⟨rgV (trimB p), by unfold rsV; exact List.mem_map.2 ⟨p, List.mem_of_getElem? h, rfl⟩, by rw [h7]; rfl⟩
theorem lst_end {rs : List ((Int × Int) × Int)} (hr : ∀ r ∈ rs, r.2 = 7 ∨ r.2 = 3 ∨ r.2 = 0) (h7 : ∀ r ∈ rs, r.2 ≠ 7) :
    (worstV rs ≠ 0 → worstV rs = 3 ∧ lstV rs = ([], 3)) ∧ (worstV rs = 0 → lstV rs = if 4 < (okV rs).length then ([], 11) else if tog (okV rs) then (okV rs, 0) else ([], 1)) := by
  have n7 : ¬ (rs.any fun r => r.2 == 7) = true := by
    rw [List.any_eq_true]
    rintro ⟨r, hr, h⟩
    exact h7 r hr (by simpa using h)
  by_cases h3 : (rs.any fun r => r.2 == 3) = true
  · have e : worstV rs = 3 := if_pos h3
    rw [e]
    refine ⟨fun _ => ⟨rfl, ?_⟩, fun h => absurd h (by omega)⟩
    unfold lstV
    rw [if_neg n7, if_pos h3]
  · have e : worstV rs = 0 := if_neg h3
    rw [e]
    refine ⟨fun h => absurd rfl h, fun _ => ?_⟩
    have h0 : ∀ r ∈ rs, r.2 = 0 := fun r h => by
      rcases hr r h with h1 | h1 | h1
      · exact absurd h1 (h7 r h)
      · exfalso
        apply h3
        rw [List.any_eq_true]
        exact ⟨r, h, by simpa using h1⟩
      · exact h1
    rw [okV_all h0]
    unfold lstV
    rw [if_neg n7, if_neg h3, List.length_map]
theorem ret_pe {u : Value} {a b : Int} (h : a = b) : Ending.returned (.tuple #[u, .int .i64 a]) = .returned (.tuple #[u, .int .i64 b]) := by rw [h]
set_option maxRecDepth 100000 in
set_option maxHeartbeats 4000000 in
theorem parse_n (s : ByteArray) (hs : s.size ≤ 5000) (w : World) :
    Calls Tryz.prog 31 #[.string s] w fun e w' => ∃ v, e = .returned (.tuple #[v, .int .i64 (parseV (bs s)).2]) ∧ RgNew w.heap.size w' v (parseV (bs s)).1 ∧ Below w.heap.size w w' := by
  obtain ⟨i0, hi0, hz0, hz1, hz2⟩ := info_parts rung_info
  have hsp := split_c s (by omega) 44 (by decide) w
  have hpne := spl_ne 44 (bs s)
  have hplen := spl_length 44 (bs s)
  rw [bs_length] at hplen
  have hpm : ∀ p ∈ spl 44 (bs s), (∀ c ∈ p, c < 256) ∧ p.length ≤ 5000 := fun p hp => ⟨fun c hc => bs_small s c (spl_mem 44 _ p hp c hc), by have := spl_part_length 44 _ p hp; rw [bs_length] at this; omega⟩
  have hps : lstV (rsV (spl 44 (bs s))) = parseV (bs s) := rfl
  generalize spl 44 (bs s) = ps at *
  have SP := Lib.hid hsp; have PNE := Lib.hid hpne; have PM := Lib.hid hpm; have HPS := Lib.hid hps
  obtain ⟨m, hm⟩ : ∃ m, ps.length = m := ⟨_, rfl⟩
  rw [hm] at hplen
  have hm500 : m ≤ 5001 := by omega
  have HM := Lib.hid hm
  clear hsp hpne hpm hps hplen hm hs
  go_enter Tryz.func31, Tryz.ntmps31
  go_wp2_with fail
  refine SP.out.mono ?_; rintro e w1 ⟨vp, rfl, hpr, hb1⟩
  obtain ⟨gp, cp, rfl, hgB, hgl, hgc⟩ := hpr.form PNE.out
  rw [HM.out] at hgc hpr ⊢
  have PR := Lib.hid hpr; have HB1 := Lib.hid hb1
  clear hpr hb1 SP
  go_wp2
  go_loopw [5, 6, 7] (fun o e i wr => ∃ (k : Nat) (E : Int) (L : List (Int × Int)), k ≤ m ∧ i = .int .i64 k ∧ e = .int .i64 E ∧ (E = 0 ∨ E = 3) ∧ RgNew w1.heap.size wr o L ∧ Below w1.heap.size w1 wr ∧ (∀ r ∈ rsV (ps.take k), r.2 ≠ 7) ∧ worstV (rsV (ps.take k)) = E ∧ okV (rsV (ps.take k)) = L) (fun _ _ i _ => m - (intOf i).toNat)
  case atStart => exact ⟨0, 0, [], Nat.zero_le _, rfl, rfl, .inl rfl, RgNew.nil _ _, Below.refl _ _, fun r h => (by cases h), rfl, rfl⟩
  case round =>
    obtain ⟨k, E, L, hk, rfl, rfl, EB, hown, hbw, h7, hE, hL⟩ := hrel
    have hlk : L.length ≤ k := by
      rw [← hL]
      refine Nat.le_trans (okV_length _) ?_
      unfold rsV
      rw [List.length_map, List.length_take]
      omega
    obtain ⟨AL, cl, rfl, hlc⟩ := hown.form
    obtain ⟨q, hq⟩ : ∃ q, L.length = q := ⟨_, rfl⟩
    rw [hq] at hlk hlc hown ⊢
    have LQ := Lib.hid hq
    by_cases hlt : k < m
    · have hkp : k < ps.length := by rw [HM.out]; exact hlt
      have hpk := List.getElem?_eq_getElem hkp
      obtain ⟨c0, -⟩ := TxNew.cellAt (PR.out.below hbw) hpk
      obtain ⟨p8, p5⟩ := PM.out _ (List.getElem_mem hkp)
      generalize ps[k] = p at *
      have tr := trim_c (str p) (by rw [str_size]; omega) wr
      rw [bs_str p8] at tr
      have t8 : ∀ c ∈ trimB p, c < 256 := fun c hc => p8 c (trimB_mem hc)
      have t5 : (trimB p).length ≤ 5000 := Nat.le_trans (trimB_length p) p5
      have sp := split_c (str (trimB p)) (by rw [str_size]; omega) 58 (by decide) wr
      rw [bs_str t8] at sp
      have NEXT := Lib.hid (show (rgV (trimB p)).2 ≠ 7 → (∀ r ∈ rsV (ps.take (k + 1)), r.2 ≠ 7) ∧ (if (rgV (trimB p)).2 = 3 then 3 else E) = worstV (rsV (ps.take (k + 1))) ∧ (if (rgV (trimB p)).2 = 0 then L ++ [(rgV (trimB p)).1] else L) = okV (rsV (ps.take (k + 1))) from fun hn => by
        rw [rsV_take hpk, worst_snoc, okV_snoc, hE, hL]
        refine ⟨fun r hr => ?_, rfl, rfl⟩
        rcases List.mem_append.1 hr with h | h
        · exact h7 r h
        · rw [List.mem_singleton] at h
          rw [h]; exact hn)
      have HPK := Lib.hid hpk
      have H7 := Lib.hid h7; have HEE := Lib.hid hE; have HLL := Lib.hid hL
      have BW := Lib.hid hbw; have OW := Lib.hid hown
      obtain ⟨T, hT⟩ : ∃ T, str p = T := ⟨_, rfl⟩
      obtain ⟨V, hV⟩ : ∃ V, str (trimB p) = V := ⟨_, rfl⟩
      rw [hT, hV] at tr
      rw [hT] at c0
      rw [hV] at sp
      have TR := Lib.hid tr; have SP := Lib.hid sp; have T8 := Lib.hid t8; have T5 := Lib.hid t5
      clear tr sp hT hV hpk h7 hE hL hbw hown p8 p5 t8 t5 hkp hq
      go_wp2_with fail
      refine TR.out.mono ?_; rintro e wx ⟨rfl, rfl⟩
      go_wp2_with fail
      refine SP.out.mono ?_; rintro e w2 ⟨v2, rfl, hrow2, hb2⟩
      have BE2 := Lib.hid (BW.out.trans (hb2.mono BW.out.size))
      have BEL := Lib.hid (bnext HB1.out BE2.out)
      have OWN := Lib.hid (show RgNew w1.heap.size w2 (.slice AL q cl) L from OW.out.below hb2)
      have hq2 := spl_ne 58 (trimB p)
      have RGO := Lib.hid (rg_other (t := trimB p))
      have QM := Lib.hid (show ∀ a ∈ spl 58 (trimB p), (∀ c ∈ a, c < 256) ∧ a.length ≤ 5000 from fun a ha => ⟨fun c hc => T8.out c (spl_mem 58 _ a ha c hc), Nat.le_trans (spl_part_length 58 _ a ha) T5.out⟩)
      have RGT := Lib.hid (fun (a b : List Nat) (h : spl 58 (trimB p) = [a, b]) => @eit_rg (trimB p) a b h)
      obtain ⟨g2, cap2, rfl, hg2B, hg2l, hg2c⟩ := hrow2.form hq2
      clear TR SP T8 T5 OW BW hb2 c0
      by_cases h2 : (spl 58 (trimB p)).length = 2
      · obtain ⟨a, b, hab⟩ : ∃ a b, spl 58 (trimB p) = [a, b] := by
          match hs : spl 58 (trimB p), h2 with
          | [a, b], _ => exact ⟨a, b, rfl⟩
        rw [hab] at hrow2 hg2c QM ⊢
        obtain ⟨d0, -⟩ := hrow2.cellAt (k := 0) (t := a) rfl
        obtain ⟨d1, -⟩ := hrow2.cellAt (k := 1) (t := b) rfl
        obtain ⟨a8, a5⟩ := QM.out a (by simp)
        obtain ⟨b8, b5⟩ := QM.out b (by simp)
        have ea := either_c (str a) (by rw [str_size]; omega) w2
        have eb := either_c (str b) (by rw [str_size]; omega) w2
        rw [bs_str a8] at ea
        rw [bs_str b8] at eb
        obtain ⟨⟨x, sa, e⟩, hx⟩ : ∃ X, eitV a = X := ⟨_, rfl⟩
        obtain ⟨⟨y, sb, f⟩, hy⟩ : ∃ X, eitV b = X := ⟨_, rfl⟩
        have RG := Lib.hid (RGT.out a b hab hx hy)
        obtain ⟨x0, x1, be⟩ := eit_bd hx
        obtain ⟨y0, y1, bf⟩ := eit_bd hy
        rw [hx] at ea
        rw [hy] at eb
        simp only at ea eb
        have EA := Lib.hid ea; have EBB := Lib.hid eb
        generalize str a = SA at *
        generalize str b = SB at *
        simp only [List.length_cons, List.length_nil, Nat.zero_add, Nat.reduceAdd] at *
        clear ea eb hx hy a8 a5 b8 b5 QM RGT RGO hab h2 hq2 hrow2
        go_wp2_with fail
        refine EA.out.mono ?_; rintro _ wx ⟨rfl, rfl⟩
        go_wp2_with fail
        refine EBB.out.mono ?_; rintro _ wx ⟨rfl, rfl⟩
        clear EA EBB d0 d1
        rcases be with rfl | rfl | rfl
        · rcases bf with rfl | rfl | rfl
          · by_cases hx0 : x = 0
            · have hx0b : (x == 0) = true := by rw [hx0]; rfl
              have hr : rgV (trimB p) = ((0, 0), 3) := by rw [RG.out, if_neg (by omega), if_pos (by omega)]
              have ST := Lib.hid (NEXT.out (by rw [hr]; decide))
              rw [hr] at ST
              clear hr NEXT RG
              go_wp2
              go_roundw
              case rel => exact ⟨k + 1, 3, L, by omega, by go_num, rfl, by omega, (OWN.out), BE2.out, ST.out.1, ST.out.2.1.symm, ST.out.2.2.symm⟩
              case measure => simp only [intOf]; omega
            · have hx0b : (x == 0) = false := beq_false_of_ne hx0
              cases sb
              · obtain ⟨D, hD⟩ : ∃ D, y / x = D := ⟨_, rfl⟩
                have hr : rgV (trimB p) = ((x, D), 0) := by rw [RG.out, if_neg (by omega), if_neg (by omega), ← hD]; rfl
                have ST := Lib.hid (NEXT.out (by rw [hr]; show (0 : Int) ≠ 7; decide))
                rw [hr] at ST
                have ROW := Lib.hid (show w2.ownsRow w1.heap.size 49 2 (.slice AL q cl) q (rgC L) from by
                  have h2 := OWN.out
                  unfold RgNew at h2
                  rw [LQ.out] at h2
                  exact h2)
                have B63 := Lib.hid (show q + 1 ≤ maxLen by simp only [maxLen]; omega)
                have B48 := Lib.hid (show (q + 1) * 16 ≤ 140737488355328 by omega)
                have FORM := Lib.hid (show ∀ (W' : World) (v' : Value), W'.ownsRow w1.heap.size 49 2 v' (q + 1) (rgC L ++ [.int .i64 x, .int .i64 D]) → ∃ A c, v' = .slice A (q + 1) c from fun W' v' h => by
                  rcases h.2 with ⟨_, h0⟩ | ⟨g', cap, cur, rfl, _⟩
                  · omega
                  · exact ⟨_, _, rfl⟩)
                have APP := Lib.hid (show ∀ (W' : World) (v' : Value), W'.ownsRow w1.heap.size 49 2 v' (q + 1) (rgC L ++ [.int .i64 x, .int .i64 D]) → (w2.alloc (.cells #[.int .i64 x, .int .i64 D] 49)).grownBy W' (Value.slice AL q cl).ownBlock → RgNew w1.heap.size W' v' (L ++ [(x, D)]) ∧ Below w1.heap.size w1 W' from fun W' v' ho hg => by
                  refine ⟨RgNew.push (g := (x, D)) (by rw [LQ.out]; exact ho), (BE2.out.alloc BE2.out.size _).grown hg (by have := BE2.out.size; simp; omega) (fun j ej => (World.ownsRow.lt ROW.out j ej).1)⟩)
                have SZ := Lib.hid BE2.out.size
                clear hr NEXT RG OWN
                go_wp2_with (at_builtin; refine wpList_append_any _ rfl (.tmp 69) (.tmp 73) _ rfl w1.heap.size 49 i0 (.agg #[.int .i64 0, .int .i64 0]) 2 16 Tryz.underlying39 hi0 hz0 hz1 hz2 rfl (by decide) (.slice AL q cl) q (rgC L) rfl (World.ownsRow.alloc ROW.out _) _ (some ⟨w2.heap.size, 0, none⟩) 1 1 [.int .i64 x, .int .i64 D] rfl (Reads.of_own (World.ownsRow_lit (base := 0) (e := 49) (size := 2) w2 #[.int .i64 x, .int .i64 D] 1 (Nat.zero_le _) (by decide) rfl)) (by simp [Value.oneCell']) B63.out B48.out (by have := SZ.out; simp; omega) ?_; intro v13 w13 hown13 hg13 hat13; obtain ⟨A13, c13, hv13⟩ := FORM.out _ _ hown13; subst hv13; have hs13 := Lib.hid (APP.out _ _ hown13 hg13); clear hown13 hg13 hat13)
                go_roundw
                case rel => exact ⟨k + 1, E, L ++ [(x, D)], by omega, by go_num, rfl, EB, hs13.out.1, hs13.out.2, ST.out.1, ST.out.2.1.symm, ST.out.2.2.symm⟩
                case measure => simp only [intOf]; omega
              · obtain ⟨D, hD⟩ : ∃ D, y = D := ⟨_, rfl⟩
                subst hD
                have hr : rgV (trimB p) = ((x, y), 0) := by rw [RG.out, if_neg (by omega), if_neg (by omega)]; rfl
                have ST := Lib.hid (NEXT.out (by rw [hr]; show (0 : Int) ≠ 7; decide))
                rw [hr] at ST
                have ROW := Lib.hid (show w2.ownsRow w1.heap.size 49 2 (.slice AL q cl) q (rgC L) from by
                  have h2 := OWN.out
                  unfold RgNew at h2
                  rw [LQ.out] at h2
                  exact h2)
                have B63 := Lib.hid (show q + 1 ≤ maxLen by simp only [maxLen]; omega)
                have B48 := Lib.hid (show (q + 1) * 16 ≤ 140737488355328 by omega)
                have FORM := Lib.hid (show ∀ (W' : World) (v' : Value), W'.ownsRow w1.heap.size 49 2 v' (q + 1) (rgC L ++ [.int .i64 x, .int .i64 y]) → ∃ A c, v' = .slice A (q + 1) c from fun W' v' h => by
                  rcases h.2 with ⟨_, h0⟩ | ⟨g', cap, cur, rfl, _⟩
                  · omega
                  · exact ⟨_, _, rfl⟩)
                have APP := Lib.hid (show ∀ (W' : World) (v' : Value), W'.ownsRow w1.heap.size 49 2 v' (q + 1) (rgC L ++ [.int .i64 x, .int .i64 y]) → (w2.alloc (.cells #[.int .i64 x, .int .i64 y] 49)).grownBy W' (Value.slice AL q cl).ownBlock → RgNew w1.heap.size W' v' (L ++ [(x, y)]) ∧ Below w1.heap.size w1 W' from fun W' v' ho hg => by
                  refine ⟨RgNew.push (g := (x, y)) (by rw [LQ.out]; exact ho), (BE2.out.alloc BE2.out.size _).grown hg (by have := BE2.out.size; simp; omega) (fun j ej => (World.ownsRow.lt ROW.out j ej).1)⟩)
                have SZ := Lib.hid BE2.out.size
                clear hr NEXT RG OWN
                go_wp2_with (at_builtin; refine wpList_append_any _ rfl (.tmp 69) (.tmp 73) _ rfl w1.heap.size 49 i0 (.agg #[.int .i64 0, .int .i64 0]) 2 16 Tryz.underlying39 hi0 hz0 hz1 hz2 rfl (by decide) (.slice AL q cl) q (rgC L) rfl (World.ownsRow.alloc ROW.out _) _ (some ⟨w2.heap.size, 0, none⟩) 1 1 [.int .i64 x, .int .i64 y] rfl (Reads.of_own (World.ownsRow_lit (base := 0) (e := 49) (size := 2) w2 #[.int .i64 x, .int .i64 y] 1 (Nat.zero_le _) (by decide) rfl)) (by simp [Value.oneCell']) B63.out B48.out (by have := SZ.out; simp; omega) ?_; intro v13 w13 hown13 hg13 hat13; obtain ⟨A13, c13, hv13⟩ := FORM.out _ _ hown13; subst hv13; have hs13 := Lib.hid (APP.out _ _ hown13 hg13); clear hown13 hg13 hat13)
                go_roundw
                case rel => exact ⟨k + 1, E, L ++ [(x, y)], by omega, by go_num, rfl, EB, hs13.out.1, hs13.out.2, ST.out.1, ST.out.2.1.symm, ST.out.2.2.symm⟩
                case measure => simp only [intOf]; omega
          · have SEV := Lib.hid (show (parseV (bs s)) = ([], 7) from by rw [← HPS.out]; exact lst_seven HPK.out (by rw [RG.out, if_pos (.inr rfl)]))
            clear NEXT RG
            go_wp2
            go_ret2
            exact ⟨_, ret_pe (by rw [SEV.out]), by rw [SEV.out]; exact RgNew.nil _ _, BEL.out⟩
          · have hr : rgV (trimB p) = ((0, 0), 3) := by rw [RG.out, if_neg (by omega), if_pos (by omega)]
            have ST := Lib.hid (NEXT.out (by rw [hr]; decide))
            rw [hr] at ST
            clear hr NEXT RG
            go_wp2
            go_roundw
            case rel => exact ⟨k + 1, 3, L, by omega, by go_num, rfl, by omega, (OWN.out), BE2.out, ST.out.1, ST.out.2.1.symm, ST.out.2.2.symm⟩
            case measure => simp only [intOf]; omega
        · have SEV := Lib.hid (show (parseV (bs s)) = ([], 7) from by rw [← HPS.out]; exact lst_seven HPK.out (by rw [RG.out, if_pos (.inl rfl)]))
          clear NEXT RG
          go_wp2
          go_ret2
          exact ⟨_, ret_pe (by rw [SEV.out]), by rw [SEV.out]; exact RgNew.nil _ _, BEL.out⟩
        · rcases bf with rfl | rfl | rfl
          · have hr : rgV (trimB p) = ((0, 0), 3) := by rw [RG.out, if_neg (by omega), if_pos (by omega)]
            have ST := Lib.hid (NEXT.out (by rw [hr]; decide))
            rw [hr] at ST
            clear hr NEXT RG
            go_wp2
            go_roundw
            case rel => exact ⟨k + 1, 3, L, by omega, by go_num, rfl, by omega, (OWN.out), BE2.out, ST.out.1, ST.out.2.1.symm, ST.out.2.2.symm⟩
            case measure => simp only [intOf]; omega
          · have SEV := Lib.hid (show (parseV (bs s)) = ([], 7) from by rw [← HPS.out]; exact lst_seven HPK.out (by rw [RG.out, if_pos (.inr rfl)]))
            clear NEXT RG
            go_wp2
            go_ret2
            exact ⟨_, ret_pe (by rw [SEV.out]), by rw [SEV.out]; exact RgNew.nil _ _, BEL.out⟩
          · have hr : rgV (trimB p) = ((0, 0), 3) := by rw [RG.out, if_neg (by omega), if_pos (by omega)]
            have ST := Lib.hid (NEXT.out (by rw [hr]; decide))
            rw [hr] at ST
            clear hr NEXT RG
            go_wp2
            go_roundw
            case rel => exact ⟨k + 1, 3, L, by omega, by go_num, rfl, by omega, (OWN.out), BE2.out, ST.out.1, ST.out.2.1.symm, ST.out.2.2.symm⟩
            case measure => simp only [intOf]; omega
      · have SEV := Lib.hid (show (parseV (bs s)) = ([], 7) from by rw [← HPS.out]; exact lst_seven HPK.out (by rw [RGO.out h2]))
        have h2i : ¬ ((spl 58 (trimB p)).length : Int) = 2 := by omega
        generalize (spl 58 (trimB p)).length = z at *
        clear RGO RGT QM hrow2 hq2 h2 NEXT
        go_wp2
        go_ret2
        exact ⟨_, ret_pe (by rw [SEV.out]), by rw [SEV.out]; exact RgNew.nil _ _, BEL.out⟩
    · obtain rfl : k = m := by omega
      have hTK : ps.take k = ps := by rw [← HM.out, List.take_length]
      rw [hTK] at h7 hE hL
      obtain ⟨f1, f2⟩ := lst_end (rs := rsV ps) (fun r hr => by
        unfold rsV at hr
        obtain ⟨p, _, rfl⟩ := List.mem_map.1 hr
        exact rgV_err _) h7
      rw [hE] at f1 f2
      rw [hL, LQ.out] at f2
      rw [HPS.out] at f1 f2
      have F1 := Lib.hid f1; have F2 := Lib.hid f2; have OW := Lib.hid hown
      have BEL := Lib.hid (bnext HB1.out hbw)
      have TG := Lib.hid (together_c _ L (by rw [LQ.out]; omega) wr hown.out)
      clear f1 f2 h7 hE hL hTK hown hbw
      rcases EB with rfl | rfl
      · have FF := Lib.hid (F2.out rfl)
        clear F1 F2
        by_cases h4 : 4 < q
        · have SEV := Lib.hid (FF.out.trans (if_pos h4))
          have h4i : (4 : Int) < (q : Int) := by omega
          go_wp2
          go_ret2
          exact ⟨_, ret_pe (by rw [SEV.out]), by rw [SEV.out]; exact RgNew.nil _ _, BEL.out⟩
        · have h4i : ¬ (4 : Int) < (q : Int) := by omega
          cases ht : tog L
          · have SEV := Lib.hid (FF.out.trans ((if_neg h4).trans (by rw [ht]; rfl) : _ = (([] : List (Int × Int)), (1 : Int))))
            rw [ht] at TG
            clear ht h4
            go_wp2_with fail
            refine TG.out.mono ?_; rintro _ w3 ⟨rfl, hb3⟩
            go_wp2
            go_ret2
            exact ⟨_, ret_pe (by rw [SEV.out]), by rw [SEV.out]; exact RgNew.nil _ _, bnext BEL.out hb3⟩
          · have SEV := Lib.hid (FF.out.trans ((if_neg h4).trans (by rw [ht]; rfl) : _ = (L, (0 : Int))))
            rw [ht] at TG
            clear ht h4
            go_wp2_with fail
            refine TG.out.mono ?_; rintro _ w3 ⟨rfl, hb3⟩
            go_wp2
            go_ret2
            exact ⟨_, ret_pe (by rw [SEV.out]), by rw [SEV.out]; exact (OW.out.below hb3).mono HB1.out.size, bnext BEL.out hb3⟩
      · have SEV := Lib.hid (F1.out (by decide)).2
        clear F1 F2 TG
        go_wp2
        go_ret2
        exact ⟨_, ret_pe (by rw [SEV.out]), by rw [SEV.out]; exact RgNew.nil _ _, BEL.out⟩
end Go.Proofs.YtodlgbihdehmbaaGreatDoor.RR
