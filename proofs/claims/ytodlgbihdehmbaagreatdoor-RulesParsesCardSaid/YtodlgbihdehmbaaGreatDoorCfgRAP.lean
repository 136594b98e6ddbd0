/-
  Contracts of the document's own functions of layer 11 (isobarref11): a text without blanks and tabs around it; names; keys.
-/
import Derived.Test.YtodlgbihdehmbaaGreatDoorCfgRowP
set_option linter.unusedSimpArgs false
set_option linter.unusedVariables false
namespace Go.Proofs.YtodlgbihdehmbaaGreatDoor.Cf.KR
open Go.RowKit
theorem str_tail (s : ByteArray) : s.extract 1 s.size = str ((bs s).drop 1) := by
  have e : s = str (bs s) := (str_bs s).symm
  have h1 : (str (bs s)).extract 1 s.size = str ((bs s).drop 1) := by
    rw [str_extract, List.take_of_length_le (by rw [List.length_drop, bs_length]; exact Nat.le_refl _)]
  rwa [← e] at h1
theorem str_init (s : ByteArray) : s.extract 0 (s.size - 1) = str (bs s).dropLast := by
  have e : s = str (bs s) := (str_bs s).symm
  have h1 : (str (bs s)).extract 0 (s.size - 1) = str (bs s).dropLast := by
    rw [str_extract, List.drop_zero, List.dropLast_eq_take, bs_length, Nat.sub_zero]
  rwa [← e] at h1
theorem blL_step {l : List Nat} (h : l ≠ []) (h0 : isBl (byteAt l 0) = true) : blL l = blL (l.drop 1) := by
  cases l with
  | nil => exact absurd rfl h
  | cons c l => rw [blL_cons, if_pos (by simpa [byteAt] using h0)]; rfl
theorem last_byte {l : List Nat} (h : l ≠ []) : l = l.dropLast ++ [byteAt l (l.length - 1)] := by
  rcases List.eq_nil_or_concat l with rfl | ⟨m, c, rfl⟩
  · exact absurd rfl h
  · rw [List.concat_eq_append]; simp [byteAt]
theorem blR_step {l : List Nat} (h : l ≠ []) (h0 : isBl (byteAt l (l.length - 1)) = true) : blR l = blR l.dropLast := by
  have e := last_byte h
  conv => lhs; rw [e]
  rw [blR_snoc, if_pos h0]
theorem blR_stop {l : List Nat} (h0 : l = [] ∨ isBl (byteAt l (l.length - 1)) = false) : blR l = l := by
  by_cases h : l = []
  · rw [h]; rfl
  · have e := last_byte h
    rcases h0 with h0 | h0
    · exact absurd h0 h
    · conv => lhs; rw [e]
      rw [blR_snoc, if_neg (by rw [h0]; decide), ← e]
theorem blL_stop {l : List Nat} (h0 : l = [] ∨ isBl (byteAt l 0) = false) : blL l = l := by
  rcases h0 with rfl | h0
  · rfl
  · cases l with
    | nil => rfl
    | cons c l => rw [blL_cons, if_neg (by simp [byteAt] at h0; rw [h0]; decide)]
theorem blank_c (c : Nat) (hc : c ≤ 255) (w : World) : Calls Tryz.prog 115 #[.int .u8 (c : Int)] w fun e w' => e = .returned (.bool (isBl c)) ∧ w = w' := by
  by_cases h1 : c = 32
  · subst h1
    go_enter Tryz.func115, Tryz.ntmps115
    go_wp2
    go_ret
    exact ⟨rfl, rfl⟩
  by_cases h2 : c = 9
  · subst h2
    go_enter Tryz.func115, Tryz.ntmps115
    go_wp2
    go_ret
    exact ⟨rfl, rfl⟩
  · have hb : isBl c = false := by unfold isBl; simp [h1, h2]
    rw [hb]
    have i1 : ((c : Int) == 32) = false := by rw [beq_eq_false_iff_ne]; omega
    have i2 : ((c : Int) == 9) = false := by rw [beq_eq_false_iff_ne]; omega
    clear hb h1 h2
    go_enter Tryz.func115, Tryz.ntmps115
    go_wp2
    go_ret
    exact ⟨rfl, rfl⟩
set_option maxRecDepth 100000 in
set_option maxHeartbeats 2000000 in
theorem trim_c (s : ByteArray) (hs : s.size ≤ 9223372036854775807) (w : World) :
    Calls Tryz.prog 81 #[.string s] w fun e w' => e = .returned (.string (str (blB (bs s)))) ∧ w = w' := by
  obtain ⟨G, hG⟩ : ∃ G, blB (bs s) = G := ⟨_, rfl⟩
  rw [hG]
  have HG := Lib.hid hG
  clear hG
  go_enter Tryz.func81, Tryz.ntmps81
  go_wp2
  go_loop [0] (fun v => ∃ t : ByteArray, v = .string t ∧ t.size ≤ 9223372036854775807 ∧ Hid (blR (blL (bs t)) = G)) (fun v => match v with | .string t => t.size | _ => 0)
  case atStart => exact ⟨s, rfl, hs, HG.out⟩
  case round =>
    obtain ⟨t, rfl, ht, HT⟩ := hrel
    clear HG
    by_cases h0 : t.size = 0
    · have e : bs t = [] := List.eq_nil_of_length_eq_zero (by rw [bs_length]; exact h0)
      have HL := Lib.hid (show blR (bs t) = G by rw [← HT.out, blL_stop (.inl e)])
      clear e
      go_wp2
      go_loop [0] (fun v => ∃ t : ByteArray, v = .string t ∧ t.size ≤ 9223372036854775807 ∧ Hid (blR (bs t) = G)) (fun v => match v with | .string t => t.size | _ => 0)
      case atStart => exact ⟨t, rfl, ht, HL.out⟩
      case round =>
        clear HL HT
        obtain ⟨r, rfl, hr, HR⟩ := hrel
        by_cases z0 : r.size = 0
        · have e : bs r = [] := List.eq_nil_of_length_eq_zero (by rw [bs_length]; exact z0)
          have HE := Lib.hid (show r = str G by rw [← HR.out, blR_stop (.inl e), str_bs])
          clear e
          go_wp2
          go_ret
          exact ⟨ret_str HE.out, rfl⟩
        · have zp : 0 < r.size := Nat.pos_of_ne_zero z0
          have zl : r.size - 1 < r.size := by omega
          obtain ⟨d, hd⟩ : ∃ d, byteAt (bs r) (r.size - 1) = d := ⟨_, rfl⟩
          have db : (r[r.size - 1]'zl).toNat = d := (at_byte zl).trans hd
          have dc1 : d ≤ 255 := by rw [← hd]; exact byte_le r _
          have zpi : (0 : Int) < (r.size : Int) := by omega
          have zq : (r.size : Int) - 1 = ((r.size - 1 : Nat) : Int) := by omega
          have rne : bs r ≠ [] := fun e => z0 (by rw [← bs_length, e]; rfl)
          have BC := Lib.hid (fun X => blank_c d dc1 X)
          cases hbl : isBl d with
          | true =>
            have hstep := blR_step (l := bs r) rne (by rw [bs_length, hd, hbl])
            have hst := str_init r
            have hsz : (str (bs r).dropLast).size = r.size - 1 := by rw [str_size, List.length_dropLast, bs_length]
            have hbb : bs (str (bs r).dropLast) = (bs r).dropLast := bs_str (fun c hc => bs_small r c (List.dropLast_subset _ hc))
            rw [← hbb] at hstep
            generalize str (bs r).dropLast = T at *
            have HR2 := Lib.hid (show blR (bs T) = G by rw [← hstep]; exact HR.out)
            rw [hbl] at BC
            generalize r.size - 1 = q at *
            clear hstep hbb hd rne hbl
            go_wp2_with fail
            refine (BC.out _).mono ?_; rintro _ w1 ⟨rfl, rfl⟩
            go_wp2
            exact ⟨⟨T, rfl, by omega, HR2.out⟩, by show T.size < r.size; omega⟩
          | false =>
            have HE := Lib.hid (show r = str G by rw [← HR.out, blR_stop (.inr (by rw [bs_length, hd]; exact hbl)), str_bs])
            rw [hbl] at BC
            generalize r.size - 1 = q at *
            clear rne hd hbl
            go_wp2_with fail
            refine (BC.out _).mono ?_; rintro _ w1 ⟨rfl, rfl⟩
            go_wp2
            go_ret
            exact ⟨ret_str HE.out, rfl⟩
    · have hp : 0 < t.size := Nat.pos_of_ne_zero h0
      obtain ⟨c, hc⟩ : ∃ c, byteAt (bs t) 0 = c := ⟨_, rfl⟩
      have hb : (t[0]'hp).toNat = c := (at_byte hp).trans hc
      have hc1 : c ≤ 255 := by rw [← hc]; exact byte_le t 0
      have hpi : (0 : Int) < (t.size : Int) := by omega
      have BC := Lib.hid (fun X => blank_c c hc1 X)
      cases hbl : isBl c with
      | true =>
        have hstep := blL_step (l := bs t) (fun e => h0 (by rw [← bs_length, e]; rfl)) (by rw [hc, hbl])
        have hst := str_tail t
        have hsz : (str ((bs t).drop 1)).size = t.size - 1 := by rw [str_size, List.length_drop, bs_length]
        have hbb : bs (str ((bs t).drop 1)) = (bs t).drop 1 := bs_str (fun c hc => bs_small t c (List.mem_of_mem_drop hc))
        rw [← hbb] at hstep
        generalize str ((bs t).drop 1) = T at *
        have HT2 := Lib.hid (show blR (blL (bs T)) = G by rw [← hstep]; exact HT.out)
        rw [hbl] at BC
        clear hstep hbb hc hbl
        go_wp2_with fail
        refine (BC.out _).mono ?_; rintro _ w1 ⟨rfl, rfl⟩
        go_wp2
        exact ⟨⟨T, rfl, by omega, HT2.out⟩, by show T.size < t.size; omega⟩
      | false =>
        have HL := Lib.hid (show blR (bs t) = G by rw [← HT.out, blL_stop (.inr (by rw [hc]; exact hbl))])
        rw [hbl] at BC
        clear hc hbl
        go_wp2_with fail
        refine (BC.out _).mono ?_; rintro _ w1 ⟨rfl, rfl⟩
        clear BC hb
        go_wp2
        go_loop [0] (fun v => ∃ t : ByteArray, v = .string t ∧ t.size ≤ 9223372036854775807 ∧ Hid (blR (bs t) = G)) (fun v => match v with | .string t => t.size | _ => 0)
        case atStart => exact ⟨t, rfl, ht, HL.out⟩
        case round =>
          clear HL HT
          obtain ⟨r, rfl, hr, HR⟩ := hrel
          by_cases z0 : r.size = 0
          · have e : bs r = [] := List.eq_nil_of_length_eq_zero (by rw [bs_length]; exact z0)
            have HE := Lib.hid (show r = str G by rw [← HR.out, blR_stop (.inl e), str_bs])
            clear e
            go_wp2
            go_ret
            exact ⟨ret_str HE.out, rfl⟩
          · have zp : 0 < r.size := Nat.pos_of_ne_zero z0
            have zl : r.size - 1 < r.size := by omega
            obtain ⟨d, hd⟩ : ∃ d, byteAt (bs r) (r.size - 1) = d := ⟨_, rfl⟩
            have db : (r[r.size - 1]'zl).toNat = d := (at_byte zl).trans hd
            have dc1 : d ≤ 255 := by rw [← hd]; exact byte_le r _
            have zpi : (0 : Int) < (r.size : Int) := by omega
            have zq : (r.size : Int) - 1 = ((r.size - 1 : Nat) : Int) := by omega
            have rne : bs r ≠ [] := fun e => z0 (by rw [← bs_length, e]; rfl)
            have BC := Lib.hid (fun X => blank_c d dc1 X)
            cases hbl : isBl d with
            | true =>
              have hstep := blR_step (l := bs r) rne (by rw [bs_length, hd, hbl])
              have hst := str_init r
              have hsz : (str (bs r).dropLast).size = r.size - 1 := by rw [str_size, List.length_dropLast, bs_length]
              have hbb : bs (str (bs r).dropLast) = (bs r).dropLast := bs_str (fun c hc => bs_small r c (List.dropLast_subset _ hc))
              rw [← hbb] at hstep
              generalize str (bs r).dropLast = T at *
              have HR2 := Lib.hid (show blR (bs T) = G by rw [← hstep]; exact HR.out)
              rw [hbl] at BC
              generalize r.size - 1 = q at *
              clear hstep hbb hd rne hbl
              go_wp2_with fail
              refine (BC.out _).mono ?_; rintro _ w1 ⟨rfl, rfl⟩
              go_wp2
              exact ⟨⟨T, rfl, by omega, HR2.out⟩, by show T.size < r.size; omega⟩
            | false =>
              have HE := Lib.hid (show r = str G by rw [← HR.out, blR_stop (.inr (by rw [bs_length, hd]; exact hbl)), str_bs])
              rw [hbl] at BC
              generalize r.size - 1 = q at *
              clear rne hd hbl
              go_wp2_with fail
              refine (BC.out _).mono ?_; rintro _ w1 ⟨rfl, rfl⟩
              go_wp2
              go_ret
              exact ⟨ret_str HE.out, rfl⟩
theorem all_end {s : ByteArray} {p : Nat → Bool} (h : ∀ j, j < s.size → p (byteAt (bs s) j) = true) : (bs s).all p = true := by
  rw [List.all_eq_true]
  intro x hx
  obtain ⟨j, hj⟩ := List.getElem?_of_mem hx
  have h2 := h j (by have := (List.getElem?_eq_some_iff.1 hj).1; rw [bs_length] at this; exact this)
  unfold byteAt at h2
  rw [List.getD_eq_getElem?_getD, hj] at h2
  exact h2
theorem all_no {s : ByteArray} {p : Nat → Bool} {k : Nat} (hk : k < s.size) (h : p (byteAt (bs s) k) = false) : (bs s).all p = false := by
  rw [Bool.eq_false_iff]
  intro h1
  rw [List.all_eq_true] at h1
  have h2 := h1 (byteAt (bs s) k) (by
    unfold byteAt
    rw [List.getD_eq_getElem?_getD, List.getElem?_eq_getElem (by rw [bs_length]; exact hk)]; exact List.getElem_mem _)
  rw [h] at h2
  cases h2
def noSq (c : Nat) : Bool := decide (c ≠ 93)
theorem named_all (l : List Nat) : namedV l = (l.all noSq && decide (1 ≤ l.length ∧ l.length ≤ 32)) := by
  unfold namedV
  rw [Bool.eq_iff_iff, decide_eq_true_eq, Bool.and_eq_true, decide_eq_true_eq, List.all_eq_true]
  unfold noSq
  constructor
  · rintro ⟨h1, h2⟩
    exact ⟨fun x hx => decide_eq_true (fun e => h1 (e ▸ hx)), h2⟩
  · rintro ⟨h1, h2⟩
    exact ⟨fun h => (of_decide_eq_true (h1 93 h)) rfl, h2⟩
set_option maxRecDepth 100000 in
set_option maxHeartbeats 2000000 in
theorem named_c (s : ByteArray) (hs : s.size ≤ 9223372036854775807) (w : World) :
    Calls Tryz.prog 55 #[.string s] w fun e w' => e = .returned (.bool (namedV (bs s))) ∧ w = w' := by
  obtain ⟨d, hd⟩ : ∃ d, namedV (bs s) = d := ⟨_, rfl⟩
  rw [hd]
  rw [named_all, bs_length] at hd
  have HD := Lib.hid hd
  clear hd
  go_enter Tryz.func55, Tryz.ntmps55
  go_wp2
  go_loop [3] (fun kv => ∃ k : Nat, kv = .int .i64 (k : Nat) ∧ k ≤ s.size ∧ Hid (∀ j, j < k → noSq (byteAt (bs s) j) = true)) (fun kv => s.size - (intOf kv).toNat)
  case atStart => exact ⟨0, rfl, Nat.zero_le _, fun j hj => absurd hj (Nat.not_lt_zero j)⟩
  case round =>
    obtain ⟨k, rfl, hk, HN⟩ := hrel
    by_cases hlt : k < s.size
    · obtain ⟨c, hc⟩ : ∃ c, byteAt (bs s) k = c := ⟨_, rfl⟩
      have hb : (s[k]'hlt).toNat = c := (at_byte hlt).trans hc
      have hc1 : c ≤ 255 := by rw [← hc]; exact byte_le s k
      by_cases h93 : c = 93
      · have HE := Lib.hid (show d = false by rw [← HD.out, all_no hlt (by rw [hc, h93]; rfl)]; rfl)
        subst h93
        clear hc
        go_wp2
        go_ret
        exact ⟨by rw [HE.out]; rfl, rfl⟩
      · have HP := Lib.hid (show ∀ j, j < k + 1 → noSq (byteAt (bs s) j) = true from fun j hj => by
          by_cases e : j = k
          · rw [e, hc]; exact decide_eq_true h93
          · exact HN.out j (by omega))
        have ci : ((c : Int) == 93) = false := by rw [beq_eq_false_iff_ne]; omega
        clear hc h93
        go_wp2
        go_round
        case rel => exact ⟨k + 1, by go_num, by omega, HP⟩
        case measure => simp [intOf]; omega
    · obtain rfl : k = s.size := by omega
      have HE := Lib.hid (show d = decide (1 ≤ s.size ∧ s.size ≤ 32) by rw [← HD.out, all_end HN.out]; rfl)
      clear HN HD
      by_cases h1 : 1 ≤ s.size
      · by_cases h2 : s.size ≤ 32
        · obtain rfl : d = true := HE.out.trans (decide_eq_true ⟨h1, h2⟩)
          have i1 : (1 : Int) ≤ (s.size : Int) := by omega
          have i2 : (s.size : Int) ≤ 32 := by omega
          go_wp2
          go_ret
          exact ⟨rfl, rfl⟩
        · obtain rfl : d = false := HE.out.trans (decide_eq_false (fun h => h2 h.2))
          have i1 : (1 : Int) ≤ (s.size : Int) := by omega
          have i2 : ¬ (s.size : Int) ≤ 32 := by omega
          go_wp2
          go_ret
          exact ⟨rfl, rfl⟩
      · obtain rfl : d = false := HE.out.trans (decide_eq_false (fun h => h1 h.1))
        have i1 : ¬ (1 : Int) ≤ (s.size : Int) := by omega
        go_wp2
        go_ret
        exact ⟨rfl, rfl⟩
theorem isLet_yes {c : Nat} (h : isLet c = true) : (97 ≤ c ∧ c ≤ 122) ∨ (65 ≤ c ∧ c ≤ 90) := of_decide_eq_true h
theorem isLet_no {c : Nat} (h : isLet c = false) : ¬ ((97 ≤ c ∧ c ≤ 122) ∨ (65 ≤ c ∧ c ≤ 90)) := of_decide_eq_false h
set_option maxRecDepth 100000 in
set_option maxHeartbeats 4000000 in
theorem keyed_c (s : ByteArray) (hs : s.size ≤ 9223372036854775807) (w : World) :
    Calls Tryz.prog 82 #[.string s] w fun e w' => e = .returned (.bool (keyedV (bs s))) ∧ w = w' := by
  obtain ⟨d, hd⟩ : ∃ d, keyedV (bs s) = d := ⟨_, rfl⟩
  rw [hd]
  unfold keyedV at hd
  rw [bs_length] at hd
  have HD := Lib.hid hd
  clear hd
  go_enter Tryz.func82, Tryz.ntmps82
  go_wp2
  go_loop [3] (fun kv => ∃ k : Nat, kv = .int .i64 (k : Nat) ∧ k ≤ s.size ∧ Hid (∀ j, j < k → isLet (byteAt (bs s) j) = true)) (fun kv => s.size - (intOf kv).toNat)
  case atStart => exact ⟨0, rfl, Nat.zero_le _, fun j hj => absurd hj (Nat.not_lt_zero j)⟩
  case round =>
    obtain ⟨k, rfl, hk, HN⟩ := hrel
    by_cases hlt : k < s.size
    · obtain ⟨c, hc⟩ : ∃ c, byteAt (bs s) k = c := ⟨_, rfl⟩
      have hb : (s[k]'hlt).toNat = c := (at_byte hlt).trans hc
      have hc1 : c ≤ 255 := by rw [← hc]; exact byte_le s k
      cases hp : isLet c with
      | true =>
        have HP := Lib.hid (show ∀ j, j < k + 1 → isLet (byteAt (bs s) j) = true from fun j hj => by
          by_cases e : j = k
          · rw [e, hc]; exact hp
          · exact HN.out j (by omega))
        have hy := isLet_yes hp
        clear hc hp
        rcases hy with ⟨h1, h2⟩ | ⟨h1, h2⟩
        · go_wp2
          go_round
          case rel => exact ⟨k + 1, by go_num, by omega, HP⟩
          case measure => simp [intOf]; omega
        · have i1 : ¬ (97 : Int) ≤ (c : Int) := by omega
          have i2 : (65 : Int) ≤ (c : Int) := by omega
          have i3 : (c : Int) ≤ 90 := by omega
          have i4 : decide ((c : Int) ≤ 90) = true := decide_eq_true i3
          go_wp2
          all_goals first
            | (go_round; (case rel => exact ⟨k + 1, by go_num, by omega, HP⟩); (case measure => simp [intOf]; omega))
            | (rename_i hq; exfalso; revert hq; simp only [Bool.not_eq_true', Bool.not_eq_false', beq_iff_eq, decide_eq_true_eq, decide_eq_false_iff_not]; omega)
      | false =>
        have HE := Lib.hid (show d = false by rw [← HD.out, all_no hlt (by rw [hc]; exact hp)]; rfl)
        have hn := isLet_no hp
        clear hc hp
        have h6 : c ≤ 64 ∨ (91 ≤ c ∧ c ≤ 96) ∨ 123 ≤ c := by omega
        clear hn
        rcases h6 with h1 | ⟨h1, h2⟩ | h1
        all_goals go_wp2
        all_goals first
          | (go_ret; exact ⟨by rw [HE.out]; rfl, rfl⟩)
          | (rename_i hq; exfalso; revert hq; simp only [Bool.not_eq_false', beq_iff_eq, decide_eq_true_eq]; omega)
    · obtain rfl : k = s.size := by omega
      have HE := Lib.hid (show d = decide (1 ≤ s.size ∧ s.size ≤ 32) by rw [← HD.out, all_end HN.out]; rfl)
      clear HN HD
      by_cases h1 : 1 ≤ s.size
      · by_cases h2 : s.size ≤ 32
        · obtain rfl : d = true := HE.out.trans (decide_eq_true ⟨h1, h2⟩)
          have i1 : (1 : Int) ≤ (s.size : Int) := by omega
          have i2 : (s.size : Int) ≤ 32 := by omega
          go_wp2
          go_ret
          exact ⟨rfl, rfl⟩
        · obtain rfl : d = false := HE.out.trans (decide_eq_false (fun h => h2 h.2))
          have i1 : (1 : Int) ≤ (s.size : Int) := by omega
          have i2 : ¬ (s.size : Int) ≤ 32 := by omega
          go_wp2
          go_ret
          exact ⟨rfl, rfl⟩
      · obtain rfl : d = false := HE.out.trans (decide_eq_false (fun h => h1 h.1))
        have i1 : ¬ (1 : Int) ≤ (s.size : Int) := by omega
        go_wp2
        go_ret
        exact ⟨rfl, rfl⟩
end Go.Proofs.YtodlgbihdehmbaaGreatDoor.Cf.KR
