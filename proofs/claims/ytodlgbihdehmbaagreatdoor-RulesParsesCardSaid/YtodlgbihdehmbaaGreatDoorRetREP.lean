/-
  Contracts of the document's own functions of layer 10 (isobarref10): a text without blanks around it.
-/
import Derived.Test.YtodlgbihdehmbaaGreatDoorRetRCP
set_option linter.unusedSimpArgs false
set_option linter.unusedVariables false
namespace Go.Proofs.YtodlgbihdehmbaaGreatDoor.RR
open Go.RowKit
theorem str_tail (s : ByteArray) : s.extract 1 s.size = str ((bs s).drop 1) := by
  have e : s = str (bs s) := (str_bs s).symm
  have h1 : (str (bs s)).extract 1 s.size = str ((bs s).drop 1) := by
    rw [str_extract, List.take_of_length_le (by rw [List.length_drop, bs_length]; exact Nat.le_refl _)]
  rwa [← e] at h1
theorem str_init (s : ByteArray) : s.extract 0 (s.size - 1) = str (bs s).dropLast := by
  have e : s = str (bs s) := (str_bs s).symm
  have h1 : (str (bs s)).extract 0 (s.size - 1) = str (bs s).dropLast := by
    rw [str_extract, List.drop_zero, List.dropLast_eq_take, bs_length, Nat.sub_zero]
  rwa [← e] at h1
theorem trimL_step {l : List Nat} (h : l ≠ []) (h0 : byteAt l 0 = 32) : trimL l = trimL (l.drop 1) := by
  cases l with
  | nil => exact absurd rfl h
  | cons c l => exact List.dropWhile_cons_of_pos (by simpa [byteAt] using h0)
theorem last_byte {l : List Nat} (h : l ≠ []) : l = l.dropLast ++ [byteAt l (l.length - 1)] := by
  rcases List.eq_nil_or_concat l with rfl | ⟨m, c, rfl⟩
  · exact absurd rfl h
  · rw [List.concat_eq_append]; simp [byteAt]
theorem trimR_step {l : List Nat} (h : l ≠ []) (h0 : byteAt l (l.length - 1) = 32) : trimR l = trimR l.dropLast := by
  have e := last_byte h
  rw [h0] at e
  conv => lhs; rw [e]
  rw [trimR_snoc, if_pos rfl]
theorem trimR_stop {l : List Nat} (h0 : l = [] ∨ byteAt l (l.length - 1) ≠ 32) : trimR l = l := by
  by_cases h : l = []
  · rw [h]; rfl
  · have e := last_byte h
    rcases h0 with h0 | h0
    · exact absurd h0 h
    · conv => lhs; rw [e]
      rw [trimR_snoc, if_neg h0, ← e]
theorem trimL_stop {l : List Nat} (h0 : l = [] ∨ byteAt l 0 ≠ 32) : trimL l = l := by
  rcases h0 with rfl | h0
  · rfl
  · exact trimL_none h0
set_option maxRecDepth 100000 in
set_option maxHeartbeats 2000000 in
theorem trim_c (s : ByteArray) (hs : s.size ≤ 9223372036854775807) (w : World) :
    Calls Tryz.prog 61 #[.string s] w fun e w' => e = .returned (.string (str (trimB (bs s)))) ∧ w = w' := by
  obtain ⟨G, hG⟩ : ∃ G, trimB (bs s) = G := ⟨_, rfl⟩
  rw [hG]
  have HG := Lib.hid hG
  clear hG
  go_enter Tryz.func61, Tryz.ntmps61
  go_wp2
  go_loop [0] (fun v => ∃ t : ByteArray, v = .string t ∧ t.size ≤ 9223372036854775807 ∧ Hid (trimR (trimL (bs t)) = G)) (fun v => match v with | .string t => t.size | _ => 0)
  case atStart => exact ⟨s, rfl, hs, HG.out⟩
  case round =>
    obtain ⟨t, rfl, ht, HT⟩ := hrel
    clear HG
    by_cases h0 : t.size = 0
    · have e : bs t = [] := List.eq_nil_of_length_eq_zero (by rw [bs_length]; exact h0)
      have HL := Lib.hid (show trimR (bs t) = G by rw [← HT.out, trimL_stop (.inl e)])
      go_wp2
      go_loop [0] (fun v => ∃ t : ByteArray, v = .string t ∧ t.size ≤ 9223372036854775807 ∧ Hid (trimR (bs t) = G)) (fun v => match v with | .string t => t.size | _ => 0)
      case atStart => exact ⟨t, rfl, ht, HL.out⟩
      case round =>
        clear HL HT
        obtain ⟨r, rfl, hr, HR⟩ := hrel
        by_cases z0 : r.size = 0
        · have e : bs r = [] := List.eq_nil_of_length_eq_zero (by rw [bs_length]; exact z0)
          have HE := Lib.hid (show r = str G by rw [← HR.out, trimR_stop (.inl e), str_bs])
          clear e
          go_wp2
          go_ret
          exact ⟨ret_str HE.out, rfl⟩
        · have zp : 0 < r.size := Nat.pos_of_ne_zero z0
          have zl : r.size - 1 < r.size := by omega
          obtain ⟨d, hd⟩ : ∃ d, byteAt (bs r) (r.size - 1) = d := ⟨_, rfl⟩
          have db : (r[r.size - 1]'zl).toNat = d := (at_byte zl).trans hd
          have dc1 : d ≤ 255 := by rw [← hd]; exact byte_le r _
          have zpi : (0 : Int) < (r.size : Int) := by omega
          have zq : (r.size : Int) - 1 = ((r.size - 1 : Nat) : Int) := by omega
          have rne : bs r ≠ [] := fun e => z0 (by rw [← bs_length, e]; rfl)
          by_cases d32 : d = 32
          · have hstep := trimR_step (l := bs r) rne (by rw [bs_length, hd, d32])
            have hst := str_init r
            have hsz : (str (bs r).dropLast).size = r.size - 1 := by rw [str_size, List.length_dropLast, bs_length]
            have hbb : bs (str (bs r).dropLast) = (bs r).dropLast := bs_str (fun c hc => bs_small r c (List.dropLast_subset _ hc))
            rw [← hbb] at hstep
            generalize str (bs r).dropLast = T at *
            have HR2 := Lib.hid (show trimR (bs T) = G by rw [← hstep]; exact HR.out)
            subst d32
            generalize r.size - 1 = q at *
            clear hstep hbb hd rne
            go_wp2
            exact ⟨⟨T, rfl, by omega, HR2.out⟩, by show T.size < r.size; omega⟩
          · have HE := Lib.hid (show r = str G by rw [← HR.out, trimR_stop (.inr (by rw [bs_length, hd]; exact d32)), str_bs])
            have di : ((d : Int) == 32) = false := by rw [beq_eq_false_iff_ne]; omega
            generalize r.size - 1 = q at *
            clear rne hd d32
            go_wp2
            go_ret
            exact ⟨ret_str HE.out, rfl⟩
    · have hp : 0 < t.size := Nat.pos_of_ne_zero h0
      obtain ⟨c, hc⟩ : ∃ c, byteAt (bs t) 0 = c := ⟨_, rfl⟩
      have hb : (t[0]'hp).toNat = c := (at_byte hp).trans hc
      have hc1 : c ≤ 255 := by rw [← hc]; exact byte_le t 0
      have hpi : (0 : Int) < (t.size : Int) := by omega
      by_cases h32 : c = 32
      · have hstep := trimL_step (l := bs t) (fun e => h0 (by rw [← bs_length, e]; rfl)) (by rw [hc, h32])
        have hst := str_tail t
        have hsz : (str ((bs t).drop 1)).size = t.size - 1 := by rw [str_size, List.length_drop, bs_length]
        have hbb : bs (str ((bs t).drop 1)) = (bs t).drop 1 := bs_str (fun c hc => bs_small t c (List.mem_of_mem_drop hc))
        rw [← hbb] at hstep
        generalize str ((bs t).drop 1) = T at *
        have HT2 := Lib.hid (show trimR (trimL (bs T)) = G by rw [← hstep]; exact HT.out)
        subst h32
        clear hstep hbb hc
        go_wp2
        exact ⟨⟨T, rfl, by omega, HT2.out⟩, by show T.size < t.size; omega⟩
      · have HL := Lib.hid (show trimR (bs t) = G by rw [← HT.out, trimL_stop (.inr (by rw [hc]; exact h32))])
        have ci : ((c : Int) == 32) = false := by rw [beq_eq_false_iff_ne]; omega
        clear hc h32
        go_wp2
        go_loop [0] (fun v => ∃ t : ByteArray, v = .string t ∧ t.size ≤ 9223372036854775807 ∧ Hid (trimR (bs t) = G)) (fun v => match v with | .string t => t.size | _ => 0)
        case atStart => exact ⟨t, rfl, ht, HL.out⟩
        case round =>
          clear HL HT
          obtain ⟨r, rfl, hr, HR⟩ := hrel
          by_cases z0 : r.size = 0
          · have e : bs r = [] := List.eq_nil_of_length_eq_zero (by rw [bs_length]; exact z0)
            have HE := Lib.hid (show r = str G by rw [← HR.out, trimR_stop (.inl e), str_bs])
            clear e
            go_wp2
            go_ret
            exact ⟨ret_str HE.out, rfl⟩
          · have zp : 0 < r.size := Nat.pos_of_ne_zero z0
            have zl : r.size - 1 < r.size := by omega
            obtain ⟨d, hd⟩ : ∃ d, byteAt (bs r) (r.size - 1) = d := ⟨_, rfl⟩
            have db : (r[r.size - 1]'zl).toNat = d := (at_byte zl).trans hd
            have dc1 : d ≤ 255 := by rw [← hd]; exact byte_le r _
            have zpi : (0 : Int) < (r.size : Int) := by omega
            have zq : (r.size : Int) - 1 = ((r.size - 1 : Nat) : Int) := by omega
            have rne : bs r ≠ [] := fun e => z0 (by rw [← bs_length, e]; rfl)
            by_cases d32 : d = 32
            · have hstep := trimR_step (l := bs r) rne (by rw [bs_length, hd, d32])
              have hst := str_init r
              have hsz : (str (bs r).dropLast).size = r.size - 1 := by rw [str_size, List.length_dropLast, bs_length]
              have hbb : bs (str (bs r).dropLast) = (bs r).dropLast := bs_str (fun c hc => bs_small r c (List.dropLast_subset _ hc))
              rw [← hbb] at hstep
              generalize str (bs r).dropLast = T at *
              have HR2 := Lib.hid (show trimR (bs T) = G by rw [← hstep]; exact HR.out)
              subst d32
              generalize r.size - 1 = q at *
              clear hstep hbb hd rne
              go_wp2
              exact ⟨⟨T, rfl, by omega, HR2.out⟩, by show T.size < r.size; omega⟩
            · have HE := Lib.hid (show r = str G by rw [← HR.out, trimR_stop (.inr (by rw [bs_length, hd]; exact d32)), str_bs])
              have di : ((d : Int) == 32) = false := by rw [beq_eq_false_iff_ne]; omega
              generalize r.size - 1 = q at *
              clear rne hd d32
              go_wp2
              go_ret
              exact ⟨ret_str HE.out, rfl⟩
end Go.Proofs.YtodlgbihdehmbaaGreatDoor.RR
