/-
  Contracts of the document's own functions of layer 10 (isobarref10): a text's parts.
-/
import Derived.Test.YtjbacbbbhedmlaaDoorRetRC
set_option linter.unusedSimpArgs false
set_option linter.unusedVariables false
namespace Go.Proofs.YtjbacbbbhedmlaaDoor.RR
open Go.RowKit
theorem str_one (s : ByteArray) (k : Nat) (h : k < s.size) : s.extract k (k + 1) = str [byteAt (bs s) k] := by
  have e : s = str (bs s) := (str_bs s).symm
  have h1 : (str (bs s)).extract k (k + 1) = str [byteAt (bs s) k] := by
    rw [str_extract]
    congr 1
    have hk : k < (bs s).length := by rw [bs_length]; exact h
    rw [show k + 1 - k = 1 from by omega, List.drop_eq_getElem_cons hk, List.take_succ_cons, List.take_zero]
    unfold byteAt
    rw [List.getD_eq_getElem?_getD, List.getElem?_eq_getElem hk]; rfl
  rwa [← e] at h1
theorem set_last {ls : List (List Nat)} (hn : ls ≠ []) (t : List Nat) : ls.set (ls.length - 1) t = ls.dropLast ++ [t] := by
  rcases List.eq_nil_or_concat ls with rfl | ⟨m, c, rfl⟩
  · exact absurd rfl hn
  · rw [List.concat_eq_append]; simp
theorem last_at {ls : List (List Nat)} (hn : ls ≠ []) : ls[ls.length - 1]? = some (ls.getLastD []) := by
  rcases List.eq_nil_or_concat ls with rfl | ⟨m, c, rfl⟩
  · exact absurd rfl hn
  · rw [List.concat_eq_append]; simp
set_option maxRecDepth 100000 in
set_option maxHeartbeats 2000000 in
theorem split_c (s : ByteArray) (hs : s.size ≤ 100000) (c : Nat) (hc : c ≤ 255) (w : World) :
    Calls Tryd.prog 22 #[.string s, .int .u8 (c : Int)] w fun e w' => ∃ v, e = .returned v ∧ TxNew w.heap.size w' v (spl c (bs s)) ∧ Below w.heap.size w w' := by
  obtain ⟨i0, hi0, hz0, hz1, hz2⟩ := info_parts text_info
  have lit := TxNew.lit (w := w) []
  have HS := Lib.hid hs
  obtain ⟨n, hn⟩ : ∃ n, s.size = n := ⟨_, rfl⟩
  have hn1 : n ≤ 100000 := by omega
  have HN := Lib.hid hn
  have LIT := Lib.hid lit
  clear hs lit hn
  go_enter Tryd.func22, Tryd.ntmps22
  go_wp2
  go_loopw [5, 6] (fun o i wr => ∃ (k : Nat), k ≤ n ∧ i = .int .i64 k ∧ Hid (TxNew w.heap.size wr o (spl c ((bs s).take k)) ∧ Below w.heap.size w wr)) (fun _ i _ => n - (intOf i).toNat)
  case atStart => exact ⟨0, Nat.zero_le _, rfl, LIT.out, alloc_below _ _⟩
  case round =>
    obtain ⟨k, hk, rfl, HI⟩ := hrel
    have hne := spl_ne c ((bs s).take k)
    obtain ⟨g, cap, rfl, hB, hglt, hcap⟩ := HI.out.1.form hne
    have hmle : (spl c ((bs s).take k)).length ≤ k + 1 := Nat.le_trans (spl_length c _) (by rw [List.length_take]; omega)
    have hmp : 0 < (spl c ((bs s).take k)).length := List.length_pos_iff.2 hne
    by_cases hlt : k < n
    · have hlt0 : k < s.size := by rw [HN.out]; exact hlt
      obtain ⟨x, hx⟩ : ∃ x, byteAt (bs s) k = x := ⟨_, rfl⟩
      have hb : (s[k]'hlt0).toNat = x := (at_byte hlt0).trans hx
      have hx1 : x ≤ 255 := by rw [← hx]; exact byte_le s k
      have hst := str_one s k hlt0
      rw [hx] at hst
      have hsn := spl_snoc c x ((bs s).take k)
      rw [← hx, ← take_snoc (by rw [bs_length]; exact hlt0), hx] at hsn
      have hl := last_at hne
      have hsl := set_last hne ((spl c ((bs s).take k)).getLastD [] ++ [x])
      have hlsz : ((spl c ((bs s).take k)).getLastD []).length ≤ 100000 := by
        have h1 : (spl c ((bs s).take k)).getLastD [] ∈ spl c ((bs s).take k) := List.mem_of_getElem? hl
        have h2 := spl_part_length c _ _ h1
        rw [List.length_take, bs_length] at h2
        omega
      generalize spl c ((bs s).take k) = ls at *
      obtain ⟨m, hm⟩ : ∃ m, ls.length = m := ⟨_, rfl⟩
      rw [hm] at hmle hmp hl hsl hcap HI
      rw [hm]
      by_cases hxc : x = c
      · subst hxc
        rw [if_pos rfl] at hsn
        have SN := Lib.hid hsn; have HX := Lib.hid hx
        have B63 := Lib.hid (show m + 1 ≤ maxLen by simp only [maxLen]; omega)
        have B48 := Lib.hid (show (m + 1) * 16 ≤ 140737488355328 by omega)
        have ROW := Lib.hid (show wr.ownsRow w.heap.size 9 1 (.slice (some ⟨g, 0, none⟩) m cap) m (txC ls) from by
          have h2 := HI.out.1
          unfold TxNew at h2
          rw [hm] at h2
          exact h2)
        have FORM := Lib.hid (show ∀ (W' : World) (v' : Value), W'.ownsRow w.heap.size 9 1 v' (m + 1) (txC ls ++ [.string (str [])]) → ∃ A c, v' = .slice A (m + 1) c from fun W' v' h => by
          rcases h.2 with ⟨_, h0⟩ | ⟨g', cap, cur, rfl, _⟩
          · omega
          · exact ⟨_, _, rfl⟩)
        have APP := Lib.hid (show ∀ (W' : World) (v' : Value), W'.ownsRow w.heap.size 9 1 v' (m + 1) (txC ls ++ [.string (str [])]) → (wr.alloc (.cells #[.string (str [])] 9)).grownBy W' (some g) → TxNew w.heap.size W' v' (spl x ((bs s).take (k + 1))) ∧ Below w.heap.size w W' from fun W' v' ho hg => by
          refine ⟨?_, (HI.out.2.alloc HI.out.2.size _).grown hg (by have := HI.out.2.size; simp; omega) (fun j ej => by cases ej; exact hB)⟩
          rw [SN.out]
          exact TxNew.push (by rw [hm]; exact ho))
        have SZ := Lib.hid HI.out.2.size
        clear hsn hx hst hl hsl hlsz hm hne
        go_wp2_with (at_builtin; refine wpList_append_any _ rfl (.tmp 19) (.tmp 20) _ rfl w.heap.size 9 i0 (.string ⟨#[]⟩) 1 16 Tryd.underlying44 hi0 hz0 hz1 hz2 rfl (by decide) (.slice (some ⟨g, 0, none⟩) m cap) m (txC ls) rfl (World.ownsRow.alloc ROW.out _) _ (some ⟨wr.heap.size, 0, none⟩) 1 1 [.string (str [])] rfl (Reads.of_own (World.ownsRow_lit (base := 0) (e := 9) (size := 1) wr #[.string (str [])] 1 (Nat.zero_le _) (by decide) rfl)) (by simp [Value.oneCell']) B63.out B48.out (by have := SZ.out; simp; omega) ?_; intro v13 w13 hown13 hg13 hat13; obtain ⟨A13, c13, hv13⟩ := FORM.out _ _ hown13; subst hv13; have hs13 := Lib.hid (APP.out _ _ hown13 hg13); clear hown13 hg13 hat13)
        go_roundw
        case rel => exact ⟨k + 1, by omega, by go_num, hs13.out⟩
        case measure => simp only [intOf]; omega
      · rw [if_neg hxc] at hsn
        have hci : ((x : Int) == (c : Int)) = false := by rw [beq_eq_false_iff_ne]; omega
        obtain ⟨c0, f0⟩ := (show TxNew w.heap.size wr (.slice (some ⟨g, 0, none⟩) m cap) ls from HI.out.1).cellAt hl
        have PUT := Lib.hid (show TxNew w.heap.size (wr.setCell ⟨g, m - 1, none⟩ (.string (str (ls.getLastD [] ++ [x])))) (.slice (some ⟨g, 0, none⟩) m cap) (spl c ((bs s).take (k + 1))) from by
          have h2 := TxNew.put HI.out.1 (k := m - 1) (by omega) (ls.getLastD [] ++ [x])
          rw [hsl, ← hsn] at h2
          exact h2)
        have LOW := Lib.hid (show Below w.heap.size w (wr.setCell ⟨g, m - 1, none⟩ (.string (str (ls.getLastD [] ++ [x])))) from HI.out.2.setCell hB _)
        have happ := str_append (ls.getLastD []) [x]
        have hEs := str_size (ls.getLastD [])
        generalize str (ls.getLastD []) = E at *
        generalize str (ls.getLastD [] ++ [x]) = E2 at *
        have hE1 : E.size ≤ 100000 := by rw [hEs]; exact hlsz
        have hX1 : (str [x]).size = 1 := rfl
        generalize str [x] = X at *
        have hm1 : ((m : Int) - 1) = ((m - 1 : Nat) : Int) := by omega
        have hm2 : m - 1 < m := by omega
        generalize m - 1 = m1 at *
        clear hsn hx hl hsl hlsz hm hne hEs hxc
        go_wp2
        go_region
        go_wp2
        go_roundw
        case rel => exact ⟨k + 1, by omega, by go_num, PUT.out.below (Below.refl _ _).drew, Below.drew LOW.out⟩
        case measure => simp only [intOf]; omega
    · obtain rfl : k = n := by omega
      have hT : (bs s).take k = bs s := by rw [← HN.out, ← bs_length, List.take_length]
      have HI2 := Lib.hid (show TxNew w.heap.size wr (.slice (some ⟨g, 0, none⟩) (spl c ((bs s).take k)).length cap) (spl c (bs s)) ∧ Below w.heap.size w wr from by rw [hT]; rw [hT] at HI; exact HI.out)
      clear hT HI
      generalize (spl c ((bs s).take k)).length = m at *
      have hge : s.size ≤ k := by rw [HN.out]; exact Nat.le_refl _
      go_wp2
      go_ret
      exact ⟨_, rfl, HI2.out⟩
end Go.Proofs.YtjbacbbbhedmlaaDoor.RR
