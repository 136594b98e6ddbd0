/-
  Contracts of the program's functions of layer 11: a text without blanks and tabs around it, by strings.Trim.
-/
import Derived.Test.YtodlgbihdehmbaaGreatDoorCfgLibP
import Derived.Test.YtodlgbihdehmbaaGreatDoorCfgBoxP
set_option linter.unusedSimpArgs false
set_option linter.unusedVariables false
namespace Go.Proofs.YtodlgbihdehmbaaGreatDoor.Cf
theorem blR_cons (c : Nat) (l : List Nat) : blR (c :: l) = if blR l = [] then (if isBl c then [] else [c]) else c :: blR l := by
  unfold blR
  rw [List.reverse_cons, List.dropWhile_append]
  by_cases h : (l.reverse.dropWhile isBl) = []
  · have hi : (List.dropWhile isBl l.reverse).isEmpty = true := by rw [h]; rfl
    rw [if_pos hi, if_pos (by rw [h]; rfl)]
    by_cases hc : isBl c = true
    · rw [if_pos hc, List.dropWhile_cons_of_pos hc]; rfl
    · rw [if_neg hc, List.dropWhile_cons_of_neg hc]; rfl
  · have hi : ¬ (List.dropWhile isBl l.reverse).isEmpty = true := by rw [List.isEmpty_iff]; exact h
    rw [if_neg hi, if_neg (by rw [List.reverse_eq_nil_iff]; exact h)]
    simp
theorem bl_swap : ∀ l : List Nat, blL (blR l) = blR (blL l)
  | [] => rfl
  | c :: l => by
    have ih := bl_swap l
    by_cases hc : isBl c = true
    · rw [blL_cons, if_pos hc, blR_cons]
      by_cases h : blR l = []
      · rw [if_pos h, if_pos hc, ← ih, h]
      · rw [if_neg h, ← ih, blL_cons, if_pos hc]
    · rw [blL_cons, if_neg hc, blR_cons]
      by_cases h : blR l = []
      · rw [if_pos h, if_neg hc, blL_cons, if_neg hc]
      · rw [if_neg h, blL_cons, if_neg hc]
namespace KP
open Go.RowKit KR
/-- The set of blanks and tabs lies at block b. -/
def BlSet (w : World) (b : Nat) : Prop := ∀ c : Nat, c ≤ 255 → w.cell? ⟨b, c, none⟩ = some (.bool (isBl c))
theorem has_set (c : Nat) (hc : c ≤ 255) (b : Nat) (w : World) (h : BlSet w b) : Calls Tryz.prog 142 #[.pointer (some ⟨b, 0, none⟩), .int .u8 (c : Int)] w fun e w' => e = .returned (.bool (isBl c)) ∧ w = w' := by
  have hx : (UInt8.ofNat c).toNat = c := by simp; omega
  have h1 := Tryz.asciiSet_contains b (UInt8.ofNat c) (isBl c) w (by rw [hx]; exact h c hc)
  rw [hx] at h1
  exact h1.mono fun e w' ⟨h1, h2⟩ => ⟨h1, h2.symm⟩
set_option maxRecDepth 100000 in
set_option maxHeartbeats 1000000 in
theorem trimL_c (s : ByteArray) (hs : s.size ≤ 9223372036854775807) (b : Nat) (w : World) (hb : BlSet w b) :
    Calls Tryz.prog 111 #[.string s, .pointer (some ⟨b, 0, none⟩)] w fun e w' => e = .returned (.string (str (blL (bs s)))) ∧ w = w' := by
  obtain ⟨G, hG⟩ : ∃ G, blL (bs s) = G := ⟨_, rfl⟩
  rw [hG]
  have HG := Lib.hid hG; have HB := Lib.hid hb
  clear hG hb
  go_enter Tryz.func111, Tryz.ntmps111
  go_wp2
  go_loop [0] (fun v => ∃ t : ByteArray, v = .string t ∧ t.size ≤ 9223372036854775807 ∧ Hid (blL (bs t) = G)) (fun v => match v with | .string t => t.size | _ => 0)
  case atStart => exact ⟨s, rfl, hs, HG.out⟩
  case round =>
    obtain ⟨t, rfl, ht, HT⟩ := hrel
    clear HG
    by_cases h0 : t.size = 0
    · have e : bs t = [] := List.eq_nil_of_length_eq_zero (by rw [bs_length]; exact h0)
      have HE := Lib.hid (show t = str G by rw [← HT.out, blL_stop (.inl e), str_bs])
      clear e
      go_wp2
      go_ret
      exact ⟨ret_str HE.out, rfl⟩
    · have hp : 0 < t.size := Nat.pos_of_ne_zero h0
      obtain ⟨c, hc⟩ : ∃ c, byteAt (bs t) 0 = c := ⟨_, rfl⟩
      have hb : (t[0]'hp).toNat = c := (at_byte hp).trans hc
      have hc1 : c ≤ 255 := by rw [← hc]; exact byte_le t 0
      have hpi : (0 : Int) < (t.size : Int) := by omega
      have BC := Lib.hid (has_set c hc1 b w HB.out)
      cases hbl : isBl c with
      | true =>
        have hstep := blL_step (l := bs t) (fun e => h0 (by rw [← bs_length, e]; rfl)) (by rw [hc, hbl])
        have hst := str_tail t
        have hsz : (str ((bs t).drop 1)).size = t.size - 1 := by rw [str_size, List.length_drop, bs_length]
        have hbb : bs (str ((bs t).drop 1)) = (bs t).drop 1 := bs_str (fun c hc => bs_small t c (List.mem_of_mem_drop hc))
        rw [← hbb] at hstep
        generalize str ((bs t).drop 1) = T at *
        have HT2 := Lib.hid (show blL (bs T) = G by rw [← hstep]; exact HT.out)
        rw [hbl] at BC
        clear hstep hbb hc hbl
        go_wp2_with fail
        refine BC.out.mono ?_; rintro _ w1 ⟨rfl, rfl⟩
        go_wp2
        exact ⟨⟨T, rfl, by omega, HT2.out⟩, by show T.size < t.size; omega⟩
      | false =>
        have HE := Lib.hid (show t = str G by rw [← HT.out, blL_stop (.inr (by rw [hc]; exact hbl)), str_bs])
        rw [hbl] at BC
        clear hc hbl
        go_wp2_with fail
        refine BC.out.mono ?_; rintro _ w1 ⟨rfl, rfl⟩
        go_wp2
        go_ret
        exact ⟨ret_str HE.out, rfl⟩
set_option maxRecDepth 100000 in
set_option maxHeartbeats 1000000 in
theorem trimR_c (s : ByteArray) (hs : s.size ≤ 9223372036854775807) (b : Nat) (w : World) (hb : BlSet w b) :
    Calls Tryz.prog 112 #[.string s, .pointer (some ⟨b, 0, none⟩)] w fun e w' => e = .returned (.string (str (blR (bs s)))) ∧ w = w' := by
  obtain ⟨G, hG⟩ : ∃ G, blR (bs s) = G := ⟨_, rfl⟩
  rw [hG]
  have HG := Lib.hid hG; have HB := Lib.hid hb
  clear hG hb
  go_enter Tryz.func112, Tryz.ntmps112
  go_wp2
  go_loop [0] (fun v => ∃ t : ByteArray, v = .string t ∧ t.size ≤ 9223372036854775807 ∧ Hid (blR (bs t) = G)) (fun v => match v with | .string t => t.size | _ => 0)
  case atStart => exact ⟨s, rfl, hs, HG.out⟩
  case round =>
    obtain ⟨r, rfl, hr, HR⟩ := hrel
    clear HG
    by_cases z0 : r.size = 0
    · have e : bs r = [] := List.eq_nil_of_length_eq_zero (by rw [bs_length]; exact z0)
      have HE := Lib.hid (show r = str G by rw [← HR.out, blR_stop (.inl e), str_bs])
      clear e
      go_wp2
      go_ret
      exact ⟨ret_str HE.out, rfl⟩
    · have zp : 0 < r.size := Nat.pos_of_ne_zero z0
      have zl : r.size - 1 < r.size := by omega
      obtain ⟨d, hd⟩ : ∃ d, byteAt (bs r) (r.size - 1) = d := ⟨_, rfl⟩
      have db : (r[r.size - 1]'zl).toNat = d := (at_byte zl).trans hd
      have dc1 : d ≤ 255 := by rw [← hd]; exact byte_le r _
      have zpi : (0 : Int) < (r.size : Int) := by omega
      have zq : (r.size : Int) - 1 = ((r.size - 1 : Nat) : Int) := by omega
      have rne : bs r ≠ [] := fun e => z0 (by rw [← bs_length, e]; rfl)
      have BC := Lib.hid (has_set d dc1 b w HB.out)
      cases hbl : isBl d with
      | true =>
        have hstep := blR_step (l := bs r) rne (by rw [bs_length, hd, hbl])
        have hst := str_init r
        have hsz : (str (bs r).dropLast).size = r.size - 1 := by rw [str_size, List.length_dropLast, bs_length]
        have hbb : bs (str (bs r).dropLast) = (bs r).dropLast := bs_str (fun c hc => bs_small r c (List.dropLast_subset _ hc))
        rw [← hbb] at hstep
        generalize str (bs r).dropLast = T at *
        have HR2 := Lib.hid (show blR (bs T) = G by rw [← hstep]; exact HR.out)
        rw [hbl] at BC
        generalize r.size - 1 = q at *
        clear hstep hbb hd rne hbl
        go_wp2_with fail
        refine BC.out.mono ?_; rintro _ w1 ⟨rfl, rfl⟩
        go_wp2
        exact ⟨⟨T, rfl, by omega, HR2.out⟩, by show T.size < r.size; omega⟩
      | false =>
        have HE := Lib.hid (show r = str G by rw [← HR.out, blR_stop (.inr (by rw [bs_length, hd]; exact hbl)), str_bs])
        rw [hbl] at BC
        generalize r.size - 1 = q at *
        clear rne hd hbl
        go_wp2_with fail
        refine BC.out.mono ?_; rintro _ w1 ⟨rfl, rfl⟩
        go_wp2
        go_ret
        exact ⟨ret_str HE.out, rfl⟩
theorem set_has (x : UInt8) (c : Nat) (hx : x.toNat = c) : ([32, 9] : List UInt8).contains x = isBl c := by
  unfold isBl
  rw [Bool.eq_iff_iff, List.contains_iff_mem, Bool.or_eq_true, beq_iff_eq, beq_iff_eq]
  constructor
  · intro hm
    rcases List.mem_cons.1 hm with e | e
    · left; rw [← hx, e]; rfl
    · right; rw [← hx, List.mem_singleton.1 e]; rfl
  · rintro (e | e)
    · rw [show x = 32 from UInt8.toNat_inj.1 (hx.trans e)]; exact List.mem_cons_self
    · rw [show x = 9 from UInt8.toNat_inj.1 (hx.trans e)]; exact List.mem_cons_of_mem _ List.mem_cons_self
theorem set_cells (c : Nat) (hc : c ≤ 255) : (Lib.setCells [32, 9])[c]? = some (.bool (isBl c)) := by
  have hx : (UInt8.ofNat c).toNat = c := by simp; omega
  have h := Lib.setCells_at [32, 9] (UInt8.ofNat c)
  rw [hx, set_has _ c hx] at h
  exact h
theorem zero_cells : Tryz.zeroCells163 = Array.replicate 256 (.bool false) := by kernel_rfl
theorem zero_set : ∀ w, (zeroValue 163).run Tryz.prog w = .ok (.agg (Array.replicate 256 (.bool false))) w := fun w => (Tryz.zeroValue163 w).trans (by rw [zero_cells])
theorem two_ascii (j : Nat) (b : UInt8) (hb : (ByteArray.mk #[32, 9]).data.toList[j]? = some b) : b.toNat < 128 := by
  match j, hb with
  | 0, hb => obtain rfl := Option.some.inj hb; decide
  | 1, hb => obtain rfl := Option.some.inj hb; decide
  | j + 2, hb => simp at hb
theorem two_small : (ByteArray.mk #[32, 9]).size < 4294967281 := by show 2 < 4294967281; omega
theorem set_info (C : Array Value) (h : C.size = 256) : (Tryz.prog.info? 163).map (·.size) = some C.toList.length := by
  rw [show C.toList.length = 256 from h]; kernel_rfl
theorem set_c (w : World) : Calls Tryz.prog 110 #[.string ⟨#[32, 9]⟩] w fun e w' => e = .returned (.tuple #[.agg (Lib.setCells [32, 9]), .bool true]) ∧ w' = w.alloc (.cells (Lib.setCells [32, 9]) 163) :=
  Tryz.strings_makeASCIISet zero_set ⟨#[32, 9]⟩ w two_small two_ascii
set_option maxRecDepth 100000 in
set_option maxHeartbeats 1000000 in
theorem trim_c (s : ByteArray) (hs : s.size ≤ 9223372036854775807) (w : World) : Calls Tryz.prog 80 #[.string s, .string ⟨#[32, 9]⟩] w fun e w' => e = .returned (.string (str (blB (bs s)))) ∧ Below w.heap.size w w' := by
  by_cases h0 : s.size = 0
  · have hn : bs s = [] := List.eq_nil_of_length_eq_zero (by rw [bs_length]; exact h0)
    have hnl : (s.toList == (ByteArray.mk #[]).toList) = true := by rw [toList_eq]; exact decide_eq_true (by rw [hn]; rfl)
    have hnl2 : s.toList.isEmpty = true := by rw [bs_nil_iff]; exact hn
    have HE := Lib.hid (show s = str (blB (bs s)) by rw [hn]; show s = str []; rw [← hn, str_bs])
    clear hn
    go_enter Tryz.func80, Tryz.ntmps80
    go_wp2
    go_ret
    exact ⟨ret_str HE.out, Below.refl _ _⟩
  · have hp : 0 < s.size := Nat.pos_of_ne_zero h0
    have hnl : (s.toList == (ByteArray.mk #[]).toList) = false := toL_no hp
    have hnl2 : s.toList.isEmpty = false := by
      cases h : s.toList.isEmpty with
      | false => rfl
      | true => rw [bs_nil_iff] at h; exact absurd (by rw [← bs_length, h]; rfl) h0
    have SC := Lib.hid (set_c w)
    have ST := Lib.hid set_cells
    have SZ := Lib.setCells_size [32, 9]
    have S1 := Lib.hid (Lib.setCells_one [32, 9])
    generalize Lib.setCells [32, 9] = C at *
    have RS : (str (blR (bs s))).size ≤ 9223372036854775807 := by rw [str_size]; have := blR_length (bs s); rw [bs_length] at this; omega
    have bR : bs (str (blR (bs s))) = blR (bs s) := bs_str (fun c hc => bs_small s c (blR_mem hc))
    have TR := Lib.hid (fun (b : Nat) (W : World) (h : BlSet W b) => trimR_c s hs b W h)
    have TL := Lib.hid (fun (b : Nat) (W : World) (h : BlSet W b) => trimL_c (str (blR (bs s))) RS b W h)
    rw [bR, bl_swap] at TL
    rw [show blR (blL (bs s)) = blB (bs s) from rfl] at TL
    generalize str (blR (bs s)) = R at *
    generalize str (blB (bs s)) = G at *
    clear bR RS h0
    go_enter Tryz.func80, Tryz.ntmps80
    go_wp2_with fail
    refine SC.out.mono ?_; rintro _ w1 ⟨rfl, rfl⟩
    have DV : DVar ((w.alloc (.cells C 163)).alloc (.cells Tryz.zeroCells163 163)) (w.heap.size + 1) C.toList.length := by
      have h := DVar.alloc (w := w.alloc (.cells C 163)) Tryz.zeroCells163 163
      rw [World.size_alloc, zero_cells, Array.size_replicate] at h
      rw [zero_cells, show C.toList.length = 256 from SZ]
      exact h
    have HDV := Lib.hid DV
    have H1 : ∀ v ∈ C.toList, v.oneCell' = true := fun v hv => by
      have h := S1.out
      rw [Array.all_eq_true_iff_forall_mem] at h
      exact h v (Array.mem_toList_iff.1 hv)
    have LOW := Lib.hid (bnext (alloc_below w (.cells C 163)) (alloc_below (w.alloc (.cells C 163)) (.cells Tryz.zeroCells163 163)))
    have INF := Lib.hid (set_info C SZ)
    have HH1 := Lib.hid H1
    clear DV H1
    go_wp2_with (refine wpList_put rfl 163 (.tmp 5) (.tmp 32) rfl (w.heap.size + 1) C.toList rfl rfl HDV.out INF.out HH1.out ?_; intro y hq)
    have BS : BlSet y (w.heap.size + 1) := fun c hc => hq.at_ c _ (by have := ST.out c hc; simpa using this)
    have LOWY := Lib.hid (hq.below (by omega) LOW.out)
    have TR1 := Lib.hid (TR.out _ y BS)
    have TL1 := Lib.hid (TL.out _ y BS)
    clear hq TR TL BS LOW INF HH1 HDV SC ST SZ S1
    go_wp2_with (first
      | (go_at_call 112; refine TR1.out.mono ?_; rintro _ w1 ⟨rfl, rfl⟩)
      | (go_at_call 111; refine TL1.out.mono ?_; rintro _ w1 ⟨rfl, rfl⟩))
    go_ret
    exact ⟨rfl, LOWY.out⟩
end KP
end Go.Proofs.YtodlgbihdehmbaaGreatDoor.Cf
