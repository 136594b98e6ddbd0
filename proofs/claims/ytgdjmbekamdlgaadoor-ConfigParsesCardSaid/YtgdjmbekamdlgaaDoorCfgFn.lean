/-
  Contracts of the program's functions of layer 11: what is told by a name, or a key; one more in a list.
-/
import Derived.Test.YtgdjmbekamdlgaaDoorCfgLib
import Derived.Test.YtgdjmbekamdlgaaDoorCfgRE
import Derived.Fence
set_option linter.unusedSimpArgs false
set_option linter.unusedVariables false
namespace Go.Proofs.YtgdjmbekamdlgaaDoor.KP
open Go.RowKit KR
theorem ownsRow_below2 {B n : Nat} {e : TypeId} {size : Nat} {w w' : World} {v : Value} {xs : List Value} (h : w.ownsRow B e size v n xs) (hb : Below w.heap.size w w') : w'.ownsRow B e size v n xs := own_keep h fun g _ hl _ => hb.block g hl

theorem eg_S : ∀ args w, (callFunc 47 args).run Tryd.prog w = .ok (.enter 47 args) w := enters_of Tryd.func47 (by kernel_rfl) rfl
theorem named_c (nm : ByteArray) (w : World) : Calls Tryd.prog 27 #[.string nm] w fun e w' => e = .returned (.func (.func 47) #[] #[.pointer (some ⟨w.heap.size, 0, none⟩)]) ∧ w' = w.alloc (.cells #[.string nm] 9) := by
  go_enter Tryd.func27, Tryd.ntmps27
  go_wp2
  go_ret
  exact ⟨rfl, rfl⟩
set_option maxRecDepth 100000 in
theorem named1_c (X : ByteArray) (A : Option Addr) (n c : Nat) (b : Nat) (nm : ByteArray) (w : World) (hb : w.cell? ⟨b, 0, none⟩ = some (.string nm)) : Calls Tryd.prog 47 #[.agg #[.string X, .slice A n c], .pointer (some ⟨b, 0, none⟩)] w fun e w' => e = .returned (.bool (X.toList == nm.toList)) ∧ Below w.heap.size w w' := by
  obtain ⟨wb, hwb⟩ : ∃ wb, w.alloc (.cells #[.string X, .slice A n c] 37) = wb := ⟨_, rfl⟩
  obtain ⟨k0, k1, -, -⟩ := two_new w (.string X) (.slice A n c) 37
  have hb2 := cellb (alloc_below w (.cells #[.string X, .slice A n c] 37)) hb
  have hbw := alloc_below w (.cells #[.string X, .slice A n c] 37)
  rw [hwb] at k0 k1 hb2 hbw
  go_enter Tryd.func47, Tryd.ntmps47
  go_wp2
  go_ret
  exact ⟨rfl, hbw⟩
set_option maxRecDepth 100000 in
set_option maxHeartbeats 1000000 in
theorem indexS_c (v : Value) (L : List Sec) (hl : L.length ≤ 100000) (hL : ∀ x ∈ L, Byt x.1) (b : Nat) (nm : ByteArray) (w : World) (hb : w.cell? ⟨b, 0, none⟩ = some (.string nm)) (f : SecOut w v L) :
    Calls Tryd.prog 62 #[v, .func (.func 47) #[] #[.pointer (some ⟨b, 0, none⟩)]] w fun e w' => ∃ i : Int, e = .returned (.int .i64 i) ∧ decide (0 ≤ i) = (L.any fun x => x.1 == bs nm) ∧ Below w.heap.size w w' := by
  have eg := eg_S
  obtain ⟨A, c, rfl, hc, hx⟩ := f
  obtain ⟨n, hn⟩ : ∃ n, L.length = n := ⟨_, rfl⟩
  obtain ⟨d, hd⟩ : ∃ d, (L.any fun x => x.1 == bs nm) = d := ⟨_, rfl⟩
  rw [hn] at hl hc
  rw [hn, hd]
  have HX := Lib.hid hx; have HN := Lib.hid hn; have HD := Lib.hid hd; have HL := Lib.hid hL; have HB := Lib.hid hb
  clear hx hn hd hL hb
  go_enter Tryd.func62, Tryd.ntmps62
  go_wp2
  go_loopw [8] (fun i wr => ∃ k : Nat, i = .int .i64 (k : Nat) ∧ k ≤ n ∧ Hid ((∀ (j : Nat) (x : Sec), j < k → L[j]? = some x → x.1 ≠ bs nm) ∧ Below w.heap.size w wr)) (fun i _ => n - (intOf i).toNat)
  case atStart => exact ⟨0, rfl, Nat.zero_le _, fun j x hj => absurd hj (Nat.not_lt_zero j), Below.refl _ _⟩
  case round =>
    obtain ⟨k, rfl, hk, HI⟩ := hrel
    by_cases hlt : k < n
    · have hkl : k < L.length := by rw [HN.out]; exact hlt
      obtain ⟨bb, rfl, ha⟩ := HX.out (by intro e; rw [e] at hkl; exact absurd hkl (Nat.not_lt_zero _))
      have hp := List.getElem?_eq_getElem hkl
      obtain ⟨x, hxx⟩ : ∃ x, L[k] = x := ⟨_, rfl⟩
      rw [hxx] at hp
      obtain ⟨u, c0, cc1, zz⟩ := (ha.below HI.out.2) k x hp
      obtain ⟨A1, c1, hu, _, _⟩ := zz
      obtain ⟨n1, hn1⟩ : ∃ n1, x.2.length = n1 := ⟨_, rfl⟩
      rw [hn1] at hu
      subst hu
      clear hn1
      have hbyt := HL.out x (List.mem_of_getElem? hp)
      have hcmp := toList_str hbyt nm
      have CL := Lib.hid (named1_c (str x.1) A1 n1 c1 b nm wr (cellb HI.out.2 HB.out))
      rw [hcmp] at CL
      have HP := Lib.hid hp
      by_cases he : x.1 = bs nm
      · rw [decide_eq_true he] at CL
        have HE := Lib.hid (show decide (0 ≤ (k : Int)) = d by
          rw [← HD.out, decide_eq_true (by omega)]
          exact (List.any_eq_true.2 ⟨x, List.mem_of_getElem? HP.out, by simpa using he⟩).symm)
        generalize str x.1 = X at *
        
        clear hp hxx hbyt ha he hkl hcmp
        go_wp2_with (go_at_fn 47; refine (CL.out).mono ?_; rintro e w' ⟨rfl, hb1⟩)
        go_ret
        exact ⟨_, rfl, HE.out, bnext HI.out.2 hb1⟩
      · rw [decide_eq_false he] at CL
        have NEXT := Lib.hid (show ∀ (j : Nat) (y : Sec), j < k + 1 → L[j]? = some y → y.1 ≠ bs nm from fun j y hj hy => by
          by_cases e : j = k
          · rw [e, HP.out] at hy
            obtain rfl := Option.some.inj hy
            exact he
          · exact HI.out.1 j y (by omega) hy)
        generalize str x.1 = X at *
        
        clear hp hxx hbyt ha he hkl hcmp
        go_wp2_with (go_at_fn 47; refine (CL.out).mono ?_; rintro e w' ⟨rfl, hb1⟩)
        go_roundw
        case rel => exact ⟨k + 1, by go_num, by omega, NEXT.out, bnext HI.out.2 hb1⟩
        case measure => simp [intOf]; omega
    · obtain rfl : k = n := by omega
      have HE := Lib.hid (show decide ((0 : Int) ≤ -1) = d by
        rw [← HD.out, decide_eq_false (by omega)]
        refine Eq.symm (Bool.eq_false_iff.2 fun h => ?_)
        rw [List.any_eq_true] at h
        obtain ⟨x, hx, e⟩ := h
        obtain ⟨j, hj⟩ := List.getElem?_of_mem hx
        exact HI.out.1 j x (by rw [← HN.out]; exact (List.getElem?_eq_some_iff.1 hj).1) hj (by simpa using e))
      go_wp2
      go_ret
      exact ⟨_, rfl, HE.out, HI.out.2⟩
set_option maxRecDepth 100000 in
theorem hasS_c (v : Value) (L : List Sec) (hl : L.length ≤ 100000) (hL : ∀ x ∈ L, Byt x.1) (b : Nat) (nm : ByteArray) (w : World) (hb : w.cell? ⟨b, 0, none⟩ = some (.string nm)) (f : SecOut w v L) :
    Calls Tryd.prog 46 #[v, .func (.func 47) #[] #[.pointer (some ⟨b, 0, none⟩)]] w fun e w' => e = .returned (.bool (L.any fun x => x.1 == bs nm)) ∧ Below w.heap.size w w' := by
  have h := Lib.hid (indexS_c v L hl hL b nm w hb f)
  obtain ⟨A, c, rfl, hc, hx⟩ := f
  clear hx hb hL
  generalize (L.any fun x => x.1 == bs nm) = d at *
  generalize L.length = n at *
  go_enter Tryd.func46, Tryd.ntmps46
  go_wp2_with fail
  refine h.out.mono ?_; rintro _ w1 ⟨i, rfl, hi, hb1⟩
  have HI := Lib.hid hi; have HB := Lib.hid hb1
  clear hi hb1
  go_wp2
  go_ret
  exact ⟨by first | rfl | (rw [← HI.out]; rfl), HB.out⟩
/-! #### added -/
set_option maxRecDepth 100000 in
set_option maxHeartbeats 1000000 in
theorem addedS_has (A : Option Addr) (n c : Nat) (X : ByteArray)  (F : Value) (hF : ∃ b, F = .func (.func 47) #[] #[.pointer (some ⟨b, 0, none⟩)]) (w : World)
    (CF : ∀ W, Below w.heap.size w W → Calls Tryd.prog 46 #[.slice A n c, F] W fun e w' => e = .returned (.bool true) ∧ Below W.heap.size W w') :
    Calls Tryd.prog 26 #[.slice A n c, .agg #[.string X, .slice none 0 0], F] w fun e w' => e = .returned (.tuple #[.slice none 0 0, .int .i64 5]) ∧ Below w.heap.size w w' := by
  obtain ⟨b, rfl⟩ := hF
  have C1 := Lib.hid (CF _ (alloc_below w (.cells #[.string X, .slice none 0 0] 37)))
  clear CF
  go_enter Tryd.func26, Tryd.ntmps26
  go_wp2_with fail
  refine C1.out.mono ?_; rintro _ w1 ⟨rfl, hb1⟩
  go_wp2
  go_ret2
  exact ⟨rfl, bnext (alloc_below _ _) hb1⟩
set_option maxRecDepth 100000 in
set_option maxHeartbeats 1000000 in
theorem addedS_full (A : Option Addr) (n c : Nat) (hn : 16 ≤ n) (X : ByteArray)  (F : Value) (hF : ∃ b, F = .func (.func 47) #[] #[.pointer (some ⟨b, 0, none⟩)]) (w : World)
    (CF : ∀ W, Below w.heap.size w W → Calls Tryd.prog 46 #[.slice A n c, F] W fun e w' => e = .returned (.bool false) ∧ Below W.heap.size W w') :
    Calls Tryd.prog 26 #[.slice A n c, .agg #[.string X, .slice none 0 0], F] w fun e w' => e = .returned (.tuple #[.slice none 0 0, .int .i64 11]) ∧ Below w.heap.size w w' := by
  obtain ⟨b, rfl⟩ := hF
  have C1 := Lib.hid (CF _ (alloc_below w (.cells #[.string X, .slice none 0 0] 37)))
  have ni : (16 : Int) ≤ (n : Int) := by omega
  clear CF
  go_enter Tryd.func26, Tryd.ntmps26
  go_wp2_with fail
  refine C1.out.mono ?_; rintro _ w1 ⟨rfl, hb1⟩
  go_wp2
  go_ret2
  exact ⟨rfl, bnext (alloc_below _ _) hb1⟩
set_option maxRecDepth 100000 in
set_option maxHeartbeats 1000000 in
theorem addedS_room (B : Nat) (A : Option Addr) (n c : Nat) (xs : List Value) (hn : ¬ 16 ≤ n) (X : ByteArray)  (F : Value) (hF : ∃ b, F = .func (.func 47) #[] #[.pointer (some ⟨b, 0, none⟩)]) (w : World) (hB : B ≤ w.heap.size) (row : w.ownsRow B 37 2 (.slice A n c) n xs)
    (CF : ∀ W, Below w.heap.size w W → Calls Tryd.prog 46 #[.slice A n c, F] W fun e w' => e = .returned (.bool false) ∧ Below W.heap.size W w') :
    Calls Tryd.prog 26 #[.slice A n c, .agg #[.string X, .slice none 0 0], F] w fun e w' => ∃ (wa : World) (g cap : Nat), e = .returned (.tuple #[.slice (some ⟨g, 0, none⟩) (n + 1) cap, .int .i64 0]) ∧ Below w.heap.size w wa ∧ wa.grownBy w' (Value.ownBlock (.slice A n c)) ∧
      w'.ownsRow B 37 2 (.slice (some ⟨g, 0, none⟩) (n + 1) cap) (n + 1) (xs ++ [.string X, .slice none 0 0]) ∧ (Value.ownBlock (.slice A n c) = some g ∨ wa.heap.size ≤ g) := by
  obtain ⟨i0, hi0, hz0, hz1, hz2⟩ := info_parts sec_info
  obtain ⟨b, rfl⟩ := hF
  obtain ⟨wb, hwb⟩ : ∃ wb, w.alloc (.cells #[.string X, .slice none 0 0] 37) = wb := ⟨_, rfl⟩
  have hbw := alloc_below w (.cells #[.string X, .slice none 0 0] 37)
  obtain ⟨k0, k1, -, -⟩ := two_new w (.string X) (.slice none 0 0) 37
  rw [hwb] at hbw k0 k1
  have C1 := Lib.hid (CF wb hbw)
  have ni : ¬ (16 : Int) ≤ (n : Int) := by omega
  have B63 := Lib.hid (show n + 1 ≤ maxLen by simp only [maxLen]; omega)
  have B48 := Lib.hid (show (n + 1) * 40 ≤ 140737488355328 by omega)
  have ROW := Lib.hid row; have HBW := Lib.hid hbw
  clear CF hn row hbw
  go_enter Tryd.func26, Tryd.ntmps26
  go_wp2_with fail
  (try rw [hwb])
  refine C1.out.mono ?_; rintro _ w1 ⟨rfl, hb1⟩
  have e0 := cellb hb1 k0
  have e1 := cellb hb1 k1
  have hb2 := bnext HBW.out hb1
  have LOW := Lib.hid (bnext hb2 (alloc_below w1 (.cells #[.string X, .slice none 0 0] 37)))
  have ROW1 := Lib.hid (ownsRow_below2 ROW.out LOW.out)
  have NEWS := Lib.hid (two_news w1 (.string X) (.slice none 0 0) 37)
  clear k0 k1 hwb hb1 hb2
  go_wp2_with (at_builtin; refine wpList_append_lies _ rfl (.tmp 16) (.tmp 18) _ rfl B 37 i0 (.agg #[.string ⟨#[]⟩, .slice none 0 0]) 2 40 Tryd.underlying23 hi0 hz0 hz1 hz2 rfl (by decide) (.slice A n c) n xs rfl ROW1.out ⟨w1.heap.size, 0, none⟩ 1 1 [.string X, .slice none 0 0] rfl rfl NEWS.out (by simp [Value.oneCell']) (by decide) B63.out B48.out (Nat.le_trans hB LOW.out.size) (w1.heap.size + 1) (by simp) ?_; intro g9 cap9 w9 hown9 hg9 hat9 hlt9; have HO := Lib.hid hown9; have HG := Lib.hid hg9; have HAT := Lib.hid hat9; clear hown9 hg9 hat9 hlt9)
  go_ret2
  exact ⟨_, g9, cap9, rfl, LOW.out, HG.out, HO.out, HAT.out.imp id (fun e => by rw [e]; simp)⟩

theorem eg_K : ∀ args w, (callFunc 51 args).run Tryd.prog w = .ok (.enter 51 args) w := enters_of Tryd.func51 (by kernel_rfl) rfl
theorem keyed_c (nm : ByteArray) (w : World) : Calls Tryd.prog 30 #[.string nm] w fun e w' => e = .returned (.func (.func 51) #[] #[.pointer (some ⟨w.heap.size, 0, none⟩)]) ∧ w' = w.alloc (.cells #[.string nm] 9) := by
  go_enter Tryd.func30, Tryd.ntmps30
  go_wp2
  go_ret
  exact ⟨rfl, rfl⟩
set_option maxRecDepth 100000 in
theorem keyed1_c (X : ByteArray) (Y : ByteArray) (b : Nat) (nm : ByteArray) (w : World) (hb : w.cell? ⟨b, 0, none⟩ = some (.string nm)) : Calls Tryd.prog 51 #[.agg #[.string X, .string Y], .pointer (some ⟨b, 0, none⟩)] w fun e w' => e = .returned (.bool (X.toList == nm.toList)) ∧ Below w.heap.size w w' := by
  obtain ⟨wb, hwb⟩ : ∃ wb, w.alloc (.cells #[.string X, .string Y] 34) = wb := ⟨_, rfl⟩
  obtain ⟨k0, k1, -, -⟩ := two_new w (.string X) (.string Y) 34
  have hb2 := cellb (alloc_below w (.cells #[.string X, .string Y] 34)) hb
  have hbw := alloc_below w (.cells #[.string X, .string Y] 34)
  rw [hwb] at k0 k1 hb2 hbw
  go_enter Tryd.func51, Tryd.ntmps51
  go_wp2
  go_ret
  exact ⟨rfl, hbw⟩
set_option maxRecDepth 100000 in
set_option maxHeartbeats 1000000 in
theorem indexK_c (v : Value) (L : List KV) (hl : L.length ≤ 100000) (hL : ∀ x ∈ L, Byt x.1) (b : Nat) (nm : ByteArray) (w : World) (hb : w.cell? ⟨b, 0, none⟩ = some (.string nm)) (f : KvOut w v L) :
    Calls Tryd.prog 64 #[v, .func (.func 51) #[] #[.pointer (some ⟨b, 0, none⟩)]] w fun e w' => ∃ i : Int, e = .returned (.int .i64 i) ∧ decide (0 ≤ i) = (L.any fun x => x.1 == bs nm) ∧ Below w.heap.size w w' := by
  have eg := eg_K
  obtain ⟨A, c, rfl, hc, hx⟩ := f
  obtain ⟨n, hn⟩ : ∃ n, L.length = n := ⟨_, rfl⟩
  obtain ⟨d, hd⟩ : ∃ d, (L.any fun x => x.1 == bs nm) = d := ⟨_, rfl⟩
  rw [hn] at hl hc
  rw [hn, hd]
  have HX := Lib.hid hx; have HN := Lib.hid hn; have HD := Lib.hid hd; have HL := Lib.hid hL; have HB := Lib.hid hb
  clear hx hn hd hL hb
  go_enter Tryd.func64, Tryd.ntmps64
  go_wp2
  go_loopw [8] (fun i wr => ∃ k : Nat, i = .int .i64 (k : Nat) ∧ k ≤ n ∧ Hid ((∀ (j : Nat) (x : KV), j < k → L[j]? = some x → x.1 ≠ bs nm) ∧ Below w.heap.size w wr)) (fun i _ => n - (intOf i).toNat)
  case atStart => exact ⟨0, rfl, Nat.zero_le _, fun j x hj => absurd hj (Nat.not_lt_zero j), Below.refl _ _⟩
  case round =>
    obtain ⟨k, rfl, hk, HI⟩ := hrel
    by_cases hlt : k < n
    · have hkl : k < L.length := by rw [HN.out]; exact hlt
      obtain ⟨bb, rfl, ha⟩ := HX.out (by intro e; rw [e] at hkl; exact absurd hkl (Nat.not_lt_zero _))
      have hp := List.getElem?_eq_getElem hkl
      obtain ⟨x, hxx⟩ : ∃ x, L[k] = x := ⟨_, rfl⟩
      rw [hxx] at hp
      obtain ⟨c0, c1⟩ := (ha.below HI.out.2) k x hp
      have hbyt := HL.out x (List.mem_of_getElem? hp)
      have hcmp := toList_str hbyt nm
      have CL := Lib.hid (keyed1_c (str x.1) (str x.2) b nm wr (cellb HI.out.2 HB.out))
      rw [hcmp] at CL
      have HP := Lib.hid hp
      by_cases he : x.1 = bs nm
      · rw [decide_eq_true he] at CL
        have HE := Lib.hid (show decide (0 ≤ (k : Int)) = d by
          rw [← HD.out, decide_eq_true (by omega)]
          exact (List.any_eq_true.2 ⟨x, List.mem_of_getElem? HP.out, by simpa using he⟩).symm)
        generalize str x.1 = X at *
        generalize str x.2 = Y at *
        clear hp hxx hbyt ha he hkl hcmp
        go_wp2_with (go_at_fn 51; refine (CL.out).mono ?_; rintro e w' ⟨rfl, hb1⟩)
        go_ret
        exact ⟨_, rfl, HE.out, bnext HI.out.2 hb1⟩
      · rw [decide_eq_false he] at CL
        have NEXT := Lib.hid (show ∀ (j : Nat) (y : KV), j < k + 1 → L[j]? = some y → y.1 ≠ bs nm from fun j y hj hy => by
          by_cases e : j = k
          · rw [e, HP.out] at hy
            obtain rfl := Option.some.inj hy
            exact he
          · exact HI.out.1 j y (by omega) hy)
        generalize str x.1 = X at *
        generalize str x.2 = Y at *
        clear hp hxx hbyt ha he hkl hcmp
        go_wp2_with (go_at_fn 51; refine (CL.out).mono ?_; rintro e w' ⟨rfl, hb1⟩)
        go_roundw
        case rel => exact ⟨k + 1, by go_num, by omega, NEXT.out, bnext HI.out.2 hb1⟩
        case measure => simp [intOf]; omega
    · obtain rfl : k = n := by omega
      have HE := Lib.hid (show decide ((0 : Int) ≤ -1) = d by
        rw [← HD.out, decide_eq_false (by omega)]
        refine Eq.symm (Bool.eq_false_iff.2 fun h => ?_)
        rw [List.any_eq_true] at h
        obtain ⟨x, hx, e⟩ := h
        obtain ⟨j, hj⟩ := List.getElem?_of_mem hx
        exact HI.out.1 j x (by rw [← HN.out]; exact (List.getElem?_eq_some_iff.1 hj).1) hj (by simpa using e))
      go_wp2
      go_ret
      exact ⟨_, rfl, HE.out, HI.out.2⟩
set_option maxRecDepth 100000 in
theorem hasK_c (v : Value) (L : List KV) (hl : L.length ≤ 100000) (hL : ∀ x ∈ L, Byt x.1) (b : Nat) (nm : ByteArray) (w : World) (hb : w.cell? ⟨b, 0, none⟩ = some (.string nm)) (f : KvOut w v L) :
    Calls Tryd.prog 50 #[v, .func (.func 51) #[] #[.pointer (some ⟨b, 0, none⟩)]] w fun e w' => e = .returned (.bool (L.any fun x => x.1 == bs nm)) ∧ Below w.heap.size w w' := by
  have h := Lib.hid (indexK_c v L hl hL b nm w hb f)
  obtain ⟨A, c, rfl, hc, hx⟩ := f
  clear hx hb hL
  generalize (L.any fun x => x.1 == bs nm) = d at *
  generalize L.length = n at *
  go_enter Tryd.func50, Tryd.ntmps50
  go_wp2_with fail
  refine h.out.mono ?_; rintro _ w1 ⟨i, rfl, hi, hb1⟩
  have HI := Lib.hid hi; have HB := Lib.hid hb1
  clear hi hb1
  go_wp2
  go_ret
  exact ⟨by first | rfl | (rw [← HI.out]; rfl), HB.out⟩
/-! #### added -/
set_option maxRecDepth 100000 in
set_option maxHeartbeats 1000000 in
theorem addedK_has (A : Option Addr) (n c : Nat) (X : ByteArray) (Y : ByteArray) (F : Value) (hF : ∃ b, F = .func (.func 51) #[] #[.pointer (some ⟨b, 0, none⟩)]) (w : World)
    (CF : ∀ W, Below w.heap.size w W → Calls Tryd.prog 50 #[.slice A n c, F] W fun e w' => e = .returned (.bool true) ∧ Below W.heap.size W w') :
    Calls Tryd.prog 29 #[.slice A n c, .agg #[.string X, .string Y], F] w fun e w' => e = .returned (.tuple #[.slice none 0 0, .int .i64 5]) ∧ Below w.heap.size w w' := by
  obtain ⟨b, rfl⟩ := hF
  have C1 := Lib.hid (CF _ (alloc_below w (.cells #[.string X, .string Y] 34)))
  clear CF
  go_enter Tryd.func29, Tryd.ntmps29
  go_wp2_with fail
  refine C1.out.mono ?_; rintro _ w1 ⟨rfl, hb1⟩
  go_wp2
  go_ret2
  exact ⟨rfl, bnext (alloc_below _ _) hb1⟩
set_option maxRecDepth 100000 in
set_option maxHeartbeats 1000000 in
theorem addedK_full (A : Option Addr) (n c : Nat) (hn : 16 ≤ n) (X : ByteArray) (Y : ByteArray) (F : Value) (hF : ∃ b, F = .func (.func 51) #[] #[.pointer (some ⟨b, 0, none⟩)]) (w : World)
    (CF : ∀ W, Below w.heap.size w W → Calls Tryd.prog 50 #[.slice A n c, F] W fun e w' => e = .returned (.bool false) ∧ Below W.heap.size W w') :
    Calls Tryd.prog 29 #[.slice A n c, .agg #[.string X, .string Y], F] w fun e w' => e = .returned (.tuple #[.slice none 0 0, .int .i64 11]) ∧ Below w.heap.size w w' := by
  obtain ⟨b, rfl⟩ := hF
  have C1 := Lib.hid (CF _ (alloc_below w (.cells #[.string X, .string Y] 34)))
  have ni : (16 : Int) ≤ (n : Int) := by omega
  clear CF
  go_enter Tryd.func29, Tryd.ntmps29
  go_wp2_with fail
  refine C1.out.mono ?_; rintro _ w1 ⟨rfl, hb1⟩
  go_wp2
  go_ret2
  exact ⟨rfl, bnext (alloc_below _ _) hb1⟩
set_option maxRecDepth 100000 in
set_option maxHeartbeats 1000000 in
theorem addedK_room (B : Nat) (A : Option Addr) (n c : Nat) (xs : List Value) (hn : ¬ 16 ≤ n) (X : ByteArray) (Y : ByteArray) (F : Value) (hF : ∃ b, F = .func (.func 51) #[] #[.pointer (some ⟨b, 0, none⟩)]) (w : World) (hB : B ≤ w.heap.size) (row : w.ownsRow B 34 2 (.slice A n c) n xs)
    (CF : ∀ W, Below w.heap.size w W → Calls Tryd.prog 50 #[.slice A n c, F] W fun e w' => e = .returned (.bool false) ∧ Below W.heap.size W w') :
    Calls Tryd.prog 29 #[.slice A n c, .agg #[.string X, .string Y], F] w fun e w' => ∃ (wa : World) (g cap : Nat), e = .returned (.tuple #[.slice (some ⟨g, 0, none⟩) (n + 1) cap, .int .i64 0]) ∧ Below w.heap.size w wa ∧ wa.grownBy w' (Value.ownBlock (.slice A n c)) ∧
      w'.ownsRow B 34 2 (.slice (some ⟨g, 0, none⟩) (n + 1) cap) (n + 1) (xs ++ [.string X, .string Y]) ∧ (Value.ownBlock (.slice A n c) = some g ∨ wa.heap.size ≤ g) := by
  obtain ⟨i0, hi0, hz0, hz1, hz2⟩ := info_parts pair_info
  obtain ⟨b, rfl⟩ := hF
  obtain ⟨wb, hwb⟩ : ∃ wb, w.alloc (.cells #[.string X, .string Y] 34) = wb := ⟨_, rfl⟩
  have hbw := alloc_below w (.cells #[.string X, .string Y] 34)
  obtain ⟨k0, k1, -, -⟩ := two_new w (.string X) (.string Y) 34
  rw [hwb] at hbw k0 k1
  have C1 := Lib.hid (CF wb hbw)
  have ni : ¬ (16 : Int) ≤ (n : Int) := by omega
  have B63 := Lib.hid (show n + 1 ≤ maxLen by simp only [maxLen]; omega)
  have B48 := Lib.hid (show (n + 1) * 32 ≤ 140737488355328 by omega)
  have ROW := Lib.hid row; have HBW := Lib.hid hbw
  clear CF hn row hbw
  go_enter Tryd.func29, Tryd.ntmps29
  go_wp2_with fail
  (try rw [hwb])
  refine C1.out.mono ?_; rintro _ w1 ⟨rfl, hb1⟩
  have e0 := cellb hb1 k0
  have e1 := cellb hb1 k1
  have hb2 := bnext HBW.out hb1
  have LOW := Lib.hid (bnext hb2 (alloc_below w1 (.cells #[.string X, .string Y] 34)))
  have ROW1 := Lib.hid (ownsRow_below2 ROW.out LOW.out)
  have NEWS := Lib.hid (two_news w1 (.string X) (.string Y) 34)
  clear k0 k1 hwb hb1 hb2
  go_wp2_with (at_builtin; refine wpList_append_lies _ rfl (.tmp 16) (.tmp 18) _ rfl B 34 i0 (.agg #[.string ⟨#[]⟩, .string ⟨#[]⟩]) 2 32 Tryd.underlying35 hi0 hz0 hz1 hz2 rfl (by decide) (.slice A n c) n xs rfl ROW1.out ⟨w1.heap.size, 0, none⟩ 1 1 [.string X, .string Y] rfl rfl NEWS.out (by simp [Value.oneCell']) (by decide) B63.out B48.out (Nat.le_trans hB LOW.out.size) (w1.heap.size + 1) (by simp) ?_; intro g9 cap9 w9 hown9 hg9 hat9 hlt9; have HO := Lib.hid hown9; have HG := Lib.hid hg9; have HAT := Lib.hid hat9; clear hown9 hg9 hat9 hlt9)
  go_ret2
  exact ⟨_, g9, cap9, rfl, LOW.out, HG.out, HO.out, HAT.out.imp id (fun e => by rw [e]; simp)⟩
end Go.Proofs.YtgdjmbekamdlgaaDoor.KP
