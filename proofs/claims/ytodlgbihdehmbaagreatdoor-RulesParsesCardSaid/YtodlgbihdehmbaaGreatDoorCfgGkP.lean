/-
  Contracts of the program's functions of layer 11: what is told by a name, or a key; one more in a list.
-/
import Derived.Test.YtodlgbihdehmbaaGreatDoorCfgLibP
import Derived.Test.YtodlgbihdehmbaaGreatDoorCfgREP
import Derived.Fence
import Derived.Test.YtodlgbihdehmbaaGreatDoorCfgTrP
import Derived.Deep.RegionHeld3
set_option linter.unusedSimpArgs false
set_option linter.unusedVariables false
namespace Go.Proofs.YtodlgbihdehmbaaGreatDoor.Cf.KP
open Go.RowKit KR
theorem ownsRow_below2 {B n : Nat} {e : TypeId} {size : Nat} {w w' : World} {v : Value} {xs : List Value} (h : w.ownsRow B e size v n xs) (hb : Below w.heap.size w w') : w'.ownsRow B e size v n xs := own_keep h fun g _ hl _ => hb.block g hl

theorem eg_S : ∀ args w, (callFunc 130 args).run Tryz.prog w = .ok (.enter 130 args) w := enters_of Tryz.func130 (by kernel_rfl) rfl
theorem named_c (nm : ByteArray) (w : World) : Calls Tryz.prog 99 #[.string nm] w fun e w' => e = .returned (.func (.func 130) #[] #[.pointer (some ⟨w.heap.size, 0, none⟩)]) ∧ w' = w.alloc (.cells #[.string nm] 9) := by
  go_enter Tryz.func99, Tryz.ntmps99
  go_wp2
  go_ret
  exact ⟨rfl, rfl⟩
set_option maxRecDepth 100000 in
theorem named1_c (X : ByteArray) (A : Option Addr) (n c : Nat) (b : Nat) (nm : ByteArray) (w : World) (hb : w.cell? ⟨b, 0, none⟩ = some (.string nm)) : Calls Tryz.prog 130 #[.agg #[.string X, .slice A n c], .pointer (some ⟨b, 0, none⟩)] w fun e w' => e = .returned (.bool (X.toList == nm.toList)) ∧ Below w.heap.size w w' := by
  obtain ⟨wb, hwb⟩ : ∃ wb, w.alloc (.cells #[.string X, .slice A n c] 63) = wb := ⟨_, rfl⟩
  obtain ⟨k0, k1, -, -⟩ := two_new w (.string X) (.slice A n c) 63
  have hb2 := cellb (alloc_below w (.cells #[.string X, .slice A n c] 63)) hb
  have hbw := alloc_below w (.cells #[.string X, .slice A n c] 63)
  rw [hwb] at k0 k1 hb2 hbw
  go_enter Tryz.func130, Tryz.ntmps130
  go_wp2
  go_ret
  exact ⟨rfl, hbw⟩
set_option maxRecDepth 100000 in
set_option maxHeartbeats 1000000 in
theorem indexS_c (v : Value) (L : List Sec) (hl : L.length ≤ 100000) (hL : ∀ x ∈ L, Byt x.1) (b : Nat) (nm : ByteArray) (w : World) (hb : w.cell? ⟨b, 0, none⟩ = some (.string nm)) (f : SecOut w v L) :
    Calls Tryz.prog 160 #[v, .func (.func 130) #[] #[.pointer (some ⟨b, 0, none⟩)]] w fun e w' => ∃ i : Int, e = .returned (.int .i64 i) ∧ decide (0 ≤ i) = (L.any fun x => x.1 == bs nm) ∧ Below w.heap.size w w' := by
  have eg := eg_S
  obtain ⟨A, c, rfl, hc, hx⟩ := f
  obtain ⟨n, hn⟩ : ∃ n, L.length = n := ⟨_, rfl⟩
  obtain ⟨d, hd⟩ : ∃ d, (L.any fun x => x.1 == bs nm) = d := ⟨_, rfl⟩
  rw [hn] at hl hc
  rw [hn, hd]
  have HX := Lib.hid hx; have HN := Lib.hid hn; have HD := Lib.hid hd; have HL := Lib.hid hL; have HB := Lib.hid hb
  clear hx hn hd hL hb
  go_enter Tryz.func160, Tryz.ntmps160
  go_wp2
  go_loopw [8] (fun i wr => ∃ k : Nat, i = .int .i64 (k : Nat) ∧ k ≤ n ∧ Hid ((∀ (j : Nat) (x : Sec), j < k → L[j]? = some x → x.1 ≠ bs nm) ∧ Below w.heap.size w wr)) (fun i _ => n - (intOf i).toNat)
  case atStart => exact ⟨0, rfl, Nat.zero_le _, fun j x hj => absurd hj (Nat.not_lt_zero j), Below.refl _ _⟩
  case round =>
    obtain ⟨k, rfl, hk, HI⟩ := hrel
    by_cases hlt : k < n
    · have hkl : k < L.length := by rw [HN.out]; exact hlt
      obtain ⟨bb, rfl, ha⟩ := HX.out (by intro e; rw [e] at hkl; exact absurd hkl (Nat.not_lt_zero _))
      have hp := List.getElem?_eq_getElem hkl
      obtain ⟨x, hxx⟩ : ∃ x, L[k] = x := ⟨_, rfl⟩
      rw [hxx] at hp
      obtain ⟨u, c0, cc1, zz⟩ := (ha.below HI.out.2) k x hp
      obtain ⟨A1, c1, hu, _, _⟩ := zz
      obtain ⟨n1, hn1⟩ : ∃ n1, x.2.length = n1 := ⟨_, rfl⟩
      rw [hn1] at hu
      subst hu
      clear hn1
      have hbyt := HL.out x (List.mem_of_getElem? hp)
      have hcmp := toList_str hbyt nm
      have CL := Lib.hid (named1_c (str x.1) A1 n1 c1 b nm wr (cellb HI.out.2 HB.out))
      rw [hcmp] at CL
      have HP := Lib.hid hp
      by_cases he : x.1 = bs nm
      · rw [decide_eq_true he] at CL
        have HE := Lib.hid (show decide (0 ≤ (k : Int)) = d by
          rw [← HD.out, decide_eq_true (by omega)]
          exact (List.any_eq_true.2 ⟨x, List.mem_of_getElem? HP.out, by simpa using he⟩).symm)
        generalize str x.1 = X at *
        
        clear hp hxx hbyt ha he hkl hcmp
        go_wp2_with (go_at_fn 130; refine (CL.out).mono ?_; rintro e w' ⟨rfl, hb1⟩)
        go_ret
        exact ⟨_, rfl, HE.out, bnext HI.out.2 hb1⟩
      · rw [decide_eq_false he] at CL
        have NEXT := Lib.hid (show ∀ (j : Nat) (y : Sec), j < k + 1 → L[j]? = some y → y.1 ≠ bs nm from fun j y hj hy => by
          by_cases e : j = k
          · rw [e, HP.out] at hy
            obtain rfl := Option.some.inj hy
            exact he
          · exact HI.out.1 j y (by omega) hy)
        generalize str x.1 = X at *
        
        clear hp hxx hbyt ha he hkl hcmp
        go_wp2_with (go_at_fn 130; refine (CL.out).mono ?_; rintro e w' ⟨rfl, hb1⟩)
        go_roundw
        case rel => exact ⟨k + 1, by go_num, by omega, NEXT.out, bnext HI.out.2 hb1⟩
        case measure => simp [intOf]; omega
    · obtain rfl : k = n := by omega
      have HE := Lib.hid (show decide ((0 : Int) ≤ -1) = d by
        rw [← HD.out, decide_eq_false (by omega)]
        refine Eq.symm (Bool.eq_false_iff.2 fun h => ?_)
        rw [List.any_eq_true] at h
        obtain ⟨x, hx, e⟩ := h
        obtain ⟨j, hj⟩ := List.getElem?_of_mem hx
        exact HI.out.1 j x (by rw [← HN.out]; exact (List.getElem?_eq_some_iff.1 hj).1) hj (by simpa using e))
      go_wp2
      go_ret
      exact ⟨_, rfl, HE.out, HI.out.2⟩
set_option maxRecDepth 100000 in
theorem hasS_c (v : Value) (L : List Sec) (hl : L.length ≤ 100000) (hL : ∀ x ∈ L, Byt x.1) (b : Nat) (nm : ByteArray) (w : World) (hb : w.cell? ⟨b, 0, none⟩ = some (.string nm)) (f : SecOut w v L) :
    Calls Tryz.prog 129 #[v, .func (.func 130) #[] #[.pointer (some ⟨b, 0, none⟩)]] w fun e w' => e = .returned (.bool (L.any fun x => x.1 == bs nm)) ∧ Below w.heap.size w w' := by
  have h := Lib.hid (indexS_c v L hl hL b nm w hb f)
  obtain ⟨A, c, rfl, hc, hx⟩ := f
  clear hx hb hL
  generalize (L.any fun x => x.1 == bs nm) = d at *
  generalize L.length = n at *
  go_enter Tryz.func129, Tryz.ntmps129
  go_wp2_with fail
  refine h.out.mono ?_; rintro _ w1 ⟨i, rfl, hi, hb1⟩
  have HI := Lib.hid hi; have HB := Lib.hid hb1
  clear hi hb1
  go_wp2
  go_ret
  exact ⟨by first | rfl | (rw [← HI.out]; rfl), HB.out⟩
set_option maxRecDepth 100000 in
set_option maxHeartbeats 1000000 in
theorem addedS_has (A : Option Addr) (n c : Nat) (X : ByteArray)  (F : Value) (hF : ∃ b, F = .func (.func 130) #[] #[.pointer (some ⟨b, 0, none⟩)]) (w : World)
    (CF : ∀ W, Below w.heap.size w W → Calls Tryz.prog 129 #[.slice A n c, F] W fun e w' => e = .returned (.bool true) ∧ Below W.heap.size W w') :
    Calls Tryz.prog 98 #[.slice A n c, .agg #[.string X, .slice none 0 0], F] w fun e w' => e = .returned (.tuple #[.slice none 0 0, .int .i64 5]) ∧ Below w.heap.size w w' := by
  obtain ⟨b, rfl⟩ := hF
  have C1 := Lib.hid (CF _ (alloc_below w (.cells #[.string X, .slice none 0 0] 63)))
  clear CF
  go_enter Tryz.func98, Tryz.ntmps98
  go_wp2_with fail
  refine C1.out.mono ?_; rintro _ w1 ⟨rfl, hb1⟩
  go_wp2
  go_ret2
  exact ⟨rfl, bnext (alloc_below _ _) hb1⟩
set_option maxRecDepth 100000 in
set_option maxHeartbeats 1000000 in
theorem addedS_full (A : Option Addr) (n c : Nat) (hn : 16 ≤ n) (X : ByteArray)  (F : Value) (hF : ∃ b, F = .func (.func 130) #[] #[.pointer (some ⟨b, 0, none⟩)]) (w : World)
    (CF : ∀ W, Below w.heap.size w W → Calls Tryz.prog 129 #[.slice A n c, F] W fun e w' => e = .returned (.bool false) ∧ Below W.heap.size W w') :
    Calls Tryz.prog 98 #[.slice A n c, .agg #[.string X, .slice none 0 0], F] w fun e w' => e = .returned (.tuple #[.slice none 0 0, .int .i64 11]) ∧ Below w.heap.size w w' := by
  obtain ⟨b, rfl⟩ := hF
  have C1 := Lib.hid (CF _ (alloc_below w (.cells #[.string X, .slice none 0 0] 63)))
  have ni : (16 : Int) ≤ (n : Int) := by omega
  clear CF
  go_enter Tryz.func98, Tryz.ntmps98
  go_wp2_with fail
  refine C1.out.mono ?_; rintro _ w1 ⟨rfl, hb1⟩
  go_wp2
  go_ret2
  exact ⟨rfl, bnext (alloc_below _ _) hb1⟩
set_option maxRecDepth 100000 in
set_option maxHeartbeats 1000000 in
theorem addedS_room (B : Nat) (A : Option Addr) (n c : Nat) (xs : List Value) (hn : ¬ 16 ≤ n) (X : ByteArray)  (F : Value) (hF : ∃ b, F = .func (.func 130) #[] #[.pointer (some ⟨b, 0, none⟩)]) (w : World) (hB : B ≤ w.heap.size) (row : w.ownsRow B 63 2 (.slice A n c) n xs)
    (CF : ∀ W, Below w.heap.size w W → Calls Tryz.prog 129 #[.slice A n c, F] W fun e w' => e = .returned (.bool false) ∧ Below W.heap.size W w') :
    Calls Tryz.prog 98 #[.slice A n c, .agg #[.string X, .slice none 0 0], F] w fun e w' => ∃ (wa : World) (g cap : Nat), e = .returned (.tuple #[.slice (some ⟨g, 0, none⟩) (n + 1) cap, .int .i64 0]) ∧ Below w.heap.size w wa ∧ wa.grownBy w' (Value.ownBlock (.slice A n c)) ∧
      w'.ownsRow B 63 2 (.slice (some ⟨g, 0, none⟩) (n + 1) cap) (n + 1) (xs ++ [.string X, .slice none 0 0]) ∧ (Value.ownBlock (.slice A n c) = some g ∨ wa.heap.size ≤ g) := by
  obtain ⟨i0, hi0, hz0, hz1, hz2⟩ := info_parts sec_info
  obtain ⟨b, rfl⟩ := hF
  obtain ⟨wb, hwb⟩ : ∃ wb, w.alloc (.cells #[.string X, .slice none 0 0] 63) = wb := ⟨_, rfl⟩
  have hbw := alloc_below w (.cells #[.string X, .slice none 0 0] 63)
  obtain ⟨k0, k1, -, -⟩ := two_new w (.string X) (.slice none 0 0) 63
  rw [hwb] at hbw k0 k1
  have C1 := Lib.hid (CF wb hbw)
  have ni : ¬ (16 : Int) ≤ (n : Int) := by omega
  have B63 := Lib.hid (show n + 1 ≤ maxLen by simp only [maxLen]; omega)
  have B48 := Lib.hid (show (n + 1) * 40 ≤ 140737488355328 by omega)
  have ROW := Lib.hid row; have HBW := Lib.hid hbw
  clear CF hn row hbw
  go_enter Tryz.func98, Tryz.ntmps98
  go_wp2_with fail
  (try rw [hwb])
  refine C1.out.mono ?_; rintro _ w1 ⟨rfl, hb1⟩
  have e0 := cellb hb1 k0
  have e1 := cellb hb1 k1
  have hb2 := bnext HBW.out hb1
  have LOW := Lib.hid (bnext hb2 (alloc_below w1 (.cells #[.string X, .slice none 0 0] 63)))
  have ROW1 := Lib.hid (ownsRow_below2 ROW.out LOW.out)
  have NEWS := Lib.hid (two_news w1 (.string X) (.slice none 0 0) 63)
  clear k0 k1 hwb hb1 hb2
  go_wp2_with (at_builtin; refine wpList_append_lies _ rfl (.tmp 16) (.tmp 18) _ rfl B 63 i0 (.agg #[.string ⟨#[]⟩, .slice none 0 0]) 2 40 Tryz.underlying56 hi0 hz0 hz1 hz2 rfl (by decide) (.slice A n c) n xs rfl ROW1.out ⟨w1.heap.size, 0, none⟩ 1 1 [.string X, .slice none 0 0] rfl rfl NEWS.out (by simp [Value.oneCell']) (by decide) B63.out B48.out (Nat.le_trans hB LOW.out.size) (w1.heap.size + 1) (by simp) ?_; intro g9 cap9 w9 hown9 hg9 hat9 hlt9; have HO := Lib.hid hown9; have HG := Lib.hid hg9; have HAT := Lib.hid hat9; clear hown9 hg9 hat9 hlt9)
  go_ret2
  exact ⟨_, g9, cap9, rfl, LOW.out, HG.out, HO.out, HAT.out.imp id (fun e => by rw [e]; simp)⟩

theorem eg_K : ∀ args w, (callFunc 103 args).run Tryz.prog w = .ok (.enter 103 args) w := enters_of Tryz.func103 (by kernel_rfl) rfl
theorem keyed_c (nm : ByteArray) (w : World) : Calls Tryz.prog 75 #[.string nm] w fun e w' => e = .returned (.func (.func 103) #[] #[.pointer (some ⟨w.heap.size, 0, none⟩)]) ∧ w' = w.alloc (.cells #[.string nm] 9) := by
  go_enter Tryz.func75, Tryz.ntmps75
  go_wp2
  go_ret
  exact ⟨rfl, rfl⟩
set_option maxRecDepth 100000 in
theorem keyed1_c (X : ByteArray) (Y : ByteArray) (b : Nat) (nm : ByteArray) (w : World) (hb : w.cell? ⟨b, 0, none⟩ = some (.string nm)) : Calls Tryz.prog 103 #[.agg #[.string X, .string Y], .pointer (some ⟨b, 0, none⟩)] w fun e w' => e = .returned (.bool (X.toList == nm.toList)) ∧ Below w.heap.size w w' := by
  obtain ⟨wb, hwb⟩ : ∃ wb, w.alloc (.cells #[.string X, .string Y] 97) = wb := ⟨_, rfl⟩
  obtain ⟨k0, k1, -, -⟩ := two_new w (.string X) (.string Y) 97
  have hb2 := cellb (alloc_below w (.cells #[.string X, .string Y] 97)) hb
  have hbw := alloc_below w (.cells #[.string X, .string Y] 97)
  rw [hwb] at k0 k1 hb2 hbw
  go_enter Tryz.func103, Tryz.ntmps103
  go_wp2
  go_ret
  exact ⟨rfl, hbw⟩
set_option maxRecDepth 100000 in
set_option maxHeartbeats 1000000 in
theorem indexK_c (v : Value) (L : List KV) (hl : L.length ≤ 100000) (hL : ∀ x ∈ L, Byt x.1) (b : Nat) (nm : ByteArray) (w : World) (hb : w.cell? ⟨b, 0, none⟩ = some (.string nm)) (f : KvOut w v L) :
    Calls Tryz.prog 74 #[v, .func (.func 103) #[] #[.pointer (some ⟨b, 0, none⟩)]] w fun e w' => ∃ i : Int, e = .returned (.int .i64 i) ∧ decide (0 ≤ i) = (L.any fun x => x.1 == bs nm) ∧ Below w.heap.size w w' := by
  have eg := eg_K
  obtain ⟨A, c, rfl, hc, hx⟩ := f
  obtain ⟨n, hn⟩ : ∃ n, L.length = n := ⟨_, rfl⟩
  obtain ⟨d, hd⟩ : ∃ d, (L.any fun x => x.1 == bs nm) = d := ⟨_, rfl⟩
  rw [hn] at hl hc
  rw [hn, hd]
  have HX := Lib.hid hx; have HN := Lib.hid hn; have HD := Lib.hid hd; have HL := Lib.hid hL; have HB := Lib.hid hb
  clear hx hn hd hL hb
  go_enter Tryz.func74, Tryz.ntmps74
  go_wp2
  go_loopw [8] (fun i wr => ∃ k : Nat, i = .int .i64 (k : Nat) ∧ k ≤ n ∧ Hid ((∀ (j : Nat) (x : KV), j < k → L[j]? = some x → x.1 ≠ bs nm) ∧ Below w.heap.size w wr)) (fun i _ => n - (intOf i).toNat)
  case atStart => exact ⟨0, rfl, Nat.zero_le _, fun j x hj => absurd hj (Nat.not_lt_zero j), Below.refl _ _⟩
  case round =>
    obtain ⟨k, rfl, hk, HI⟩ := hrel
    by_cases hlt : k < n
    · have hkl : k < L.length := by rw [HN.out]; exact hlt
      obtain ⟨bb, rfl, ha⟩ := HX.out (by intro e; rw [e] at hkl; exact absurd hkl (Nat.not_lt_zero _))
      have hp := List.getElem?_eq_getElem hkl
      obtain ⟨x, hxx⟩ : ∃ x, L[k] = x := ⟨_, rfl⟩
      rw [hxx] at hp
      obtain ⟨c0, c1⟩ := (ha.below HI.out.2) k x hp
      have hbyt := HL.out x (List.mem_of_getElem? hp)
      have hcmp := toList_str hbyt nm
      have CL := Lib.hid (keyed1_c (str x.1) (str x.2) b nm wr (cellb HI.out.2 HB.out))
      rw [hcmp] at CL
      have HP := Lib.hid hp
      by_cases he : x.1 = bs nm
      · rw [decide_eq_true he] at CL
        have HE := Lib.hid (show decide (0 ≤ (k : Int)) = d by
          rw [← HD.out, decide_eq_true (by omega)]
          exact (List.any_eq_true.2 ⟨x, List.mem_of_getElem? HP.out, by simpa using he⟩).symm)
        generalize str x.1 = X at *
        generalize str x.2 = Y at *
        clear hp hxx hbyt ha he hkl hcmp
        go_wp2_with (go_at_fn 103; refine (CL.out).mono ?_; rintro e w' ⟨rfl, hb1⟩)
        go_ret
        exact ⟨_, rfl, HE.out, bnext HI.out.2 hb1⟩
      · rw [decide_eq_false he] at CL
        have NEXT := Lib.hid (show ∀ (j : Nat) (y : KV), j < k + 1 → L[j]? = some y → y.1 ≠ bs nm from fun j y hj hy => by
          by_cases e : j = k
          · rw [e, HP.out] at hy
            obtain rfl := Option.some.inj hy
            exact he
          · exact HI.out.1 j y (by omega) hy)
        generalize str x.1 = X at *
        generalize str x.2 = Y at *
        clear hp hxx hbyt ha he hkl hcmp
        go_wp2_with (go_at_fn 103; refine (CL.out).mono ?_; rintro e w' ⟨rfl, hb1⟩)
        go_roundw
        case rel => exact ⟨k + 1, by go_num, by omega, NEXT.out, bnext HI.out.2 hb1⟩
        case measure => simp [intOf]; omega
    · obtain rfl : k = n := by omega
      have HE := Lib.hid (show decide ((0 : Int) ≤ -1) = d by
        rw [← HD.out, decide_eq_false (by omega)]
        refine Eq.symm (Bool.eq_false_iff.2 fun h => ?_)
        rw [List.any_eq_true] at h
        obtain ⟨x, hx, e⟩ := h
        obtain ⟨j, hj⟩ := List.getElem?_of_mem hx
        exact HI.out.1 j x (by rw [← HN.out]; exact (List.getElem?_eq_some_iff.1 hj).1) hj (by simpa using e))
      go_wp2
      go_ret
      exact ⟨_, rfl, HE.out, HI.out.2⟩
set_option maxRecDepth 100000 in
theorem hasK_c (v : Value) (L : List KV) (hl : L.length ≤ 100000) (hL : ∀ x ∈ L, Byt x.1) (b : Nat) (nm : ByteArray) (w : World) (hb : w.cell? ⟨b, 0, none⟩ = some (.string nm)) (f : KvOut w v L) :
    Calls Tryz.prog 132 #[v, .func (.func 103) #[] #[.pointer (some ⟨b, 0, none⟩)]] w fun e w' => e = .returned (.bool (L.any fun x => x.1 == bs nm)) ∧ Below w.heap.size w w' := by
  have h := Lib.hid (indexK_c v L hl hL b nm w hb f)
  obtain ⟨A, c, rfl, hc, hx⟩ := f
  clear hx hb hL
  generalize (L.any fun x => x.1 == bs nm) = d at *
  generalize L.length = n at *
  go_enter Tryz.func132, Tryz.ntmps132
  go_wp2_with fail
  refine h.out.mono ?_; rintro _ w1 ⟨i, rfl, hi, hb1⟩
  have HI := Lib.hid hi; have HB := Lib.hid hb1
  clear hi hb1
  go_wp2
  go_ret
  exact ⟨by first | rfl | (rw [← HI.out]; rfl), HB.out⟩
set_option maxRecDepth 100000 in
set_option maxHeartbeats 1000000 in
theorem addedK_has (A : Option Addr) (n c : Nat) (X : ByteArray) (Y : ByteArray) (F : Value) (hF : ∃ b, F = .func (.func 103) #[] #[.pointer (some ⟨b, 0, none⟩)]) (w : World)
    (CF : ∀ W, Below w.heap.size w W → Calls Tryz.prog 132 #[.slice A n c, F] W fun e w' => e = .returned (.bool true) ∧ Below W.heap.size W w') :
    Calls Tryz.prog 101 #[.slice A n c, .agg #[.string X, .string Y], F] w fun e w' => e = .returned (.tuple #[.slice none 0 0, .int .i64 5]) ∧ Below w.heap.size w w' := by
  obtain ⟨b, rfl⟩ := hF
  have C1 := Lib.hid (CF _ (alloc_below w (.cells #[.string X, .string Y] 97)))
  clear CF
  go_enter Tryz.func101, Tryz.ntmps101
  go_wp2_with fail
  refine C1.out.mono ?_; rintro _ w1 ⟨rfl, hb1⟩
  go_wp2
  go_ret2
  exact ⟨rfl, bnext (alloc_below _ _) hb1⟩
set_option maxRecDepth 100000 in
set_option maxHeartbeats 1000000 in
theorem addedK_full (A : Option Addr) (n c : Nat) (hn : 16 ≤ n) (X : ByteArray) (Y : ByteArray) (F : Value) (hF : ∃ b, F = .func (.func 103) #[] #[.pointer (some ⟨b, 0, none⟩)]) (w : World)
    (CF : ∀ W, Below w.heap.size w W → Calls Tryz.prog 132 #[.slice A n c, F] W fun e w' => e = .returned (.bool false) ∧ Below W.heap.size W w') :
    Calls Tryz.prog 101 #[.slice A n c, .agg #[.string X, .string Y], F] w fun e w' => e = .returned (.tuple #[.slice none 0 0, .int .i64 11]) ∧ Below w.heap.size w w' := by
  obtain ⟨b, rfl⟩ := hF
  have C1 := Lib.hid (CF _ (alloc_below w (.cells #[.string X, .string Y] 97)))
  have ni : (16 : Int) ≤ (n : Int) := by omega
  clear CF
  go_enter Tryz.func101, Tryz.ntmps101
  go_wp2_with fail
  refine C1.out.mono ?_; rintro _ w1 ⟨rfl, hb1⟩
  go_wp2
  go_ret2
  exact ⟨rfl, bnext (alloc_below _ _) hb1⟩
set_option maxRecDepth 100000 in
set_option maxHeartbeats 1000000 in
theorem addedK_room (B : Nat) (A : Option Addr) (n c : Nat) (xs : List Value) (hn : ¬ 16 ≤ n) (X : ByteArray) (Y : ByteArray) (F : Value) (hF : ∃ b, F = .func (.func 103) #[] #[.pointer (some ⟨b, 0, none⟩)]) (w : World) (hB : B ≤ w.heap.size) (row : w.ownsRow B 97 2 (.slice A n c) n xs)
    (CF : ∀ W, Below w.heap.size w W → Calls Tryz.prog 132 #[.slice A n c, F] W fun e w' => e = .returned (.bool false) ∧ Below W.heap.size W w') :
    Calls Tryz.prog 101 #[.slice A n c, .agg #[.string X, .string Y], F] w fun e w' => ∃ (wa : World) (g cap : Nat), e = .returned (.tuple #[.slice (some ⟨g, 0, none⟩) (n + 1) cap, .int .i64 0]) ∧ Below w.heap.size w wa ∧ wa.grownBy w' (Value.ownBlock (.slice A n c)) ∧
      w'.ownsRow B 97 2 (.slice (some ⟨g, 0, none⟩) (n + 1) cap) (n + 1) (xs ++ [.string X, .string Y]) ∧ (Value.ownBlock (.slice A n c) = some g ∨ wa.heap.size ≤ g) := by
  obtain ⟨i0, hi0, hz0, hz1, hz2⟩ := info_parts pair_info
  obtain ⟨b, rfl⟩ := hF
  obtain ⟨wb, hwb⟩ : ∃ wb, w.alloc (.cells #[.string X, .string Y] 97) = wb := ⟨_, rfl⟩
  have hbw := alloc_below w (.cells #[.string X, .string Y] 97)
  obtain ⟨k0, k1, -, -⟩ := two_new w (.string X) (.string Y) 97
  rw [hwb] at hbw k0 k1
  have C1 := Lib.hid (CF wb hbw)
  have ni : ¬ (16 : Int) ≤ (n : Int) := by omega
  have B63 := Lib.hid (show n + 1 ≤ maxLen by simp only [maxLen]; omega)
  have B48 := Lib.hid (show (n + 1) * 32 ≤ 140737488355328 by omega)
  have ROW := Lib.hid row; have HBW := Lib.hid hbw
  clear CF hn row hbw
  go_enter Tryz.func101, Tryz.ntmps101
  go_wp2_with fail
  (try rw [hwb])
  refine C1.out.mono ?_; rintro _ w1 ⟨rfl, hb1⟩
  have e0 := cellb hb1 k0
  have e1 := cellb hb1 k1
  have hb2 := bnext HBW.out hb1
  have LOW := Lib.hid (bnext hb2 (alloc_below w1 (.cells #[.string X, .string Y] 97)))
  have ROW1 := Lib.hid (ownsRow_below2 ROW.out LOW.out)
  have NEWS := Lib.hid (two_news w1 (.string X) (.string Y) 97)
  clear k0 k1 hwb hb1 hb2
  go_wp2_with (at_builtin; refine wpList_append_lies _ rfl (.tmp 16) (.tmp 18) _ rfl B 97 i0 (.agg #[.string ⟨#[]⟩, .string ⟨#[]⟩]) 2 32 Tryz.underlying61 hi0 hz0 hz1 hz2 rfl (by decide) (.slice A n c) n xs rfl ROW1.out ⟨w1.heap.size, 0, none⟩ 1 1 [.string X, .string Y] rfl rfl NEWS.out (by simp [Value.oneCell']) (by decide) B63.out B48.out (Nat.le_trans hB LOW.out.size) (w1.heap.size + 1) (by simp) ?_; intro g9 cap9 w9 hown9 hg9 hat9 hlt9; have HO := Lib.hid hown9; have HG := Lib.hid hg9; have HAT := Lib.hid hat9; clear hown9 hg9 hat9 hlt9)
  go_ret2
  exact ⟨_, g9, cap9, rfl, LOW.out, HG.out, HO.out, HAT.out.imp id (fun e => by rw [e]; simp)⟩
end Go.Proofs.YtodlgbihdehmbaaGreatDoor.Cf.KP
/-
  Contracts of the program's functions of layer 11: what a line says: a section's name; a key and a value.
-/
set_option linter.unusedSimpArgs false
set_option linter.unusedVariables false
namespace Go.Proofs.YtodlgbihdehmbaaGreatDoor.Cf
theorem cutC_split {a b : List Nat} (h : 61 ∉ a) : cutC (a ++ 61 :: b) = ((blB a, blB b), keyedV (blB a)) := by
  have hl : a.length < (a ++ 61 :: b).length := by simp
  have h1 : byteAt (a ++ 61 :: b) a.length = 61 := by unfold byteAt; simp
  have h2 : ∀ j, j < a.length → byteAt (a ++ 61 :: b) j ≠ 61 := fun j hj e => by
    unfold byteAt at e
    rw [List.getD_eq_getElem?_getD, List.getElem?_append_left hj, List.getElem?_eq_getElem hj] at e
    exact h (by rw [← show a[j] = 61 from e]; exact List.getElem_mem hj)
  have e := KR.cutC_at hl h1 h2
  rw [e]
  have e1 : (a ++ 61 :: b).take a.length = a := by simp
  have e2 : (a ++ 61 :: b).drop (a.length + 1) = b := by
    rw [show a ++ 61 :: b = (a ++ [61]) ++ b from by simp, show a.length + 1 = (a ++ [61]).length from by simp, List.drop_left']
    rfl
  rw [e1, e2]
theorem cutC_none {l : List Nat} (h : 61 ∉ l) : cutC l = (([], []), false) := KR.cutC_no fun j hj e => h (by
  unfold byteAt at e
  rw [List.getD_eq_getElem?_getD, List.getElem?_eq_getElem hj] at e
  rw [← show l[j] = 61 from e]; exact List.getElem_mem hj)
namespace KP
open Go.RowKit KR
set_option maxRecDepth 100000 in
set_option maxHeartbeats 1000000 in
theorem cut_no (s : ByteArray) (h : Lib.indexByte s.data.toList 61 = -1) (w : World) : Calls Tryz.prog 86 #[.string s, .string ⟨#[61]⟩] w fun e w' => e = .returned (.tuple #[.string s, .string ⟨#[]⟩, .bool false]) ∧ Below w.heap.size w w' := by
  have IX := Lib.hid (index61_c s w)
  rw [h] at IX
  have LC : Calls Tryz.prog 118 #[.string s, .string ⟨#[61]⟩] w fun e w' => e = .returned (.tuple #[.string s, .string ⟨#[]⟩, .bool false]) ∧ Below w.heap.size w w' := by
    go_enter Tryz.func118, Tryz.ntmps118
    go_wp2_with fail
    refine IX.out.mono ?_; rintro _ w1 ⟨rfl, rfl⟩
    go_wp2
    go_ret3
    exact ⟨rfl, Below.refl _ _⟩
  have HL := Lib.hid LC
  clear LC
  go_enter Tryz.func86, Tryz.ntmps86
  go_wp2_with fail
  refine HL.out.mono ?_; rintro _ w1 ⟨rfl, hb1⟩
  go_wp2
  go_ret3
  exact ⟨rfl, hb1⟩
set_option maxRecDepth 100000 in
set_option maxHeartbeats 1000000 in
theorem cut_yes (s : ByteArray) (hs : s.size ≤ 100000) (o : Nat) (h : Lib.indexByte s.data.toList 61 = (o : Int)) (ho : o < s.size) (w : World) : Calls Tryz.prog 86 #[.string s, .string ⟨#[61]⟩] w fun e w' => e = .returned (.tuple #[.string (str ((bs s).take o)), .string (str ((bs s).drop (o + 1))), .bool true]) ∧ Below w.heap.size w w' := by
  have IX := Lib.hid (index61_c s w)
  rw [h] at IX
  have e1 := str_take s o
  have e2 := str_drop s (o + 1)
  generalize str ((bs s).take o) = S1 at *
  generalize str ((bs s).drop (o + 1)) = S2 at *
  have zq : (o : Int) + 1 = ((o + 1 : Nat) : Int) := by omega
  have zw : IntKind.i64.wrap ((o + 1 : Nat) : Int) = ((o + 1 : Nat) : Int) := by rw [IntKind.wrap_i64]; omega
  have hk1 : o + 1 ≤ s.size := ho
  have hk2 : o ≤ s.size := by omega
  have hk0 : (0 : Int) ≤ (o : Int) := by omega
  clear h
  have LC : Calls Tryz.prog 118 #[.string s, .string ⟨#[61]⟩] w fun e w' => e = .returned (.tuple #[.string S1, .string S2, .bool true]) ∧ Below w.heap.size w w' := by
    generalize o + 1 = q at *
    obtain ⟨SP, hSP⟩ : ∃ SP, (ByteArray.mk #[61]) = SP := ⟨_, rfl⟩
    have hs1 : SP.size = 1 := by rw [← hSP]; rfl
    rw [hSP] at IX ⊢
    clear hSP
    go_enter Tryz.func118, Tryz.ntmps118
    go_wp2_with fail
    refine IX.out.mono ?_; rintro _ w1 ⟨rfl, rfl⟩
    go_wp2_with fail
    go_quiet (fail)
    go_wp2
    go_ret3
    exact ⟨rfl, below_drewN (Below.refl _ _) _⟩
  have HL := Lib.hid LC
  clear LC e1 e2 zq zw hk1 hk2 hk0
  go_enter Tryz.func86, Tryz.ntmps86
  go_wp2_with fail
  refine HL.out.mono ?_; rintro _ w1 ⟨rfl, hb1⟩
  go_wp2
  go_ret3
  exact ⟨rfl, hb1⟩
set_option maxRecDepth 100000 in
set_option maxHeartbeats 1000000 in
theorem section_c (s : ByteArray) (hs : s.size ≤ 100000) (w : World) : Calls Tryz.prog 97 #[.string s] w fun e w' => ∃ NM, e = .returned (.tuple #[.string NM, .bool (headV (bs s)).isSome]) ∧ (∀ n, headV (bs s) = some n → NM = str n) ∧ w = w' := by
  have CP := Lib.hid (cutPrefix_c s w)
  rcases open_text s with ⟨h1, r, hr, e1⟩ | ⟨h1, hno, e1⟩
  · rw [h1, e1] at CP
    have hrb : Byt r := fun c hc => bs_small s c (by rw [hr]; exact List.mem_cons_of_mem _ hc)
    have hrs : (str r).size ≤ 100000 := by
      rw [str_size]
      have := bs_length s
      rw [hr, List.length_cons] at this; omega
    obtain ⟨R, hR⟩ : ∃ R, str r = R := ⟨_, rfl⟩
    have hRb : bs R = r := by rw [← hR]; exact bs_str hrb
    rw [hR] at CP hrs
    have CS := Lib.hid (cutSuffix_c R (by omega) w)
    rcases shut_text R with ⟨h2, n, hn, e2⟩ | ⟨h2, hno, e2⟩
    · rw [h2, e2] at CS
      have hh : headV (bs s) = if namedV n = true then some n else none := by rw [hr]; exact head_open (by rw [← hRb]; exact hn)
      have hnb : Byt n := fun c hc => bs_small R c (by rw [hn]; exact List.mem_append_left _ hc)
      have NC := Lib.hid (isName_c (str n) (by
        rw [str_size]
        have := bs_length R
        rw [hn, List.length_append] at this; omega) w)
      rw [bs_str hnb] at NC
      cases hnm : namedV n with
      | true =>
        rw [hnm, if_pos rfl] at hh
        rw [hnm] at NC
        rw [hh]
        obtain ⟨NM, hNM⟩ : ∃ NM, str n = NM := ⟨_, rfl⟩
        rw [hNM] at CS NC
        have HNM := Lib.hid hNM
        clear hh hr h1 e1 hrb hR hRb h2 hn e2 hnb hnm hNM
        go_enter Tryz.func97, Tryz.ntmps97
        go_wp2_with (first
          | (go_at_call 76; refine CP.out.mono ?_; rintro _ w1 ⟨rfl, rfl⟩)
          | (go_at_call 127; refine CS.out.mono ?_; rintro _ w1 ⟨rfl, rfl⟩)
          | (go_at_call 128; refine NC.out.mono ?_; rintro _ w1 ⟨rfl, rfl⟩))
        go_ret2
        exact ⟨NM, rfl, fun m hm => by rw [← HNM.out, Option.some.inj hm], rfl⟩
      | false =>
        rw [hnm, if_neg (by decide)] at hh
        rw [hnm] at NC
        rw [hh]
        obtain ⟨NM, hNM⟩ : ∃ NM, str n = NM := ⟨_, rfl⟩
        rw [hNM] at CS NC
        clear hh hr h1 e1 hrb hR hRb h2 hn e2 hnb hnm hNM
        go_enter Tryz.func97, Tryz.ntmps97
        go_wp2_with (first
          | (go_at_call 76; refine CP.out.mono ?_; rintro _ w1 ⟨rfl, rfl⟩)
          | (go_at_call 127; refine CS.out.mono ?_; rintro _ w1 ⟨rfl, rfl⟩)
          | (go_at_call 128; refine NC.out.mono ?_; rintro _ w1 ⟨rfl, rfl⟩))
        go_ret2
        exact ⟨NM, rfl, fun m hm => (by cases hm), rfl⟩
    · rw [h2, e2] at CS
      have hh : headV (bs s) = none := by rw [hr]; exact head_shut (by rw [← hRb]; exact hno)
      rw [hh]
      clear hh hr h1 e1 hrb hR hRb h2 hno e2
      go_enter Tryz.func97, Tryz.ntmps97
      go_wp2_with (first
        | (go_at_call 76; refine CP.out.mono ?_; rintro _ w1 ⟨rfl, rfl⟩)
        | (go_at_call 127; refine CS.out.mono ?_; rintro _ w1 ⟨rfl, rfl⟩))
      go_ret2
      exact ⟨_, rfl, fun m hm => (by cases hm), rfl⟩
  · rw [h1, e1] at CP
    rw [hno]
    have CS := Lib.hid (cutSuffix_c s (by omega) w)
    generalize (ByteArray.mk (Lib.trimSuffix s.data.toList [93]).toArray) = NM at *
    generalize Lib.hasSuffix s.data.toList [93] = sh at *
    clear h1 hno e1
    cases sh
    all_goals
      go_enter Tryz.func97, Tryz.ntmps97
      go_wp2_with (first
        | (go_at_call 76; refine CP.out.mono ?_; rintro _ w1 ⟨rfl, rfl⟩)
        | (go_at_call 127; refine CS.out.mono ?_; rintro _ w1 ⟨rfl, rfl⟩))
      go_ret2
      exact ⟨_, rfl, fun m hm => (by cases hm), rfl⟩
end KP
end Go.Proofs.YtodlgbihdehmbaaGreatDoor.Cf
/-
  Contracts of the program's functions of layer 11: the key and the value that a line says.
-/
set_option linter.unusedSimpArgs false
set_option linter.unusedVariables false
namespace Go.Proofs.YtodlgbihdehmbaaGreatDoor.Cf.KP
open Go.RowKit KR
set_option maxRecDepth 100000 in
set_option maxHeartbeats 1000000 in
/-- The pair's own walk, whatever strings.Cut answers. -/
theorem pair_walk (s K V KS VS : ByteArray) (ok kb : Bool) (w : World) (CUT : ∀ W, Calls Tryz.prog 86 #[.string s, .string ⟨#[61]⟩] W fun e w' => e = .returned (.tuple #[.string K, .string V, .bool ok]) ∧ Below W.heap.size W w')
    (T1 : ∀ W, Calls Tryz.prog 80 #[.string K, .string ⟨#[32, 9]⟩] W fun e w' => e = .returned (.string KS) ∧ Below W.heap.size W w') (T2 : ∀ W, Calls Tryz.prog 80 #[.string V, .string ⟨#[32, 9]⟩] W fun e w' => e = .returned (.string VS) ∧ Below W.heap.size W w')
    (KC : ∀ W, Calls Tryz.prog 131 #[.string KS] W fun e w' => e = .returned (.bool kb) ∧ W = w') :
    Calls Tryz.prog 100 #[.string s] w fun e w' => e = .returned (.tuple #[.agg #[.string KS, .string VS], .bool (ok && kb)]) ∧ Below w.heap.size w w' := by
  have CC := Lib.hid CUT; have H1 := Lib.hid T1; have H2 := Lib.hid T2; have HK := Lib.hid KC
  clear CUT T1 T2 KC
  go_enter Tryz.func100, Tryz.ntmps100
  go_wp2_with fail
  obtain ⟨r0, r1, rf0, rf1⟩ := two_new w (.string ⟨#[]⟩) (.string ⟨#[]⟩) 97
  have hb0 := alloc_below w (.cells #[.string ⟨#[]⟩, .string ⟨#[]⟩] 97)
  have lt0 : w.heap.size < (w.alloc (.cells #[.string ⟨#[]⟩, .string ⟨#[]⟩] 97)).heap.size := by simp
  refine (CC.out _).mono ?_; rintro _ w1 ⟨rfl, hb1⟩
  go_wp2_with fail
  refine (H1.out _).mono ?_; rintro _ w2 ⟨rfl, hb2⟩
  go_wp2_with fail
  refine (H2.out _).mono ?_; rintro _ w3 ⟨rfl, hb3⟩
  have hb13 := bnext hb1 (bnext hb2 hb3)
  have hb4 := bnext hb13 (alloc_below w3 (.cells #[.string KS, .string VS] 97))
  obtain ⟨p0, p1, pf0, pf1⟩ := two_new w3 (.string KS) (.string VS) 97
  have q0 := cellb hb4 r0
  have q1 := cellb hb4 r1
  have g0 := (hb4.frozen (p := ⟨w.heap.size, 0, none⟩) lt0).trans rf0
  have g1 := (hb4.frozen (p := ⟨w.heap.size, 1, none⟩) lt0).trans rf1
  obtain ⟨w4, hw4⟩ : ∃ w4, w3.alloc (.cells #[.string KS, .string VS] 97) = w4 := ⟨_, rfl⟩
  have BB := Lib.hid (bnext hb0 hb4)
  rw [hw4] at p0 p1 pf0 pf1 q0 q1 g0 g1 BB
  go_upto_region 3 with fail
  (try rw [hw4])
  have HW4 := Lib.hid hw4
  clear hb1 hb2 hb3 hb13 hb4 r0 r1 rf0 rf1 hb0 lt0 hw4
  cases ok
  · go_region
    all_goals (try go_wp2_with fail)
    all_goals
      refine bodyPost_ret (v := .tuple #[.agg #[.string KS, .string VS], .bool false]) (by simp [results, Tryz.results100, go_sem, q0, q1]) rfl ⟨rfl, ?_⟩
      first
        | exact ((BB.out.setCell (p := ⟨w.heap.size, 0, none⟩) (Nat.le_refl _) (.string KS)).setCell (p := ⟨w.heap.size, 1, none⟩) (Nat.le_refl _) (.string VS))
        | exact (((Below.drew BB.out).setCell (p := ⟨w.heap.size, 0, none⟩) (Nat.le_refl _) (.string KS)).setCell (p := ⟨w.heap.size, 1, none⟩) (Nat.le_refl _) (.string VS))
  · go_region_with (go_at_call 131; (with_reducible refine (HK.out _).mono ?_); rintro _ w5 ⟨rfl, rfl⟩)
    all_goals (try go_wp2_with fail)
    all_goals
      refine bodyPost_ret (v := .tuple #[.agg #[.string KS, .string VS], .bool kb]) (by simp [results, Tryz.results100, go_sem, q0, q1]) rfl ⟨by simp, ?_⟩
      first
        | exact ((BB.out.setCell (p := ⟨w.heap.size, 0, none⟩) (Nat.le_refl _) (.string KS)).setCell (p := ⟨w.heap.size, 1, none⟩) (Nat.le_refl _) (.string VS))
        | exact (((Below.drew BB.out).setCell (p := ⟨w.heap.size, 0, none⟩) (Nat.le_refl _) (.string KS)).setCell (p := ⟨w.heap.size, 1, none⟩) (Nat.le_refl _) (.string VS))
theorem pair_c (s : ByteArray) (hs : s.size ≤ 100000) (w : World) :
    Calls Tryz.prog 100 #[.string s] w fun e w' => ∃ KS VS, e = .returned (.tuple #[.agg #[.string KS, .string VS], .bool (cutC (bs s)).2]) ∧ ((cutC (bs s)).2 = true → KS = str (cutC (bs s)).1.1 ∧ VS = str (cutC (bs s)).1.2) ∧ Below w.heap.size w w' := by
  rcases index_part s 61 with ⟨h1, h2⟩ | ⟨o, h1, ho, h3, h4⟩
  · rw [cutC_none h2]
    have hk : (str (blB (bs s))).size ≤ 9223372036854775807 := by rw [str_size]; have := blB_length (bs s); rw [bs_length] at this; omega
    refine (pair_walk s s ⟨#[]⟩ (str (blB (bs s))) (str (blB (bs ⟨#[]⟩))) false _ w (fun W => cut_no s h1 W) (fun W => trim_c s (by omega) W) (fun W => trim_c ⟨#[]⟩ (by decide) W) (fun W => isKey_c _ hk W)).mono ?_
    rintro e w' ⟨rfl, hb⟩
    exact ⟨_, _, rfl, fun h => (by cases h), hb⟩
  · obtain ⟨a, ha⟩ : ∃ a, (bs s).take o = a := ⟨_, rfl⟩
    obtain ⟨b, hb⟩ : ∃ b, (bs s).drop (o + 1) = b := ⟨_, rfl⟩
    rw [ha] at h3 h4
    rw [hb] at h3
    have hc : cutC (bs s) = ((blB a, blB b), keyedV (blB a)) := by
      rw [h3]; exact cutC_split h4
    have ma : Byt a := fun c hc => bs_small s c (by rw [← ha] at hc; exact List.mem_of_mem_take hc)
    have mb : Byt b := fun c hc => bs_small s c (by rw [← hb] at hc; exact List.mem_of_mem_drop hc)
    have la : a.length ≤ s.size := by rw [← ha, List.length_take, bs_length]; omega
    have lb : b.length ≤ s.size := by rw [← hb, List.length_drop, bs_length]; omega
    have hk : (str (blB a)).size ≤ 9223372036854775807 := by rw [str_size]; have := blB_length a; omega
    have t1 := fun W => trim_c (str a) (by rw [str_size]; omega) W
    have t2 := fun W => trim_c (str b) (by rw [str_size]; omega) W
    have kc := fun W => isKey_c (str (blB a)) hk W
    rw [bs_str ma] at t1
    rw [bs_str mb] at t2
    rw [bs_str (fun c hc => ma c (blB_mem hc))] at kc
    have cy := fun W => cut_yes s hs o h1 ho W
    rw [ha, hb] at cy
    rw [hc]
    refine (pair_walk s (str a) (str b) _ _ true _ w cy t1 t2 kc).mono ?_
    rintro e w' ⟨rfl, hb⟩
    exact ⟨_, _, by rw [Bool.true_and], fun _ => ⟨rfl, rfl⟩, hb⟩
end Go.Proofs.YtodlgbihdehmbaaGreatDoor.Cf.KP
/-
  Contracts of the program's functions of layer 11: sections with what one line more says (grown).
-/
set_option linter.unusedSimpArgs false
set_option linter.unusedVariables false
namespace Go.Proofs.YtodlgbihdehmbaaGreatDoor.Cf.KP
open Go.RowKit KR
theorem ret_vn2 {v : Value} {a b : Int} (h : a = b) : Ending.returned (.tuple #[v, .int .i64 a]) = .returned (.tuple #[v, .int .i64 b]) := by rw [h]
theorem get_any (l : List KV) (k : List Nat) : (getV l k).isSome = l.any fun p => p.1 == k := by
  unfold getV
  rw [Option.isSome_map, Bool.eq_iff_iff, List.find?_isSome, List.any_eq_true]
theorem keyed_b (nm : ByteArray) (w : World) : Calls Tryz.prog 75 #[.string nm] w fun e w' => ∃ b, e = .returned (.func (.func 103) #[] #[.pointer (some ⟨b, 0, none⟩)]) ∧ w'.cell? ⟨b, 0, none⟩ = some (.string nm) ∧ Below w.heap.size w w' :=
  (keyed_c nm w).mono fun e w' ⟨h1, h2⟩ => ⟨_, h1, by rw [h2]; exact cell_of_row _ _ 0 _ _ (0, 0) (heap_alloc_new w _), by rw [h2]; exact alloc_below _ _⟩
theorem named_b (nm : ByteArray) (w : World) : Calls Tryz.prog 99 #[.string nm] w fun e w' => ∃ b, e = .returned (.func (.func 130) #[] #[.pointer (some ⟨b, 0, none⟩)]) ∧ w'.cell? ⟨b, 0, none⟩ = some (.string nm) ∧ Below w.heap.size w w' :=
  (named_c nm w).mono fun e w' ⟨h1, h2⟩ => ⟨_, h1, by rw [h2]; exact cell_of_row _ _ 0 _ _ (0, 0) (heap_alloc_new w _), by rw [h2]; exact alloc_below _ _⟩
/-- What grown answers. -/
def Grew (B : Nat) (w : World) (L : List Sec) (t : List Nat) (e : Ending) (w' : World) : Prop :=
  ∃ (A : Option Addr) (n c : Nat), e = .returned (.tuple #[.slice A n c, .int .i64 (stepV L t).2]) ∧ ((stepV L t).2 = 0 → ∃ us : List (Value × Sec), us.map Prod.snd = (stepV L t).1 ∧ ScUs B w' (.slice A n c) us) ∧ Below B w w'
theorem Grew.err {B : Nat} {w w' : World} {L : List Sec} {t : List Nat} {A : Option Addr} {n c : Nat} {x : Int} (h : (stepV L t).2 = x) (hx : x ≠ 0) (hb : Below w.heap.size w w') (hB : B ≤ w.heap.size) : Grew B w L t (.returned (.tuple #[.slice A n c, .int .i64 x])) w' :=
  ⟨A, n, c, by rw [h], fun e => absurd (h.symm.trans e) hx, hb.mono hB⟩
set_option maxRecDepth 100000 in
set_option maxHeartbeats 1000000 in
/-- A line that begins a section. -/
theorem grown_head (B : Nat) (A : Option Addr) (nu c : Nat) (us : List (Value × Sec)) (s : ByteArray) (hs : s.size ≤ 100000) (n : List Nat) (hn : headV (bs s) = some n) (w : World) (hB : B ≤ w.heap.size) (HU : ScUs B w (.slice A nu c) us) (hnu : us.length = nu) (hfew : nu ≤ 16) (hbyt : SecB (us.map Prod.snd)) :
    Calls Tryz.prog 72 #[.slice A nu c, .string s] w (Grew B w (us.map Prod.snd) (bs s)) := by
  have hst := step_head (out := us.map Prod.snd) hn
  rw [List.length_map, hnu] at hst
  have SE := (section_c s hs w)
  rw [hn] at SE
  have hnB : Byt n := fun c hc => bs_small s c (head_mem hn hc)
  have hbn : bs (str n) = n := bs_str hnB
  obtain ⟨NM, hNM⟩ : ∃ NM, str n = NM := ⟨_, rfl⟩
  have SE2 := Lib.hid (SE.mono fun e w' ⟨M, h1, h2, h3⟩ => (show e = Ending.returned (.tuple #[.string NM, .bool true]) ∧ w = w' from ⟨by rw [h1, h2 n rfl, hNM]; rfl, h3⟩))
  rw [hNM] at hbn
  have NB := Lib.hid (named_b NM w)
  have HU0 := Lib.hid HU
  have CF := Lib.hid (fun (b : Nat) (W : World) (h1 : Below w.heap.size w W) (h2 : W.cell? ⟨b, 0, none⟩ = some (.string NM)) => hasS_c (.slice A nu c) (us.map Prod.snd) (by rw [List.length_map]; omega) (fun x hx => (hbyt x hx).1) b NM W h2 (HU0.out.out.below h1))
  rw [hbn] at CF
  have hv : hasV (us.map Prod.snd) n = ((us.map Prod.snd).any fun x => x.1 == n) := rfl
  rw [hv] at hst
  obtain ⟨d, hd⟩ : ∃ d, ((us.map Prod.snd).any fun x => x.1 == n) = d := ⟨_, rfl⟩
  rw [hd] at hst CF
  have HST := Lib.hid hst; have HNM := Lib.hid hNM
  clear hst SE hnB hbn hNM hv hd hbyt HU hn
  cases d with
  | true =>
    rw [if_pos rfl] at HST
    have AD := Lib.hid (fun (b : Nat) (W : World) (h1 : Below w.heap.size w W) (h2 : W.cell? ⟨b, 0, none⟩ = some (.string NM)) => addedS_has A nu c NM (.func (.func 130) #[] #[.pointer (some ⟨b, 0, none⟩)]) ⟨b, rfl⟩ W (fun W2 h3 => CF.out b W2 (bnext h1 h3) (cellb h3 h2)))
    clear CF
    go_enter Tryz.func72, Tryz.ntmps72
    go_wp2_with (first
      | (go_at_call 97; refine SE2.out.mono ?_; rintro _ w1 ⟨rfl, rfl⟩)
      | (go_at_call 99; refine NB.out.mono ?_; rintro _ w2 ⟨b, rfl, hc2, hb2⟩)
      | (go_at_call 98; refine (AD.out b _ hb2 hc2).mono ?_; rintro _ w3 ⟨rfl, hb3⟩))
    go_ret2
    exact Grew.err (by rw [HST.out]) (by decide) (bnext hb2 hb3) hB
  | false =>
    rw [if_neg (by decide)] at HST
    by_cases h16 : 16 ≤ nu
    · rw [if_pos (by omega)] at HST
      have AD := Lib.hid (fun (b : Nat) (W : World) (h1 : Below w.heap.size w W) (h2 : W.cell? ⟨b, 0, none⟩ = some (.string NM)) => addedS_full A nu c h16 NM (.func (.func 130) #[] #[.pointer (some ⟨b, 0, none⟩)]) ⟨b, rfl⟩ W (fun W2 h3 => CF.out b W2 (bnext h1 h3) (cellb h3 h2)))
      clear CF
      go_enter Tryz.func72, Tryz.ntmps72
      go_wp2_with (first
        | (go_at_call 97; refine SE2.out.mono ?_; rintro _ w1 ⟨rfl, rfl⟩)
        | (go_at_call 99; refine NB.out.mono ?_; rintro _ w2 ⟨b, rfl, hc2, hb2⟩)
        | (go_at_call 98; refine (AD.out b _ hb2 hc2).mono ?_; rintro _ w3 ⟨rfl, hb3⟩))
      go_ret2
      exact Grew.err (by rw [HST.out]) (by decide) (bnext hb2 hb3) hB
    · rw [if_neg (by omega)] at HST
      have AD := Lib.hid (fun (b : Nat) (W : World) (h1 : Below w.heap.size w W) (h2 : W.cell? ⟨b, 0, none⟩ = some (.string NM)) => addedS_room B A nu c (scC us) h16 NM (.func (.func 130) #[] #[.pointer (some ⟨b, 0, none⟩)]) ⟨b, rfl⟩ W (Nat.le_trans hB h1.size) (by have h := (HU0.out.below h1).row; rw [hnu] at h; exact h) (fun W2 h3 => CF.out b W2 (bnext h1 h3) (cellb h3 h2)))
      have FIN := Lib.hid (show ∀ (w2 wa w3 : World) (g cap : Nat), Below w.heap.size w w2 → Below w2.heap.size w2 wa → wa.grownBy w3 (Value.ownBlock (.slice A nu c)) → w3.ownsRow B 63 2 (.slice (some ⟨g, 0, none⟩) (nu + 1) cap) (nu + 1) (scC us ++ [.string NM, .slice none 0 0]) → (Value.ownBlock (.slice A nu c) = some g ∨ wa.heap.size ≤ g) →
          Grew B w (us.map Prod.snd) (bs s) (.returned (.tuple #[.slice (some ⟨g, 0, none⟩) (nu + 1) cap, .int .i64 0])) w3 from fun w2 wa w3 g cap h1 h2 hg ho hat => by
        have hU := HU0.out.below (bnext h1 h2)
        have hP := @ScUs.push B wa w3 (.slice A nu c) us n g cap hU (by rw [hnu, HNM.out]; exact ho) hg hat
        rw [hnu] at hP
        refine ⟨_, _, _, by rw [HST.out], fun _ => ⟨_, by rw [HST.out, List.map_append]; rfl, hP⟩, ?_⟩
        exact ((bnext h1 h2).mono hB).grown hg (Nat.le_trans hB (bnext h1 h2).size) (fun j ej => (own_lt hU.row ej).1))
      clear CF h16
      go_enter Tryz.func72, Tryz.ntmps72
      go_wp2_with (first
        | (go_at_call 97; refine SE2.out.mono ?_; rintro _ w1 ⟨rfl, rfl⟩)
        | (go_at_call 99; refine NB.out.mono ?_; rintro _ w2 ⟨b, rfl, hc2, hb2⟩)
        | (go_at_call 98; refine (AD.out b _ hb2 hc2).mono ?_; rintro _ w3 ⟨wa, g3, cap3, rfl, hb3, hg3, ho3, hat3⟩; have F3 := Lib.hid (FIN.out _ _ _ g3 cap3 hb2 hb3 hg3 ho3 hat3); clear hg3 ho3 hat3))
      go_ret2
      exact F3.out
end Go.Proofs.YtodlgbihdehmbaaGreatDoor.Cf.KP
/-
  Contracts of the program's functions of layer 11: sections with the key that one line more says (grown).
-/
set_option linter.unusedSimpArgs false
set_option linter.unusedVariables false
namespace Go.Proofs.YtodlgbihdehmbaaGreatDoor.Cf.KP
open Go.RowKit KR
set_option maxRecDepth 100000 in
set_option maxHeartbeats 1000000 in
/-- A line that begins no section, and says no key, or stands ahead of any section. -/
theorem grown_wrong (B : Nat) (A : Option Addr) (nu c : Nat) (L : List Sec) (hL : L.length = nu) (s : ByteArray) (hs : s.size ≤ 100000) (hn : headV (bs s) = none) (hw : (cutC (bs s)).2 = false ∨ nu = 0) (hnu : nu ≤ 16) (w : World) (hB : B ≤ w.heap.size) :
    Calls Tryz.prog 72 #[.slice A nu c, .string s] w (Grew B w L (bs s)) := by
  have hst : (stepV L (bs s)).2 = 7 := by
    rcases hw with h | h
    · rw [step_wrong hn h]
    · rw [List.eq_nil_of_length_eq_zero (hL.trans h), step_none hn]
  have SE := (section_c s hs w)
  rw [hn] at SE
  have SE2 := Lib.hid (SE.mono fun e w' ⟨M, h1, h2, h3⟩ => (show ∃ M, e = Ending.returned (.tuple #[.string M, .bool false]) ∧ w = w' from ⟨M, h1, h3⟩))
  have PC := Lib.hid (pair_c s hs w)
  obtain ⟨ok, hok⟩ : ∃ ok, (cutC (bs s)).2 = ok := ⟨_, rfl⟩
  rw [hok] at hw PC
  have HST := Lib.hid hst
  clear hst SE hok hn
  by_cases ho : ok = false
  · subst ho
    go_enter Tryz.func72, Tryz.ntmps72
    go_wp2_with (first
      | (go_at_call 97; refine SE2.out.mono ?_; rintro _ w1 ⟨M, rfl, rfl⟩)
      | (go_at_call 100; refine PC.out.mono ?_; rintro _ w2 ⟨KS, VS, rfl, hkv, hb2⟩; clear hkv))
    go_ret2
    exact Grew.err HST.out (by decide) (bnext hb2 (alloc_below _ _)) hB
  · obtain rfl : ok = true := by simpa using ho
    obtain rfl : nu = 0 := hw.resolve_left (by decide)
    go_enter Tryz.func72, Tryz.ntmps72
    go_wp2_with (first
      | (go_at_call 97; refine SE2.out.mono ?_; rintro _ w1 ⟨M, rfl, rfl⟩)
      | (go_at_call 100; refine PC.out.mono ?_; rintro _ w2 ⟨KS, VS, rfl, hkv, hb2⟩; clear hkv))
    go_ret2
    exact Grew.err HST.out (by decide) (bnext hb2 (alloc_below _ _)) hB
set_option maxRecDepth 100000 in
set_option maxHeartbeats 2000000 in
/-- A line that says a key, behind a section. -/
theorem grown_key (B : Nat) (gs : Nat) (nu c q : Nat) (ui : List (Value × Sec)) (Au : Option Addr) (nk cu : Nat) (nm : List Nat) (kl : List KV) (s : ByteArray) (hs : s.size ≤ 100000) (hn : headV (bs s) = none) (hok : (cutC (bs s)).2 = true) (w : World) (hB : B ≤ w.heap.size)
    (HU : ScUs B w (.slice (some ⟨gs, 0, none⟩) nu c) (ui ++ [(.slice Au nk cu, (nm, kl))])) (hq : ui.length = q) (hqn : q + 1 = nu) (hfew : nu ≤ 16) (hnk : kl.length = nk) (hk16 : nk ≤ 16) (hbyt : ∀ p ∈ kl, Byt p.1) :
    Calls Tryz.prog 72 #[.slice (some ⟨gs, 0, none⟩) nu c, .string s] w (Grew B w ((ui ++ [((.slice Au nk cu : Value), ((nm, kl) : Sec))]).map Prod.snd) (bs s)) := by
  obtain ⟨⟨⟨K, V⟩, ok⟩, hcut⟩ : ∃ x, cutC (bs s) = x := ⟨_, rfl⟩
  have cb := cutC_byt (byt_bs s)
  have hst := step_key (out := ui.map Prod.snd) (x := (nm, kl)) hn
  rw [hcut] at hst hok cb
  simp only at hok cb
  subst hok
  simp only [Bool.true_eq_false, if_false] at hst
  have HST := Lib.hid (show stepV ((ui ++ [((.slice Au nk cu : Value), ((nm, kl) : Sec))]).map Prod.snd) (bs s) = if (getV kl K).isSome = true then ([], 5) else if kl.length = 16 then ([], 11) else (ui.map Prod.snd ++ [(nm, kl ++ [(K, V)])], 0) by
    rw [List.map_append]; exact hst)
  rw [get_any, hnk] at HST
  have SE := (section_c s hs w)
  rw [hn] at SE
  have SE2 := Lib.hid (SE.mono fun e w' ⟨M, h1, h2, h3⟩ => (show ∃ M, e = Ending.returned (.tuple #[.string M, .bool false]) ∧ w = w' from ⟨M, h1, h3⟩))
  have PC0 := pair_c s hs w
  rw [hcut] at PC0
  obtain ⟨KS, hKS⟩ : ∃ KS, str K = KS := ⟨_, rfl⟩
  obtain ⟨VS, hVS⟩ : ∃ VS, str V = VS := ⟨_, rfl⟩
  have hKb : bs KS = K := by rw [← hKS]; exact bs_str cb.1
  have PC := Lib.hid (PC0.mono fun e w' ⟨K1, V1, h1, h2, h3⟩ => (show e = Ending.returned (.tuple #[.agg #[.string KS, .string VS], .bool true]) ∧ Below w.heap.size w w' from ⟨by
    obtain ⟨e1, e2⟩ := h2 rfl
    rw [h1, e1, e2, ← hKS, ← hVS], h3⟩))
  have HKS := Lib.hid hKS; have HVS := Lib.hid hVS; have HU0 := Lib.hid HU; have HQ := Lib.hid hq; have HNK := Lib.hid hnk
  have hmem : ((.slice Au nk cu : Value), ((nm, kl) : Sec)) ∈ ui ++ [((.slice Au nk cu : Value), ((nm, kl) : Sec))] := List.mem_append_right _ (List.mem_singleton.2 rfl)
  have hlast : (ui ++ [((.slice Au nk cu : Value), ((nm, kl) : Sec))])[q]? = some (.slice Au nk cu, (nm, kl)) := by rw [← hq]; simp
  obtain ⟨c0, c1, f1⟩ := HU.cells hlast
  simp only at c1
  have hkv : KvNew B w (.slice Au nk cu) kl := HU.kv _ hmem
  have hgl := own_lt HU.row (g := gs) rfl
  have CF := Lib.hid (fun (b : Nat) (W : World) (h1 : Below w.heap.size w W) (h2 : W.cell? ⟨b, 0, none⟩ = some (.string KS)) => hasK_c (.slice Au nk cu) kl (by omega) hbyt b KS W h2 (hkv.out.below h1))
  rw [hKb] at CF
  have ROW := Lib.hid (show ∀ W, Below w.heap.size w W → W.ownsRow B 97 2 (.slice Au nk cu) nk (kvC kl) from fun W h => by
    have h2 := ownsRow_below2 hkv h
    rw [hnk] at h2; exact h2)
  obtain ⟨d, hd⟩ : ∃ d, (kl.any fun p => p.1 == K) = d := ⟨_, rfl⟩
  rw [hd] at HST CF
  have KB := Lib.hid (fun W => keyed_b KS W)
  have HGL := Lib.hid hgl
  have zq : (nu : Int) - 1 = (q : Int) := by omega
  have zlt : q < nu := by omega
  have n0 : ¬ (nu : Int) = 0 := by omega
  have n0b : ((nu : Int) == 0) = false := beq_false_of_ne n0
  clear hst SE PC0 hcut cb hKS hVS hKb HU hq hnk hmem hlast hkv hgl hbyt hd hn
  -- up to the region that calls keyed and added
  cases d with
  | true =>
    rw [if_pos rfl] at HST
    have AD := Lib.hid (fun (b : Nat) (W : World) (h1 : Below w.heap.size w W) (h2 : W.cell? ⟨b, 0, none⟩ = some (.string KS)) => addedK_has Au nk cu KS VS (.func (.func 103) #[] #[.pointer (some ⟨b, 0, none⟩)]) ⟨b, rfl⟩ W (fun W2 h3 => CF.out b W2 (bnext h1 h3) (cellb h3 h2)))
    clear CF ROW
    go_enter Tryz.func72, Tryz.ntmps72
    go_wp2_with (first
      | (go_at_call 97; refine SE2.out.mono ?_; rintro _ w1 ⟨M, rfl, rfl⟩)
      | (go_at_call 100; refine PC.out.mono ?_; rintro _ w2 ⟨rfl, hb2⟩))
    obtain ⟨p0, p1, -, -⟩ := two_new w2 (.string KS) (.string VS) 97
    have hbX := bnext hb2 (alloc_below w2 (.cells #[.string KS, .string VS] 97))
    have lt0 : w.heap.size < (w2.alloc (.cells #[.string KS, .string VS] 97)).heap.size := Nat.lt_of_le_of_lt hb2.size (by simp)
    obtain ⟨X, hX⟩ : ∃ X, w2.alloc (.cells #[.string KS, .string VS] 97) = X := ⟨_, rfl⟩
    rw [hX] at p0 p1 hbX ⊢
    have d0 := cellb hbX c1
    have fd0 := (hbX.frozen (p := ⟨gs, q * 2 + 1, none⟩) (by have := HGL.out.2; simp only; omega)).trans f1
    have HBX := Lib.hid hbX
    have HFZ := Lib.hid (show ∀ W, Below X.heap.size X W → W.frozen? ⟨gs, q * 2 + 1, none⟩ = false from fun W h => (h.frozen (p := ⟨gs, q * 2 + 1, none⟩) (by have := HGL.out.2; have := HBX.out.size; simp only; omega)).trans fd0)
    have hdw : Below X.heap.size X X.drew := (Below.refl _ _).drew
    have hpb : w2.heap.size < X.heap.size := by rw [← hX]; simp
    have HPB := Lib.hid hpb
    have SB := Lib.hid (show ∀ W, Below X.heap.size X W → W.cell? ⟨gs, q * 2 + 1, none⟩ = some (.slice Au nk cu) ∧ W.cell? ⟨w2.heap.size, 0, none⟩ = some (.string KS) ∧ W.cell? ⟨w2.heap.size, 1, none⟩ = some (.string VS) from fun W h => ⟨cellb h d0, cellb h p0, cellb h p1⟩)
    have HW2 := Lib.hid hb2.size
    clear hb2 hbX hX c0 c1 f1 lt0 hpb
    have hne1 : ¬ gs = w2.heap.size := by have := HGL.out.2; have := HW2.out; omega
    have hne2 : ¬ w2.heap.size = gs := fun e => hne1 e.symm
    refine wp_region_held_drew (S := fun y => y.cell? ⟨w2.heap.size, 0, none⟩ = some (.string KS) ∧ y.cell? ⟨w2.heap.size, 1, none⟩ = some (.string VS)) (by kernel_rfl) ?hs (fun hHeld => ?hr)
    case hs => ((try dsimp only); (first | assumption | go_keep))
    case hr =>
      refine wpAnyH_take (i := 0) (v := ?_) rfl (by kernel_rfl) (by kernel_rfl) (by kernel_rfl) (fun _ _ _ h => h) (Or.inl ⟨by rfl, ?_⟩) (by assumption) ?_
      rotate_left
      · intro w hSw
        (try dsimp only at hSw)
        go_simp
        (try with_reducible rfl)
      change wpAnyH _ _ _ _ _ _ _ (Act.put _ (some 44) _) _
      simp only [Act.put, List.setIfInBounds_toArray, List.set_cons_zero, List.set_cons_succ]
      refine wpAnyH_take (i := 1) (v := ?_) rfl (by kernel_rfl) (by kernel_rfl) (by kernel_rfl) (fun _ _ _ h => h) (Or.inl ⟨by rfl, ?_⟩) (by assumption) ?_
      rotate_left
      · intro w hSw
        (try dsimp only at hSw)
        go_simp
        (try with_reducible rfl)
      change wpAnyH _ _ _ _ _ _ _ (Act.put _ (some 45) _) _
      simp only [Act.put, List.setIfInBounds_toArray, List.set_cons_zero, List.set_cons_succ]
      refine wpAnyH_take (i := 2) (v := ?_) rfl (by kernel_rfl) (by kernel_rfl) (by kernel_rfl) (fun _ _ _ h => h) (Or.inl ⟨by rfl, ?_⟩) (by assumption) ?_
      rotate_left
      · intro w hSw
        (try dsimp only at hSw)
        go_simp
        (try with_reducible rfl)
      change wpAnyH _ _ _ _ _ _ _ (Act.put _ (some 46) _) _
      simp only [Act.put, List.setIfInBounds_toArray, List.set_cons_zero, List.set_cons_succ]
      refine wpAnyH_take (i := 3) (v := ?_) rfl (by kernel_rfl) (by kernel_rfl) (by kernel_rfl) (fun _ _ _ h => h) (Or.inl ⟨by rfl, ?_⟩) (by assumption) ?_
      rotate_left
      · intro w hSw
        (try dsimp only at hSw)
        go_simp
        (try with_reducible rfl)
      change wpAnyH _ _ _ _ _ _ _ (Act.put _ (some 47) _) _
      simp only [Act.put, List.setIfInBounds_toArray, List.set_cons_zero, List.set_cons_succ]
      refine wpAnyH_take (i := 5) (v := ?_) rfl (by kernel_rfl) (by kernel_rfl) (by kernel_rfl) (fun _ _ _ h => h) (Or.inl ⟨by rfl, ?_⟩) (by assumption) ?_
      rotate_left
      · intro w hSw
        (try dsimp only at hSw)
        go_simp
        (try with_reducible rfl)
      change wpAnyH _ _ _ _ _ _ _ (Act.put _ (some 49) _) _
      simp only [Act.put, List.setIfInBounds_toArray, List.set_cons_zero, List.set_cons_succ]
      refine wpAnyH_take (i := 6) (v := ?_) rfl (by kernel_rfl) (by kernel_rfl) (by kernel_rfl) (fun _ _ _ h => h) (Or.inl ⟨by rfl, ?_⟩) (by assumption) ?_
      rotate_left
      · intro w hSw
        (try dsimp only at hSw)
        go_simp
        (try with_reducible rfl)
      change wpAnyH _ _ _ _ _ _ _ (Act.put _ (some 50) _) _
      simp only [Act.put, List.setIfInBounds_toArray, List.set_cons_zero, List.set_cons_succ]
      refine wpAnyH_take (i := 7) (v := ?_) rfl (by kernel_rfl) (by kernel_rfl) (by kernel_rfl) (fun _ _ _ h => h) (Or.inl ⟨by rfl, ?_⟩) (by assumption) ?_
      rotate_left
      · intro w hSw
        (try dsimp only at hSw)
        go_simp
        (try with_reducible rfl)
      change wpAnyH _ _ _ _ _ _ _ (Act.put _ (some 51) _) _
      simp only [Act.put, List.setIfInBounds_toArray, List.set_cons_zero, List.set_cons_succ]
      refine wpAnyH_ready (rs := [4, 8]) (by kernel_rfl) (by simp) ?_
      refine AllReadyH.cons rfl (fun K hK => ?_) (AllReadyH.cons rfl (fun K hK => ?_) AllReadyH.nil)
      · go_simp
        refine hK.out _ _ ?_ (fun hHeld => ?_)
        · ((try dsimp only); (first | assumption | go_keep))
        clear hK K
        (try simp only [Act.put, List.setIfInBounds_toArray, List.set_cons_zero, List.set_cons_succ])
        refine wpAnyH_ready (rs := [8]) (by kernel_rfl) (by simp) ?_
        refine AllReadyH.cons rfl (fun K hK => ?_) AllReadyH.nil
        · go_simp
          (go_at_call 75; (with_reducible refine (KB.out _).mono ?_); rintro _ w5 ⟨b5, rfl, hc5, hb5⟩; obtain ⟨e0, e1, e2⟩ := SB.out _ (bnext hdw hb5); have hS5 := (And.intro e1 e2))
          (try go_wp2_with fail)
          refine hK.out _ _ ?_ (fun hHeld => ?_)
          · ((try dsimp only); (first | assumption | go_keep))
          clear hK K
          (try simp only [Act.put, List.setIfInBounds_toArray, List.set_cons_zero, List.set_cons_succ])
          refine wpAnyH_ready (rs := [9]) (by kernel_rfl) (by simp) ?_
          refine AllReadyH.cons rfl (fun K hK => ?_) AllReadyH.nil
          · go_simp
            (go_at_call 101; (with_reducible refine (AD.out b5 _ (bnext HBX.out (bnext hdw hb5)) hc5).mono ?_); rintro _ w6 ⟨rfl, hb6⟩; have hbx6 := bnext hdw (bnext hb5 hb6); have fz6 := HFZ.out _ hbx6; obtain ⟨x0, x1, x2⟩ := SB.out _ hbx6; have hS6 := (And.intro x1 x2); have BB6 := Lib.hid ((bnext HBX.out hbx6).mono hB))
            (try go_wp2_with fail)
            refine hK.out _ _ ?_ (fun hHeld => ?_)
            · ((try dsimp only); (first | assumption | go_keep))
            clear hK K
            (try simp only [Act.put, List.setIfInBounds_toArray, List.set_cons_zero, List.set_cons_succ])
            refine wpAnyH_take (i := 10) (v := ?_) rfl (by kernel_rfl) (by kernel_rfl) (by kernel_rfl) (fun _ _ _ h => h) (Or.inl ⟨by rfl, ?_⟩) (by assumption) ?_
            rotate_left
            · intro w hSw
              (try dsimp only at hSw)
              go_simp
              (try with_reducible rfl)
            change wpAnyH _ _ _ _ _ _ _ (Act.put _ (some 43) _) _
            simp only [Act.put, List.setIfInBounds_toArray, List.set_cons_zero, List.set_cons_succ]
            refine wpAnyH_take (i := 11) (v := ?_) rfl (by kernel_rfl) (by kernel_rfl) (by kernel_rfl) (fun _ _ _ h => h) (Or.inl ⟨by rfl, ?_⟩) (by assumption) ?_
            rotate_left
            · intro w hSw
              (try dsimp only at hSw)
              go_simp
              (try with_reducible rfl)
            change wpAnyH _ _ _ _ _ _ _ (Act.put _ (some 54) _) _
            simp only [Act.put, List.setIfInBounds_toArray, List.set_cons_zero, List.set_cons_succ]
            refine wpAnyH_take (i := 12) (v := ?_) rfl (by kernel_rfl) (by kernel_rfl) (by kernel_rfl) (fun _ _ _ h => h) (Or.inl ⟨by rfl, ?_⟩) (by assumption) ?_
            rotate_left
            · intro w hSw
              (try dsimp only at hSw)
              go_simp
              (try with_reducible rfl)
            change wpAnyH _ _ _ _ _ _ _ (Act.put _ (some 55) _) _
            simp only [Act.put, List.setIfInBounds_toArray, List.set_cons_zero, List.set_cons_succ]
            refine wpAnyH_take (i := 13) (v := ?_) rfl (by kernel_rfl) (by kernel_rfl) (by kernel_rfl) (fun _ _ _ h => h) (Or.inl ⟨by rfl, ?_⟩) (by assumption) ?_
            rotate_left
            · intro w hSw
              (try dsimp only at hSw)
              go_simp
              (try with_reducible rfl)
            change wpAnyH _ _ _ _ _ _ _ (Act.put _ (some 56) _) _
            simp only [Act.put, List.setIfInBounds_toArray, List.set_cons_zero, List.set_cons_succ]
            refine wpAnyH_take (i := 14) (v := ?_) rfl (by kernel_rfl) (by kernel_rfl) (by kernel_rfl) (fun _ _ _ h => h) (Or.inl ⟨by rfl, ?_⟩) (by assumption) ?_
            rotate_left
            · intro w hSw
              (try dsimp only at hSw)
              go_simp
              (try with_reducible rfl)
            change wpAnyH _ _ _ _ _ _ _ (Act.put _ (some 57) _) _
            simp only [Act.put, List.setIfInBounds_toArray, List.set_cons_zero, List.set_cons_succ]
            refine wpAnyH_ready (rs := [15]) (by kernel_rfl) (by simp) ?_
            refine AllReadyH.cons rfl (fun K hK => ?_) AllReadyH.nil
            · go_simp
              refine hK.out _ _ ?_ (fun hHeld => ?_)
              · ((try dsimp only); (first | assumption | go_keep))
              clear hK K
              (try simp only [Act.put, List.setIfInBounds_toArray, List.set_cons_zero, List.set_cons_succ])
              refine wpAnyH_take (i := 16) (v := ?_) rfl (by kernel_rfl) (by kernel_rfl) (by kernel_rfl) (fun _ _ _ h => h) (Or.inl ⟨by rfl, ?_⟩) (by assumption) ?_
              rotate_left
              · intro w hSw
                (try dsimp only at hSw)
                go_simp
                (try with_reducible rfl)
              change wpAnyH _ _ _ _ _ _ _ (Act.put _ (some 11) _) _
              simp only [Act.put, List.setIfInBounds_toArray, List.set_cons_zero, List.set_cons_succ]
              refine wpAnyH_done (by kernel_rfl) ?_ _
              go_wp2
              go_ret2
              exact ⟨_, _, _, ret_vn2 (by rw [HST.out]), fun e => absurd ((congrArg Prod.snd HST.out).symm.trans e) (by decide), BB6.out.setCell (p := ⟨gs, q * 2 + 1, none⟩) HGL.out.1 _⟩
      · go_simp
        (go_at_call 75; (with_reducible refine (KB.out _).mono ?_); rintro _ w5 ⟨b5, rfl, hc5, hb5⟩; obtain ⟨e0, e1, e2⟩ := SB.out _ (bnext hdw hb5); have hS5 := (And.intro e1 e2))
        (try go_wp2_with fail)
        refine hK.out _ _ ?_ (fun hHeld => ?_)
        · ((try dsimp only); (first | assumption | go_keep))
        clear hK K
        (try simp only [Act.put, List.setIfInBounds_toArray, List.set_cons_zero, List.set_cons_succ])
        refine wpAnyH_ready (rs := [4]) (by kernel_rfl) (by simp) ?_
        refine AllReadyH.cons rfl (fun K hK => ?_) AllReadyH.nil
        · go_simp
          refine hK.out _ _ ?_ (fun hHeld => ?_)
          · ((try dsimp only); (first | assumption | go_keep))
          clear hK K
          (try simp only [Act.put, List.setIfInBounds_toArray, List.set_cons_zero, List.set_cons_succ])
          refine wpAnyH_ready (rs := [9]) (by kernel_rfl) (by simp) ?_
          refine AllReadyH.cons rfl (fun K hK => ?_) AllReadyH.nil
          · go_simp
            (go_at_call 101; (with_reducible refine (AD.out b5 _ (bnext HBX.out (bnext hdw hb5)) hc5).mono ?_); rintro _ w6 ⟨rfl, hb6⟩; have hbx6 := bnext hdw (bnext hb5 hb6); have fz6 := HFZ.out _ hbx6; obtain ⟨x0, x1, x2⟩ := SB.out _ hbx6; have hS6 := (And.intro x1 x2); have BB6 := Lib.hid ((bnext HBX.out hbx6).mono hB))
            (try go_wp2_with fail)
            refine hK.out _ _ ?_ (fun hHeld => ?_)
            · ((try dsimp only); (first | assumption | go_keep))
            clear hK K
            (try simp only [Act.put, List.setIfInBounds_toArray, List.set_cons_zero, List.set_cons_succ])
            refine wpAnyH_take (i := 10) (v := ?_) rfl (by kernel_rfl) (by kernel_rfl) (by kernel_rfl) (fun _ _ _ h => h) (Or.inl ⟨by rfl, ?_⟩) (by assumption) ?_
            rotate_left
            · intro w hSw
              (try dsimp only at hSw)
              go_simp
              (try with_reducible rfl)
            change wpAnyH _ _ _ _ _ _ _ (Act.put _ (some 43) _) _
            simp only [Act.put, List.setIfInBounds_toArray, List.set_cons_zero, List.set_cons_succ]
            refine wpAnyH_take (i := 11) (v := ?_) rfl (by kernel_rfl) (by kernel_rfl) (by kernel_rfl) (fun _ _ _ h => h) (Or.inl ⟨by rfl, ?_⟩) (by assumption) ?_
            rotate_left
            · intro w hSw
              (try dsimp only at hSw)
              go_simp
              (try with_reducible rfl)
            change wpAnyH _ _ _ _ _ _ _ (Act.put _ (some 54) _) _
            simp only [Act.put, List.setIfInBounds_toArray, List.set_cons_zero, List.set_cons_succ]
            refine wpAnyH_take (i := 12) (v := ?_) rfl (by kernel_rfl) (by kernel_rfl) (by kernel_rfl) (fun _ _ _ h => h) (Or.inl ⟨by rfl, ?_⟩) (by assumption) ?_
            rotate_left
            · intro w hSw
              (try dsimp only at hSw)
              go_simp
              (try with_reducible rfl)
            change wpAnyH _ _ _ _ _ _ _ (Act.put _ (some 55) _) _
            simp only [Act.put, List.setIfInBounds_toArray, List.set_cons_zero, List.set_cons_succ]
            refine wpAnyH_take (i := 13) (v := ?_) rfl (by kernel_rfl) (by kernel_rfl) (by kernel_rfl) (fun _ _ _ h => h) (Or.inl ⟨by rfl, ?_⟩) (by assumption) ?_
            rotate_left
            · intro w hSw
              (try dsimp only at hSw)
              go_simp
              (try with_reducible rfl)
            change wpAnyH _ _ _ _ _ _ _ (Act.put _ (some 56) _) _
            simp only [Act.put, List.setIfInBounds_toArray, List.set_cons_zero, List.set_cons_succ]
            refine wpAnyH_take (i := 14) (v := ?_) rfl (by kernel_rfl) (by kernel_rfl) (by kernel_rfl) (fun _ _ _ h => h) (Or.inl ⟨by rfl, ?_⟩) (by assumption) ?_
            rotate_left
            · intro w hSw
              (try dsimp only at hSw)
              go_simp
              (try with_reducible rfl)
            change wpAnyH _ _ _ _ _ _ _ (Act.put _ (some 57) _) _
            simp only [Act.put, List.setIfInBounds_toArray, List.set_cons_zero, List.set_cons_succ]
            refine wpAnyH_ready (rs := [15]) (by kernel_rfl) (by simp) ?_
            refine AllReadyH.cons rfl (fun K hK => ?_) AllReadyH.nil
            · go_simp
              refine hK.out _ _ ?_ (fun hHeld => ?_)
              · ((try dsimp only); (first | assumption | go_keep))
              clear hK K
              (try simp only [Act.put, List.setIfInBounds_toArray, List.set_cons_zero, List.set_cons_succ])
              refine wpAnyH_take (i := 16) (v := ?_) rfl (by kernel_rfl) (by kernel_rfl) (by kernel_rfl) (fun _ _ _ h => h) (Or.inl ⟨by rfl, ?_⟩) (by assumption) ?_
              rotate_left
              · intro w hSw
                (try dsimp only at hSw)
                go_simp
                (try with_reducible rfl)
              change wpAnyH _ _ _ _ _ _ _ (Act.put _ (some 11) _) _
              simp only [Act.put, List.setIfInBounds_toArray, List.set_cons_zero, List.set_cons_succ]
              refine wpAnyH_done (by kernel_rfl) ?_ _
              go_wp2
              go_ret2
              exact ⟨_, _, _, ret_vn2 (by rw [HST.out]), fun e => absurd ((congrArg Prod.snd HST.out).symm.trans e) (by decide), BB6.out.setCell (p := ⟨gs, q * 2 + 1, none⟩) HGL.out.1 _⟩
  | false =>
    rw [if_neg (by decide)] at HST
    by_cases h16 : 16 ≤ nk
    · rw [if_pos (by omega)] at HST
      have AD := Lib.hid (fun (b : Nat) (W : World) (h1 : Below w.heap.size w W) (h2 : W.cell? ⟨b, 0, none⟩ = some (.string KS)) => addedK_full Au nk cu h16 KS VS (.func (.func 103) #[] #[.pointer (some ⟨b, 0, none⟩)]) ⟨b, rfl⟩ W (fun W2 h3 => CF.out b W2 (bnext h1 h3) (cellb h3 h2)))
      clear CF ROW
      go_enter Tryz.func72, Tryz.ntmps72
      go_wp2_with (first
        | (go_at_call 97; refine SE2.out.mono ?_; rintro _ w1 ⟨M, rfl, rfl⟩)
        | (go_at_call 100; refine PC.out.mono ?_; rintro _ w2 ⟨rfl, hb2⟩))
      obtain ⟨p0, p1, -, -⟩ := two_new w2 (.string KS) (.string VS) 97
      have hbX := bnext hb2 (alloc_below w2 (.cells #[.string KS, .string VS] 97))
      have lt0 : w.heap.size < (w2.alloc (.cells #[.string KS, .string VS] 97)).heap.size := Nat.lt_of_le_of_lt hb2.size (by simp)
      obtain ⟨X, hX⟩ : ∃ X, w2.alloc (.cells #[.string KS, .string VS] 97) = X := ⟨_, rfl⟩
      rw [hX] at p0 p1 hbX ⊢
      have d0 := cellb hbX c1
      have fd0 := (hbX.frozen (p := ⟨gs, q * 2 + 1, none⟩) (by have := HGL.out.2; simp only; omega)).trans f1
      have HBX := Lib.hid hbX
      have HFZ := Lib.hid (show ∀ W, Below X.heap.size X W → W.frozen? ⟨gs, q * 2 + 1, none⟩ = false from fun W h => (h.frozen (p := ⟨gs, q * 2 + 1, none⟩) (by have := HGL.out.2; have := HBX.out.size; simp only; omega)).trans fd0)
      have hdw : Below X.heap.size X X.drew := (Below.refl _ _).drew
      have hpb : w2.heap.size < X.heap.size := by rw [← hX]; simp
      have HPB := Lib.hid hpb
      have SB := Lib.hid (show ∀ W, Below X.heap.size X W → W.cell? ⟨gs, q * 2 + 1, none⟩ = some (.slice Au nk cu) ∧ W.cell? ⟨w2.heap.size, 0, none⟩ = some (.string KS) ∧ W.cell? ⟨w2.heap.size, 1, none⟩ = some (.string VS) from fun W h => ⟨cellb h d0, cellb h p0, cellb h p1⟩)
      have HW2 := Lib.hid hb2.size
      clear hb2 hbX hX c0 c1 f1 lt0 hpb
      have hne1 : ¬ gs = w2.heap.size := by have := HGL.out.2; have := HW2.out; omega
      have hne2 : ¬ w2.heap.size = gs := fun e => hne1 e.symm
      refine wp_region_held_drew (S := fun y => y.cell? ⟨w2.heap.size, 0, none⟩ = some (.string KS) ∧ y.cell? ⟨w2.heap.size, 1, none⟩ = some (.string VS)) (by kernel_rfl) ?hs (fun hHeld => ?hr)
      case hs => ((try dsimp only); (first | assumption | go_keep))
      case hr =>
        refine wpAnyH_take (i := 0) (v := ?_) rfl (by kernel_rfl) (by kernel_rfl) (by kernel_rfl) (fun _ _ _ h => h) (Or.inl ⟨by rfl, ?_⟩) (by assumption) ?_
        rotate_left
        · intro w hSw
          (try dsimp only at hSw)
          go_simp
          (try with_reducible rfl)
        change wpAnyH _ _ _ _ _ _ _ (Act.put _ (some 44) _) _
        simp only [Act.put, List.setIfInBounds_toArray, List.set_cons_zero, List.set_cons_succ]
        refine wpAnyH_take (i := 1) (v := ?_) rfl (by kernel_rfl) (by kernel_rfl) (by kernel_rfl) (fun _ _ _ h => h) (Or.inl ⟨by rfl, ?_⟩) (by assumption) ?_
        rotate_left
        · intro w hSw
          (try dsimp only at hSw)
          go_simp
          (try with_reducible rfl)
        change wpAnyH _ _ _ _ _ _ _ (Act.put _ (some 45) _) _
        simp only [Act.put, List.setIfInBounds_toArray, List.set_cons_zero, List.set_cons_succ]
        refine wpAnyH_take (i := 2) (v := ?_) rfl (by kernel_rfl) (by kernel_rfl) (by kernel_rfl) (fun _ _ _ h => h) (Or.inl ⟨by rfl, ?_⟩) (by assumption) ?_
        rotate_left
        · intro w hSw
          (try dsimp only at hSw)
          go_simp
          (try with_reducible rfl)
        change wpAnyH _ _ _ _ _ _ _ (Act.put _ (some 46) _) _
        simp only [Act.put, List.setIfInBounds_toArray, List.set_cons_zero, List.set_cons_succ]
        refine wpAnyH_take (i := 3) (v := ?_) rfl (by kernel_rfl) (by kernel_rfl) (by kernel_rfl) (fun _ _ _ h => h) (Or.inl ⟨by rfl, ?_⟩) (by assumption) ?_
        rotate_left
        · intro w hSw
          (try dsimp only at hSw)
          go_simp
          (try with_reducible rfl)
        change wpAnyH _ _ _ _ _ _ _ (Act.put _ (some 47) _) _
        simp only [Act.put, List.setIfInBounds_toArray, List.set_cons_zero, List.set_cons_succ]
        refine wpAnyH_take (i := 5) (v := ?_) rfl (by kernel_rfl) (by kernel_rfl) (by kernel_rfl) (fun _ _ _ h => h) (Or.inl ⟨by rfl, ?_⟩) (by assumption) ?_
        rotate_left
        · intro w hSw
          (try dsimp only at hSw)
          go_simp
          (try with_reducible rfl)
        change wpAnyH _ _ _ _ _ _ _ (Act.put _ (some 49) _) _
        simp only [Act.put, List.setIfInBounds_toArray, List.set_cons_zero, List.set_cons_succ]
        refine wpAnyH_take (i := 6) (v := ?_) rfl (by kernel_rfl) (by kernel_rfl) (by kernel_rfl) (fun _ _ _ h => h) (Or.inl ⟨by rfl, ?_⟩) (by assumption) ?_
        rotate_left
        · intro w hSw
          (try dsimp only at hSw)
          go_simp
          (try with_reducible rfl)
        change wpAnyH _ _ _ _ _ _ _ (Act.put _ (some 50) _) _
        simp only [Act.put, List.setIfInBounds_toArray, List.set_cons_zero, List.set_cons_succ]
        refine wpAnyH_take (i := 7) (v := ?_) rfl (by kernel_rfl) (by kernel_rfl) (by kernel_rfl) (fun _ _ _ h => h) (Or.inl ⟨by rfl, ?_⟩) (by assumption) ?_
        rotate_left
        · intro w hSw
          (try dsimp only at hSw)
          go_simp
          (try with_reducible rfl)
        change wpAnyH _ _ _ _ _ _ _ (Act.put _ (some 51) _) _
        simp only [Act.put, List.setIfInBounds_toArray, List.set_cons_zero, List.set_cons_succ]
        refine wpAnyH_ready (rs := [4, 8]) (by kernel_rfl) (by simp) ?_
        refine AllReadyH.cons rfl (fun K hK => ?_) (AllReadyH.cons rfl (fun K hK => ?_) AllReadyH.nil)
        · go_simp
          refine hK.out _ _ ?_ (fun hHeld => ?_)
          · ((try dsimp only); (first | assumption | go_keep))
          clear hK K
          (try simp only [Act.put, List.setIfInBounds_toArray, List.set_cons_zero, List.set_cons_succ])
          refine wpAnyH_ready (rs := [8]) (by kernel_rfl) (by simp) ?_
          refine AllReadyH.cons rfl (fun K hK => ?_) AllReadyH.nil
          · go_simp
            (go_at_call 75; (with_reducible refine (KB.out _).mono ?_); rintro _ w5 ⟨b5, rfl, hc5, hb5⟩; obtain ⟨e0, e1, e2⟩ := SB.out _ (bnext hdw hb5); have hS5 := (And.intro e1 e2))
            (try go_wp2_with fail)
            refine hK.out _ _ ?_ (fun hHeld => ?_)
            · ((try dsimp only); (first | assumption | go_keep))
            clear hK K
            (try simp only [Act.put, List.setIfInBounds_toArray, List.set_cons_zero, List.set_cons_succ])
            refine wpAnyH_ready (rs := [9]) (by kernel_rfl) (by simp) ?_
            refine AllReadyH.cons rfl (fun K hK => ?_) AllReadyH.nil
            · go_simp
              (go_at_call 101; (with_reducible refine (AD.out b5 _ (bnext HBX.out (bnext hdw hb5)) hc5).mono ?_); rintro _ w6 ⟨rfl, hb6⟩; have hbx6 := bnext hdw (bnext hb5 hb6); have fz6 := HFZ.out _ hbx6; obtain ⟨x0, x1, x2⟩ := SB.out _ hbx6; have hS6 := (And.intro x1 x2); have BB6 := Lib.hid ((bnext HBX.out hbx6).mono hB))
              (try go_wp2_with fail)
              refine hK.out _ _ ?_ (fun hHeld => ?_)
              · ((try dsimp only); (first | assumption | go_keep))
              clear hK K
              (try simp only [Act.put, List.setIfInBounds_toArray, List.set_cons_zero, List.set_cons_succ])
              refine wpAnyH_take (i := 10) (v := ?_) rfl (by kernel_rfl) (by kernel_rfl) (by kernel_rfl) (fun _ _ _ h => h) (Or.inl ⟨by rfl, ?_⟩) (by assumption) ?_
              rotate_left
              · intro w hSw
                (try dsimp only at hSw)
                go_simp
                (try with_reducible rfl)
              change wpAnyH _ _ _ _ _ _ _ (Act.put _ (some 43) _) _
              simp only [Act.put, List.setIfInBounds_toArray, List.set_cons_zero, List.set_cons_succ]
              refine wpAnyH_take (i := 11) (v := ?_) rfl (by kernel_rfl) (by kernel_rfl) (by kernel_rfl) (fun _ _ _ h => h) (Or.inl ⟨by rfl, ?_⟩) (by assumption) ?_
              rotate_left
              · intro w hSw
                (try dsimp only at hSw)
                go_simp
                (try with_reducible rfl)
              change wpAnyH _ _ _ _ _ _ _ (Act.put _ (some 54) _) _
              simp only [Act.put, List.setIfInBounds_toArray, List.set_cons_zero, List.set_cons_succ]
              refine wpAnyH_take (i := 12) (v := ?_) rfl (by kernel_rfl) (by kernel_rfl) (by kernel_rfl) (fun _ _ _ h => h) (Or.inl ⟨by rfl, ?_⟩) (by assumption) ?_
              rotate_left
              · intro w hSw
                (try dsimp only at hSw)
                go_simp
                (try with_reducible rfl)
              change wpAnyH _ _ _ _ _ _ _ (Act.put _ (some 55) _) _
              simp only [Act.put, List.setIfInBounds_toArray, List.set_cons_zero, List.set_cons_succ]
              refine wpAnyH_take (i := 13) (v := ?_) rfl (by kernel_rfl) (by kernel_rfl) (by kernel_rfl) (fun _ _ _ h => h) (Or.inl ⟨by rfl, ?_⟩) (by assumption) ?_
              rotate_left
              · intro w hSw
                (try dsimp only at hSw)
                go_simp
                (try with_reducible rfl)
              change wpAnyH _ _ _ _ _ _ _ (Act.put _ (some 56) _) _
              simp only [Act.put, List.setIfInBounds_toArray, List.set_cons_zero, List.set_cons_succ]
              refine wpAnyH_take (i := 14) (v := ?_) rfl (by kernel_rfl) (by kernel_rfl) (by kernel_rfl) (fun _ _ _ h => h) (Or.inl ⟨by rfl, ?_⟩) (by assumption) ?_
              rotate_left
              · intro w hSw
                (try dsimp only at hSw)
                go_simp
                (try with_reducible rfl)
              change wpAnyH _ _ _ _ _ _ _ (Act.put _ (some 57) _) _
              simp only [Act.put, List.setIfInBounds_toArray, List.set_cons_zero, List.set_cons_succ]
              refine wpAnyH_ready (rs := [15]) (by kernel_rfl) (by simp) ?_
              refine AllReadyH.cons rfl (fun K hK => ?_) AllReadyH.nil
              · go_simp
                refine hK.out _ _ ?_ (fun hHeld => ?_)
                · ((try dsimp only); (first | assumption | go_keep))
                clear hK K
                (try simp only [Act.put, List.setIfInBounds_toArray, List.set_cons_zero, List.set_cons_succ])
                refine wpAnyH_take (i := 16) (v := ?_) rfl (by kernel_rfl) (by kernel_rfl) (by kernel_rfl) (fun _ _ _ h => h) (Or.inl ⟨by rfl, ?_⟩) (by assumption) ?_
                rotate_left
                · intro w hSw
                  (try dsimp only at hSw)
                  go_simp
                  (try with_reducible rfl)
                change wpAnyH _ _ _ _ _ _ _ (Act.put _ (some 11) _) _
                simp only [Act.put, List.setIfInBounds_toArray, List.set_cons_zero, List.set_cons_succ]
                refine wpAnyH_done (by kernel_rfl) ?_ _
                go_wp2
                go_ret2
                exact ⟨_, _, _, ret_vn2 (by rw [HST.out]), fun e => absurd ((congrArg Prod.snd HST.out).symm.trans e) (by decide), BB6.out.setCell (p := ⟨gs, q * 2 + 1, none⟩) HGL.out.1 _⟩
        · go_simp
          (go_at_call 75; (with_reducible refine (KB.out _).mono ?_); rintro _ w5 ⟨b5, rfl, hc5, hb5⟩; obtain ⟨e0, e1, e2⟩ := SB.out _ (bnext hdw hb5); have hS5 := (And.intro e1 e2))
          (try go_wp2_with fail)
          refine hK.out _ _ ?_ (fun hHeld => ?_)
          · ((try dsimp only); (first | assumption | go_keep))
          clear hK K
          (try simp only [Act.put, List.setIfInBounds_toArray, List.set_cons_zero, List.set_cons_succ])
          refine wpAnyH_ready (rs := [4]) (by kernel_rfl) (by simp) ?_
          refine AllReadyH.cons rfl (fun K hK => ?_) AllReadyH.nil
          · go_simp
            refine hK.out _ _ ?_ (fun hHeld => ?_)
            · ((try dsimp only); (first | assumption | go_keep))
            clear hK K
            (try simp only [Act.put, List.setIfInBounds_toArray, List.set_cons_zero, List.set_cons_succ])
            refine wpAnyH_ready (rs := [9]) (by kernel_rfl) (by simp) ?_
            refine AllReadyH.cons rfl (fun K hK => ?_) AllReadyH.nil
            · go_simp
              (go_at_call 101; (with_reducible refine (AD.out b5 _ (bnext HBX.out (bnext hdw hb5)) hc5).mono ?_); rintro _ w6 ⟨rfl, hb6⟩; have hbx6 := bnext hdw (bnext hb5 hb6); have fz6 := HFZ.out _ hbx6; obtain ⟨x0, x1, x2⟩ := SB.out _ hbx6; have hS6 := (And.intro x1 x2); have BB6 := Lib.hid ((bnext HBX.out hbx6).mono hB))
              (try go_wp2_with fail)
              refine hK.out _ _ ?_ (fun hHeld => ?_)
              · ((try dsimp only); (first | assumption | go_keep))
              clear hK K
              (try simp only [Act.put, List.setIfInBounds_toArray, List.set_cons_zero, List.set_cons_succ])
              refine wpAnyH_take (i := 10) (v := ?_) rfl (by kernel_rfl) (by kernel_rfl) (by kernel_rfl) (fun _ _ _ h => h) (Or.inl ⟨by rfl, ?_⟩) (by assumption) ?_
              rotate_left
              · intro w hSw
                (try dsimp only at hSw)
                go_simp
                (try with_reducible rfl)
              change wpAnyH _ _ _ _ _ _ _ (Act.put _ (some 43) _) _
              simp only [Act.put, List.setIfInBounds_toArray, List.set_cons_zero, List.set_cons_succ]
              refine wpAnyH_take (i := 11) (v := ?_) rfl (by kernel_rfl) (by kernel_rfl) (by kernel_rfl) (fun _ _ _ h => h) (Or.inl ⟨by rfl, ?_⟩) (by assumption) ?_
              rotate_left
              · intro w hSw
                (try dsimp only at hSw)
                go_simp
                (try with_reducible rfl)
              change wpAnyH _ _ _ _ _ _ _ (Act.put _ (some 54) _) _
              simp only [Act.put, List.setIfInBounds_toArray, List.set_cons_zero, List.set_cons_succ]
              refine wpAnyH_take (i := 12) (v := ?_) rfl (by kernel_rfl) (by kernel_rfl) (by kernel_rfl) (fun _ _ _ h => h) (Or.inl ⟨by rfl, ?_⟩) (by assumption) ?_
              rotate_left
              · intro w hSw
                (try dsimp only at hSw)
                go_simp
                (try with_reducible rfl)
              change wpAnyH _ _ _ _ _ _ _ (Act.put _ (some 55) _) _
              simp only [Act.put, List.setIfInBounds_toArray, List.set_cons_zero, List.set_cons_succ]
              refine wpAnyH_take (i := 13) (v := ?_) rfl (by kernel_rfl) (by kernel_rfl) (by kernel_rfl) (fun _ _ _ h => h) (Or.inl ⟨by rfl, ?_⟩) (by assumption) ?_
              rotate_left
              · intro w hSw
                (try dsimp only at hSw)
                go_simp
                (try with_reducible rfl)
              change wpAnyH _ _ _ _ _ _ _ (Act.put _ (some 56) _) _
              simp only [Act.put, List.setIfInBounds_toArray, List.set_cons_zero, List.set_cons_succ]
              refine wpAnyH_take (i := 14) (v := ?_) rfl (by kernel_rfl) (by kernel_rfl) (by kernel_rfl) (fun _ _ _ h => h) (Or.inl ⟨by rfl, ?_⟩) (by assumption) ?_
              rotate_left
              · intro w hSw
                (try dsimp only at hSw)
                go_simp
                (try with_reducible rfl)
              change wpAnyH _ _ _ _ _ _ _ (Act.put _ (some 57) _) _
              simp only [Act.put, List.setIfInBounds_toArray, List.set_cons_zero, List.set_cons_succ]
              refine wpAnyH_ready (rs := [15]) (by kernel_rfl) (by simp) ?_
              refine AllReadyH.cons rfl (fun K hK => ?_) AllReadyH.nil
              · go_simp
                refine hK.out _ _ ?_ (fun hHeld => ?_)
                · ((try dsimp only); (first | assumption | go_keep))
                clear hK K
                (try simp only [Act.put, List.setIfInBounds_toArray, List.set_cons_zero, List.set_cons_succ])
                refine wpAnyH_take (i := 16) (v := ?_) rfl (by kernel_rfl) (by kernel_rfl) (by kernel_rfl) (fun _ _ _ h => h) (Or.inl ⟨by rfl, ?_⟩) (by assumption) ?_
                rotate_left
                · intro w hSw
                  (try dsimp only at hSw)
                  go_simp
                  (try with_reducible rfl)
                change wpAnyH _ _ _ _ _ _ _ (Act.put _ (some 11) _) _
                simp only [Act.put, List.setIfInBounds_toArray, List.set_cons_zero, List.set_cons_succ]
                refine wpAnyH_done (by kernel_rfl) ?_ _
                go_wp2
                go_ret2
                exact ⟨_, _, _, ret_vn2 (by rw [HST.out]), fun e => absurd ((congrArg Prod.snd HST.out).symm.trans e) (by decide), BB6.out.setCell (p := ⟨gs, q * 2 + 1, none⟩) HGL.out.1 _⟩
    · rw [if_neg (by omega)] at HST
      have AD := Lib.hid (fun (b : Nat) (W : World) (h1 : Below w.heap.size w W) (h2 : W.cell? ⟨b, 0, none⟩ = some (.string KS)) => addedK_room B Au nk cu (kvC kl) h16 KS VS (.func (.func 103) #[] #[.pointer (some ⟨b, 0, none⟩)]) ⟨b, rfl⟩ W (Nat.le_trans hB h1.size) (ROW.out W h1) (fun W2 h3 => CF.out b W2 (bnext h1 h3) (cellb h3 h2)))
      have FIN := Lib.hid (show ∀ (wa w6 : World) (g cap : Nat), Below w.heap.size w wa → wa.grownBy w6 (Value.ownBlock (.slice Au nk cu)) → w6.ownsRow B 97 2 (.slice (some ⟨g, 0, none⟩) (nk + 1) cap) (nk + 1) (kvC kl ++ [.string KS, .string VS]) → (Value.ownBlock (.slice Au nk cu) = some g ∨ wa.heap.size ≤ g) →
          w6.cell? ⟨gs, q * 2 + 1, none⟩ = some (.slice Au nk cu) ∧ w6.frozen? ⟨gs, q * 2 + 1, none⟩ = false ∧ (∀ j, Value.ownBlock (.slice Au nk cu) = some j → j < w.heap.size) ∧
          Grew B w ((ui ++ [((.slice Au nk cu : Value), ((nm, kl) : Sec))]).map Prod.snd) (bs s) (.returned (.tuple #[.slice (some ⟨gs, 0, none⟩) nu c, .int .i64 0])) (w6.setCell ⟨gs, q * 2 + 1, none⟩ (.slice (some ⟨g, 0, none⟩) (nk + 1) cap)) from fun wa w6 g cap h1 hg ho hat => by
        have hM := @ScUs.more B wa w6 gs nu c ui (.slice Au nk cu) (nm, kl) (K, V) g cap (HU0.out.below h1) (by simp only [kvC1, HNK.out, HKS.out, HVS.out]; exact ho) hg hat
        rw [HQ.out] at hM
        obtain ⟨a1, a2, a3⟩ := hM
        simp only [HNK.out] at a3
        have hw := ROW.out w (Below.refl _ _)
        refine ⟨a1, a2, fun j ej => (own_lt hw ej).2, ?_⟩
        refine ⟨_, _, _, ret_vn2 (by rw [HST.out]), fun _ => ⟨_, by rw [HST.out, List.map_append]; rfl, a3⟩, ?_⟩
        exact ((h1.mono hB).grown hg (Nat.le_trans hB h1.size) (fun j ej => (own_lt hw ej).1)).setCell (p := ⟨gs, q * 2 + 1, none⟩) HGL.out.1 _)
      have RLT := Lib.hid (show ∀ j, Value.ownBlock (.slice Au nk cu) = some j → j < w.heap.size from fun j ej => (own_lt (ROW.out w (Below.refl _ _)) ej).2)
      clear h16
      clear CF ROW
      go_enter Tryz.func72, Tryz.ntmps72
      go_wp2_with (first
        | (go_at_call 97; refine SE2.out.mono ?_; rintro _ w1 ⟨M, rfl, rfl⟩)
        | (go_at_call 100; refine PC.out.mono ?_; rintro _ w2 ⟨rfl, hb2⟩))
      obtain ⟨p0, p1, -, -⟩ := two_new w2 (.string KS) (.string VS) 97
      have hbX := bnext hb2 (alloc_below w2 (.cells #[.string KS, .string VS] 97))
      have lt0 : w.heap.size < (w2.alloc (.cells #[.string KS, .string VS] 97)).heap.size := Nat.lt_of_le_of_lt hb2.size (by simp)
      obtain ⟨X, hX⟩ : ∃ X, w2.alloc (.cells #[.string KS, .string VS] 97) = X := ⟨_, rfl⟩
      rw [hX] at p0 p1 hbX ⊢
      have d0 := cellb hbX c1
      have fd0 := (hbX.frozen (p := ⟨gs, q * 2 + 1, none⟩) (by have := HGL.out.2; simp only; omega)).trans f1
      have HBX := Lib.hid hbX
      have HFZ := Lib.hid (show ∀ W, Below X.heap.size X W → W.frozen? ⟨gs, q * 2 + 1, none⟩ = false from fun W h => (h.frozen (p := ⟨gs, q * 2 + 1, none⟩) (by have := HGL.out.2; have := HBX.out.size; simp only; omega)).trans fd0)
      have hdw : Below X.heap.size X X.drew := (Below.refl _ _).drew
      have hpb : w2.heap.size < X.heap.size := by rw [← hX]; simp
      have HPB := Lib.hid hpb
      have SB := Lib.hid (show ∀ W, Below X.heap.size X W → W.cell? ⟨gs, q * 2 + 1, none⟩ = some (.slice Au nk cu) ∧ W.cell? ⟨w2.heap.size, 0, none⟩ = some (.string KS) ∧ W.cell? ⟨w2.heap.size, 1, none⟩ = some (.string VS) from fun W h => ⟨cellb h d0, cellb h p0, cellb h p1⟩)
      have HW2 := Lib.hid hb2.size
      have SFAR := Lib.hid (show ∀ (wa w6 : World), Below X.heap.size X wa → wa.grownBy w6 (Value.ownBlock (.slice Au nk cu)) → w6.cell? ⟨w2.heap.size, 0, none⟩ = some (.string KS) ∧ w6.cell? ⟨w2.heap.size, 1, none⟩ = some (.string VS) from fun wa w6 h hg => by
        have hw2 := HW2.out
        have hne : some w2.heap.size ≠ Value.ownBlock (.slice Au nk cu) := fun e => by have := RLT.out _ e.symm; omega
        have hl : w2.heap.size < wa.heap.size := Nat.lt_of_lt_of_le HPB.out h.size
        exact ⟨(World.cell?_of_block (hg.block _ hl hne)).trans (cellb h p0), (World.cell?_of_block (hg.block _ hl hne)).trans (cellb h p1)⟩)
      clear hb2 hbX hX c0 c1 f1 lt0 hpb
      have hne1 : ¬ gs = w2.heap.size := by have := HGL.out.2; have := HW2.out; omega
      have hne2 : ¬ w2.heap.size = gs := fun e => hne1 e.symm
      refine wp_region_held_drew (S := fun y => y.cell? ⟨w2.heap.size, 0, none⟩ = some (.string KS) ∧ y.cell? ⟨w2.heap.size, 1, none⟩ = some (.string VS)) (by kernel_rfl) ?hs (fun hHeld => ?hr)
      case hs => ((try dsimp only); (first | assumption | go_keep))
      case hr =>
        refine wpAnyH_take (i := 0) (v := ?_) rfl (by kernel_rfl) (by kernel_rfl) (by kernel_rfl) (fun _ _ _ h => h) (Or.inl ⟨by rfl, ?_⟩) (by assumption) ?_
        rotate_left
        · intro w hSw
          (try dsimp only at hSw)
          go_simp
          (try with_reducible rfl)
        change wpAnyH _ _ _ _ _ _ _ (Act.put _ (some 44) _) _
        simp only [Act.put, List.setIfInBounds_toArray, List.set_cons_zero, List.set_cons_succ]
        refine wpAnyH_take (i := 1) (v := ?_) rfl (by kernel_rfl) (by kernel_rfl) (by kernel_rfl) (fun _ _ _ h => h) (Or.inl ⟨by rfl, ?_⟩) (by assumption) ?_
        rotate_left
        · intro w hSw
          (try dsimp only at hSw)
          go_simp
          (try with_reducible rfl)
        change wpAnyH _ _ _ _ _ _ _ (Act.put _ (some 45) _) _
        simp only [Act.put, List.setIfInBounds_toArray, List.set_cons_zero, List.set_cons_succ]
        refine wpAnyH_take (i := 2) (v := ?_) rfl (by kernel_rfl) (by kernel_rfl) (by kernel_rfl) (fun _ _ _ h => h) (Or.inl ⟨by rfl, ?_⟩) (by assumption) ?_
        rotate_left
        · intro w hSw
          (try dsimp only at hSw)
          go_simp
          (try with_reducible rfl)
        change wpAnyH _ _ _ _ _ _ _ (Act.put _ (some 46) _) _
        simp only [Act.put, List.setIfInBounds_toArray, List.set_cons_zero, List.set_cons_succ]
        refine wpAnyH_take (i := 3) (v := ?_) rfl (by kernel_rfl) (by kernel_rfl) (by kernel_rfl) (fun _ _ _ h => h) (Or.inl ⟨by rfl, ?_⟩) (by assumption) ?_
        rotate_left
        · intro w hSw
          (try dsimp only at hSw)
          go_simp
          (try with_reducible rfl)
        change wpAnyH _ _ _ _ _ _ _ (Act.put _ (some 47) _) _
        simp only [Act.put, List.setIfInBounds_toArray, List.set_cons_zero, List.set_cons_succ]
        refine wpAnyH_take (i := 5) (v := ?_) rfl (by kernel_rfl) (by kernel_rfl) (by kernel_rfl) (fun _ _ _ h => h) (Or.inl ⟨by rfl, ?_⟩) (by assumption) ?_
        rotate_left
        · intro w hSw
          (try dsimp only at hSw)
          go_simp
          (try with_reducible rfl)
        change wpAnyH _ _ _ _ _ _ _ (Act.put _ (some 49) _) _
        simp only [Act.put, List.setIfInBounds_toArray, List.set_cons_zero, List.set_cons_succ]
        refine wpAnyH_take (i := 6) (v := ?_) rfl (by kernel_rfl) (by kernel_rfl) (by kernel_rfl) (fun _ _ _ h => h) (Or.inl ⟨by rfl, ?_⟩) (by assumption) ?_
        rotate_left
        · intro w hSw
          (try dsimp only at hSw)
          go_simp
          (try with_reducible rfl)
        change wpAnyH _ _ _ _ _ _ _ (Act.put _ (some 50) _) _
        simp only [Act.put, List.setIfInBounds_toArray, List.set_cons_zero, List.set_cons_succ]
        refine wpAnyH_take (i := 7) (v := ?_) rfl (by kernel_rfl) (by kernel_rfl) (by kernel_rfl) (fun _ _ _ h => h) (Or.inl ⟨by rfl, ?_⟩) (by assumption) ?_
        rotate_left
        · intro w hSw
          (try dsimp only at hSw)
          go_simp
          (try with_reducible rfl)
        change wpAnyH _ _ _ _ _ _ _ (Act.put _ (some 51) _) _
        simp only [Act.put, List.setIfInBounds_toArray, List.set_cons_zero, List.set_cons_succ]
        refine wpAnyH_ready (rs := [4, 8]) (by kernel_rfl) (by simp) ?_
        refine AllReadyH.cons rfl (fun K hK => ?_) (AllReadyH.cons rfl (fun K hK => ?_) AllReadyH.nil)
        · go_simp
          refine hK.out _ _ ?_ (fun hHeld => ?_)
          · ((try dsimp only); (first | assumption | go_keep))
          clear hK K
          (try simp only [Act.put, List.setIfInBounds_toArray, List.set_cons_zero, List.set_cons_succ])
          refine wpAnyH_ready (rs := [8]) (by kernel_rfl) (by simp) ?_
          refine AllReadyH.cons rfl (fun K hK => ?_) AllReadyH.nil
          · go_simp
            (go_at_call 75; (with_reducible refine (KB.out _).mono ?_); rintro _ w5 ⟨b5, rfl, hc5, hb5⟩; obtain ⟨e0, e1, e2⟩ := SB.out _ (bnext hdw hb5); have hS5 := (And.intro e1 e2))
            (try go_wp2_with fail)
            refine hK.out _ _ ?_ (fun hHeld => ?_)
            · ((try dsimp only); (first | assumption | go_keep))
            clear hK K
            (try simp only [Act.put, List.setIfInBounds_toArray, List.set_cons_zero, List.set_cons_succ])
            refine wpAnyH_ready (rs := [9]) (by kernel_rfl) (by simp) ?_
            refine AllReadyH.cons rfl (fun K hK => ?_) AllReadyH.nil
            · go_simp
              (go_at_call 101; (with_reducible refine (AD.out b5 _ (bnext HBX.out (bnext hdw hb5)) hc5).mono ?_); rintro _ w6 ⟨wa, g6, cap6, rfl, hb6, hg6, ho6, hat6⟩; obtain ⟨m1, m2, hk6, F6⟩ := FIN.out wa w6 g6 cap6 (bnext HBX.out (bnext hdw (bnext hb5 hb6))) hg6 ho6 hat6;  have hS6 := SFAR.out wa w6 (bnext hdw (bnext hb5 hb6)) hg6; have HF6 := Lib.hid F6; clear hg6 ho6 hat6 F6)
              (try go_wp2_with fail)
              refine hK.out _ _ ?_ (fun hHeld => ?_)
              · ((try dsimp only); (first | assumption | go_keep))
              clear hK K
              (try simp only [Act.put, List.setIfInBounds_toArray, List.set_cons_zero, List.set_cons_succ])
              refine wpAnyH_take (i := 10) (v := ?_) rfl (by kernel_rfl) (by kernel_rfl) (by kernel_rfl) (fun _ _ _ h => h) (Or.inl ⟨by rfl, ?_⟩) (by assumption) ?_
              rotate_left
              · intro w hSw
                (try dsimp only at hSw)
                go_simp
                (try with_reducible rfl)
              change wpAnyH _ _ _ _ _ _ _ (Act.put _ (some 43) _) _
              simp only [Act.put, List.setIfInBounds_toArray, List.set_cons_zero, List.set_cons_succ]
              refine wpAnyH_take (i := 11) (v := ?_) rfl (by kernel_rfl) (by kernel_rfl) (by kernel_rfl) (fun _ _ _ h => h) (Or.inl ⟨by rfl, ?_⟩) (by assumption) ?_
              rotate_left
              · intro w hSw
                (try dsimp only at hSw)
                go_simp
                (try with_reducible rfl)
              change wpAnyH _ _ _ _ _ _ _ (Act.put _ (some 54) _) _
              simp only [Act.put, List.setIfInBounds_toArray, List.set_cons_zero, List.set_cons_succ]
              refine wpAnyH_take (i := 12) (v := ?_) rfl (by kernel_rfl) (by kernel_rfl) (by kernel_rfl) (fun _ _ _ h => h) (Or.inl ⟨by rfl, ?_⟩) (by assumption) ?_
              rotate_left
              · intro w hSw
                (try dsimp only at hSw)
                go_simp
                (try with_reducible rfl)
              change wpAnyH _ _ _ _ _ _ _ (Act.put _ (some 55) _) _
              simp only [Act.put, List.setIfInBounds_toArray, List.set_cons_zero, List.set_cons_succ]
              refine wpAnyH_take (i := 13) (v := ?_) rfl (by kernel_rfl) (by kernel_rfl) (by kernel_rfl) (fun _ _ _ h => h) (Or.inl ⟨by rfl, ?_⟩) (by assumption) ?_
              rotate_left
              · intro w hSw
                (try dsimp only at hSw)
                go_simp
                (try with_reducible rfl)
              change wpAnyH _ _ _ _ _ _ _ (Act.put _ (some 56) _) _
              simp only [Act.put, List.setIfInBounds_toArray, List.set_cons_zero, List.set_cons_succ]
              refine wpAnyH_take (i := 14) (v := ?_) rfl (by kernel_rfl) (by kernel_rfl) (by kernel_rfl) (fun _ _ _ h => h) (Or.inl ⟨by rfl, ?_⟩) (by assumption) ?_
              rotate_left
              · intro w hSw
                (try dsimp only at hSw)
                go_simp
                (try with_reducible rfl)
              change wpAnyH _ _ _ _ _ _ _ (Act.put _ (some 57) _) _
              simp only [Act.put, List.setIfInBounds_toArray, List.set_cons_zero, List.set_cons_succ]
              refine wpAnyH_ready (rs := [15]) (by kernel_rfl) (by simp) ?_
              refine AllReadyH.cons rfl (fun K hK => ?_) AllReadyH.nil
              · go_simp
                refine hK.out _ _ ?_ (fun hHeld => ?_)
                · ((try dsimp only); (first | assumption | go_keep))
                clear hK K
                (try simp only [Act.put, List.setIfInBounds_toArray, List.set_cons_zero, List.set_cons_succ])
                refine wpAnyH_take (i := 16) (v := ?_) rfl (by kernel_rfl) (by kernel_rfl) (by kernel_rfl) (fun _ _ _ h => h) (Or.inl ⟨by rfl, ?_⟩) (by assumption) ?_
                rotate_left
                · intro w hSw
                  (try dsimp only at hSw)
                  go_simp
                  (try with_reducible rfl)
                change wpAnyH _ _ _ _ _ _ _ (Act.put _ (some 11) _) _
                simp only [Act.put, List.setIfInBounds_toArray, List.set_cons_zero, List.set_cons_succ]
                refine wpAnyH_done (by kernel_rfl) ?_ _
                go_wp2
                go_ret2
                exact HF6.out
        · go_simp
          (go_at_call 75; (with_reducible refine (KB.out _).mono ?_); rintro _ w5 ⟨b5, rfl, hc5, hb5⟩; obtain ⟨e0, e1, e2⟩ := SB.out _ (bnext hdw hb5); have hS5 := (And.intro e1 e2))
          (try go_wp2_with fail)
          refine hK.out _ _ ?_ (fun hHeld => ?_)
          · ((try dsimp only); (first | assumption | go_keep))
          clear hK K
          (try simp only [Act.put, List.setIfInBounds_toArray, List.set_cons_zero, List.set_cons_succ])
          refine wpAnyH_ready (rs := [4]) (by kernel_rfl) (by simp) ?_
          refine AllReadyH.cons rfl (fun K hK => ?_) AllReadyH.nil
          · go_simp
            refine hK.out _ _ ?_ (fun hHeld => ?_)
            · ((try dsimp only); (first | assumption | go_keep))
            clear hK K
            (try simp only [Act.put, List.setIfInBounds_toArray, List.set_cons_zero, List.set_cons_succ])
            refine wpAnyH_ready (rs := [9]) (by kernel_rfl) (by simp) ?_
            refine AllReadyH.cons rfl (fun K hK => ?_) AllReadyH.nil
            · go_simp
              (go_at_call 101; (with_reducible refine (AD.out b5 _ (bnext HBX.out (bnext hdw hb5)) hc5).mono ?_); rintro _ w6 ⟨wa, g6, cap6, rfl, hb6, hg6, ho6, hat6⟩; obtain ⟨m1, m2, hk6, F6⟩ := FIN.out wa w6 g6 cap6 (bnext HBX.out (bnext hdw (bnext hb5 hb6))) hg6 ho6 hat6;  have hS6 := SFAR.out wa w6 (bnext hdw (bnext hb5 hb6)) hg6; have HF6 := Lib.hid F6; clear hg6 ho6 hat6 F6)
              (try go_wp2_with fail)
              refine hK.out _ _ ?_ (fun hHeld => ?_)
              · ((try dsimp only); (first | assumption | go_keep))
              clear hK K
              (try simp only [Act.put, List.setIfInBounds_toArray, List.set_cons_zero, List.set_cons_succ])
              refine wpAnyH_take (i := 10) (v := ?_) rfl (by kernel_rfl) (by kernel_rfl) (by kernel_rfl) (fun _ _ _ h => h) (Or.inl ⟨by rfl, ?_⟩) (by assumption) ?_
              rotate_left
              · intro w hSw
                (try dsimp only at hSw)
                go_simp
                (try with_reducible rfl)
              change wpAnyH _ _ _ _ _ _ _ (Act.put _ (some 43) _) _
              simp only [Act.put, List.setIfInBounds_toArray, List.set_cons_zero, List.set_cons_succ]
              refine wpAnyH_take (i := 11) (v := ?_) rfl (by kernel_rfl) (by kernel_rfl) (by kernel_rfl) (fun _ _ _ h => h) (Or.inl ⟨by rfl, ?_⟩) (by assumption) ?_
              rotate_left
              · intro w hSw
                (try dsimp only at hSw)
                go_simp
                (try with_reducible rfl)
              change wpAnyH _ _ _ _ _ _ _ (Act.put _ (some 54) _) _
              simp only [Act.put, List.setIfInBounds_toArray, List.set_cons_zero, List.set_cons_succ]
              refine wpAnyH_take (i := 12) (v := ?_) rfl (by kernel_rfl) (by kernel_rfl) (by kernel_rfl) (fun _ _ _ h => h) (Or.inl ⟨by rfl, ?_⟩) (by assumption) ?_
              rotate_left
              · intro w hSw
                (try dsimp only at hSw)
                go_simp
                (try with_reducible rfl)
              change wpAnyH _ _ _ _ _ _ _ (Act.put _ (some 55) _) _
              simp only [Act.put, List.setIfInBounds_toArray, List.set_cons_zero, List.set_cons_succ]
              refine wpAnyH_take (i := 13) (v := ?_) rfl (by kernel_rfl) (by kernel_rfl) (by kernel_rfl) (fun _ _ _ h => h) (Or.inl ⟨by rfl, ?_⟩) (by assumption) ?_
              rotate_left
              · intro w hSw
                (try dsimp only at hSw)
                go_simp
                (try with_reducible rfl)
              change wpAnyH _ _ _ _ _ _ _ (Act.put _ (some 56) _) _
              simp only [Act.put, List.setIfInBounds_toArray, List.set_cons_zero, List.set_cons_succ]
              refine wpAnyH_take (i := 14) (v := ?_) rfl (by kernel_rfl) (by kernel_rfl) (by kernel_rfl) (fun _ _ _ h => h) (Or.inl ⟨by rfl, ?_⟩) (by assumption) ?_
              rotate_left
              · intro w hSw
                (try dsimp only at hSw)
                go_simp
                (try with_reducible rfl)
              change wpAnyH _ _ _ _ _ _ _ (Act.put _ (some 57) _) _
              simp only [Act.put, List.setIfInBounds_toArray, List.set_cons_zero, List.set_cons_succ]
              refine wpAnyH_ready (rs := [15]) (by kernel_rfl) (by simp) ?_
              refine AllReadyH.cons rfl (fun K hK => ?_) AllReadyH.nil
              · go_simp
                refine hK.out _ _ ?_ (fun hHeld => ?_)
                · ((try dsimp only); (first | assumption | go_keep))
                clear hK K
                (try simp only [Act.put, List.setIfInBounds_toArray, List.set_cons_zero, List.set_cons_succ])
                refine wpAnyH_take (i := 16) (v := ?_) rfl (by kernel_rfl) (by kernel_rfl) (by kernel_rfl) (fun _ _ _ h => h) (Or.inl ⟨by rfl, ?_⟩) (by assumption) ?_
                rotate_left
                · intro w hSw
                  (try dsimp only at hSw)
                  go_simp
                  (try with_reducible rfl)
                change wpAnyH _ _ _ _ _ _ _ (Act.put _ (some 11) _) _
                simp only [Act.put, List.setIfInBounds_toArray, List.set_cons_zero, List.set_cons_succ]
                refine wpAnyH_done (by kernel_rfl) ?_ _
                go_wp2
                go_ret2
                exact HF6.out
end Go.Proofs.YtodlgbihdehmbaaGreatDoor.Cf.KP
