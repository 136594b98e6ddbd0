/-
  Contracts of the library's stable sort at floats, the second part: two neighbouring ranges turned round.
-/
import Derived.Test.YtcppcfjejalggaaFloPS
set_option linter.unusedSimpArgs false
set_option linter.unusedVariables false
namespace Go.Proofs.Ytcppcfjejalggaa.LP
open Go.RowKit Go.Shelf Go.Lib Go.Sort
theorem swap_q (w0 : World) (blk off cap n : Nat) (P X Y Z T l : List Fl) (a b c : Int) (R : Told w0 blk off n) (hn : n ≤ 1000) (hz : X.length = Z.length) (hl : P.length + X.length + Y.length + Z.length + T.length = n)
    (ha : a = P.length) (hb : b = P.length + X.length + Y.length) (hc : c = X.length) (hr : P ++ (Z ++ (Y ++ (X ++ T))) = l) (W : World) (S : SL w0 blk off (P ++ (X ++ (Y ++ (Z ++ T)))) W) :
    Calls Try.prog 80 #[.slice (some ⟨blk, off, none⟩) n cap, .int .i64 a, .int .i64 b, .int .i64 c, .func (.func 17) #[] #[]] W fun e w' => e = .returned (.tuple #[]) ∧ SL w0 blk off l w' := by
  subst hr
  have h := swap_c w0 blk off cap n P X Y Z T P.length (P.length + X.length + Y.length) X.length R hn hz hl rfl rfl rfl W S
  have e1 : ((P.length + X.length + Y.length : Nat) : Int) = b := by omega
  rw [e1] at h
  rw [ha, hc]
  exact h
set_option maxRecDepth 100000 in
set_option maxHeartbeats 4000000 in
theorem rot_c (w0 : World) (blk off cap n : Nat) (P L Q T l : List Fl) (a m b : Int) (R : Told w0 blk off n) (hn : n ≤ 1000) (hl : P.length + L.length + Q.length + T.length = n) (hL : 0 < L.length) (hQ : 0 < Q.length)
    (ha : a = P.length) (hm : m = P.length + L.length) (hb : b = P.length + L.length + Q.length) (hr : P ++ (Q ++ (L ++ T)) = l) (W : World) (S : SL w0 blk off (P ++ (L ++ (Q ++ T))) W) :
    Calls Try.prog 78 #[.slice (some ⟨blk, off, none⟩) n cap, .int .i64 a, .int .i64 m, .int .i64 b, .func (.func 17) #[] #[]] W fun e w' => e = .returned (.tuple #[]) ∧ SL w0 blk off l w' := by
  have ha0 : 0 ≤ a := by omega
  have ham : a ≤ m := by omega
  have hmb : m ≤ b := by omega
  have hbn : b ≤ n := by omega
  have h0 : Hid (∃ P' L' Q' T' : List Fl, m - a = (L'.length : Int) ∧ b - m = (Q'.length : Int) ∧ 0 < L'.length ∧ 0 < Q'.length ∧ (P'.length : Int) + L'.length = m ∧ P'.length + L'.length + Q'.length + T'.length = n ∧ P' ++ (Q' ++ (L' ++ T')) = l ∧ SL w0 blk off (P' ++ (L' ++ (Q' ++ T'))) W) :=
    Lib.hid ⟨P, L, Q, T, by omega, by omega, hL, hQ, by omega, hl, hr, S⟩
  have HR := Lib.hid R
  clear S R hl hL hQ ha hm hb hr
  go_enter Try.func78, Try.ntmps78
  go_wp2
  go_loopw [10, 11] (fun e u wr => ∃ x y : Int, 0 < x ∧ 0 < y ∧ x ≤ m ∧ y ≤ n ∧ m + y ≤ n ∧ e = .int .i64 x ∧ u = .int .i64 y ∧ Hid (∃ P' L' Q' T' : List Fl, x = (L'.length : Int) ∧ y = (Q'.length : Int) ∧ 0 < L'.length ∧ 0 < Q'.length ∧ (P'.length : Int) + L'.length = m ∧ P'.length + L'.length + Q'.length + T'.length = n ∧ P' ++ (Q' ++ (L' ++ T')) = l ∧ SL w0 blk off (P' ++ (L' ++ (Q' ++ T'))) wr)) (fun e u _ => (intOf e + intOf u).toNat)
  case atStart =>
    obtain ⟨P', L', Q', T', h1, h2, h3, h4, h5, h6, h7, h8⟩ := h0.out
    exact ⟨m - a, b - m, by omega, by omega, by omega, by omega, by omega, rfl, rfl, h0⟩
  case round =>
    obtain ⟨x, y, hx, hy, hxm, hyn, hmy, rfl, rfl, HS⟩ := hrel
    clear h0
    by_cases hne : x = y
    · subst hne
      have hc : ∀ W', W' = wr → Calls Try.prog 80 #[.slice (some ⟨blk, off, none⟩) n cap, .int .i64 (m - x), .int .i64 m, .int .i64 x, .func (.func 17) #[] #[]] W' fun e w' => e = .returned (.tuple #[]) ∧ SL w0 blk off l w' := by
        rintro W' rfl
        obtain ⟨P', L', Q', T', h1, h2, h3, h4, h5, h6, h7, h8⟩ := HS.out
        exact swap_q w0 blk off cap n P' L' [] Q' T' l _ _ _ HR.out hn (by omega) (by simp; omega) (by omega) (by simp; omega) h1 (by rw [List.nil_append]; exact h7) _ (by rw [List.nil_append]; exact h8)
      have HC := Lib.hid (hc wr rfl)
      clear hc HS
      go_wp2_with fail
      refine HC.out.mono ?_; rintro e w2 ⟨rfl, s2⟩
      have S2 := Lib.hid s2
      clear s2
      go_wp2
      go_end0
      exact ⟨rfl, S2.out⟩
    · have t : (x != y) = true := by rw [bne_iff_ne]; exact hne
      by_cases hgt : y < x
      · have hc : ∀ W', W' = wr → Calls Try.prog 80 #[.slice (some ⟨blk, off, none⟩) n cap, .int .i64 (m - x), .int .i64 m, .int .i64 y, .func (.func 17) #[] #[]] W' fun e w' => e = .returned (.tuple #[]) ∧ (∃ P' L' Q' T' : List Fl, x - y = (L'.length : Int) ∧ y = (Q'.length : Int) ∧ 0 < L'.length ∧ 0 < Q'.length ∧ (P'.length : Int) + L'.length = m ∧ P'.length + L'.length + Q'.length + T'.length = n ∧ P' ++ (Q' ++ (L' ++ T')) = l ∧ SL w0 blk off (P' ++ (L' ++ (Q' ++ T'))) w') := by
          rintro W' rfl
          obtain ⟨P', L', Q', T', h1, h2, h3, h4, h5, h6, h7, h8⟩ := HS.out
          obtain ⟨L1, L2, rfl, hL1⟩ : ∃ L1 L2, L' = L1 ++ L2 ∧ L1.length = Q'.length := ⟨L'.take Q'.length, L'.drop Q'.length, (List.take_append_drop _ _).symm, by rw [List.length_take]; omega⟩
          rw [List.length_append] at h1 h3 h5 h6
          refine (swap_q w0 blk off cap n P' L1 L2 Q' T' (P' ++ (Q' ++ (L2 ++ (L1 ++ T')))) _ _ _ HR.out hn hL1 (by omega) (by omega) (by omega) (by omega) rfl _ (by rw [List.append_assoc] at h8; exact h8)).mono ?_
          rintro e w' ⟨h, s⟩
          refine ⟨h, P' ++ Q', L2, L1, T', by omega, by omega, by omega, by omega, by simp; omega, by simp; omega, by rw [← h7]; simp, ?_⟩
          rw [List.append_assoc]; exact s
        have HC := Lib.hid (hc wr rfl)
        clear hc HS hne
        go_wp2_with fail
        refine HC.out.mono ?_; rintro e w2 ⟨rfl, s2⟩
        have S2 := Lib.hid s2
        clear s2
        go_wp2
        go_roundw
        case rel => exact ⟨x - y, y, by omega, hy, by omega, by omega, by omega, rfl, rfl, S2⟩
        case measure => simp [intOf]; omega
      · have hxy : x < y := by omega
        have hc : ∀ W', W' = wr → Calls Try.prog 80 #[.slice (some ⟨blk, off, none⟩) n cap, .int .i64 (m - x), .int .i64 (m + y - x), .int .i64 x, .func (.func 17) #[] #[]] W' fun e w' => e = .returned (.tuple #[]) ∧ (∃ P' L' Q' T' : List Fl, x = (L'.length : Int) ∧ y - x = (Q'.length : Int) ∧ 0 < L'.length ∧ 0 < Q'.length ∧ (P'.length : Int) + L'.length = m ∧ P'.length + L'.length + Q'.length + T'.length = n ∧ P' ++ (Q' ++ (L' ++ T')) = l ∧ SL w0 blk off (P' ++ (L' ++ (Q' ++ T'))) w') := by
          rintro W' rfl
          obtain ⟨P', L', Q', T', h1, h2, h3, h4, h5, h6, h7, h8⟩ := HS.out
          obtain ⟨Q1, Q2, rfl, hQ2⟩ : ∃ Q1 Q2, Q' = Q1 ++ Q2 ∧ Q2.length = L'.length := ⟨Q'.take (Q'.length - L'.length), Q'.drop (Q'.length - L'.length), (List.take_append_drop _ _).symm, by rw [List.length_drop]; omega⟩
          rw [List.length_append] at h2 h4 h6
          refine (swap_q w0 blk off cap n P' L' Q1 Q2 T' (P' ++ (Q2 ++ (Q1 ++ (L' ++ T')))) _ _ _ HR.out hn hQ2.symm (by omega) (by omega) (by omega) (by omega) rfl _ (by rw [List.append_assoc] at h8; exact h8)).mono ?_
          rintro e w' ⟨h, s⟩
          refine ⟨h, P', Q2, Q1, L' ++ T', by omega, by omega, by omega, by omega, by omega, by simp; omega, by rw [← h7]; simp, s⟩
        have HC := Lib.hid (hc wr rfl)
        clear hc HS hne
        go_wp2_with fail
        refine HC.out.mono ?_; rintro e w2 ⟨rfl, s2⟩
        have S2 := Lib.hid s2
        clear s2
        go_wp2
        go_roundw
        case rel => exact ⟨x, y - x, hx, by omega, by omega, by omega, by omega, rfl, rfl, S2⟩
        case measure => simp [intOf]; omega
end Go.Proofs.Ytcppcfjejalggaa.LP
