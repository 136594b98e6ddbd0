/-
  Contracts of the library's stable sort at floats, the seventh part: the merge for rows of all lengths; the blocks; the sort.
-/
import Derived.Test.YtcppcfjejalggaaFloPY
set_option linter.unusedSimpArgs false
set_option linter.unusedVariables false
namespace Go.Proofs.Ytcppcfjejalggaa.LP
open Go.RowKit Go.Shelf Go.Lib Go.Sort
theorem sym_all (w0 : World) (blk off cap n : Nat) (R : Told w0 blk off n) (hn : n ≤ 1000) : ∀ N, Merges w0 blk off cap n N := by
  intro N
  induction N with
  | zero => intro P L Q T l a m b h; omega
  | succ N ih =>
    intro P L Q T l a m b hN hl hL hQ upL upQ ha hm hb hr W S
    by_cases h1 : L.length = 1
    · obtain ⟨x, rfl⟩ := List.length_eq_one_iff.1 h1
      exact sym_one w0 blk off cap n P Q T l x a m b R hn (by simp at hl; omega) upQ ha (by simp at hm; omega) hb hr W (by simpa using S)
    · by_cases h2 : Q.length = 1
      · obtain ⟨x, rfl⟩ := List.length_eq_one_iff.1 h2
        exact sym_last w0 blk off cap n P L T l x a m b R hn (by simp at hl; omega) upL (by omega) ha hm (by simp at hb; omega) hr W (by simpa using S)
      · refine sym_step w0 blk off cap n P L Q T l a m b R hn ?_ hl upL upQ (by omega) (by omega) ha hm hb hr W S
        intro P' L' Q' T' l' a' m' b' hN'
        exact ih P' L' Q' T' l' a' m' b' (by omega)
theorem sym_c (w0 : World) (blk off cap n : Nat) (P L Q T l : List Fl) (a m b : Int) (R : Told w0 blk off n) (hn : n ≤ 1000) (hl : P.length + L.length + Q.length + T.length = n) (hL : 0 < L.length) (hQ : 0 < Q.length) (upL : ST.Up rkF L) (upQ : ST.Up rkF Q)
    (ha : a = P.length) (hm : m = a + L.length) (hb : b = m + Q.length) (hr : P ++ (ST.mg rkF L Q ++ T) = l) (W : World) (S : SL w0 blk off (P ++ (L ++ (Q ++ T))) W) :
    Calls Try.prog 71 #[.slice (some ⟨blk, off, none⟩) n cap, .int .i64 a, .int .i64 m, .int .i64 b, .func (.func 17) #[] #[]] W fun e w' => e = .returned (.tuple #[]) ∧ SL w0 blk off l w' :=
  sym_all w0 blk off cap n R hn (L.length + Q.length + 1) P L Q T l a m b (by omega) hl hL hQ upL upQ ha hm hb hr W S
/-- The kit's insertion, in the words of this text. -/
theorem ins_c (w0 : World) (blk off cap n : Nat) (P U T l : List Fl) (a b : Int) (R : Told w0 blk off n) (hn : n ≤ 1000) (hl : P.length + U.length + T.length = n)
    (ha : a = P.length) (hb : b = a + U.length) (hr : P ++ (ST.srt rkF U ++ T) = l) (W : World) (S : SL w0 blk off (P ++ (U ++ T)) W) :
    Calls Try.prog 70 #[.slice (some ⟨blk, off, none⟩) n cap, .int .i64 a, .int .i64 b, .func (.func 17) #[] #[]] W fun e w' => e = .returned (.tuple #[]) ∧ SL w0 blk off l w' := by
  obtain ⟨d0, R0, hd⟩ := R
  have hsz : (P ++ (U ++ T)).toArray.size = n := by simp; omega
  have h := Any.insertionSortCmpFunc_s lays20 encF cfF 17 #[] blk off cap P.length (P.length + U.length) d0 (P ++ (U ++ T)).toArray w0 W
    (enters_of Try.func17 (by kernel_rfl) rfl) (cmp_lays w0 blk off d0.size) R0 (by rw [hd, hsz]) S (by omega) (by rw [hsz]; omega) (by rw [hsz]; omega)
  rw [hsz, lt_is, ST.ins_is rkF P U T, hr] at h
  have e1 : ((P.length : Nat) : Int) = a := ha.symm
  have e2 : ((P.length + U.length : Nat) : Int) = b := by omega
  rw [e1, e2] at h
  exact h
/-- Where the first pass stands. -/
def Pass (w0 : World) (blk off n : Nat) (l0 : List Fl) (a : Int) (W : World) : Prop := ∃ P U : List Fl, a = (P.length : Int) ∧ P.length + U.length = n ∧ P ++ ST.chk rkF 20 U = ST.chk rkF 20 l0 ∧ SL w0 blk off (P ++ U) W
/-- Where a later pass stands. -/
def Later (w0 : World) (blk off n : Nat) (l0 : List Fl) (bs a : Int) (W : World) : Prop := ∃ (B : Nat) (P U : List Fl), bs = (B : Int) ∧ a = (P.length : Int) ∧ P.length + U.length = n ∧ P ++ ST.chk rkF (2 * B) U = ST.chk rkF (2 * B) l0 ∧ SL w0 blk off (P ++ ST.chk rkF B U) W
theorem pass_step (w0 : World) (blk off cap n : Nat) (l0 : List Fl) (a b : Int) (R : Told w0 blk off n) (hn : n ≤ 1000) (hb : b = a + 20) (hbn : b ≤ n) (W : World) (h : Pass w0 blk off n l0 a W) :
    Calls Try.prog 70 #[.slice (some ⟨blk, off, none⟩) n cap, .int .i64 a, .int .i64 b, .func (.func 17) #[] #[]] W fun e w' => e = .returned (.tuple #[]) ∧ Pass w0 blk off n l0 b w' := by
  obtain ⟨P, U, h1, h2, h3, h4⟩ := h
  have e := ST.chk_step rkF (bs := 20) (l := U) (by decide) (by omega)
  refine (ins_c w0 blk off cap n P (U.take 20) (U.drop 20) _ a b R hn (by rw [List.length_take, List.length_drop]; omega) h1 (by rw [List.length_take]; omega) rfl W (by rw [List.take_append_drop]; exact h4)).mono ?_
  rintro _ w' ⟨h, s⟩
  refine ⟨h, P ++ ST.srt rkF (U.take 20), U.drop 20, ?_, ?_, ?_, ?_⟩
  · rw [List.length_append, ST.srt_length, List.length_take]; omega
  · rw [List.length_append, ST.srt_length, List.length_take, List.length_drop]; omega
  · rw [← h3, e, List.append_assoc]
  · rw [List.append_assoc]; exact s
theorem pass_end (w0 : World) (blk off cap n : Nat) (l0 : List Fl) (a b : Int) (R : Told w0 blk off n) (hn : n ≤ 1000) (hb : b = a + 20) (hbn : (n : Int) < b) (W : World) (h : Pass w0 blk off n l0 a W) :
    Calls Try.prog 70 #[.slice (some ⟨blk, off, none⟩) n cap, .int .i64 a, .int .i64 (n : Nat), .func (.func 17) #[] #[]] W fun e w' => e = .returned (.tuple #[]) ∧ SL w0 blk off (ST.chk rkF 20 l0) w' := by
  obtain ⟨P, U, h1, h2, h3, h4⟩ := h
  have e := ST.chk_end rkF (bs := 20) (l := U) (by omega)
  refine ins_c w0 blk off cap n P U [] _ a n R hn (by simp; omega) h1 (by omega) ?_ W (by rw [List.append_nil]; exact h4)
  rw [List.append_nil, ← e]; exact h3
theorem later_start (w0 : World) (blk off n : Nat) (l0 : List Fl) (B : Nat) (hl : l0.length = n) (W : World) (h : SL w0 blk off (ST.chk rkF B l0) W) : Later w0 blk off n l0 B 0 W :=
  ⟨B, [], l0, rfl, rfl, by simpa using hl, rfl, h⟩
theorem later_step (w0 : World) (blk off cap n : Nat) (l0 : List Fl) (bs a b m : Int) (R : Told w0 blk off n) (hn : n ≤ 1000) (h0 : 0 < bs) (hm : m = a + bs) (hb : b = a + 2 * bs) (hbn : b ≤ n) (W : World) (h : Later w0 blk off n l0 bs a W) :
    Calls Try.prog 71 #[.slice (some ⟨blk, off, none⟩) n cap, .int .i64 a, .int .i64 m, .int .i64 b, .func (.func 17) #[] #[]] W fun e w' => e = .returned (.tuple #[]) ∧ Later w0 blk off n l0 bs b w' := by
  obtain ⟨B, P, U, h1, h2, h3, h4, h5⟩ := h
  obtain ⟨e1, e2⟩ := ST.chk_two rkF (bs := B) (l := U) (by omega) (by omega)
  have n1 : (ST.srt rkF (U.take B)).length = B := by rw [ST.srt_length, List.length_take]; omega
  have n2 : (ST.srt rkF ((U.drop B).take B)).length = B := by rw [ST.srt_length, List.length_take, List.length_drop]; omega
  have n3 : (ST.chk rkF B (U.drop (2 * B))).length = U.length - 2 * B := by rw [ST.chk_length, List.length_drop]
  have n4 := ST.mg_length rkF (ST.srt rkF (U.take B)) (ST.srt rkF ((U.drop B).take B))
  rw [e1] at h5
  refine (sym_c w0 blk off cap n P _ _ _ _ a m b R hn (by omega) (by omega) (by omega) (ST.srt_up rkF _) (ST.srt_up rkF _) h2 (by omega) (by omega) rfl W h5).mono ?_
  rintro _ w' ⟨h, s⟩
  refine ⟨h, B, P ++ ST.mg rkF (ST.srt rkF (U.take B)) (ST.srt rkF ((U.drop B).take B)), U.drop (2 * B), h1, ?_, ?_, ?_, ?_⟩
  · rw [List.length_append, n4]; omega
  · rw [List.length_append, n4, List.length_drop]; omega
  · rw [← h4, e2, List.append_assoc]
  · rw [List.append_assoc]; exact s
theorem later_tail (w0 : World) (blk off cap n : Nat) (l0 : List Fl) (bs a b m : Int) (R : Told w0 blk off n) (hn : n ≤ 1000) (h0 : 0 < bs) (hm : m = a + bs) (hb : b = a + 2 * bs) (hbn : (n : Int) < b) (hmn : m < n) (W : World) (h : Later w0 blk off n l0 bs a W) :
    Calls Try.prog 71 #[.slice (some ⟨blk, off, none⟩) n cap, .int .i64 a, .int .i64 m, .int .i64 (n : Nat), .func (.func 17) #[] #[]] W fun e w' => e = .returned (.tuple #[]) ∧ SL w0 blk off (ST.chk rkF (bs * 2).toNat l0) w' := by
  obtain ⟨B, P, U, h1, h2, h3, h4, h5⟩ := h
  obtain ⟨e1, e2⟩ := ST.chk_tail rkF (bs := B) (l := U) (by omega) (by omega) (by omega)
  have n1 : (ST.srt rkF (U.take B)).length = B := by rw [ST.srt_length, List.length_take]; omega
  have n2 : (ST.srt rkF (U.drop B)).length = U.length - B := by rw [ST.srt_length, List.length_drop]
  have hB : (bs * 2).toNat = 2 * B := by omega
  rw [e1] at h5
  rw [hB]
  refine sym_c w0 blk off cap n P (ST.srt rkF (U.take B)) (ST.srt rkF (U.drop B)) [] _ a m n R hn (by simp only [List.length_nil]; omega) (by omega) (by omega) (ST.srt_up rkF _) (ST.srt_up rkF _) h2 (by omega) (by omega) ?_ W (by rw [List.append_nil]; exact h5)
  rw [List.append_nil, ← h4, e2]
theorem later_idle (w0 : World) (blk off n : Nat) (l0 : List Fl) (bs a m : Int) (h0 : 0 < bs) (hm : m = a + bs) (hmn : (n : Int) ≤ m) (W : World) (h : Later w0 blk off n l0 bs a W) : SL w0 blk off (ST.chk rkF (bs * 2).toNat l0) W := by
  obtain ⟨B, P, U, h1, h2, h3, h4, h5⟩ := h
  have hB : (bs * 2).toNat = 2 * B := by omega
  rw [hB, ← h4, ← ST.chk_last rkF (by omega)]
  exact h5
set_option maxRecDepth 100000 in
set_option maxHeartbeats 4000000 in
theorem stable_c (w0 : World) (blk off cap n : Nat) (l0 : List Fl) (R : Told w0 blk off n) (hn : n ≤ 1000) (hl : l0.length = n) (W : World) (S : SL w0 blk off l0 W) :
    Calls Try.prog 59 #[.slice (some ⟨blk, off, none⟩) n cap, .int .i64 (n : Nat), .func (.func 17) #[] #[]] W fun e w' => e = .returned (.tuple #[]) ∧ SL w0 blk off (ST.srt rkF l0) w' := by
  have hp : Pass w0 blk off n l0 0 W := ⟨[], l0, rfl, by simpa using hl, rfl, S⟩
  have HP := Lib.hid hp; have HR := Lib.hid R; have HL := Lib.hid hl
  clear hp R hl S
  go_enter Try.func59, Try.ntmps59
  go_wp2
  go_loopw [7, 8] (fun e u wr => ∃ a b : Int, 0 ≤ a ∧ a ≤ n ∧ b ≤ n + 20 ∧ 20 ≤ b ∧ e = .int .i64 a ∧ u = .int .i64 b ∧ Hid (b = a + 20 ∧ Pass w0 blk off n l0 a wr)) (fun e u _ => (n + 20 - intOf u).toNat)
  case atStart => exact ⟨0, 20, by omega, by omega, by omega, by omega, rfl, rfl, rfl, HP.out⟩
  case round =>
    clear HP
    obtain ⟨a, b, ha, han, hbn, hb20, rfl, rfl, HS⟩ := hrel
    by_cases hlt : b ≤ n
    · have C := Lib.hid (pass_step w0 blk off cap n l0 a b HR.out hn HS.out.1 hlt wr HS.out.2)
      clear HS
      go_wp2_with fail
      refine C.out.mono ?_; rintro _ w2 ⟨rfl, s2⟩
      have S2 := Lib.hid s2
      clear s2 C
      go_wp2
      go_roundw
      case rel => exact ⟨b, b + 20, by omega, hlt, by omega, by omega, rfl, rfl, rfl, S2.out⟩
      case measure => simp [intOf]; omega
    · have C := Lib.hid (pass_end w0 blk off cap n l0 a b HR.out hn HS.out.1 (by omega) wr HS.out.2)
      clear HS
      go_wp2_with fail
      refine C.out.mono ?_; rintro _ w2 ⟨rfl, s2⟩
      have S2 := Lib.hid s2
      clear s2 C
      go_wp2
      go_loopw [6, 7, 8, 9] (fun e u v x wr => ∃ bs : Int, 0 < bs ∧ bs ≤ 2 * n + 20 ∧ e = .int .i64 bs ∧ Hid (SL w0 blk off (ST.chk rkF bs.toNat l0) wr)) (fun e _ _ _ _ => (n - intOf e).toNat)
      case atStart => exact ⟨20, by omega, by omega, rfl, S2.out⟩
      case round =>
        clear S2
        obtain ⟨bs, hbs0, hbs1, rfl, HS⟩ := hrel
        by_cases hbl : bs < n
        · have L0 := Lib.hid (later_start w0 blk off n l0 bs.toNat HL.out wr HS.out)
          have hbt : ((bs.toNat : Nat) : Int) = bs := by omega
          rw [hbt] at L0
          clear HS hbt
          go_wp2
          go_loopw [7, 8] (fun e u wr => ∃ a b : Int, 0 ≤ a ∧ a ≤ n ∧ b ≤ 3 * n ∧ 0 < b ∧ e = .int .i64 a ∧ u = .int .i64 b ∧ Hid (b = a + 2 * bs ∧ Later w0 blk off n l0 bs a wr)) (fun e u _ => (3 * n - intOf u).toNat)
          case atStart => exact ⟨0, 2 * bs, by omega, by omega, by omega, by omega, rfl, rfl, by omega, L0.out⟩
          case round =>
            clear L0
            obtain ⟨a', b', ha', han', hbn', hb0', rfl, rfl, HS⟩ := hrel
            by_cases hlt' : b' ≤ n
            · have C := Lib.hid (later_step w0 blk off cap n l0 bs a' b' (a' + bs) HR.out hn hbs0 rfl HS.out.1 hlt' wr HS.out.2)
              clear HS
              go_wp2_with fail
              refine C.out.mono ?_; rintro _ w3 ⟨rfl, s3⟩
              have S3 := Lib.hid s3
              clear s3 C
              go_wp2
              go_roundw
              case rel => exact ⟨b', b' + 2 * bs, by omega, hlt', by omega, by omega, rfl, rfl, rfl, S3.out⟩
              case measure => simp [intOf]; omega
            · by_cases hmn : a' + bs < n
              · have C := Lib.hid (later_tail w0 blk off cap n l0 bs a' b' (a' + bs) HR.out hn hbs0 rfl HS.out.1 (by omega) hmn wr HS.out.2)
                clear HS
                go_wp2_with fail
                refine C.out.mono ?_; rintro _ w3 ⟨rfl, s3⟩
                have S3 := Lib.hid s3
                clear s3 C
                go_wp2
                go_roundw
                case rel => exact ⟨bs * 2, by omega, by omega, rfl, S3.out⟩
                case measure => simp [intOf]; omega
              · have S3 := Lib.hid (later_idle w0 blk off n l0 bs a' (a' + bs) hbs0 rfl (by omega) wr HS.out.2)
                clear HS
                go_wp2
                go_roundw
                case rel => exact ⟨bs * 2, by omega, by omega, rfl, S3.out⟩
                case measure => simp [intOf]; omega
        · have E := Lib.hid (show SL w0 blk off (ST.srt rkF l0) wr from by
            have h := HS.out
            rw [ST.chk_end rkF (by have := HL.out; omega)] at h
            exact h)
          clear HS
          go_wp2
          go_end0
          exact ⟨rfl, E.out⟩
end Go.Proofs.Ytcppcfjejalggaa.LP
