/-
  Contracts of the library's stable sort (slices.SortStableFunc) at floats, the first part: the kit's insertion laid here; two ranges exchanged.
-/
import Derived.Test.YtcppcfjejalggaaFloPE
import Derived.Test.YtcppcfjejalggaaFloStable
import Derived.Shelf.SlSortCmp.Insertion1
set_option linter.unusedSimpArgs false
set_option linter.unusedVariables false
namespace Go.Proofs.Ytcppcfjejalggaa.LP
open Go.RowKit Go.Shelf Go.Lib Go.Sort
def ren20 : Go.Shelf.Ren := ⟨fun | 20 => 70 | n => n, fun | 0 => 0 | 3 => 3 | 4 => 4 | 22 => 37 | 24 => 22 | 25 => 35 | n => n, fun | n => n⟩
theorem lays20 : Go.Proofs.SlLaysF.n20 Try.prog ren20 := {
  mixed := by kernel_rfl
  f20 := ⟨"slices.insertionSortCmpFunc[float64]", by kernel_rfl, Try.func70.trans (congrArg some (by kernel_rfl))⟩
  t0 := Try.underlying0
  a0 := Try.isAgg0
  z0 := Try.sizeOf0
  v0 := Try.zeroValue0
  t3 := Try.underlying3
  a3 := Try.isAgg3
  z3 := Try.sizeOf3
  v3 := Try.zeroValue3
  t4 := Try.underlying4
  a4 := Try.isAgg4
  z4 := Try.sizeOf4
  v4 := Try.zeroValue4
  t22 := Try.underlying37
  a22 := Try.isAgg37
  z22 := Try.sizeOf37
  v22 := Try.zeroValue37
  a24 := Try.isAgg22
  z24 := Try.sizeOf22
  t25 := Try.underlying35
  a25 := Try.isAgg35
  z25 := Try.sizeOf35
  v25 := Try.zeroValue35 }
/-- A float's 64 bits. -/
def Fl : Type := {n : Nat // n < 18446744073709551616}
instance : Inhabited Fl := ⟨⟨0, by decide⟩⟩
def encF (x : Fl) : Value := .float .f64 x.1
def cfF (x y : Fl) : Int := fCmp x.1 y.1
def rkF (x : Fl) : Int := fRank x.1
theorem oneF : OneCell encF := fun _ => rfl
theorem cf_neg (x y : Fl) : cfF x y < 0 ↔ rkF x < rkF y := by
  unfold cfF rkF
  rw [fCmp_rank x.2 y.2]
  by_cases h : fRank x.1 < fRank y.1
  · rw [if_pos h]; omega
  · rw [if_neg h]; split <;> omega
theorem lt_is : ltOf cfF = ST.ltR rkF := by
  funext x y
  unfold ltOf ST.ltR
  rw [decide_eq_decide]
  exact cf_neg x y
theorem cmp_lays (w : World) (blk off size : Nat) : CmpLays1 Try.prog 17 #[] encF cfF blk off size w := by
  intro m os dk _ x y
  refine (cmp_x x.1 y.1 x.2 y.2 _).mono ?_
  rintro e w' ⟨h, o, rfl⟩
  refine ⟨h, 0, #[o], ?_⟩
  rw [alloc_eq_grow]
  rfl
/-- What the row holds, in a world of the sort's. -/
def SL (w0 : World) (blk off : Nat) (l : List Fl) (W : World) : Prop := SW encF w0 blk off l.toArray W
/-- What the functions are told of the row, once. -/
def Told (w0 : World) (blk off n : Nat) : Prop := ∃ d0 : Array Fl, Row1 encF w0 blk off d0 ∧ d0.size = n
theorem SL.cell {w0 W : World} {blk off n : Nat} {A C : List Fl} {x : Fl} (h : SL w0 blk off (A ++ x :: C) W) (R : Told w0 blk off n) (hn : (A ++ x :: C).length = n) (i : Nat) (hi : i = A.length) :
    W.cell? ⟨blk, off + i, none⟩ = some (encF x) := by
  obtain ⟨d0, R, hd⟩ := R
  have := SW.c1 h R (by simp [hd, ← hn]) i (by subst hi; simp)
  rw [ST.arr_get A C x i hi] at this
  exact this
theorem SL.froz {w0 W : World} {blk off n : Nat} {A C : List Fl} {x : Fl} (h : SL w0 blk off (A ++ x :: C) W) (R : Told w0 blk off n) (hn : (A ++ x :: C).length = n) (i : Nat) (hi : i = A.length) :
    W.frozen? ⟨blk, off + i, none⟩ = false := by
  obtain ⟨d0, R, hd⟩ := R
  exact SW.f1 h R (by simp [hd, ← hn]) i (by subst hi; simp)
/-- Two items exchanged. -/
theorem SL.swap {w0 W : World} {blk off n : Nat} {A B C : List Fl} {x y : Fl} (h : SL w0 blk off (A ++ x :: (B ++ y :: C)) W) (R : Told w0 blk off n) (i j : Nat) (hi : i = A.length) (hj : j = A.length + 1 + B.length) :
    SL w0 blk off (A ++ y :: (B ++ x :: C)) ((W.setCell ⟨blk, off + i, none⟩ (encF y)).setCell ⟨blk, off + j, none⟩ (encF x)).drew := by
  obtain ⟨d0, R, hd⟩ := R
  have h1 : i < (A ++ x :: (B ++ y :: C)).toArray.size := by subst hi; simp <;> omega
  have h2 : j < (A ++ x :: (B ++ y :: C)).toArray.size := by subst hj; simp <;> omega
  have := SW.swapped h R i j h1 h2
  rw [ST.arr_get A _ x i hi, ST.swp_list A B C x y i j hi hj] at this
  have e : (A ++ x :: (B ++ y :: C)).toArray[j]! = y := by
    have e2 : A ++ x :: (B ++ y :: C) = (A ++ x :: B) ++ y :: C := by simp
    rw [e2]; exact ST.arr_get _ C y j (by rw [hj]; simp; omega)
  rw [e] at this
  exact this
theorem SL.swap' {w0 W : World} {blk off n : Nat} {A B C : List Fl} {x y : Fl} (h : SL w0 blk off (A ++ x :: (B ++ y :: C)) W) (R : Told w0 blk off n) (i j : Nat) (hi : i = A.length) (hj : j = A.length + 1 + B.length) :
    SL w0 blk off (A ++ y :: (B ++ x :: C)) ((W.setCell ⟨blk, off + j, none⟩ (encF x)).setCell ⟨blk, off + i, none⟩ (encF y)).drew := by
  obtain ⟨d0, R, hd⟩ := R
  have h1 : i < (A ++ x :: (B ++ y :: C)).toArray.size := by subst hi; simp <;> omega
  have h2 : j < (A ++ x :: (B ++ y :: C)).toArray.size := by subst hj; simp <;> omega
  have := SW.swapped h R j i h2 h1
  rw [ST.arr_get A _ x i hi, ST.swp_back A B C x y i j hi hj] at this
  have e : (A ++ x :: (B ++ y :: C)).toArray[j]! = y := by
    have e2 : A ++ x :: (B ++ y :: C) = (A ++ x :: B) ++ y :: C := by simp
    rw [e2]; exact ST.arr_get _ C y j (by rw [hj]; simp; omega)
  rw [e] at this
  exact this
theorem SL.second {w0 W : World} {blk off n : Nat} {l : List Fl} (h : SL w0 blk off l W) (R : Told w0 blk off n) (hn : l.length = n) (i j : Nat) (hi : i < n) (hj : j < n) (v : Value) :
    ∃ u, (W.setCell ⟨blk, off + i, none⟩ v).cell? ⟨blk, off + j, none⟩ = some u := by
  obtain ⟨d0, R, hd⟩ := R
  exact SW.c2 h R (by simp [hd, hn]) i j (by simp [hn, hi]) (by simp [hn, hj]) v
/-- Where the exchange of two ranges stands. -/
def swSt (P X Y Z T : List Fl) (k : Nat) : List Fl := P ++ (Z.take k ++ (X.drop k ++ (Y ++ (X.take k ++ (Z.drop k ++ T)))))
theorem swSt_step (P X Y Z T : List Fl) (k : Nat) (h : k < X.length) (hz : X.length = Z.length) :
    ∃ A B C x y, swSt P X Y Z T k = A ++ x :: (B ++ y :: C) ∧ swSt P X Y Z T (k + 1) = A ++ y :: (B ++ x :: C) ∧ P.length + k = A.length ∧ P.length + X.length + Y.length + k = A.length + 1 + B.length := by
  have hz' : k < Z.length := by omega
  refine ⟨P ++ Z.take k, X.drop (k + 1) ++ (Y ++ X.take k), Z.drop (k + 1) ++ T, X[k], Z[k], ?_, ?_, ?_, ?_⟩
  · unfold swSt
    rw [List.drop_eq_getElem_cons h, List.drop_eq_getElem_cons hz']
    simp only [List.append_assoc, List.cons_append, List.nil_append]
  · unfold swSt
    rw [List.take_succ_eq_append_getElem h, List.take_succ_eq_append_getElem hz']
    simp only [List.append_assoc, List.cons_append, List.nil_append]
  · simp; omega
  · simp; omega
theorem swSt_len (P X Y Z T : List Fl) (k : Nat) : (swSt P X Y Z T k).length = P.length + X.length + Y.length + Z.length + T.length := by
  unfold swSt
  simp only [List.length_append, List.length_take, List.length_drop]
  omega
set_option maxRecDepth 100000 in
set_option maxHeartbeats 4000000 in
theorem swap_c (w0 : World) (blk off cap n : Nat) (P X Y Z T : List Fl) (a b c : Nat) (R : Told w0 blk off n) (hn : n ≤ 1000) (hz : X.length = Z.length) (hl : P.length + X.length + Y.length + Z.length + T.length = n)
    (ha : P.length = a) (hb : P.length + X.length + Y.length = b) (hc : X.length = c) (W : World) (S : SL w0 blk off (P ++ (X ++ (Y ++ (Z ++ T)))) W) :
    Calls Try.prog 80 #[.slice (some ⟨blk, off, none⟩) n cap, .int .i64 (a : Nat), .int .i64 (b : Nat), .int .i64 (c : Nat), .func (.func 17) #[] #[]] W fun e w' => e = .returned (.tuple #[]) ∧ SL w0 blk off (P ++ (Z ++ (Y ++ (X ++ T)))) w' := by
  have hk0 : swSt P X Y Z T 0 = P ++ (X ++ (Y ++ (Z ++ T))) := by simp [swSt]
  have hkn : swSt P X Y Z T c = P ++ (Z ++ (Y ++ (X ++ T))) := by
    unfold swSt
    rw [← hc, List.take_length, List.drop_length, hz, List.take_length, List.drop_length]
    simp
  have hstep := fun k (h : k < c) => swSt_step P X Y Z T k (by omega) hz
  have hlen := fun k => (swSt_len P X Y Z T k).trans hl
  rw [← hk0] at S
  rw [← hkn]
  have hb1 : b + c ≤ n := by omega
  have ha1 : a + c ≤ n := by omega
  rw [ha] at hstep
  have hstep2 : ∀ k, k < c → ∃ A B C x y, swSt P X Y Z T k = A ++ x :: (B ++ y :: C) ∧ swSt P X Y Z T (k + 1) = A ++ y :: (B ++ x :: C) ∧ a + k = A.length ∧ b + k = A.length + 1 + B.length := by
    intro k h
    obtain ⟨A, B, C, x, y, h1, h2, h3, h4⟩ := hstep k h
    exact ⟨A, B, C, x, y, h1, h2, h3, by omega⟩
  have hstep' := Lib.hid hstep2
  have HL := Lib.hid hlen
  have S0 := Lib.hid S
  have HR := Lib.hid R
  have hcl0 := oneF.cells
  simp only [Value.cells] at hcl0
  have hst := oneF.store Try.prog
  have mixed := lays20.mixed
  clear hk0 hkn hstep hstep2 hlen S R hl ha hb hc hz
  generalize swSt P X Y Z T = st at *
  go_enter Try.func80, Try.ntmps80
  go_wp2
  go_loopw [10] (fun e wr => ∃ k : Nat, k ≤ c ∧ e = .int .i64 k ∧ Hid (SL w0 blk off (st k) wr)) (fun e _ => c - (intOf e).toNat)
  case atStart => exact ⟨0, Nat.zero_le _, rfl, S0⟩
  case round =>
    obtain ⟨k, hk, rfl, HS⟩ := hrel
    by_cases hlt : k < c
    · obtain ⟨A, B, C, x, y, h1, h2, h3, h4⟩ := hstep'.out k hlt
      have hs := HS.out
      have hln := HL.out k
      rw [h1] at hs hln
      obtain ⟨iN, hiN⟩ : ∃ q, q = a + k := ⟨_, rfl⟩
      obtain ⟨jN, hjN⟩ : ∃ q, q = b + k := ⟨_, rfl⟩
      have ea : ((a : Int) + (k : Int)).toNat = iN := by omega
      have pa : (0 : Int) ≤ (a : Int) + (k : Int) := by omega
      have ba : (a : Int) + (k : Int) < (n : Int) := by omega
      have ra : IntKind.i64.wrap ((a : Int) + (k : Int)) = (a : Int) + (k : Int) := by rw [IntKind.wrap_i64]; omega
      have eb : ((b : Int) + (k : Int)).toNat = jN := by omega
      have pb : (0 : Int) ≤ (b : Int) + (k : Int) := by omega
      have bb : (b : Int) + (k : Int) < (n : Int) := by omega
      have rb : IntKind.i64.wrap ((b : Int) + (k : Int)) = (b : Int) + (k : Int) := by rw [IntKind.wrap_i64]; omega
      have c1 := hs.cell HR.out hln iN (by omega)
      have f1 := hs.froz HR.out hln iN (by omega)
      have e2 : A ++ x :: (B ++ y :: C) = (A ++ x :: B) ++ y :: C := by simp
      have hs2 := hs
      have hln2 := hln
      rw [e2] at hs2 hln2
      have c2 := hs2.cell HR.out hln2 jN (by simp; omega)
      have f2 := hs2.froz HR.out hln2 jN (by simp; omega)
      obtain ⟨u, c3⟩ := hs.second HR.out hln iN jN (by omega) (by omega) (encF y)
      have s3 := hs.swap HR.out iN jN (by omega) (by omega)
      rw [← h2] at s3
      have S3 := Lib.hid s3
      clear hs hs2 hln hln2 e2 h1 h2 h3 h4 hiN hjN s3 HS
      go_wp2_with fail
      go_big_region_o
      clear c1 c2 c3 f1 f2
      generalize ((wr.setCell ⟨blk, off + iN, none⟩ (encF y)).setCell ⟨blk, off + jN, none⟩ (encF x)).drew = w3 at S3 ⊢
      clear ea eb
      go_wp2
      go_roundw
      case rel => exact ⟨k + 1, by omega, by go_num, S3⟩
      case measure => simp [intOf]; omega
    · obtain rfl : k = c := by omega
      go_wp2
      go_end0
      exact ⟨rfl, HS.out⟩
end Go.Proofs.Ytcppcfjejalggaa.LP
