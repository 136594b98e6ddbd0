/-
  Contracts of the library's stable sort at floats, the fifth part: two neighbouring rows merged in place.
-/
import Derived.Test.YtcppcfjejalggaaFloPV
set_option linter.unusedSimpArgs false
set_option linter.unusedVariables false
namespace Go.Proofs.Ytcppcfjejalggaa.LP
open Go.RowKit Go.Shelf Go.Lib Go.Sort
theorem cross_le {L Q : List Fl} (hL : ST.Up rkF L) (hQ : ST.Up rkF Q) {t u : Nat} (ht : t < L.length) (hu : u < Q.length) (h : rkF (L[t]) ≤ rkF (Q[u])) : ∀ x ∈ L.take (t + 1), ∀ y ∈ Q.drop u, rkF x ≤ rkF y := by
  intro x hx y hy
  have h1 := up_take' hL ht (Int.le_refl _) x hx
  have h2 := up_drop hQ hu (Int.le_refl _) y hy
  omega
theorem cross_lt {L Q : List Fl} (hL : ST.Up rkF L) (hQ : ST.Up rkF Q) {t u : Nat} (ht : t < L.length) (hu : u < Q.length) (h : rkF (Q[u]) < rkF (L[t])) : ∀ x ∈ L.drop t, ∀ y ∈ Q.take (u + 1), rkF y < rkF x := by
  intro x hx y hy
  have h1 := up_drop hL ht (Int.le_refl _) x hx
  have h2 := up_take' hQ hu (Int.le_refl _) y hy
  omega
/-- What one round of the search reads: an item of each row. -/
theorem two_facts {w0 W : World} {blk off n : Nat} {P L Q T : List Fl} (S : SL w0 blk off (P ++ (L ++ (Q ++ T))) W) (HR : Told w0 blk off n) (hl : P.length + L.length + Q.length + T.length = n) (t u : Nat) (ht : t < L.length) (hu : u < Q.length) (aN hN : Nat) (ha : aN = P.length + t) (hh : hN = P.length + L.length + u) :
    W.cell? ⟨blk, off + aN, none⟩ = some (encF (L[t])) ∧ W.cell? ⟨blk, off + hN, none⟩ = some (encF (Q[u])) := by
  have e1 : P ++ (L ++ (Q ++ T)) = (P ++ L.take t) ++ L[t] :: (L.drop (t + 1) ++ (Q ++ T)) := by
    conv => lhs; rw [← List.take_append_drop t L, List.drop_eq_getElem_cons ht]
    simp only [List.append_assoc, List.cons_append, List.nil_append]
  have e2 : P ++ (L ++ (Q ++ T)) = (P ++ (L ++ Q.take u)) ++ Q[u] :: (Q.drop (u + 1) ++ T) := by
    conv => lhs; rw [← List.take_append_drop u Q, List.drop_eq_getElem_cons hu]
    simp only [List.append_assoc, List.cons_append, List.nil_append]
  have hlen : (P ++ (L ++ (Q ++ T))).length = n := by simp; omega
  constructor
  · have h := S
    have hl2 := hlen
    rw [e1] at h hl2
    exact h.cell HR hl2 aN (by simp; omega)
  · have h := S
    have hl2 := hlen
    rw [e2] at h hl2
    exact h.cell HR hl2 hN (by simp; omega)
/-- A contract of the merge, as it is asked of shorter rows. -/
def Merges (w0 : World) (blk off cap n : Nat) (N : Nat) : Prop := ∀ (P L Q T l : List Fl) (a m b : Int), L.length + Q.length < N → P.length + L.length + Q.length + T.length = n → 0 < L.length → 0 < Q.length → ST.Up rkF L → ST.Up rkF Q →
    a = P.length → m = a + L.length → b = m + Q.length → P ++ (ST.mg rkF L Q ++ T) = l → ∀ W, SL w0 blk off (P ++ (L ++ (Q ++ T))) W →
    Calls Try.prog 71 #[.slice (some ⟨blk, off, none⟩) n cap, .int .i64 a, .int .i64 m, .int .i64 b, .func (.func 17) #[] #[]] W fun e w' => e = .returned (.tuple #[]) ∧ SL w0 blk off l w'
/-- The three steps behind the search, each done or idle. -/
theorem three_steps (w0 : World) (blk off cap n : Nat) (P L Q T l : List Fl) (a m b d s e : Int) (R : Told w0 blk off n) (hn : n ≤ 1000) (REC : Merges w0 blk off cap n (L.length + Q.length)) (hl : P.length + L.length + Q.length + T.length = n) (upL : ST.Up rkF L) (upQ : ST.Up rkF Q)
    (ha : a = P.length) (hm : m = a + L.length) (hb : b = m + Q.length) (hr : P ++ (ST.mg rkF L Q ++ T) = l) (has : a ≤ s) (hsm : s ≤ m) (hsd : s ≤ d) (hed : e = d + m - s) (heb : e ≤ b) (had : a < d) (hdb : d < b)
    (h1 : ∀ x ∈ L.take (s - a).toNat, ∀ y ∈ Q.drop (d - s).toNat, rkF x ≤ rkF y) (h2 : ∀ x ∈ L.drop (s - a).toNat, ∀ y ∈ Q.take (d - s).toNat, rkF y < rkF x) :
    ∃ l1 l2 : List Fl, ((s < m ∧ m < e) → ∀ W, SL w0 blk off (P ++ (L ++ (Q ++ T))) W → Calls Try.prog 78 #[.slice (some ⟨blk, off, none⟩) n cap, .int .i64 s, .int .i64 m, .int .i64 e, .func (.func 17) #[] #[]] W fun e w' => e = .returned (.tuple #[]) ∧ SL w0 blk off l1 w') ∧
      (¬ (s < m ∧ m < e) → P ++ (L ++ (Q ++ T)) = l1) ∧
      ((a < s ∧ s < d) → ∀ W, SL w0 blk off l1 W → Calls Try.prog 71 #[.slice (some ⟨blk, off, none⟩) n cap, .int .i64 a, .int .i64 s, .int .i64 d, .func (.func 17) #[] #[]] W fun e w' => e = .returned (.tuple #[]) ∧ SL w0 blk off l2 w') ∧
      (¬ (a < s ∧ s < d) → l1 = l2) ∧
      ((d < e ∧ e < b) → ∀ W, SL w0 blk off l2 W → Calls Try.prog 71 #[.slice (some ⟨blk, off, none⟩) n cap, .int .i64 d, .int .i64 e, .int .i64 b, .func (.func 17) #[] #[]] W fun e w' => e = .returned (.tuple #[]) ∧ SL w0 blk off l w') ∧
      (¬ (d < e ∧ e < b) → l2 = l) := by
  obtain ⟨L1, hL1⟩ : ∃ L1, L.take (s - a).toNat = L1 := ⟨_, rfl⟩
  obtain ⟨L2, hL2⟩ : ∃ L2, L.drop (s - a).toNat = L2 := ⟨_, rfl⟩
  obtain ⟨Q1, hQ1⟩ : ∃ Q1, Q.take (d - s).toNat = Q1 := ⟨_, rfl⟩
  obtain ⟨Q2, hQ2⟩ : ∃ Q2, Q.drop (d - s).toNat = Q2 := ⟨_, rfl⟩
  have eL : L = L1 ++ L2 := by rw [← hL1, ← hL2]; exact (List.take_append_drop _ _).symm
  have eQ : Q = Q1 ++ Q2 := by rw [← hQ1, ← hQ2]; exact (List.take_append_drop _ _).symm
  have n1 : (L1.length : Int) = s - a := by rw [← hL1, List.length_take]; omega
  have n2 : (L2.length : Int) = m - s := by rw [← hL2, List.length_drop]; omega
  have n3 : (Q1.length : Int) = d - s := by rw [← hQ1, List.length_take]; omega
  have n4 : (Q2.length : Int) = b - e := by rw [← hQ2, List.length_drop]; omega
  rw [hL1, hQ2] at h1
  rw [hL2, hQ1] at h2
  have hmg : ST.mg rkF L Q = ST.mg rkF L1 Q1 ++ ST.mg rkF L2 Q2 := by
    rw [eL, eQ]
    exact ST.mg_split rkF L1 Q1 L2 Q2 (fun x hx y hy => by have := h1 x hx y hy; omega) h2
  have hLl : L.length = L1.length + L2.length := by rw [eL, List.length_append]
  have hQl : Q.length = Q1.length + Q2.length := by rw [eQ, List.length_append]
  have u1 : ST.Up rkF L1 := by rw [eL] at upL; exact (List.pairwise_append.1 upL).1
  have u2 : ST.Up rkF L2 := by rw [eL] at upL; exact (List.pairwise_append.1 upL).2.1
  have u3 : ST.Up rkF Q1 := by rw [eQ] at upQ; exact (List.pairwise_append.1 upQ).1
  have u4 : ST.Up rkF Q2 := by rw [eQ] at upQ; exact (List.pairwise_append.1 upQ).2.1
  have nil : ∀ {X : List Fl}, X.length = 0 → X = [] := fun h => List.eq_nil_of_length_eq_zero h
  refine ⟨P ++ (L1 ++ (Q1 ++ (L2 ++ (Q2 ++ T)))), P ++ (ST.mg rkF L1 Q1 ++ (L2 ++ (Q2 ++ T))), fun hc W S => ?_, fun hc => ?_, fun hc W S => ?_, fun hc => ?_, fun hc W S => ?_, fun hc => ?_⟩
  · refine rot_c w0 blk off cap n (P ++ L1) L2 Q1 (Q2 ++ T) _ s m e R hn (by simp; omega) (by omega) (by omega) (by simp; omega) (by simp; omega) (by simp; omega) (by simp only [List.append_assoc]) W ?_
    rw [eL, eQ] at S
    simp only [List.append_assoc] at S ⊢
    exact S
  · rw [eL, eQ]
    rcases (show L2.length = 0 ∨ Q1.length = 0 by omega) with h | h
    · rw [nil h]; simp
    · rw [nil h]; simp
  · exact REC P L1 Q1 (L2 ++ (Q2 ++ T)) _ a s d (by omega) (by simp; omega) (by omega) (by omega) u1 u3 ha (by omega) (by omega) rfl W S
  · rcases (show L1.length = 0 ∨ Q1.length = 0 by omega) with h | h
    · rw [nil h, ST.mg_nil]; rfl
    · rw [nil h, ST.mg_none]; simp
  · have hlen := ST.mg_length rkF L1 Q1
    refine REC (P ++ ST.mg rkF L1 Q1) L2 Q2 T _ d e b (by omega) (by rw [List.length_append, hlen]; omega) (by omega) (by omega) u2 u4 (by rw [List.length_append, hlen]; omega) (by omega) (by omega) ?_ W ?_
    · rw [← hr, hmg]; simp only [List.append_assoc]
    · simp only [List.append_assoc] at S ⊢
      exact S
  · rw [← hr, hmg]
    rcases (show L2.length = 0 ∨ Q2.length = 0 by omega) with h | h
    · rw [nil h, ST.mg_nil]; simp
    · rw [nil h, ST.mg_none]; simp
end Go.Proofs.Ytcppcfjejalggaa.LP
