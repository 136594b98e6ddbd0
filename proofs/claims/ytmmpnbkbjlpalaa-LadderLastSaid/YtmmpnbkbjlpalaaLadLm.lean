/-
  Plain facts for the statement on what was accepted last: a ladder of one ring, points that come one behind the other.
-/
import Derived.Test.YtmmpnbkbjlpalaaLadPL
import Derived.Test.YtmmpnbkbjlpalaaLadPJ
set_option linter.unusedSimpArgs false
set_option linter.unusedVariables false
namespace Go.Proofs.Ytmmpnbkbjlpalaa
/-- The value of a slot that came last. -/
def lastAt (s : Int) (ps : List (Int × Int)) (t : Int) : Option Int := ps.foldl (fun o p => if rAt s p.1 = t then some p.2 else o) none
theorem lastAt_snoc (s : Int) (ps : List (Int × Int)) (p : Int × Int) (t : Int) : lastAt s (ps ++ [p]) t = if rAt s p.1 = t then some p.2 else lastAt s ps t := by unfold lastAt; rw [List.foldl_append]; rfl
theorem lastAt_take {s : Int} {ps : List (Int × Int)} {k : Nat} {p : Int × Int} (h : ps[k]? = some p) (t : Int) : lastAt s (ps.take (k + 1)) t = if rAt s p.1 = t then some p.2 else lastAt s (ps.take k) t := by
  rw [List.take_add_one, h]
  exact lastAt_snoc s _ p t
theorem lastAt_none {s : Int} {t : Int} : ∀ (ps : List (Int × Int)), (∀ p ∈ ps, rAt s p.1 ≠ t) → lastAt s ps t = none := by
  suffices h : ∀ (ps : List (Int × Int)) (o : Option Int), (∀ p ∈ ps, rAt s p.1 ≠ t) → ps.foldl (fun o p => if rAt s p.1 = t then some p.2 else o) o = o from fun ps hp => h ps none hp
  intro ps
  induction ps with
  | nil => intro o _; rfl
  | cons p ps ih =>
    intro o hp
    show List.foldl _ (if rAt s p.1 = t then some p.2 else o) ps = o
    rw [if_neg (hp p List.mem_cons_self)]
    exact ih o fun q hq => hp q (List.mem_cons_of_mem _ hq)
structure LastI (s : Int) (n : Nat) (now : Int) (R ps : List (Int × Int)) : Prop where
  right : rRight s R = true
  len : R.length = n
  fine : ∀ g ∈ R, I64 g.2
  past : ∀ p ∈ ps, 0 ≤ p.1 ∧ p.1 ≤ now
  told : ∀ t, t % s = 0 → now - s * (n : Int) < t → rVal s R t = lastAt s ps t
theorem last_may {s : Int} {n : Nat} (h1 : 1 ≤ s) (h2 : s ≤ 10) (h3 : 2 ≤ n) (h4 : n ≤ 11) : rMay s (n : Int) = true := rMay_iff.2 ⟨h1, by omega, by omega, by omega⟩
theorem last_start {s : Int} {n : Nat} (h1 : 1 ≤ s) (h2 : s ≤ 10) (h3 : 2 ≤ n) (h4 : n ≤ 11) : LastI s n 1000 (rNew n) [] := by
  refine ⟨rNew_right (last_may h1 h2 h3 h4), List.length_replicate, fun g hg => ?_, (fun p hp => by cases hp), fun t ht hw => ?_⟩
  · have : g = (-1, 0) := (List.mem_replicate.1 hg).2
    subst this
    unfold I64; simp
  · have hb : s * (n : Int) ≤ 10 * 11 := Int.mul_le_mul h2 (by omega) (by omega) (by omega)
    show rVal s (rNew n) t = none
    unfold rVal
    cases hg : (rNew n)[(rPl s (rNew n).length t).toNat]? with
    | none => rfl
    | some g =>
      have : g = (-1, 0) := (List.mem_replicate.1 (List.mem_of_getElem? hg)).2
      subst this
      exact if_neg (by show ¬ ((-1 : Int) = t); omega)
theorem last_later {s : Int} {n : Nat} {now now' : Int} {R ps : List (Int × Int)} (h : LastI s n now R ps) (hn : now ≤ now') : LastI s n now' R ps :=
  ⟨h.right, h.len, h.fine, fun p hp => ⟨(h.past p hp).1, by have := (h.past p hp).2; omega⟩, fun t ht hw => h.told t ht (by omega)⟩
theorem last_set {s : Int} {n : Nat} {now t v : Int} {R ps : List (Int × Int)} (h : LastI s n now R ps) (hs : 1 ≤ s) (hn : 1 ≤ n) (ht : 0 ≤ t) (htn : t ≤ now) (hnow : now ≤ 1099511627776) (hv : v ≠ -9223372036854775808) (hI : I64 v) (hr : now - s * (n : Int) < rAt s t) : LastI s n now (IP.setL s R t v) (ps ++ [(t, v)]) := by
  have htm : rTm t = true := rTm_iff.2 ⟨ht, by omega⟩
  obtain ⟨q, e, e2, e3⟩ := rSet_some h.right htm hv
  have hq : IP.setL s R t v = q := by unfold IP.setL; rw [e]; rfl
  obtain ⟨y1, -⟩ := IP.set_yes ⟨h.right, htm⟩ hv
  obtain ⟨a0, a1, a2, a3, a4⟩ := rAt_facts (s := s) hs ht
  obtain ⟨p0, p1, p2⟩ := rPl_facts (s := s) (t := rAt s t) (n := R.length) hs a0 (by rw [h.len]; omega)
  rw [hq] at y1 ⊢
  refine ⟨e3, e2.trans h.len, ?_, fun p hp => ?_, fun t0 h0 hw => ?_⟩
  · rw [← hq]; exact rSet_fine h.fine hI
  · rcases List.mem_append.1 hp with hp | hp
    · exact h.past p hp
    · obtain rfl : p = (t, v) := by simpa using hp
      exact ⟨ht, htn⟩
  · rw [lastAt_snoc]
    have hlen : q.length = R.length := e2
    by_cases heq : rAt s t = t0
    · rw [if_pos heq]
      unfold rVal
      rw [hlen, ← heq, y1, List.getElem?_set, if_pos rfl, if_pos p2]
      exact if_pos rfl
    · rw [if_neg heq]
      have ht0 : 0 ≤ t0 ∨ t0 < 0 := by omega
      by_cases hpl : (rPl s R.length (rAt s t)).toNat = (rPl s R.length t0).toNat
      · -- the same place, another slot: it lies ahead, and nothing was told of it yet
        have hnp : (0 : Int) < (R.length : Int) := by rw [h.len]; omega
        have hp0 : 0 ≤ rPl s R.length t0 := Int.emod_nonneg _ (by omega)
        have hple : rPl s R.length (rAt s t) = rPl s R.length t0 := by omega
        unfold rPl at hple
        have d1 := Int.mul_ediv_add_emod (rAt s t) s
        have d2 := Int.mul_ediv_add_emod t0 s
        rw [a2] at d1
        rw [h0] at d2
        have m1 := Int.mul_ediv_add_emod (rAt s t / s) (R.length : Int)
        have m2 := Int.mul_ediv_add_emod (t0 / s) (R.length : Int)
        rw [hple] at m1
        obtain ⟨x, hx⟩ : ∃ x, rAt s t / s / (R.length : Int) = x := ⟨_, rfl⟩
        obtain ⟨y, hy⟩ : ∃ y, t0 / s / (R.length : Int) = y := ⟨_, rfl⟩
        rw [hx] at m1
        rw [hy] at m2
        have key : t0 - rAt s t = s * (R.length : Int) * (y - x) := by
          have e1 : t0 / s - rAt s t / s = (R.length : Int) * (y - x) := by rw [Int.mul_sub]; omega
          have e2 : t0 - rAt s t = s * (t0 / s - rAt s t / s) := by rw [Int.mul_sub]; omega
          rw [e2, e1, Int.mul_assoc]
        rw [h.len] at key
        have hW : 0 < s * (n : Int) := Int.mul_pos (by omega) (by omega)
        have hyx : 1 ≤ y - x := by
          rcases Int.lt_trichotomy (y - x) 0 with hlt | hz | hgt
          · have : s * (n : Int) * (y - x) ≤ s * (n : Int) * (-1) := Int.mul_le_mul_of_nonneg_left (by omega) (by omega)
            omega
          · rw [hz, Int.mul_zero] at key; omega
          · omega
        have hge : s * (n : Int) * 1 ≤ s * (n : Int) * (y - x) := Int.mul_le_mul_of_nonneg_left hyx (by omega)
        have hfut : now < t0 := by omega
        rw [lastAt_none ps (fun p hp => by
          obtain ⟨q0, q1⟩ := h.past p hp
          have := (rAt_facts (s := s) hs q0).2.1
          omega)]
        unfold rVal
        rw [hlen, ← hpl, y1, List.getElem?_set, if_pos rfl, if_pos p2]
        exact if_neg heq
      · rw [← h.told t0 h0 hw]
        unfold rVal
        rw [hlen, y1, List.getElem?_set, if_neg hpl]
theorem last_tog {s : Int} {n : Nat} (h1 : 1 ≤ s) (h2 : s ≤ 10) (h3 : 2 ≤ n) (h4 : n ≤ 11) : tog [(s, (n : Int))] = true := by
  refine (tog_iff _).2 ⟨⟨by simp, by simp⟩, fun k g hk => ?_, fun k a b ha hb => ?_⟩
  · cases k with
    | zero =>
      obtain rfl : (s, (n : Int)) = g := by simpa using hk
      exact decide_eq_true ⟨h1, by show s ≤ 86400; omega, by show 1 ≤ (n : Int); omega, by show (n : Int) ≤ 400; omega⟩
    | succ k => simp at hk
  · simp at hb
theorem last_right {s : Int} {n : Nat} {now : Int} {R ps : List (Int × Int)} (h : LastI s n now R ps) (h1 : 1 ≤ s) (h2 : s ≤ 10) (h3 : 2 ≤ n) (h4 : n ≤ 11) : lRight 5 0 [(s, R)] = true ∧ lFine [(s, R)] := by
  refine ⟨lRight_iff.2 ⟨by decide, ?_, fun k r hk => ?_⟩, fun r hr => ?_⟩
  · show tog [(s, (R.length : Int))] = true
    rw [h.len]
    exact last_tog h1 h2 h3 h4
  · cases k with
    | zero => obtain rfl : (s, R) = r := by simpa using hk
              exact h.right
    | succ k => simp at hk
  · obtain rfl : r = (s, R) := by simpa using hr
    exact h.fine
/-- What accepting a point answers of a ladder of one ring. -/
theorem last_accept {s : Int} {n : Nat} {now t v : Int} {R ps : List (Int × Int)} (h : LastI s n now R ps) (h1 : 1 ≤ s) (h2 : s ≤ 10) (h3 : 2 ≤ n) (h4 : n ≤ 11) (ht : 0 ≤ t) (htn : t ≤ now) (hnow : now ≤ 1099511627776) :
    lAccept 5 0 [(s, R)] t v now = if v = -9223372036854775808 then ([(s, R)], 1) else if now - s * (n : Int) < rAt s t then ([(s, IP.setL s R t v)], 0) else ([(s, R)], 14) := by
  have hR := (last_right h h1 h2 h3 h4).1
  have c1 : rTm t = true := rTm_iff.2 ⟨ht, by omega⟩
  have c2 : rTm now = true := rTm_iff.2 ⟨by omega, hnow⟩
  by_cases hv : v = -9223372036854775808
  · rw [if_pos hv]
    exact lAccept_no fun hh => hh.2.2.2 hv
  · rw [if_neg hv]
    have hh : lRight 5 0 [(s, R)] = true ∧ rTm t = true ∧ rTm now = true ∧ v ≠ -9223372036854775808 := ⟨hR, c1, c2, hv⟩
    have hre : lReaches t now (s, R) = decide (now - s * (n : Int) < rAt s t) := by rw [AP.lReaches_eq, h.len]
    by_cases hg : now - s * (n : Int) < rAt s t
    · rw [if_pos hg]
      have hf : lFirst t now [(s, R)] = some 0 := by
        unfold lFirst
        rw [List.findIdx?_cons, hre, decide_eq_true hg]
        rfl
      rw [lAccept_yes hh (by omega) hf]
      rfl
    · rw [if_neg hg]
      have hf : lFirst t now [(s, R)] = none := by
        unfold lFirst
        rw [List.findIdx?_cons, hre, decide_eq_false hg]
        rfl
      exact lAccept_old hh (by omega) hf
/-- What is fetched in the end. -/
theorem last_fetch {s : Int} {n : Nat} {now : Int} {R ps : List (Int × Int)} (h : LastI s n now R ps) (h1 : 1 ≤ s) (h2 : s ≤ 10) (h3 : 2 ≤ n) (h4 : n ≤ 11) (hn0 : 1000 ≤ now) (hnow : now ≤ 1000000) :
    ftE 5 0 [(s, R)] (now - s * (n : Int) + 1) (now + 1) now = 0 ∧ ftStep 5 0 [(s, R)] (now - s * (n : Int) + 1) (now + 1) now = s ∧
    ftStart 5 0 [(s, R)] (now - s * (n : Int) + 1) (now + 1) now = rUp s (now - s * (n : Int) + 1) * s ∧
    ftVals 5 0 [(s, R)] (now - s * (n : Int) + 1) (now + 1) now = (List.range n).map (fun (i : Nat) => lastAt s ps (rUp s (now - s * (n : Int) + 1) * s + (i : Int) * s)) := by
  have hb : s * (n : Int) ≤ 10 * 11 := Int.mul_le_mul h2 (by omega) (by omega) (by omega)
  have hb1 : 1 * 1 ≤ s * (n : Int) := Int.mul_le_mul h1 (by omega) (by omega) (by omega)
  have hok : ftOk 5 0 [(s, R)] (now - s * (n : Int) + 1) (now + 1) now = true := by
    unfold ftOk
    rw [(last_right h h1 h2 h3 h4).1, rTm_iff.2 ⟨by omega, by omega⟩, rTm_iff.2 ⟨by omega, by omega⟩, rTm_iff.2 ⟨by omega, by omega⟩, decide_eq_true (by omega)]
    rfl
  obtain ⟨e1, e2, e3, e4⟩ := ft_yes hok
  have hr : ftR [(s, R)] (now - s * (n : Int) + 1) now = (s, R) := by
    have hat := ftR_at (last_right h h1 h2 h3 h4).1 (now - s * (n : Int) + 1) now
    have hlt := AP.lAsk_lt (last_right h h1 h2 h3 h4).1 (now - s * (n : Int) + 1) now
    have h0 : lAsk [(s, R)] (now - s * (n : Int) + 1) now = 0 := by simp at hlt; exact hlt
    rw [h0] at hat
    exact (Option.some.inj hat).symm
  rw [hr] at e1 e2 e3
  have hlow : lLow (s, R) (now - s * (n : Int) + 1) now = now - s * (n : Int) + 1 := by
    unfold lLow lReach
    simp only
    rw [h.len]
    exact if_pos (Int.le_refl _)
  have htop : lTop (now + 1) now = now + 1 := if_pos (Int.le_refl _)
  have hvals : lVals (s, R) (now - s * (n : Int) + 1) (now + 1) now = (List.range n).map (fun (i : Nat) => lastAt s ps (rUp s (now - s * (n : Int) + 1) * s + (i : Int) * s)) := by
    unfold lVals
    rw [hlow, htop]
    simp only
    rw [rUp_span h1, Int.toNat_natCast]
    refine List.map_congr_left fun i hi => ?_
    have hu := rUp_facts (s := s) (t := now - s * (n : Int) + 1) h1 (by omega)
    have hi0 : 0 ≤ (i : Int) * s := Int.mul_nonneg (by omega) (by omega)
    rw [Int.add_mul]
    refine h.told _ ?_ (by omega)
    rw [← Int.add_mul]
    exact Int.mul_emod_left _ _
  refine ⟨e4, e2, ?_, e3.trans hvals⟩
  rw [e1]
  unfold lStart
  rw [hvals, hlow, if_neg]
  intro hnil
  have := congrArg List.length hnil
  rw [List.length_map, List.length_range] at this
  simp at this
  omega
end Go.Proofs.Ytmmpnbkbjlpalaa
