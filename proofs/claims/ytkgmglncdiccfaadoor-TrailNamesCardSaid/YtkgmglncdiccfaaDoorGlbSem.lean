/-
  Plain facts on patterns of one name (layer 15): how deep, how many, which texts, which places of a name; the laws of P15.2 and P15.3.
-/
import Derived.Test.YtkgmglncdiccfaaDoorGlbPars
set_option linter.unusedSimpArgs false
set_option linter.unusedVariables false
namespace Go.Proofs.YtkgmglncdiccfaaDoor
def gDp : Tr → Nat
  | .nil => 0
  | .atom _ r => gDp r
  | .br ws r => max (gDp ws + 1) (gDp r)
  | .none => 0
  | .way p ws => max (gDp p) (gDp ws)
/-- How many patterns without braces come of pieces, n times; 65 at most. -/
def gCnt : Tr → Nat → Nat
  | .nil, n => n
  | .atom _ r, n => gCnt r n
  | .br ws r, n => gCnt r (min (n * gCnt ws 0) 65)
  | .none, _ => 0
  | .way p ws, _ => gCnt p 1 + gCnt ws 0
def gNm : Tr → Nat
  | .nil => 1
  | .atom _ r => gNm r
  | .br ws r => gNm ws * gNm r
  | .none => 0
  | .way p ws => gNm p + gNm ws
/-- The texts without braces that come of pieces, behind others; of alternatives. -/
def gTx : Tr → List (List Nat) → List (List Nat)
  | .nil, acc => acc
  | .atom a r, acc => gTx r (acc.map (· ++ a.txt))
  | .br ws r, acc => gTx r (acc.flatMap fun x => (gTx ws []).map (x ++ ·))
  | .none, _ => []
  | .way p ws, _ => gTx p [[]] ++ gTx ws []
/-- The pieces without braces. -/
def gEx : Tr → List (List GA)
  | .nil => [[]]
  | .atom a r => (gEx r).map (a :: ·)
  | .br ws r => (gEx ws).flatMap fun e => (gEx r).map (e ++ ·)
  | .none => []
  | .way p ws => gEx p ++ gEx ws
def gTxt (e : List GA) : List Nat := e.flatMap GA.txt
/-- The places of a name up to which a piece leads. -/
def gAd (n : List Nat) : GA → (Nat → Bool) → Nat → Bool
  | .star, f, k => (List.range (k + 1)).any f
  | a, f, 0 => false
  | a, f, k + 1 => f k && a.fit (n.getD k 0)
def gLd (n : List Nat) : Tr → (Nat → Bool) → (Nat → Bool)
  | .nil, f => f
  | .atom a r, f => gLd n r (gAd n a f)
  | .br ws r, f => gLd n r (gLd n ws f)
  | .none, _ => fun _ => false
  | .way p ws, f => fun k => gLd n p f k || gLd n ws f k
def gE0 (k : Nat) : Bool := decide (k = 0)
/-- What is wrong with a pattern; 0: nothing. -/
def gErr (s : List Nat) : Int :=
  if 128 < s.length then 12 else
  match gPr false s with
  | none => 10
  | some (l, r) => if l.len = 0 ∨ r ≠ [] then 10 else if 4 < gDp l then 19 else if 64 < gCnt l 1 then 11 else 0
def gTree (s : List Nat) : Tr := match gPr false s with | none => .nil | some (l, _) => l
def gMatch (s n : List Nat) : Bool := if gErr s = 0 then gLd n (gTree s) gE0 n.length else false
/-! ### How many -/
theorem gTx_length : ∀ (t : Tr), (Good false t → ∀ acc, (gTx t acc).length = acc.length * gNm t) ∧ (Good true t → (gTx t []).length = gNm t)
  | .nil => ⟨fun _ acc => by show acc.length = acc.length * 1; omega, fun h => h.elim⟩
  | .none => ⟨fun h => h.elim, fun _ => rfl⟩
  | .atom a r => ⟨fun h acc => by
      show (gTx r (acc.map (· ++ a.txt))).length = acc.length * gNm r
      rw [(gTx_length r).1 h.2, List.length_map], fun h => h.elim⟩
  | .br ws r => ⟨fun h acc => by
      show (gTx r (acc.flatMap fun x => (gTx ws []).map (x ++ ·))).length = acc.length * (gNm ws * gNm r)
      rw [(gTx_length r).1 h.2.2]
      have e : ∀ (acc : List (List Nat)), (acc.flatMap fun x => (gTx ws []).map (x ++ ·)).length = acc.length * gNm ws := by
        intro acc
        induction acc with
        | nil => simp
        | cons x acc ih => rw [List.flatMap_cons, List.length_append, ih, List.length_map, (gTx_length ws).2 h.1, List.length_cons, Nat.add_mul]; omega
      rw [e, Nat.mul_assoc], fun h => h.elim⟩
  | .way p ws => ⟨fun h => h.elim, fun h => by
      show (gTx p [[]] ++ gTx ws []).length = gNm p + gNm ws
      rw [List.length_append, (gTx_length p).1 h.1, (gTx_length ws).2 h.2]
      simp⟩
theorem gNm_pos : ∀ (t : Tr), (Good false t → 1 ≤ gNm t) ∧ (Good true t → t ≠ .none → 1 ≤ gNm t)
  | .nil => ⟨fun _ => Nat.le_refl _, fun h => h.elim⟩
  | .none => ⟨fun h => h.elim, fun _ h => absurd rfl h⟩
  | .atom a r => ⟨fun h => (gNm_pos r).1 h.2, fun h => h.elim⟩
  | .br ws r => ⟨fun h => Nat.mul_le_mul ((gNm_pos ws).2 h.1 h.2.1) ((gNm_pos r).1 h.2.2), fun h => h.elim⟩
  | .way p ws => ⟨fun h => h.elim, fun h _ => Nat.le_trans ((gNm_pos p).1 h.1) (Nat.le_add_right _ _)⟩
theorem gCnt_num : ∀ (t : Tr), (Good false t → ∀ n, n ≤ 65 → gCnt t n = min (n * gNm t) 65) ∧ (Good true t → min (gCnt t 0) 65 = min (gNm t) 65)
  | .nil => ⟨fun _ n hn => by show n = min (n * 1) 65; omega, fun h => h.elim⟩
  | .none => ⟨fun h => h.elim, fun _ => rfl⟩
  | .atom a r => ⟨fun h n hn => (gCnt_num r).1 h.2 n hn, fun h => h.elim⟩
  | .br ws r => ⟨fun h n hn => by
      show gCnt r (min (n * gCnt ws 0) 65) = min (n * (gNm ws * gNm r)) 65
      rw [(gCnt_num r).1 h.2.2 _ (Nat.min_le_right _ _)]
      have hw := (gCnt_num ws).2 h.1
      have hp := (gNm_pos r).1 h.2.2
      have e1 : min (n * gCnt ws 0) 65 = min (n * gNm ws) 65 := by
        rcases Nat.eq_zero_or_pos n with rfl | hn0
        · simp
        · by_cases hc : gCnt ws 0 < 65
          · rw [show gNm ws = gCnt ws 0 by omega]
          · have a1 : 65 ≤ gNm ws := by omega
            have a2 : 1 * 65 ≤ n * gNm ws := Nat.mul_le_mul hn0 a1
            have a3 : 1 * 65 ≤ n * gCnt ws 0 := Nat.mul_le_mul hn0 (by omega)
            omega
      rw [e1]
      by_cases hc : n * gNm ws ≤ 65
      · rw [Nat.min_eq_left hc, Nat.mul_assoc]
      · have a1 : 65 * 1 ≤ n * gNm ws * gNm r := Nat.mul_le_mul (by omega) hp
        have a2 : 65 * 1 ≤ 65 * gNm r := Nat.mul_le_mul (Nat.le_refl _) hp
        rw [← Nat.mul_assoc, Nat.min_eq_right (by omega : 65 ≤ n * gNm ws)]
        omega, fun h => h.elim⟩
  | .way p ws => ⟨fun h => h.elim, fun h => by
      show min (gCnt p 1 + gCnt ws 0) 65 = min (gNm p + gNm ws) 65
      have h1 := (gCnt_num p).1 h.1 1 (by omega)
      have h2 := (gCnt_num ws).2 h.2
      omega⟩
theorem gCnt_le : ∀ (t : Tr), Good false t → ∀ n, n ≤ 65 → gCnt t n ≤ 65 := fun t h n hn => by
  rw [(gCnt_num t).1 h n hn]
  exact Nat.min_le_right _ _
/-! ### Depth, length -/
theorem gStr_len : ∀ (t : Tr), (Good false t → gDp t ≤ (gStr t).length ∧ t.len ≤ (gStr t).length) ∧ (Good true t → t ≠ .none → gDp t ≤ (gStr t).length ∧ t.len ≤ (gStr t).length)
  | .nil => ⟨fun _ => ⟨Nat.zero_le _, Nat.zero_le _⟩, fun h => h.elim⟩
  | .none => ⟨fun h => h.elim, fun _ h => absurd rfl h⟩
  | .atom a r => ⟨fun h => by
      have h1 := (gStr_len r).1 h.2
      obtain ⟨c, u, he, _⟩ := good_txt h.1
      have h2 := congrArg List.length he
      show gDp r ≤ (a.txt ++ gStr r).length ∧ r.len + 1 ≤ (a.txt ++ gStr r).length
      rw [List.length_append]
      simp only [List.length_cons] at h2
      omega, fun h => h.elim⟩
  | .br ws r => ⟨fun h => by
      have h1 := (gStr_len r).1 h.2.2
      have h2 := (gStr_len ws).2 h.1 h.2.1
      show max (gDp ws + 1) (gDp r) ≤ (123 :: (gStr ws ++ gStr r)).length ∧ r.len + 1 ≤ (123 :: (gStr ws ++ gStr r)).length
      rw [List.length_cons, List.length_append]
      omega, fun h => h.elim⟩
  | .way p ws => ⟨fun h => h.elim, fun h _ => by
      have h1 := (gStr_len p).1 h.1
      by_cases hn : ws = .none
      · subst hn
        show max (gDp p) 0 ≤ (gStr p ++ [125]).length ∧ 0 + 1 ≤ (gStr p ++ [125]).length
        rw [List.length_append, List.length_singleton]
        omega
      · have h2 := (gStr_len ws).2 h.2 hn
        rw [gStr_more hn h.2, List.length_append, List.length_cons]
        show max (gDp p) (gDp ws) ≤ _ ∧ ws.len + 1 ≤ _
        omega⟩
/-! ### Which texts -/
theorem gTx_mem : ∀ (t : Tr), (Good false t → ∀ acc x, x ∈ gTx t acc ↔ ∃ a ∈ acc, ∃ e ∈ gEx t, x = a ++ gTxt e) ∧ (Good true t → ∀ x, x ∈ gTx t [] ↔ ∃ e ∈ gEx t, x = gTxt e)
  | .nil => ⟨fun _ acc x => by
      show x ∈ acc ↔ ∃ a ∈ acc, ∃ e ∈ [[]], x = a ++ gTxt e
      refine ⟨fun h => ⟨x, h, [], by simp, by simp [gTxt]⟩, fun ⟨a, ha, e, he, hx⟩ => ?_⟩
      obtain rfl : e = [] := by simpa using he
      rw [hx]
      simpa [gTxt] using ha, fun h => h.elim⟩
  | .none => ⟨fun h => h.elim, fun _ x => by show x ∈ [] ↔ ∃ e ∈ [], _; simp⟩
  | .atom a r => ⟨fun h acc x => by
      show x ∈ gTx r (acc.map (· ++ a.txt)) ↔ ∃ b ∈ acc, ∃ e ∈ (gEx r).map (a :: ·), x = b ++ gTxt e
      rw [(gTx_mem r).1 h.2]
      constructor
      · rintro ⟨y, hy, e, he, rfl⟩
        obtain ⟨b, hb, rfl⟩ := List.mem_map.1 hy
        exact ⟨b, hb, a :: e, List.mem_map.2 ⟨e, he, rfl⟩, by simp [gTxt]⟩
      · rintro ⟨b, hb, e, he, rfl⟩
        obtain ⟨e', he', rfl⟩ := List.mem_map.1 he
        exact ⟨b ++ a.txt, List.mem_map.2 ⟨b, hb, rfl⟩, e', he', by simp [gTxt]⟩, fun h => h.elim⟩
  | .br ws r => ⟨fun h acc x => by
      show x ∈ gTx r (acc.flatMap fun x => (gTx ws []).map (x ++ ·)) ↔ ∃ b ∈ acc, ∃ e ∈ (gEx ws).flatMap fun e => (gEx r).map (e ++ ·), x = b ++ gTxt e
      rw [(gTx_mem r).1 h.2.2]
      constructor
      · rintro ⟨y, hy, e, he, rfl⟩
        obtain ⟨b, hb, hy⟩ := List.mem_flatMap.1 hy
        obtain ⟨z, hz, rfl⟩ := List.mem_map.1 hy
        obtain ⟨e', he', rfl⟩ := ((gTx_mem ws).2 h.1 z).1 hz
        exact ⟨b, hb, e' ++ e, List.mem_flatMap.2 ⟨e', he', List.mem_map.2 ⟨e, he, rfl⟩⟩, by simp [gTxt]⟩
      · rintro ⟨b, hb, e, he, rfl⟩
        obtain ⟨e', he', hm⟩ := List.mem_flatMap.1 he
        obtain ⟨e2, he2, rfl⟩ := List.mem_map.1 hm
        exact ⟨b ++ gTxt e', List.mem_flatMap.2 ⟨b, hb, List.mem_map.2 ⟨gTxt e', ((gTx_mem ws).2 h.1 _).2 ⟨e', he', rfl⟩, rfl⟩⟩, e2, he2, by simp [gTxt]⟩, fun h => h.elim⟩
  | .way p ws => ⟨fun h => h.elim, fun h x => by
      show x ∈ gTx p [[]] ++ gTx ws [] ↔ ∃ e ∈ gEx p ++ gEx ws, x = gTxt e
      rw [List.mem_append, (gTx_mem p).1 h.1, (gTx_mem ws).2 h.2]
      constructor
      · rintro (⟨b, hb, e, he, rfl⟩ | ⟨e, he, rfl⟩)
        · obtain rfl : b = [] := by simpa using hb
          exact ⟨e, List.mem_append.2 (.inl he), by simp⟩
        · exact ⟨e, List.mem_append.2 (.inr he), rfl⟩
      · rintro ⟨e, he, rfl⟩
        rcases List.mem_append.1 he with he | he
        · exact .inl ⟨[], by simp, e, he, by simp⟩
        · exact .inr ⟨e, he, rfl⟩⟩
theorem gEx_good : ∀ (t : Tr), (Good false t ∨ Good true t) → ∀ e ∈ gEx t, ∀ a ∈ e, a.Good
  | .nil, _, e, he, a, ha => by
    obtain rfl : e = [] := by simpa [gEx] using he
    cases ha
  | .none, _, e, he, a, ha => by cases he
  | .atom b r, h, e, he, a, ha => by
    have h : b.Good ∧ Good false r := h.resolve_right (fun h => h.elim)
    obtain ⟨e', he', rfl⟩ := List.mem_map.1 he
    rcases List.mem_cons.1 ha with rfl | ha
    · exact h.1
    · exact gEx_good r (.inl h.2) e' he' a ha
  | .br ws r, h, e, he, a, ha => by
    have h : Good true ws ∧ ws ≠ .none ∧ Good false r := h.resolve_right (fun h => h.elim)
    obtain ⟨e', he', hm⟩ := List.mem_flatMap.1 he
    obtain ⟨e2, he2, rfl⟩ := List.mem_map.1 hm
    rcases List.mem_append.1 ha with ha | ha
    · exact gEx_good ws (.inr h.1) e' he' a ha
    · exact gEx_good r (.inl h.2.2) e2 he2 a ha
  | .way p ws, h, e, he, a, ha => by
    have h : Good false p ∧ Good true ws := h.resolve_left (fun h => h.elim)
    rcases List.mem_append.1 he with he | he
    · exact gEx_good p (.inl h.1) e he a ha
    · exact gEx_good ws (.inr h.2) e he a ha
theorem gEx_len : ∀ (t : Tr), (Good false t ∨ Good true t) → ∀ e ∈ gEx t, (gTxt e).length ≤ (gStr t).length
  | .nil, _, e, he => by
    obtain rfl : e = [] := by simpa [gEx] using he
    exact Nat.le_refl _
  | .none, _, e, he => by cases he
  | .atom b r, h, e, he => by
    have h : b.Good ∧ Good false r := h.resolve_right (fun h => h.elim)
    obtain ⟨e', he', rfl⟩ := List.mem_map.1 he
    have := gEx_len r (.inl h.2) e' he'
    show (b.txt ++ gTxt e').length ≤ (b.txt ++ gStr r).length
    rw [List.length_append, List.length_append]
    omega
  | .br ws r, h, e, he => by
    have h : Good true ws ∧ ws ≠ .none ∧ Good false r := h.resolve_right (fun h => h.elim)
    obtain ⟨e', he', hm⟩ := List.mem_flatMap.1 he
    obtain ⟨e2, he2, rfl⟩ := List.mem_map.1 hm
    have h1 := gEx_len ws (.inr h.1) e' he'
    have h2 := gEx_len r (.inl h.2.2) e2 he2
    show (List.flatMap _ (e' ++ e2)).length ≤ (123 :: (gStr ws ++ gStr r)).length
    rw [List.flatMap_append, List.length_append, List.length_cons, List.length_append]
    unfold gTxt at h1 h2
    omega
  | .way p ws, h, e, he => by
    have h : Good false p ∧ Good true ws := h.resolve_left (fun h => h.elim)
    have hl : (gStr (.way p ws)).length ≥ (gStr p).length + (gStr ws).length := by
      by_cases hn : ws = .none
      · subst hn
        show (gStr p ++ [125]).length ≥ (gStr p).length + 0
        rw [List.length_append]
        omega
      · rw [gStr_more hn h.2, List.length_append, List.length_cons]
        omega
    rcases List.mem_append.1 he with he | he
    · have := gEx_len p (.inl h.1) e he
      omega
    · have := gEx_len ws (.inr h.2) e he
      omega
/-- Pieces without braces as a tree. -/
def ofA : List GA → Tr
  | [] => .nil
  | a :: e => .atom a (ofA e)
theorem ofA_str : ∀ (e : List GA), gStr (ofA e) = gTxt e
  | [] => rfl
  | a :: e => by
    show a.txt ++ gStr (ofA e) = a.txt ++ gTxt e
    rw [ofA_str e]
theorem ofA_good : ∀ (e : List GA), (∀ a ∈ e, a.Good) → Good false (ofA e)
  | [], _ => trivial
  | a :: e, h => ⟨h a (by simp), ofA_good e fun b hb => h b (by simp [hb])⟩
theorem ofA_dp : ∀ (e : List GA), gDp (ofA e) = 0
  | [] => rfl
  | a :: e => ofA_dp e
theorem ofA_cnt : ∀ (e : List GA) (n : Nat), gCnt (ofA e) n = n
  | [], _ => rfl
  | a :: e, n => ofA_cnt e n
theorem ofA_len : ∀ (e : List GA), (ofA e).len = e.length
  | [] => rfl
  | a :: e => congrArg (· + 1) (ofA_len e)
theorem gPr_ofA {e : List GA} (h : ∀ a ∈ e, a.Good) : gPr false (gTxt e) = some (ofA e, []) := by
  have := (gPr_str (ofA e)).1 (ofA_good e h) [] (.inl rfl)
  rwa [List.append_nil, ofA_str] at this
theorem gErr_ofA {e : List GA} (h : ∀ a ∈ e, a.Good) (he : e ≠ []) (hl : (gTxt e).length ≤ 128) : gErr (gTxt e) = 0 ∧ gTree (gTxt e) = ofA e := by
  unfold gErr gTree
  rw [gPr_ofA h]
  simp only
  rw [if_neg (by omega), ofA_len, ofA_dp, ofA_cnt, if_neg (by simp only [ne_eq, not_true, or_false]; intro e'; exact he (List.eq_nil_of_length_eq_zero e')), if_neg (by omega), if_neg (by omega)]
  exact ⟨rfl, trivial⟩
/-! ### Which places -/
theorem gAd_or (n : List Nat) (a : GA) (α : Type) (l : List α) (F : α → Nat → Bool) (k : Nat) : gAd n a (fun j => l.any fun x => F x j) k = l.any fun x => gAd n a (F x) k := by
  cases a with
  | star =>
    show (List.range (k + 1)).any (fun j => l.any fun x => F x j) = l.any fun x => (List.range (k + 1)).any (F x)
    rw [Bool.eq_iff_iff]
    simp only [List.any_eq_true]
    constructor
    · rintro ⟨j, hj, x, hx, h⟩; exact ⟨x, hx, j, hj, h⟩
    · rintro ⟨x, hx, j, hj, h⟩; exact ⟨j, hj, x, hx, h⟩
  | one c =>
    cases k with
    | zero => show false = l.any fun _ => false; simp
    | succ k =>
      show ((l.any fun x => F x k) && _) = l.any fun x => F x k && _
      rw [Bool.eq_iff_iff]
      simp only [List.any_eq_true, Bool.and_eq_true]
      exact ⟨fun ⟨⟨x, hx, h⟩, h2⟩ => ⟨x, hx, h, h2⟩, fun ⟨x, hx, h, h2⟩ => ⟨⟨x, hx, h⟩, h2⟩⟩
  | each =>
    cases k with
    | zero => show false = l.any fun _ => false; simp
    | succ k =>
      show ((l.any fun x => F x k) && _) = l.any fun x => F x k && _
      rw [Bool.eq_iff_iff]
      simp only [List.any_eq_true, Bool.and_eq_true]
      exact ⟨fun ⟨⟨x, hx, h⟩, h2⟩ => ⟨x, hx, h, h2⟩, fun ⟨x, hx, h, h2⟩ => ⟨⟨x, hx, h⟩, h2⟩⟩
  | cls t rs =>
    cases k with
    | zero => show false = l.any fun _ => false; simp
    | succ k =>
      show ((l.any fun x => F x k) && _) = l.any fun x => F x k && _
      rw [Bool.eq_iff_iff]
      simp only [List.any_eq_true, Bool.and_eq_true]
      exact ⟨fun ⟨⟨x, hx, h⟩, h2⟩ => ⟨x, hx, h, h2⟩, fun ⟨x, hx, h, h2⟩ => ⟨⟨x, hx, h⟩, h2⟩⟩
theorem gLd_or (n : List Nat) : ∀ (e : List GA) (α : Type) (l : List α) (F : α → Nat → Bool), gLd n (ofA e) (fun j => l.any fun x => F x j) = fun k => l.any fun x => gLd n (ofA e) (F x) k
  | [], _, _, _ => rfl
  | a :: e, α, l, F => by
    show gLd n (ofA e) (gAd n a (fun j => l.any fun x => F x j)) = fun k => l.any fun x => gLd n (ofA e) (gAd n a (F x)) k
    rw [show gAd n a (fun j => l.any fun x => F x j) = fun k => l.any fun x => gAd n a (F x) k from funext (gAd_or n a α l F)]
    exact gLd_or n e α l _
theorem ofA_app (n : List Nat) : ∀ (e e' : List GA) (f : Nat → Bool), gLd n (ofA (e ++ e')) f = gLd n (ofA e') (gLd n (ofA e) f)
  | [], _, _ => rfl
  | a :: e, e', f => ofA_app n e e' _
/-- A pattern fits what one of its expanded ones fits. -/
theorem gLd_ex (n : List Nat) : ∀ (t : Tr), (Good false t ∨ Good true t) → ∀ f, gLd n t f = fun k => (gEx t).any fun e => gLd n (ofA e) f k
  | .nil, _, f => by funext k; show f k = ([[]] : List (List GA)).any _; simp [ofA, gLd]
  | .none, _, f => by funext k; show false = ([] : List (List GA)).any _; simp
  | .atom a r, h, f => by
    have h : a.Good ∧ Good false r := h.resolve_right (fun h => h.elim)
    funext k
    show gLd n r (gAd n a f) k = ((gEx r).map (a :: ·)).any _
    rw [gLd_ex n r (.inl h.2), List.any_map]
    rfl
  | .br ws r, h, f => by
    have h : Good true ws ∧ ws ≠ .none ∧ Good false r := h.resolve_right (fun h => h.elim)
    funext k
    show gLd n r (gLd n ws f) k = ((gEx ws).flatMap fun e => (gEx r).map (e ++ ·)).any _
    rw [gLd_ex n r (.inl h.2.2), gLd_ex n ws (.inr h.1), Bool.eq_iff_iff]
    simp only [List.any_eq_true, List.mem_flatMap, List.mem_map]
    constructor
    · rintro ⟨e, he, hx⟩
      rw [gLd_or] at hx
      simp only [List.any_eq_true] at hx
      obtain ⟨e', he', hx⟩ := hx
      exact ⟨e' ++ e, ⟨e', he', e, he, rfl⟩, by rw [ofA_app]; exact hx⟩
    · rintro ⟨_, ⟨e', he', e, he, rfl⟩, hx⟩
      rw [ofA_app] at hx
      refine ⟨e, he, ?_⟩
      rw [gLd_or]
      simp only [List.any_eq_true]
      exact ⟨e', he', hx⟩
  | .way p ws, h, f => by
    have h : Good false p ∧ Good true ws := h.resolve_left (fun h => h.elim)
    funext k
    show (gLd n p f k || gLd n ws f k) = (gEx p ++ gEx ws).any _
    rw [gLd_ex n p (.inl h.1), gLd_ex n ws (.inr h.2), List.any_append]
end Go.Proofs.YtkgmglncdiccfaaDoor
