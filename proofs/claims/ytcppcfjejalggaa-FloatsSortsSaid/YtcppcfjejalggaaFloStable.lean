/-
  Plain facts on a stable sort by blocks that are merged in place: what comes of it is each item put in behind all that aren't above it. Nothing of the program is imported.
-/
import Derived.Test.YtcppcfjejalggaaFloRow
import Derived.Sort.WalkA
import Derived.Sort.Lot0
set_option linter.unusedSimpArgs false
set_option linter.unusedVariables false
namespace Go.Proofs.Ytcppcfjejalggaa.ST
open Go.Sort
section
variable {α : Type} (rk : α → Int)
/-- Two rows merged; of equal ones those of the first row first. -/
def mg : List α → List α → List α
  | [], ys => ys
  | x :: xs, [] => x :: xs
  | x :: xs, y :: ys => if rk y < rk x then y :: mg (x :: xs) ys else x :: mg xs (y :: ys)
termination_by xs ys => xs.length + ys.length
theorem mg_nil (ys : List α) : mg rk [] ys = ys := by rw [mg]
theorem mg_none (xs : List α) : mg rk xs [] = xs := by cases xs <;> rw [mg]
theorem mg_right {x y : α} (xs ys : List α) (h : rk y < rk x) : mg rk (x :: xs) (y :: ys) = y :: mg rk (x :: xs) ys := by rw [mg, if_pos h]
theorem mg_left {x y : α} (xs ys : List α) (h : ¬ rk y < rk x) : mg rk (x :: xs) (y :: ys) = x :: mg rk xs (y :: ys) := by rw [mg, if_neg h]
theorem mg_length : ∀ (xs ys : List α), (mg rk xs ys).length = xs.length + ys.length
  | [], ys => by rw [mg_nil]; simp
  | x :: xs, [] => by rw [mg_none]; simp
  | x :: xs, y :: ys => by
    by_cases h : rk y < rk x
    · rw [mg_right rk xs ys h, List.length_cons, mg_length (x :: xs) ys]; simp; omega
    · rw [mg_left rk xs ys h, List.length_cons, mg_length xs (y :: ys)]; simp; omega
termination_by xs ys => xs.length + ys.length
theorem mg_mem : ∀ (xs ys : List α) {z : α}, z ∈ mg rk xs ys ↔ z ∈ xs ∨ z ∈ ys
  | [], ys, z => by rw [mg_nil]; simp
  | x :: xs, [], z => by rw [mg_none]; simp
  | x :: xs, y :: ys, z => by
    by_cases h : rk y < rk x
    · rw [mg_right rk xs ys h]
      exact List.mem_cons.trans ((or_congr_right (mg_mem (x :: xs) ys)).trans (or_left_comm.trans (or_congr_right List.mem_cons.symm)))
    · rw [mg_left rk xs ys h]
      exact List.mem_cons.trans ((or_congr_right (mg_mem xs (y :: ys))).trans (or_assoc.symm.trans (or_congr_left List.mem_cons.symm)))
termination_by xs ys => xs.length + ys.length
/-- In order. -/
def Up (l : List α) : Prop := l.Pairwise fun a b => rk a ≤ rk b
theorem mg_up : ∀ (xs ys : List α), Up rk xs → Up rk ys → Up rk (mg rk xs ys)
  | [], ys, _, h => by rw [mg_nil]; exact h
  | x :: xs, [], h, _ => by rw [mg_none]; exact h
  | x :: xs, y :: ys, h1, h2 => by
    have a1 := List.pairwise_cons.1 h1
    have a2 := List.pairwise_cons.1 h2
    by_cases h : rk y < rk x
    · rw [mg_right rk xs ys h]
      refine List.pairwise_cons.2 ⟨fun z hz => ?_, mg_up (x :: xs) ys h1 a2.2⟩
      rcases (mg_mem rk _ _).1 hz with hz | hz
      · rcases List.mem_cons.1 hz with rfl | hz
        · omega
        · have := a1.1 z hz; omega
      · exact a2.1 z hz
    · rw [mg_left rk xs ys h]
      refine List.pairwise_cons.2 ⟨fun z hz => ?_, mg_up xs (y :: ys) a1.2 h2⟩
      rcases (mg_mem rk _ _).1 hz with hz | hz
      · exact a1.1 z hz
      · rcases List.mem_cons.1 hz with rfl | hz
        · omega
        · have := a2.1 z hz; omega
termination_by xs ys => xs.length + ys.length
theorem mg_one : ∀ (s t : List α) (x : α), mg rk (mg rk s t) [x] = mg rk s (mg rk t [x])
  | [], t, x => by rw [mg_nil, mg_nil]
  | a :: s, [], x => by rw [mg_none, mg_nil]
  | a :: s, b :: t, x => by
    by_cases hb : rk b < rk a
    · rw [mg_right rk s t hb]
      by_cases hx : rk x < rk b
      · rw [mg_right rk _ _ hx, mg_right rk t [] hx, mg_none, mg_none, mg_right rk s _ (by omega), mg_right rk s t hb]
      · rw [mg_left rk _ _ hx, mg_left rk t [] hx, mg_right rk s _ hb, mg_one (a :: s) t x]
    · rw [mg_left rk s t hb]
      by_cases hx : rk x < rk a
      · rw [mg_right rk _ _ hx, mg_none, mg_right rk t [] (by omega), mg_none, mg_right rk s _ hx, mg_left rk s t hb]
      · rw [mg_left rk _ _ hx, mg_one s (b :: t) x]
        by_cases hxb : rk x < rk b
        · rw [mg_right rk t [] hxb, mg_none, mg_left rk s _ hx]
        · rw [mg_left rk t [] hxb, mg_left rk s _ hb]
termination_by s t => s.length + t.length
/-- Each one put in behind all that aren't above it. -/
def srt (l : List α) : List α := l.foldl (fun s x => mg rk s [x]) []
theorem srt_snoc (l : List α) (x : α) : srt rk (l ++ [x]) = mg rk (srt rk l) [x] := by unfold srt; rw [List.foldl_append]; rfl
theorem fold_mg (s : List α) (l : List α) : l.foldl (fun s x => mg rk s [x]) s = mg rk s (srt rk l) := by
  have h : ∀ (n : Nat) (l : List α), l.length = n → l.foldl (fun s x => mg rk s [x]) s = mg rk s (srt rk l) := by
    intro n
    induction n with
    | zero =>
      intro l hl
      rw [List.eq_nil_of_length_eq_zero hl]
      show s = mg rk s []
      rw [mg_none]
    | succ n ih =>
      intro l hl
      have hne : l ≠ [] := by intro h; rw [h] at hl; cases hl
      have e := List.dropLast_concat_getLast hne
      rw [← e, List.foldl_append, srt_snoc, ← mg_one, ← ih l.dropLast (by rw [List.length_dropLast]; omega)]
      rfl
  exact h _ l rfl
theorem srt_app (a b : List α) : srt rk (a ++ b) = mg rk (srt rk a) (srt rk b) := by
  rw [← fold_mg]
  unfold srt
  rw [List.foldl_append]
theorem srt_length (l : List α) : (srt rk l).length = l.length := by
  have h : ∀ (l s : List α), (l.foldl (fun s x => mg rk s [x]) s).length = s.length + l.length := by
    intro l
    induction l with
    | nil => intro s; rfl
    | cons x l ih => intro s; rw [List.foldl_cons, ih, mg_length]; simp; omega
  unfold srt
  rw [h]; simp
theorem srt_up (l : List α) : Up rk (srt rk l) := by
  have h : ∀ (l s : List α), Up rk s → Up rk (l.foldl (fun s x => mg rk s [x]) s) := by
    intro l
    induction l with
    | nil => intro s hs; exact hs
    | cons x l ih => intro s hs; exact ih _ (mg_up rk _ _ hs (List.pairwise_singleton _ _))
  exact h l [] List.Pairwise.nil
/-! ### How a merge comes apart -/
theorem mg_split : ∀ (a1 b1 a2 b2 : List α), (∀ x ∈ a1, ∀ y ∈ b2, ¬ rk y < rk x) → (∀ x ∈ a2, ∀ y ∈ b1, rk y < rk x) → mg rk (a1 ++ a2) (b1 ++ b2) = mg rk a1 b1 ++ mg rk a2 b2
  | [], [], a2, b2, _, _ => by rw [mg_nil]; rfl
  | [], y :: b1, [], b2, _, _ => by rw [mg_nil]; simp [mg_nil]
  | [], y :: b1, x :: a2, b2, h1, h2 => by
    have h := h2 x List.mem_cons_self y List.mem_cons_self
    rw [List.nil_append, List.cons_append, mg_right rk _ _ h, mg_nil]
    have := mg_split [] b1 (x :: a2) b2 (fun x hx => by cases hx) (fun x hx z hz => h2 x hx z (List.mem_cons_of_mem _ hz))
    rw [List.nil_append, mg_nil] at this
    rw [this]; rfl
  | x :: a1, [], a2, [], _, _ => by rw [mg_none, mg_none]; simp [mg_none]
  | x :: a1, [], a2, y :: b2, h1, h2 => by
    have h := h1 x List.mem_cons_self y List.mem_cons_self
    rw [List.cons_append, List.nil_append, mg_left rk _ _ h, mg_none]
    have := mg_split a1 [] a2 (y :: b2) (fun z hz => h1 z (List.mem_cons_of_mem _ hz)) (fun x hx z hz => by cases hz)
    rw [List.nil_append, mg_none] at this
    rw [this]; rfl
  | x :: a1, y :: b1, a2, b2, h1, h2 => by
    by_cases h : rk y < rk x
    · rw [List.cons_append, List.cons_append, mg_right rk _ _ h, mg_right rk _ _ h]
      have := mg_split (x :: a1) b1 a2 b2 h1 (fun z hz u hu => h2 z hz u (List.mem_cons_of_mem _ hu))
      rw [List.cons_append] at this
      rw [this]; rfl
    · rw [List.cons_append, List.cons_append, mg_left rk _ _ h, mg_left rk _ _ h]
      have := mg_split a1 (y :: b1) a2 b2 (fun z hz => h1 z (List.mem_cons_of_mem _ hz)) h2
      rw [List.cons_append] at this
      rw [this]; rfl
termination_by a1 b1 => a1.length + b1.length
/-- One item in front of a row: behind all that are below it. -/
theorem mg_front (x : α) : ∀ (r1 r2 : List α), (∀ y ∈ r1, rk y < rk x) → (∀ y ∈ r2, ¬ rk y < rk x) → mg rk [x] (r1 ++ r2) = r1 ++ x :: r2
  | [], [], _, _ => by simp [mg_none]
  | [], y :: r2, _, h2 => by rw [List.nil_append, mg_left rk _ _ (h2 y List.mem_cons_self), mg_nil]; rfl
  | z :: r1, r2, h1, h2 => by
    rw [List.cons_append, mg_right rk _ _ (h1 z List.mem_cons_self), mg_front x r1 r2 (fun y hy => h1 y (List.mem_cons_of_mem _ hy)) h2]; rfl
/-- One item behind a row: ahead of all that are above it. -/
theorem mg_back (y : α) : ∀ (l1 l2 : List α), (∀ x ∈ l1, ¬ rk y < rk x) → (∀ x ∈ l2, rk y < rk x) → mg rk (l1 ++ l2) [y] = l1 ++ y :: l2
  | [], [], _, _ => by simp [mg_nil]
  | [], x :: l2, _, h2 => by rw [List.nil_append, mg_right rk _ _ (h2 x List.mem_cons_self), mg_none]; rfl
  | z :: l1, l2, h1, h2 => by
    rw [List.cons_append, mg_left rk _ _ (h1 z List.mem_cons_self), mg_back y l1 l2 (fun x hx => h1 x (List.mem_cons_of_mem _ hx)) h2]; rfl
theorem mg_push (x z : α) : ∀ (u : List α), rk x < rk z → mg rk (u ++ [z]) [x] = mg rk u [x] ++ [z]
  | [], h => by rw [List.nil_append, mg_right rk _ _ h, mg_none, mg_nil]; rfl
  | a :: u, h => by
    rw [List.cons_append]
    by_cases hx : rk x < rk a
    · rw [mg_right rk _ _ hx, mg_none, mg_right rk _ _ hx, mg_none]; rfl
    · rw [mg_left rk _ _ hx, mg_left rk _ _ hx, mg_push x z u h]; rfl
/-! ### Blocks -/
/-- Each block of so many, sorted by itself. -/
def chk (bs : Nat) (l : List α) : List α := if h : bs = 0 ∨ l.length ≤ bs then srt rk l else srt rk (l.take bs) ++ chk bs (l.drop bs)
termination_by l.length
decreasing_by rw [List.length_drop]; omega
theorem chk_end {bs : Nat} {l : List α} (h : l.length ≤ bs) : chk rk bs l = srt rk l := by rw [chk, dif_pos (.inr h)]
theorem chk_more {bs : Nat} {l : List α} (h0 : 0 < bs) (h : bs < l.length) : chk rk bs l = srt rk (l.take bs) ++ chk rk bs (l.drop bs) := by rw [chk, dif_neg (by omega)]
theorem chk_step {bs : Nat} {l : List α} (h0 : 0 < bs) (h : bs ≤ l.length) : chk rk bs l = srt rk (l.take bs) ++ chk rk bs (l.drop bs) := by
  rcases Nat.lt_or_ge bs l.length with hl | hl
  · exact chk_more rk h0 hl
  · rw [chk_end rk hl, List.take_of_length_le hl, List.drop_of_length_le hl, chk_end rk (Nat.zero_le _)]
    simp [srt]
theorem chk_length (bs : Nat) : ∀ (l : List α), (chk rk bs l).length = l.length := by
  intro l
  induction l using chk.induct (bs := bs) with
  | case1 l h => rw [chk, dif_pos h, srt_length]
  | case2 l h ih => rw [chk, dif_neg h, List.length_append, srt_length, ih, List.length_take, List.length_drop]; omega
/-- Two blocks merged. -/
theorem chk_two {bs : Nat} {l : List α} (h0 : 0 < bs) (h : 2 * bs ≤ l.length) :
    chk rk bs l = srt rk (l.take bs) ++ (srt rk ((l.drop bs).take bs) ++ chk rk bs (l.drop (2 * bs))) ∧ chk rk (2 * bs) l = mg rk (srt rk (l.take bs)) (srt rk ((l.drop bs).take bs)) ++ chk rk (2 * bs) (l.drop (2 * bs)) := by
  constructor
  · rw [chk_step rk h0 (by omega), chk_step rk h0 (l := l.drop bs) (by rw [List.length_drop]; omega), List.drop_drop, show bs + bs = 2 * bs from by omega]
  · rw [chk_step rk (by omega) h, ← srt_app]
    congr 2
    rw [show 2 * bs = bs + bs from by omega, List.take_add]
theorem chk_tail {bs : Nat} {l : List α} (h0 : 0 < bs) (h1 : bs < l.length) (h2 : l.length < 2 * bs) :
    chk rk bs l = srt rk (l.take bs) ++ srt rk (l.drop bs) ∧ chk rk (2 * bs) l = mg rk (srt rk (l.take bs)) (srt rk (l.drop bs)) := by
  constructor
  · rw [chk_more rk h0 h1, chk_end rk (l := l.drop bs) (by rw [List.length_drop]; omega)]
  · rw [chk_end rk (by omega), ← srt_app, List.take_append_drop]
theorem chk_last {bs : Nat} {l : List α} (h1 : l.length ≤ bs) : chk rk bs l = chk rk (2 * bs) l := by rw [chk_end rk h1, chk_end rk (by omega)]
end
section
variable {α β : Type} (f : α → β) (rk : β → Int)
theorem mg_map : ∀ (xs ys : List α), (mg (fun x => rk (f x)) xs ys).map f = mg rk (xs.map f) (ys.map f)
  | [], ys => by rw [mg_nil, List.map_nil, mg_nil]
  | x :: xs, [] => by rw [mg_none, List.map_nil, mg_none]
  | x :: xs, y :: ys => by
    by_cases h : rk (f y) < rk (f x)
    · rw [mg_right _ xs ys h, List.map_cons, List.map_cons, List.map_cons, mg_right rk _ _ h, mg_map (x :: xs) ys]; rfl
    · rw [mg_left _ xs ys h, List.map_cons, List.map_cons, List.map_cons, mg_left rk _ _ h, mg_map xs (y :: ys)]; rfl
termination_by xs ys => xs.length + ys.length
theorem srt_map (l : List α) : (srt (fun x => rk (f x)) l).map f = srt rk (l.map f) := by
  have h : ∀ (l s : List α), (l.foldl (fun s x => mg (fun x => rk (f x)) s [x]) s).map f = (l.map f).foldl (fun s x => mg rk s [x]) (s.map f) := by
    intro l
    induction l with
    | nil => intro s; rfl
    | cons x l ih =>
      intro s
      simp only [List.foldl_cons, List.map_cons]
      rw [ih, mg_map]
      rfl
  exact h l []
end
/-! ### Rows as arrays -/
section
variable {α : Type} [Inhabited α]
theorem arr_get (A C : List α) (x : α) (i : Nat) (hi : i = A.length) : (A ++ x :: C).toArray[i]! = x := by
  subst hi
  simp
theorem swp_list (A B C : List α) (x y : α) (i j : Nat) (hi : i = A.length) (hj : j = A.length + 1 + B.length) :
    swp (A ++ x :: (B ++ y :: C)).toArray i j = (A ++ y :: (B ++ x :: C)).toArray := by
  have g1 : (A ++ x :: (B ++ y :: C)).toArray[i]! = x := arr_get A _ x i hi
  have e : A ++ x :: (B ++ y :: C) = (A ++ x :: B) ++ y :: C := by simp
  have g2 : (A ++ x :: (B ++ y :: C)).toArray[j]! = y := by rw [e]; exact arr_get _ C y j (by rw [hj]; simp; omega)
  unfold swp
  rw [g1, g2]
  subst hi hj
  rw [List.setIfInBounds_toArray, List.setIfInBounds_toArray]
  congr 1
  show ((A ++ x :: (B ++ y :: C)).set A.length y).set (A.length + 1 + B.length) x = _
  rw [List.set_append, if_neg (by omega), Nat.sub_self, List.set_cons_zero, List.set_append, if_neg (by omega), show A.length + 1 + B.length - A.length = B.length + 1 from by omega, List.set_cons_succ, List.set_append, if_neg (by omega), Nat.sub_self, List.set_cons_zero]
theorem swp_back (A B C : List α) (x y : α) (i j : Nat) (hi : i = A.length) (hj : j = A.length + 1 + B.length) :
    swp (A ++ x :: (B ++ y :: C)).toArray j i = (A ++ y :: (B ++ x :: C)).toArray := by
  have g1 : (A ++ x :: (B ++ y :: C)).toArray[i]! = x := arr_get A _ x i hi
  have e : A ++ x :: (B ++ y :: C) = (A ++ x :: B) ++ y :: C := by simp
  have g2 : (A ++ x :: (B ++ y :: C)).toArray[j]! = y := by rw [e]; exact arr_get _ C y j (by rw [hj]; simp; omega)
  unfold swp
  rw [g1, g2]
  subst hi hj
  rw [List.setIfInBounds_toArray, List.setIfInBounds_toArray]
  congr 1
  show ((A ++ x :: (B ++ y :: C)).set (A.length + 1 + B.length) x).set A.length y = _
  rw [List.set_append, if_neg (by omega), show A.length + 1 + B.length - A.length = B.length + 1 from by omega, List.set_cons_succ, List.set_append, if_neg (by omega), Nat.sub_self, List.set_cons_zero, List.set_append, if_neg (by omega), Nat.sub_self, List.set_cons_zero]
variable (rk : α → Int)
def ltR (x y : α) : Bool := decide (rk x < rk y)
/-- The kit's insertion into a row: the same. -/
theorem inner_is (P T : List α) (x : α) : ∀ (n : Nat) (s r : List α), s.length = n → Up rk s →
    insInner (ltR rk) P.length (P.length + s.length) (P ++ (s ++ x :: (r ++ T))).toArray = (P ++ (mg rk s [x] ++ (r ++ T))).toArray := by
  intro n
  induction n with
  | zero =>
    intro s r hs _
    rw [List.eq_nil_of_length_eq_zero hs, insInner_stop _ _ _ _ (.inl (by simp)), mg_nil]
    rfl
  | succ n ih =>
    intro s r hs hup
    have hne : s ≠ [] := by intro h; rw [h] at hs; cases hs
    obtain ⟨u, z, rfl⟩ : ∃ u z, s = u ++ [z] := ⟨s.dropLast, s.getLast hne, (List.dropLast_concat_getLast hne).symm⟩
    have hu : u.length = n := by simp at hs; omega
    have hup' := List.pairwise_append.1 hup
    have e : P ++ (u ++ [z] ++ x :: (r ++ T)) = (P ++ u) ++ z :: ([] ++ x :: (r ++ T)) := by simp
    have hl : P.length + (u ++ [z]).length = (P ++ u).length + 1 := by simp; omega
    have g1 : (P ++ (u ++ [z] ++ x :: (r ++ T))).toArray[P.length + (u ++ [z]).length]! = x := by
      have e2 : P ++ (u ++ [z] ++ x :: (r ++ T)) = (P ++ u ++ [z]) ++ x :: (r ++ T) := by simp
      rw [e2]; exact arr_get _ _ _ _ (by simp <;> omega)
    have g2 : (P ++ (u ++ [z] ++ x :: (r ++ T))).toArray[P.length + (u ++ [z]).length - 1]! = z := by
      rw [e]; exact arr_get _ _ _ _ (by rw [hl]; rfl)
    by_cases h : rk x < rk z
    · rw [insInner_go _ _ _ _ (by simp <;> omega) (by rw [g1, g2]; exact decide_eq_true h), hl, Nat.add_sub_cancel, e, swp_back (P ++ u) [] (r ++ T) z x (P ++ u).length ((P ++ u).length + 1) rfl rfl, mg_push rk x z u h]
      have := ih u (z :: r) hu hup'.1
      rw [List.length_append]
      have e3 : P ++ u ++ x :: ([] ++ z :: (r ++ T)) = P ++ (u ++ x :: (z :: r ++ T)) := by simp
      rw [e3, this]
      congr 1
      simp
    · rw [insInner_stop _ _ _ _ (.inr (by rw [g1, g2]; exact decide_eq_false h))]
      have hall : ∀ y ∈ u ++ [z], ¬ rk x < rk y := by
        intro y hy
        rcases List.mem_append.1 hy with hy | hy
        · have := hup'.2.2 y hy z (List.mem_singleton.2 rfl); omega
        · rw [List.mem_singleton.1 hy]; exact h
      have := mg_back rk x (u ++ [z]) [] hall (fun y hy => by cases hy)
      rw [List.append_nil] at this
      rw [this]
      congr 1
      simp
theorem outer_is (P T : List α) : ∀ (U s : List α), Up rk s →
    insOuter (ltR rk) P.length (P.length + s.length + U.length) (P.length + s.length) (P ++ (s ++ (U ++ T))).toArray = (P ++ (U.foldl (fun s x => mg rk s [x]) s ++ T)).toArray
  | [], s, _ => by rw [insOuter_stop _ _ _ _ _ (by simp)]; rfl
  | x :: U, s, h => by
    rw [insOuter_go _ _ _ _ _ (by simp)]
    have := inner_is rk P (U ++ T) x _ s [] rfl h
    have e : P ++ (s ++ (x :: U ++ T)) = P ++ (s ++ x :: ([] ++ (U ++ T))) := by simp
    rw [e, this, List.foldl_cons]
    have ih := outer_is P T U (mg rk s [x]) (mg_up rk _ _ h (List.pairwise_singleton _ _))
    rw [mg_length] at ih
    rw [← ih]
    congr 1
    · simp; omega
/-- A block sorted by the kit's insertion. -/
theorem ins_is (P U T : List α) : insertionSort (ltR rk) (P ++ (U ++ T)).toArray P.length (P.length + U.length) = (P ++ (srt rk U ++ T)).toArray := by
  unfold insertionSort
  cases U with
  | nil => rw [insOuter_stop _ _ _ _ _ (by simp)]; rfl
  | cons x U =>
    have h := outer_is rk P T U [x] (List.pairwise_singleton _ _)
    have e : P ++ ([x] ++ (U ++ T)) = P ++ (x :: U ++ T) := by simp
    rw [e] at h
    have e2 : P.length + (x :: U).length = P.length + [x].length + U.length := by simp; omega
    rw [e2]
    refine h.trans ?_
    congr 3
    unfold srt
    rw [List.foldl_cons, mg_nil]
end
/-! ### The document's order -/
theorem insF_is {s : List Nat} {x : Nat} (h : Srt s) (hs : ∀ n ∈ s, n < 18446744073709551616) (hx : x < 18446744073709551616) : insF s x = mg fRank s [x] := by
  have hk := kF_le s x s.length
  have hab := kF_above s x s.length
  have hbe := kF_below s x s.length
  unfold insF
  generalize kF s x s.length = k at *
  have e : s.take k ++ s.drop k = s := List.take_append_drop k s
  conv => rhs; rw [← e]
  refine (mg_back fRank x _ _ ?_ ?_).symm
  · intro y hy
    by_cases hk0 : 0 < k
    · have h1 := hbe hk0
      have hm : s.getD (k - 1) 0 = s[k - 1]'(by omega) := by rw [List.getD_eq_getElem?_getD, List.getElem?_eq_getElem (by omega)]; rfl
      rw [hm, cmp_pos (hs _ (List.getElem_mem _)) hx] at h1
      obtain ⟨j, hj, rfl⟩ := List.getElem_of_mem hy
      rw [List.length_take] at hj
      rw [List.getElem_take]
      rcases Nat.lt_or_ge j (k - 1) with hl | hl
      · have := List.pairwise_iff_getElem.1 h j (k - 1) (by omega) (by omega) hl; omega
      · have : j = k - 1 := by omega
        subst this; exact h1
    · have : k = 0 := by omega
      subst this; cases hy
  · intro y hy
    obtain ⟨j, hj, rfl⟩ := List.getElem_of_mem hy
    rw [List.length_drop] at hj
    have h1 := hab (k + j) (by omega) (by omega)
    rw [List.getD_eq_getElem?_getD, List.getElem?_eq_getElem (by omega)] at h1
    rw [List.getElem_drop]
    exact (cmp_pos (hs _ (List.getElem_mem _)) hx).1 h1
theorem sortF_is (l : List Nat) (h : ∀ n ∈ l, n < 18446744073709551616) : sortF l = srt fRank l := by
  have g : ∀ (l s : List Nat), Srt s → (∀ n ∈ s, n < 18446744073709551616) → (∀ n ∈ l, n < 18446744073709551616) → l.foldl insF s = l.foldl (fun s x => mg fRank s [x]) s := by
    intro l
    induction l with
    | nil => intro s _ _ _; rfl
    | cons x l ih =>
      intro s h1 h2 h3
      rw [List.foldl_cons, List.foldl_cons, ← insF_is h1 h2 (h3 x List.mem_cons_self)]
      exact ih _ (insF_srt h1 h2 (h3 x List.mem_cons_self)) (fun n hn => (insF_mem hn).elim (fun e => by rw [e]; exact h3 x List.mem_cons_self) (h2 n)) (fun n hn => h3 n (List.mem_cons_of_mem _ hn))
  exact g l [] List.Pairwise.nil (fun n hn => by cases hn) h
end Go.Proofs.Ytcppcfjejalggaa.ST
