/-
  Walks of the statements of layer 10: what is printed is parsed as it was.
-/
import Derived.Test.YtjbacbbbhedmlaaDoorRetWB
set_option linter.unusedSimpArgs false
set_option linter.unusedVariables false
namespace Go.Proofs.YtjbacbbbhedmlaaDoor.RW
open Go.RowKit RR RP
theorem prV_mem {l : List (Int × Int)} {c : Nat} (h : c ∈ prV l) : c < 256 := by
  have one : ∀ g : Int × Int, ∀ c ∈ prOne g, c < 256 := fun g c hc => by
    have := prOne_mem hc
    omega
  have tl : ∀ l : List (Int × Int), ∀ c ∈ prTail l, c < 256 := by
    intro l
    induction l with
    | nil => intro c hc; cases hc
    | cons g l ih =>
      intro c hc
      unfold prTail at hc
      rcases List.mem_cons.1 hc with rfl | hc
      · decide
      · rcases List.mem_append.1 hc with hc | hc
        · exact one g c hc
        · exact ih c hc
  cases l with
  | nil => cases h
  | cons g l =>
    unfold prV at h
    rcases List.mem_append.1 h with hc | hc
    · exact one g c hc
    · exact tl l c hc
set_option maxRecDepth 100000 in
set_option maxHeartbeats 4000000 in
theorem retentionBack_c (v : Value) (l : List (Int × Int)) (w : World) (g : G w) (pw : Pw w) (f : RgOut w v l) : Calls Tryd.prog 5 #[v] w fun e w' => e = .returned (.bool true) ∧ Below w.heap.size w w' := by
  have AL := Lib.hid (alive_c w g)
  by_cases h5 : 1000 < l.length
  · obtain ⟨A, c, rfl, hc, hx⟩ := f
    generalize l.length = n at *
    have h5' : (1000 : Int) < (n : Int) := by omega
    clear hx g pw
    go_enter Tryd.func5, Tryd.ntmps5
    go_wp2_with fail
    refine AL.out.mono ?_; rintro _ w1 ⟨rfl, hb1⟩
    go_wp2
    go_ret
    exact ⟨rfl, hb1⟩
  · have h5' : ¬ (1000 : Int) < (l.length : Int) := by omega
    have P1 := Lib.hid (fun W (hW : RgOut W v l) (pW : Pw W) => RP.print_c v l (by omega) W hW pW)
    have T2 := Lib.hid (fun W (hW : RgOut W v l) => RR.together_c v l (by omega) W hW)
    have hP : printV l = if tog l then (prV l, 0) else ([], 1) := rfl
    rw [hP] at P1
    have FF := Lib.hid f; have PW := Lib.hid pw; have GG := Lib.hid g
    by_cases hd : tog l = true
    · have hok := ((tog_iff l).1 hd).2.1
      have hl4 := ((tog_iff l).1 hd).1.2
      have hsz := prV_length l (fun x hx => by obtain ⟨j, hj⟩ := List.getElem?_of_mem hx; exact hok j x hj)
      have S1 := Lib.hid (fun W (gW : G W) => parse_p (str (prV l)) (by rw [str_size]; omega) W gW)
      rw [bs_str (fun c hc => prV_mem hc), parse_back hd] at S1
      rw [hd] at P1
      simp only [if_true] at P1 S1
      have SR := Lib.hid (fun W v2 (h1 : RgOut W v l) (h2 : RgOut W v2 l) => sameRungs_c v v2 l l (by omega) (by omega) W h1 h2)
      rw [decide_eq_true (rfl : l = l)] at SR
      generalize str (prV l) = S at *
      clear hd hok hl4 hsz hP g pw T2
      obtain ⟨A, c, hv, hc, hx⟩ := f
      subst hv
      clear hx
      generalize hn : l.length = n at *
      go_enter Tryd.func5, Tryd.ntmps5
      go_wp2_with fail
      refine AL.out.mono ?_; rintro _ w1 ⟨rfl, hb1⟩
      go_wp2_with fail
      refine (P1.out _ (FF.out.below hb1) (PW.out.below hb1)).mono ?_; rintro _ w2 ⟨rfl, hb2⟩
      have H2 := Lib.hid (bnext hb1 hb2)
      clear hb1 hb2 P1 PW
      go_wp2_with fail
      refine (S1.out _ (GG.out.below H2.out)).mono ?_; rintro _ w3 ⟨v3, rfl, h3, hb3⟩
      have H3 := Lib.hid (bnext H2.out hb3)
      have SR3 := Lib.hid (SR.out w3 v3 (FF.out.below H3.out) h3)
      clear h3 hb3 SR H2
      go_wp2_with fail
      refine SR3.out.mono ?_; rintro _ w4 ⟨rfl, hb4⟩
      go_wp2
      go_ret
      exact ⟨rfl, bnext H3.out hb4⟩
    · have hd' : tog l = false := by simpa using hd
      rw [hd'] at P1 T2
      simp only [Bool.false_eq_true, if_false] at P1 T2
      have e0 : str [] = ⟨#[]⟩ := rfl
      rw [e0] at P1
      clear hd hd' hP g pw
      obtain ⟨A, c, hv, hc, hx⟩ := f
      subst hv
      clear hx
      generalize hn : l.length = n at *
      go_enter Tryd.func5, Tryd.ntmps5
      go_wp2_with fail
      refine AL.out.mono ?_; rintro _ w1 ⟨rfl, hb1⟩
      go_wp2_with fail
      refine (P1.out _ (FF.out.below hb1) (PW.out.below hb1)).mono ?_; rintro _ w2 ⟨rfl, hb2⟩
      have H2 := Lib.hid (bnext hb1 hb2)
      clear hb1 hb2 P1 PW
      go_wp2_with fail
      refine (T2.out _ (FF.out.below H2.out)).mono ?_; rintro _ w3 ⟨rfl, hb3⟩
      go_wp2
      go_ret
      exact ⟨rfl, bnext H2.out hb3⟩
end Go.Proofs.YtjbacbbbhedmlaaDoor.RW
