/-
  Package first: Of. No condition.
-/
import Derived.Test.YtoipinnfmjaaaaaGreatDoorMStart
import Derived.Test.YtoipinnfmjaaaaaGreatDoorMMuch
namespace Go.Proofs.YtoipinnfmjaaaaaGreatDoor.Fi
open Go.RowKit Go.Maps
open Go.Proofs.YtoipinnfmjaaaaaGreatDoor.Gr
open Go.Proofs.YtoipinnfmjaaaaaGreatDoor.Bt (SetAt SetV Keeps OtherV Upto has putI putR)
open Go.Proofs.YtoipinnfmjaaaaaGreatDoor.Rw (Bk)
set_option linter.unusedVariables false

theorem left_non {G : Gram} (h : knownB G = true) {r : Int × List Int} (hr : r ∈ G.rules) : nonB G r.1 = true := by
  unfold knownB at h
  simp only [Bool.and_eq_true, List.all_eq_true] at h
  exact (h.2 r hr).1
theorem right_in {G : Gram} (h : knownB G = true) {r : Int × List Int} (hr : r ∈ G.rules) {y : Int} (hy : y ∈ r.2) : 1 ≤ y ∧ y ≤ (top G : Int) := by
  unfold knownB at h
  simp only [Bool.and_eq_true, List.all_eq_true] at h
  have := (h.2 r hr).2 y hy
  simpa using this
theorem start_non {G : Gram} (h : knownB G = true) : nonB G G.start = true := by
  unfold knownB at h
  rw [Bool.and_eq_true] at h
  exact h.1
theorem lefts_of {G : Gram} (h : knownB G = true) : Lefts G (top G + 1) := fun r hr => by
  have := nonB_iff.1 (left_non h hr)
  have e : top G = G.terms.length + G.nons.length := rfl
  omega
theorem rng_can {G : Gram} (h : knownB G = true) : Rng (canB G) (top G + 1) := fun x hx => by
  obtain ⟨r, hr, rfl⟩ := can_left (canB_iff.1 hx)
  have := lefts_of h r hr
  omega
theorem tok0 {G : Gram} (h : knownB G = true) {C : Int → Bool} (hC : Rng C (top G + 1)) : TOk G.terms.length (top G + 1) C (tabF0 G) (tabB0 G) := by
  have e : top G = G.terms.length + G.nons.length := rfl
  have hs := nonB_iff.1 (start_non h)
  refine ⟨hC, fun x i hi => ?_, fun x i hi => ?_, fun x i hi => ?_, fun x i hi => ?_⟩
  · unfold tabF0 at hi
    rw [decide_eq_true_iff] at hi
    omega
  · unfold tabF0 at hi
    rw [decide_eq_true_iff] at hi
    omega
  · unfold tabB0 at hi
    rw [decide_eq_true_iff] at hi
    omega
  · unfold tabB0 at hi
    rw [decide_eq_true_iff] at hi
    omega
theorem TOk.addF {t n : Nat} {C : Int → Bool} {F B : Int → Int → Bool} (h : TOk t n C F B) {r : Int × List Int} (h0 : 0 ≤ r.1) (h1 : r.1 < (n : Int)) : TOk t n C (addF C F r) B := by
  refine ⟨h.c, fun x i e => ?_, fun x i e => ?_, h.b1, h.b2⟩
  · unfold Fi.addF at e
    simp only [Bool.or_eq_true, Bool.and_eq_true, decide_eq_true_iff] at e
    rcases e with e | ⟨_, e⟩
    · exact h.f1 x i e
    · exact lineB_rng h.f1 _ i e
  · unfold Fi.addF at e
    simp only [Bool.or_eq_true, Bool.and_eq_true, decide_eq_true_iff] at e
    rcases e with e | ⟨e, _⟩
    · exact h.f2 x i e
    · subst e
      exact ⟨h0, h1⟩

/-! ### The three passes -/

noncomputable def passE (G : Gram) (n : Nat) (hn : Lefts G n) : Pass G (Int → Bool) where
  Inv C := ∀ x, C x = true → Can G x
  Tr C0 j C b := TriedE G n C0 j C b
  ms C := missR C n
  Fin C := C = canB G
  zero _ h := triedE_zero h
  inv _ _ _ _ h := h.snd
  yes _ _ _ h := h.yes rfl
  fin _ _ _ h hj := h.all hj
noncomputable def passF (G : Gram) (n : Nat) : Pass G (Int → Int → Bool) where
  Inv F := Snd G (canB G) F ∧ Leaf G F
  Tr F0 j F b := TriedG G n F0 j F b
  ms F := missT F (G.terms.length + 1) n
  Fin F := F = fstB G
  zero _ h := triedG_zero h.1 h.2
  inv _ _ _ _ h := ⟨h.snd, h.leaf⟩
  yes _ _ _ h := h.yes rfl
  fin _ _ _ h hj := h.all hj
noncomputable def passB (G : Gram) (n : Nat) : Pass G (Int → Int → Bool) where
  Inv B := BSnd G B ∧ B G.start 0 = true
  Tr B0 j B b := TriedB G n (canB G) (fstB G) B0 j 0 B b
  ms B := missT B (G.terms.length + 1) n
  Fin B := B = folB G
  zero _ h := triedB_zero h.1 h.2
  inv _ _ _ _ h := ⟨h.snd, h.start⟩
  yes _ _ _ h := h.yes rfl
  fin _ _ _ h hj := fol_eq (h.all (just_b G) hj)

/-- The sets with the tables C, F, B. -/
def Sts (P D : Ix → Nat) (p q1 q2 t n : Nat) (C : Int → Bool) (F B : Int → Int → Bool) (w : World) : Prop := TOk t n C F B ∧ SAt (Iab t n n) P D p q1 q2 t n (tv C F B no0) w
theorem Sts.went {P D : Ix → Nat} {p q1 q2 t n : Nat} {C : Int → Bool} {F B : Int → Int → Bool} {w w' : World} (h : Sts P D p q1 q2 t n C F B w) (hb : Below w.heap.size w w') : Sts P D p q1 q2 t n C F B w' := ⟨h.1, h.2.went hb⟩
theorem lok_rule {G : Gram} (h : Sml G) {j : Nat} (hj : j < G.rules.length) {c : Nat} (hc : G.rules[j].2.length ≤ c) : LOk G.rules[j].2 c := by
  have hm := List.getElem_mem hj
  refine ⟨fun x hx => ?_, by have := h.w _ hm; omega, hc⟩
  have h1 := right_in h.known hm hx
  have e : top G = G.terms.length + G.nons.length := rfl
  have := h.t
  have := h.n
  omega

theorem settleE_of (p : Nat) (W0 w : World) (h : Sh) (G : Gram) (k : GAt h G W0) (hs : Sml G) (hb0 : Below W0.heap.size W0 w) {P D : Ix → Nat} {q1 q2 : Nat} (hD : ∀ k, Iab G.terms.length (top G + 1) (top G + 1) k → W0.heap.size ≤ D k)
    (hS : Sts P D p q1 q2 G.terms.length (top G + 1) tabC0 (tabF0 G) (tabB0 G) w) :
    Calls Tryz.prog 20 #[.slice h.a3 G.rules.length h.c3, .func (.func 21) #[.pointer (some ⟨p, 0, none⟩)] #[]] w
      (fun e w' => ∃ v, e = .returned v ∧ Sts P D p q1 q2 G.terms.length (top G + 1) (canB G) (tabF0 G) (tabB0 G) w' ∧ Sep.Fr (Ds (Iab G.terms.length (top G + 1) (top G + 1)) D) w w') := by
  refine (settle_E p W0 w h G k (passE G (top G + 1) (lefts_of hs.known)) (fun C w => Sts P D p q1 q2 G.terms.length (top G + 1) C (tabF0 G) (tabB0 G) w) (Ds (Iab G.terms.length (top G + 1) (top G + 1)) D) tabC0 hs.r hb0 (fun b ⟨k, hk, e⟩ => e ▸ hD k hk) (fun T w1 w2 h hb => h.went hb) ?_ hS (tabC0_snd G)).mono ?_
  · intro C0 C j b0 w1 ra rc hj hst htr hb hrd hrc
    have hl := lefts_of hs.known _ (List.getElem_mem hj)
    have hlk := lok_rule hs hj hrc
    obtain ⟨s, hsn⟩ : ∃ s : Nat, G.rules[j].1 = (s : Int) := ⟨G.rules[j].1.toNat, by omega⟩
    have := addE_at w1 hst.2 hst.1 s (by omega) G.rules[j].2 ra rc (Sep.Reads.below hrd hb (Nat.le_refl _)) hlk
    rw [← hsn] at this
    refine this.mono ?_
    rintro e w' ⟨b, rfl, hbb, hs1, hf⟩
    exact ⟨b, addC C G.rules[j], rfl, htr.step (lefts_of hs.known) hj hbb, ⟨⟨rng_addC hst.1.c hl.1 hl.2, hst.1.f1, hst.1.f2, hst.1.b1, hst.1.b2⟩, hs1⟩, hf⟩
  · rintro e w' ⟨v, C, rfl, hfin, hst, hf⟩
    have e : C = canB G := hfin
    subst e
    exact ⟨v, rfl, hst, hf⟩
theorem settleF_of (p : Nat) (W0 w : World) (h : Sh) (G : Gram) (k : GAt h G W0) (hs : Sml G) (hb0 : Below W0.heap.size W0 w) {P D : Ix → Nat} {q1 q2 : Nat} (hD : ∀ k, Iab G.terms.length (top G + 1) (top G + 1) k → W0.heap.size ≤ D k)
    (hS : Sts P D p q1 q2 G.terms.length (top G + 1) (canB G) (tabF0 G) (tabB0 G) w) :
    Calls Tryz.prog 20 #[.slice h.a3 G.rules.length h.c3, .func (.func 22) #[.pointer (some ⟨p, 0, none⟩)] #[]] w
      (fun e w' => ∃ v, e = .returned v ∧ Sts P D p q1 q2 G.terms.length (top G + 1) (canB G) (fstB G) (tabB0 G) w' ∧ Sep.Fr (Ds (Iab G.terms.length (top G + 1) (top G + 1)) D) w w') := by
  refine (settle_F p W0 w h G k (passF G (top G + 1)) (fun F w => Sts P D p q1 q2 G.terms.length (top G + 1) (canB G) F (tabB0 G) w) (Ds (Iab G.terms.length (top G + 1) (top G + 1)) D) (tabF0 G) hs.r hb0 (fun b ⟨k, hk, e⟩ => e ▸ hD k hk) (fun T w1 w2 h hb => h.went hb) ?_ hS ⟨snd0' G, leaf0 G⟩).mono ?_
  · intro F0 F j b0 w1 ra rc hj hst htr hb hrd hrc
    have hl := lefts_of hs.known _ (List.getElem_mem hj)
    have hlk := lok_rule hs hj hrc
    obtain ⟨s, hsn⟩ : ∃ s : Nat, G.rules[j].1 = (s : Int) := ⟨G.rules[j].1.toNat, by omega⟩
    have := addF_at W0 w1 hst.2 hst.1 hb hD s (by omega) G.rules[j].2 ra rc hrd hlk
    rw [← hsn] at this
    refine this.mono ?_
    rintro e w' ⟨b, rfl, hbb, hs1, hf⟩
    exact ⟨b, addF (canB G) F G.rules[j], rfl, htr.step (lefts_of hs.known) hj hbb, ⟨hst.1.addF hl.1 hl.2, hs1⟩, hf⟩
  · rintro e w' ⟨v, F, rfl, hfin, hst, hf⟩
    have e : F = fstB G := hfin
    subst e
    exact ⟨v, rfl, hst, hf⟩
theorem settleB_of (p : Nat) (W0 w : World) (h : Sh) (G : Gram) (k : GAt h G W0) (hs : Sml G) (hb0 : Below W0.heap.size W0 w) {P D : Ix → Nat} {q1 q2 : Nat} (hD : ∀ k, Iab G.terms.length (top G + 1) (top G + 1) k → W0.heap.size ≤ D k)
    (hS : Sts P D p q1 q2 G.terms.length (top G + 1) (canB G) (fstB G) (tabB0 G) w) :
    Calls Tryz.prog 20 #[.slice h.a3 G.rules.length h.c3, .func (.func 23) #[.pointer (some ⟨p, 0, none⟩)] #[]] w
      (fun e w' => ∃ v, e = .returned v ∧ Sts P D p q1 q2 G.terms.length (top G + 1) (canB G) (fstB G) (folB G) w' ∧ Sep.Fr (Ds (Iab G.terms.length (top G + 1) (top G + 1)) D) w w') := by
  refine (settle_B p W0 w h G k (passB G (top G + 1)) (fun B w => Sts P D p q1 q2 G.terms.length (top G + 1) (canB G) (fstB G) B w) (Ds (Iab G.terms.length (top G + 1) (top G + 1)) D) (tabB0 G) hs.r hb0 (fun b ⟨k, hk, e⟩ => e ▸ hD k hk) (fun T w1 w2 h hb => h.went hb) ?_ hS (bsnd0 G)).mono ?_
  · intro B0 B j b0 w1 ra rc hj hst htr hb hrd hrc
    have hl := nonB_iff.1 (left_non hs.known (List.getElem_mem hj))
    have e2 : top G = G.terms.length + G.nons.length := rfl
    have hlk := lok_rule hs hj hrc
    obtain ⟨s, hsn⟩ : ∃ s : Nat, G.rules[j].1 = (s : Int) := ⟨G.rules[j].1.toNat, by omega⟩
    have := addB_at W0 w1 hst.2 hst.1 hb hD rfl rfl j hj b0 htr s G.rules[j].2 (by rw [← hsn]) (by omega) ra rc hrd hlk
    rw [← hsn] at this
    refine this.mono ?_
    rintro e w' ⟨b, B', rfl, ht, hok, hs1, hf⟩
    exact ⟨b, B', rfl, ht, ⟨hok, hs1⟩, hf⟩
  · rintro e w' ⟨v, B, rfl, hfin, hst, hf⟩
    have e : B = folB G := hfin
    subst e
    exact ⟨v, rfl, hst, hf⟩

/-! ### The answers -/

noncomputable def nlB (G : Gram) : Bool := !decide (checkN G = 0)
noncomputable def ansC (G : Gram) : Int → Bool := if checkN G = 0 then canB G else fun _ => false
noncomputable def ansF (G : Gram) : Int → Int → Bool := if checkN G = 0 then fstB G else fun _ _ => false
noncomputable def ansB (G : Gram) : Int → Int → Bool := if checkN G = 0 then folB G else fun _ _ => false
/-- The sets of a grammar come back; nothing that was there is written. -/
def OfEnd (G : Gram) (w : World) (e : Ending) (w' : World) : Prop :=
  ∃ v P D, e = .returned v ∧ VS (nlB G) (Iab G.terms.length (top G + 1) (top G + 1)) P D v G.terms.length (top G + 1) (ansC G) (ansF G) (ansB G) no0 w' ∧ (nlB G = false → TOk G.terms.length (top G + 1) (ansC G) (ansF G) (ansB G)) ∧ Below w.heap.size w w'

set_option maxRecDepth 100000 in
set_option maxHeartbeats 16000000 in
theorem of_any (h : Sh) (G : Gram) (w : World) (k : GAt h G w) :
    Calls Tryz.prog 6 #[gv h G] w (OfEnd G w) := by
  obtain ⟨a1, c1, a2, c2, a3, c3⟩ := h
  have hmf : ∀ (fn : Fn) (first cap : Array Value) (w : World), (Instr.makeFunc fn first cap).run Tryz.prog w = .ok (.func fn first cap) w := fun _ _ _ _ => rfl
  have X := Lib.hid (Bx.start ⟨a1, c1, a2, c2, a3, c3⟩ G w 25)
  have C := Lib.hid (fun w1 (b : Below w.heap.size w w1) => check_any ⟨a1, c1, a2, c2, a3, c3⟩ G w1 (k.went b))
  obtain ⟨x0, x1, x2, x3⟩ := X.out.box
  try dsimp only at x0 x1 x2 x3
  by_cases hc : checkN G = 0
  · have SM := Lib.hid (sml_of hc)
    have ST := Lib.hid (fun w1 (b : Below w.heap.size w w1) => start_any ⟨a1, c1, a2, c2, a3, c3⟩ G w1 (k.went b) SM.out)
    have SE := Lib.hid (fun p w1 (b : Below w.heap.size w w1) P D q1 q2 hD hS => settleE_of p w w1 ⟨a1, c1, a2, c2, a3, c3⟩ G k SM.out b (P := P) (D := D) (q1 := q1) (q2 := q2) hD hS)
    have SF := Lib.hid (fun p w1 (b : Below w.heap.size w w1) P D q1 q2 hD hS => settleF_of p w w1 ⟨a1, c1, a2, c2, a3, c3⟩ G k SM.out b (P := P) (D := D) (q1 := q1) (q2 := q2) hD hS)
    have SB := Lib.hid (fun p w1 (b : Below w.heap.size w w1) P D q1 q2 hD hS => settleB_of p w w1 ⟨a1, c1, a2, c2, a3, c3⟩ G k SM.out b (P := P) (D := D) (q1 := q1) (q2 := q2) hD hS)
    have AN := Lib.hid (show nlB G = false ∧ ansC G = canB G ∧ ansF G = fstB G ∧ ansB G = folB G from ⟨by unfold nlB; rw [decide_eq_true hc]; rfl, by unfold ansC; rw [if_pos hc], by unfold ansF; rw [if_pos hc], by unfold ansB; rw [if_pos hc]⟩)
    have T0 := Lib.hid (tok0 SM.out.known (C := tabC0) (fun x h => by cases h))
    rw [hc] at C
    dsimp only at SE SF SB
    clear k hc
    unfold gv
    dsimp only
    go_enter Tryz.func6, Tryz.ntmps6
    go_wp2_with (first
      | (go_at_call 18; refine (C.out _ X.out.below).mono ?_; rintro e w1 ⟨rfl, hb⟩; have X1 := Lib.hid (X.out.went hb); clear hb x0 x1 x2 x3; obtain ⟨x0, x1, x2, x3⟩ := X1.out.box; try dsimp only at x0 x1 x2 x3)
      | (go_at_call 19; refine (ST.out _ X1.out.below).mono ?_; rintro e w2 ⟨P, D, p, q1, q2, rfl, hs2, hd2, hb⟩; have X2 := Lib.hid (X1.out.went hb); have hsz := X1.out.size; have DD := Lib.hid (show ∀ k, Iab G.terms.length (top G + 1) (top G + 1) k → w.heap.size < D k from fun k hk => Nat.lt_of_lt_of_le (by omega) (hd2 k hk)); have S2 := Lib.hid (show Sts P D p q1 q2 G.terms.length (top G + 1) tabC0 (tabF0 G) (tabB0 G) w2 from ⟨T0.out, hs2⟩); clear hb hs2 hd2 hsz x0 x1 x2 x3; obtain ⟨x0, x1, x2, x3⟩ := X2.out.box; try dsimp only at x0 x1 x2 x3)
      | (go_at_call 20; (with_reducible refine (SE.out _ _ X2.out.below _ _ _ _ (fun k hk => Nat.le_of_lt (DD.out k hk)) S2.out).mono ?_); rintro e w3 ⟨v3, rfl, hs3, hf3⟩; have S3 := Lib.hid hs3; have X3 := Lib.hid (bx_fr X2.out hf3 (fun b ⟨k, hk, e⟩ => e ▸ DD.out k hk)); clear hs3 hf3 x0 x1 x2 x3; obtain ⟨x0, x1, x2, x3⟩ := X3.out.box; try dsimp only at x0 x1 x2 x3)
      | (go_at_call 20; (with_reducible refine (SF.out _ _ X3.out.below _ _ _ _ (fun k hk => Nat.le_of_lt (DD.out k hk)) S3.out).mono ?_); rintro e w4 ⟨v4, rfl, hs4, hf4⟩; have S4 := Lib.hid hs4; have X4 := Lib.hid (bx_fr X3.out hf4 (fun b ⟨k, hk, e⟩ => e ▸ DD.out k hk)); clear hs4 hf4 x0 x1 x2 x3; obtain ⟨x0, x1, x2, x3⟩ := X4.out.box; try dsimp only at x0 x1 x2 x3)
      | (go_at_call 20; (with_reducible refine (SB.out _ _ X4.out.below _ _ _ _ (fun k hk => Nat.le_of_lt (DD.out k hk)) S4.out).mono ?_); rintro e w5 ⟨v5, rfl, hs5, hf5⟩; have S5 := Lib.hid hs5; have X5 := Lib.hid (bx_fr X4.out hf5 (fun b ⟨k, hk, e⟩ => e ▸ DD.out k hk)); clear hs5 hf5 x0 x1 x2 x3))
    go_ret
    refine ⟨_, P, D, rfl, .inr ⟨AN.out.1, p, q1, q2, rfl, ?_⟩, fun _ => ?_, X5.out.below⟩
    · rw [AN.out.2.1, AN.out.2.2.1, AN.out.2.2.2]
      exact S5.out.2
    · rw [AN.out.2.1, AN.out.2.2.1, AN.out.2.2.2]
      exact S5.out.1
  · have AN := Lib.hid (show nlB G = true ∧ ansC G = (fun _ => false) ∧ ansF G = (fun _ _ => false) ∧ ansB G = (fun _ _ => false) from ⟨by unfold nlB; rw [decide_eq_false hc]; rfl, by unfold ansC; rw [if_neg hc], by unfold ansF; rw [if_neg hc], by unfold ansB; rw [if_neg hc]⟩)
    have hb : (checkN G != 0) = true := by simpa using hc
    clear k hc
    generalize checkN G = ck at *
    unfold gv
    dsimp only
    go_enter Tryz.func6, Tryz.ntmps6
    go_wp2_with (go_at_call 18; refine (C.out _ X.out.below).mono ?_; rintro e w1 ⟨rfl, hb⟩; have X1 := Lib.hid (X.out.went hb); clear hb)
    go_ret
    exact ⟨_, fun _ => 0, fun _ => 0, rfl, .inl ⟨AN.out.1, rfl, AN.out.2⟩, (fun h => by rw [AN.out.1] at h; cases h), X1.out.below⟩

end Go.Proofs.YtoipinnfmjaaaaaGreatDoor.Fi
