/-
  Plain facts for the program's closure: a search that goes from an item to the items that stand behind its dot; no item is passed twice. The sizes in a grammar that may be. No program in it.
-/
import Derived.Test.YtjjmoonajijnmaaItemMap
namespace Go.Proofs.Ytjjmoonajijnmaa.Im
open Go.Proofs.Ytjjmoonajijnmaa.Gr (Gram nonB termB top checkN check_ok manyB known_non termB_iff nonB_iff ruleB ruleR ofN mem_ofN leftOf leftOf_get rule_in rule_end)
set_option linter.unusedVariables false

theorem many_len {G : Gram} (h : manyB G = false) : G.rules.length ≤ 300 ∧ ∀ r ∈ G.rules, r.2.length ≤ 8 := by
  unfold manyB at h
  simp only [Bool.or_eq_false_iff, decide_eq_false_iff_not, List.any_eq_false, decide_eq_true_eq] at h
  exact ⟨by omega, fun r hr => by have := h.2 r hr; omega⟩
theorem rlen_small {G : Gram} (h : checkN G = 0) {r : Nat} (hr : r ≤ G.rules.length) : rlen G (r : Int) ≤ 8 := by
  have hm := many_len (check_ok h).1
  unfold rlen
  by_cases e : r = G.rules.length
  · subst e
    rw [(rule_end G).2]
    simp
  · have hr' : r < G.rules.length := by omega
    rw [(rule_in hr').2]
    exact hm.2 _ (List.getElem_mem hr')
theorem all_small {G : Gram} (h : checkN G = 0) : (allI G).length ≤ 2709 := by
  have h1 := all_len (G := G) (B := 8) fun r hr => rlen_small h hr
  have h2 := (many_len (check_ok h).1).1
  have h3 : (G.rules.length + 1) * (8 + 1) ≤ 301 * 9 := Nat.mul_le_mul (by omega) (by omega)
  omega
theorem right_small {G : Gram} (h : checkN G = 0) {x : Itm} (hx : rightB G x = true) : 0 ≤ x.1 ∧ x.1 ≤ 300 ∧ 0 ≤ x.2 ∧ x.2 ≤ 8 := by
  obtain ⟨⟨h1, h2⟩, h3, h4⟩ := right_iff.1 hx
  have hm := (many_len (check_ok h).1).1
  obtain ⟨r, hr⟩ := Int.eq_ofNat_of_zero_le h1
  have := rlen_small h (r := r) (by omega)
  rw [hr] at h4
  omega
theorem wf_small {n : Int} (h : -1000 ≤ n) (k : n ≤ 1000) : (Lit.int .i64 n).wf = true := by
  simp only [Lit.wf, IntKind.min, IntKind.max, IntKind.signed, IntKind.bits, Bool.and_eq_true, decide_eq_true_eq, if_true]
  omega
theorem right_w64 {G : Gram} (h : checkN G = 0) {x : Itm} (hx : rightB G x = true) : W64 x := by
  have := right_small h hx
  exact ⟨wf_small (by omega) (by omega), wf_small (by omega) (by omega)⟩
/-- No rule stands under number 0. -/
theorem kids_zero {G : Gram} (h : checkN G = 0) : ofN G 0 = [] := by
  rw [List.eq_nil_iff_forall_not_mem]
  intro r hr
  obtain ⟨h1, h2⟩ := mem_ofN.1 hr
  have := nonB_iff.1 (known_non (check_ok h).2.2.2.1 h1)
  omega
theorem kids_not {G : Gram} (h : checkN G = 0) {x : Itm} (hx : ¬ behB G x = true) : ofN G (behV G x) = [] := by
  unfold behV
  rw [if_neg hx]
  exact kids_zero h
theorem clo_trans {G : Gram} {x y z : Itm} (h : Clo G [x] y) (k : Clo G [y] z) : Clo G [x] z := by
  induction k with
  | of h1 h2 =>
    rw [List.mem_singleton] at h1
    subst h1
    exact h
  | next _ h2 h3 ih => exact .next ih h2 h3
theorem clo_self {G : Gram} {x : Itm} (h : rightB G x = true) : Clo G [x] x := .of (List.mem_singleton.2 rfl) h
theorem clo_kid {G : Gram} {x : Itm} (h : rightB G x = true) {r : Nat} (hr : r ∈ ofN G (behV G x)) (hv : checkN G = 0) : Clo G [x] ((r : Int), 0) := by
  by_cases hb : behB G x = true
  · exact .next (clo_self h) hb hr
  · rw [kids_not hv hb] at hr
    cases hr

/-- What a search from x adds to X. -/
structure Sprd (G : Gram) (X : Itm → Prop) (x : Itm) (Y : Itm → Prop) : Prop where
  old : ∀ y, X y → Y y
  own : Y x
  new : ∀ y, Y y → X y ∨ Clo G [x] y
  shut : ∀ y, Y y → ¬ X y → ∀ r ∈ ofN G (behV G y), Y ((r : Int), 0)
theorem Sprd.none {G : Gram} {X Y : Itm → Prop} {x : Itm} (h : X x) (e : ∀ y, Y y ↔ X y ∨ y = x) : Sprd G X x Y := by
  have e' : ∀ y, Y y ↔ X y := fun y => (e y).trans ⟨fun k => k.elim id fun k => k ▸ h, .inl⟩
  exact ⟨fun y hy => (e' y).2 hy, (e' x).2 h, fun y hy => .inl ((e' y).1 hy), fun y hy hn => absurd ((e' y).1 hy) hn⟩
theorem Sprd.right {G : Gram} {X Y : Itm → Prop} {x : Itm} (s : Sprd G X x Y) (h : ∀ y, X y → rightB G y = true) (y : Itm) (hy : Y y) : rightB G y = true := (s.new y hy).elim (h y) clo_right

/-- On the way: the first j of x's. -/
structure Part (G : Gram) (X : Itm → Prop) (x : Itm) (K : List Nat) (j : Nat) (Z : Itm → Prop) : Prop where
  old : ∀ y, X y → Z y
  own : Z x
  new : ∀ y, Z y → X y ∨ Clo G [x] y
  kids : ∀ i (h : i < K.length), i < j → Z ((K[i] : Int), 0)
  shut : ∀ y, Z y → ¬ X y → y ≠ x → ∀ r ∈ ofN G (behV G y), Z ((r : Int), 0)
theorem Part.start {G : Gram} {X Z : Itm → Prop} {x : Itm} {K : List Nat} (hr : rightB G x = true) (e : ∀ y, Z y ↔ X y ∨ y = x) : Part G X x K 0 Z :=
  ⟨fun y hy => (e y).2 (.inl hy), (e x).2 (.inr rfl), fun y hy => ((e y).1 hy).imp id fun k => by rw [k]; exact clo_self hr, fun i _ hi => by omega, fun y hy hn hne => absurd ((e y).1 hy) fun k => k.elim hn hne⟩
theorem Part.step {G : Gram} {X Z Y : Itm → Prop} {x : Itm} {j : Nat} (hv : checkN G = 0) (hr : rightB G x = true) (p : Part G X x (ofN G (behV G x)) j Z) (hj : j < (ofN G (behV G x)).length) (s : Sprd G Z (((ofN G (behV G x))[j] : Int), 0) Y) : Part G X x (ofN G (behV G x)) (j + 1) Y := by
  refine ⟨fun y hy => s.old y (p.old y hy), s.old x p.own, fun y hy => ?_, fun i hi hij => ?_, fun y hy hn hne r hk => ?_⟩
  · rcases s.new y hy with k | k
    · exact p.new y k
    · exact .inr (clo_trans (clo_kid hr (List.getElem_mem hj) hv) k)
  · by_cases e : i = j
    · subst e
      exact s.own
    · exact s.old _ (p.kids i hi (by omega))
  · rcases Classical.em (Z y) with k | k
    · exact s.old _ (p.shut y k hn hne r hk)
    · exact s.shut y hy k r hk
theorem Part.done {G : Gram} {X Z : Itm → Prop} {x : Itm} (p : Part G X x (ofN G (behV G x)) (ofN G (behV G x)).length Z) : Sprd G X x Z := by
  refine ⟨p.old, p.own, p.new, fun y hy hn r hk => ?_⟩
  by_cases e : y = x
  · subst e
    obtain ⟨i, hi, e⟩ := List.getElem_of_mem hk
    rw [← e]
    exact p.kids i hi hi
  · exact p.shut y hy hn e r hk
theorem Part.right {G : Gram} {X Z : Itm → Prop} {x : Itm} {K : List Nat} {j : Nat} (p : Part G X x K j Z) (h : ∀ y, X y → rightB G y = true) (y : Itm) (hy : Z y) : rightB G y = true := (p.new y hy).elim (h y) clo_right

/-- On the way through the list's right items: Lf: which are still to come. -/
structure Way (G : Gram) (L : List Itm) (Lf Z : Itm → Prop) : Prop where
  sub : ∀ y, Z y → Clo G L y
  met : ∀ y, y ∈ L → rightB G y = true → ¬ Lf y → Z y
  shut : ∀ y, Z y → ∀ r ∈ ofN G (behV G y), Z ((r : Int), 0)
theorem Way.start {G : Gram} {L : List Itm} {X Z : Itm → Prop} (hX : ∀ y, y ∈ L → rightB G y = true → X y) (hz : ∀ y, ¬ Z y) : Way G L X Z :=
  ⟨fun y hy => absurd hy (hz y), fun y h1 h2 h3 => absurd (hX y h1 h2) h3, fun y hy => absurd hy (hz y)⟩
theorem Way.step {G : Gram} {L : List Itm} {Lf Z Y : Itm → Prop} {x : Itm} (p : Way G L Lf Z) (hx : x ∈ L) (hr : rightB G x = true) (s : Sprd G Z x Y) : Way G L (fun y => Lf y ∧ y ≠ x) Y := by
  refine ⟨fun y hy => ?_, fun y h1 h2 h3 => ?_, fun y hy r hk => ?_⟩
  · rcases s.new y hy with k | k
    · exact p.sub y k
    · exact clo_mono (fun z hz => by rw [List.mem_singleton] at hz; rw [hz]; exact hx) k
  · by_cases e : y = x
    · rw [e]
      exact s.own
    · exact s.old y (p.met y h1 h2 fun k => h3 ⟨k, e⟩)
  · rcases Classical.em (Z y) with k | k
    · exact s.old _ (p.shut y k r hk)
    · exact s.shut y hy k r hk
theorem Way.done {G : Gram} {L : List Itm} {Lf Z : Itm → Prop} (p : Way G L Lf Z) (h : ∀ y, y ∈ L → rightB G y = true → ¬ Lf y) (y : Itm) : Z y ↔ Clo G L y := by
  refine ⟨p.sub y, fun k => ?_⟩
  induction k with
  | of h1 h2 => exact p.met _ h1 h2 (h _ h1 h2)
  | next _ h2 h3 ih => exact p.shut _ ih _ h3
theorem Way.right {G : Gram} {L : List Itm} {Lf Z : Itm → Prop} (p : Way G L Lf Z) (y : Itm) (hy : Z y) : rightB G y = true := clo_right (p.sub y hy)

end Go.Proofs.Ytjjmoonajijnmaa.Im
