/-
  Two rules that are equal, a nonterminal without a rule: by the program and by the plain answers.
-/
import Derived.Test.YtoohnkffclkmhaaGramMany
import Derived.Test.YtoohnkffclkmhaaGramOrd
import Derived.Test.YtoohnkffclkmhaaGramRSame
import Derived.Test.YtoohnkffclkmhaaGramForm
namespace Go.Proofs.Ytoohnkffclkmhaa.Gr
open Go.RowKit Go.Maps
set_option linter.unusedVariables false

theorem rules_take {a : Option Addr} {R : List (Int × List Int)} {w : World} (h : RulesAt a R w) (k : Nat) : RulesAt a (R.take k) w := fun i hi => by
  have hi' : i < R.length := by rw [List.length_take] at hi; omega
  have := h i hi'
  rw [← List.getElem_take (h := hi)] at this
  exact this
theorem old_next {R : List (Int × List Int)} {k : Nat} (hk : k < R.length) (h : (R.take k).Nodup) (ha : (R.take k).any (fun o => sameR o R[k]) = false) : (R.take (k + 1)).Nodup := by
  rw [List.take_succ_eq_append_getElem hk, List.nodup_append]
  refine ⟨h, by simp, fun a hm b hb => ?_⟩
  simp only [List.mem_singleton] at hb
  subst hb
  rintro rfl
  have := List.any_eq_false.1 ha _ hm
  exact this (sameR_iff.2 rfl)
theorem old_fail {R : List (Int × List Int)} {k : Nat} (hk : k < R.length) (ha : (R.take k).any (fun o => sameR o R[k]) = true) : ¬ R.Nodup := by
  intro hN
  obtain ⟨o, hm, he⟩ := List.any_eq_true.1 ha
  rw [sameR_iff] at he
  subst he
  obtain ⟨i, hi', e⟩ := List.mem_iff_getElem.1 hm
  simp at hi'
  rw [List.getElem_take] at e
  have := (List.getElem_inj hN (i := i) (j := k) (h₀ := by omega) (h₁ := hk)).1 e
  omega

set_option maxRecDepth 100000 in
set_option maxHeartbeats 4000000 in
theorem ruledTwice_any (h : Sh) (G : Gram) (w : World) (k : GAt h G w) :
    Calls Try.prog 38 #[gv h G] w (Is (.bool (!unlikeB G)) w) := by
  have hc3 := k.r2
  have hcap := k.r1
  obtain ⟨a1, c1, a2, c2, a3, c3⟩ := h
  have X := Lib.hid (Bx.start ⟨a1, c1, a2, c2, a3, c3⟩ G w 43)
  have K := Lib.hid (show ∀ w1, Below w.heap.size w w1 → RulesAt a3 G.rules w1 from fun w1 (b : Below w.heap.size w w1) => (k.went b).rules)
  have hmf : ∀ (fn : Fn) (first cap : Array Value) (w : World), (Instr.makeFunc fn first cap).run Try.prog w = .ok (.func fn first cap) w := fun _ _ _ _ => rfl
  clear k
  dsimp only at hcap
  unfold gv
  dsimp only
  go_enter Try.func38, Try.ntmps38
  go_wp2
  go_loopw [8] (fun i wr => ∃ j : Nat, j ≤ G.rules.length ∧ i = .int .i64 j ∧ (G.rules.take j).Nodup ∧ Bx w ⟨a1, c1, a2, c2, a3, c3⟩ G wr) (fun i _ => G.rules.length - (intOf i).toNat)
  case atStart => exact ⟨0, Nat.zero_le _, rfl, by simp, X.out⟩
  case round =>
    clear X
    obtain ⟨j, hj, rfl, hA, hX⟩ := hrel
    have A := Lib.hid hA
    have X := Lib.hid hX
    obtain ⟨x0, x1, x2, x3⟩ := hX.box
    clear hA hX
    by_cases hlt : j < G.rules.length
    · obtain ⟨b, o, ra, rc, e, h1, h2, h3, h4, h5⟩ := K.out _ X.out.below j hlt
      try dsimp only at e
      subst e
      have hsz : w.heap.size < wr.heap.size := X.out.size
      have AE := Lib.hid (fun he => old_next hlt A.out he)
      have AF := Lib.hid (fun he => old_fail hlt he)
      generalize G.rules[j] = r at h1 h2 h3 h4 h5 AE AF
      have RB := Lib.hid (show RuleBox wr.heap.size r (wr.alloc (.cells #[.int .i64 r.1, .slice ra r.2.length rc] 59)) from ⟨ra, rc, cell_new rfl rfl, cell_new rfl rfl, Sep.Reads.below h3 (boxed _ _) (Nat.le_refl _), by omega⟩)
      have HC := Lib.hid (show Calls Try.prog 48 #[.slice (some ⟨b, o, none⟩) j c3, .func (.func 53) #[] #[.pointer (some ⟨wr.heap.size, 0, none⟩)]] (wr.alloc (.cells #[.int .i64 r.1, .slice ra r.2.length rc] 59)) (Is (.bool ((G.rules.take j).any (fun o => sameR o r))) (wr.alloc (.cells #[.int .i64 r.1, .slice ra r.2.length rc] 59))) from by
        have := contains_old wr.heap.size r (G.rules.take j) (some ⟨b, o, none⟩) c3 _ (rules_take (K.out _ (X.out.alloc _).below) j) (by rw [List.length_take]; omega) RB.out
        rw [List.length_take, Nat.min_eq_left hj] at this
        exact this)
      clear h3 h4 h5 RB
      cases hs : (G.rules.take j).any (fun o => sameR o r) with
      | false =>
        rw [hs] at HC
        have A2 := Lib.hid (AE.out hs)
        clear hs
        go_wp2_with (go_at_call 48; refine HC.out.mono ?_; rintro e w1 ⟨rfl, hb⟩; have X := Lib.hid ((X.out.alloc _).went hb); clear hb)
        go_roundw
        case rel => exact ⟨j + 1, by omega, by go_num, A2.out, X.out⟩
        case measure => simp [intOf]; omega
      | true =>
        rw [hs] at HC
        have F := Lib.hid (AF.out hs)
        clear hs
        go_wp2_with (go_at_call 48; refine HC.out.mono ?_; rintro e w1 ⟨rfl, hb⟩; have X := Lib.hid ((X.out.alloc _).went hb); clear hb)
        go_ret
        exact ⟨bool_of (by unfold unlikeB; rw [decide_eq_false F.out]; rfl), X.out.below⟩
    · have F := Lib.hid (show G.rules.Nodup by have h1 := A.out; rw [List.take_of_length_le (by omega)] at h1; exact h1)
      go_wp2
      go_ret
      exact ⟨bool_of (by unfold unlikeB; rw [decide_eq_true F.out]; rfl), X.out.below⟩

/-! ### The plain answers: unlike -/

/-- Five cells that stay, and that only new blocks are made. -/
def Five1 (w : World) (p1 p2 p3 p4 p5 : Addr) (v1 v2 v3 v4 v5 : Value) : Prop :=
  ∀ w', Below w.heap.size w w' → w'.cell? p1 = some v1 ∧ w'.cell? p2 = some v2 ∧ w'.cell? p3 = some v3 ∧ w'.cell? p4 = some v4 ∧ w'.cell? p5 = some v5 ∧ Below w.heap.size w w'
theorem five1 {w : World} {p1 p2 p3 p4 p5 : Addr} {v1 v2 v3 v4 v5 : Value} (h1 : w.cell? p1 = some v1) (h2 : w.cell? p2 = some v2) (h3 : w.cell? p3 = some v3) (h4 : w.cell? p4 = some v4) (h5 : w.cell? p5 = some v5) : Five1 w p1 p2 p3 p4 p5 v1 v2 v3 v4 v5 :=
  fun _ hb => ⟨cell_later hb h1, cell_later hb h2, cell_later hb h3, cell_later hb h4, cell_later hb h5, hb⟩

/-- None of the first m is the k-th. -/
def Unl (R : List (Int × List Int)) (k m : Nat) : Prop := ∀ i (hi : i < R.length) (hk : k < R.length), i < m → R[k] ≠ R[i]
theorem unl_zero (R : List (Int × List Int)) (k : Nat) : Unl R k 0 := fun _ _ _ h => absurd h (by omega)
theorem unl_step {R : List (Int × List Int)} {k m : Nat} (h : Unl R k m) (hm : m < R.length) (hk : k < R.length) (e : R[k] ≠ R[m]) : Unl R k (m + 1) := fun i hi hk' hl => by
  by_cases he : i = m
  · subst he
    exact e
  · exact h i hi hk' (by omega)
theorem unl_end {R : List (Int × List Int)} {k : Nat} (h : Unl R k k) (hk : k < R.length) (hN : (R.take k).Nodup) : (R.take (k + 1)).Nodup := by
  rw [List.take_succ_eq_append_getElem hk, List.nodup_append]
  refine ⟨hN, by simp, fun a hm b hb => ?_⟩
  simp only [List.mem_singleton] at hb
  subst hb
  obtain ⟨i, hi', e⟩ := List.mem_iff_getElem.1 hm
  simp at hi'
  rw [List.getElem_take] at e
  exact fun h' => h i (by omega) hk (by omega) (by rw [e, h'])
theorem unl_fail {R : List (Int × List Int)} {k m : Nat} (hk : k < R.length) (hm : m < k) (e : R[k] = R[m]) : ¬ R.Nodup := by
  intro hN
  have := (List.getElem_inj hN (i := k) (j := m) (h₀ := hk) (h₁ := by omega)).1 e
  omega

/-! ### A nonterminal without a rule -/

theorem ruled_end {G : Gram} {k : Nat} (h : ∀ i, i < k → 0 < (ofL G ((G.terms.length : Int) + 1 + i)).length) (hk : ¬ k < G.nons.length) : ruledB G = true := by
  unfold ruledB
  rw [List.all_eq_true]
  intro i hi
  have := h i (by have := List.mem_range.1 hi; omega)
  rw [ofL_length] at this
  cases e : ofN G ((G.terms.length : Int) + 1 + i) with
  | nil => rw [e] at this; simp at this
  | cons x l => rfl
theorem ruled_fail {G : Gram} {k : Nat} (hk : k < G.nons.length) (h : ¬ 0 < (ofL G ((G.terms.length : Int) + 1 + k)).length) : ruledB G = false := by
  unfold ruledB
  rw [List.all_eq_false]
  refine ⟨k, List.mem_range.2 hk, ?_⟩
  rw [ofL_length] at h
  cases e : ofN G ((G.terms.length : Int) + 1 + k) with
  | nil => simp
  | cons x l => rw [e] at h; simp at h

set_option maxRecDepth 100000 in
set_option maxHeartbeats 4000000 in
theorem unruled_any (h : Sh) (G : Gram) (w : World) (k : GAt h G w) (hr : G.rules.length ≤ 65536) :
    Calls Try.prog 39 #[gv h G] w (Is (.bool (!ruledB G)) w) := by
  have t := k.t2
  have n := k.n2
  have T := Lib.hid (fun w1 (b : Below w.heap.size w w1) => top_any h G w1 (k.went b))
  have N := Lib.hid (fun s w1 (b : Below w.heap.size w w1) => of_any h G s w1 (k.went b) hr)
  have X := Lib.hid (Bx.start h G w 43)
  have htop : (top G : Int) = (G.terms.length : Int) + (G.nons.length : Int) := by unfold top; omega
  have HT := Lib.hid htop
  generalize top G = tp at T htop
  clear k HT
  unfold gv
  go_enter Try.func39, Try.ntmps39
  go_wp2
  go_loopw [3] (fun i wr => ∃ j : Nat, j ≤ G.nons.length ∧ i = .int .i64 ((G.terms.length : Int) + 1 + j) ∧ (∀ i, i < j → 0 < (ofL G ((G.terms.length : Int) + 1 + i)).length) ∧ Bx w h G wr) (fun i _ => (G.terms.length + G.nons.length + 1) - (intOf i).toNat)
  case atStart => exact ⟨0, Nat.zero_le _, by go_num, fun _ h => absurd h (by omega), X.out⟩
  case round =>
    clear X
    obtain ⟨j, hj, rfl, hA, hX⟩ := hrel
    have A := Lib.hid hA
    have X := Lib.hid hX
    obtain ⟨x0, x1, x2, x3⟩ := hX.box
    clear hA hX
    by_cases hlt : j < G.nons.length
    · have NN := Lib.hid (N.out ((G.terms.length : Int) + 1 + j))
      have F3 := Lib.hid (ruled_fail (G := G) (k := j) hlt)
      have F4 := Lib.hid (fun (h0 : 0 < (ofL G ((G.terms.length : Int) + 1 + j)).length) i (hi : i < j + 1) => show 0 < (ofL G ((G.terms.length : Int) + 1 + i)).length by
        by_cases e : i = j
        · subst e; exact h0
        · exact A.out i (by omega))
      generalize hL : ofL G ((G.terms.length : Int) + 1 + j) = L at NN F3 F4
      clear hL
      rcases L with _ | ⟨x, l⟩
      · have F := Lib.hid (F3.out (by simp))
        clear F3 F4
        go_wp2_with (first
          | (go_at_call 52; refine (T.out _ X.out.below).mono ?_; rintro e w1 ⟨rfl, hb⟩; have X := Lib.hid (X.out.went hb); obtain ⟨x0, x1, x2, x3⟩ := X.out.box; clear hb)
          | (go_at_call 55; refine (NN.out _ X.out.below).mono ?_; rintro e w2 ⟨a', c', rfl, hr, hn, hb⟩; have X := Lib.hid (X.out.went hb); clear hb hr hn))
        go_ret
        exact ⟨bool_of (by rw [F.out]; rfl), X.out.below⟩
      · have F := Lib.hid (F4.out (by simp))
        clear F3 F4
        go_wp2_with (first
          | (go_at_call 52; refine (T.out _ X.out.below).mono ?_; rintro e w1 ⟨rfl, hb⟩; have X := Lib.hid (X.out.went hb); obtain ⟨x0, x1, x2, x3⟩ := X.out.box; clear hb)
          | (go_at_call 55; refine (NN.out _ X.out.below).mono ?_; rintro e w2 ⟨a', c', rfl, hr, hn, hb⟩; have X := Lib.hid (X.out.went hb); clear hb hr hn))
        go_roundw
        case rel => exact ⟨j + 1, by omega, by go_num, F.out, X.out⟩
        case measure => simp [intOf]; omega
    · have F := Lib.hid (ruled_end A.out hlt)
      go_wp2_with (go_at_call 52; refine (T.out _ X.out.below).mono ?_; rintro e w1 ⟨rfl, hb⟩; have X := Lib.hid (X.out.went hb); clear hb)
      go_ret
      exact ⟨bool_of (by rw [F.out]; rfl), X.out.below⟩

end Go.Proofs.Ytoohnkffclkmhaa.Gr
