/-
  Plain facts on the automaton: the text that names a list of items (three bytes an item); what is stepped to, symbol by symbol, out of a closure in order; what a map of targets says. No program in it.
  Plain facts on the automaton: the closure and what is stepped to, as lists; a state's transitions, symbol by symbol; the rounds of the building, and what they keep. No program in it.
  Plain facts on the automaton: what holds behind each round, and of the automaton when it is through. No program in it.
  Plain facts on the automaton: when the building stops; by which symbol a state is entered; where the symbols of a right side lead. No program in it.
-/
import Derived.Test.YtjjmoonajijnmaaItemDfs
import Derived.Test.YtjjmoonajijnmaaInternPlain
import Derived.Laws.BytesArg
namespace Go.Proofs.Ytjjmoonajijnmaa.Au
open Go.Proofs.Ytjjmoonajijnmaa.Gr (Gram checkN ruleR)
open Go.Proofs.Ytjjmoonajijnmaa.Im
set_option linter.unusedVariables false

/-! ### The lists of right items -/

theorem srt_all (G : Gram) : Srt (allI G) := by
  unfold Srt allI
  rw [List.pairwise_flatMap]
  refine ⟨fun r _ => ?_, ?_⟩
  · rw [List.pairwise_map]
    refine List.pairwise_lt_range.imp fun {a b} h => ?_
    refine .inr ⟨rfl, ?_⟩
    dsimp only
    omega
  · refine List.pairwise_lt_range.imp fun {a b} h => ?_
    intro x hx y hy
    obtain ⟨_, _, rfl⟩ := List.mem_map.1 hx
    obtain ⟨_, _, rfl⟩ := List.mem_map.1 hy
    refine .inl ?_
    dsimp only
    omega

open Classical in
/-- The right items of which P says yes, in order. -/
noncomputable def pickP (G : Gram) (P : Itm → Prop) : List Itm := (allI G).filter fun x => decide (P x)
open Classical in
theorem is_pick {G : Gram} {P : Itm → Prop} (h : ∀ x, P x → rightB G x = true) : Is (pickP G P) P := by
  refine ⟨(srt_all G).sublist List.filter_sublist, fun x => ?_⟩
  unfold pickP
  rw [List.mem_filter]
  exact ⟨fun q => of_decide_eq_true q.2, fun q => ⟨mem_all (h x q), decide_eq_true q⟩⟩
/-- The closure. -/
noncomputable def clL (G : Gram) (L : List Itm) : List Itm := pickP G (Clo G L)
/-- What is stepped to. -/
noncomputable def stL (G : Gram) (L : List Itm) (s : Int) : List Itm := pickP G (StepP G L s)
theorem is_cl (G : Gram) (L : List Itm) : Is (clL G L) (Clo G L) := is_pick fun x => clo_right
theorem is_st (G : Gram) (L : List Itm) (s : Int) : Is (stL G L s) (StepP G L s) := is_pick fun x h => (step_right h).1

/-! ### One state, symbol by symbol -/

/-- The states so far (their items), and the transitions of the one in work. -/
abbrev Half := List (List Itm) × List (Int × Int)
/-- By symbol s. -/
noncomputable def oneS (G : Gram) (c : List Itm) (s : Nat) (p : Half) : Half :=
  if stL G c s = [] then p else (if stL G c s ∈ p.1 then p.1 else p.1 ++ [stL G c s], p.2 ++ [((s : Int), ((p.1 ++ [stL G c s]).idxOf (stL G c s) : Int))])
/-- By the symbols 1 .. n. -/
noncomputable def oneTo (G : Gram) (c : List Itm) : Nat → Half → Half
  | 0, p => p
  | n + 1, p => oneS G c (n + 1) (oneTo G c n p)
theorem oneTo_zero (G : Gram) (c : List Itm) (p : Half) : oneTo G c 0 p = p := rfl
theorem oneTo_succ (G : Gram) (c : List Itm) (n : Nat) (p : Half) : oneTo G c (n + 1) p = oneS G c (n + 1) (oneTo G c n p) := rfl
theorem oneS_none {G : Gram} {c : List Itm} {s : Nat} {p : Half} (h : stL G c s = []) : oneS G c s p = p := if_pos h
theorem oneS_old {G : Gram} {c : List Itm} {s : Nat} {p : Half} (h : stL G c s ≠ []) (k : stL G c s ∈ p.1) : oneS G c s p = (p.1, p.2 ++ [((s : Int), (p.1.idxOf (stL G c s) : Int))]) := by
  unfold oneS
  rw [if_neg h, if_pos k, List.idxOf_append, if_pos k]
theorem oneS_new {G : Gram} {c : List Itm} {s : Nat} {p : Half} (h : stL G c s ≠ []) (k : stL G c s ∉ p.1) : oneS G c s p = (p.1 ++ [stL G c s], p.2 ++ [((s : Int), (p.1.length : Int))]) := by
  unfold oneS
  rw [if_neg h, if_neg k, List.idxOf_append, if_neg k]
  simp

/-! ### The rounds -/

/-- The states so far, and the transitions of those that are through. -/
abbrev Whole := List (List Itm) × List (List (Int × Int))
noncomputable def rnd (G : Gram) (top : Nat) (q : Whole) : Whole :=
  match q.1[q.2.length]? with
  | none => q
  | some L => ((oneTo G (clL G L) top (q.1, [])).1, q.2 ++ [(oneTo G (clL G L) top (q.1, [])).2])
noncomputable def runs (G : Gram) (top : Nat) : Nat → Whole
  | 0 => ([[((G.rules.length : Int), 0)]], [])
  | n + 1 => rnd G top (runs G top n)
theorem rnd_of {G : Gram} {top : Nat} {q : Whole} (h : q.2.length < q.1.length) : rnd G top q = ((oneTo G (clL G q.1[q.2.length]) top (q.1, [])).1, q.2 ++ [(oneTo G (clL G q.1[q.2.length]) top (q.1, [])).2]) := by
  unfold rnd
  rw [List.getElem?_eq_getElem h]

/-! ### What the rounds keep -/

/-- The transitions of the first n symbols, where the states are these. -/
noncomputable def transL (G : Gram) (ks : List (List Itm)) (c : List Itm) (n : Nat) : List (Int × Int) :=
  (List.range n).filterMap fun i => if stL G c ((i + 1 : Nat) : Int) = [] then none else some (((i + 1 : Nat) : Int), (ks.idxOf (stL G c ((i + 1 : Nat) : Int)) : Int))
theorem transL_zero (G : Gram) (ks : List (List Itm)) (c : List Itm) : transL G ks c 0 = [] := rfl
theorem transL_succ (G : Gram) (ks : List (List Itm)) (c : List Itm) (n : Nat) : transL G ks c (n + 1) = transL G ks c n ++ (if stL G c ((n + 1 : Nat) : Int) = [] then [] else [(((n + 1 : Nat) : Int), (ks.idxOf (stL G c ((n + 1 : Nat) : Int)) : Int))]) := by
  unfold transL
  rw [List.range_succ, List.filterMap_append]
  congr 1
  by_cases h : stL G c ((n + 1 : Nat) : Int) = []
  · simp only [List.filterMap_cons, List.filterMap_nil, if_pos h]
  · simp only [List.filterMap_cons, List.filterMap_nil, if_neg h]
/-- With more states behind, the transitions stay, where all that they lead to is there. -/
theorem transL_more {G : Gram} {ks : List (List Itm)} {c : List Itm} {n : Nat} (more : List (List Itm)) (h : ∀ i, i < n → stL G c ((i + 1 : Nat) : Int) ≠ [] → stL G c ((i + 1 : Nat) : Int) ∈ ks) : transL G (ks ++ more) c n = transL G ks c n := by
  induction n with
  | zero => rfl
  | succ n ih =>
    rw [transL_succ, transL_succ, ih fun i hi => h i (by omega)]
    by_cases k : stL G c ((n + 1 : Nat) : Int) = []
    · rw [if_pos k, if_pos k]
    · rw [if_neg k, if_neg k, List.idxOf_append, if_pos (h n (by omega) k)]

/-- The state in work, after n symbols, begun with the states ks. -/
structure HalfOk (G : Gram) (c : List Itm) (ks : List (List Itm)) (n : Nat) (p : Half) : Prop where
  front : ∃ more, p.1 = ks ++ more ∧ ∀ k ∈ more, ∃ i, i < n ∧ k = stL G c ((i + 1 : Nat) : Int) ∧ k ≠ []
  nodup : p.1.Nodup
  here : ∀ i, i < n → stL G c ((i + 1 : Nat) : Int) ≠ [] → stL G c ((i + 1 : Nat) : Int) ∈ p.1
  trans : p.2 = transL G p.1 c n
theorem HalfOk.start {G : Gram} {c : List Itm} {ks : List (List Itm)} (h : ks.Nodup) : HalfOk G c ks 0 (ks, []) :=
  ⟨⟨[], by simp, fun k hk => by cases hk⟩, h, fun i hi => by omega, rfl⟩
theorem HalfOk.next {G : Gram} {c : List Itm} {ks : List (List Itm)} {n : Nat} {p : Half} (h : HalfOk G c ks n p) : HalfOk G c ks (n + 1) (oneS G c (n + 1) p) := by
  obtain ⟨more, e, hm⟩ := h.front
  by_cases h0 : stL G c ((n + 1 : Nat) : Int) = []
  · rw [oneS_none h0]
    refine ⟨⟨more, e, fun k hk => ?_⟩, h.nodup, fun i hi hn => ?_, ?_⟩
    · obtain ⟨i, h1, h2⟩ := hm k hk
      exact ⟨i, by omega, h2⟩
    · by_cases q : i = n
      · subst q
        exact absurd h0 hn
      · exact h.here i (by omega) hn
    · rw [transL_succ, if_pos h0, List.append_nil]
      exact h.trans
  · by_cases h1 : stL G c ((n + 1 : Nat) : Int) ∈ p.1
    · rw [oneS_old h0 h1]
      refine ⟨⟨more, e, fun k hk => ?_⟩, h.nodup, fun i hi hn => ?_, ?_⟩
      · obtain ⟨i, h1, h2⟩ := hm k hk
        exact ⟨i, by omega, h2⟩
      · by_cases q : i = n
        · subst q
          exact h1
        · exact h.here i (by omega) hn
      · rw [transL_succ, if_neg h0, ← h.trans]
    · rw [oneS_new h0 h1]
      refine ⟨⟨more ++ [stL G c ((n + 1 : Nat) : Int)], by dsimp only; rw [e, List.append_assoc], fun k hk => ?_⟩, ?_, fun i hi hn => ?_, ?_⟩
      · rcases List.mem_append.1 hk with hk | hk
        · obtain ⟨i, h1, h2⟩ := hm k hk
          exact ⟨i, by omega, h2⟩
        · rw [List.mem_singleton] at hk
          exact ⟨n, by omega, hk, by rw [hk]; exact h0⟩
      · dsimp only
        rw [List.nodup_append]
        refine ⟨h.nodup, by simp, fun x hx y hy q => ?_⟩
        rw [List.mem_singleton] at hy
        subst hy
        subst q
        exact h1 hx
      · by_cases q : i = n
        · subst q
          exact List.mem_append.2 (.inr (List.mem_singleton.2 rfl))
        · exact List.mem_append.2 (.inl (h.here i (by omega) hn))
      · dsimp only
        rw [transL_succ, if_neg h0, transL_more _ h.here, ← h.trans, List.idxOf_append, if_neg h1]
        simp
theorem half_all {G : Gram} {c : List Itm} {ks : List (List Itm)} (h : ks.Nodup) : ∀ n, HalfOk G c ks n (oneTo G c n (ks, []))
  | 0 => .start h
  | n + 1 => (half_all h n).next

end Go.Proofs.Ytjjmoonajijnmaa.Au

namespace Go.Proofs.Ytjjmoonajijnmaa.Au
open Go.Proofs.Ytjjmoonajijnmaa.Gr (Gram checkN ruleR ofN)
open Go.Proofs.Ytjjmoonajijnmaa.Im
set_option linter.unusedVariables false

/-- State i's items. -/
def stateK (ks : List (List Itm)) (i : Nat) : List Itm := ks.getD i []
theorem stateK_more {ks more : List (List Itm)} {i : Nat} (h : i < ks.length) : stateK (ks ++ more) i = stateK ks i := by
  unfold stateK
  rw [List.getD_eq_getElem?_getD, List.getD_eq_getElem?_getD, List.getElem?_append_left h]
theorem stateK_at {ks : List (List Itm)} {i : Nat} (h : i < ks.length) : stateK ks i = ks[i] := by
  unfold stateK
  rw [List.getD_eq_getElem?_getD, List.getElem?_eq_getElem h]
  rfl
theorem stateK_mem {ks : List (List Itm)} {i : Nat} (h : i < ks.length) : stateK ks i ∈ ks := by
  rw [stateK_at h]
  exact List.getElem_mem h
/-- Where the state with these items stands. -/
theorem idx_at {ks : List (List Itm)} {k : List Itm} (h : k ∈ ks) : ks.idxOf k < ks.length ∧ stateK ks (ks.idxOf k) = k := by
  have h1 := List.idxOf_lt_length_of_mem h
  refine ⟨h1, ?_⟩
  rw [stateK_at h1]
  exact List.getElem_idxOf h1

structure WholeOk (G : Gram) (top : Nat) (q : Whole) : Prop where
  le : q.2.length ≤ q.1.length
  pos : 0 < q.1.length
  nodup : q.1.Nodup
  zero : stateK q.1 0 = [((G.rules.length : Int), 0)]
  good : ∀ k ∈ q.1, k ≠ [] ∧ Srt k ∧ ∀ x ∈ k, rightB G x = true
  trans : ∀ i, i < q.2.length → q.2.getD i [] = transL G q.1 (clL G (stateK q.1 i)) top
  here : ∀ i, i < q.2.length → ∀ s, s < top → stL G (clL G (stateK q.1 i)) ((s + 1 : Nat) : Int) ≠ [] → stL G (clL G (stateK q.1 i)) ((s + 1 : Nat) : Int) ∈ q.1
  early : ∀ t, 0 < t → t < q.1.length → ∃ i s, i < t ∧ i < q.2.length ∧ s < top ∧ stateK q.1 t = stL G (clL G (stateK q.1 i)) ((s + 1 : Nat) : Int)

theorem WholeOk.start (G : Gram) (top : Nat) : WholeOk G top (runs G top 0) := by
  refine ⟨by simp [runs], by simp [runs], by simp [runs], rfl, fun k hk => ?_, fun i hi => by simp [runs] at hi, fun i hi => by simp [runs] at hi, fun t h1 h2 => ?_⟩
  · simp only [runs, List.mem_singleton] at hk
    subst hk
    refine ⟨by simp, srt_one _, fun x hx => ?_⟩
    rw [List.mem_singleton] at hx
    subst hx
    exact right_open (Nat.le_refl _)
  · simp only [runs, List.length_cons, List.length_nil] at h2
    omega
theorem WholeOk.next {G : Gram} {top : Nat} {q : Whole} (h : WholeOk G top q) : WholeOk G top (rnd G top q) := by
  by_cases hq : q.2.length < q.1.length
  · rw [rnd_of hq, ← stateK_at hq]
    have H := half_all (G := G) (c := clL G (stateK q.1 q.2.length)) h.nodup top
    generalize oneTo G (clL G (stateK q.1 q.2.length)) top (q.1, []) = p at H
    obtain ⟨more, e, hm⟩ := H.front
    have hl : q.1.length ≤ p.1.length := by rw [e, List.length_append]; omega
    refine ⟨by dsimp only; rw [List.length_append]; simp; omega, by have := h.pos; dsimp only; omega, H.nodup, ?_, fun k hk => ?_, fun i hi => ?_, fun i hi s hs hn => ?_, fun t h1 h2 => ?_⟩
    · dsimp only
      rw [e, stateK_more h.pos]
      exact h.zero
    · dsimp only at hk
      rw [e] at hk
      rcases List.mem_append.1 hk with hk | hk
      · exact h.good k hk
      · obtain ⟨i, _, h1, h2⟩ := hm k hk
        have hs := is_st G (clL G (stateK q.1 q.2.length)) ((i + 1 : Nat) : Int)
        rw [← h1] at hs
        exact ⟨h2, hs.1, fun x hx => (step_right ((hs.2 x).1 hx)).1⟩
    · dsimp only at hi ⊢
      rw [List.length_append, List.length_singleton] at hi
      by_cases k : i < q.2.length
      · rw [List.getD_eq_getElem?_getD, List.getElem?_append_left k, ← List.getD_eq_getElem?_getD, h.trans i k, e, stateK_more (by omega), transL_more more fun s hs hn => h.here i k s hs hn]
      · obtain rfl : i = q.2.length := by omega
        rw [List.getD_eq_getElem?_getD, List.getElem?_append_right (Nat.le_refl _)]
        simp only [Nat.sub_self, List.getElem?_cons_zero, Option.getD_some]
        rw [H.trans, show stateK p.1 q.2.length = stateK q.1 q.2.length from by rw [e, stateK_more hq]]
    · dsimp only at hi hn ⊢
      rw [List.length_append, List.length_singleton] at hi
      have hi' : i < q.1.length := by omega
      rw [show stateK p.1 i = stateK q.1 i from by rw [e, stateK_more hi']] at hn ⊢
      by_cases k : i < q.2.length
      · rw [e]
        exact List.mem_append.2 (.inl (h.here i k s hs hn))
      · obtain rfl : i = q.2.length := by omega
        exact H.here s hs hn
    · dsimp only at h2 ⊢
      by_cases k : t < q.1.length
      · obtain ⟨i, s, a1, a2, a3, a4⟩ := h.early t h1 k
        refine ⟨i, s, a1, by rw [List.length_append]; omega, a3, ?_⟩
        rw [e, stateK_more k, stateK_more (by omega)]
        exact a4
      · have hmem : stateK p.1 t ∈ more := by
          rw [stateK_at h2]
          simp only [e, List.getElem_append_right (Nat.le_of_not_lt k)]
          exact List.getElem_mem _
        obtain ⟨s, a1, a2, _⟩ := hm _ hmem
        refine ⟨q.2.length, s, by omega, by rw [List.length_append]; simp, a1, ?_⟩
        rw [a2, e, stateK_more hq]
  · unfold rnd
    rw [List.getElem?_eq_none (by omega)]
    exact h
theorem runs_ok (G : Gram) (top : Nat) : ∀ n, WholeOk G top (runs G top n)
  | 0 => .start G top
  | n + 1 => (runs_ok G top n).next

/-- How many are through behind n rounds. -/
theorem rnd_len {G : Gram} {top : Nat} {q : Whole} (h : q.2.length < q.1.length) : (rnd G top q).2.length = q.2.length + 1 := by
  rw [rnd_of h]
  simp
theorem runs_len {G : Gram} {top : Nat} : ∀ {n : Nat}, (∀ m, m < n → (runs G top m).2.length < (runs G top m).1.length) → (runs G top n).2.length = n
  | 0, _ => rfl
  | n + 1, h => by
    show (rnd G top (runs G top n)).2.length = n + 1
    rw [rnd_len (h n (by omega)), runs_len fun m hm => h m (by omega)]

/-! ### Transitions -/

theorem mem_trans {G : Gram} {ks : List (List Itm)} {c : List Itm} {n : Nat} {s t : Int} : (s, t) ∈ transL G ks c n ↔ ∃ i, i < n ∧ s = ((i + 1 : Nat) : Int) ∧ stL G c s ≠ [] ∧ t = (ks.idxOf (stL G c s) : Int) := by
  unfold transL
  rw [List.mem_filterMap]
  constructor
  · rintro ⟨i, hi, h⟩
    split at h
    · cases h
    · rename_i hn
      injection h with h
      injection h with h1 h2
      subst h1
      exact ⟨i, List.mem_range.1 hi, rfl, hn, h2.symm⟩
  · rintro ⟨i, hi, rfl, hn, rfl⟩
    exact ⟨i, List.mem_range.2 hi, if_neg hn⟩
/-- Where a symbol leads: the first transition by it. -/
def leads (tr : List (Int × Int)) (s : Int) : Int := ((tr.find? fun x => decide (x.1 = s)).map (·.2)).getD (-1)
theorem leads_trans {G : Gram} {ks : List (List Itm)} {c : List Itm} {n i : Nat} (hi : i < n) (hn : stL G c ((i + 1 : Nat) : Int) ≠ []) : leads (transL G ks c n) ((i + 1 : Nat) : Int) = (ks.idxOf (stL G c ((i + 1 : Nat) : Int)) : Int) := by
  unfold leads
  have key : ∀ x ∈ transL G ks c n, decide (x.1 = ((i + 1 : Nat) : Int)) = true → x.2 = (ks.idxOf (stL G c ((i + 1 : Nat) : Int)) : Int) := by
    rintro ⟨s, t⟩ hx hd
    obtain ⟨j, hj, h1, h2, h3⟩ := mem_trans.1 hx
    have hd' : s = ((i + 1 : Nat) : Int) := of_decide_eq_true hd
    dsimp only
    rw [← hd']
    exact h3
  have hm : ((((i + 1 : Nat) : Int), (ks.idxOf (stL G c ((i + 1 : Nat) : Int)) : Int)) : Int × Int) ∈ transL G ks c n := mem_trans.2 ⟨i, hi, rfl, hn, rfl⟩
  cases hf : (transL G ks c n).find? fun x => decide (x.1 = ((i + 1 : Nat) : Int)) with
  | none =>
    have := List.find?_eq_none.1 hf _ hm
    simp at this
  | some x => exact key x (List.mem_of_find?_eq_some hf) (List.find?_some (p := fun x : Int × Int => decide (x.1 = ((i + 1 : Nat) : Int))) hf)

end Go.Proofs.Ytjjmoonajijnmaa.Au

namespace Go.Proofs.Ytjjmoonajijnmaa.Au
open Go.Proofs.Ytjjmoonajijnmaa.Gr (Gram checkN check_ok ruleR ruleB ofN top knownB nonB rule_in rule_end nonB_iff)
open Go.Proofs.Ytjjmoonajijnmaa.Im
set_option linter.unusedVariables false

/-! ### When it stops -/

/-- Too many states, or all are through. -/
def Stop (q : Whole) : Prop := 2000 < q.1.length ∨ q.2.length = q.1.length
/-- The first number of rounds behind which it stops. -/
def StopAt (G : Gram) (n : Nat) : Prop := Stop (runs G (top G) n) ∧ ∀ m, m < n → ¬ Stop (runs G (top G) m)
theorem StopAt.uniq {G : Gram} {n m : Nat} (h : StopAt G n) (k : StopAt G m) : n = m := by
  rcases Nat.lt_trichotomy n m with q | q | q
  · exact absurd h.1 (k.2 n q)
  · exact q
  · exact absurd k.1 (h.2 m q)

/-! ### The symbols of right sides -/

theorem sym_known {G : Gram} (hv : checkN G = 0) {r : Int} (hr : ruleB G r = true) {d : Nat} (hd : d < (ruleR G r).2.length) : 1 ≤ (ruleR G r).2[d] ∧ (ruleR G r).2[d] ≤ (top G : Int) := by
  have hk := (check_ok hv).2.2.2.1
  have hb : 0 ≤ r ∧ r ≤ (G.rules.length : Int) := by
    unfold ruleB at hr
    exact of_decide_eq_true hr
  obtain ⟨i, rfl⟩ := Int.eq_ofNat_of_zero_le hb.1
  simp only [knownB, Bool.and_eq_true, List.all_eq_true, decide_eq_true_eq] at hk
  by_cases e : i = G.rules.length
  · subst e
    have h2 := (rule_end G).2
    have h3 := nonB_iff.1 hk.1
    have e1 : (ruleR G ((G.rules.length : Nat) : Int)).2 = [G.start] := by rw [h2]
    have e0 : (ruleR G ((G.rules.length : Nat) : Int)).2[d] = G.start := by
      have : d = 0 := by rw [e1] at hd; simp at hd; omega
      subst this
      simp only [e1, List.getElem_cons_zero]
    rw [e0]
    unfold top
    omega
  · have hi : i < G.rules.length := by omega
    have h2 := (rule_in hi).2
    have hm := (hk.2 _ (List.getElem_mem hi)).2
    have hin : (ruleR G (i : Int)).2[d] ∈ (ruleR G (i : Int)).2 := List.getElem_mem hd
    have e1 : (ruleR G (i : Int)).2 = (G.rules[i]).2 := by rw [h2]
    rw [← e1] at hm
    exact hm _ hin
theorem beh_sym {G : Gram} {r : Int} {d : Nat} (hr : ruleB G r = true) (hd : d < (ruleR G r).2.length) : behB G (r, (d : Int)) = true ∧ behV G (r, (d : Int)) = (ruleR G r).2[d] := by
  have hb : behB G (r, (d : Int)) = true := by
    rw [beh_iff]
    refine ⟨?_, by unfold rlen; dsimp only; omega⟩
    unfold rightB rlen
    rw [hr, Bool.true_and, decide_eq_true_iff]
    dsimp only
    omega
  refine ⟨hb, ?_⟩
  unfold behV
  rw [if_pos hb]
  simp [hd]

/-! ### By one symbol -/

/-- The symbol stands ahead of the item's dot. -/
def entersB (G : Gram) (s : Int) (x : Itm) : Prop := ruleB G x.1 = true ∧ 1 ≤ x.2 ∧ x.2 ≤ (rlen G x.1 : Int) ∧ (ruleR G x.1).2.getD (x.2 - 1).toNat 0 = s
theorem step_enters {G : Gram} {L : List Itm} {s : Int} {x : Itm} (h : StepP G L s x) : entersB G s x := by
  obtain ⟨y, _, h1, h2, rfl⟩ := h
  obtain ⟨h3, h4⟩ := beh_iff.1 h1
  obtain ⟨h5, h6⟩ := right_iff.1 h3
  refine ⟨?_, by dsimp only; omega, by dsimp only; omega, ?_⟩
  · unfold ruleB
    exact decide_eq_true h5
  · unfold behV at h2
    rw [if_pos h1] at h2
    dsimp only
    rw [show (y.2 + 1 - 1).toNat = y.2.toNat from by congr 1; omega]
    exact h2
/-- Where all are through. -/
structure Done (G : Gram) (q : Whole) : Prop where
  ok : WholeOk G (top G) q
  all : q.2.length = q.1.length
theorem Done.to {G : Gram} {q : Whole} (h : Done G q) {k : Nat} (hk : k < q.1.length) {s t : Int} (hm : (s, t) ∈ q.2.getD k []) : ∃ n : Nat, t = (n : Int) ∧ n < q.1.length ∧ stateK q.1 n = stL G (clL G (stateK q.1 k)) s := by
  have hl : k < q.2.length := by rw [h.all]; exact hk
  rw [h.ok.trans k hl] at hm
  obtain ⟨i, hi, rfl, hn, rfl⟩ := mem_trans.1 hm
  have := idx_at (h.ok.here k hl i hi hn)
  exact ⟨_, rfl, this.1, this.2⟩
theorem Done.enters {G : Gram} {q : Whole} (h : Done G q) {k : Nat} (hk : k < q.1.length) {s t : Int} (hm : (s, t) ∈ q.2.getD k []) : ∃ n : Nat, t = (n : Int) ∧ n < q.1.length ∧ ∀ x ∈ stateK q.1 n, entersB G s x := by
  obtain ⟨n, h1, h2, h3⟩ := h.to hk hm
  refine ⟨n, h1, h2, fun x hx => ?_⟩
  rw [h3] at hx
  exact step_enters (((is_st _ _ _).2 x).1 hx)
theorem Done.early {G : Gram} {q : Whole} (h : Done G q) {t : Nat} (h0 : 0 < t) (ht : t < q.1.length) : ∃ k s, k < t ∧ (s, (t : Int)) ∈ q.2.getD k [] := by
  obtain ⟨k, i, h1, h2, h3, h4⟩ := h.ok.early t h0 ht
  refine ⟨k, ((i + 1 : Nat) : Int), h1, ?_⟩
  rw [h.ok.trans k h2]
  refine mem_trans.2 ⟨i, h3, rfl, ?_, ?_⟩
  · rw [← h4]
    exact (h.ok.good _ (stateK_mem ht)).1
  · rw [← h4, stateK_at ht]
    congr 1
    exact (h.ok.nodup.idxOf_getElem t ht).symm
theorem Done.some {G : Gram} {q : Whole} (h : Done G q) {t : Nat} (ht : t < q.1.length) : stateK q.1 t ≠ [] := (h.ok.good _ (stateK_mem ht)).1

/-! ### Rule by rule -/

/-- Where symbol s leads from state i. -/
def gotoP (n : Nat) (ts : List (List (Int × Int))) (i s : Int) : Int := if 0 ≤ i ∧ i < (n : Int) then leads (ts.getD i.toNat []) s else -1
/-- Where a way leads. -/
def walkP (n : Nat) (ts : List (List (Int × Int))) (i : Int) : List Int → Int
  | [] => if 0 ≤ i ∧ i < (n : Int) then i else -1
  | s :: way => if 0 ≤ i ∧ i < (n : Int) then walkP n ts (gotoP n ts i s) way else -1
theorem walk_nil {n : Nat} {ts : List (List (Int × Int))} {i : Nat} (h : i < n) : walkP n ts (i : Int) [] = (i : Int) := by
  unfold walkP
  rw [if_pos ⟨by omega, by omega⟩]
theorem walk_cons {n : Nat} {ts : List (List (Int × Int))} {i : Nat} (h : i < n) (s : Int) (way : List Int) : walkP n ts (i : Int) (s :: way) = walkP n ts (leads (ts.getD i []) s) way := by
  show (if 0 ≤ (i : Int) ∧ (i : Int) < (n : Int) then walkP n ts (gotoP n ts i s) way else -1) = _
  rw [if_pos ⟨by omega, by omega⟩]
  unfold gotoP
  rw [if_pos ⟨by omega, by omega⟩, Int.toNat_natCast]
/-- One symbol of a right side. -/
theorem Done.one {G : Gram} {q : Whole} (h : Done G q) (hv : checkN G = 0) {i : Nat} (hi : i < q.1.length) {r : Int} {d : Nat} (hr : ruleB G r = true) (hd : d < (ruleR G r).2.length) (hx : (r, (d : Int)) ∈ clL G (stateK q.1 i)) :
    ∃ j : Nat, j < q.1.length ∧ leads (q.2.getD i []) (ruleR G r).2[d] = (j : Int) ∧ (r, ((d + 1 : Nat) : Int)) ∈ stateK q.1 j := by
  obtain ⟨b1, b2⟩ := beh_sym hr hd
  obtain ⟨s1, s2⟩ := sym_known hv hr hd
  have hl : i < q.2.length := by rw [h.all]; exact hi
  obtain ⟨m, hm⟩ := Int.eq_ofNat_of_zero_le (show 0 ≤ (ruleR G r).2[d] - 1 by omega)
  have hs : (ruleR G r).2[d] = ((m + 1 : Nat) : Int) := by omega
  have hmt : m < top G := by omega
  have hst : (r, ((d + 1 : Nat) : Int)) ∈ stL G (clL G (stateK q.1 i)) ((m + 1 : Nat) : Int) := ((is_st _ _ _).2 _).2 ⟨(r, (d : Int)), hx, b1, by rw [b2, hs], by simp⟩
  have hn : stL G (clL G (stateK q.1 i)) ((m + 1 : Nat) : Int) ≠ [] := fun e => by rw [e] at hst; cases hst
  have hin := idx_at (h.ok.here i hl m hmt hn)
  refine ⟨_, hin.1, ?_, by rw [hin.2]; exact hst⟩
  rw [hs, h.ok.trans i hl, leads_trans hmt hn]
theorem Done.way {G : Gram} {q : Whole} (h : Done G q) (hv : checkN G = 0) {r : Int} (hr : ruleB G r = true) : ∀ (m d : Nat) (i : Nat), d + m = (ruleR G r).2.length → i < q.1.length → (r, (d : Int)) ∈ clL G (stateK q.1 i) → (0 < m ∨ (r, (d : Int)) ∈ stateK q.1 i) →
    ∃ j : Nat, j < q.1.length ∧ walkP q.1.length q.2 (i : Int) ((ruleR G r).2.drop d) = (j : Int) ∧ (r, ((ruleR G r).2.length : Int)) ∈ stateK q.1 j
  | 0, d, i, e, hi, _, hx => by
    have hx' : (r, (d : Int)) ∈ stateK q.1 i := by
      rcases hx with q | q
      · omega
      · exact q
    have hd : d = (ruleR G r).2.length := by omega
    refine ⟨i, hi, ?_, by rw [← hd]; exact hx'⟩
    rw [hd, List.drop_length, walk_nil hi]
  | m + 1, d, i, e, hi, hx, _ => by
    have hd : d < (ruleR G r).2.length := by omega
    obtain ⟨j, h1, h2, h3⟩ := h.one hv hi hr hd hx
    have hcl : (r, ((d + 1 : Nat) : Int)) ∈ clL G (stateK q.1 j) := ((is_cl _ _).2 _).2 (.of h3 ((h.ok.good _ (stateK_mem h1)).2.2 _ h3))
    obtain ⟨k, k1, k2, k3⟩ := Done.way h hv hr m (d + 1) j (by omega) h1 hcl (.inr h3)
    refine ⟨k, k1, ?_, k3⟩
    rw [List.drop_eq_getElem_cons hd, walk_cons hi, h2]
    exact k2
/-- From a state behind whose dot the rule can begin. -/
theorem Done.spells {G : Gram} {q : Whole} (h : Done G q) (hv : checkN G = 0) {i : Nat} (hi : i < q.1.length) {r : Int} (hr : ruleB G r = true) (h0 : (ruleR G r).2.length ≠ 0) (hx : (r, 0) ∈ clL G (stateK q.1 i)) :
    ∃ j : Nat, j < q.1.length ∧ walkP q.1.length q.2 (i : Int) (ruleR G r).2 = (j : Int) ∧ (r, ((ruleR G r).2.length : Int)) ∈ stateK q.1 j :=
  h.way hv hr _ 0 i (Nat.zero_add _) hi hx (.inl (by omega))

/-! ### The whole answer -/

/-- The states of a whole. -/
def states (q : Whole) : List (List Itm × List (Int × Int)) := q.1.zip q.2
theorem states_len {q : Whole} (h : q.2.length = q.1.length) : (states q).length = q.1.length := by
  unfold states
  rw [List.length_zip, h, Nat.min_self]
theorem states_at {q : Whole} (h : q.2.length = q.1.length) {i : Nat} (hi : i < q.1.length) : (states q)[i]? = some (stateK q.1 i, q.2.getD i []) := by
  unfold states
  rw [List.getElem?_zip_eq_some]
  have hi2 : i < q.2.length := by omega
  refine ⟨?_, ?_⟩
  · rw [List.getElem?_eq_getElem hi, stateK_at hi]
  · rw [List.getElem?_eq_getElem hi2, List.getD_eq_getElem?_getD, List.getElem?_eq_getElem hi2]
    rfl
theorem StopAt.done {G : Gram} {n : Nat} (h : StopAt G n) (k : ¬ 2000 < (runs G (top G) n).1.length) : Done G (runs G (top G) n) :=
  ⟨runs_ok G (top G) n, h.1.resolve_left k⟩
/-- What the building answers: an error, the states. -/
inductive Built (G : Gram) : Int → List (List Itm × List (Int × Int)) → Prop
  | bad : checkN G ≠ 0 → Built G (checkN G) []
  | many {n : Nat} : checkN G = 0 → StopAt G n → 2000 < (runs G (top G) n).1.length → Built G 7 []
  | all {n : Nat} : checkN G = 0 → StopAt G n → ¬ 2000 < (runs G (top G) n).1.length → Built G 0 (states (runs G (top G) n))
theorem Built.uniq {G : Gram} {e f : Int} {X Y : List (List Itm × List (Int × Int))} (h : Built G e X) (k : Built G f Y) : e = f ∧ X = Y := by
  cases h with
  | bad h1 =>
    cases k with
    | bad _ => exact ⟨rfl, rfl⟩
    | many k1 _ _ => exact absurd k1 h1
    | all k1 _ _ => exact absurd k1 h1
  | many h1 h2 h3 =>
    cases k with
    | bad k1 => exact absurd h1 k1
    | many _ _ _ => exact ⟨rfl, rfl⟩
    | all _ k2 k3 =>
      rw [h2.uniq k2] at h3
      exact absurd h3 k3
  | all h1 h2 h3 =>
    cases k with
    | bad k1 => exact absurd h1 k1
    | many _ k2 k3 =>
      rw [h2.uniq k2] at h3
      exact absurd k3 h3
    | all _ k2 _ =>
      rw [h2.uniq k2]
      exact ⟨rfl, rfl⟩
/-- Between two rounds: none stopped so far. -/
def Going (G : Gram) (n : Nat) : Prop := ∀ m, m < n → ¬ Stop (runs G (top G) m)
theorem going_zero (G : Gram) : Going G 0 := fun m h => absurd h (Nat.not_lt_zero m)
theorem Going.next {G : Gram} {n : Nat} (h : Going G n) (k : ¬ Stop (runs G (top G) n)) : Going G (n + 1) := fun m hm => by
  by_cases e : m = n
  · rw [e]
    exact k
  · exact h m (by omega)
theorem Going.stop {G : Gram} {n : Nat} (h : Going G n) (k : Stop (runs G (top G) n)) : StopAt G n := ⟨k, h⟩
theorem Going.len {G : Gram} {n : Nat} (h : Going G n) : (runs G (top G) n).2.length = n := runs_len fun m hm => by
  have h1 := h m hm
  have h2 := (runs_ok G (top G) m).le
  unfold Stop at h1
  omega
/-- The round that is in work. -/
theorem Going.round {G : Gram} {n : Nat} (h : Going G n) (hn : n < (runs G (top G) n).1.length) : runs G (top G) (n + 1) = ((oneTo G (clL G (stateK (runs G (top G) n).1 n)) (top G) ((runs G (top G) n).1, [])).1, (runs G (top G) n).2 ++ [(oneTo G (clL G (stateK (runs G (top G) n).1 n)) (top G) ((runs G (top G) n).1, [])).2]) := by
  have hl := h.len
  show rnd G (top G) (runs G (top G) n) = _
  have hq : (runs G (top G) n).2.length < (runs G (top G) n).1.length := by omega
  rw [rnd_of hq, ← stateK_at hq, hl]
/-- More symbols, no fewer states. -/
theorem one_mono (G : Gram) (c : List Itm) (s : Nat) (p : Half) : p.1.length ≤ (oneS G c s p).1.length := by
  unfold oneS
  split
  · exact Nat.le_refl _
  · dsimp only
    split
    · exact Nat.le_refl _
    · rw [List.length_append]
      omega
theorem half_mono (G : Gram) (c : List Itm) (p : Half) (n : Nat) : ∀ m, (oneTo G c n p).1.length ≤ (oneTo G c (n + m) p).1.length
  | 0 => Nat.le_refl _
  | m + 1 => Nat.le_trans (half_mono G c p n m) (one_mono G c (n + m + 1) _)

end Go.Proofs.Ytjjmoonajijnmaa.Au

namespace Go.Proofs.Ytjjmoonajijnmaa.Au
open Go.Proofs.Ytjjmoonajijnmaa.Gr (Gram checkN check_ok ruleR ruleB ofN top knownB nonB rule_in rule_end nonB_iff)
open Go.Proofs.Ytjjmoonajijnmaa.Im
open Go.Proofs.Ytjjmoonajijnmaa.It (pl isIn num isIn_mem num_lt)
set_option linter.unusedVariables false

/-! ### The text of a list of items -/

/-- An item's three bytes. -/
def kb (x : Itm) : List Int := [x.1 % 256, x.1 / 256 % 256, x.2 % 256]
def keyL (L : List Itm) : List Int := L.flatMap kb
def keyB (L : List Itm) : ByteArray := strOfNums (keyL L)
/-- Small enough for three bytes. -/
def Fit3 (L : List Itm) : Prop := ∀ x ∈ L, (0 ≤ x.1 ∧ x.1 < 65536) ∧ 0 ≤ x.2 ∧ x.2 < 256
theorem kb_length (x : Itm) : (kb x).length = 3 := rfl
theorem keyL_length (L : List Itm) : (keyL L).length = L.length * 3 := by
  unfold keyL
  induction L with
  | nil => rfl
  | cons x L ih =>
    rw [List.flatMap_cons, List.length_append, ih, kb_length, List.length_cons]
    omega
theorem keyL_snoc (L : List Itm) (x : Itm) : keyL (L ++ [x]) = keyL L ++ kb x := by simp [keyL]
theorem keyL_byte (L : List Itm) : ∀ n ∈ keyL L, 0 ≤ n ∧ n < 256 := fun n hn => by
  unfold keyL at hn
  rw [List.mem_flatMap] at hn
  obtain ⟨x, _, h⟩ := hn
  simp only [kb, List.mem_cons, List.not_mem_nil, or_false] at h
  rcases h with rfl | rfl | rfl <;> omega
theorem kb_inj {x y : Itm} (hx : (0 ≤ x.1 ∧ x.1 < 65536) ∧ 0 ≤ x.2 ∧ x.2 < 256) (hy : (0 ≤ y.1 ∧ y.1 < 65536) ∧ 0 ≤ y.2 ∧ y.2 < 256) (h : kb x = kb y) : x = y := by
  simp only [kb, List.cons.injEq, and_true] at h
  obtain ⟨x1, x2⟩ := x
  obtain ⟨y1, y2⟩ := y
  dsimp only at *
  exact Prod.ext (by dsimp only; omega) (by dsimp only; omega)
theorem keyL_inj : ∀ {L M : List Itm}, Fit3 L → Fit3 M → keyL L = keyL M → L = M
  | [], [], _, _, _ => rfl
  | [], y :: M, _, _, h => by simp [keyL, kb] at h
  | x :: L, [], _, _, h => by simp [keyL, kb] at h
  | x :: L, y :: M, hL, hM, h => by
    have h' : kb x ++ keyL L = kb y ++ keyL M := by simpa [keyL] using h
    obtain ⟨h1, h2⟩ := List.append_inj h' (by rw [kb_length, kb_length])
    rw [kb_inj (hL x (List.mem_cons_self ..)) (hM y (List.mem_cons_self ..)) h1, keyL_inj (fun z hz => hL z (List.mem_cons_of_mem _ hz)) (fun z hz => hM z (List.mem_cons_of_mem _ hz)) h2]
theorem bytes_inj : ∀ {a b : List Int}, (∀ n ∈ a, 0 ≤ n ∧ n < 256) → (∀ n ∈ b, 0 ≤ n ∧ n < 256) → (a.map fun n => UInt8.ofNat n.toNat) = (b.map fun n => UInt8.ofNat n.toNat) → a = b
  | [], [], _, _, _ => rfl
  | [], y :: b, _, _, h => by simp at h
  | x :: a, [], _, _, h => by simp at h
  | x :: a, y :: b, ha, hb, h => by
    simp only [List.map_cons, List.cons.injEq] at h
    have h1 := ha x (List.mem_cons_self ..)
    have h2 := hb y (List.mem_cons_self ..)
    have h3 := congrArg UInt8.toNat h.1
    rw [UInt8.toNat_ofNat', UInt8.toNat_ofNat'] at h3
    rw [show x = y by omega, bytes_inj (fun n hn => ha n (List.mem_cons_of_mem _ hn)) (fun n hn => hb n (List.mem_cons_of_mem _ hn)) h.2]
theorem keyB_inj {L M : List Itm} (hL : Fit3 L) (hM : Fit3 M) (h : keyB L = keyB M) : L = M := by
  unfold keyB at h
  have h' : (strOfNums (keyL L)).data.toList = (strOfNums (keyL M)).data.toList := by rw [h]
  rw [strOfNums_data, strOfNums_data] at h'
  exact keyL_inj hL hM (bytes_inj (keyL_byte L) (keyL_byte M) h')
theorem keyB_size (L : List Itm) : (keyB L).size = L.length * 3 := by
  unfold keyB
  rw [strOfNums_size, keyL_length]
/-- The texts of several lists. -/
def keysB (ks : List (List Itm)) : List ByteArray := ks.map keyB
theorem key_in {ks : List (List Itm)} {k : List Itm} (hs : ∀ x ∈ ks, Fit3 x) (hk : Fit3 k) : isIn (keysB ks) (keyB k) = true ↔ k ∈ ks := by
  rw [isIn_mem]
  unfold keysB
  rw [List.mem_map]
  constructor
  · rintro ⟨x, hx, e⟩
    rw [← keyB_inj (hs x hx) hk e]
    exact hx
  · exact fun h => ⟨k, h, rfl⟩
theorem key_num {ks : List (List Itm)} {k : List Itm} (hs : ∀ x ∈ ks, Fit3 x) (hk : Fit3 k) (hn : ks.Nodup) (h : k ∈ ks) : num (keysB ks) (keyB k) = ks.idxOf k := by
  obtain ⟨hl, e⟩ := num_lt ((key_in hs hk).2 h)
  generalize num (keysB ks) (keyB k) = n at hl e ⊢
  have hl' : n < ks.length := by simpa [keysB] using hl
  have e' : keyB ks[n] = keyB k := by simpa [keysB] using e
  have := keyB_inj (hs _ (List.getElem_mem hl')) hk e'
  rw [← this, hn.idxOf_getElem]
/-- All that is right fits. -/
theorem right_fit {G : Gram} (hv : checkN G = 0) {x : Itm} (h : rightB G x = true) : (0 ≤ x.1 ∧ x.1 < 65536) ∧ 0 ≤ x.2 ∧ x.2 < 256 := by
  obtain ⟨h1, h2, h3, h4⟩ := right_small hv h
  exact ⟨⟨h1, by omega⟩, h3, by omega⟩

/-! ### What is stepped to -/

def stepF (G : Gram) (s : Int) (x : Itm) : Option Itm := if behB G x = true ∧ behV G x = s then some (x.1, x.2 + 1) else none
/-- Out of the first of a closure. -/
def stepsL (G : Gram) (c : List Itm) (s : Int) : List Itm := c.filterMap (stepF G s)
theorem steps_is {G : Gram} {c : List Itm} (h : Srt c) (s : Int) : Is (stepsL G c s) (StepP G c s) := by
  refine ⟨?_, fun x => ?_⟩
  · unfold Srt stepsL
    rw [List.pairwise_filterMap]
    refine h.imp fun {a b} hab x hx y hy => ?_
    unfold stepF at hx hy
    split at hx
    · split at hy
      · injection hx with hx
        injection hy with hy
        subst hx
        subst hy
        unfold ltP at hab ⊢
        dsimp only
        omega
      · cases hy
    · cases hx
  · unfold stepsL
    rw [List.mem_filterMap]
    constructor
    · rintro ⟨y, hy, e⟩
      unfold stepF at e
      split at e
      · rename_i q
        injection e with e
        exact ⟨y, hy, q.1, q.2, e.symm⟩
      · cases e
    · rintro ⟨y, hy, h1, h2, e⟩
      refine ⟨y, hy, ?_⟩
      unfold stepF
      rw [if_pos ⟨h1, h2⟩, e]
theorem steps_st {G : Gram} {c : List Itm} (h : Srt c) (s : Int) : stepsL G c s = stL G c s := (steps_is h s).uniq (is_st G c s)
theorem steps_nil (G : Gram) (s : Int) : stepsL G [] s = [] := rfl
theorem steps_snoc (G : Gram) (c : List Itm) (x : Itm) (s : Int) : stepsL G (c ++ [x]) s = stepsL G c s ++ (if behB G x = true ∧ behV G x = s then [(x.1, x.2 + 1)] else []) := by
  unfold stepsL
  rw [List.filterMap_append]
  congr 1
  unfold stepF
  by_cases h : behB G x = true ∧ behV G x = s
  · simp [h]
  · simp [h]
theorem steps_len (G : Gram) (c : List Itm) (s : Int) : (stepsL G c s).length ≤ c.length := List.length_filterMap_le _ _
/-- By no symbol 0. -/
theorem st_zero {G : Gram} (hv : checkN G = 0) (c : List Itm) : stL G c 0 = [] := by
  cases e : stL G c 0 with
  | nil => rfl
  | cons x l =>
    have hx : x ∈ stL G c 0 := by rw [e]; exact List.mem_cons_self ..
    obtain ⟨y, _, h1, h2, _⟩ := ((is_st G c 0).2 x).1 hx
    exfalso
    obtain ⟨h3, h4⟩ := beh_iff.1 h1
    obtain ⟨h5, h6⟩ := right_iff.1 h3
    obtain ⟨y1, y2⟩ := y
    dsimp only at *
    obtain ⟨d, rfl⟩ := Int.eq_ofNat_of_zero_le h6.1
    have hr : ruleB G y1 = true := by
      unfold ruleB
      exact decide_eq_true h5
    have hd : d < (ruleR G y1).2.length := by
      unfold rlen at h4
      omega
    have := (beh_sym hr hd).2
    have := sym_known hv hr hd
    omega

/-! ### Targets -/

/-- The first transition by a symbol. -/
def hits (tr : List (Int × Int)) (s : Int) : Option Int := (tr.find? fun x => decide (x.1 = s)).map (·.2)
theorem leads_hits (tr : List (Int × Int)) (s : Int) : leads tr s = (hits tr s).getD (-1) := rfl
theorem hits_nil (s : Int) : hits [] s = none := rfl
theorem hits_snoc {tr : List (Int × Int)} {s t : Int} (h : ∀ x ∈ tr, x.1 ≠ s) (z : Int) : hits (tr ++ [(s, t)]) z = if z = s then some t else hits tr z := by
  unfold hits
  rw [List.find?_append]
  by_cases e : z = s
  · subst e
    rw [if_pos rfl, List.find?_eq_none.2 fun x hx => by simpa using h x hx]
    simp
  · rw [if_neg e]
    cases tr.find? fun x => decide (x.1 = z) with
    | none => simp [Ne.symm e]
    | some x => simp
theorem hits_trans {G : Gram} {ks : List (List Itm)} {c : List Itm} {n i : Nat} : hits (transL G ks c n) ((i + 1 : Nat) : Int) = if i < n ∧ stL G c ((i + 1 : Nat) : Int) ≠ [] then some (ks.idxOf (stL G c ((i + 1 : Nat) : Int)) : Int) else none := by
  unfold hits
  cases hf : (transL G ks c n).find? fun x => decide (x.1 = ((i + 1 : Nat) : Int)) with
  | none =>
    rw [if_neg]
    · rfl
    · rintro ⟨h1, h2⟩
      have hm : ((((i + 1 : Nat) : Int), (ks.idxOf (stL G c ((i + 1 : Nat) : Int)) : Int)) : Int × Int) ∈ transL G ks c n := mem_trans.2 ⟨i, h1, rfl, h2, rfl⟩
      have := List.find?_eq_none.1 hf _ hm
      simp at this
  | some x =>
    obtain ⟨s, t⟩ := x
    have hx := List.mem_of_find?_eq_some hf
    have hd : s = ((i + 1 : Nat) : Int) := of_decide_eq_true (List.find?_some (p := fun x : Int × Int => decide (x.1 = ((i + 1 : Nat) : Int))) hf)
    obtain ⟨j, hj, h1, h2, h3⟩ := mem_trans.1 hx
    obtain rfl : j = i := by omega
    subst hd
    rw [if_pos ⟨hj, h2⟩]
    simp [h3]
theorem hits_zero {G : Gram} {ks : List (List Itm)} {c : List Itm} {n : Nat} : hits (transL G ks c n) 0 = none := by
  unfold hits
  cases hf : (transL G ks c n).find? fun x => decide (x.1 = 0) with
  | none => rfl
  | some x =>
    obtain ⟨s, t⟩ := x
    have hx := List.mem_of_find?_eq_some hf
    have hd : s = 0 := of_decide_eq_true (List.find?_some (p := fun x : Int × Int => decide (x.1 = 0)) hf)
    obtain ⟨j, hj, h1, _, _⟩ := mem_trans.1 hx
    omega
/-- What a map of targets says of (state, symbol). -/
def tgt (ts : List (List (Int × Int))) (x : Itm) : Option Int := if 0 ≤ x.1 then hits (ts.getD x.1.toNat []) x.2 else none
theorem tgt_nil (x : Itm) : tgt [] x = none := by
  unfold tgt
  split <;> simp [hits]
theorem tgt_more (ts : List (List (Int × Int))) (x : Itm) : tgt (ts ++ [[]]) x = tgt ts x := by
  unfold tgt
  split
  · rw [List.getD_eq_getElem?_getD, List.getD_eq_getElem?_getD]
    congr 1
    rcases Nat.lt_trichotomy x.1.toNat ts.length with h | h | h
    · rw [List.getElem?_append_left h]
    · rw [List.getElem?_append_right (by omega), h, List.getElem?_eq_none (Nat.le_refl _)]
      simp
    · rw [List.getElem?_eq_none (by simp; omega), List.getElem?_eq_none (by omega)]
  · rfl
theorem tgt_put {ts : List (List (Int × Int))} {tr : List (Int × Int)} {s t : Int} (h : ∀ x ∈ tr, x.1 ≠ s) (x : Itm) : tgt (ts ++ [tr ++ [(s, t)]]) x = if x = ((ts.length : Int), s) then some t else tgt (ts ++ [tr]) x := by
  obtain ⟨a, b⟩ := x
  unfold tgt
  dsimp only
  by_cases h0 : 0 ≤ a
  · obtain ⟨n, rfl⟩ := Int.eq_ofNat_of_zero_le h0
    rw [if_pos h0, if_pos h0, List.getD_eq_getElem?_getD, List.getD_eq_getElem?_getD, Int.toNat_natCast]
    rcases Nat.lt_trichotomy n ts.length with q | q | q
    · rw [List.getElem?_append_left q, List.getElem?_append_left q, if_neg]
      intro e
      injection e with e1 e2
      omega
    · subst q
      rw [List.getElem?_append_right (Nat.le_refl _), List.getElem?_append_right (Nat.le_refl _)]
      simp only [Nat.sub_self, List.getElem?_cons_zero, Option.getD_some]
      rw [hits_snoc h]
      simp
    · rw [List.getElem?_eq_none (by simp; omega), List.getElem?_eq_none (by simp; omega), if_neg]
      intro e
      injection e with e1 e2
      omega
  · rw [if_neg h0, if_neg h0, if_neg]
    intro e
    injection e with e1 e2
    omega
/-- The transitions of a state, read out of the map symbol by symbol. -/
def outOf (ts : List (List (Int × Int))) (i : Int) (n : Nat) : List (Int × Int) := (List.range n).filterMap fun (s : Nat) => (tgt ts (i, (s : Int))).map fun t => ((s : Int), t)
theorem out_zero (ts : List (List (Int × Int))) (i : Int) : outOf ts i 0 = [] := rfl
theorem out_succ (ts : List (List (Int × Int))) (i : Int) (n : Nat) : outOf ts i (n + 1) = outOf ts i n ++ (match tgt ts (i, (n : Int)) with | some t => [((n : Int), t)] | none => []) := by
  unfold outOf
  rw [List.range_succ, List.filterMap_append]
  congr 1
  cases h : tgt ts (i, (n : Int)) with
  | none => simp [h]
  | some t => simp [h]
theorem out_some {ts : List (List (Int × Int))} {i : Int} {n : Nat} {t : Int} (h : tgt ts (i, (n : Int)) = some t) : outOf ts i (n + 1) = outOf ts i n ++ [((n : Int), t)] := by rw [out_succ, h]
theorem out_none {ts : List (List (Int × Int))} {i : Int} {n : Nat} (h : tgt ts (i, (n : Int)) = none) : outOf ts i (n + 1) = outOf ts i n := by rw [out_succ, h, List.append_nil]
theorem out_len (ts : List (List (Int × Int))) (i : Int) (n : Nat) : (outOf ts i n).length ≤ n := by
  unfold outOf
  have := List.length_filterMap_le (fun (s : Nat) => (tgt ts (i, (s : Int))).map fun t => ((s : Int), t)) (List.range n)
  rwa [List.length_range] at this
theorem out_all {G : Gram} {q : Whole} (h : WholeOk G (top G) q) {i : Nat} (hi : i < q.2.length) : outOf q.2 (i : Int) (top G + 1) = q.2.getD i [] := by
  have ht := h.trans i hi
  have key : ∀ s : Int, tgt q.2 ((i : Int), s) = hits (transL G q.1 (clL G (stateK q.1 i)) (top G)) s := fun s => by
    unfold tgt
    dsimp only
    rw [if_pos (Int.natCast_nonneg i), Int.toNat_natCast, ht]
  rw [ht]
  generalize hc : clL G (stateK q.1 i) = c at key
  generalize hm : top G = m at key
  have sub : ∀ n, n ≤ m → outOf q.2 (i : Int) (n + 1) = transL G q.1 c n := fun n => by
    induction n with
    | zero =>
      intro _
      rw [out_none (by rw [key]; exact hits_zero)]
      rfl
    | succ n ih =>
      intro hn
      rw [transL_succ, ← ih (by omega)]
      by_cases he : stL G c ((n + 1 : Nat) : Int) = []
      · rw [if_pos he, List.append_nil, out_none]
        rw [key, hits_trans, if_neg fun q => q.2 he]
      · rw [if_neg he, out_some]
        rw [key, hits_trans, if_pos ⟨by omega, he⟩]
  exact sub m (Nat.le_refl _)
/-- The symbols of the transitions so far. -/
theorem oneTo_syms (G : Gram) (c : List Itm) (ks : List (List Itm)) : ∀ n, ∀ x ∈ (oneTo G c n (ks, [])).2, 1 ≤ x.1 ∧ x.1 ≤ (n : Int)
  | 0, x, hx => by cases hx
  | n + 1, x, hx => by
    have ih := oneTo_syms G c ks n
    rw [oneTo_succ] at hx
    unfold oneS at hx
    split at hx
    · have := ih x hx
      omega
    · rcases List.mem_append.1 hx with q | q
      · have := ih x q
        omega
      · rw [List.mem_singleton] at q
        subst q
        dsimp only
        omega
theorem oneTo_len (G : Gram) (c : List Itm) (ks : List (List Itm)) : ∀ n, (oneTo G c n (ks, [])).1.length ≤ ks.length + n
  | 0 => Nat.le_refl _
  | n + 1 => by
    have ih := oneTo_len G c ks n
    rw [oneTo_succ]
    unfold oneS
    split
    · omega
    · dsimp only
      split
      · omega
      · rw [List.length_append, List.length_singleton]
        omega

end Go.Proofs.Ytjjmoonajijnmaa.Au
