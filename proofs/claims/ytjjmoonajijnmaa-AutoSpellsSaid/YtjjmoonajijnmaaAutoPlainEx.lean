/-
  Plain facts on the automaton: the closure reckoned round by round, the rounds of the building reckoned; the automaton of the statements' own example. No program in it.
-/
import Derived.Test.YtjjmoonajijnmaaMAutoP
import Derived.Test.YtjjmoonajijnmaaMCheck
namespace Go.Proofs.Ytjjmoonajijnmaa.Au
open Go.Proofs.Ytjjmoonajijnmaa.Gr (Gram checkN check_all formB plnS top ofN)
open Go.Proofs.Ytjjmoonajijnmaa.Im
set_option linter.unusedVariables false

/-- One round of the closure. -/
def cloS (G : Gram) (out : List Itm) : List Itm := out.foldl (fun o y => if behB G y then adds o (ofN G (behV G y)) else o) out
theorem mid_fold {G : Gram} {L : List Itm} : ∀ (l out : List Itm), Mid G L out → (∀ y ∈ l, Clo G L y) → Mid G L (l.foldl (fun o y => if behB G y then adds o (ofN G (behV G y)) else o) out)
  | [], out, h, _ => h
  | y :: l, out, h, k => by
    rw [List.foldl_cons]
    refine mid_fold l _ ?_ fun z hz => k z (List.mem_cons_of_mem _ hz)
    split
    · rename_i hb
      exact h.adds (k y (List.mem_cons_self ..)) hb
    · exact h
theorem mid_round {G : Gram} {L out : List Itm} (h : Mid G L out) : Mid G L (cloS G out) := mid_fold out out h fun y hy => h.sub y hy
def cloN (G : Gram) : Nat → List Itm → List Itm
  | 0, out => out
  | n + 1, out => cloN G n (cloS G out)
theorem mid_rounds {G : Gram} {L : List Itm} : ∀ (n : Nat) (out : List Itm), Mid G L out → Mid G L (cloN G n out)
  | 0, _, h => h
  | n + 1, _, h => mid_rounds n _ (mid_round h)
def shutB (G : Gram) (out : List Itm) : Bool := out.all fun y => !behB G y || (ofN G (behV G y)).all fun r => decide (((r : Int), (0 : Int)) ∈ out)
theorem shut_of {G : Gram} {out : List Itm} (h : shutB G out = true) : Im.Shut G out := fun y hy hb r hr => by
  have h1 := List.all_eq_true.1 h y hy
  rw [hb, Bool.not_true, Bool.false_or] at h1
  exact of_decide_eq_true (List.all_eq_true.1 h1 r hr)
def srtB (l : List Itm) : Bool := decide (l.Pairwise ltP)
theorem srt_of {l : List Itm} (h : srtB l = true) : Srt l := of_decide_eq_true (p := l.Pairwise ltP) h
/-- The closure, reckoned. -/
theorem clo_of {G : Gram} {L : List Itm} (n : Nat) (h1 : srtB L = true) (h2 : (L.all fun x => rightB G x) = true) (h3 : shutB G (cloN G n L) = true) : Is (cloN G n L) (Clo G L) :=
  (mid_rounds n L (.start ⟨srt_of h1, fun x => ⟨fun h => ⟨h, List.all_eq_true.1 h2 x h⟩, fun h => h.1⟩⟩)).done (shut_of h3)

/-- By one symbol, reckoned. -/
def oneSC (G : Gram) (c : List Itm) (s : Nat) (p : Half) : Half :=
  if stepsL G c s = [] then p else (if stepsL G c s ∈ p.1 then p.1 else p.1 ++ [stepsL G c s], p.2 ++ [((s : Int), ((p.1 ++ [stepsL G c s]).idxOf (stepsL G c s) : Int))])
def oneToC (G : Gram) (c : List Itm) : Nat → Half → Half
  | 0, p => p
  | n + 1, p => oneSC G c (n + 1) (oneToC G c n p)
theorem oneTo_c {G : Gram} {c : List Itm} (h : Srt c) (p : Half) : ∀ n, oneTo G c n p = oneToC G c n p
  | 0 => rfl
  | n + 1 => by
    rw [oneTo_succ, oneTo_c h p n]
    show oneS G c (n + 1) (oneToC G c n p) = oneSC G c (n + 1) (oneToC G c n p)
    unfold oneS oneSC
    rw [steps_st h]
theorem rnd_c {G : Gram} {t : Nat} {q : Whole} {C : List Itm} (hq : q.2.length < q.1.length) (hC : Is C (Clo G q.1[q.2.length])) : rnd G t q = ((oneToC G C t (q.1, [])).1, q.2 ++ [(oneToC G C t (q.1, [])).2]) := by
  rw [rnd_of hq, (is_cl G q.1[q.2.length]).uniq hC, oneTo_c hC.1]

/-! ### The example -/

/-- The grammar of awake. -/
def GB : Gram := { terms := [⟨#[65]⟩, ⟨#[66]⟩], nons := [⟨#[115]⟩], rules := [(3, [1, 3]), (3, [2])], start := 3 }
theorem gb_check : checkN GB = 0 := by
  refine check_all (by decide +kernel) ?_ (by decide +kernel) (by decide +kernel) (by decide +kernel) (by decide +kernel)
  have h1 : plnS ⟨#[65]⟩ = true := by decide +kernel
  have h2 : plnS ⟨#[66]⟩ = true := by decide +kernel
  have h3 : plnS ⟨#[115]⟩ = true := by decide +kernel
  simp [formB, GB, h1, h2, h3]
abbrev k0 : List Itm := [(2, 0)]
abbrev k1 : List Itm := [(0, 1)]
abbrev k2 : List Itm := [(1, 1)]
abbrev k3 : List Itm := [(2, 1)]
abbrev k4 : List Itm := [(0, 2)]
abbrev t0 : List (Int × Int) := [(1, 1), (2, 2), (3, 3)]
abbrev t1 : List (Int × Int) := [(1, 1), (2, 2), (3, 4)]
theorem rb0 : runs GB (top GB) 0 = ([k0], []) := rfl
theorem rb1 : runs GB (top GB) 1 = ([k0, k1, k2, k3], [t0]) := by
  show rnd GB (top GB) (runs GB (top GB) 0) = _
  rw [rb0, rnd_c (by decide) (clo_of (L := k0) 4 (by decide +kernel) (by decide +kernel) (by decide +kernel))]
  decide +kernel
theorem rb2 : runs GB (top GB) 2 = ([k0, k1, k2, k3, k4], [t0, t1]) := by
  show rnd GB (top GB) (runs GB (top GB) 1) = _
  rw [rb1, rnd_c (by decide) (clo_of (L := k1) 4 (by decide +kernel) (by decide +kernel) (by decide +kernel))]
  decide +kernel
theorem rb3 : runs GB (top GB) 3 = ([k0, k1, k2, k3, k4], [t0, t1, []]) := by
  show rnd GB (top GB) (runs GB (top GB) 2) = _
  rw [rb2, rnd_c (by decide) (clo_of (L := k2) 4 (by decide +kernel) (by decide +kernel) (by decide +kernel))]
  decide +kernel
theorem rb4 : runs GB (top GB) 4 = ([k0, k1, k2, k3, k4], [t0, t1, [], []]) := by
  show rnd GB (top GB) (runs GB (top GB) 3) = _
  rw [rb3, rnd_c (by decide) (clo_of (L := k3) 4 (by decide +kernel) (by decide +kernel) (by decide +kernel))]
  decide +kernel
theorem rb5 : runs GB (top GB) 5 = ([k0, k1, k2, k3, k4], [t0, t1, [], [], []]) := by
  show rnd GB (top GB) (runs GB (top GB) 4) = _
  rw [rb4, rnd_c (by decide) (clo_of (L := k4) 4 (by decide +kernel) (by decide +kernel) (by decide +kernel))]
  decide +kernel
/-- Its states. -/
def XB : List (List Itm × List (Int × Int)) := [(k0, t0), (k1, t1), (k2, []), (k3, []), (k4, [])]
theorem built_b : Built GB 0 XB := by
  have h := Built.all (G := GB) (n := 5) gb_check ⟨.inr (by rw [rb5]; rfl), fun m hm => by
    have : m = 0 ∨ m = 1 ∨ m = 2 ∨ m = 3 ∨ m = 4 := by omega
    unfold Stop
    rcases this with rfl | rfl | rfl | rfl | rfl
    · rw [rb0]; decide
    · rw [rb1]; decide
    · rw [rb2]; decide
    · rw [rb3]; decide
    · rw [rb4]; decide⟩ (by rw [rb5]; decide)
  rw [rb5] at h
  exact h

end Go.Proofs.Ytjjmoonajijnmaa.Au
