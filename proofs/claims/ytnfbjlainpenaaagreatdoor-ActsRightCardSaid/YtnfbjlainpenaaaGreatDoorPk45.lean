/- A part of the proof. -/
import Derived.Test.YtnfbjlainpenaaaGreatDoorPk43
set_option linter.unusedVariables false
namespace Go.Proofs.YtnfbjlainpenaaaGreatDoor
namespace Au
open Gr (Gram checkN zBO zB2 plnS top ofN)
open Im
def cloS (G : Gram) (out : List Itm) : List Itm := out.foldl (fun o y => if behB G y then adds o (ofN G (behV G y)) else o) out
theorem zHz {G : Gram} {L : List Itm} : ∀ (l out : List Itm), Mid G L out -> (∀ y ∈ l, Clo G L y) -> Mid G L (l.foldl (fun o y => if behB G y then adds o (ofN G (behV G y)) else o) out)
 | [], out, h, _ => h
 | y :: l, out, h, k => by
  rw [List.foldl_cons]
  refine zHz l _ ?_ fun z hz => k z (List.mem_cons_of_mem _ hz)
  split
  ·rename_i hb
   exact h.adds (k y (List.mem_cons_self ..)) hb
  ·exact h
theorem zLE {G : Gram} {L out : List Itm} (h : Mid G L out) : Mid G L (cloS G out) := zHz out out h fun y hy => h.sub y hy
def cloN (G : Gram) : Nat -> List Itm -> List Itm
 | 0, out => out
 | n + 1, out => cloN G n (cloS G out)
theorem zEt {G : Gram} {L : List Itm} : ∀ (n : Nat) (out : List Itm), Mid G L out -> Mid G L (cloN G n out)
 | 0, _, h => h
 | n + 1, _, h => zEt n _ (zLE h)
def zRn (G : Gram) (out : List Itm) : Bool := out.all fun y => !behB G y || (ofN G (behV G y)).all fun r => decide (((r : Int), (0 : Int)) ∈ out)
theorem zQo {G : Gram} {out : List Itm} (h : zRn G out = true) : Im.Shut G out := fun y hy hb r hr => by
 have h1 := List.all_eq_true.1 h y hy
 rw [hb, Bool.not_true, Bool.false_or] at h1
 exact of_decide_eq_true (List.all_eq_true.1 h1 r hr)
def srtB (l : List Itm) : Bool := decide (l.Pairwise ltP)
theorem zIH {l : List Itm} (h : srtB l = true) : Srt l := of_decide_eq_true (p := l.Pairwise ltP) h
theorem zA2 {G : Gram} {L : List Itm} (n : Nat) (h1 : srtB L = true) (h2 : (L.all fun x => zAJ G x) = true) (h3 : zRn G (cloN G n L) = true) : Is (cloN G n L) (Clo G L) :=
 (zEt n L (.start ⟨zIH h1, fun x => ⟨fun h => ⟨h, List.all_eq_true.1 h2 x h⟩, fun h => h.1⟩⟩)).done (zQo h3)
def zQT (G : Gram) (c : List Itm) (s : Nat) (p : Half) : Half :=
 if zAw G c s = [] then p else (if zAw G c s ∈ p.1 then p.1 else p.1 ++ [zAw G c s], p.2 ++ [((s : Int), ((p.1 ++ [zAw G c s]).idxOf (zAw G c s) : Int))])
def zEx (G : Gram) (c : List Itm) : Nat -> Half -> Half
 | 0, p => p
 | n + 1, p => zQT G c (n + 1) (zEx G c n p)
theorem zLU {G : Gram} {c : List Itm} (h : Srt c) (p : Half) : ∀ n, zCV G c n p = zEx G c n p
 | 0 => rfl
 | n + 1 => by
  rw [zBk, zLU h p n]
  show oneS G c (n + 1) (zEx G c n p) = zQT G c (n + 1) (zEx G c n p)
  unfold oneS zQT
  rw [zII h]
theorem zEZ {G : Gram} {t : Nat} {q : Whole} {C : List Itm} (hq : q.2.length < q.1.length) (hC : Is C (Clo G q.1[q.2.length])) : rnd G t q = ((zEx G C t (q.1, [])).1, q.2 ++ [(zEx G C t (q.1, [])).2]) := by
 rw [zIA hq, (zEV G q.1[q.2.length]).uniq hC, zLU hC.1]
def GB : Gram := { terms := [⟨#[65]⟩, ⟨#[66]⟩], nons := [⟨#[115]⟩], rules := [(3, [1, 3]), (3, [2])], start := 3 }
theorem zDd : checkN GB = 0 := by
 refine zBO (by decide +kernel) ?_ (by decide +kernel) (by decide +kernel) (by decide +kernel) (by decide +kernel)
 have h1 : plnS ⟨#[65]⟩ = true := by decide +kernel
 have h2 : plnS ⟨#[66]⟩ = true := by decide +kernel
 have h3 : plnS ⟨#[115]⟩ = true := by decide +kernel
 simp [zB2, GB, h1, h2, h3]
abbrev k0 : List Itm := [(2, 0)]
abbrev k1 : List Itm := [(0, 1)]
abbrev k2 : List Itm := [(1, 1)]
abbrev k3 : List Itm := [(2, 1)]
abbrev k4 : List Itm := [(0, 2)]
abbrev t0 : List (Int × Int) := [(1, 1), (2, 2), (3, 3)]
abbrev t1 : List (Int × Int) := [(1, 1), (2, 2), (3, 4)]
theorem rb0 : runs GB (top GB) 0 = ([k0], []) := rfl
theorem rb1 : runs GB (top GB) 1 = ([k0, k1, k2, k3], [t0]) := by
 show rnd GB (top GB) (runs GB (top GB) 0) = _
 rw [rb0, zEZ (by decide) (zA2 (L := k0) 4 (by decide +kernel) (by decide +kernel) (by decide +kernel))]
 decide +kernel
theorem rb2 : runs GB (top GB) 2 = ([k0, k1, k2, k3, k4], [t0, t1]) := by
 show rnd GB (top GB) (runs GB (top GB) 1) = _
 rw [rb1, zEZ (by decide) (zA2 (L := k1) 4 (by decide +kernel) (by decide +kernel) (by decide +kernel))]
 decide +kernel
theorem rb3 : runs GB (top GB) 3 = ([k0, k1, k2, k3, k4], [t0, t1, []]) := by
 show rnd GB (top GB) (runs GB (top GB) 2) = _
 rw [rb2, zEZ (by decide) (zA2 (L := k2) 4 (by decide +kernel) (by decide +kernel) (by decide +kernel))]
 decide +kernel
theorem rb4 : runs GB (top GB) 4 = ([k0, k1, k2, k3, k4], [t0, t1, [], []]) := by
 show rnd GB (top GB) (runs GB (top GB) 3) = _
 rw [rb3, zEZ (by decide) (zA2 (L := k3) 4 (by decide +kernel) (by decide +kernel) (by decide +kernel))]
 decide +kernel
theorem rb5 : runs GB (top GB) 5 = ([k0, k1, k2, k3, k4], [t0, t1, [], [], []]) := by
 show rnd GB (top GB) (runs GB (top GB) 4) = _
 rw [rb4, zEZ (by decide) (zA2 (L := k4) 4 (by decide +kernel) (by decide +kernel) (by decide +kernel))]
 decide +kernel
def XB : List (List Itm × List (Int × Int)) := [(k0, t0), (k1, t1), (k2, []), (k3, []), (k4, [])]
theorem zJw : Built GB 0 XB := by
 have h := Built.all (G := GB) (n := 5) zDd ⟨.inr (by rw [rb5]; rfl), fun m hm => by
  have : m = 0 \/ m = 1 \/ m = 2 \/ m = 3 \/ m = 4 := by omega
  unfold Stop
  rcases this with rfl | rfl | rfl | rfl | rfl
  ·rw [rb0]; decide
  ·rw [rb1]; decide
  ·rw [rb2]; decide
  ·rw [rb3]; decide
  ·rw [rb4]; decide⟩ (by rw [rb5]; decide)
 rw [rb5] at h
 exact h
end Au
namespace Lk
open Gr (ofN)
open Im
open Au
theorem zBE {q r : Whole} (hq : q.2.length = q.1.length) (hr : r.2.length = r.1.length) (h : states q = states r) : q = r := by
 have h1 : q.1 = r.1 := by
  have := congrArg (List.map Prod.fst) h
  unfold states at this
  rwa [List.map_fst_zip (by omega), List.map_fst_zip (by omega)] at this
 have h2 : q.2 = r.2 := by
  have := congrArg (List.map Prod.snd) h
  unfold states at this
  rwa [List.map_snd_zip (by omega), List.map_snd_zip (by omega)] at this
 exact Prod.ext h1 h2
def qB : Whole := ([k0, k1, k2, k3, k4], [t0, t1, [], [], []])
theorem zDz {q : Whole} (h : Built GB 0 (states q)) (D : Done GB q) : q = qB := zBE D.all rfl ((h.uniq zJw).2.trans rfl)
theorem zPr {x : Itm} (hx : zAJ GB x = true) (hb : behB GB x = true) (ho : ofN GB (behV GB x) ≠ []) : zFU GB x = [] := by
 have hm := zBt hx
 have key : ∀ x ∈ allI GB, behB GB x = true -> ofN GB (behV GB x) ≠ [] -> zFU GB x = [] := by decide +kernel
 exact key x hm hb ho
theorem zKU (D : Done GB qB) {i : Nat} {x : Itm} {t : Int} (h : La GB qB i x t) : t = 0 := by
 induction h with
 | start => rfl
 | move _ _ _ ih => exact ih
 | opens h1 h2 h3 h4 ih =>
  rename_i i r x t u
  have hr := zPr (zAd (zCs D zDd h1).2) h2 (fun e => by rw [e] at h3; cases h3)
  rw [hr, ih, List.nil_append] at h4
  have := (zA9 (G := GB) zDd (t := 0) (.inl rfl) (l := []) (u := u)).1 h4
  rcases this with h5 | ⟨_, h5⟩
  ·obtain ⟨pre, y, post, e, _⟩ := h5
   simp at e
  ·exact h5
end Lk
namespace Ac
open Gr (Gram checkN zBO zB2 plnS top)
open Im
open Au
open Lk (La zCs zGA endI qB zDz zKU zBE zA9)
theorem zOt {G : Gram} {q : Whole} {i t : Nat} (P : Nat -> Bool) (h : ∀ k, k <= G.rules.length -> redB G q i k t = true -> P k = true) : (actL G q i t).length <= (zBC q i t).length + ((List.range (G.rules.length + 1)).filter P).length := by
 have h1 : (redL G q i t).length <= ((List.range G.rules.length).filter P).length := by
  unfold redL
  rw [List.length_map, ← List.countP_eq_length_filter, ← List.countP_eq_length_filter]
  exact List.countP_mono_left fun k hk e => h k (by have := List.mem_range.1 hk; omega) e
 have h2 : (accL G q i t).length <= ([G.rules.length].filter P).length := by
  unfold accL
  split
  ·rename_i e
   rw [List.filter_cons, if_pos (h _ (Nat.le_refl _) e)]
   simp
  ·simp
 unfold actL
 rw [List.length_append, List.length_append, List.range_succ, List.filter_append, List.length_append]
 omega
theorem zHg {G : Gram} {q : Whole} {i t : Nat} (h : (actL G q i t).length <= 1) : cellC G q i t = [] := by
 unfold cellC
 rcases hl : actL G q i t with _ | ⟨a, _ | ⟨b, l⟩⟩
 ·rfl
 ·rfl
 ·rw [hl] at h
  simp at h
def clB : Nat -> List Itm
 | 0 => cloN GB 4 k0
 | 1 => cloN GB 4 k1
 | 2 => cloN GB 4 k2
 | 3 => cloN GB 4 k3
 | _ => cloN GB 4 k4
theorem zRE {i : Nat} (hi : i < 5) : Is (clB i) (Clo GB (zAH qB.1 i)) := by
 have : i = 0 \/ i = 1 \/ i = 2 \/ i = 3 \/ i = 4 := by omega
 rcases this with rfl | rfl | rfl | rfl | rfl
 ·exact zA2 (G := GB) (L := k0) 4 (by decide +kernel) (by decide +kernel) (by decide +kernel)
 ·exact zA2 (G := GB) (L := k1) 4 (by decide +kernel) (by decide +kernel) (by decide +kernel)
 ·exact zA2 (G := GB) (L := k2) 4 (by decide +kernel) (by decide +kernel) (by decide +kernel)
 ·exact zA2 (G := GB) (L := k3) 4 (by decide +kernel) (by decide +kernel) (by decide +kernel)
 ·exact zA2 (G := GB) (L := k4) 4 (by decide +kernel) (by decide +kernel) (by decide +kernel)
theorem zPp (D : Done GB qB) {i t : Nat} (hi : i < 5) : (actL GB qB i t).length <= (zBC qB i t).length + ((List.range 3).filter fun k => decide (endI GB k ∈ clB i) && decide (t = 0)).length :=
 zOt (G := GB) _ fun k hk e => by
  have l := zCy.1 e
  have h1 := (zCs D zDd l).2
  have h2 := zKU D l
  rw [Bool.and_eq_true, decide_eq_true_iff, decide_eq_true_iff]
  exact ⟨((zRE hi).2 _).2 h1, by omega⟩
theorem zPq (D : Done GB qB) {i t : Nat} (hi : i < 5) (ht : t < 3) : (actL GB qB i t).length <= 1 := by
 refine Nat.le_trans (zPp D hi) ?_
 have key : ∀ i, i < 5 -> ∀ t, t < 3 -> (zBC qB i t).length + ((List.range 3).filter fun k => decide (endI GB k ∈ clB i) && decide (t = 0)).length <= 1 := by decide +kernel
 exact key i hi t ht
theorem zM5 (D : Done GB qB) : zAQ GB qB = [] := by
 unfold zAQ rowC
 rw [List.flatMap_eq_nil_iff]
 intro i hi
 rw [List.flatMap_eq_nil_iff]
 intro t ht
 exact zHg (zPq D (List.mem_range.1 hi) (List.mem_range.1 ht))
theorem zRP {er : Int} {T : Tb5} (h : TabIs GB er T) : er = 0 /\ T = tabL GB qB /\ Done GB qB := by
 cases h with
 | bad h1 h2 => exact absurd (h1.uniq zJw).1 h2
 | clash h1 h2 h3 h4 h5 =>
  obtain rfl := zDz h4 h2
  exact absurd (zM5 h2) h5
 | all h1 h2 h3 h4 h5 =>
  obtain rfl := zDz h4 h2
  exact ⟨rfl, rfl, h2⟩
theorem zM6 : fstA GB qB 0 2 = (1, 2) := by
 have : zBC qB 0 2 = [(1, 2)] := by decide +kernel
 unfold fstA actL
 rw [this]
 rfl
def GA : Gram := { terms := [⟨#[65]⟩, ⟨#[66]⟩], nons := [⟨#[115]⟩], rules := [(3, [3, 1, 3]), (3, [2])], start := 3 }
theorem zCK : checkN GA = 0 := by
 refine zBO (by decide +kernel) ?_ (by decide +kernel) (by decide +kernel) (by decide +kernel) (by decide +kernel)
 have h1 : plnS ⟨#[65]⟩ = true := by decide +kernel
 have h2 : plnS ⟨#[66]⟩ = true := by decide +kernel
 have h3 : plnS ⟨#[115]⟩ = true := by decide +kernel
 simp [zB2, GA, h1, h2, h3]
abbrev a0 : List Itm := [(2, 0)]
abbrev a1 : List Itm := [(1, 1)]
abbrev a2 : List Itm := [(0, 1), (2, 1)]
abbrev a3 : List Itm := [(0, 2)]
abbrev a4 : List Itm := [(0, 1), (0, 3)]
abbrev u0 : List (Int × Int) := [(2, 1), (3, 2)]
abbrev u2 : List (Int × Int) := [(1, 3)]
abbrev u3 : List (Int × Int) := [(2, 1), (3, 4)]
theorem ra0 : runs GA (top GA) 0 = ([a0], []) := rfl
theorem ra1 : runs GA (top GA) 1 = ([a0, a1, a2], [u0]) := by
 show rnd GA (top GA) (runs GA (top GA) 0) = _
 rw [ra0, zEZ (by decide) (zA2 (L := a0) 4 (by decide +kernel) (by decide +kernel) (by decide +kernel))]
 decide +kernel
theorem ra2 : runs GA (top GA) 2 = ([a0, a1, a2], [u0, []]) := by
 show rnd GA (top GA) (runs GA (top GA) 1) = _
 rw [ra1, zEZ (by decide) (zA2 (L := a1) 4 (by decide +kernel) (by decide +kernel) (by decide +kernel))]
 decide +kernel
theorem ra3 : runs GA (top GA) 3 = ([a0, a1, a2, a3], [u0, [], u2]) := by
 show rnd GA (top GA) (runs GA (top GA) 2) = _
 rw [ra2, zEZ (by decide) (zA2 (L := a2) 4 (by decide +kernel) (by decide +kernel) (by decide +kernel))]
 decide +kernel
theorem ra4 : runs GA (top GA) 4 = ([a0, a1, a2, a3, a4], [u0, [], u2, u3]) := by
 show rnd GA (top GA) (runs GA (top GA) 3) = _
 rw [ra3, zEZ (by decide) (zA2 (L := a3) 4 (by decide +kernel) (by decide +kernel) (by decide +kernel))]
 decide +kernel
theorem ra5 : runs GA (top GA) 5 = ([a0, a1, a2, a3, a4], [u0, [], u2, u3, u2]) := by
 show rnd GA (top GA) (runs GA (top GA) 4) = _
 rw [ra4, zEZ (by decide) (zA2 (L := a4) 4 (by decide +kernel) (by decide +kernel) (by decide +kernel))]
 decide +kernel
def qA : Whole := ([a0, a1, a2, a3, a4], [u0, [], u2, u3, u2])
theorem zJv : Built GA 0 (states qA) := by
 have h := Built.all (G := GA) (n := 5) zCK ⟨.inr (by rw [ra5]; rfl), fun m hm => by
  have : m = 0 \/ m = 1 \/ m = 2 \/ m = 3 \/ m = 4 := by omega
  unfold Au.Stop
  rcases this with rfl | rfl | rfl | rfl | rfl
  ·rw [ra0]; decide
  ·rw [ra1]; decide
  ·rw [ra2]; decide
  ·rw [ra3]; decide
  ·rw [ra4]; decide⟩ (by rw [ra5]; decide)
 rw [ra5] at h
 exact h
theorem zPn {q : Whole} (h : Built GA 0 (states q)) (D : Done GA q) : q = qA := zBE D.all rfl (h.uniq zJv).2
def clA : Nat -> List Itm
 | 0 => cloN GA 4 a0
 | 1 => cloN GA 4 a1
 | 2 => cloN GA 4 a2
 | 3 => cloN GA 4 a3
 | _ => cloN GA 4 a4
theorem zOu {i : Nat} (hi : i < 5) : Is (clA i) (Clo GA (zAH qA.1 i)) := by
 have : i = 0 \/ i = 1 \/ i = 2 \/ i = 3 \/ i = 4 := by omega
 rcases this with rfl | rfl | rfl | rfl | rfl
 ·exact zA2 (G := GA) (L := a0) 4 (by decide +kernel) (by decide +kernel) (by decide +kernel)
 ·exact zA2 (G := GA) (L := a1) 4 (by decide +kernel) (by decide +kernel) (by decide +kernel)
 ·exact zA2 (G := GA) (L := a2) 4 (by decide +kernel) (by decide +kernel) (by decide +kernel)
 ·exact zA2 (G := GA) (L := a3) 4 (by decide +kernel) (by decide +kernel) (by decide +kernel)
 ·exact zA2 (G := GA) (L := a4) 4 (by decide +kernel) (by decide +kernel) (by decide +kernel)
theorem zPm (D : Done GA qA) {i t : Nat} (hi : i < 5) : (actL GA qA i t).length <= (zBC qA i t).length + ((List.range 3).filter fun k => decide (endI GA k ∈ clA i) && (!decide (k = 2) || decide (t = 0))).length :=
 zOt (G := GA) _ fun k hk e => by
  have l := zCy.1 e
  have h1 := (zCs D zCK l).2
  have h2 := (zGA D zCK l).1
  rw [Bool.and_eq_true, decide_eq_true_iff, Bool.or_eq_true, Bool.not_eq_true', decide_eq_false_iff_not, decide_eq_true_iff]
  refine ⟨((zOu hi).2 _).2 h1, ?_⟩
  by_cases hk2 : k = 2
  ·refine .inr ?_
   have : (t : Int) = 0 := h2 (by rw [hk2]; rfl)
   omega
  ·exact .inl hk2
theorem zGz (D : Done GA qA) {i t : Nat} (hi : i < 5) (ht : t < 3) (hn : ¬ (i = 4 /\ t = 1)) : cellC GA qA i t = [] := by
 refine zHg (Nat.le_trans (zPm D hi) ?_)
 have key : ∀ i, i < 5 -> ∀ t, t < 3 -> ¬ (i = 4 /\ t = 1) -> (zBC qA i t).length + ((List.range 3).filter fun k => decide (endI GA k ∈ clA i) && (!decide (k = 2) || decide (t = 0))).length <= 1 := by decide +kernel
 exact key i hi t ht hn
theorem zSJ : La GA qA 4 (0, 3) 1 := by
 have h1 : La GA qA 0 (2, 0) 0 := .start
 have h2 : La GA qA 0 (0, 0) 0 := .opens (r := 0) h1 (by decide +kernel) (by decide +kernel) ((zA9 (G := GA) zCK (.inl rfl)).2 (.inr ⟨(fun z hz => by cases hz), rfl⟩))
 have h3 : La GA qA 0 (0, 0) 1 := .opens (r := 0) h2 (by decide +kernel) (by decide +kernel) (Fi.zBh.2 (.inl (.leaf (.inr (by decide +kernel)))))
 have h4 : La GA qA 2 (0, 1) 1 := .move (x := (0, 0)) h3 (by decide +kernel) (by decide +kernel)
 have h5 : La GA qA 3 (0, 2) 1 := .move (x := (0, 1)) h4 (by decide +kernel) (by decide +kernel)
 exact .move (x := (0, 2)) h5 (by decide +kernel) (by decide +kernel)
theorem zPo (D : Done GA qA) : cellC GA qA 4 1 = [(4, 1, (1, 3), (2, 0))] := by
 have e0 : endI GA 0 = (0, 3) := by decide +kernel
 have h0 : redB GA qA 4 0 1 = true := zCy.2 (by rw [e0]; exact zSJ)
 have no : ∀ k, endI GA k ∉ clA 4 -> redB GA qA 4 k 1 = false := fun k hk => by
  cases e : redB GA qA 4 k 1 with
  | false => rfl
  | true => exact absurd (((zOu (by decide)).2 _).2 (zCs D zCK (zCy.1 e)).2) hk
 have h1 := no 1 (by decide +kernel)
 have h2 := no 2 (by decide +kernel)
 have hs : zBC qA 4 1 = [(1, 3)] := by decide +kernel
 have ha : accL GA qA 4 1 = [] := by
  unfold accL
  rw [show GA.rules.length = 2 from rfl, h2]
  rfl
 have hr : redL GA qA 4 1 = [(2, 0)] := by
  unfold redL
  rw [show GA.rules.length = 2 from rfl, show List.range 2 = [0, 1] from rfl]
  simp only [List.filter_cons, h0, h1, List.filter_nil]
  rfl
 unfold cellC fstA actL
 rw [hs, ha, hr]
 rfl
theorem zM4 (D : Done GA qA) : zAQ GA qA = [(4, 1, (1, 3), (2, 0))] := by
 have e : ∀ i, i < 5 -> i ≠ 4 -> rowC GA qA i = [] := fun i hi hn => by
  unfold rowC
  rw [List.flatMap_eq_nil_iff]
  intro t ht
  exact zGz D hi (List.mem_range.1 ht) fun h => hn h.1
 have e4 : rowC GA qA 4 = [(4, 1, (1, 3), (2, 0))] := by
  unfold rowC
  rw [show GA.terms.length + 1 = 3 from rfl, show List.range 3 = [0, 1, 2] from rfl]
  simp only [List.flatMap_cons, List.flatMap_nil]
  rw [zGz D (i := 4) (t := 0) (by decide) (by decide) (by decide), zGz D (i := 4) (t := 2) (by decide) (by decide) (by decide), zPo D]
  rfl
 unfold zAQ
 rw [show qA.1.length = 5 from rfl, show List.range 5 = [0, 1, 2, 3, 4] from rfl]
 simp only [List.flatMap_cons, List.flatMap_nil]
 rw [e 0 (by decide) (by decide), e 1 (by decide) (by decide), e 2 (by decide) (by decide), e 3 (by decide) (by decide), e4]
 rfl
theorem zSI {er : Int} {L : List Cl4} (h : ClashIs GA er L) : er = 0 /\ L = [(4, 1, (1, 3), (2, 0))] := by
 cases h with
 | bad h1 h2 => exact absurd (h1.uniq zJv).1 h2
 | all h1 h2 h3 h4 =>
  obtain rfl := zPn h4 h2
  exact ⟨rfl, zM4 h2⟩
end Ac
namespace Lk
open Go.RowKit Go.Maps
open Gr (Fits)
open Im
open Au
def lw (W : World) : World :=
 ((((W.alloc (.cells #[.string ⟨#[65]⟩, .string ⟨#[66]⟩] 9)).alloc (.cells #[.string ⟨#[115]⟩] 9)).alloc (.cells #[.int .i64 1, .int .i64 3] 3)).alloc (.cells #[.int .i64 2] 3)).alloc
  (.cells #[.int .i64 3, .slice (some ⟨W.heap.size + 1 + 1, 0, none⟩) 2 2, .int .i64 3, .slice (some ⟨W.heap.size + 1 + 1 + 1, 0, none⟩) 1 1] 57)
theorem fitz (x : Int) (h : -1000 <= x) (k : x <= 1000) : Fits x := ⟨by omega, by omega⟩
