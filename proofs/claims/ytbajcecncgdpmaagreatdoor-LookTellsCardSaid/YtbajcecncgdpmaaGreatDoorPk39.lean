/- A part of the proof. -/
import Derived.Test.YtbajcecncgdpmaaGreatDoorPk37
set_option maxHeartbeats 2000000
set_option maxRecDepth 100000
set_option linter.unusedVariables false
namespace Go.Proofs.YtbajcecncgdpmaaGreatDoor
namespace Au
open Gr (Gram checkN zAR zBL top)
open Im
theorem zC5 {G : Gram} (hv : checkN G = 0) : top G <= 240 := by
 have h := (zAR hv).1
 unfold zBL at h
 simp only [Bool.or_eq_false_iff, decide_eq_false_iff_not] at h
 unfold top
 omega
structure Ent (G : Gram) (X : List Sta) : Prop where
 hv : checkN G = 0
 small : Small X
 len : X.length <= 2000
 right : ∀ s ∈ X, Srt s.1 /\ ∀ x ∈ s.1, zAI G x = true
 «to» : ∀ k (h : k < X.length) j (h' : j < X[k].2.length), ∃ n : Nat, X[k].2[j].2 = (n : Int) /\ ∃ hn : n < X.length, ∀ x ∈ X[n].1, zH2 G X[k].2[j].1 x
 early : ∀ t, 0 < t -> t < X.length -> ∃ k, ∃ h : k < X.length, ∃ j, ∃ h' : j < X[k].2.length, k < t /\ X[k].2[j].2 = (t : Int)
 some : ∀ t (h : t < X.length), X[t].1 ≠ []
 spells : ∀ i (hi : i < X.length) (r : Int), Gr.zAN G r = true -> (Gr.zAD G r).2.length ≠ 0 -> Clo G X[i].1 (r, 0) -> ∃ j : Nat, ∃ hj : j < X.length, zEu X (i : Int) (Gr.zAD G r).2 = (j : Int) /\ (r, ((Gr.zAD G r).2.length : Int)) ∈ X[j].1
theorem zTL {G : Gram} {X : List Sta} (h : Built G 0 X) : Ent G X := by
 generalize he : (0 : Int) = e at h
 cases h with
 | bad hb => exact absurd he.symm hb
 | many _ _ _ => cases he
 | all hv hs hf =>
  rename_i n
  have D := hs.done hf
  generalize runs G (top G) n = q at *
  have hl := zAo D.all
  have at1 : ∀ i (h : i < (states q).length), (states q)[i] = (zAG q.1 i, q.2.getD i []) := fun i h => by
   have := zBk D.all (i := i) (by omega)
   rw [List.getElem?_eq_getElem h, Option.some.injEq] at this
   exact this
  have good : ∀ s ∈ states q, s.1 ∈ q.1 := fun s hs => by
   obtain ⟨i, hi, rfl⟩ := List.mem_iff_getElem.1 hs
   rw [at1 i hi]
   exact zAb (by omega)
  have hr : ∀ s ∈ states q, Srt s.1 /\ ∀ x ∈ s.1, zAI G x = true := fun s hs => (D.ok.good _ (good s hs)).2
  refine ⟨hv, ⟨by omega, fun s hs => ?_, fun s hs => ?_⟩, by omega, hr, fun k h j h' => ?_, fun t h0 ht => ?_, fun t ht => ?_, fun i hi r hr h0 hx => ?_⟩
  ·have := Nat.le_trans (zBe (hr s hs).1 (hr s hs).2) (zAW hv)
   omega
  ·obtain ⟨i, hi, rfl⟩ := List.mem_iff_getElem.1 hs
   rw [at1 i hi]
   have hi2 : i < q.2.length := by rw [D.all]; omega
   rw [← zMY D.ok hi2]
   have := zMc q.2 (i : Int) (top G + 1)
   have := zC5 hv
   dsimp only
   omega
  ·have hk : k < q.1.length := by omega
   have e2 : (states q)[k].2 = q.2.getD k [] := by rw [at1 k h]
   have hm : (states q)[k].2[j] ∈ q.2.getD k [] := by
    rw [← e2]
    exact List.getElem_mem h'
   obtain ⟨n, h1, h2, h3⟩ := D.enters hk (s := (states q)[k].2[j].1) (t := (states q)[k].2[j].2) hm
   refine ⟨n, h1, by omega, ?_⟩
   rw [at1 n (by omega)]
   exact h3
  ·obtain ⟨k, s, h1, h2⟩ := D.early h0 (by omega)
   have hk : k < (states q).length := by omega
   have e2 : (states q)[k].2 = q.2.getD k [] := by rw [at1 k hk]
   rw [← e2] at h2
   obtain ⟨j, hj, e⟩ := List.mem_iff_getElem.1 h2
   exact ⟨k, hk, j, hj, h1, by rw [e]⟩
  ·rw [at1 t ht]
   exact D.some (by omega)
  ·rw [at1 i hi] at hx
   obtain ⟨j, h1, h2, h3⟩ := D.spells hv (i := i) (by omega) hr h0 (((zDX _ _).2 _).2 hx)
   refine ⟨j, by omega, ?_, by rw [at1 j (by omega)]; exact h3⟩
   rw [← hl, zMD (fun i h => by rw [at1 i h])] at h2
   exact h2
end Au
namespace Au
open Gr (Gram checkN zDO zCl plnS top ofN)
open Im
def cloS (G : Gram) (out : List Itm) : List Itm := out.foldl (fun o y => if behB G y then adds o (ofN G (behV G y)) else o) out
theorem zIy {G : Gram} {L : List Itm} : ∀ (l out : List Itm), Mid G L out -> (∀ y ∈ l, Clo G L y) -> Mid G L (l.foldl (fun o y => if behB G y then adds o (ofN G (behV G y)) else o) out)
 | [], out, h, _ => h
 | y :: l, out, h, k => by
  rw [List.foldl_cons]
  refine zIy l _ ?_ fun z hz => k z (List.mem_cons_of_mem _ hz)
  split
  ·rename_i hb
   exact h.adds (k y (List.mem_cons_self ..)) hb
  ·exact h
theorem zL8 {G : Gram} {L out : List Itm} (h : Mid G L out) : Mid G L (cloS G out) := zIy out out h fun y hy => h.sub y hy
def cloN (G : Gram) : Nat -> List Itm -> List Itm
 | 0, out => out
 | n + 1, out => cloN G n (cloS G out)
theorem zFp {G : Gram} {L : List Itm} : ∀ (n : Nat) (out : List Itm), Mid G L out -> Mid G L (cloN G n out)
 | 0, _, h => h
 | n + 1, _, h => zFp n _ (zL8 h)
def zSg (G : Gram) (out : List Itm) : Bool := out.all fun y => !behB G y || (ofN G (behV G y)).all fun r => decide (((r : Int), (0 : Int)) ∈ out)
theorem zIE {G : Gram} {out : List Itm} (h : zSg G out = true) : Im.Shut G out := fun y hy hb r hr => by
 have h1 := List.all_eq_true.1 h y hy
 rw [hb, Bool.not_true, Bool.false_or] at h1
 exact of_decide_eq_true (List.all_eq_true.1 h1 r hr)
def srtB (l : List Itm) : Bool := decide (l.Pairwise ltP)
theorem zI2 {l : List Itm} (h : srtB l = true) : Srt l := of_decide_eq_true (p := l.Pairwise ltP) h
theorem zEN {G : Gram} {L : List Itm} (n : Nat) (h1 : srtB L = true) (h2 : (L.all fun x => zAI G x) = true) (h3 : zSg G (cloN G n L) = true) : Is (cloN G n L) (Clo G L) :=
 (zFp n L (.start ⟨zI2 h1, fun x => ⟨fun h => ⟨h, List.all_eq_true.1 h2 x h⟩, fun h => h.1⟩⟩)).done (zIE h3)
def zQY (G : Gram) (c : List Itm) (s : Nat) (p : Half) : Half :=
 if zAv G c s = [] then p else (if zAv G c s ∈ p.1 then p.1 else p.1 ++ [zAv G c s], p.2 ++ [((s : Int), ((p.1 ++ [zAv G c s]).idxOf (zAv G c s) : Int))])
def zFO (G : Gram) (c : List Itm) : Nat -> Half -> Half
 | 0, p => p
 | n + 1, p => zQY G c (n + 1) (zFO G c n p)
theorem zKu {G : Gram} {c : List Itm} (h : Srt c) (p : Half) : ∀ n, zAk G c n p = zFO G c n p
 | 0 => rfl
 | n + 1 => by
  rw [zBU, zKu h p n]
  show oneS G c (n + 1) (zFO G c n p) = zQY G c (n + 1) (zFO G c n p)
  unfold oneS zQY
  rw [zJH h]
theorem zL5 {G : Gram} {t : Nat} {q : Whole} {C : List Itm} (hq : q.2.length < q.1.length) (hC : Is C (Clo G q.1[q.2.length])) : rnd G t q = ((zFO G C t (q.1, [])).1, q.2 ++ [(zFO G C t (q.1, [])).2]) := by
 rw [zGV hq, (zDX G q.1[q.2.length]).uniq hC, zKu hC.1]
def GB : Gram := { terms := [⟨#[65]⟩, ⟨#[66]⟩], nons := [⟨#[115]⟩], rules := [(3, [1, 3]), (3, [2])], start := 3 }
theorem zD2 : checkN GB = 0 := by
 refine zDO (by decide +kernel) ?_ (by decide +kernel) (by decide +kernel) (by decide +kernel) (by decide +kernel)
 have h1 : plnS ⟨#[65]⟩ = true := by decide +kernel
 have h2 : plnS ⟨#[66]⟩ = true := by decide +kernel
 have h3 : plnS ⟨#[115]⟩ = true := by decide +kernel
 simp [zCl, GB, h1, h2, h3]
abbrev k0 : List Itm := [(2, 0)]
abbrev k1 : List Itm := [(0, 1)]
abbrev k2 : List Itm := [(1, 1)]
abbrev k3 : List Itm := [(2, 1)]
abbrev k4 : List Itm := [(0, 2)]
abbrev t0 : List (Int × Int) := [(1, 1), (2, 2), (3, 3)]
abbrev t1 : List (Int × Int) := [(1, 1), (2, 2), (3, 4)]
theorem rb0 : runs GB (top GB) 0 = ([k0], []) := rfl
theorem rb1 : runs GB (top GB) 1 = ([k0, k1, k2, k3], [t0]) := by
 show rnd GB (top GB) (runs GB (top GB) 0) = _
 rw [rb0, zL5 (by decide) (zEN (L := k0) 4 (by decide +kernel) (by decide +kernel) (by decide +kernel))]
 decide +kernel
theorem rb2 : runs GB (top GB) 2 = ([k0, k1, k2, k3, k4], [t0, t1]) := by
 show rnd GB (top GB) (runs GB (top GB) 1) = _
 rw [rb1, zL5 (by decide) (zEN (L := k1) 4 (by decide +kernel) (by decide +kernel) (by decide +kernel))]
 decide +kernel
theorem rb3 : runs GB (top GB) 3 = ([k0, k1, k2, k3, k4], [t0, t1, []]) := by
 show rnd GB (top GB) (runs GB (top GB) 2) = _
 rw [rb2, zL5 (by decide) (zEN (L := k2) 4 (by decide +kernel) (by decide +kernel) (by decide +kernel))]
 decide +kernel
theorem rb4 : runs GB (top GB) 4 = ([k0, k1, k2, k3, k4], [t0, t1, [], []]) := by
 show rnd GB (top GB) (runs GB (top GB) 3) = _
 rw [rb3, zL5 (by decide) (zEN (L := k3) 4 (by decide +kernel) (by decide +kernel) (by decide +kernel))]
 decide +kernel
theorem rb5 : runs GB (top GB) 5 = ([k0, k1, k2, k3, k4], [t0, t1, [], [], []]) := by
 show rnd GB (top GB) (runs GB (top GB) 4) = _
 rw [rb4, zL5 (by decide) (zEN (L := k4) 4 (by decide +kernel) (by decide +kernel) (by decide +kernel))]
 decide +kernel
def XB : List (List Itm × List (Int × Int)) := [(k0, t0), (k1, t1), (k2, []), (k3, []), (k4, [])]
theorem zME : Built GB 0 XB := by
 have h := Built.all (G := GB) (n := 5) zD2 ⟨.inr (by rw [rb5]; rfl), fun m hm => by
  have : m = 0 \/ m = 1 \/ m = 2 \/ m = 3 \/ m = 4 := by omega
  unfold Stop
  rcases this with rfl | rfl | rfl | rfl | rfl
  ·rw [rb0]; decide
  ·rw [rb1]; decide
  ·rw [rb2]; decide
  ·rw [rb3]; decide
  ·rw [rb4]; decide⟩ (by rw [rb5]; decide)
 rw [rb5] at h
 exact h
end Au
namespace Lk
open Gr (Gram checkN zAR ofN nonB zAd zA9)
open Im
open Au
open Fi (zB2 canB fstB zAO lst zBV zBK zAj zBG)
abbrev Tb := Nat -> Itm -> Int -> Bool
abbrev En := Int × Itm × Int
def hasP (n : Nat) (Y : Nat -> List Itm) (i : Int) (x : Itm) : Bool := decide (0 <= i /\ i < (n : Int) /\ x ∈ Y i.toNat)
theorem zF0 {n : Nat} {Y : Nat -> List Itm} {i : Int} {x : Itm} : hasP n Y i x = true ↔ ∃ k : Nat, i = (k : Int) /\ k < n /\ x ∈ Y k := by
 unfold hasP
 rw [decide_eq_true_iff]
 constructor
 ·rintro ⟨h1, h2, h3⟩
  exact ⟨i.toNat, by omega, by omega, h3⟩
 ·rintro ⟨k, rfl, h2, h3⟩
  exact ⟨by omega, by omega, by simpa using h3⟩
theorem zB9 {n : Nat} {Y : Nat -> List Itm} {i : Nat} {x : Itm} : hasP n Y (i : Int) x = true ↔ i < n /\ x ∈ Y i := by
 rw [zF0]
 constructor
 ·rintro ⟨k, h1, h2, h3⟩
  obtain rfl : i = k := by omega
  exact ⟨h2, h3⟩
 ·exact fun h => ⟨i, rfl, h.1, h.2⟩
def addT (n : Nat) (Y : Nat -> List Itm) (H : Tb) (l : List En) : Tb := fun j y u => H j y u || decide (hasP n Y (j : Int) y = true /\ ((j : Int), y, u) ∈ l)
def newT (n : Nat) (Y : Nat -> List Itm) (H : Tb) (l : List En) : Bool := l.any fun e => hasP n Y e.1 e.2.1 && !(H e.1.toNat e.2.1 e.2.2)
theorem zAq {n : Nat} {Y : Nat -> List Itm} {H : Tb} {l : List En} {j : Nat} {y : Itm} {u : Int} : addT n Y H l j y u = true ↔ H j y u = true \/ (hasP n Y (j : Int) y = true /\ ((j : Int), y, u) ∈ l) := by
 unfold addT
 rw [Bool.or_eq_true, decide_eq_true_iff]
theorem zCa {n : Nat} {Y : Nat -> List Itm} {H : Tb} {l : List En} : newT n Y H l = true ↔ ∃ (j : Nat) (y : Itm) (u : Int), ((j : Int), y, u) ∈ l /\ hasP n Y (j : Int) y = true /\ H j y u = false := by
 unfold newT
 rw [List.any_eq_true]
 constructor
 ·rintro ⟨⟨i, y, u⟩, h1, h2⟩
  rw [Bool.and_eq_true, Bool.not_eq_true'] at h2
  obtain ⟨k, rfl, h3⟩ := zF0.1 h2.1
  exact ⟨k, y, u, h1, h2.1, by simpa using h2.2⟩
 ·rintro ⟨j, y, u, h1, h2, h3⟩
  exact ⟨_, h1, by rw [Bool.and_eq_true, Bool.not_eq_true']; exact ⟨h2, by simpa using h3⟩⟩
theorem zJA (n : Nat) (Y : Nat -> List Itm) (H : Tb) : addT n Y H [] = H := by
 funext j y u
 simp [addT]
theorem zOd (n : Nat) (Y : Nat -> List Itm) (H : Tb) : newT n Y H [] = false := rfl
theorem zPD (n : Nat) (Y : Nat -> List Itm) (H : Tb) (l m : List En) : addT n Y (addT n Y H l) m = addT n Y H (l ++ m) := by
 funext j y u
 apply Bool.eq_iff_iff.2
 rw [zAq, zAq, zAq, List.mem_append]
 constructor
 ·rintro ((h | ⟨h, k⟩) | ⟨h, k⟩)
  ·exact .inl h
  ·exact .inr ⟨h, .inl k⟩
  ·exact .inr ⟨h, .inr k⟩
 ·rintro (h | ⟨h, k | k⟩)
  ·exact .inl (.inl h)
  ·exact .inl (.inr ⟨h, k⟩)
  ·exact .inr ⟨h, k⟩
theorem zOL (n : Nat) (Y : Nat -> List Itm) (H : Tb) (l m : List En) : newT n Y H (l ++ m) = (newT n Y H l || newT n Y (addT n Y H l) m) := by
 apply Bool.eq_iff_iff.2
 rw [Bool.or_eq_true, zCa, zCa, zCa]
 constructor
 ·rintro ⟨j, y, u, h1, h2, h3⟩
  rcases List.mem_append.1 h1 with k | k
  ·exact .inl ⟨j, y, u, k, h2, h3⟩
  ·by_cases e : ((j : Int), y, u) ∈ l
   ·exact .inl ⟨j, y, u, e, h2, h3⟩
   ·exact .inr ⟨j, y, u, k, h2, by simp [addT, h3, e]⟩
 ·rintro (⟨j, y, u, h1, h2, h3⟩ | ⟨j, y, u, h1, h2, h3⟩)
  ·exact ⟨j, y, u, List.mem_append_left _ h1, h2, h3⟩
  ·refine ⟨j, y, u, List.mem_append_right _ h1, h2, ?_⟩
   cases e : H j y u with
   | false => rfl
   | true => rw [zAq.2 (.inl e)] at h3; cases h3
theorem zEW {n : Nat} {Y : Nat -> List Itm} {H : Tb} {l : List En} (h : newT n Y H l = false) : addT n Y H l = H := by
 funext j y u
 apply Bool.eq_iff_iff.2
 rw [zAq]
 refine ⟨?_, .inl⟩
 rintro (k | ⟨k1, k2⟩)
 ·exact k
 ·cases e : H j y u with
  | true => rfl
  | false => rw [zCa.2 ⟨j, y, u, k2, k1, e⟩] at h; cases h
theorem zI5 {n : Nat} {Y : Nat -> List Itm} {H : Tb} {e : En} (h : hasP n Y e.1 e.2.1 = false) : addT n Y H [e] = H /\ newT n Y H [e] = false := by
 have : newT n Y H [e] = false := by
  unfold newT
  rw [List.any_cons, h]
  rfl
 exact ⟨zEW this, this⟩
theorem zJQ {n : Nat} {Y : Nat -> List Itm} {H : Tb} {i : Nat} {x : Itm} {t : Int} (h : hasP n Y (i : Int) x = true) : newT n Y H [((i : Int), x, t)] = !(H i x t) := by
 unfold newT
 rw [List.any_cons, List.any_nil, Bool.or_false]
 dsimp only
 rw [h, Bool.true_and, Int.toNat_natCast]
theorem zJL {n : Nat} {Y : Nat -> List Itm} {H : Tb} {i : Nat} {x : Itm} {t : Int} (h : hasP n Y (i : Int) x = true) (j : Nat) (y : Itm) (u : Int) : addT n Y H [((i : Int), x, t)] j y u = (H j y u || decide (j = i /\ y = x /\ u = t)) := by
 apply Bool.eq_iff_iff.2
 rw [zAq, Bool.or_eq_true, decide_eq_true_iff, List.mem_singleton]
 constructor
 ·rintro (k | ⟨_, k⟩)
  ·exact .inl k
  ·injection k with k1 k2
   injection k2 with k2 k3
   exact .inr ⟨by omega, k2, k3⟩
 ·rintro (k | ⟨rfl, rfl, rfl⟩)
  ·exact .inl k
  ·exact .inr ⟨h, rfl⟩
noncomputable def outL (G : Gram) (q : Whole) (i : Nat) (x : Itm) (t : Int) : List En :=
 if behB G x = true then (leads (q.2.getD i []) (behV G x), (x.1, x.2 + 1), t) ::
  (if nonB G (behV G x) = true then (ofN G (behV G x)).flatMap fun (r : Nat) => (lst (zAO (canB G) (fstB G) (zEh G x ++ [t])) (G.terms.length + 1)).map fun u => ((i : Int), ((r : Int), 0), u) else [])
 else []
theorem zNU {G : Gram} {l : List Int} {t : Int} : zAO (canB G) (fstB G) l t = true ↔ zB2 G l t := by
 rw [zBK]
 constructor
 ·rintro ⟨pre, y, post, h1, h2, h3⟩
  exact ⟨pre, y, post, h1, fun z hz => zAj.1 (h2 z hz), zBG.1 h3⟩
 ·rintro ⟨pre, y, post, h1, h2, h3⟩
  exact ⟨pre, y, post, h1, fun z hz => zAj.2 (h2 z hz), zBG.2 h3⟩
theorem zQF {G : Gram} {q : Whole} {i j : Nat} {x y : Itm} {t u : Int} (h : La G q i x t) (k : ((j : Int), y, u) ∈ outL G q i x t) : La G q j y u := by
 unfold outL at k
 split at k
 ·rename_i hb
  rcases List.mem_cons.1 k with e | e
  ·injection e with e1 e2
   injection e2 with e2 e3
   subst e2 e3
   exact .move h hb e1.symm
  ·split at e
   ·obtain ⟨r, hr, e⟩ := List.mem_flatMap.1 e
    obtain ⟨v, hv, e⟩ := List.mem_map.1 e
    injection e with e1 e2
    injection e2 with e2 e3
    obtain rfl : i = j := by omega
    subst e2 e3
    exact .opens h hb hr (zNU.1 (zBV.1 hv).2.2)
   ·cases e
 ·cases k
structure SoT (G : Gram) (q : Whole) (H : Tb) : Prop where
 snd : SndL G q H
 start : H 0 ((G.rules.length : Int), 0) 0 = true
theorem SoT.add {G : Gram} {q : Whole} {n : Nat} {Y : Nat -> List Itm} {H : Tb} (h : SoT G q H) {i : Nat} {x : Itm} {t : Int} (k : H i x t = true) : SoT G q (addT n Y H (outL G q i x t)) := by
 refine ⟨fun j y u e => ?_, zAq.2 (.inl h.start)⟩
 rcases zAq.1 e with e | ⟨_, e⟩
 ·exact h.snd _ _ _ e
 ·exact zQF (h.snd _ _ _ k) e
theorem zSA {G : Gram} {q : Whole} (D : Done G q) (hv : checkN G = 0) {Y : Nat -> List Itm} (hY : ∀ i, i < q.1.length -> ∀ x, x ∈ Y i ↔ Clo G (zAG q.1 i) x) {H : Tb} (h : SoT G q H)
  (hN : ∀ i x t, i < q.1.length -> x ∈ Y i -> 0 <= t -> t < ((G.terms.length + 1 : Nat) : Int) -> H i x t = true -> newT q.1.length Y H (outL G q i x t) = false) (i : Nat) (x : Itm) (t : Int) : H i x t = true ↔ La G q i x t := by
 have place : ∀ {i : Nat} {x : Itm} {t : Int}, La G q i x t -> hasP q.1.length Y (i : Int) x = true := fun l => by
  have := zG0 D hv l
  exact zB9.2 ⟨this.1, (hY _ this.1 _).2 this.2⟩
 have step : ∀ {i j : Nat} {x y : Itm} {t u : Int}, H i x t = true -> ((j : Int), y, u) ∈ outL G q i x t -> H j y u = true := fun {i j x y t u} e k => by
  have l := h.snd _ _ _ e
  have p := zB9.1 (place l)
  have ht : 0 <= t /\ t < ((G.terms.length + 1 : Nat) : Int) := by
   rcases zFr l with e | e
   ·omega
   ·have := zAd.1 e
    omega
  have hn := hN i x t p.1 p.2 ht.1 ht.2 e
  cases e2 : H j y u with
  | true => rfl
  | false =>
   rw [zCa.2 ⟨j, y, u, k, place (zQF l k), e2⟩] at hn
   cases hn
 refine zSI h.snd ⟨h.start, fun i x t j e hb hl => ?_, fun i x t r u e hb hr hl => ?_⟩ i x t
 ·refine step e ?_
  unfold outL
  rw [if_pos hb, hl]
  exact List.mem_cons_self ..
 ·refine step e ?_
  unfold outL
  have hu := Fi.zBA hl
  have hnb : nonB G (behV G x) = true := by
   obtain ⟨h1, h2⟩ := zA9.1 hr
   rw [← h2]
   exact Gr.zA8 (zAR hv).2.2.2.1 h1
  rw [if_pos hb, if_pos hnb]
  refine List.mem_cons_of_mem _ (List.mem_flatMap.2 ⟨r, hr, List.mem_map.2 ⟨u, zBV.2 ⟨hu.1, by omega, zNU.2 hl⟩, rfl⟩⟩)
def allP (n : Nat) (Y : Nat -> List Itm) (m : Nat) : List (Nat × Itm × Int) := (List.range n).flatMap fun i => (Y i).flatMap fun x => (List.range m).map fun t : Nat => (i, x, (t : Int))
theorem zOh {n m : Nat} {Y : Nat -> List Itm} {i : Nat} {x : Itm} {t : Int} : (i, x, t) ∈ allP n Y m ↔ i < n /\ x ∈ Y i /\ 0 <= t /\ t < (m : Int) := by
 unfold allP
 simp only [List.mem_flatMap, List.mem_range, List.mem_map]
 constructor
 ·rintro ⟨j, h1, y, h2, u, h3, e⟩
  injection e with e1 e2
  injection e2 with e2 e3
  subst e1 e2 e3
  exact ⟨h1, h2, by omega, by omega⟩
 ·rintro ⟨h1, h2, h3, h4⟩
  exact ⟨i, h1, x, h2, t.toNat, by omega, by rw [Int.toNat_of_nonneg h3]⟩
def zAr (n : Nat) (Y : Nat -> List Itm) (m : Nat) (H : Tb) : Nat := (allP n Y m).countP fun e => !(H e.1 e.2.1 e.2.2)
theorem zDb {α : Type} {p r : α -> Bool} : ∀ {l : List α}, (∀ x ∈ l, p x = true -> r x = true) -> l.countP p <= l.countP r /\ ((∃ x ∈ l, p x = false /\ r x = true) -> l.countP p < l.countP r)
 | [], _ => ⟨Nat.le_refl _, fun ⟨x, h, _⟩ => by cases h⟩
 | y :: l, h => by
  obtain ⟨i1, i2⟩ := zDb (l := l) (p := p) (r := r) fun x hx => h x (List.mem_cons_of_mem _ hx)
  have hy := h y (List.mem_cons_self ..)
  rw [List.countP_cons, List.countP_cons]
  refine ⟨?_, ?_⟩
  ·cases e1 : p y <;> cases e2 : r y <;> simp_all <;> omega
  ·rintro ⟨x, h1, h2, h3⟩
   rcases List.mem_cons.1 h1 with e | e
   ·subst e
    rw [h2, h3]
    simp
    omega
   ·have := i2 ⟨x, e, h2, h3⟩
    cases e1 : p y <;> cases e2 : r y <;> simp_all <;> omega
theorem zML {n m : Nat} {Y : Nat -> List Itm} {H : Tb} {l : List En} : zAr n Y m (addT n Y H l) <= zAr n Y m H := by
 refine (zDb fun e _ h => ?_).1
 rw [Bool.not_eq_true'] at h ⊢
 cases e2 : H e.1 e.2.1 e.2.2 with
 | false => rfl
 | true => rw [zAq.2 (.inl e2)] at h; cases h
theorem zRG {n m : Nat} {Y : Nat -> List Itm} {H : Tb} {l : List En} (hl : ∀ e ∈ l, 0 <= e.2.2 /\ e.2.2 < (m : Int)) (h : newT n Y H l = true) : zAr n Y m (addT n Y H l) < zAr n Y m H := by
 refine (zDb fun e _ h => ?_).2 ?_
 ·rw [Bool.not_eq_true'] at h ⊢
  cases e2 : H e.1 e.2.1 e.2.2 with
  | false => rfl
  | true => rw [zAq.2 (.inl e2)] at h; cases h
 ·obtain ⟨j, y, u, h1, h2, h3⟩ := zCa.1 h
  have := zB9.1 h2
  have hu := hl _ h1
  refine ⟨(j, y, u), zOh.2 ⟨this.1, this.2, hu.1, hu.2⟩, ?_, ?_⟩
  ·dsimp only
   rw [zAq.2 (.inr ⟨h2, h1⟩)]
   rfl
  ·dsimp only
   rw [h3]
   rfl
theorem zSy {G : Gram} {q : Whole} {i : Nat} {x : Itm} {t : Int} (ht : 0 <= t /\ t < ((G.terms.length + 1 : Nat) : Int)) : ∀ e ∈ outL G q i x t, 0 <= e.2.2 /\ e.2.2 < ((G.terms.length + 1 : Nat) : Int) := by
 intro e he
 unfold outL at he
 split at he
 ·rcases List.mem_cons.1 he with rfl | he
  ·exact ht
  ·split at he
   ·obtain ⟨r, hr, he⟩ := List.mem_flatMap.1 he
    obtain ⟨v, hv, rfl⟩ := List.mem_map.1 he
    have := zBV.1 hv
    exact ⟨this.1, this.2.1⟩
   ·cases he
 ·cases he
end Lk
namespace Au
open Go.RowKit Go.Maps
open Gr (cell_later zAU)
open Im
theorem zLA (X : List Sta) (a : Option Addr) (c : Nat) (i s : Int) (w : World) (hX : StaA a X w) (sm : Small X) :
  Calls Tryz.prog 82 #[.slice a X.length c, .int .i64 i, .int .i64 s] w (Gr.Is (.int .i64 (zE1 X i s)) w) := by
 have hxl := sm.len
 by_cases h0 : 0 <= i
 ·by_cases h1 : i < (X.length : Int)
  ·obtain ⟨k, rfl⟩ := Int.eq_ofNat_of_zero_le h0
   have hk : k < X.length := by omega
   rw [zDJ hk]
   obtain ⟨b, o, a1, c1, a2, c2, rfl, z1, z2, i1, i2, l1, l2⟩ := hX k hk
   have TR := zUB (fun w1 (b : Below w.heap.size w w1) => i2.went b)
   have hsm := sm.trans _ (List.getElem_mem hk)
   have Z2 := zUB (fun w1 (b : Below w.heap.size w w1) => cell_later b z2)
   clear hX sm z1 i1 i2 l1
   generalize X[k].2 = tr at *
   generalize X.length = n at *
   go_enter Tryz.func82, Tryz.ntmps82
   go_wp2
   go_loopw [7] (fun q wr => ∃ j : Nat, q = .int .i64 j /\ j <= tr.length /\ zH0 tr s j /\ Below w.heap.size w wr) (fun q _ => tr.length - (intOf q).toNat)
   case atStart => exact ⟨0, rfl, Nat.zero_le _, zFV _ _, .refl _ _⟩
   case round =>
    obtain ⟨j, rfl, hj, hN, hW⟩ := hrel
    have N := zUB hN
    have HW := zUB hW
    have q2 := Z2.out wr hW
    clear hN
    by_cases hlt : j < tr.length
    ·obtain ⟨b2, o2, rfl, p0, p1⟩ := (TR.out wr hW).at j hlt
     have NS := zUB (fun e => zFd N.out hlt e)
     have NH := zUB (fun e => zHA N.out hlt e)
     have e1 : ((tr[j].1, tr[j].2) : Itm) = tr[j] := rfl
     generalize tr[j] = x at *
     obtain ⟨x0, x1⟩ := x
     dsimp only at p0 p1
     clear e1 hW
     by_cases he : x0 = s
     ·have E := zUB (NH.out he)
      subst he
      clear NS NH
      go_wp2
      go_ret
      exact ⟨zAU E.out, HW.out⟩
     ·have E := zUB (NS.out he)
      clear NS NH
      go_wp2
      go_roundw
      case rel => exact ⟨j + 1, by go_num, by omega, E.out, HW.out⟩
      case measure => simp [intOf]; omega
    ·have E := zUB (zGp N.out hlt)
     clear hW
     go_wp2
     go_ret
     exact ⟨zAU E.out, HW.out⟩
  ·rw [zCJ (decide_eq_false fun q => h1 q.2)]
   clear hX sm
   generalize X.length = n at *
   go_enter Tryz.func82, Tryz.ntmps82
   go_wp2
   go_ret
   exact ⟨rfl, .refl _ _⟩
 ·rw [zCJ (decide_eq_false fun q => h0 q.1)]
  have h2 : i < 0 := by omega
  clear hX sm
  generalize X.length = n at *
  go_enter Tryz.func82, Tryz.ntmps82
  go_wp2
  go_ret
  exact ⟨rfl, .refl _ _⟩
end Au
namespace Lk
open Gr (Gram checkN)
open Im
open Au
def Ahd (i k t i' k' t' : Nat) : Prop := i' < i \/ (i' = i /\ (k' < k \/ (k' = k /\ t' < t)))
structure Pass (G : Gram) (q : Whole) (n : Nat) (Y : Nat -> List Itm) (m : Nat) (H1 : Tb) (i k t : Nat) (H2 : Tb) (mo : Bool) : Prop where
 so : SoT G q H2
 le : zAr n Y m H2 <= zAr n Y m H1
 lt : mo = true -> zAr n Y m H2 < zAr n Y m H1
 same : mo = false -> H2 = H1 /\ ∀ i' k' t' (hi : i' < n) (hk : k' < (Y i').length), t' < m -> Ahd i k t i' k' t' -> H1 i' (Y i')[k'] (t' : Int) = true -> newT n Y H1 (outL G q i' (Y i')[k'] (t' : Int)) = false
section
variable {G : Gram} {q : Whole} {n : Nat} {Y : Nat -> List Itm} {m : Nat} {H1 : Tb} {i k t : Nat} {H2 : Tb} {mo : Bool}
theorem Pass.start {H : Tb} (h : SoT G q H) : Pass G q n Y m H 0 0 0 H false :=
 ⟨h, Nat.le_refl _, fun e => (by cases e), fun _ => ⟨rfl, fun i' k' t' _ _ _ a => by
  rcases a with a | ⟨_, a | ⟨_, a⟩⟩ <;> omega⟩⟩
theorem Pass.skip (p : Pass G q n Y m H1 i k t H2 mo) (hk : k < (Y i).length) (h : H2 i (Y i)[k] (t : Int) = false) : Pass G q n Y m H1 i k (t + 1) H2 mo :=
 ⟨p.so, p.le, p.lt, fun e => by
  obtain ⟨e1, e2⟩ := p.same e
  refine ⟨e1, fun i' k' t' h1 h2 h3 a h4 => ?_⟩
  by_cases c : i' = i /\ k' = k /\ t' = t
  ·obtain ⟨rfl, rfl, rfl⟩ := c
   rw [← e1, h] at h4
   cases h4
  ·refine e2 i' k' t' h1 h2 h3 ?_ h4
   unfold Ahd at a ⊢
   omega⟩
theorem Pass.visit (p : Pass G q n Y m H1 i k t H2 mo) (hm : m = G.terms.length + 1) (ht : t < m) (hk : k < (Y i).length) (h : H2 i (Y i)[k] (t : Int) = true) : Pass G q n Y m H1 i k (t + 1) (addT n Y H2 (outL G q i (Y i)[k] (t : Int))) (mo || newT n Y H2 (outL G q i (Y i)[k] (t : Int))) := by
 have hin := zSy (G := G) (q := q) (i := i) (x := (Y i)[k]) (t := (t : Int)) (by omega)
 rw [← hm] at hin
 refine ⟨p.so.add h, Nat.le_trans zML p.le, fun e => ?_, fun e => ?_⟩
 ·cases hmo : mo with
  | true => exact Nat.lt_of_le_of_lt zML (p.lt hmo)
  | false =>
   rw [hmo, Bool.false_or] at e
   exact Nat.lt_of_lt_of_le (zRG hin e) p.le
 ·rw [Bool.or_eq_false_iff] at e
  obtain ⟨e1, e2⟩ := p.same e.1
  have e3 := zEW e.2
  refine ⟨e3.trans e1, fun i' k' t' h1 h2 h3 a h4 => ?_⟩
  by_cases c : i' = i /\ k' = k /\ t' = t
  ·obtain ⟨rfl, rfl, rfl⟩ := c
   rw [← e1]
   exact e.2
  ·refine e2 i' k' t' h1 h2 h3 ?_ h4
   unfold Ahd at a ⊢
   omega
theorem Pass.nextK (p : Pass G q n Y m H1 i k m H2 mo) : Pass G q n Y m H1 i (k + 1) 0 H2 mo :=
 ⟨p.so, p.le, p.lt, fun e => ⟨(p.same e).1, fun i' k' t' h1 h2 h3 a h4 => (p.same e).2 i' k' t' h1 h2 h3 (by unfold Ahd at a ⊢; omega) h4⟩⟩
theorem Pass.nextI (p : Pass G q n Y m H1 i (Y i).length 0 H2 mo) : Pass G q n Y m H1 (i + 1) 0 0 H2 mo :=
 ⟨p.so, p.le, p.lt, fun e => ⟨(p.same e).1, fun i' k' t' h1 h2 h3 a h4 => (p.same e).2 i' k' t' h1 h2 h3 (by
  unfold Ahd at a ⊢
  by_cases c : i' = i
  ·subst c
   omega
  ·omega) h4⟩⟩
theorem Pass.full (D : Done G q) (hv : checkN G = 0) (hn : n = q.1.length) (hm : m = G.terms.length + 1) (hY : ∀ i, i < q.1.length -> ∀ x, x ∈ Y i ↔ Clo G (zAG q.1 i) x) (p : Pass G q n Y m H1 n 0 0 H2 false) : ∀ i x t, H2 i x t = true ↔ La G q i x t := by
 obtain ⟨e1, e2⟩ := p.same rfl
 subst hn hm
 rw [e1]
 refine zSA D hv hY (e1 ▸ p.so) fun i x t hi hx h0 h1 h => ?_
 obtain ⟨k, hk, rfl⟩ := List.getElem_of_mem hx
 obtain ⟨t, rfl⟩ := Int.eq_ofNat_of_zero_le h0
 exact e2 i k t hi hk (by omega) (.inl hi) h
end
end Lk
namespace Au
open Go.RowKit Go.Maps
open Gr (Gram Sh Bx)
open Im
def mkSt (ks : List (List Itm)) (ts : List (List (Int × Int))) : List Sta := (List.range ks.length).map fun j => (zAG ks j, ts.getD j [])
theorem zAQ (ks : List (List Itm)) (ts : List (List (Int × Int))) : (mkSt ks ts).length = ks.length := by simp [mkSt]
theorem zBP {ks : List (List Itm)} {ts : List (List (Int × Int))} {i : Nat} (h : i < (mkSt ks ts).length) (h' : i < ks.length) : (mkSt ks ts)[i] = (ks[i], ts.getD i []) := by
 simp only [mkSt, List.getElem_map, List.getElem_range, zAl h']
theorem zKt {ks : List (List Itm)} {ts : List (List (Int × Int))} (h : ts.length <= ks.length) (K : List Itm) : mkSt (ks ++ [K]) ts = mkSt ks ts ++ [(K, [])] := by
 refine List.ext_getElem (by simp [zAQ]) fun i h1 h2 => ?_
 rw [zAQ, List.length_append, List.length_singleton] at h1
 rw [zBP _ (by simp; omega)]
 by_cases hi : i < ks.length
 ·have hi' : i < (mkSt ks ts).length := by rw [zAQ]; exact hi
  rw [List.getElem_append_left hi, List.getElem_append_left hi', zBP _ hi]
 ·obtain rfl : i = ks.length := by omega
  have hn : (mkSt ks ts).length <= ks.length := by rw [zAQ]; exact Nat.le_refl _
  rw [List.getElem_append_right (Nat.le_refl _), List.getElem_append_right hn]
  simp only [zAQ, Nat.sub_self, List.getElem_cons_zero]
  rw [List.getD_eq_getElem?_getD, List.getElem?_eq_none h]
  rfl
theorem zPL {ks : List (List Itm)} {ts : List (List (Int × Int))} (h : ts.length < ks.length) (tr : List (Int × Int)) : mkSt ks (ts ++ [tr]) = (mkSt ks ts).set ts.length (ks[ts.length], tr) := by
 refine List.ext_getElem (by simp [zAQ]) fun i h1 h2 => ?_
 rw [zAQ] at h1
 rw [zBP _ h1, List.getElem_set]
 by_cases hi : ts.length = i
 ·subst hi
  rw [if_pos rfl, List.getD_eq_getElem?_getD, List.getElem?_append_right (Nat.le_refl _)]
  simp
 ·rw [if_neg hi, zBP _ h1, List.getD_eq_getElem?_getD, List.getD_eq_getElem?_getD]
  rcases Nat.lt_trichotomy i ts.length with q | q | q
  ·rw [List.getElem?_append_left q]
  ·exact absurd q.symm hi
  ·rw [List.getElem?_eq_none (by simp; omega), List.getElem?_eq_none (by omega)]
theorem zKn {q : Whole} (h : q.2.length = q.1.length) : mkSt q.1 q.2 = states q := by
 refine List.ext_getElem (by rw [zAQ, zAo h]) fun i h1 h2 => ?_
 rw [zAQ] at h1
 have e := zBk h h1
 rw [List.getElem?_eq_getElem h2, Option.some.injEq] at e
 rw [e, zBP _ h1, zAl h1]
theorem zR4 {ks : List (List Itm)} {ts : List (List (Int × Int))} {K : List Itm} (hn : ks.Nodup) (h : K ∈ ks) : zIB (mkSt ks ts) K = (ks.idxOf K : Int) := by
 have hl := List.idxOf_lt_length_of_mem h
 refine zGa (k := ks.idxOf K) (fun j hj hlt e => ?_) (by rw [zAQ]; exact hl) ?_
 ·rw [zAQ] at hj
  rw [zBP _ hj] at e
  have e' : ks[j] = K := e
  have := hn.idxOf_getElem j hj
  rw [e'] at this
  omega
 ·rw [zBP _ hl]
  exact List.getElem_idxOf hl
theorem zRy {ks : List (List Itm)} {ts : List (List (Int × Int))} {K : List Itm} (h : K ∉ ks) : zIB (mkSt ks ts) K = -1 := by
 refine zGb (k := (mkSt ks ts).length) (fun j hj _ e => ?_) (Nat.lt_irrefl _)
 rw [zAQ] at hj
 rw [zBP _ hj] at e
 exact h (e ▸ List.getElem_mem hj)
theorem zNf {ks : List (List Itm)} {ts : List (List (Int × Int))} (h : ks.length <= 1000000) (h1 : ∀ k ∈ ks, k.length <= 1000000) (h2 : ∀ t ∈ ts, t.length <= 1000000) : Small (mkSt ks ts) := by
 refine ⟨by rw [zAQ]; exact h, fun s hs => ?_, fun s hs => ?_⟩
 ·obtain ⟨i, hi, rfl⟩ := List.mem_iff_getElem.1 hs
  rw [zBP hi (by rw [zAQ] at hi; exact hi)]
  exact h1 _ (List.getElem_mem _)
 ·obtain ⟨i, hi, rfl⟩ := List.mem_iff_getElem.1 hs
  rw [zBP hi (by rw [zAQ] at hi; exact hi)]
  dsimp only
  rw [List.getD_eq_getElem?_getD]
  cases e : ts[i]? with
  | none => simp
  | some t => exact h2 t (List.mem_of_getElem? e)
def L2 (Y : List Itm) (u v5 v8 : Value) (w : World) : Prop := ∃ a c, u = .slice a Y.length c /\ Y.length <= c /\ ItsA a Y w /\ (Y ≠ [] -> ∀ b o, a = some ⟨b, o, none⟩ -> v5.ownBlock ≠ some b /\ v8.ownBlock ≠ some b)
theorem L2.one {Y : List Itm} {u v5 v8 : Value} {w : World} (h : L2 Y u v5 v8 w) : LOk Y u v5 w := by
 obtain ⟨a, c, h1, h2, h3, h4⟩ := h
 exact ⟨a, c, h1, h2, h3, fun hn b o e => (h4 hn b o e).1⟩
theorem L2.to {Y : List Itm} {u v5 v8 v5' v8' : Value} {w w' : World} (h : L2 Y u v5 v8 w) (hb : ∀ b, b < w.heap.size -> v5.ownBlock ≠ some b -> v8.ownBlock ≠ some b -> w'.heap[b]? = w.heap[b]?)
  (hv : ∀ b, b < w.heap.size -> v5.ownBlock ≠ some b -> v8.ownBlock ≠ some b -> v5'.ownBlock ≠ some b /\ v8'.ownBlock ≠ some b) : L2 Y u v5' v8' w' := by
 obtain ⟨a, c, h1, h2, h3, h4⟩ := h
 by_cases hn : Y = []
 ·subst hn
  exact ⟨a, c, h1, h2, .nil _ _, fun q => absurd rfl q⟩
 ·exact ⟨a, c, h1, h2, h3.keep fun b o e => hb b (zDM h3 hn e) (h4 hn b o e).1 (h4 hn b o e).2, fun _ b o e => hv b (zDM h3 hn e) (h4 hn b o e).1 (h4 hn b o e).2⟩
theorem L2.went {Y : List Itm} {u v5 v8 : Value} {w w' : World} (h : L2 Y u v5 v8 w) (hb : Below w.heap.size w w') : L2 Y u v5 v8 w' := h.to (fun b hl _ _ => hb.block b hl) fun _ _ p q => ⟨p, q⟩
theorem zHp {v v' : Value} {m : Nat} (hv : v'.ownBlock = v.ownBlock \/ v'.ownBlock = some m) {b : Nat} (hb : b < m) (h : v.ownBlock ≠ some b) : v'.ownBlock ≠ some b := fun e => by
 rcases hv with q | q
 ·exact h (q.symm.trans e)
 ·rw [q] at e
  injection e with e
  omega
theorem L2.grow5 {Y : List Itm} {u v5 v8 v5' : Value} {w w' : World} (h : L2 Y u v5 v8 w) (hg : w.grownBy w' v5.ownBlock) (hv : v5'.ownBlock = v5.ownBlock \/ v5'.ownBlock = some w.heap.size) : L2 Y u v5' v8 w' :=
 h.to (fun b hl p _ => hg.block b hl fun e => p e.symm) fun b hl p q => ⟨zHp hv hl p, q⟩
theorem L2.grow8 {Y : List Itm} {u v5 v8 v8' : Value} {w w' : World} (h : L2 Y u v5 v8 w) (hg : w.grownBy w' v8.ownBlock) (hv : v8'.ownBlock = v8.ownBlock \/ v8'.ownBlock = some w.heap.size) : L2 Y u v5 v8' w' :=
 h.to (fun b hl _ q => hg.block b hl fun e => q e.symm) fun b hl p q => ⟨p, zHp hv hl q⟩
structure RbH (TS TT : TypeId) (W : World) (h : Sh) (G : Gram) (ts : List (List (Int × Int))) (C : List Itm) (cv : Value) (p : Half) (v5 v8 : Value) (wr : World) : Prop where
 bx : Bx W h G wr
 sts : ∃ L : List StC, L.map Prod.fst = mkSt p.1 ts /\ wr.ownsRow (W.heap.size + 1) TS 2 v5 L.length (L.flatMap sc) /\ ∀ x ∈ L, L2 x.1.1 x.2.1 v5 v8 wr /\ L2 x.1.2 x.2.2 v5 v8 wr
 tr : ItsV TT (W.heap.size + 1) p.2 v8 wr
 off : ∀ g, v8.ownBlock = some g -> v5.ownBlock ≠ some g
 clo : L2 C cv v5 v8 wr
theorem RbH.went {TS TT : TypeId} {W : World} {h : Sh} {G : Gram} {ts : List (List (Int × Int))} {C : List Itm} {cv : Value} {p : Half} {v5 v8 : Value} {w w' : World} (k : RbH TS TT W h G ts C cv p v5 v8 w) (hb : Below w.heap.size w w') : RbH TS TT W h G ts C cv p v5 v8 w' := by
 obtain ⟨L, e, r, l⟩ := k.sts
 exact ⟨k.bx.went hb, ⟨L, e, Sep.zAC r fun g hg => hb.block g (r.lt g hg).2, fun x hx => ⟨(l x hx).1.went hb, (l x hx).2.went hb⟩⟩, k.tr.went hb, k.off, k.clo.went hb⟩
theorem RbH.at {TS TT : TypeId} {W : World} {h : Sh} {G : Gram} {ts : List (List (Int × Int))} {C : List Itm} {cv : Value} {p : Half} {v5 v8 : Value} {w : World} (k : RbH TS TT W h G ts C cv p v5 v8 w) : ∃ a c, v5 = .slice a p.1.length c /\ p.1.length <= c /\ StaA a (mkSt p.1 ts) w := by
 obtain ⟨L, e, r, l⟩ := k.sts
 have V : StV TS (W.heap.size + 1) L v5 w := ⟨r, fun x hx => ⟨(l x hx).1.one, (l x hx).2.one⟩⟩
 obtain ⟨a, c, e1, h1⟩ := V.len
 have hl : L.length = p.1.length := by
  have := congrArg List.length e
  rwa [List.length_map, zAQ] at this
 subst e1
 exact ⟨a, c, by rw [hl], by omega, e ▸ V.at⟩
theorem RbH.state {TS TT : TypeId} {W : World} {h : Sh} {G : Gram} {ts : List (List (Int × Int))} {C : List Itm} {cv : Value} {p : Half} {v5 v8 v5' : Value} {w w' : World} (k : RbH TS TT W h G ts C cv p v5 v8 w) (hts : ts.length <= p.1.length) {K : List Itm} {u : Value} (hu : L2 K u v5 v8 w)
  {L : List StC} (e : L.map Prod.fst = mkSt p.1 ts) (r : w.ownsRow (W.heap.size + 1) TS 2 v5 L.length (L.flatMap sc)) (l : ∀ x ∈ L, L2 x.1.1 x.2.1 v5 v8 w /\ L2 x.1.2 x.2.2 v5 v8 w)
  (hr : w'.ownsRow (W.heap.size + 1) TS 2 v5' (L.length + 1) (L.flatMap sc ++ [u, .slice none 0 0])) (hg : w.grownBy w' v5.ownBlock) (hv : v5'.ownBlock = v5.ownBlock \/ v5'.ownBlock = some w.heap.size) :
  RbH TS TT W h G ts C cv (p.1 ++ [K], p.2) v5' v8 w' := by
 have own5 : ∀ g, v5.ownBlock = some g -> W.heap.size + 1 <= g /\ g < w.heap.size := fun g hg' => r.lt g hg'
 have own8 : ∀ g, v8.ownBlock = some g -> W.heap.size + 1 <= g /\ g < w.heap.size := fun g hg' => World.ownsRow.lt k.tr g hg'
 refine ⟨k.bx.grown hg fun g q => (own5 g q).1, ⟨L ++ [((K, []), (u, .slice none 0 0))], ?_, ?_, fun x hx => ?_⟩, ?_, fun g q q5 => ?_, k.clo.grow5 hg hv⟩
 ·rw [List.map_append, e, zKt hts]
  rfl
 ·rw [List.length_append, List.flatMap_append]
  simpa [sc] using hr
 ·rcases List.mem_append.1 hx with q | q
  ·exact ⟨(l x q).1.grow5 hg hv, (l x q).2.grow5 hg hv⟩
  ·rw [List.mem_singleton] at q
   subst q
   exact ⟨hu.grow5 hg hv, none, 0, rfl, Nat.le_refl _, .nil _ _, fun q => absurd rfl q⟩
 ·refine k.tr.keep fun g q => hg.block g (own8 g q).2 fun e5 => k.off g q e5.symm
 ·exact zHp hv (own8 g q).2 (k.off g q) q5
theorem RbH.trans {TS TT : TypeId} {W : World} {h : Sh} {G : Gram} {ts : List (List (Int × Int))} {C : List Itm} {cv : Value} {p : Half} {v5 v8 v8' : Value} {w w' : World} (k : RbH TS TT W h G ts C cv p v5 v8 w) {s t : Int}
  (hr : w'.ownsRow (W.heap.size + 1) TT 2 v8' (p.2.length + 1) (p.2.flatMap ic ++ ic (s, t))) (hg : w.grownBy w' v8.ownBlock) (hv : v8'.ownBlock = v8.ownBlock \/ v8'.ownBlock = some w.heap.size) :
  RbH TS TT W h G ts C cv (p.1, p.2 ++ [(s, t)]) v5 v8' w' := by
 obtain ⟨L, e, r, l⟩ := k.sts
 have own8 : ∀ g, v8.ownBlock = some g -> W.heap.size + 1 <= g /\ g < w.heap.size := fun g hg' => World.ownsRow.lt k.tr g hg'
 refine ⟨k.bx.grown hg fun g q => (own8 g q).1, ⟨L, e, Sep.zAC r fun g q => hg.block g (r.lt g q).2 fun e8 => k.off g e8.symm q, fun x hx => ⟨(l x hx).1.grow8 hg hv, (l x hx).2.grow8 hg hv⟩⟩, ItsV.of_append (Y := [(s, t)]) (by simpa using hr) rfl rfl, fun g q q5 => ?_, k.clo.grow8 hg hv⟩
 rcases hv with a | a
 ·exact k.off g (a ▸ q) q5
 ·rw [a] at q
  injection q with q
  have := (r.lt g q5).2
  omega
structure RbR (TS : TypeId) (W : World) (h : Sh) (G : Gram) (q : Whole) (v5 : Value) (wr : World) : Prop where
 bx : Bx W h G wr
 sts : ∃ L : List StC, L.map Prod.fst = mkSt q.1 q.2 /\ StV TS (W.heap.size + 1) L v5 wr
theorem RbR.went {TS : TypeId} {W : World} {h : Sh} {G : Gram} {q : Whole} {v5 : Value} {w w' : World} (k : RbR TS W h G q v5 w) (hb : Below w.heap.size w w') : RbR TS W h G q v5 w' := by
 obtain ⟨L, e, V⟩ := k.sts
 exact ⟨k.bx.went hb, L, e, V.went hb⟩
theorem RbR.at {TS : TypeId} {W : World} {h : Sh} {G : Gram} {q : Whole} {v5 : Value} {w : World} (k : RbR TS W h G q v5 w) : ∃ a c, v5 = .slice a q.1.length c /\ q.1.length <= c /\ StaA a (mkSt q.1 q.2) w := by
 obtain ⟨L, e, V⟩ := k.sts
 obtain ⟨a, c, e1, h1⟩ := V.len
 have hl : L.length = q.1.length := by
  have := congrArg List.length e
  rwa [List.length_map, zAQ] at this
 subst e1
 exact ⟨a, c, by rw [hl], by omega, e ▸ V.at⟩
theorem RbR.lt {TS : TypeId} {W : World} {h : Sh} {G : Gram} {q : Whole} {v5 : Value} {w : World} (k : RbR TS W h G q v5 w) : ∀ g, v5.ownBlock = some g -> g < w.heap.size := fun g hg => by
 obtain ⟨L, e, V⟩ := k.sts
 exact (V.row.lt g hg).2
theorem RbR.begin {TS TT : TypeId} {W : World} {h : Sh} {G : Gram} {q : Whole} {v5 : Value} {w w' : World} (k : RbR TS W h G q v5 w) (hb : Below w.heap.size w w') {C : List Itm} {a : Option Addr} {c : Nat} (hc : C.length <= c) (hC : ItsA a C w') (hn : ∀ b o, a = some ⟨b, o, none⟩ -> w.heap.size <= b) :
  RbH TS TT W h G q.2 C (.slice a C.length c) (q.1, []) v5 (.slice none 0 0) w' := by
 obtain ⟨L, e, V⟩ := (k.went hb).sts
 refine ⟨k.bx.went hb, ⟨L, e, V.row, fun x hx => ?_⟩, ItsV.nil _ _ _, fun g q => by simp [Value.ownBlock] at q, a, c, rfl, hc, hC, fun _ b o e' => ⟨fun q => ?_, by simp [Value.ownBlock]⟩⟩
 ·have up : ∀ {Y : List Itm} {u : Value}, LOk Y u v5 w' -> L2 Y u v5 (.slice none 0 0) w' := fun {Y u} ⟨a, c, h1, h2, h3, h4⟩ => ⟨a, c, h1, h2, h3, fun hn b o e => ⟨h4 hn b o e, by simp [Value.ownBlock]⟩⟩
  exact ⟨up (V.lists x hx).1, up (V.lists x hx).2⟩
 ·have := k.lt b q
  have := hn b o e'
  omega
theorem RbH.put {TS TT : TypeId} {W : World} {h : Sh} {G : Gram} {ts : List (List (Int × Int))} {C : List Itm} {cv : Value} {p : Half} {g c : Nat} {v8 : Value} {w : World} (k : RbH TS TT W h G ts C cv p (.slice (some ⟨g, 0, none⟩) p.1.length c) v8 w) (hts : ts.length < p.1.length) :
  RbR TS W h G (p.1, ts ++ [p.2]) (.slice (some ⟨g, 0, none⟩) p.1.length c) (w.setCell ⟨g, ts.length * 2 + 1, none⟩ v8) /\ (∃ u, w.cell? ⟨g, ts.length * 2 + 1, none⟩ = some u) /\ w.frozen? ⟨g, ts.length * 2 + 1, none⟩ = false := by
 obtain ⟨L, e, r, l⟩ := k.sts
 have hl : L.length = p.1.length := by
  have := congrArg List.length e
  rwa [List.length_map, zAQ] at this
 have hi : ts.length < L.length := by omega
 rw [← hl] at r l ⊢
 have V : StV TS (W.heap.size + 1) L (.slice (some ⟨g, 0, none⟩) L.length c) w := ⟨r, fun x hx => ⟨(l x hx).1.one, (l x hx).2.one⟩⟩
 have hT : LOk p.2 v8 (.slice (some ⟨g, 0, none⟩) L.length c) w := by
  obtain ⟨a8, c8, e8, h8⟩ := k.tr.shape
  refine ⟨a8, c8, e8, h8, (e8 ▸ k.tr).reads, fun _ b o q q5 => ?_⟩
  have : (.slice (some ⟨g, 0, none⟩) p.1.length c : Value).ownBlock = some b := q5
  exact k.off b (by rw [e8, q]; rfl) this
 have hg : W.heap.size + 1 <= g := (r.lt g rfl).1
 have P := V.put hi hT
 refine ⟨⟨?_, _, ?_, P⟩, ?_, ?_⟩
 ·have f : Sep.Fr (· = g) w (w.setCell ⟨g, ts.length * 2 + 1, none⟩ v8) := (Sep.Fr.refl (fun k => k = g) w).setCell ⟨g, ts.length * 2 + 1, none⟩ rfl _
  have hn : ¬ W.heap.size = g := by omega
  exact ⟨k.bx.below.trans (f.below (fun i hi => by omega) k.bx.below.size), ⟨f.cell k.bx.box.x0 hn, f.cell k.bx.box.x1 hn, f.cell k.bx.box.x2 hn, f.cell k.bx.box.x3 hn⟩⟩
 ·rw [List.map_set, e, zPL hts]
  congr 2
  have e1 : (L.map Prod.fst)[ts.length]'(by simpa using hi) = (mkSt p.1 ts)[ts.length]'(by rw [zAQ]; exact hts) := by simp only [e]
  rw [List.getElem_map, zBP _ hts] at e1
  rw [e1]
 ·have := World.ownsRow.cells r (g := g) rfl (ts.length * 2 + 1) _ (Rw.zBy sc zDL L ts.length hi 1 (by omega))
  rw [WideShapes.add_plain] at this
  exact ⟨_, by simpa using this⟩
 ·rcases r.2 with ⟨q, _⟩ | ⟨g', cap, cur, q, _, hgg, _⟩
  ·simp at q
  ·simp only [Value.slice.injEq, Option.some.injEq, Addr.mk.injEq, and_true] at q
   obtain ⟨rfl, _⟩ := q
   simp [World.frozen?, hgg]
