/- A part of the proof. -/
import Derived.Test.YtbajcecncgdpmaaGreatDoorPk33
set_option linter.unusedVariables false
namespace Go.Proofs.YtbajcecncgdpmaaGreatDoor
namespace Au
open Gr (Gram checkN zAT zBA top)
open Im
theorem zEK {G : Gram} (hv : checkN G = 0) : top G <= 240 := by
 have h := (zAT hv).1
 unfold zBA at h
 simp only [Bool.or_eq_false_iff, decide_eq_false_iff_not] at h
 unfold top
 omega
structure Ent (G : Gram) (X : List Sta) : Prop where
 hv : checkN G = 0
 small : Small X
 len : X.length <= 2000
 right : ∀ s ∈ X, Srt s.1 /\ ∀ x ∈ s.1, zAG G x = true
 «to» : ∀ k (h : k < X.length) j (h' : j < X[k].2.length), ∃ n : Nat, X[k].2[j].2 = (n : Int) /\ ∃ hn : n < X.length, ∀ x ∈ X[n].1, zHC G X[k].2[j].1 x
 early : ∀ t, 0 < t -> t < X.length -> ∃ k, ∃ h : k < X.length, ∃ j, ∃ h' : j < X[k].2.length, k < t /\ X[k].2[j].2 = (t : Int)
 some : ∀ t (h : t < X.length), X[t].1 ≠ []
 spells : ∀ i (hi : i < X.length) (r : Int), Gr.zAN G r = true -> (Gr.zAB G r).2.length ≠ 0 -> Clo G X[i].1 (r, 0) -> ∃ j : Nat, ∃ hj : j < X.length, zEh X (i : Int) (Gr.zAB G r).2 = (j : Int) /\ (r, ((Gr.zAB G r).2.length : Int)) ∈ X[j].1
theorem zRK {G : Gram} {X : List Sta} (h : Built G 0 X) : Ent G X := by
 generalize he : (0 : Int) = e at h
 cases h with
 | bad hb => exact absurd he.symm hb
 | many _ _ _ => cases he
 | all hv hs hf =>
  rename_i n
  have D := hs.done hf
  generalize runs G (top G) n = q at *
  have hl := zBJ D.all
  have at1 : ∀ i (h : i < (states q).length), (states q)[i] = (zAF q.1 i, q.2.getD i []) := fun i h => by
   have := zCF D.all (i := i) (by omega)
   rw [List.getElem?_eq_getElem h, Option.some.injEq] at this
   exact this
  have good : ∀ s ∈ states q, s.1 ∈ q.1 := fun s hs => by
   obtain ⟨i, hi, rfl⟩ := List.mem_iff_getElem.1 hs
   rw [at1 i hi]
   exact zAf (by omega)
  have hr : ∀ s ∈ states q, Srt s.1 /\ ∀ x ∈ s.1, zAG G x = true := fun s hs => (D.ok.good _ (good s hs)).2
  refine ⟨hv, ⟨by omega, fun s hs => ?_, fun s hs => ?_⟩, by omega, hr, fun k h j h' => ?_, fun t h0 ht => ?_, fun t ht => ?_, fun i hi r hr h0 hx => ?_⟩
  ·have := Nat.le_trans (zCl (hr s hs).1 (hr s hs).2) (zAe hv)
   omega
  ·obtain ⟨i, hi, rfl⟩ := List.mem_iff_getElem.1 hs
   rw [at1 i hi]
   have hi2 : i < q.2.length := by rw [D.all]; omega
   rw [← zLs D.ok hi2]
   have := zLt q.2 (i : Int) (top G + 1)
   have := zEK hv
   dsimp only
   omega
  ·have hk : k < q.1.length := by omega
   have e2 : (states q)[k].2 = q.2.getD k [] := by rw [at1 k h]
   have hm : (states q)[k].2[j] ∈ q.2.getD k [] := by
    rw [← e2]
    exact List.getElem_mem h'
   obtain ⟨n, h1, h2, h3⟩ := D.enters hk (s := (states q)[k].2[j].1) (t := (states q)[k].2[j].2) hm
   refine ⟨n, h1, by omega, ?_⟩
   rw [at1 n (by omega)]
   exact h3
  ·obtain ⟨k, s, h1, h2⟩ := D.early h0 (by omega)
   have hk : k < (states q).length := by omega
   have e2 : (states q)[k].2 = q.2.getD k [] := by rw [at1 k hk]
   rw [← e2] at h2
   obtain ⟨j, hj, e⟩ := List.mem_iff_getElem.1 h2
   exact ⟨k, hk, j, hj, h1, by rw [e]⟩
  ·rw [at1 t ht]
   exact D.some (by omega)
  ·rw [at1 i hi] at hx
   obtain ⟨j, h1, h2, h3⟩ := D.spells hv (i := i) (by omega) hr h0 (((zEY _ _).2 _).2 hx)
   refine ⟨j, by omega, ?_, by rw [at1 j (by omega)]; exact h3⟩
   rw [← hl, zMc (fun i h => by rw [at1 i h])] at h2
   exact h2
theorem zQJ {G : Gram} {X : List Sta} {e : Int} (h : Built G e X) (he : e ≠ 0) : X = [] := by
 cases h with
 | bad _ => rfl
 | many _ _ _ => rfl
 | all _ _ _ => exact absurd rfl he
end Au
namespace Lk
open Go.RowKit Go.Maps
open Gr (Gram checkN)
open Im
open Au
def EndO (base : Nat) (Y : List (Nat × List Nat)) (v : Value) (w : World) (o : Option Nat) : Prop :=
 ∃ X : List Lkx, LksV base X v w /\ X.map (·.1) = Y.map (fun y => (y.1 : Int)) /\ (∀ k (h : k < X.length) (h' : k < Y.length), zJ6 base X[k] Y[k].2 w) /\ (∀ g, v.ownBlock = some g -> o ≠ some g) /\ ∀ k (h : k < X.length) (h' : k < Y.length), ∀ g, (lks X[k]).ownBlock = some g -> o ≠ some g
section
variable {base : Nat} {Y : List (Nat × List Nat)} {v : Value} {w w' : World} {o o' : Option Nat}
theorem EndO.endV (h : EndO base Y v w o) : EndV base Y v w := by
 obtain ⟨X, h1, h2, h3, _⟩ := h
 exact ⟨X, h1, h2, h3⟩
theorem EndV.endO (h : EndV base Y v w) (ho : ∀ g, o = some g -> g < base) : EndO base Y v w o := by
 obtain ⟨X, h1, h2, h3⟩ := h
 refine ⟨X, h1, h2, h3, fun g e e2 => ?_, fun k a b g e e2 => ?_⟩
 ·have p1 := (World.ownsRow.lt h1 g e).1
  have p2 := ho g e2
  omega
 ·have p1 := (World.ownsRow.lt (h3 k a b) g e).1
  have p2 := ho g e2
  omega
theorem EndO.mono {b' : Nat} (h : EndO base Y v w o) (hb : b' <= base) : EndO b' Y v w o := by
 obtain ⟨X, h1, h2, h3, h4⟩ := h
 exact ⟨X, Rw.zBG h1 hb, h2, fun k a b => Rw.zBG (h3 k a b) hb, h4⟩
theorem EndO.keep (h : EndO base Y v w o) (hg : w.grownBy w' o) : EndO base Y v w' o := by
 obtain ⟨X, h1, h2, h3, h4, h5⟩ := h
 exact ⟨X, Sep.zAE h1 fun g e => hg.block g (World.ownsRow.lt h1 g e).2 fun e2 => h4 g e e2.symm, h2, fun k a b => Sep.zAE (h3 k a b) fun g e => hg.block g (World.ownsRow.lt (h3 k a b) g e).2 fun e2 => h5 k a b g e e2.symm, h4, h5⟩
theorem EndO.went (h : EndO base Y v w o) (hb : Below w.heap.size w w') : EndO base Y v w' o := by
 obtain ⟨X, h1, h2, h3, h4⟩ := h
 exact ⟨X, Sep.zAE h1 fun g e => hb.block g (World.ownsRow.lt h1 g e).2, h2, fun k a b => Sep.zAE (h3 k a b) fun g e => hb.block g (World.ownsRow.lt (h3 k a b) g e).2, h4⟩
theorem EndO.turn (h : EndO base Y v w o) (ho : ∀ g, o' = some g -> w.heap.size <= g) : EndO base Y v w o' := by
 obtain ⟨X, h1, h2, h3, _⟩ := h
 refine ⟨X, h1, h2, h3, fun g e e2 => ?_, fun k a b g e e2 => ?_⟩
 ·have p1 := (World.ownsRow.lt h1 g e).2
  have p2 := ho g e2
  omega
 ·have p1 := (World.ownsRow.lt (h3 k a b) g e).2
  have p2 := ho g e2
  omega
end
theorem EndO.grow {base : Nat} {Y : List (Nat × List Nat)} {v : Value} {w w' : World} {o o' : Option Nat} (h : EndO base Y v w o) (hg : w.grownBy w' o) (hr : o' = o \/ ∀ g, o' = some g -> w.heap.size <= g) : EndO base Y v w' o' := by
 rcases hr with r | r
 ·rw [r]
  exact h.keep hg
 ·obtain ⟨X, h1, h2, h3, h4, h5⟩ := h
  refine ⟨X, Sep.zAE h1 fun g e => hg.block g (World.ownsRow.lt h1 g e).2 fun e2 => h4 g e e2.symm, h2, fun k a b => Sep.zAE (h3 k a b) fun g e => hg.block g (World.ownsRow.lt (h3 k a b) g e).2 fun e2 => h5 k a b g e e2.symm, fun g e e2 => ?_, fun k a b g e e2 => ?_⟩
  ·have p1 := (World.ownsRow.lt h1 g e).2
   have p2 := r g e2
   omega
  ·have p1 := (World.ownsRow.lt (h3 k a b) g e).2
   have p2 := r g e2
   omega
theorem zL2 (V : Nat -> Value) (i : Nat) (u : Value) : (List.range (i + 1)).map (upd V i u) = (List.range i).map V ++ [u] := by
 rw [List.range_succ, List.map_append, List.map_cons, List.map_nil, upd_same]
 congr 1
 refine List.map_congr_left fun k hk => zAC ?_
 have := List.mem_range.1 hk
 omega
structure LsI (G : Gram) (q : Whole) (base i : Nat) (V : Nat -> Value) (v : Value) (w : World) : Prop where
 row : w.ownsRow base 36 1 v i ((List.range i).map V)
 ends : ∀ k, k < i -> EndO base (zAY G q k) (V k) w v.ownBlock
theorem LsI.nil (G : Gram) (q : Whole) (base : Nat) (V : Nat -> Value) (w : World) : LsI G q base 0 V (.slice none 0 0) w := ⟨World.ownsRow_nil _ _ _ _, fun k hk => absurd hk (Nat.not_lt_zero k)⟩
theorem LsI.snoc {G : Gram} {q : Whole} {base i : Nat} {V : Nat -> Value} {v v' u : Value} {w w1 w2 : World} (h : LsI G q base i V v w) (hz : base <= w.heap.size) (hw : Below w.heap.size w w1) (hE : EndV w.heap.size (zAY G q i) u w1) (hown : w2.ownsRow base 36 1 v' (i + 1) ((List.range i).map V ++ [u])) (hg : w1.grownBy w2 v.ownBlock) (hv : v'.ownBlock = v.ownBlock \/ ∀ g, v'.ownBlock = some g -> w1.heap.size <= g) :
  LsI G q base (i + 1) (upd V i u) v' w2 := by
 refine ⟨by rw [zL2]; exact hown, fun k hk => ?_⟩
 have h1 : EndO base (zAY G q k) (upd V i u k) w1 v.ownBlock := by
  by_cases e : k = i
  ·subst e
   rw [upd_same]
   exact (hE.endO fun g e => (World.ownsRow.lt h.row g e).2).mono hz
  ·rw [zAC e]
   exact (h.ends k (by omega)).went hw
 exact h1.grow hg hv
def AllV (base : Nat) (Ys : List (List (Nat × List Nat))) (v : Value) (w : World) : Prop :=
 ∃ V : Nat -> Value, w.ownsRow base 36 1 v Ys.length ((List.range Ys.length).map V) /\ ∀ k (h : k < Ys.length), EndV base Ys[k] (V k) w
theorem LsI.all {G : Gram} {q : Whole} {base : Nat} {V : Nat -> Value} {v : Value} {w : World} (h : LsI G q base q.1.length V v w) : AllV base (zB2 G q) v w := by
 refine ⟨V, by rw [zAx]; exact h.row, fun k hk => ?_⟩
 have hk' : k < q.1.length := by rw [zAx] at hk; exact hk
 have e : (zB2 G q)[k] = zAY G q k := by simp [zB2]
 rw [e]
 exact (h.ends k hk').endV
theorem AllV.mono {b b' : Nat} {Ys : List (List (Nat × List Nat))} {v : Value} {w : World} (h : AllV b Ys v w) (hb : b' <= b) : AllV b' Ys v w := by
 obtain ⟨V, h1, h2⟩ := h
 exact ⟨V, Rw.zBG h1 hb, fun k hk => (h2 k hk).mono hb⟩
inductive LookIs (G : Gram) : Int -> List (List (Nat × List Nat)) -> Prop
 | bad {er : Int} : Built G er [] -> er ≠ 0 -> LookIs G er []
 | all {q : Whole} : checkN G = 0 -> Done G q -> q.1.length <= 2000 -> Built G 0 (states q) -> LookIs G 0 (zB2 G q)
def zMi (G : Gram) (w : World) (e : Ending) (w' : World) : Prop :=
 ∃ (er : Int) (Ys : List (List (Nat × List Nat))) (a : Option Addr) (c : Nat), e = .returned (.tuple #[.slice a Ys.length c, .int .i64 er]) /\ LookIs G er Ys /\ AllV w.heap.size Ys (.slice a Ys.length c) w' /\ Below w.heap.size w w'
theorem zDn {G : Gram} {X : List Sta} (h : Built G 0 X) : Small X := (zRK h).small
theorem zG7 {G : Gram} {er : Int} {X : List Sta} (h : Built G er X) : (er ≠ 0 /\ X = [] /\ Built G er []) \/ (er = 0 /\ checkN G = 0 /\ ∃ q, X = states q /\ Done G q /\ q.1.length <= 2000 /\ Built G 0 (states q)) := by
 cases h with
 | bad h1 => exact .inl ⟨h1, rfl, .bad h1⟩
 | many h1 h2 h3 => exact .inl ⟨by decide, rfl, .many h1 h2 h3⟩
 | all h1 h2 h3 => exact .inr ⟨rfl, h1, _, rfl, h2.done h3, by omega, .all h1 h2 h3⟩
structure OfI (W : World) (K : Fk) (G : Gram) (q : Whole) (S : Nat -> Prop) (i j : Nat) (L : List Itm) (N : Nt) (T : Nat -> Prop) (w : World) : Prop where
 at_ : NAt W K G q N T w
 fr : Sep.Fr S W w
 ext : Sep.Ext T S W
 lk : LkI G q N (2 * (i * 3000 + j))
 past : ∀ k, k < i -> ∀ x, Clo G (zAF q.1 k) x -> Lkd G q N k x
 here : ∀ x ∈ L.take j, Lkd G q N i x
section
variable {W : World} {K : Fk} {G : Gram} {q : Whole} {S T : Nat -> Prop} {i j : Nat} {L : List Itm} {N : Nt} {w w' : World}
theorem OfI.went (h : OfI W K G q S i j L N T w) (hb : Below w.heap.size w w') : OfI W K G q S i j L N T w' :=
 ⟨h.at_.went hb, h.fr.trans (.of_below hb) h.ext, h.ext, h.lk, h.past, h.here⟩
theorem OfI.open (h : OfI W K G q S i 0 [] N T w) (L : List Itm) : OfI W K G q S i 0 L N T w := ⟨h.at_, h.fr, h.ext, h.lk, h.past, fun x hx => by cases hx⟩
theorem OfI.next (h : OfI W K G q S i L.length L N T w) (hl : L.length <= 3000) (hm : ∀ x, Clo G (zAF q.1 i) x -> x ∈ L) : OfI W K G q S (i + 1) 0 [] N T w :=
 ⟨h.at_, h.fr, h.ext, h.lk.mono (by omega), fun k hk x hx => by
  by_cases e : k = i
  ·subst e
   exact h.here x (by rw [List.take_length]; exact hm x hx)
  ·exact h.past k (by omega) x hx, fun x hx => by cases hx⟩
end
end Lk
namespace Au
open Gr (Gram checkN zCr zCT plnS top ofN)
open Im
def cloS (G : Gram) (out : List Itm) : List Itm := out.foldl (fun o y => if behB G y then adds o (ofN G (behV G y)) else o) out
theorem zIM {G : Gram} {L : List Itm} : ∀ (l out : List Itm), Mid G L out -> (∀ y ∈ l, Clo G L y) -> Mid G L (l.foldl (fun o y => if behB G y then adds o (ofN G (behV G y)) else o) out)
 | [], out, h, _ => h
 | y :: l, out, h, k => by
  rw [List.foldl_cons]
  refine zIM l _ ?_ fun z hz => k z (List.mem_cons_of_mem _ hz)
  split
  ·rename_i hb
   exact h.adds (k y (List.mem_cons_self ..)) hb
  ·exact h
theorem zLW {G : Gram} {L out : List Itm} (h : Mid G L out) : Mid G L (cloS G out) := zIM out out h fun y hy => h.sub y hy
def cloN (G : Gram) : Nat -> List Itm -> List Itm
 | 0, out => out
 | n + 1, out => cloN G n (cloS G out)
theorem zE3 {G : Gram} {L : List Itm} : ∀ (n : Nat) (out : List Itm), Mid G L out -> Mid G L (cloN G n out)
 | 0, _, h => h
 | n + 1, _, h => zE3 n _ (zLW h)
def zRs (G : Gram) (out : List Itm) : Bool := out.all fun y => !behB G y || (ofN G (behV G y)).all fun r => decide (((r : Int), (0 : Int)) ∈ out)
theorem zHl {G : Gram} {out : List Itm} (h : zRs G out = true) : Im.Shut G out := fun y hy hb r hr => by
 have h1 := List.all_eq_true.1 h y hy
 rw [hb, Bool.not_true, Bool.false_or] at h1
 exact of_decide_eq_true (List.all_eq_true.1 h1 r hr)
def srtB (l : List Itm) : Bool := decide (l.Pairwise ltP)
theorem zIf {l : List Itm} (h : srtB l = true) : Srt l := of_decide_eq_true (p := l.Pairwise ltP) h
theorem zDt {G : Gram} {L : List Itm} (n : Nat) (h1 : srtB L = true) (h2 : (L.all fun x => zAG G x) = true) (h3 : zRs G (cloN G n L) = true) : Is (cloN G n L) (Clo G L) :=
 (zE3 n L (.start ⟨zIf h1, fun x => ⟨fun h => ⟨h, List.all_eq_true.1 h2 x h⟩, fun h => h.1⟩⟩)).done (zHl h3)
def zQO (G : Gram) (c : List Itm) (s : Nat) (p : Half) : Half :=
 if zAl G c s = [] then p else (if zAl G c s ∈ p.1 then p.1 else p.1 ++ [zAl G c s], p.2 ++ [((s : Int), ((p.1 ++ [zAl G c s]).idxOf (zAl G c s) : Int))])
def zE5 (G : Gram) (c : List Itm) : Nat -> Half -> Half
 | 0, p => p
 | n + 1, p => zQO G c (n + 1) (zE5 G c n p)
theorem zLo {G : Gram} {c : List Itm} (h : Srt c) (p : Half) : ∀ n, zCV G c n p = zE5 G c n p
 | 0 => rfl
 | n + 1 => by
  rw [zBj, zLo h p n]
  show oneS G c (n + 1) (zE5 G c n p) = zQO G c (n + 1) (zE5 G c n p)
  unfold oneS zQO
  rw [zIg h]
theorem zMA {G : Gram} {t : Nat} {q : Whole} {C : List Itm} (hq : q.2.length < q.1.length) (hC : Is C (Clo G q.1[q.2.length])) : rnd G t q = ((zE5 G C t (q.1, [])).1, q.2 ++ [(zE5 G C t (q.1, [])).2]) := by
 rw [zIZ hq, (zEY G q.1[q.2.length]).uniq hC, zLo hC.1]
def GB : Gram := { terms := [⟨#[65]⟩, ⟨#[66]⟩], nons := [⟨#[115]⟩], rules := [(3, [1, 3]), (3, [2])], start := 3 }
theorem zDZ : checkN GB = 0 := by
 refine zCr (by decide +kernel) ?_ (by decide +kernel) (by decide +kernel) (by decide +kernel) (by decide +kernel)
 have h1 : plnS ⟨#[65]⟩ = true := by decide +kernel
 have h2 : plnS ⟨#[66]⟩ = true := by decide +kernel
 have h3 : plnS ⟨#[115]⟩ = true := by decide +kernel
 simp [zCT, GB, h1, h2, h3]
abbrev k0 : List Itm := [(2, 0)]
abbrev k1 : List Itm := [(0, 1)]
abbrev k2 : List Itm := [(1, 1)]
abbrev k3 : List Itm := [(2, 1)]
abbrev k4 : List Itm := [(0, 2)]
abbrev t0 : List (Int × Int) := [(1, 1), (2, 2), (3, 3)]
abbrev t1 : List (Int × Int) := [(1, 1), (2, 2), (3, 4)]
theorem rb0 : runs GB (top GB) 0 = ([k0], []) := rfl
theorem rb1 : runs GB (top GB) 1 = ([k0, k1, k2, k3], [t0]) := by
 show rnd GB (top GB) (runs GB (top GB) 0) = _
 rw [rb0, zMA (by decide) (zDt (L := k0) 4 (by decide +kernel) (by decide +kernel) (by decide +kernel))]
 decide +kernel
theorem rb2 : runs GB (top GB) 2 = ([k0, k1, k2, k3, k4], [t0, t1]) := by
 show rnd GB (top GB) (runs GB (top GB) 1) = _
 rw [rb1, zMA (by decide) (zDt (L := k1) 4 (by decide +kernel) (by decide +kernel) (by decide +kernel))]
 decide +kernel
theorem rb3 : runs GB (top GB) 3 = ([k0, k1, k2, k3, k4], [t0, t1, []]) := by
 show rnd GB (top GB) (runs GB (top GB) 2) = _
 rw [rb2, zMA (by decide) (zDt (L := k2) 4 (by decide +kernel) (by decide +kernel) (by decide +kernel))]
 decide +kernel
theorem rb4 : runs GB (top GB) 4 = ([k0, k1, k2, k3, k4], [t0, t1, [], []]) := by
 show rnd GB (top GB) (runs GB (top GB) 3) = _
 rw [rb3, zMA (by decide) (zDt (L := k3) 4 (by decide +kernel) (by decide +kernel) (by decide +kernel))]
 decide +kernel
theorem rb5 : runs GB (top GB) 5 = ([k0, k1, k2, k3, k4], [t0, t1, [], [], []]) := by
 show rnd GB (top GB) (runs GB (top GB) 4) = _
 rw [rb4, zMA (by decide) (zDt (L := k4) 4 (by decide +kernel) (by decide +kernel) (by decide +kernel))]
 decide +kernel
def XB : List (List Itm × List (Int × Int)) := [(k0, t0), (k1, t1), (k2, []), (k3, []), (k4, [])]
theorem zKJ : Built GB 0 XB := by
 have h := Built.all (G := GB) (n := 5) zDZ ⟨.inr (by rw [rb5]; rfl), fun m hm => by
  have : m = 0 \/ m = 1 \/ m = 2 \/ m = 3 \/ m = 4 := by omega
  unfold Stop
  rcases this with rfl | rfl | rfl | rfl | rfl
  ·rw [rb0]; decide
  ·rw [rb1]; decide
  ·rw [rb2]; decide
  ·rw [rb3]; decide
  ·rw [rb4]; decide⟩ (by rw [rb5]; decide)
 rw [rb5] at h
 exact h
end Au
namespace Lk
open Gr (ofN)
open Im
open Au
theorem zJj {q r : Whole} (hq : q.2.length = q.1.length) (hr : r.2.length = r.1.length) (h : states q = states r) : q = r := by
 have h1 : q.1 = r.1 := by
  have := congrArg (List.map Prod.fst) h
  unfold states at this
  rwa [List.map_fst_zip (by omega), List.map_fst_zip (by omega)] at this
 have h2 : q.2 = r.2 := by
  have := congrArg (List.map Prod.snd) h
  unfold states at this
  rwa [List.map_snd_zip (by omega), List.map_snd_zip (by omega)] at this
 exact Prod.ext h1 h2
def qB : Whole := ([k0, k1, k2, k3, k4], [t0, t1, [], [], []])
theorem zPn {q : Whole} (h : Built GB 0 (states q)) (D : Done GB q) : q = qB := zJj D.all rfl ((h.uniq zKJ).2.trans rfl)
theorem zPp {x : Itm} (hx : zAG GB x = true) (hb : behB GB x = true) (ho : ofN GB (behV GB x) ≠ []) : zFn GB x = [] := by
 have hm := zBu hx
 have key : ∀ x ∈ allI GB, behB GB x = true -> ofN GB (behV GB x) ≠ [] -> zFn GB x = [] := by decide +kernel
 exact key x hm hb ho
theorem zKl (D : Done GB qB) {i : Nat} {x : Itm} {t : Int} (h : La GB qB i x t) : t = 0 := by
 induction h with
 | start => rfl
 | move _ _ _ ih => exact ih
 | opens h1 h2 h3 h4 ih =>
  rename_i i r x t u
  have hr := zPp (zAS (zLG D zDZ h1).2) h2 (fun e => by rw [e] at h3; cases h3)
  rw [hr, ih, List.nil_append] at h4
  have := (zA7 (G := GB) zDZ (t := 0) (.inl rfl) (l := []) (u := u)).1 h4
  rcases this with h5 | ⟨_, h5⟩
  ·obtain ⟨pre, y, post, e, _⟩ := h5
   simp at e
  ·exact h5
theorem zSX : La GB qB 2 (1, 1) 0 := by
 have h1 : La GB qB 0 (2, 0) 0 := .start
 have h2 : La GB qB 0 (1, 0) 0 := .opens (r := 1) h1 (by decide +kernel) (by decide +kernel) ((zA7 (G := GB) zDZ (.inl rfl)).2 (.inr ⟨(fun z hz => by cases hz), rfl⟩))
 exact .move (x := (1, 0)) h2 (by decide +kernel) (by decide +kernel)
open Classical in
theorem zRM (D : Done GB qB) : laL GB qB 2 (1, 1) = [0] := by
 unfold laL
 have h0 : decide (La GB qB 2 (1, 1) ((0 : Nat) : Int)) = true := decide_eq_true zSX
 have h1 : decide (La GB qB 2 (1, 1) ((1 : Nat) : Int)) = false := decide_eq_false fun h => by
  have := zKl D h
  omega
 have h2 : decide (La GB qB 2 (1, 1) ((2 : Nat) : Int)) = false := decide_eq_false fun h => by
  have := zKl D h
  omega
 show (List.range 3).filter _ = _
 rw [show List.range 3 = [0, 1, 2] from rfl]
 simp only [List.filter_cons, List.filter_nil, h0, h1, h2]
 rfl
open Classical in
theorem zKk (C : List Itm) {i : Nat} (h : Is C (Clo GB (zAF qB.1 i))) : zAY GB qB i = ((List.range 3).filter fun k => decide (endI GB k ∈ C)).map fun k => (k, laL GB qB i (endI GB k)) := by
 unfold zAY
 congr 1
 refine List.filter_congr fun k _ => ?_
 rw [Bool.eq_iff_iff, decide_eq_true_iff, decide_eq_true_iff, h.2]
theorem zRN (D : Done GB qB) : zAY GB qB 2 = [(1, [0])] := by
 rw [zKk _ (zDt (G := GB) (L := k2) 4 (by decide +kernel) (by decide +kernel) (by decide +kernel))]
 have e : ((List.range 3).filter fun k => decide (endI GB k ∈ cloN GB 4 k2)) = [1] := by decide +kernel
 rw [e, List.map_cons, List.map_nil]
 have e2 : endI GB 1 = (1, 1) := by decide +kernel
 rw [e2, zRM D]
theorem zPo : zAY GB qB 0 = [] := by
 rw [zKk _ (zDt (G := GB) (L := k0) 4 (by decide +kernel) (by decide +kernel) (by decide +kernel))]
 have e : ((List.range 3).filter fun k => decide (endI GB k ∈ cloN GB 4 k0)) = [] := by decide +kernel
 rw [e, List.map_nil]
theorem zNH {er : Int} {Ys : List (List (Nat × List Nat))} (h : LookIs GB er Ys) : er = 0 /\ ∃ h5 : Ys.length = 5, Ys[0] = [] /\ Ys[2] = [(1, [0])] := by
 cases h with
 | bad h1 h2 => exact absurd (h1.uniq zKJ).1 h2
 | all h1 h2 h3 h4 =>
  obtain rfl := zPn h4 h2
  refine ⟨rfl, by rw [zAx]; rfl, ?_, ?_⟩
  ·simp only [zB2, List.getElem_map, List.getElem_range]
   exact zPo
  ·simp only [zB2, List.getElem_map, List.getElem_range]
   exact zRN h2
end Lk
namespace Lk
open Gr (Gram checkN)
open Im
open Au
open Classical in
theorem zH7 {G : Gram} {q : Whole} {i : Nat} {C : List Itm} (h : Is C (Clo G (zAF q.1 i))) : endR G C = (zAY G q i).map fun y => (y.1 : Int) := by
 have key : ∀ a ∈ C, (!behB G a) = true -> ∃ k : Nat, k <= G.rules.length /\ a = endI G k := fun a ha hb => (zCe ((h.2 a).1 ha)).1 (by simpa using hb)
 refine zCh ?_ (zH9 G q i) fun z => ?_
 ·unfold endR
  refine List.pairwise_map.2 ((List.Pairwise.filter _ h.1).imp_of_mem fun {a b} ha hb hab => ?_)
  obtain ⟨a1, a2⟩ := List.mem_filter.1 ha
  obtain ⟨b1, b2⟩ := List.mem_filter.1 hb
  obtain ⟨k, _, rfl⟩ := key a a1 a2
  obtain ⟨m, _, rfl⟩ := key b b1 b2
  have hne : k ≠ m := fun e => by
   subst e
   exact hab.ne rfl
  unfold ltP endI at hab
  show ((k : Nat) : Int) < (m : Int)
  dsimp only at hab
  omega
 ·unfold endR zAY
  rw [List.map_map, List.mem_map, List.mem_map]
  constructor
  ·rintro ⟨x, hx, rfl⟩
   obtain ⟨h1, h2⟩ := List.mem_filter.1 hx
   obtain ⟨k, hk, rfl⟩ := key x h1 h2
   exact ⟨k, List.mem_filter.2 ⟨List.mem_range.2 (by omega), decide_eq_true ((h.2 _).1 h1)⟩, rfl⟩
  ·rintro ⟨k, hk, rfl⟩
   obtain ⟨h1, h2⟩ := List.mem_filter.1 hk
   have hc := of_decide_eq_true h2
   exact ⟨endI G k, List.mem_filter.2 ⟨(h.2 _).2 hc, by rw [(zCe hc).2 ⟨k, by have := List.mem_range.1 h1; omega, rfl⟩]; rfl⟩, rfl⟩
theorem zGQ {G : Gram} {C : List Itm} {k : Nat} (hk : k < C.length) : endR G (C.take (k + 1)) = endR G (C.take k) ++ (if behB G C[k] then [] else [C[k].1]) := by
 rw [List.take_succ_eq_append_getElem hk, zDv]
theorem zM9 {G : Gram} (C : List Itm) (k : Nat) : ∃ l, endR G C = endR G (C.take k) ++ l := by
 refine ⟨endR G (C.drop k), ?_⟩
 conv => lhs; rw [← List.take_append_drop k C]
 unfold endR
 rw [List.filter_append, List.map_append]
theorem zRJ {G : Gram} {q : Whole} {i : Nat} {C : List Itm} (h : Is C (Clo G (zAF q.1 i))) {k : Nat} (hk : k < C.length) (hb : behB G C[k] = false) :
  ∃ hl : (endR G (C.take k)).length < (zAY G q i).length, (((zAY G q i)[(endR G (C.take k)).length].1 : Nat) : Int) = C[k].1 := by
 have h1 := zH7 h
 obtain ⟨l, h2⟩ := zM9 (G := G) C (k + 1)
 rw [zGQ hk, hb] at h2
 have h3 : ((zAY G q i).map fun y => (y.1 : Int))[(endR G (C.take k)).length]? = some C[k].1 := by
  rw [← h1, h2]
  simp
 have hl : (endR G (C.take k)).length < (zAY G q i).length := by
  have := (List.getElem?_eq_some_iff.1 h3).1
  simpa using this
 refine ⟨hl, ?_⟩
 rw [List.getElem?_map, List.getElem?_eq_getElem hl] at h3
 injection h3
theorem zPi {G : Gram} {q : Whole} {i : Nat} {C : List Itm} (h : Is C (Clo G (zAF q.1 i))) : (endR G (C.take C.length)).length = (zAY G q i).length := by
 rw [List.take_length, zH7 h, List.length_map]
theorem zHv {G : Gram} {er : Int} {Ys : List (List (Nat × List Nat))} {fr : Int} {X : List Sta} (h : LookIs G er Ys) (k : Built G fr X) :
  er = fr /\ X.length = Ys.length /\ ∀ i (hi : i < Ys.length) (hx : i < X.length), ∃ q : Whole, checkN G = 0 /\ Done G q /\ i < q.1.length /\ X[i].1 = zAF q.1 i /\ Ys[i] = zAY G q i := by
 cases h with
 | bad h1 h2 =>
  obtain ⟨rfl, rfl⟩ := k.uniq h1
  exact ⟨rfl, rfl, fun i hi => absurd hi (Nat.not_lt_zero i)⟩
 | all h1 h2 h3 h4 =>
  rename_i q
  obtain ⟨rfl, rfl⟩ := k.uniq h4
  have hl := zBJ h2.all
  refine ⟨rfl, by rw [hl, zAx], fun i hi hx => ⟨q, h1, h2, by omega, ?_, by simp [zB2]⟩⟩
  have := zCF h2.all (i := i) (by omega)
  rw [List.getElem?_eq_getElem hx] at this
  injection this with this
  rw [this]
