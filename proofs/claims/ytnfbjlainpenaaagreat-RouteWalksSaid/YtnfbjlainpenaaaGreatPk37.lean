/- A part of the proof. -/
import Derived.Test.YtnfbjlainpenaaaGreatPk36
import Derived.Shelf.SlSortCmp.QuietGrown
import Derived.Deep.DeepCutAuto
set_option maxHeartbeats 2000000
set_option maxRecDepth 100000
set_option linter.unusedVariables false
namespace Go.Proofs.YtnfbjlainpenaaaGreat
namespace Au
open Gr (Gram checkN zAc zAv top)
open Im
theorem zBK {G : Gram} (hv : checkN G = 0) : top G <= 240 := by
 have h := (zAc hv).1
 unfold zAv at h
 simp only [Bool.or_eq_false_iff, decide_eq_false_iff_not] at h
 unfold top
 omega
structure Ent (G : Gram) (X : List Sta) : Prop where
 hv : checkN G = 0
 small : Small X
 len : X.length <= 2000
 right : ∀ s ∈ X, Srt s.1 /\ ∀ x ∈ s.1, zAC G x = true
 «to» : ∀ k (h : k < X.length) j (h' : j < X[k].2.length), ∃ n : Nat, X[k].2[j].2 = (n : Int) /\ ∃ hn : n < X.length, ∀ x ∈ X[n].1, zFC G X[k].2[j].1 x
 early : ∀ t, 0 < t -> t < X.length -> ∃ k, ∃ h : k < X.length, ∃ j, ∃ h' : j < X[k].2.length, k < t /\ X[k].2[j].2 = (t : Int)
 some : ∀ t (h : t < X.length), X[t].1 ≠ []
 spells : ∀ i (hi : i < X.length) (r : Int), Gr.zAQ G r = true -> (Gr.zAJ G r).2.length ≠ 0 -> Clo G X[i].1 (r, 0) -> ∃ j : Nat, ∃ hj : j < X.length, zA6 X (i : Int) (Gr.zAJ G r).2 = (j : Int) /\ (r, ((Gr.zAJ G r).2.length : Int)) ∈ X[j].1
theorem zMk {G : Gram} {X : List Sta} (h : Built G 0 X) : Ent G X := by
 generalize he : (0 : Int) = e at h
 cases h with
 | bad hb => exact absurd he.symm hb
 | many _ _ _ => cases he
 | all hv hs hf =>
  rename_i n
  have D := hs.done hf
  generalize runs G (top G) n = q at *
  have hl := zAp D.all
  have at1 : ∀ i (h : i < (states q).length), (states q)[i] = (zAE q.1 i, q.2.getD i []) := fun i h => by
   have := zBI D.all (i := i) (by omega)
   rw [List.getElem?_eq_getElem h, Option.some.injEq] at this
   exact this
  have good : ∀ s ∈ states q, s.1 ∈ q.1 := fun s hs => by
   obtain ⟨i, hi, rfl⟩ := List.mem_iff_getElem.1 hs
   rw [at1 i hi]
   exact zBH (by omega)
  have hr : ∀ s ∈ states q, Srt s.1 /\ ∀ x ∈ s.1, zAC G x = true := fun s hs => (D.ok.good _ (good s hs)).2
  refine ⟨hv, ⟨by omega, fun s hs => ?_, fun s hs => ?_⟩, by omega, hr, fun k h j h' => ?_, fun t h0 ht => ?_, fun t ht => ?_, fun i hi r hr h0 hx => ?_⟩
  ·have := Nat.le_trans (zBe (hr s hs).1 (hr s hs).2) (zAS hv)
   omega
  ·obtain ⟨i, hi, rfl⟩ := List.mem_iff_getElem.1 hs
   rw [at1 i hi]
   have hi2 : i < q.2.length := by rw [D.all]; omega
   rw [← zIt D.ok hi2]
   have := zIu q.2 (i : Int) (top G + 1)
   have := zBK hv
   dsimp only
   omega
  ·have hk : k < q.1.length := by omega
   have e2 : (states q)[k].2 = q.2.getD k [] := by rw [at1 k h]
   have hm : (states q)[k].2[j] ∈ q.2.getD k [] := by
    rw [← e2]
    exact List.getElem_mem h'
   obtain ⟨n, h1, h2, h3⟩ := D.enters hk (s := (states q)[k].2[j].1) (t := (states q)[k].2[j].2) hm
   refine ⟨n, h1, by omega, ?_⟩
   rw [at1 n (by omega)]
   exact h3
  ·obtain ⟨k, s, h1, h2⟩ := D.early h0 (by omega)
   have hk : k < (states q).length := by omega
   have e2 : (states q)[k].2 = q.2.getD k [] := by rw [at1 k hk]
   rw [← e2] at h2
   obtain ⟨j, hj, e⟩ := List.mem_iff_getElem.1 h2
   exact ⟨k, hk, j, hj, h1, by rw [e]⟩
  ·rw [at1 t ht]
   exact D.some (by omega)
  ·rw [at1 i hi] at hx
   obtain ⟨j, h1, h2, h3⟩ := D.spells hv (i := i) (by omega) hr h0 (((zEf _ _).2 _).2 hx)
   refine ⟨j, by omega, ?_, by rw [at1 j (by omega)]; exact h3⟩
   rw [← hl, zJZ (fun i h => by rw [at1 i h])] at h2
   exact h2
end Au
namespace Au
open Gr (Gram checkN zBX zBY plnS top ofN)
open Im
def cloS (G : Gram) (out : List Itm) : List Itm := out.foldl (fun o y => if behB G y then adds o (ofN G (behV G y)) else o) out
theorem zGC {G : Gram} {L : List Itm} : ∀ (l out : List Itm), Mid G L out -> (∀ y ∈ l, Clo G L y) -> Mid G L (l.foldl (fun o y => if behB G y then adds o (ofN G (behV G y)) else o) out)
 | [], out, h, _ => h
 | y :: l, out, h, k => by
  rw [List.foldl_cons]
  refine zGC l _ ?_ fun z hz => k z (List.mem_cons_of_mem _ hz)
  split
  ·rename_i hb
   exact h.adds (k y (List.mem_cons_self ..)) hb
  ·exact h
theorem zIf {G : Gram} {L out : List Itm} (h : Mid G L out) : Mid G L (cloS G out) := zGC out out h fun y hy => h.sub y hy
def cloN (G : Gram) : Nat -> List Itm -> List Itm
 | 0, out => out
 | n + 1, out => cloN G n (cloS G out)
theorem zDW {G : Gram} {L : List Itm} : ∀ (n : Nat) (out : List Itm), Mid G L out -> Mid G L (cloN G n out)
 | 0, _, h => h
 | n + 1, _, h => zDW n _ (zIf h)
def zM0 (G : Gram) (out : List Itm) : Bool := out.all fun y => !behB G y || (ofN G (behV G y)).all fun r => decide (((r : Int), (0 : Int)) ∈ out)
theorem zMJ {G : Gram} {out : List Itm} (h : zM0 G out = true) : Im.Shut G out := fun y hy hb r hr => by
 have h1 := List.all_eq_true.1 h y hy
 rw [hb, Bool.not_true, Bool.false_or] at h1
 exact of_decide_eq_true (List.all_eq_true.1 h1 r hr)
def srtB (l : List Itm) : Bool := decide (l.Pairwise ltP)
theorem zGT {l : List Itm} (h : srtB l = true) : Srt l := of_decide_eq_true (p := l.Pairwise ltP) h
theorem zEU {G : Gram} {L : List Itm} (n : Nat) (h1 : srtB L = true) (h2 : (L.all fun x => zAC G x) = true) (h3 : zM0 G (cloN G n L) = true) : Is (cloN G n L) (Clo G L) :=
 (zDW n L (.start ⟨zGT h1, fun x => ⟨fun h => ⟨h, List.all_eq_true.1 h2 x h⟩, fun h => h.1⟩⟩)).done (zMJ h3)
def zL5 (G : Gram) (c : List Itm) (s : Nat) (p : Half) : Half :=
 if zAb G c s = [] then p else (if zAb G c s ∈ p.1 then p.1 else p.1 ++ [zAb G c s], p.2 ++ [((s : Int), ((p.1 ++ [zAb G c s]).idxOf (zAb G c s) : Int))])
def zDZ (G : Gram) (c : List Itm) : Nat -> Half -> Half
 | 0, p => p
 | n + 1, p => zL5 G c (n + 1) (zDZ G c n p)
theorem zIs {G : Gram} {c : List Itm} (h : Srt c) (p : Half) : ∀ n, zAP G c n p = zDZ G c n p
 | 0 => rfl
 | n + 1 => by
  rw [zAx, zIs h p n]
  show oneS G c (n + 1) (zDZ G c n p) = zL5 G c (n + 1) (zDZ G c n p)
  unfold oneS zL5
  rw [zGU h]
theorem zJB {G : Gram} {t : Nat} {q : Whole} {C : List Itm} (hq : q.2.length < q.1.length) (hC : Is C (Clo G q.1[q.2.length])) : rnd G t q = ((zDZ G C t (q.1, [])).1, q.2 ++ [(zDZ G C t (q.1, [])).2]) := by
 rw [zEu hq, (zEf G q.1[q.2.length]).uniq hC, zIs hC.1]
def GB : Gram := { terms := [⟨#[65]⟩, ⟨#[66]⟩], nons := [⟨#[115]⟩], rules := [(3, [1, 3]), (3, [2])], start := 3 }
theorem zJz : checkN GB = 0 := by
 refine zBX (by decide +kernel) ?_ (by decide +kernel) (by decide +kernel) (by decide +kernel) (by decide +kernel)
 have h1 : plnS ⟨#[65]⟩ = true := by decide +kernel
 have h2 : plnS ⟨#[66]⟩ = true := by decide +kernel
 have h3 : plnS ⟨#[115]⟩ = true := by decide +kernel
 simp [zBY, GB, h1, h2, h3]
abbrev k0 : List Itm := [(2, 0)]
abbrev k1 : List Itm := [(0, 1)]
abbrev k2 : List Itm := [(1, 1)]
abbrev k3 : List Itm := [(2, 1)]
abbrev k4 : List Itm := [(0, 2)]
abbrev t0 : List (Int × Int) := [(1, 1), (2, 2), (3, 3)]
abbrev t1 : List (Int × Int) := [(1, 1), (2, 2), (3, 4)]
theorem rb0 : runs GB (top GB) 0 = ([k0], []) := rfl
theorem rb1 : runs GB (top GB) 1 = ([k0, k1, k2, k3], [t0]) := by
 show rnd GB (top GB) (runs GB (top GB) 0) = _
 rw [rb0, zJB (by decide) (zEU (L := k0) 4 (by decide +kernel) (by decide +kernel) (by decide +kernel))]
 decide +kernel
theorem rb2 : runs GB (top GB) 2 = ([k0, k1, k2, k3, k4], [t0, t1]) := by
 show rnd GB (top GB) (runs GB (top GB) 1) = _
 rw [rb1, zJB (by decide) (zEU (L := k1) 4 (by decide +kernel) (by decide +kernel) (by decide +kernel))]
 decide +kernel
theorem rb3 : runs GB (top GB) 3 = ([k0, k1, k2, k3, k4], [t0, t1, []]) := by
 show rnd GB (top GB) (runs GB (top GB) 2) = _
 rw [rb2, zJB (by decide) (zEU (L := k2) 4 (by decide +kernel) (by decide +kernel) (by decide +kernel))]
 decide +kernel
theorem rb4 : runs GB (top GB) 4 = ([k0, k1, k2, k3, k4], [t0, t1, [], []]) := by
 show rnd GB (top GB) (runs GB (top GB) 3) = _
 rw [rb3, zJB (by decide) (zEU (L := k3) 4 (by decide +kernel) (by decide +kernel) (by decide +kernel))]
 decide +kernel
theorem rb5 : runs GB (top GB) 5 = ([k0, k1, k2, k3, k4], [t0, t1, [], [], []]) := by
 show rnd GB (top GB) (runs GB (top GB) 4) = _
 rw [rb4, zJB (by decide) (zEU (L := k4) 4 (by decide +kernel) (by decide +kernel) (by decide +kernel))]
 decide +kernel
def XB : List (List Itm × List (Int × Int)) := [(k0, t0), (k1, t1), (k2, []), (k3, []), (k4, [])]
theorem zHn : Built GB 0 XB := by
 have h := Built.all (G := GB) (n := 5) zJz ⟨.inr (by rw [rb5]; rfl), fun m hm => by
  have : m = 0 \/ m = 1 \/ m = 2 \/ m = 3 \/ m = 4 := by omega
  unfold Stop
  rcases this with rfl | rfl | rfl | rfl | rfl
  ·rw [rb0]; decide
  ·rw [rb1]; decide
  ·rw [rb2]; decide
  ·rw [rb3]; decide
  ·rw [rb4]; decide⟩ (by rw [rb5]; decide)
 rw [rb5] at h
 exact h
end Au
namespace Au
open Go.RowKit Go.Maps
open Im
def zFE (X : List Sta) (K : List Itm) : Int := match X.findIdx? fun s => decide (s.1 = K) with | some i => (i : Int) | none => -1
def zGe (X : List Sta) (K : List Itm) (k : Nat) : Prop := ∀ j (h : j < X.length), j < k -> X[j].1 ≠ K
theorem zG8 (X : List Sta) (K : List Itm) : zGe X K 0 := fun _ _ h => absurd h (by omega)
theorem zG7 {X : List Sta} {K : List Itm} {k : Nat} (h : zGe X K k) (hk : k < X.length) (e : X[k].1 ≠ K) : zGe X K (k + 1) := fun j hj hl => by
 by_cases he : j = k
 ·subst he
  exact e
 ·exact h j hj (by omega)
theorem zEa {X : List Sta} {K : List Itm} {k : Nat} (h : zGe X K k) (hk : k < X.length) (e : X[k].1 = K) : zFE X K = (k : Int) := by
 have : X.findIdx? (fun s => decide (s.1 = K)) = some k := by
  rw [List.findIdx?_eq_some_iff_getElem]
  exact ⟨hk, decide_eq_true e, fun j hj => by simpa using h j (by omega) hj⟩
 unfold zFE
 rw [this]
theorem zEZ {X : List Sta} {K : List Itm} {k : Nat} (h : zGe X K k) (hk : ¬ k < X.length) : zFE X K = -1 := by
 have : X.findIdx? (fun s => decide (s.1 = K)) = none := by
  rw [List.findIdx?_eq_none_iff]
  intro x hx
  obtain ⟨j, hj, rfl⟩ := List.mem_iff_getElem.1 hx
  simpa using h j hj (by omega)
 unfold zFE
 rw [this]
end Au
namespace Au
open Go.RowKit Go.Maps
open Gr (zAH)
open Im
theorem zCw (X : List Sta) (K : List Itm) (a b : Option Addr) (c d : Nat) (w : World) (hX : StaA a X w) (sm : Small X) (hK : ItsA b K w) :
  Calls Tryz.prog 35 #[.slice a X.length c, .slice b K.length d] w (Gr.Is (.int .i64 (zFE X K)) w) := by
 have HX := zNR (fun w1 (b : Below w.heap.size w w1) => hX.went b)
 have HK := zNR (fun w1 (b : Below w.heap.size w w1) => hK.went b)
 have SM := zNR sm
 have hl := sm.len
 clear hX hK sm
 go_enter Tryz.func35, Tryz.ntmps35
 go_wp2
 go_loopw [5] (fun i wr => ∃ j : Nat, j <= X.length /\ i = .int .i64 j /\ zGe X K j /\ Below w.heap.size w wr) (fun i _ => X.length - (intOf i).toNat)
 case atStart => exact ⟨0, Nat.zero_le _, rfl, zG8 _ _, .refl _ _⟩
 case round =>
  obtain ⟨j, hj, rfl, hN, hW⟩ := hrel
  have N := zNR hN
  have HW := zNR hW
  clear hN
  by_cases hlt : j < X.length
  ·obtain ⟨b0, o0, a1, c1, a2, c2, rfl, z1, z2, i1, i2, l1, l2⟩ := HX.out wr hW j hlt
   have hs := SM.out.items _ (List.getElem_mem hlt)
   have NS := zNR (fun e => zG7 N.out hlt e)
   have NH := zNR (fun e => zEa N.out hlt e)
   have CL := zNR (zJC X[j].1 K a1 b c1 d wr i1 (HK.out wr hW) hs)
   generalize X[j] = s at *
   clear hW i1 i2 l1 l2 hs
   by_cases he : s.1 = K
   ·have E := zNR (NH.out he)
    rw [decide_eq_true he] at CL
    clear NS NH he
    go_wp2_with (go_at_call 59; refine CL.out.mono ?_; rintro e w1 ⟨rfl, hb⟩; have HB := zNR (Gr.step HW.out hb); clear hb)
    go_ret
    exact ⟨zAH E.out, HB.out⟩
   ·have E := zNR (NS.out he)
    rw [decide_eq_false he] at CL
    clear NS NH he
    go_wp2_with (go_at_call 59; refine CL.out.mono ?_; rintro e w1 ⟨rfl, hb⟩; have HB := zNR (Gr.step HW.out hb); clear hb)
    go_roundw
    case rel => exact ⟨j + 1, by omega, by go_num, E.out, HB.out⟩
    case measure => simp [intOf]; omega
  ·have E := zNR (zEZ N.out hlt)
   clear hW
   go_wp2
   go_ret
   exact ⟨zAH E.out, HW.out⟩
end Au
namespace Im
open Go.RowKit Go.Maps
open Gr (Gram)
def Hs (G : Gram) (s : Int) (y : Itm) : Prop := behB G y = true /\ behV G y = s
def nx (y : Itm) : Itm := (y.1, y.2 + 1)
end Im
namespace Im
open Go.RowKit Go.Maps
theorem zC8 (w : World) : (Instr.buildSlice 50 0 #[]).run Tryz.prog w = .ok (.slice (some ⟨w.heap.size, 0, none⟩) 0 0) (w.alloc (.cells #[] 108)) := by kernel_rfl
theorem zB1 (w : World) (o : Obj) : (w.alloc o).heap[w.heap.size]? = some o := World.alloc_heap_new _ _
theorem zD3 {w : World} {o : Obj} {q : Nat} (h : q = w.heap.size) : (w.alloc o).heap[q]? = some o := by
 subst h
 exact zB1 _ _
theorem zD4 {w : World} {o o' : Obj} {q : Nat} (h : w.heap[q]? = some o') : (w.alloc o).heap[q]? = some o' := by
 rw [Below.heap_alloc _ _ _ (Array.getElem?_eq_some_iff.1 h).1]
 exact h
theorem zIZ {w : World} {base q : Nat} {x : Itm} (hq : w.heap[q]? = some (.cells #[.int .i64 x.1, .int .i64 x.2] 108 (0, 0))) (hb : base <= q) : w.ownsRow base 108 2 (.slice (some ⟨q, 0, none⟩) 1 1) 1 (ic x) :=
 ⟨by simp [ic], .inr ⟨q, 1, _, rfl, hb, hq, Nat.le_refl _, by unfold maxLen; omega, by simp, by simp [ic]⟩⟩
def inB (x : Itm) (E : List Itm) (k : Nat) : Bool := decide (x ∈ E.take k)
