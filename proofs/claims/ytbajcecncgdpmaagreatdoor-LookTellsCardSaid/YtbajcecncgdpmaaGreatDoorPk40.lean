/- A part of the proof. -/
import Derived.Test.YtbajcecncgdpmaaGreatDoorPk37
import Derived.ScopeJumps
import Derived.WalkMore
set_option maxHeartbeats 8000000
set_option maxRecDepth 100000
set_option linter.unusedVariables false
namespace Go.Proofs.YtbajcecncgdpmaaGreatDoor
open Go.RowKit Go.Maps
namespace Lk
open Gr (Gram checkN)
open Im
open Au
theorem zMN (G : Gram) (ks : List (List Itm)) (c : List Itm) : ∀ n : Nat, ((zAm G ks c n).map Prod.fst).Pairwise (· < ·)
 | 0 => List.Pairwise.nil
 | n + 1 => by
  rw [zAz, List.map_append, List.pairwise_append]
  refine ⟨zMN G ks c n, ?_, fun a ha b hb => ?_⟩
  ·split
   ·exact List.Pairwise.nil
   ·exact List.pairwise_singleton _ _
  ·obtain ⟨⟨s, t⟩, h1, rfl⟩ := List.mem_map.1 ha
   obtain ⟨m, hm, e, _⟩ := zAw.1 h1
   split at hb
   ·cases hb
   ·simp only [List.map_cons, List.map_nil, List.mem_singleton] at hb
    rw [hb, e]
    omega
theorem zKI {G : Gram} {q : Whole} (D : Done G q) {i : Nat} (hi : i < q.1.length) : (zBt q i).Nodup := by
 unfold zBt
 rw [D.ok.trans i (by rw [D.all]; exact hi)]
 exact (zMN _ _ _ _).imp fun h => Int.ne_of_lt h
theorem zDS {G : Gram} {q : Whole} (D : Done G q) (hv : checkN G = 0) {i : Nat} (hi : i < q.1.length) : (cloL G (zAG q.1 i) (zBt q i)).Nodup := by
 unfold cloL
 rw [List.nodup_append]
 refine ⟨zCW (D.ok.good _ (zAb hi)).2.1, ?_, fun a ha b hb e => ?_⟩
 ·refine List.pairwise_flatMap.2 ⟨fun s hs => ?_, (zKI D hi).imp fun {s1 s2} hne x hx y hy e => ?_⟩
  ·refine List.pairwise_map.2 ((zJ9 G s _).imp fun {a b} hab e => hab ?_)
   injection e with e
   omega
  ·obtain ⟨k1, h1, rfl⟩ := List.mem_map.1 hx
   obtain ⟨k2, h2, rfl⟩ := List.mem_map.1 hy
   injection e with e
   obtain rfl : k1 = k2 := by omega
   exact hne ((zBb.1 h1).2.symm.trans (zBb.1 h2).2)
 ·obtain ⟨s, hs, h2⟩ := List.mem_flatMap.1 hb
  obtain ⟨k, hk, rfl⟩ := List.mem_map.1 h2
  subst e
  obtain ⟨m, _, rfl, _⟩ := (zDy D hi).1 hs
  obtain ⟨k1, k2⟩ := zBb.1 hk
  by_cases h0 : i = 0
  ·subst h0
   rw [D.ok.zero, List.mem_singleton] at ha
   injection ha with ha
   rcases zA3 hv k1 with ⟨e1, e2⟩ | ⟨e1, _⟩
   ·rw [e2] at k2
    omega
   ·omega
  ·obtain ⟨i', x, _, hc, _, _, e⟩ := zG9 D (by omega) hi ha
   have := (zAL.1 (zAT hc)).2.1
   injection e with e1 e2
   omega
theorem zEm : ∀ {a b : List Int}, a.Pairwise (· < ·) -> b.Pairwise (· < ·) -> (∀ x, x ∈ a ↔ x ∈ b) -> a = b
 | [], [], _, _, _ => rfl
 | [], y :: b, _, _, h => absurd ((h y).2 (List.mem_cons_self ..)) (by simp)
 | x :: a, [], _, _, h => absurd ((h x).1 (List.mem_cons_self ..)) (by simp)
 | x :: a, y :: b, ha, hb, h => by
  have ha' := List.pairwise_cons.1 ha
  have hb' := List.pairwise_cons.1 hb
  have e : x = y := by
   rcases List.mem_cons.1 ((h x).1 (List.mem_cons_self ..)) with e | h1
   ·exact e
   ·rcases List.mem_cons.1 ((h y).2 (List.mem_cons_self ..)) with e | h2
    ·exact e.symm
    ·have := hb'.1 x h1
     have := ha'.1 y h2
     omega
  subst e
  refine congrArg _ (zEm ha'.2 hb'.2 fun z => ⟨fun hz => ?_, fun hz => ?_⟩)
  ·rcases List.mem_cons.1 ((h z).1 (List.mem_cons_of_mem _ hz)) with e | h1
   ·have := ha'.1 z hz
    omega
   ·exact h1
  ·rcases List.mem_cons.1 ((h z).2 (List.mem_cons_of_mem _ hz)) with e | h1
   ·have := hb'.1 z hz
    omega
   ·exact h1
def endR (G : Gram) (L : List Itm) : List Int := (L.filter fun x => !behB G x).map (·.1)
theorem zGq (G : Gram) (L : List Itm) (x : Itm) : endR G (L ++ [x]) = endR G L ++ (if behB G x then [] else [x.1]) := by
 unfold endR
 rw [List.filter_append, List.map_append]
 congr 1
 cases h : behB G x <;> simp [h]
theorem zPK (G : Gram) (L : List Itm) : (endR G L).length <= L.length := by
 unfold endR
 rw [List.length_map]
 exact List.length_filter_le _ _
theorem zOz {G : Gram} {q : Whole} (D : Done G q) (hv : checkN G = 0) {i : Nat} (hi : i < q.1.length) {z : Int} : z ∈ endR G (cloL G (zAG q.1 i) (zBt q i)) ↔ ∃ k : Nat, k <= G.rules.length /\ z = (k : Int) /\ Clo G (zAG q.1 i) (endI G k) := by
 unfold endR
 rw [List.mem_map]
 constructor
 ·rintro ⟨x, hx, rfl⟩
  obtain ⟨h1, h2⟩ := List.mem_filter.1 hx
  have hc := (zEg D hv hi x).1 h1
  obtain ⟨k, hk, e⟩ := (zDV hc).1 (by simpa using h2)
  exact ⟨k, hk, by rw [e]; rfl, e ▸ hc⟩
 ·rintro ⟨k, hk, rfl, hc⟩
  exact ⟨endI G k, List.mem_filter.2 ⟨(zEg D hv hi _).2 hc, by rw [(zDV hc).2 ⟨k, hk, rfl⟩]; rfl⟩, rfl⟩
theorem zJo {G : Gram} {q : Whole} (D : Done G q) (hv : checkN G = 0) {i : Nat} (hi : i < q.1.length) : (endR G (cloL G (zAG q.1 i) (zBt q i))).Nodup := by
 unfold endR
 refine List.pairwise_map.2 ((List.Pairwise.filter _ (zDS D hv hi)).imp_of_mem fun {a b} ha hb hab e => hab ?_)
 obtain ⟨a1, a2⟩ := List.mem_filter.1 ha
 obtain ⟨b1, b2⟩ := List.mem_filter.1 hb
 obtain ⟨k, _, e1⟩ := (zDV ((zEg D hv hi a).1 a1)).1 (by simpa using a2)
 obtain ⟨m, _, e2⟩ := (zDV ((zEg D hv hi b).1 b1)).1 (by simpa using b2)
 subst e1 e2
 have : ((k : Nat) : Int) = (m : Int) := e
 rw [show k = m by omega]
open Classical in
theorem zPc (G : Gram) (q : Whole) (i : Nat) : ((zAe G q i).map fun y => (y.1 : Int)).Pairwise (· < ·) := by
 unfold zAe
 rw [List.map_map]
 refine List.pairwise_map.2 ((List.Pairwise.filter _ List.pairwise_lt_range).imp fun {a b} h => ?_)
 show ((a : Nat) : Int) < (b : Int)
 omega
open Classical in
theorem zHk {G : Gram} {q : Whole} (D : Done G q) (hv : checkN G = 0) {i : Nat} (hi : i < q.1.length) {X Y : List Lkx} (hX : X.map (·.1) = endR G (cloL G (zAG q.1 i) (zBt q i))) (hp : Y.Perm X) (hs : Y.Pairwise (fun a b => ¬ b.1 < a.1)) :
  Y.map (·.1) = (zAe G q i).map fun y => (y.1 : Int) := by
 have hn : (Y.map (·.1)).Nodup := by
  refine (hp.map _).nodup_iff.2 ?_
  rw [hX]
  exact zJo D hv hi
 refine zEm ?_ (zPc G q i) fun z => ?_
 ·have h1 := List.pairwise_map.1 hn
  refine List.pairwise_map.2 (hs.imp₂ (fun {a b} h1 h2 => ?_) h1)
  have h2' : a.1 ≠ b.1 := h2
  omega
 ·rw [(hp.map _).mem_iff, hX, zOz D hv hi]
  unfold zAe
  rw [List.map_map, List.mem_map]
  constructor
  ·rintro ⟨k, h1, rfl, h2⟩
   exact ⟨k, List.mem_filter.2 ⟨List.mem_range.2 (by omega), decide_eq_true h2⟩, rfl⟩
  ·rintro ⟨k, h1, rfl⟩
   obtain ⟨h2, h3⟩ := List.mem_filter.1 h1
   exact ⟨k, by have := List.mem_range.1 h2; omega, rfl, of_decide_eq_true h3⟩
def zMs (base : Nat) (x : Lkx) (Y : List Nat) (w : World) : Prop := w.ownsRow base 3 1 (lks x) Y.length (nivs Y)
def EndV (base : Nat) (Y : List (Nat × List Nat)) (v : Value) (w : World) : Prop :=
 ∃ X : List Lkx, LksV base X v w /\ X.map (·.1) = Y.map (fun y => (y.1 : Int)) /\ ∀ k (h : k < X.length) (h' : k < Y.length), zMs base X[k] Y[k].2 w
structure EndI (G : Gram) (q : Whole) (i base : Nat) (L : List Itm) (X : List Lkx) (v : Value) (w : World) : Prop where
 row : LksV base X v w
 rules : X.map (·.1) = endR G L
 terms : ∀ x ∈ X, zMs base x (laL G q i (endI G x.1.toNat)) w
 off : ∀ x ∈ X, ∀ g, (lks x).ownBlock = some g -> v.ownBlock ≠ some g
theorem EndI.went {G : Gram} {q : Whole} {i base : Nat} {L : List Itm} {X : List Lkx} {v : Value} {w w' : World} (h : EndI G q i base L X v w) (hb : Below w.heap.size w w') : EndI G q i base L X v w' :=
 ⟨Sep.zAC h.row fun g hg => hb.block g (World.ownsRow.lt h.row g hg).2, h.rules, fun x hx => Sep.zAC (h.terms x hx) fun g hg => hb.block g (World.ownsRow.lt (h.terms x hx) g hg).2, h.off⟩
theorem EndI.nil (G : Gram) (q : Whole) (i base : Nat) (w : World) : EndI G q i base [] [] (.slice none 0 0) w := ⟨World.ownsRow_nil _ _ _ _, rfl, (fun x hx => by cases hx), (fun x hx => by cases hx)⟩
theorem EndI.skip {G : Gram} {q : Whole} {i base : Nat} {L : List Itm} {X : List Lkx} {v : Value} {w : World} (h : EndI G q i base L X v w) {x : Itm} (hx : behB G x = true) : EndI G q i base (L ++ [x]) X v w :=
 ⟨h.row, by rw [zGq, hx]; simpa using h.rules, h.terms, h.off⟩
theorem EndI.len {G : Gram} {q : Whole} {i base : Nat} {L : List Itm} {X : List Lkx} {v : Value} {w : World} (h : EndI G q i base L X v w) : X.length <= L.length := by
 have := congrArg List.length h.rules
 rw [List.length_map] at this
 rw [this]
 exact zPK G L
theorem EndI.snoc {G : Gram} {q : Whole} {i base : Nat} {L : List Itm} {X : List Lkx} {v v' : Value} {w w1 w2 : World} (h : EndI G q i base L X v w) {k : Nat} (hk : behB G (endI G k) = false) {y : Lkx} (hy : y.1 = (k : Int)) (hw : Below w.heap.size w w1) (hz : base <= w.heap.size)
  (hT : w1.ownsRow w.heap.size 3 1 (lks y) (laL G q i (endI G k)).length (nivs (laL G q i (endI G k)))) (hown : w2.ownsRow base 39 2 v' (X.length + 1) (X.flatMap lc ++ lc y)) (hg : w1.grownBy w2 v.ownBlock) (hv : v'.ownBlock = v.ownBlock \/ ∀ g, v'.ownBlock = some g -> w1.heap.size <= g) :
  EndI G q i base (L ++ [endI G k]) (X ++ [y]) v' w2 := by
 have hlt := fun g (e : (lks y).ownBlock = some g) => World.ownsRow.lt hT g e
 have hnew : ∀ g, (lks y).ownBlock = some g -> v.ownBlock ≠ some g := fun g e e2 => by
  have h1 := (World.ownsRow.lt h.row g e2).2
  have h2 := (hlt g e).1
  omega
 refine ⟨?_, ?_, fun x hx => ?_, fun x hx g e e2 => ?_⟩
 ·unfold LksV
  rw [List.length_append, List.flatMap_append]
  simpa using hown
 ·rw [List.map_append, h.rules, zGq, hk]
  simp [hy, endI]
 ·rcases List.mem_append.1 hx with hx | hx
  ·refine Sep.zAC (h.terms x hx) fun g e => ?_
   have hl := (World.ownsRow.lt (h.terms x hx) g e).2
   exact (hg.block g (Nat.lt_of_lt_of_le hl hw.size) fun e2 => h.off x hx g e e2.symm).trans (hw.block g hl)
  ·rw [List.mem_singleton] at hx
   subst hx
   unfold zMs
   rw [hy]
   refine Rw.zA7 (Sep.zAC hT fun g e => hg.block g (hlt g e).2 fun e2 => hnew g e e2.symm) hz
 ·have hl : g < w1.heap.size /\ v.ownBlock ≠ some g := by
   rcases List.mem_append.1 hx with hx | hx
   ·exact ⟨Nat.lt_of_lt_of_le (World.ownsRow.lt (h.terms x hx) g e).2 hw.size, h.off x hx g e⟩
   ·rw [List.mem_singleton] at hx
    subst hx
    exact ⟨(hlt g e).2, hnew g e⟩
  rcases hv with r | r
  ·exact hl.2 (r.symm.trans e2)
  ·have := r g e2
   omega
theorem EndI.sorted {G : Gram} {q : Whole} (D : Done G q) (hv : checkN G = 0) {i base : Nat} (hi : i < q.1.length) {X Y : List Lkx} {v : Value} {w w2 : World} (h : EndI G q i base (cloL G (zAG q.1 i) (zBt q i)) X v w) (hp : Y.Perm X) (hs : Y.Pairwise (fun a b => ¬ b.1 < a.1)) (hr : LksV base Y v w2) (hg : w.grownBy w2 v.ownBlock) :
  EndV base (zAe G q i) v w2 := by
 have hm := zHk D hv hi h.rules hp hs
 refine ⟨Y, hr, hm, fun k h1 h2 => ?_⟩
 have hx : Y[k] ∈ X := hp.mem_iff.1 (List.getElem_mem h1)
 have e1 : Y[k].1 = (((zAe G q i)[k]).1 : Int) := by
  have h3 : (Y.map (·.1))[k]? = ((zAe G q i).map fun y => (y.1 : Int))[k]? := by rw [hm]
  rw [List.getElem?_map, List.getElem?_map, List.getElem?_eq_getElem h1, List.getElem?_eq_getElem h2] at h3
  injection h3
 have e2 : ((zAe G q i)[k]).2 = laL G q i (endI G ((zAe G q i)[k]).1) := by
  have h3 := List.getElem_mem h2
  generalize (zAe G q i)[k] = z at h3
  unfold zAe at h3
  obtain ⟨k', _, rfl⟩ := List.mem_map.1 h3
  rfl
 have ht := h.terms _ hx
 rw [e1, Int.toNat_natCast, ← e2] at ht
 exact Sep.zAC ht fun g e => hg.block g (World.ownsRow.lt ht g e).2 fun e2 => h.off _ hx g e e2.symm
theorem EndV.went {base : Nat} {Y : List (Nat × List Nat)} {v : Value} {w w' : World} (h : EndV base Y v w) (hb : Below w.heap.size w w') : EndV base Y v w' := by
 obtain ⟨X, h1, h2, h3⟩ := h
 exact ⟨X, Sep.zAC h1 fun g hg => hb.block g (World.ownsRow.lt h1 g hg).2, h2, fun k a b => Sep.zAC (h3 k a b) fun g hg => hb.block g (World.ownsRow.lt (h3 k a b) g hg).2⟩
end Lk
namespace Lk
open Gr (Gram cell_later zAA boxed zAD top checkN)
open Im
open Au
open Fi (zAO allC canB fstB zBK zAj zBG zBn zB2)
theorem zNc {G : Gram} {l : List Int} {t : Int} : zAO (canB G) (fstB G) l t = true ↔ zB2 G l t := by
 rw [zBK]
 constructor
 ·rintro ⟨pre, y, post, h1, h2, h3⟩
  exact ⟨pre, y, post, h1, fun z hz => zAj.1 (h2 z hz), zBG.1 h3⟩
 ·rintro ⟨pre, y, post, h1, h2, h3⟩
  exact ⟨pre, y, post, h1, fun z hz => zAj.2 (h2 z hz), zBG.2 h3⟩
structure LkI (G : Gram) (q : Whole) (N : Nt) (cnt : Nat) : Prop where
 lk : Lk1 G q N
 frs : ∀ k, k < N.pls.length -> (∀ t, N.S k t = false) /\ N.Wt k = false
 qs : N.qs = []
 ys : ∀ k, k < N.pls.length -> (N.Ys k).length <= cnt
theorem LkI.mono {G : Gram} {q : Whole} {N : Nt} {c c' : Nat} (h : LkI G q N c) (hc : c <= c') : LkI G q N c' := ⟨h.lk, h.frs, h.qs, fun k hk => Nat.le_trans (h.ys k hk) hc⟩
theorem LkI.cell {G : Gram} {q : Whole} {N : Nt} {cnt : Nat} (h : LkI G q N cnt) {i : Nat} {c : Itm} (hn : (i, c) ∉ N.pls) (hi : i < q.1.length) (hc : rep G c = c) (hr : zAI G c = true) (d e : Nat) : LkI G q (N.cell (i, c) d e) cnt := by
 have hl : (N.cell (i, c) d e).pls.length = N.pls.length + 1 := by
  show (N.pls ++ [(i, c)]).length = _
  simp
 refine ⟨h.lk.cell hn hi hc hr d e, fun k hk => ?_, h.qs, fun k hk => ?_⟩
 ·rw [hl] at hk
  show (∀ t, upd N.S N.pls.length (fun _ => false) k t = false) /\ upd N.Wt N.pls.length false k = false
  by_cases e : k = N.pls.length
  ·subst e
   rw [upd_same, upd_same]
   exact ⟨fun _ => rfl, rfl⟩
  ·rw [zAB e, zAB e]
   exact h.frs k (by omega)
 ·rw [hl] at hk
  show (upd N.Ys N.pls.length [] k).length <= cnt
  by_cases e : k = N.pls.length
  ·subst e
   rw [upd_same]
   exact Nat.zero_le _
  ·rw [zAB e]
   exact h.ys k (by omega)
theorem LkI.lead {G : Gram} {q : Whole} {N : Nt} {cnt : Nat} (h : LkI G q N cnt) {k i : Nat} {x : Itm} (hk : N.pls[k]? = some (i, rep G x)) (hx : Clo G (zAG q.1 i) x) (hb : behB G x = true) {y : Way} (hy : zG6 G q N.pls i x y) (v : Value) : LkI G q (N.lead k y v) (cnt + 1) := by
 refine ⟨h.lk.lead hk hx hb hy v, h.frs, h.qs, fun a ha => ?_⟩
 show (upd N.Ys k (N.Ys k ++ [y]) a).length <= cnt + 1
 by_cases e : a = k
 ·subst e
  rw [upd_same, List.length_append]
  have := h.ys a ha
  simp
  omega
 ·rw [zAB e]
  exact Nat.le_succ_of_le (h.ys a ha)
theorem LkI.of_cell {G : Gram} {q : Whole} {N M : Nt} {cnt : Nat} (h : LkI G q N cnt) {i : Nat} {X : Itm} (hi : i < q.1.length) (hc : rep G X = X) (hr : zAI G X = true) {P : Prop} (hM : ((i, X) ∈ N.pls /\ M = N /\ P) \/ ((i, X) ∉ N.pls /\ ∃ d e, M = N.cell (i, X) d e)) : LkI G q M cnt /\ Gro N M := by
 rcases hM with ⟨_, rfl, _⟩ | ⟨hn, d, e, rfl⟩
 ·exact ⟨h, .refl _⟩
 ·exact ⟨h.cell hn hi hc hr d e, N.cell_gro _ d e⟩
theorem zBW {G : Gram} (hv : checkN G = 0) {q : Whole} {N : Nt} (h : Lk1 G q N) (hq : q.1.length <= 2000) : N.pls.length <= 6000000 := by
 have h1 := h.len (A := allI G) (fun x hx => zCD hx)
 have h2 := zAW hv
 have : q.1.length * (allI G).length <= 2000 * 2709 := Nat.mul_le_mul hq h2
 omega
def ovW (k : Nat) : Way := ⟨.pointer none, fun _ => false, true, k⟩
noncomputable def inW (K : Fk) (G : Gram) (r d k : Nat) : Way := ⟨.pointer (some ⟨K.tP r d, 0, none⟩), zL9 G r d, zQW G r d, k⟩
theorem zTm (K : Fk) (G : Gram) (k : Nat) : YOk K G (ovW k) := .inl ⟨rfl, rfl⟩
theorem zT8 (K : Fk) (G : Gram) {r d : Nat} (hr : r <= G.rules.length) (hd : d < (zAD G (r : Int)).2.length) (k : Nat) : YOk K G (inW K G r d k) := .inr ⟨r, d, hr, hd, rfl, rfl⟩
theorem zQ9 (k : Nat) : (ovW k).Ov := ⟨rfl, fun _ => rfl⟩
theorem zSq (K : Fk) (G : Gram) (r d k : Nat) : (inW K G r d k).In G ((r : Int), (d : Int)) := by
 have e : zEh G ((r : Int), (d : Int)) = (zAD G (r : Int)).2.drop (d + 1) := by
  unfold zEh
  dsimp only
  congr 1
 refine ⟨?_, fun u => ?_⟩
 ·rw [e]
  show allC (canB G) ((zAD G (r : Int)).2.drop (d + 1)) = true ↔ _
  rw [zBn]
  exact ⟨fun h z hz => zAj.1 (h z hz), fun h z hz => zAj.2 (h z hz)⟩
 ·rw [e]
  show (decide (u < G.terms.length + 1) && zAO (canB G) (fstB G) ((zAD G (r : Int)).2.drop (d + 1)) (u : Int)) = true ↔ _
  rw [Bool.and_eq_true, decide_eq_true_iff, zNc]
  refine ⟨fun h => h.2, fun h => ⟨?_, h⟩⟩
  have := Fi.zBA h
  omega
structure LS (W : World) (K : Fk) (G : Gram) (q : Whole) (S : Nat -> Prop) (w0 : World) (r d : Int) (N : Nt) (T : Nat -> Prop) (w : World) : Prop where
 at_ : NAt W K G q N T w
 x0 : w.cell? ⟨w0.heap.size, 0, none⟩ = some (.int .i64 r)
 x1 : w.cell? ⟨w0.heap.size, 1, none⟩ = some (.int .i64 d)
 off : ¬ T w0.heap.size
 lt : w0.heap.size < w.heap.size
 fr : Sep.Fr S w0 w
 ext : Sep.Ext T S w0
section
variable {W : World} {K : Fk} {G : Gram} {q : Whole} {S : Nat -> Prop} {w0 : World} {r d : Int} {N M : Nt} {T U : Nat -> Prop} {w w' : World}
theorem LS.start (h : NAt W K G q N S w0) (r d : Int) (Ty : TypeId) : LS W K G q S w0 r d N S (w0.alloc (.cells #[.int .i64 r, .int .i64 d] Ty)) :=
 ⟨h.went (boxed _ _), zAA rfl rfl, zAA rfl rfl, fun e => Nat.lt_irrefl _ (h.inn _ e), by simp, .of_below (boxed _ _), .refl _ _⟩
theorem LS.went (h : LS W K G q S w0 r d N T w) (hb : Below w.heap.size w w') : LS W K G q S w0 r d N T w' :=
 ⟨h.at_.went hb, cell_later hb h.x0, cell_later hb h.x1, h.off, Nat.lt_of_lt_of_le h.lt hb.size, h.fr.trans (.of_below hb) h.ext, h.ext⟩
theorem LS.turn (h : LS W K G q S w0 r d N T w) (hM : NAt W K G q M U w') (f : Sep.Fr T w w') (x : Sep.Ext U T w) : LS W K G q S w0 r d M U w' :=
 ⟨hM, f.cell h.x0 h.off, f.cell h.x1 h.off, fun e => by
  rcases x _ e with e | e
  ·exact h.off e
  ·have := h.lt
   omega, Nat.lt_of_lt_of_le h.lt f.size, h.fr.trans f h.ext, h.ext.trans x h.fr.size⟩
theorem LS.fix (h : LS W K G q S w0 r d N T w) (FX : Fix W K G q) : FixAt K G q w := FX.at_ w h.at_.fr
theorem LS.eight (h : LS W K G q S w0 r d N T w) : w.cell? ⟨K.p, 0, none⟩ = some (.slice K.aS (states q).length K.cS) /\ w.cell? ⟨K.p, 2, none⟩ = some (.slice (some ⟨K.bR, 0, none⟩) (G.rules.length + 1) K.cR) /\ w.cell? ⟨K.p, 3, none⟩ = some (.slice (some ⟨K.bB, 0, none⟩) (top G + 1) K.cB) /\ w.cell? ⟨K.p, 4, none⟩ = some (.slice (some ⟨K.bT, 0, none⟩) (G.rules.length + 1) K.cT) := by
 obtain ⟨lab, cv, qv, k, _⟩ := h.at_
 obtain ⟨h0, _, h2, h3, h4, _⟩ := k.eight
 exact ⟨h0, h2, h3, h4⟩
end
def Linked (W : World) (K : Fk) (G : Gram) (q : Whole) (N : Nt) (cnt : Nat) (i : Nat) (x : Itm) (S : Nat -> Prop) (w : World) (e : Ending) (w' : World) : Prop :=
 e = .returned (.tuple #[]) /\ ∃ M T, NAt W K G q M T w' /\ Sep.Fr S w w' /\ Sep.Ext T S w /\ LkI G q M (cnt + 2) /\ Gro N M /\ Lkd G q M i x
end Lk
namespace Lk
open Gr (Gram zAD zAN checkN)
open Im
open Au
theorem zLg {G : Gram} {q : Whole} (D : Done G q) (hv : checkN G = 0) {N : Nt} (hL : ∀ j, j < q.1.length -> ∀ y, Clo G (zAG q.1 j) y -> Lkd G q N j y) {i : Nat} (hi : i < q.1.length) {x : Itm} (hx : Clo G (zAG q.1 i) x) (hb : behB G x = false) : (i, rep G x) ∈ N.pls := by
 cases hx with
 | of h _ =>
  by_cases h0 : i = 0
  ·subst h0
   rw [D.ok.zero, List.mem_singleton] at h
   subst h
   exfalso
   have hr : behB G ((G.rules.length : Int), 0) = true := by
    refine zAa.2 ⟨zA2 (Nat.le_refl _), ?_⟩
    show (0 : Int) < (rlen G (G.rules.length : Int) : Int)
    unfold rlen
    rw [(Gr.zAZ G).2]
    simp
   rw [hr] at hb
   cases hb
  ·obtain ⟨i', y, hi', hc, hb', hg, rfl⟩ := zG9 D (by omega) hi h
   obtain ⟨k, _, ⟨j, hj, z, _, hz, _⟩, _⟩ := hL i' hi' y hc hb'
   rw [hg] at hj
   obtain rfl : i = j := by omega
   have h2 := (zAL.1 (zAT hc)).2.1
   rw [zCB (show ((y.1, y.2 + 1) : Itm).2 ≠ 0 from by dsimp only; omega)]
   exact List.mem_of_getElem? hz
 | next hc hb' hr =>
  rename_i y r
  obtain ⟨yr, yd⟩ := y
  obtain ⟨b1, b2⟩ := zAa.1 hb'
  obtain ⟨c1, c2⟩ := zAL.1 b1
  dsimp only at c1 c2 b2
  obtain ⟨n, rfl⟩ := Int.eq_ofNat_of_zero_le c1.1
  obtain ⟨d, rfl⟩ := Int.eq_ofNat_of_zero_le c2.1
  have hrb : zAN G (n : Int) = true := by
   unfold zAN
   exact decide_eq_true c1
  have hd : d < (zAD G (n : Int)).2.length := by
   unfold rlen at b2
   omega
  obtain ⟨s1, s2⟩ := zBv hrb hd
  obtain ⟨k1, k2⟩ := zAu hv hrb hd
  rw [← s2] at k1
  have hm := (zHG (by omega)).2 hr
  obtain ⟨k, _, _, h3⟩ := hL i hi _ hc hb'
  obtain ⟨z, _, hz, _⟩ := h3 (fun e => by rw [e] at hm; cases hm)
  rw [zDx hm]
  exact List.mem_of_getElem? hz
theorem zId (T : TypeId) (base q : Nat) (y : Lkx) (w : World) (hq : q = w.heap.size) (hb : base <= q) : (w.alloc (.cells #[.int .i64 y.1, lks y] T)).ownsRow base T 2 (.slice (some ⟨q, 0, none⟩) 1 1) 1 (lc y) := by
 subst hq
 exact World.ownsRow_lit w #[.int .i64 y.1, lks y] 1 hb (by decide) (by simp)
theorem zGw : (Tryz.prog.info? 39).map (fun i => (i.zero, i.size, i.bytes)) = some (some (.agg #[.int .i64 0, .slice none 0 0]), 2, 32) := by kernel_rfl
theorem zP9 (y : Lkx) : ∀ u ∈ lc y, u.oneCell' = true := fun u hu => by
 simp [lc, lks] at hu
 rcases hu with rfl | rfl <;> rfl
theorem EndV.mono {b b' : Nat} {Y : List (Nat × List Nat)} {v : Value} {w : World} (h : EndV b Y v w) (hb : b' <= b) : EndV b' Y v w := by
 obtain ⟨X, h1, h2, h3⟩ := h
 exact ⟨X, Rw.zA7 h1 hb, h2, fun k p1 p2 => Rw.zA7 (h3 k p1 p2) hb⟩
def zKp (G : Gram) (q : Whole) (i : Nat) (w : World) (e : Ending) (w' : World) : Prop :=
 ∃ a c, e = .returned (.slice a (zAe G q i).length c) /\ EndV w.heap.size (zAe G q i) (.slice a (zAe G q i).length c) w' /\ Below w.heap.size w w'
end Lk
namespace Lk
open Gr (Gram ivs drawn zAD zAN top)
open Im
open Au
theorem zOM {W : World} {K : Fk} {G : Gram} {q : Whole} {N : Nt} {S : Nat -> Prop} (FX : Fix W K G q) (w : World) (h : NAt W K G q N S w) {cnt : Nat} (hL : LkI G q N cnt) (hcnt : cnt <= 100000000) (i : Nat) (hi : i < q.1.length) (x : Itm) (hx : Clo G (zAG q.1 i) x) :
  Calls Tryz.prog 24 #[.pointer (some ⟨K.p, 0, none⟩), .int .i64 (i : Int), iv x] w (Linked W K G q N cnt i x S w) := by
 have hxr := zAT hx
 obtain ⟨r, d⟩ := x
 obtain ⟨⟨r0, r1⟩, d0, d1⟩ := zAL.1 hxr
 dsimp only at r0 r1 d0 d1
 obtain ⟨r, rfl⟩ := Int.eq_ofNat_of_zero_le r0
 obtain ⟨d, rfl⟩ := Int.eq_ofNat_of_zero_le d0
 have hrl : rlen G (r : Int) = (zAD G (r : Int)).2.length := rfl
 rw [hrl] at d1
 have L0 := zUB (LS.start h (r : Int) (d : Int) 57)
 have SM := Fi.zAs FX.ok
 have hT : G.terms.length <= 1000 := by have := SM.t; omega
 have hR := SM.r
 have hr : r <= G.rules.length := by omega
 have hrb : zAN G (r : Int) = true := by unfold zAN; exact decide_eq_true ⟨r0, r1⟩
 have hri : (r : Int) < ((G.rules.length + 1 : Nat) : Int) := by omega
 have hq := FX.len
 have RL := zUB (fun w1 (F : FixAt K G q w1) => F.rules r hr)
 have hrs := zBF FX.ok (r := r) hr
 rw [hrl] at hrs
 have hi2 : i <= 1000000 := by omega
 by_cases hdd : d < (zAD G (r : Int)).2.length
 ·obtain ⟨hb, hbv⟩ := zBv hrb hdd
  obtain ⟨s1, s2⟩ := zAu FX.ok hrb hdd
  obtain ⟨j, hj, hgo, hst⟩ := zKr FX.done FX.ok hi hx hb
  rw [hbv] at hgo
  obtain ⟨s, hs⟩ := Int.eq_ofNat_of_zero_le (show 0 <= (zAD G (r : Int)).2[d] by omega)
  have hst' : s <= top G := by omega
  have hil : i < (states q).length := by rw [zAo FX.done.all]; exact hi
  have hgs : zE1 (states q) (i : Int) (s : Int) = (j : Int) := by
   rw [zDJ hil, ← hgo, ← hs]
   have := zBk FX.done.all hi
   rw [List.getElem?_eq_getElem hil] at this
   injection this with this
   rw [this]
  have RS := zUB (show ∀ w1, FixAt K G q w1 -> ∃ a c b o, w1.cell? ⟨K.bR, r * 2 + 1, none⟩ = some (.slice a (zAD G (r : Int)).2.length c) /\ a = some ⟨b, o, none⟩ /\ w1.cell? ⟨b, o + d, none⟩ = some (.int .i64 (s : Int)) from fun w1 F => by
   obtain ⟨a, c, _, f2, f3⟩ := F.rules r hr
   obtain ⟨b, o, e, f4⟩ := f3 d (by simpa [ivs] using hdd)
   refine ⟨a, c, b, o, f2, e, ?_⟩
   rw [f4]
   simp [ivs, Gr.iv, hs])
  have hX1 := zRU (G := G) (x := ((r : Int), (d : Int))) hrb
  have hX1r := zLQ hxr
  have C1 := zUB (fun w1 (l : LS W K G q S w (r : Int) (d : Int) N S w1) => zC6 FX w1 l.at_ (Nat.le_trans (zBW FX.ok hL.lk hq) (by omega)) hT i r (d : Int) hi2 hr (by omega) (by omega) (by omega))
  have C2 := zUB (fun N1 T1 w1 (l : LS W K G q S w (r : Int) (d : Int) N1 T1 w1) (k : LkI G q N1 cnt) => zC6 FX w1 l.at_ (Nat.le_trans (zBW FX.ok k.lk hq) (by omega)) hT j r ((d : Int) + 1) (by omega) hr (by omega) (by omega) (by omega))
  rw [zCB (show ((r : Int), ((d : Int) + 1)).2 ≠ 0 from by dsimp only; omega)] at C2
  have GO := zUB (fun w1 (F : FixAt K G q w1) => (show Calls Tryz.prog 56 #[.slice K.aS (states q).length K.cS, .int .i64 (i : Int), .int .i64 (s : Int)] w1 (Gr.Is (.int .i64 (j : Int)) w1) from by
   have := zN2 (states q) K.aS K.cS (i : Int) (s : Int) w1 F.sts FX.small
   rw [hgs] at this
   exact this))
  have I1 := zUB (fun N1 {P : Prop} hM => hL.of_cell (M := N1) (P := P) hi hX1 hX1r hM)
  have hwrap : IntKind.i64.wrap ((d : Int) + 1) = (d : Int) + 1 := IntWalk.i64_in _ (by omega)
  have hdl : (d : Int) < ((zAD G (r : Int)).2.length : Int) := by omega
  have hdne : ¬ d = (zAD G (r : Int)).2.length := by omega
  generalize hX1e : rep G ((r : Int), (d : Int)) = X1 at *
  unfold iv
  dsimp only
  go_enter Tryz.func24, Tryz.ntmps24
  go_wp2_with fail
  generalize w.alloc (.cells #[.int .i64 (r : Int), .int .i64 (d : Int)] 57) = w1 at *
  obtain ⟨p0, p2, p3, p4⟩ := L0.out.eight
  have x0 := L0.out.x0
  have x1 := L0.out.x1
  obtain ⟨aR, cR, bR, oR, f1, rfl, f2⟩ := RS.out w1 (L0.out.fix FX)
  go_region
  have LD := zUB (L0.out.went (drawn w1))
  go_wp2_with (go_at_call 26; (with_reducible refine (C1.out _ LD.out).mono ?_); rintro e w2 ⟨k1, N1, rfl, hk1, hM1, T1, hn1, hf1, he1⟩; obtain ⟨hI1, hG1⟩ := I1.out N1 hM1; have L1 := zUB (LD.out.turn hn1 hf1 he1); have KI1 := zUB hI1; have KG1 := zUB hG1; have K1 := zUB hk1; obtain ⟨q0, q2, q3, q4⟩ := L1.out.eight; have y0 := L1.out.x0; have y1 := L1.out.x1; clear hn1 hf1 he1 hI1 hG1 hM1 hk1)
  have LE1 := zUB (L1.out.went (drawn w2))
  have IN2 := zUB (fun N2 {P : Prop} hM => KI1.out.of_cell (M := N2) (i := j) (X := ((r : Int), (d : Int) + 1)) (P := P) hj (zCB (by dsimp only; omega)) ((FX.done.ok.good _ (zAb hj)).2.2 _ hst) hM)
  have kc1 : w2.drew.cell? ⟨K.p, 0, none⟩ = some (.slice K.aS (states q).length K.cS) /\ w2.drew.cell? ⟨w.heap.size, 0, none⟩ = some (.int .i64 (r : Int)) /\ w2.drew.cell? ⟨w.heap.size, 1, none⟩ = some (.int .i64 (d : Int)) := ⟨q0, y0, y1⟩
  have hbs : behV G ((r : Int), (d : Int)) = (s : Int) := hbv.trans hs
  rw [hs] at hgo
  have LB := zUB (fun w1 (F : FixAt K G q w1) => F.lefts s hst')
  have TL := zUB (fun w1 (F : FixAt K G q w1) => (show ∃ a c b, w1.cell? ⟨K.bT, r, none⟩ = some (.slice a (zAD G (r : Int)).2.length c) /\ a = some ⟨b, 0, none⟩ /\ w1.cell? ⟨b, d * 2, none⟩ = some (.pointer (some ⟨K.tP r d, 0, none⟩)) /\ w1.cell? ⟨b, d * 2 + 1, none⟩ = some (.bool (zQW G r d)) from by
   obtain ⟨a, c, f1, f2⟩ := F.tails r hr
   obtain ⟨b, e, g1, g2, _⟩ := f2 d hdd
   exact ⟨a, c, b, f1, e, g1, g2⟩))
  have C3 := zUB (fun (M : Nt) U w1 (l : LS W K G q S w (r : Int) (d : Int) M U w1) (c2 : Nat) (k : LkI G q M c2) (hc2 : c2 <= 100000002) (kk : Nat) (hkk : kk < M.pls.length) (y : Way) (hy : YOk K G y) => zNj w1 l.at_ (k := kk) hkk (Nat.le_trans (zBW FX.ok k.lk hq) (by omega)) hy (Nat.le_trans (k.ys kk hkk) (by omega)))
  have C4 := zUB (fun (M : Nt) U w1 (l : LS W K G q S w (r : Int) (d : Int) M U w1) (c2 : Nat) (k : LkI G q M c2) (k0 : Nat) (h0 : k0 <= G.rules.length) => zC6 FX w1 l.at_ (Nat.le_trans (zBW FX.ok k.lk hq) (by omega)) hT i k0 (0 : Int) hi2 h0 (by omega) (by omega) (by omega))
  have OK := zUB (zTm K G)
  have IK := zUB (zT8 K G hr hdd)
  have HX := zUB (show ∀ M y, LkI G q M cnt -> (∃ k2, M.pls[k2]? = some (j, ((r : Int), (d : Int) + 1)) /\ y = ovW k2) -> zG6 G q M.pls i ((r : Int), (d : Int)) y from fun M y _ ⟨k2, h1, h2⟩ => by
   subst h2
   exact .inl ⟨j, by rw [hbs]; exact hgo, h1, zQ9 k2⟩)
  have HY := zUB (show ∀ (M : Nt) k4, M.pls[k4]? = some (i, hd G (s : Int)) -> byL G (s : Int) ≠ [] -> zG6 G q M.pls i ((r : Int), (d : Int)) (inW K G r d k4) from fun M k4 h1 h2 => .inr ⟨by rw [hbs]; exact h2, by rw [hbs]; exact h1, zSq K G r d k4⟩)
  go_region_held3 (fun w' => w'.cell? ⟨K.p, 0, none⟩ = some (.slice K.aS (states q).length K.cS) /\ w'.cell? ⟨w.heap.size, 0, none⟩ = some (.int .i64 (r : Int)) /\ w'.cell? ⟨w.heap.size, 1, none⟩ = some (.int .i64 (d : Int)))
   (assumption)
   (first
    | (go_at_call 56; (with_reducible refine (GO.out _ (LE1.out.fix FX)).mono ?_); rintro e w3 ⟨rfl, hb3⟩; have L2 := zUB (LE1.out.went hb3); have kc2 : w3.cell? ⟨K.p, 0, none⟩ = some (.slice K.aS (states q).length K.cS) /\ w3.cell? ⟨w.heap.size, 0, none⟩ = some (.int .i64 (r : Int)) /\ w3.cell? ⟨w.heap.size, 1, none⟩ = some (.int .i64 (d : Int)) := ⟨L2.out.eight.1, L2.out.x0, L2.out.x1⟩; clear hb3)
    | (go_at_call 26; (with_reducible refine (C2.out N1 T1 _ L2.out KI1.out).mono ?_); rintro e w4 ⟨k2, N2, rfl, hk2, hM2, T2, hn2, hf2, he2⟩; obtain ⟨hI2, hG2⟩ := IN2.out N2 hM2; have L3 := zUB (L2.out.turn hn2 hf2 he2); have kc3 : w4.cell? ⟨K.p, 0, none⟩ = some (.slice K.aS (states q).length K.cS) /\ w4.cell? ⟨w.heap.size, 0, none⟩ = some (.int .i64 (r : Int)) /\ w4.cell? ⟨w.heap.size, 1, none⟩ = some (.int .i64 (d : Int)) := ⟨L3.out.eight.1, L3.out.x0, L3.out.x1⟩; have KI2 := zUB hI2; have KG2 := zUB hG2; have K2 := zUB hk2; clear hn2 hf2 he2 hI2 hG2 hM2 hk2)
    | fail)
  have K12 := zUB (KG2.out.pls _ _ K1.out)
  have hk12 := zAY K12.out
  have LE := zUB (C3.out N2 T2 w4 L3.out cnt KI2.out (by omega) k1 hk12 (ovW k2) (OK.out k2))
  have I3 := zUB (fun v => KI2.out.lead (y := ovW k2) (by rw [K12.out, hX1e]) hx hb (HX.out N2 _ KI2.out ⟨k2, K2.out, rfl⟩) v)
  clear kc1 kc2 kc3 LE1 LD L0 C1 C2 I1 IN2 GO RS f1 f2 x0 x1 y0 y1 p0 p2 p3 p4 q0 q2 q3 q4
  unfold ovW at LE
  dsimp only at LE
  by_cases hB : byL G (s : Int) = []
  ·rw [hB] at LB
   go_wp2_with (go_at_call 57; (with_reducible refine (LE.out).mono ?_); rintro e w5 ⟨rfl, v, T3, hn3, hf3, he3⟩; have L4 : Hid (LS W K G q S w (r : Int) (d : Int) (N2.lead k1 (ovW k2) v) T3 w5) := zUB (L3.out.turn hn3 hf3 he3); obtain ⟨_, _, q3, _⟩ := L4.out.eight; obtain ⟨aB, cB, g1, _⟩ := LB.out w5 (L4.out.fix FX); clear hn3 hf3 he3)
   refine bodyPost_ret (v := .tuple #[]) (by simp [results, Tryz.results24, go_sem]) rfl ?_
   refine ⟨rfl, _, T3, L4.out.at_, L4.out.fr, L4.out.ext, (I3.out v).mono (by omega), (KG1.out.trans KG2.out).trans (N2.lead_gro k1 _ v), fun _ => ⟨k1, by rw [hX1e]; exact K12.out, ⟨j, by rw [hbs]; exact hgo, ovW k2, N2.lead_mem k1 (ovW k2) v, K2.out, zQ9 k2⟩, fun e => absurd (by rw [hbs]; exact hB) e⟩⟩
  ·have hpos : 0 < (byL G (s : Int)).length := List.length_pos_iff.2 hB
   have hk0 := zBb.1 (head_ne hB)
   have hrep := zDx (head_ne hB)
   have C5 := zUB (fun (M : Nt) U w1 (l : LS W K G q S w (r : Int) (d : Int) M U w1) (c2 : Nat) (k : LkI G q M c2) => C4.out M U w1 l c2 k _ hk0.1)
   rw [hrep] at C5
   have LB2 := zUB (show ∀ w1, FixAt K G q w1 -> ∃ b o c, w1.cell? ⟨K.bB, s, none⟩ = some (.slice (some ⟨b, o, none⟩) (byL G (s : Int)).length c) /\ w1.cell? ⟨b, o, none⟩ = some (.int .i64 (((byL G (s : Int)).headD 0 : Nat) : Int)) from fun w1 F => by
    obtain ⟨aB, cB, g1, g2⟩ := LB.out w1 F
    obtain ⟨b, o, rfl, g3⟩ := g2 0 (by rw [zD1]; exact hpos)
    rw [zGZ] at g3
    exact ⟨b, o, cB, g1, g3⟩)
   have hdr := zIv hB
   have hdp := zQG hB
   have IN4 := zUB (fun (N3 M : Nt) (c2 : Nat) (k : LkI G q N3 c2) {P : Prop} hM => k.of_cell (M := M) (i := i) (X := hd G (s : Int)) (P := P) hi hdp hdr hM)
   generalize (byL G (s : Int)).headD 0 = k0 at *
   generalize hLL : (byL G (s : Int)).length = LL at *
   clear LB C4 hk0 hrep
   go_wp2_with (first
    | (go_at_call 57; (with_reducible refine (LE.out).mono ?_); rintro e w5 ⟨rfl, v, T3, hn3, hf3, he3⟩; have L4 : Hid (LS W K G q S w (r : Int) (d : Int) (N2.lead k1 (ovW k2) v) T3 w5) := zUB (L3.out.turn hn3 hf3 he3); obtain ⟨_, _, q3, _⟩ := L4.out.eight; obtain ⟨b5, o5, c5, g1, g2⟩ := LB2.out w5 (L4.out.fix FX); have I3v := zUB (I3.out v); clear hn3 hf3 he3)
    | (go_at_call 26; (with_reducible refine (C5.out (N2.lead k1 (ovW k2) v) T3 w5 L4.out (cnt + 1) I3v.out).mono ?_); rintro e w6 ⟨k4, N4, rfl, hk4, hM4, T4, hn4, hf4, he4⟩; obtain ⟨hI4, hG4⟩ := IN4.out _ N4 (cnt + 1) I3v.out hM4; have L5 := zUB (L4.out.turn hn4 hf4 he4); have KI4 := zUB hI4; have KG4 := zUB hG4; have K4 := zUB hk4; obtain ⟨_, _, _, r4⟩ := L5.out.eight; have z0 := L5.out.x0; have z1 := L5.out.x1; obtain ⟨a6, c6, b6, t1, rfl, t2, t3⟩ := TL.out w6 (L5.out.fix FX); clear hn4 hf4 he4 hI4 hG4 hM4 hk4))
   have K14 := zUB (KG4.out.pls _ _ ((N2.lead_gro k1 (ovW k2) v).pls _ _ K12.out))
   have hk14 := zAY K14.out
   have L6 := zUB (L5.out.went (drawn w6))
   have LF := zUB (C3.out N4 T4 w6.drew L6.out (cnt + 1) KI4.out (by omega) k1 hk14 (inW K G r d k4) (IK.out k4))
   unfold inW at LF
   dsimp only at LF
   have hrn : (r : Int) < (G.rules.length : Int) + 1 := by omega
   go_region_law (first
    | (go_simp; go_at_call 57; (with_reducible refine (LF.out).mono ?_); rintro e w7 ⟨rfl, v2, T5, hn5, hf5, he5⟩; have L7 : Hid (LS W K G q S w (r : Int) (d : Int) (N4.lead k1 (inW K G r d k4) v2) T5 w7) := zUB (L6.out.turn hn5 hf5 he5); clear hn5 hf5 he5)
    | fail)
   all_goals
    go_wp2_with fail
    refine bodyPost_ret (v := .tuple #[]) (by simp [results, Tryz.results24, go_sem]) rfl ?_
    have g5 := N4.lead_gro k1 (inW K G r d k4) v2
    refine ⟨rfl, _, T5, L7.out.at_, L7.out.fr, L7.out.ext, KI4.out.lead (y := inW K G r d k4) (by rw [K14.out, hX1e]) hx hb (HY.out N4 k4 K4.out hB) v2, ((KG1.out.trans KG2.out).trans (N2.lead_gro k1 _ v)).trans (KG4.out.trans g5), fun _ => ⟨k1, by rw [hX1e]; exact K14.out, ⟨j, by rw [hbs]; exact hgo, ovW k2, g5.ys k1 hk14 _ (KG4.out.ys k1 hk12 _ (N2.lead_mem k1 (ovW k2) v)), KG4.out.pls _ _ K2.out, zQ9 k2⟩, fun _ => ⟨inW K G r d k4, N4.lead_mem k1 _ v2, by rw [hbs]; exact K4.out, zSq K G r d k4⟩⟩⟩
 ·have hE : d = (zAD G (r : Int)).2.length := by omega
  have hb : behB G ((r : Int), (d : Int)) = false := by
   cases e : behB G ((r : Int), (d : Int)) with
   | false => rfl
   | true =>
    have := (zAa.1 e).2
    dsimp only at this
    omega
  generalize (zAD G (r : Int)).2.length = n at *
  subst hE
  unfold iv
  dsimp only
  go_enter Tryz.func24, Tryz.ntmps24
  go_wp2_with fail
  generalize w.alloc (.cells #[.int .i64 (r : Int), .int .i64 (d : Int)] 57) = w1 at *
  obtain ⟨p0, p2, p3, p4⟩ := L0.out.eight
  have x0 := L0.out.x0
  have x1 := L0.out.x1
  obtain ⟨aR, cR, _, f1, _⟩ := RL.out w1 (L0.out.fix FX)
  go_region
  go_wp2_with fail
  refine bodyPost_ret (v := .tuple #[]) (by simp [results, Tryz.results24, go_sem]) rfl ?_
  have LD := L0.out.went (drawn w1)
  exact ⟨rfl, N, S, LD.at_, LD.fr, LD.ext, hL.mono (by omega), .refl _, fun e => by rw [hb] at e; cases e⟩
end Lk
namespace Lk
open Gr (Gram checkN)
open Im
open Au
open Bt (Upto)
theorem zOH {p : Nat -> Prop} (h : ∃ n, p n) : ∃ n, p n /\ ∀ k, k < n -> ¬ p k := by
 obtain ⟨n, hn⟩ := h
 induction n using Nat.strongRecOn with
 | _ n ih =>
  by_cases hk : ∃ k, k < n /\ p k
  ·obtain ⟨k, h1, h2⟩ := hk
   exact ih k h1 h2
  ·exact ⟨n, hn, fun k h1 h2 => hk ⟨k, h1, h2⟩⟩
open Classical in
theorem zHo {P : Program} {a : Act} {w : World} {Q : Exit -> Act -> World -> Prop} {c body : Code} {γ : Type} (l : Nat) (J : γ -> Act -> World -> Prop) (μ : γ -> Nat) (hf : findLabel c l = some (Code.skip.seq body))
  (pass : ∀ g a w, J g a w -> body.wp P (Exit.jump l (fun a' w' => ∃ g', J g' a' w' /\ μ g' < μ g) Q) a w)
  (first : (∀ g a w, J g a w -> body.wp P (Exit.jump l (fun a' w' => ∃ g', J g' a' w') Q) a w) -> c.wp P (Exit.jump l (fun a' w' => ∃ g', J g' a' w') Q) a w) : (Code.scope c).wp P Q a w := by
 have hex : ∀ a w, (∃ g, J g a w) -> ∃ n, (∃ g, J g a w /\ μ g = n) /\ ∀ k, k < n -> ¬ ∃ g, J g a w /\ μ g = k := fun a w ⟨g, hg⟩ => zOH ⟨μ g, g, hg, rfl⟩
 let m : Act -> World -> Nat := fun a w => if h : ∃ g, J g a w then (hex a w h).choose else 0
 have hm : ∀ a w (h : ∃ g, J g a w), (∃ g, J g a w /\ μ g = m a w) /\ ∀ k, k < m a w -> ¬ ∃ g, J g a w /\ μ g = k := fun a w h => by
  have := (hex a w h).choose_spec
  show (∃ g, J g a w /\ μ g = (if h : ∃ g, J g a w then (hex a w h).choose else 0)) /\ ∀ k, k < (if h : ∃ g, J g a w then (hex a w h).choose else 0) -> _
  rw [dif_pos h]
  exact this
 refine wp_scope_jumps l (fun a w => ∃ g, J g a w) m hf (first fun g a w h => ?_) fun a w h => ?_
 ·refine wp_mono (pass g a w h) fun e a' w' hq => ?_
  cases e with
  | goto l' => exact ⟨hq.1, hq.2.imp fun _ k => k.1⟩
  | _ => exact hq
 ·obtain ⟨g, hg, hn⟩ := (hm a w h).1
  refine wp_seq (wp_skip ?_)
  refine wp_mono (pass g a w hg) fun e a' w' hq => ?_
  cases e with
  | goto l' =>
   obtain ⟨h1, g', h2, h3⟩ := hq
   refine ⟨h1, ⟨g', h2⟩, ?_⟩
   have := hm a' w' ⟨g', h2⟩
   rcases Nat.lt_or_ge (m a' w') (m a w) with r | r
   ·exact r
   ·exact absurd ⟨g', h2, rfl⟩ (this.2 (μ g') (by omega))
  | _ => exact hq
def Kps (N M : Nt) : Prop := M.pls = N.pls /\ M.Ys = N.Ys /\ M.wv = N.wv /\ M.D = N.D /\ M.E = N.E
theorem Kps.trans {N M L : Nt} (h : Kps N M) (k : Kps M L) : Kps N L := ⟨k.1.trans h.1, k.2.1.trans h.2.1, k.2.2.1.trans h.2.2.1, k.2.2.2.1.trans h.2.2.2.1, k.2.2.2.2.trans h.2.2.2.2⟩
theorem Kps.give (m : Nat) (N : Nt) (k : Nat) (F : Nat -> Bool) : Kps N (N.give m k F) := ⟨rfl, rfl, rfl, rfl, rfl⟩
theorem Kps.pop (N : Nt) (k : Nat) : Kps N (N.pop k) := ⟨rfl, rfl, rfl, rfl, rfl⟩
theorem Kps.go (m : Nat) (N : Nt) (k : Nat) (y : Way) : Kps N (N.go m k y) := by
 obtain ⟨h1, h2, h3, h4, h5⟩ := zS0 m N k y
 exact ⟨h1, h2, h5, h3, h4⟩
theorem Kps.lk {G : Gram} {q : Whole} {N M : Nt} (h : Kps N M) (k : Lk1 G q N) : Lk1 G q M := by
 obtain ⟨h1, h2, _⟩ := h
 refine ⟨by rw [h1]; exact k.nd, by rw [h1]; exact k.can, ?_⟩
 rw [h1, h2]
 exact k.sound
theorem Kps.lkd {G : Gram} {q : Whole} {N M : Nt} (h : Kps N M) {i : Nat} {x : Itm} (k : Lkd G q N i x) : Lkd G q M i x := by
 obtain ⟨h1, h2, _⟩ := h
 unfold Lkd
 rw [h1, h2]
 exact k
theorem LkI.sp3 {G : Gram} {q : Whole} {N : Nt} {cnt m : Nat} (h : LkI G q N cnt) (hm : m <= 4096) : Sp3 G q m N N.Ys := by
 refine ⟨fun k hk => ⟨hm, fun t _ => (h.frs k hk).1 t⟩, fun k i c hk t ht => ?_, by rw [h.qs]; exact List.nodup_nil, fun k => ?_, fun k hk hw => ?_, fun k hk => .inr (.inl (h.frs k hk).1)⟩
 ·rw [(h.frs k (zAY hk)).1 t] at ht
  cases ht
 ·rw [h.qs]
  constructor
  ·intro e; cases e
  ·rintro ⟨hk, hw⟩
   rw [(h.frs k hk).2] at hw
   cases hw
 ·rw [(h.frs k hk).2] at hw
  cases hw
theorem zLl {G : Gram} (hT : G.terms.length <= 1000) (k d : Nat) : Upto (zL9 G k d) (G.terms.length + 1) := ⟨by omega, fun u hu => by
 unfold zL9
 have : decide (u < G.terms.length + 1) = false := decide_eq_false (by omega)
 rw [this, Bool.false_and]⟩
theorem YOk.upto {K : Fk} {G : Gram} {y : Way} (h : YOk K G y) (hT : G.terms.length <= 1000) : Upto y.f (G.terms.length + 1) := by
 rcases h with ⟨_, e⟩ | ⟨k, d, _, _, _, e⟩
 ·rw [e]
  exact ⟨by omega, fun _ _ => rfl⟩
 ·rw [e]
  exact zLl hT k d
theorem YOk.ptr {K : Fk} {G : Gram} {y : Way} (h : YOk K G y) : ∃ pa, y.v = .pointer pa := by
 rcases h with ⟨e, _⟩ | ⟨k, d, _, _, e, _⟩ <;> exact ⟨_, e⟩
section
variable {W : World} {K : Fk} {G : Gram} {q : Whole} {N : Nt} {lab : Nat -> Lb} {cv qv : Value} {w : World}
theorem NP.E_ge (h : NP W K G q N lab cv qv w) {k : Nat} (hk : k < N.pls.length) : W.heap.size <= N.E k := by
 have e := h.lE k hk
 rcases h.low (N.E k) (by rw [e]; intro e; cases e) with r | r | r
 ·rw [r, h.lp] at e; cases e
 ·rw [r, h.lm] at e; cases e
 ·exact r
theorem NP.given (h : NP W K G q N lab cv qv w) (FX : Fix W K G q) {y : Way} (hy : YOk K G y) (hto : y.to < N.pls.length) : Gvn N y.to y.v y.f w := by
 rcases hy with ⟨e1, e2⟩ | ⟨k, d, hk, hd, e1, e2⟩
 ·rw [e1, e2]
  exact .inl ⟨0, .nil _⟩
 ·rw [e1, e2]
  obtain ⟨a, c, _, f⟩ := (FX.at_ w h.fr).tails k hk
  obtain ⟨_, _, _, _, hs⟩ := f d hd
  obtain ⟨a', c', _, f'⟩ := (FX.at_ W (.refl _ _)).tails k hk
  obtain ⟨_, _, _, _, hs'⟩ := f' d hd
  have h1 := hs'.inp
  have h2 := hs'.ind
  have h3 := h.E_ge hto
  exact .inl ⟨_, .at_ hs (by omega) (by omega)⟩
theorem NP.given2 (h : NP W K G q N lab cv qv w) {k tt : Nat} (hk : k < N.pls.length) (hto : tt < N.pls.length) : Gvn N tt (.pointer (some ⟨N.D k, 0, none⟩)) (N.S k) w := by
 by_cases e : k = tt
 ·subst e
  exact .inr ⟨rfl, rfl⟩
 ·refine .inl ⟨_, .at_ (h.sets k hk) (fun e2 => ?_) (fun e2 => ?_)⟩
  ·have := h.lP k hk
   rw [e2, h.lE tt hto] at this
   cases this
  ·have := h.lE k hk
   rw [e2, h.lE tt hto] at this
   injection this with this
   exact e this.symm
end
theorem zP2 {α : Type} (f : Nat -> α) (s : Nat) (x y : α) : upd (upd f s x) s y = upd f s y := by
 funext r
 by_cases e : r = s
 ·subst e
  rw [upd_same, upd_same]
 ·rw [zAB e, zAB e, zAB e]
theorem zNd {α : Type} (f : Nat -> α) (s : Nat) : upd f s (f s) = f := by
 funext r
 by_cases e : r = s
 ·subst e
  rw [upd_same]
 ·rw [zAB e]
theorem zG6.lt {G : Gram} {q : Whole} {a : List Pl} {i : Nat} {x : Itm} {y : Way} (h : zG6 G q a i x y) : y.to < a.length := by
 rcases h with ⟨_, _, h, _⟩ | ⟨_, h, _⟩ <;> exact zAY h
theorem zOt {G : Gram} {q : Whole} (hv : checkN G = 0) {M L : Nt} {m k : Nat} (lk : Lk1 G q M) (hK : Kps M L) (hk : k < M.pls.length) {j : Nat} (hj : j < (M.Ys k).length) (sp : Sp3 G q m L (upd M.Ys k ((M.Ys k).take j))) (hne : ∃ t, L.S k t = true) (hf : Upto ((M.Ys k)[j]).f m) :
  (M.Ys k)[j].to < L.pls.length /\ Sp3 G q m (L.give m (M.Ys k)[j].to (M.Ys k)[j].f) (upd M.Ys k ((M.Ys k).take j)) /\ Sp3 G q m (L.go m k (M.Ys k)[j]) (upd M.Ys k ((M.Ys k).take (j + 1))) /\ (∃ t, (L.go m k (M.Ys k)[j]).S k t = true) /\ (L.go m k (M.Ys k)[j]).num m <= L.num m := by
 have lkL := hK.lk lk
 have hkL : k < L.pls.length := by rw [hK.1]; exact hk
 have hmem : (M.Ys k)[j] ∈ L.Ys k := by rw [hK.2.1]; exact List.getElem_mem hj
 obtain ⟨⟨jj, d⟩, hp⟩ : ∃ p, L.pls[k]? = some p := ⟨_, List.getElem?_eq_getElem hkL⟩
 obtain ⟨x, _, _, _, hw⟩ := lkL.sound k jj d hp _ hmem
 have hto := hw.lt
 obtain ⟨t0, ht0⟩ := hne
 have hla := sp.snd k jj d hp t0 ht0
 have key : ∀ i c, L.pls[(M.Ys k)[j].to]? = some (i, c) -> _ := fun i c hc => zS8 hv lkL hp hmem hla hc
 obtain ⟨⟨i, c⟩, hq⟩ : ∃ p, L.pls[(M.Ys k)[j].to]? = some p := ⟨_, List.getElem?_eq_getElem hto⟩
 have s1 := sp.give hq (key i c hq).1
 have s2 := sp.go hkL ⟨t0, ht0⟩ hto hf (fun i c hc => (key i c hc).1) (fun he i c j' d' hc hd => by
  rw [hp] at hd
  injection hd with hd
  injection hd with e1 e2
  subst e1 e2
  exact (key i c hc).2 he)
 refine ⟨hto, s1, ?_, ⟨t0, zTn _ _ _ _ ht0⟩, zSO sp hto s1.qlen⟩
 rw [upd_same, zP2] at s2
 rw [List.take_succ_eq_append_getElem hj]
 exact s2
structure Ps (W : World) (K : Fk) (G : Gram) (q : Whole) (S : Nat -> Prop) (w0 : World) (N : Nt) (k0 : Nat) (M : Nt) (X : Nat -> List Way) (T : Nat -> Prop) (w : World) : Prop where
 at_ : NAt W K G q M T w
 fr : Sep.Fr S w0 w
 ext : Sep.Ext T S w0
 kp : Kps N M
 sp : Sp3 G q (G.terms.length + 1) M X
 zero : M.S k0 0 = true
section
variable {W : World} {K : Fk} {G : Gram} {q : Whole} {S : Nat -> Prop} {w0 : World} {N : Nt} {k0 : Nat} {M L : Nt} {X Y : Nat -> List Way} {T U : Nat -> Prop} {w w' : World}
theorem Ps.went (h : Ps W K G q S w0 N k0 M X T w) (hb : Below w.heap.size w w') : Ps W K G q S w0 N k0 M X T w' :=
 ⟨h.at_.went hb, h.fr.trans (.of_below hb) h.ext, h.ext, h.kp, h.sp, h.zero⟩
theorem Ps.turn (h : Ps W K G q S w0 N k0 M X T w) (hL : NAt W K G q L U w') (f : Sep.Fr T w w') (x : Sep.Ext U T w) (kp : Kps M L) (sp : Sp3 G q (G.terms.length + 1) L Y) (z : L.S k0 0 = true) : Ps W K G q S w0 N k0 L Y U w' :=
 ⟨hL, h.fr.trans f h.ext, h.ext.trans x h.fr.size, h.kp.trans kp, sp, z⟩
end
