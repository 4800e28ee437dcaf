/- A part of the proof. -/
import Derived.Test.YtbajcecncgdpmaaGreatDoorLookLay
import Derived.Test.YtbajcecncgdpmaaGreatDoorPk27
import Derived.Test.YtbajcecncgdpmaaGreatDoorPk20
import Derived.Deep.LoopGhost
set_option maxHeartbeats 4000000
set_option maxRecDepth 100000
set_option linter.unusedVariables false
namespace Go.Proofs.YtbajcecncgdpmaaGreatDoor
open Go.RowKit Go.Maps
namespace Lk
open Im (Gw zDF zFd)
abbrev Lkx := Int × Option Addr × Nat × Nat
def lks (x : Lkx) : Value := .slice x.2.1 x.2.2.1 x.2.2.2
def lc (x : Lkx) : List Value := [.int .i64 x.1, lks x]
theorem zCA (x : Lkx) : (lc x).length = 2 := rfl
theorem zDH (X : List Lkx) : (X.flatMap lc).length = X.length * 2 := by
 induction X with
 | nil => rfl
 | cons x X ih =>
  rw [List.flatMap_cons, List.length_append, ih, zCA, List.length_cons]
  omega
def LksV (base : Nat) (X : List Lkx) (v : Value) (w : World) : Prop := w.ownsRow base 39 2 v X.length (X.flatMap lc)
def cmpL (x y : Lkx) : Int := Lib.compareInt x.1 y.1
theorem zFf (x y : Lkx) : ltOf cmpL x y = decide (x.1 < y.1) := by
 unfold ltOf cmpL Lib.compareInt
 by_cases h1 : x.1 < y.1
 ·simp [h1]
 ·by_cases h2 : y.1 < x.1 <;> simp [h1, h2]
theorem zOi : Go.Sort.SWO (ltOf cmpL) where
 irrefl x := by
  rw [zFf, decide_eq_false_iff_not]
  omega
 trans x y z h1 h2 := by
  rw [zFf, decide_eq_true_iff] at *
  omega
 ntrans x y z h1 h2 := by
  rw [zFf, decide_eq_false_iff_not] at *
  omega
theorem zPb (x y : Lkx) (w : World) :
  Calls Tryz.prog 63 #[.agg #[.int .i64 x.1, lks x], .agg #[.int .i64 y.1, lks y]] w fun e w' => e = .returned (.int .i64 (cmpL x y)) /\ Gw w w' := by
 have C := zSt zDF
 unfold cmpL lks
 go_enter Tryz.func63, Tryz.ntmps63
 go_wp2_with (first
  | (go_at_call 64; refine (C.out _ _ _).mono ?_; rintro e wn ⟨rfl, rfl⟩)
  | fail)
 go_ret
 exact ⟨rfl, by first | exact (((Gw.refl w).alloc _).alloc _) | exact (((Gw.refl w).alloc _).alloc _).drew⟩
theorem zKe (d : Array Lkx) : Go.Sort.flatK lc 2 d = (d.toList.flatMap lc).toArray := by
 have hl := zDH d.toList
 apply Array.ext_getElem?
 intro t
 by_cases ht : t < d.size * 2
 ·have hi : t / 2 < d.toList.length := by rw [Array.length_toList]; omega
  have h := Rw.zB3 lc zCA d.toList (t / 2) hi (t % 2) (Nat.mod_lt _ (by omega))
  rw [show t / 2 * 2 + t % 2 = t by omega] at h
  conv => rhs; rw [List.getElem?_toArray, h]
  unfold Go.Sort.flatK
  rw [Array.getElem?_map, Array.getElem?_range, if_pos ht]
  have hi' : t / 2 < d.size := by omega
  rw [Option.map_some, getElem!_pos d (t / 2) hi', Array.getElem_toList]
  rcases Nat.mod_two_eq_zero_or_one t with e | e <;> rw [e] <;> simp [lc]
 ·conv => rhs; rw [List.getElem?_toArray]
  rw [Array.getElem?_eq_none (by simp; omega), List.getElem?_eq_none (by rw [hl, Array.length_toList]; omega)]
theorem zNQ {base : Nat} {X : List Lkx} {g cap : Nat} {w : World} (h : LksV base X (.slice (some ⟨g, 0, none⟩) X.length cap) w) : Go.Sort.HoldsK lc 2 w g 0 X.toArray /\ g < w.heap.size := by
 rcases h.2 with ⟨e, _⟩ | ⟨g', cap', cur, e, _, hb, _, _, h3, h4⟩
 ·cases e
 ·simp only [Value.slice.injEq, Option.some.injEq, Addr.mk.injEq, and_true, true_and] at e
  obtain ⟨rfl, rfl⟩ := e
  refine ⟨?_, (Array.getElem?_eq_some_iff.1 hb).1⟩
  unfold Go.Sort.HoldsK
  rw [zKe]
  intro j hj
  have hl := zDH X
  simp only [List.size_toArray] at hj
  refine ⟨?_, by simp [World.frozen?, hb]⟩
  have h1 : (cur.toList.take (X.length * 2))[j]? = (X.flatMap lc)[j]? := by rw [h4]
  rw [List.getElem?_take_of_lt (by omega)] at h1
  simp only [World.cell?, hb, Nat.zero_add]
  simp only [Option.isSome_none, Bool.false_eq_true, if_false]
  rw [← Array.getElem?_toList, h1]
  simp only [List.getElem!_toArray, id]
  rw [List.getElem?_eq_getElem hj, getElem!_pos _ j hj]
theorem zQD {base : Nat} {X Y : List Lkx} {g cap n : Nat} {w : World} {os : Array Obj} (h : LksV base X (.slice (some ⟨g, 0, none⟩) X.length cap) w) (hl : Y.length = X.length) :
  LksV base Y (.slice (some ⟨g, 0, none⟩) X.length cap) (sortWorldK lc 2 w g 0 n Y.toArray os) /\ w.grownBy (sortWorldK lc 2 w g 0 n Y.toArray os) (some g) := by
 unfold sortWorldK Go.Sort.putRowK
 rw [zKe]
 rcases h.2 with ⟨e, _⟩ | ⟨g', cap', cur, e, hbase, hb, h1, h2, h3, h4⟩
 ·cases e
 ·simp only [Value.slice.injEq, Option.some.injEq, Addr.mk.injEq, and_true, true_and] at e
  obtain ⟨rfl, rfl⟩ := e
  have hly := zDH Y
  have hgr := Im.zGX (w := w) (g := g) (n := n) (os := os) ((Y.flatMap lc).toArray)
  refine ⟨⟨by rw [hly], .inr ⟨g, cap, _, by rw [hl], hbase, Im.zIC _ hb, by omega, h2, by simp [Go.Sort.putCells, h3], ?_⟩⟩, hgr⟩
  rw [← hly]
  exact Im.zFF cur _ (by rw [hly]; have := Nat.mul_le_mul_right 2 h1; omega)
theorem zD1 (p : Option Addr) (c : Nat) (fv : Value) (w : World) :
  Calls Tryz.prog 129 #[.slice p 0 c, .int .i64 0, .int .i64 0, fv] w fun e w' => e = .returned (.tuple #[]) /\ w' = w := by
 go_enter Tryz.func129, Tryz.ntmps129
 go_wp2
 refine wp_loop_rounds 1 ?_
 rw [rounds_succ]
 go_wp2
 go_end0
 exact ⟨rfl, rfl⟩
theorem zLu (p : Option Addr) (c : Nat) (lim : Int) (fv : Value) (w : World) :
  Calls Tryz.prog 97 #[.slice p 0 c, .int .i64 0, .int .i64 0, .int .i64 lim, fv] w fun e w' => e = .returned (.tuple #[]) /\ w' = w := by
 have hi := fun W => zD1 p c fv W
 go_enter Tryz.func97, Tryz.ntmps97
 go_wp2
 refine wp_loop_rounds 1 ?_
 rw [rounds_succ]
 go_wp2_with (go_at_call 129; refine (hi _).mono ?_; rintro e w' ⟨rfl, rfl⟩)
 (try simp only [Exit.inBlock, Exit.then]); refine bodyPost_ret (results_none rfl _ _ _) rfl ?_
 exact ⟨rfl, rfl⟩
theorem zJg (p : Option Addr) (c : Nat) (fv : Value) (w : World) :
  Calls Tryz.prog 62 #[.slice p 0 c, fv] w fun e w' => e = .returned (.tuple #[]) /\ w' = w := by
 have hp := fun lim W => zLu p c lim fv W
 have hl := zFd
 go_enter Tryz.func62, Tryz.ntmps62
 go_wp2_with (first
  | (go_at_call 98; refine (hl _).mono ?_; rintro e w' ⟨rfl, rfl⟩)
  | (go_at_call 97; refine (hp _ _).mono ?_; rintro e w' ⟨rfl, rfl⟩))
 go_end0
 exact ⟨rfl, rfl⟩
theorem zOg (base : Nat) (X : List Lkx) (a : Option Addr) (c : Nat) (w : World) (h : LksV base X (.slice a X.length c) w) (hl : X.length <= 1000000) :
  Calls Tryz.prog 62 #[.slice a X.length c, .func (.func 63) #[] #[]] w fun e w' => e = .returned (.tuple #[]) /\ ∃ Y, Y.Perm X /\ Y.Pairwise (fun a b => ¬ b.1 < a.1) /\ LksV base Y (.slice a X.length c) w' /\ w.grownBy w' (Value.slice a X.length c).ownBlock := by
 have h' := h
 rcases h'.2 with ⟨e, h0⟩ | ⟨g, cap, cur, e, hbase, hb, _⟩
 ·simp only [Value.slice.injEq] at e
  obtain ⟨rfl, _, rfl⟩ := e
  obtain rfl : X = [] := List.eq_nil_of_length_eq_zero h0
  exact (zJg none 0 _ w).mono fun e w' ⟨h1, h2⟩ => ⟨h1, [], .nil, .nil, by rw [h2]; exact h, by rw [h2]; exact ⟨rfl, rfl, rfl, Nat.le_refl _, fun _ _ _ => rfl⟩⟩
 ·simp only [Value.slice.injEq, true_and] at e
  obtain ⟨rfl, rfl⟩ := e
  obtain ⟨hH, hg⟩ := zNQ h
  have eg : ∀ args w, (callFunc 63 args).run Tryz.prog w = .ok (.enter 63 args) w := enters_of Tryz.func63 (by kernel_rfl) rfl
  have hcmp : CmpLays Tryz.prog 63 #[] lc 2 cmpL g 0 X.toArray.size w := fun m os dk _ x y => (zPb x y _).mono fun e w' ⟨h1, q, os', h2⟩ => ⟨h1, q, os', h2⟩
  have hcon := AnyQ.slices_SortFunc Tryz.sortLk 2 Tryz.isAgg39 Tryz.sizeOf39 lc zCA (fun x v hv => by simp [lc, lks] at hv; rcases hv with rfl | rfl <;> rfl) cmpL zOi 63 #[] g 0 c X.toArray w eg hcmp hH hg (by simp; omega)
  change Calls Tryz.prog 62 _ _ _ at hcon
  simp only [List.size_toArray] at hcon
  refine hcon.mono ?_
  rintro e w' ⟨h1, d', n, os, ⟨p1, p2, p3⟩, hs, rfl⟩
  simp only [List.size_toArray] at p1 p3
  have hp : d'.toList.Perm X := by
   have e1 : d'.extract 0 X.length = d' := by rw [← p1]; simp
   have e2 : X.toArray.extract 0 X.length = X.toArray := by simp
   rw [e1, e2] at p3
   simpa using p3
  have hd : d' = d'.toList.toArray := by simp
  have hr := zQD (Y := d'.toList) (n := n) (os := os) h (by rw [Array.length_toList]; exact p1)
  rw [← hd] at hr
  refine ⟨h1, d'.toList, hp, ?_, hr.1, hr.2⟩
  rw [List.pairwise_iff_getElem]
  intro i j hi hj hij
  have hi' : i < d'.size := by simpa using hi
  have hj' : j < d'.size := by simpa using hj
  have := hs i j (Nat.zero_le _) hij (by omega)
  rw [zFf, decide_eq_false_iff_not, getElem!_pos d' j hj', getElem!_pos d' i hi'] at this
  simpa using this
end Lk
namespace Lk
open Gr (Gram checkN)
open Im
open Au
theorem zMR (G : Gram) (ks : List (List Itm)) (c : List Itm) : ∀ n : Nat, ((zAm G ks c n).map Prod.fst).Pairwise (· < ·)
 | 0 => List.Pairwise.nil
 | n + 1 => by
  rw [zAr, List.map_append, List.pairwise_append]
  refine ⟨zMR G ks c n, ?_, fun a ha b hb => ?_⟩
  ·split
   ·exact List.Pairwise.nil
   ·exact List.pairwise_singleton _ _
  ·obtain ⟨⟨s, t⟩, h1, rfl⟩ := List.mem_map.1 ha
   obtain ⟨m, hm, e, _⟩ := zAj.1 h1
   split at hb
   ·cases hb
   ·simp only [List.map_cons, List.map_nil, List.mem_singleton] at hb
    rw [hb, e]
    omega
theorem zJl {G : Gram} {q : Whole} (D : Done G q) {i : Nat} (hi : i < q.1.length) : (zBd q i).Nodup := by
 unfold zBd
 rw [D.ok.trans i (by rw [D.all]; exact hi)]
 exact (zMR _ _ _ _).imp fun h => Int.ne_of_lt h
theorem zDE {G : Gram} {q : Whole} (D : Done G q) (hv : checkN G = 0) {i : Nat} (hi : i < q.1.length) : (cloL G (zAF q.1 i) (zBd q i)).Nodup := by
 unfold cloL
 rw [List.nodup_append]
 refine ⟨zC6 (D.ok.good _ (zAf hi)).2.1, ?_, fun a ha b hb e => ?_⟩
 ·refine List.pairwise_flatMap.2 ⟨fun s hs => ?_, (zJl D hi).imp fun {s1 s2} hne x hx y hy e => ?_⟩
  ·refine List.pairwise_map.2 ((zIx G s _).imp fun {a b} hab e => hab ?_)
   injection e with e
   omega
  ·obtain ⟨k1, h1, rfl⟩ := List.mem_map.1 hx
   obtain ⟨k2, h2, rfl⟩ := List.mem_map.1 hy
   injection e with e
   obtain rfl : k1 = k2 := by omega
   exact hne ((zBS.1 h1).2.symm.trans (zBS.1 h2).2)
 ·obtain ⟨s, hs, h2⟩ := List.mem_flatMap.1 hb
  obtain ⟨k, hk, rfl⟩ := List.mem_map.1 h2
  subst e
  obtain ⟨m, _, rfl, _⟩ := (zDe D hi).1 hs
  obtain ⟨k1, k2⟩ := zBS.1 hk
  by_cases h0 : i = 0
  ·subst h0
   rw [D.ok.zero, List.mem_singleton] at ha
   injection ha with ha
   rcases zAu hv k1 with ⟨e1, e2⟩ | ⟨e1, _⟩
   ·rw [e2] at k2
    omega
   ·omega
  ·obtain ⟨i', x, _, hc, _, _, e⟩ := zCs D (by omega) hi ha
   have := (zAK.1 (zAS hc)).2.1
   injection e with e1 e2
   omega
theorem zCh : ∀ {a b : List Int}, a.Pairwise (· < ·) -> b.Pairwise (· < ·) -> (∀ x, x ∈ a ↔ x ∈ b) -> a = b
 | [], [], _, _, _ => rfl
 | [], y :: b, _, _, h => absurd ((h y).2 (List.mem_cons_self ..)) (by simp)
 | x :: a, [], _, _, h => absurd ((h x).1 (List.mem_cons_self ..)) (by simp)
 | x :: a, y :: b, ha, hb, h => by
  have ha' := List.pairwise_cons.1 ha
  have hb' := List.pairwise_cons.1 hb
  have e : x = y := by
   rcases List.mem_cons.1 ((h x).1 (List.mem_cons_self ..)) with e | h1
   ·exact e
   ·rcases List.mem_cons.1 ((h y).2 (List.mem_cons_self ..)) with e | h2
    ·exact e.symm
    ·have := hb'.1 x h1
     have := ha'.1 y h2
     omega
  subst e
  refine congrArg _ (zCh ha'.2 hb'.2 fun z => ⟨fun hz => ?_, fun hz => ?_⟩)
  ·rcases List.mem_cons.1 ((h z).1 (List.mem_cons_of_mem _ hz)) with e | h1
   ·have := ha'.1 z hz
    omega
   ·exact h1
  ·rcases List.mem_cons.1 ((h z).2 (List.mem_cons_of_mem _ hz)) with e | h1
   ·have := hb'.1 z hz
    omega
   ·exact h1
def endR (G : Gram) (L : List Itm) : List Int := (L.filter fun x => !behB G x).map (·.1)
theorem zDv (G : Gram) (L : List Itm) (x : Itm) : endR G (L ++ [x]) = endR G L ++ (if behB G x then [] else [x.1]) := by
 unfold endR
 rw [List.filter_append, List.map_append]
 congr 1
 cases h : behB G x <;> simp [h]
theorem zH8 (G : Gram) (L : List Itm) : (endR G L).length <= L.length := by
 unfold endR
 rw [List.length_map]
 exact List.length_filter_le _ _
theorem zNp {G : Gram} {q : Whole} (D : Done G q) (hv : checkN G = 0) {i : Nat} (hi : i < q.1.length) {z : Int} : z ∈ endR G (cloL G (zAF q.1 i) (zBd q i)) ↔ ∃ k : Nat, k <= G.rules.length /\ z = (k : Int) /\ Clo G (zAF q.1 i) (endI G k) := by
 unfold endR
 rw [List.mem_map]
 constructor
 ·rintro ⟨x, hx, rfl⟩
  obtain ⟨h1, h2⟩ := List.mem_filter.1 hx
  have hc := (zDs D hv hi x).1 h1
  obtain ⟨k, hk, e⟩ := (zCe hc).1 (by simpa using h2)
  exact ⟨k, hk, by rw [e]; rfl, e ▸ hc⟩
 ·rintro ⟨k, hk, rfl, hc⟩
  exact ⟨endI G k, List.mem_filter.2 ⟨(zDs D hv hi _).2 hc, by rw [(zCe hc).2 ⟨k, hk, rfl⟩]; rfl⟩, rfl⟩
theorem zI3 {G : Gram} {q : Whole} (D : Done G q) (hv : checkN G = 0) {i : Nat} (hi : i < q.1.length) : (endR G (cloL G (zAF q.1 i) (zBd q i))).Nodup := by
 unfold endR
 refine List.pairwise_map.2 ((List.Pairwise.filter _ (zDE D hv hi)).imp_of_mem fun {a b} ha hb hab e => hab ?_)
 obtain ⟨a1, a2⟩ := List.mem_filter.1 ha
 obtain ⟨b1, b2⟩ := List.mem_filter.1 hb
 obtain ⟨k, _, e1⟩ := (zCe ((zDs D hv hi a).1 a1)).1 (by simpa using a2)
 obtain ⟨m, _, e2⟩ := (zCe ((zDs D hv hi b).1 b1)).1 (by simpa using b2)
 subst e1 e2
 have : ((k : Nat) : Int) = (m : Int) := e
 rw [show k = m by omega]
open Classical in
theorem zH9 (G : Gram) (q : Whole) (i : Nat) : ((zAY G q i).map fun y => (y.1 : Int)).Pairwise (· < ·) := by
 unfold zAY
 rw [List.map_map]
 refine List.pairwise_map.2 ((List.Pairwise.filter _ List.pairwise_lt_range).imp fun {a b} h => ?_)
 show ((a : Nat) : Int) < (b : Int)
 omega
open Classical in
theorem zHB {G : Gram} {q : Whole} (D : Done G q) (hv : checkN G = 0) {i : Nat} (hi : i < q.1.length) {X Y : List Lkx} (hX : X.map (·.1) = endR G (cloL G (zAF q.1 i) (zBd q i))) (hp : Y.Perm X) (hs : Y.Pairwise (fun a b => ¬ b.1 < a.1)) :
  Y.map (·.1) = (zAY G q i).map fun y => (y.1 : Int) := by
 have hn : (Y.map (·.1)).Nodup := by
  refine (hp.map _).nodup_iff.2 ?_
  rw [hX]
  exact zI3 D hv hi
 refine zCh ?_ (zH9 G q i) fun z => ?_
 ·have h1 := List.pairwise_map.1 hn
  refine List.pairwise_map.2 (hs.imp₂ (fun {a b} h1 h2 => ?_) h1)
  have h2' : a.1 ≠ b.1 := h2
  omega
 ·rw [(hp.map _).mem_iff, hX, zNp D hv hi]
  unfold zAY
  rw [List.map_map, List.mem_map]
  constructor
  ·rintro ⟨k, h1, rfl, h2⟩
   exact ⟨k, List.mem_filter.2 ⟨List.mem_range.2 (by omega), decide_eq_true h2⟩, rfl⟩
  ·rintro ⟨k, h1, rfl⟩
   obtain ⟨h2, h3⟩ := List.mem_filter.1 h1
   exact ⟨k, by have := List.mem_range.1 h2; omega, rfl, of_decide_eq_true h3⟩
def zJ6 (base : Nat) (x : Lkx) (Y : List Nat) (w : World) : Prop := w.ownsRow base 3 1 (lks x) Y.length (nivs Y)
def EndV (base : Nat) (Y : List (Nat × List Nat)) (v : Value) (w : World) : Prop :=
 ∃ X : List Lkx, LksV base X v w /\ X.map (·.1) = Y.map (fun y => (y.1 : Int)) /\ ∀ k (h : k < X.length) (h' : k < Y.length), zJ6 base X[k] Y[k].2 w
structure EndI (G : Gram) (q : Whole) (i base : Nat) (L : List Itm) (X : List Lkx) (v : Value) (w : World) : Prop where
 row : LksV base X v w
 rules : X.map (·.1) = endR G L
 terms : ∀ x ∈ X, zJ6 base x (laL G q i (endI G x.1.toNat)) w
 off : ∀ x ∈ X, ∀ g, (lks x).ownBlock = some g -> v.ownBlock ≠ some g
theorem EndI.went {G : Gram} {q : Whole} {i base : Nat} {L : List Itm} {X : List Lkx} {v : Value} {w w' : World} (h : EndI G q i base L X v w) (hb : Below w.heap.size w w') : EndI G q i base L X v w' :=
 ⟨Sep.zAE h.row fun g hg => hb.block g (World.ownsRow.lt h.row g hg).2, h.rules, fun x hx => Sep.zAE (h.terms x hx) fun g hg => hb.block g (World.ownsRow.lt (h.terms x hx) g hg).2, h.off⟩
theorem EndI.nil (G : Gram) (q : Whole) (i base : Nat) (w : World) : EndI G q i base [] [] (.slice none 0 0) w := ⟨World.ownsRow_nil _ _ _ _, rfl, (fun x hx => by cases hx), (fun x hx => by cases hx)⟩
theorem EndI.skip {G : Gram} {q : Whole} {i base : Nat} {L : List Itm} {X : List Lkx} {v : Value} {w : World} (h : EndI G q i base L X v w) {x : Itm} (hx : behB G x = true) : EndI G q i base (L ++ [x]) X v w :=
 ⟨h.row, by rw [zDv, hx]; simpa using h.rules, h.terms, h.off⟩
theorem EndI.len {G : Gram} {q : Whole} {i base : Nat} {L : List Itm} {X : List Lkx} {v : Value} {w : World} (h : EndI G q i base L X v w) : X.length <= L.length := by
 have := congrArg List.length h.rules
 rw [List.length_map] at this
 rw [this]
 exact zH8 G L
theorem EndI.snoc {G : Gram} {q : Whole} {i base : Nat} {L : List Itm} {X : List Lkx} {v v' : Value} {w w1 w2 : World} (h : EndI G q i base L X v w) {k : Nat} (hk : behB G (endI G k) = false) {y : Lkx} (hy : y.1 = (k : Int)) (hw : Below w.heap.size w w1) (hz : base <= w.heap.size)
  (hT : w1.ownsRow w.heap.size 3 1 (lks y) (laL G q i (endI G k)).length (nivs (laL G q i (endI G k)))) (hown : w2.ownsRow base 39 2 v' (X.length + 1) (X.flatMap lc ++ lc y)) (hg : w1.grownBy w2 v.ownBlock) (hv : v'.ownBlock = v.ownBlock \/ ∀ g, v'.ownBlock = some g -> w1.heap.size <= g) :
  EndI G q i base (L ++ [endI G k]) (X ++ [y]) v' w2 := by
 have hlt := fun g (e : (lks y).ownBlock = some g) => World.ownsRow.lt hT g e
 have hnew : ∀ g, (lks y).ownBlock = some g -> v.ownBlock ≠ some g := fun g e e2 => by
  have h1 := (World.ownsRow.lt h.row g e2).2
  have h2 := (hlt g e).1
  omega
 refine ⟨?_, ?_, fun x hx => ?_, fun x hx g e e2 => ?_⟩
 ·unfold LksV
  rw [List.length_append, List.flatMap_append]
  simpa using hown
 ·rw [List.map_append, h.rules, zDv, hk]
  simp [hy, endI]
 ·rcases List.mem_append.1 hx with hx | hx
  ·refine Sep.zAE (h.terms x hx) fun g e => ?_
   have hl := (World.ownsRow.lt (h.terms x hx) g e).2
   exact (hg.block g (Nat.lt_of_lt_of_le hl hw.size) fun e2 => h.off x hx g e e2.symm).trans (hw.block g hl)
  ·rw [List.mem_singleton] at hx
   subst hx
   unfold zJ6
   rw [hy]
   refine Rw.zBG (Sep.zAE hT fun g e => hg.block g (hlt g e).2 fun e2 => hnew g e e2.symm) hz
 ·have hl : g < w1.heap.size /\ v.ownBlock ≠ some g := by
   rcases List.mem_append.1 hx with hx | hx
   ·exact ⟨Nat.lt_of_lt_of_le (World.ownsRow.lt (h.terms x hx) g e).2 hw.size, h.off x hx g e⟩
   ·rw [List.mem_singleton] at hx
    subst hx
    exact ⟨(hlt g e).2, hnew g e⟩
  rcases hv with r | r
  ·exact hl.2 (r.symm.trans e2)
  ·have := r g e2
   omega
theorem EndI.sorted {G : Gram} {q : Whole} (D : Done G q) (hv : checkN G = 0) {i base : Nat} (hi : i < q.1.length) {X Y : List Lkx} {v : Value} {w w2 : World} (h : EndI G q i base (cloL G (zAF q.1 i) (zBd q i)) X v w) (hp : Y.Perm X) (hs : Y.Pairwise (fun a b => ¬ b.1 < a.1)) (hr : LksV base Y v w2) (hg : w.grownBy w2 v.ownBlock) :
  EndV base (zAY G q i) v w2 := by
 have hm := zHB D hv hi h.rules hp hs
 refine ⟨Y, hr, hm, fun k h1 h2 => ?_⟩
 have hx : Y[k] ∈ X := hp.mem_iff.1 (List.getElem_mem h1)
 have e1 : Y[k].1 = (((zAY G q i)[k]).1 : Int) := by
  have h3 : (Y.map (·.1))[k]? = ((zAY G q i).map fun y => (y.1 : Int))[k]? := by rw [hm]
  rw [List.getElem?_map, List.getElem?_map, List.getElem?_eq_getElem h1, List.getElem?_eq_getElem h2] at h3
  injection h3
 have e2 : ((zAY G q i)[k]).2 = laL G q i (endI G ((zAY G q i)[k]).1) := by
  have h3 := List.getElem_mem h2
  generalize (zAY G q i)[k] = z at h3
  unfold zAY at h3
  obtain ⟨k', _, rfl⟩ := List.mem_map.1 h3
  rfl
 have ht := h.terms _ hx
 rw [e1, Int.toNat_natCast, ← e2] at ht
 exact Sep.zAE ht fun g e => hg.block g (World.ownsRow.lt ht g e).2 fun e2 => h.off _ hx g e e2.symm
theorem EndV.went {base : Nat} {Y : List (Nat × List Nat)} {v : Value} {w w' : World} (h : EndV base Y v w) (hb : Below w.heap.size w w') : EndV base Y v w' := by
 obtain ⟨X, h1, h2, h3⟩ := h
 exact ⟨X, Sep.zAE h1 fun g hg => hb.block g (World.ownsRow.lt h1 g hg).2, h2, fun k a b => Sep.zAE (h3 k a b) fun g hg => hb.block g (World.ownsRow.lt (h3 k a b) g hg).2⟩
end Lk
namespace Fr
open Gr
open Fi (rw' lst zLP zII zD9)
open Bt (Keeps)
open Rw (zAH)
structure BRow (d m : Nat) (P : Nat -> Bool) (w : World) : Prop where
 at_ : ∀ s : Nat, s < m -> w.cell? ⟨d, s, none⟩ = some (.bool (P s))
 free : ∀ j : Nat, w.frozen? ⟨d, j, none⟩ = false
 lt : d < w.heap.size
theorem BRow.block {d m : Nat} {P : Nat -> Bool} {w w' : World} (h : BRow d m P w) (hb : w'.heap[d]? = w.heap[d]?) (hs : w.heap.size <= w'.heap.size) : BRow d m P w' :=
 ⟨fun s hs => (World.cell?_of_block (a := ⟨d, s, none⟩) hb).trans (h.at_ s hs), fun x => (World.frozen?_of_block (a := ⟨d, x, none⟩) hb).trans (h.free x), Nat.lt_of_lt_of_le h.lt hs⟩
theorem BRow.went {d m : Nat} {P : Nat -> Bool} {w w' : World} (h : BRow d m P w) (hb : Below w.heap.size w w') : BRow d m P w' := h.block (hb.block d h.lt) hb.size
theorem BRow.keeps {d m k : Nat} {P : Nat -> Bool} {w w' : World} (h : BRow d m P w) (hk : Keeps k w w') (hd : d ≠ k) : BRow d m P w' := h.block (hk.block d h.lt hd) hk.size
theorem BRow.set {d m : Nat} {P : Nat -> Bool} {w : World} (h : BRow d m P w) {s : Nat} (hs : s < m) : BRow d m (fun t => P t || decide (t = s)) (w.setCell ⟨d, s, none⟩ (.bool true)) := by
 refine ⟨fun t ht => ?_, fun j => ?_, by rw [Rw.zBz]; exact h.lt⟩
 ·by_cases e : t = s
  ·subst e
   rw [World.cell?_setCell_same _ _ _ (h.at_ t ht)]
   simp
  ·rw [World.cell?_setCell_other _ _ _ _ (by intro e2; exact e (congrArg Addr.off e2).symm), h.at_ t ht]
   simp [e]
 ·rw [World.frozen?_setCell]
  exact h.free j
theorem zK0 : (Tryz.prog.info? 4).map (fun i => (i.zero, i.size, i.bytes)) = some (some (.bool false), 1, 1) := by kernel_rfl
theorem zDI (n : Nat) (hn : n <= 10000) (w : World) :
  (Instr.makeSlice 65 (.int .i64 (n : Int)) (.int .i64 (n : Int))).run Tryz.prog w = .ok (.slice (some ⟨w.heap.size, 0, none⟩) n n) (w.alloc (.cells (madeCells #[.bool false] n) 4)) :=
 run_make_row' 65 4 (.bool false) 1 Tryz.underlying65 zK0 rfl .i64 .i64 n (by omega) (by omega) w
theorem zFK (n : Nat) (w : World) : BRow w.heap.size n (fun _ => false) (w.alloc (.cells (madeCells #[.bool false] n) 4)) := by
 have B := Rw.Bk.new w (madeCells #[.bool false] n) 4 _ rfl
 exact ⟨fun s hs => B.cell (Bt.zCx n s hs _), fun j => B.free j, B.lt⟩
def upK (P Q : Nat -> Bool) (k : Nat) : Nat -> Bool := fun i => P i || (decide (i < k) && Q i)
theorem zOq (P Q : Nat -> Bool) : upK P Q 0 = P := by funext i; simp [upK]
theorem zQt {P Q : Nat -> Bool} {m : Nat} (hQ : ∀ i, Q i = true -> i < m) : upK P Q m = fun i => P i || Q i := by
 funext i
 unfold upK
 cases e : Q i with
 | false => simp
 | true => simp [hQ i e]
theorem zIk {P Q : Nat -> Bool} {k : Nat} (h : Q k = true -> P k = true) : upK P Q (k + 1) = upK P Q k := by
 funext i
 unfold upK
 by_cases e : i = k
 ·subst e
  cases hq : Q i with
  | false => simp
  | true => simp [h hq]
 ·have : decide (i < k + 1) = decide (i < k) := by rw [decide_eq_decide]; omega
  rw [this]
theorem zQu {P Q : Nat -> Bool} {k : Nat} (h : Q k = true) : (fun t => upK P Q k t || decide (t = k)) = upK P Q (k + 1) := by
 funext i
 unfold upK
 by_cases e : i = k
 ·subst e
  simp [h]
 ·have : decide (i < k + 1) = decide (i < k) := by rw [decide_eq_decide]; omega
  rw [this]
  simp [e]
theorem zRx (P Q : Nat -> Bool) (k : Nat) : upK P Q k k = P k := by simp [upK]
def Gk (P Q : Nat -> Bool) (k : Nat) (b : Bool) : Prop := b = true ↔ ∃ i, i < k /\ Q i = true /\ P i = false
theorem zHH (P Q : Nat -> Bool) : Gk P Q 0 false := by
 unfold Gk
 constructor
 ·intro h; cases h
 ·rintro ⟨i, h, _⟩; omega
theorem zFT {P Q : Nat -> Bool} {k : Nat} {b : Bool} (h : Gk P Q k b) (hk : Q k = true -> P k = true) : Gk P Q (k + 1) b := by
 unfold Gk at h ⊢
 rw [h]
 constructor
 ·rintro ⟨i, h1, h2⟩; exact ⟨i, by omega, h2⟩
 ·rintro ⟨i, h1, h2, h3⟩
  by_cases e : i = k
  ·subst e
   rw [hk h2] at h3
   cases h3
  ·exact ⟨i, by omega, h2, h3⟩
theorem zRQ {P Q : Nat -> Bool} {k : Nat} (h1 : Q k = true) (h2 : P k = false) : Gk P Q (k + 1) true := ⟨fun _ => ⟨k, by omega, h1, h2⟩, fun _ => rfl⟩
def zQ5 (d m : Nat) (P Q : Nat -> Bool) (w : World) (e : Ending) (w' : World) : Prop :=
 ∃ b, e = .returned (.bool b) /\ (b = true ↔ ∃ i, Q i = true /\ P i = false) /\ BRow d m (fun i => P i || Q i) w' /\ Keeps d w w'
def zSM (d e m : Nat) (P Q : Nat -> Bool) (W : World) (v i : Value) (w : World) : Prop :=
 ∃ (k : Nat) (b : Bool), k <= m /\ i = .int .i64 k /\ v = .bool b /\ Gk P Q k b /\ BRow d m (upK P Q k) w /\ BRow e m Q w /\ Keeps d W w
theorem zAk (d e m c1 c2 : Nat) (P Q : Nat -> Bool) (w : World) (hd : BRow d m P w) (he : BRow e m Q w) (hne : d ≠ e) (hQ : ∀ i, Q i = true -> i < m) (hm : m <= 10000) :
  Calls Tryz.prog 34 #[.slice (some ⟨d, 0, none⟩) m c1, .slice (some ⟨e, 0, none⟩) m c2] w (zQ5 d m P Q w) := by
 have D0 := zSt (show BRow d m (upK P Q 0) w by rw [zOq]; exact hd)
 have E0 := zSt he
 have QE := zSt (zQt (P := P) hQ)
 have HQ := zSt hQ
 clear hd he hQ
 go_enter Tryz.func34, Tryz.ntmps34
 go_wp2
 go_loopw [5, 6] (fun v i wr => zSM d e m P Q w v i wr) (fun _ i _ => m - (intOf i).toNat)
 case atStart => exact ⟨0, false, Nat.zero_le _, rfl, rfl, zHH _ _, D0.out, E0.out, .refl _ _⟩
 case round =>
  clear D0 E0
  obtain ⟨k, b, hk, rfl, rfl, hg, hD, hE, hK⟩ := hrel
  have GG := zSt hg
  have D1 := zSt hD
  have E1 := zSt hE
  have K1 := zSt hK
  clear hg hD hE hK
  by_cases hlt : k < m
  ·have z1 := D1.out.at_ k hlt
   rw [zRx] at z1
   have z2 := E1.out.at_ k hlt
   have zf := D1.out.free k
   cases hq : Q k with
   | false =>
    have G2 := zSt (zFT GG.out (fun h => by rw [hq] at h; cases h))
    have D2 := zSt (show BRow d m (upK P Q (k + 1)) wr by rw [zIk (fun h => by rw [hq] at h; cases h)]; exact D1.out)
    rw [hq] at z2
    clear hq
    go_wp2
    go_roundw
    case rel => exact ⟨k + 1, b, by omega, by go_num, rfl, G2.out, D2.out, E1.out, K1.out⟩
    case measure => simp [intOf]; omega
   | true =>
    cases hp : P k with
    | true =>
     have G2 := zSt (zFT GG.out (fun _ => hp))
     have D2 := zSt (show BRow d m (upK P Q (k + 1)) wr by rw [zIk (fun _ => hp)]; exact D1.out)
     rw [hq] at z2
     rw [hp] at z1
     clear hq hp
     go_wp2
     go_roundw
     case rel => exact ⟨k + 1, b, by omega, by go_num, rfl, G2.out, D2.out, E1.out, K1.out⟩
     case measure => simp [intOf]; omega
    | false =>
     have G2 := zSt (zRQ hq hp)
     have D2 := zSt (show BRow d m (upK P Q (k + 1)) (wr.setCell ⟨d, k, none⟩ (.bool true)) by rw [← zQu hq]; exact D1.out.set hlt)
     have K2 := zSt ((Keeps.refl d wr).setCell k (.bool true))
     have E2 := zSt (E1.out.keeps K2.out (fun h => hne h.symm))
     rw [hq] at z2
     rw [hp] at z1
     clear hq hp
     go_wp2
     go_roundw
     case rel => exact ⟨k + 1, true, by omega, by go_num, rfl, G2.out, D2.out, E2.out, K1.out.trans K2.out⟩
     case measure => simp [intOf]; omega
  ·have hE : k = m := by omega
   subst hE
   have D2 := zSt (show BRow d k (fun i => P i || Q i) wr by rw [← QE.out]; exact D1.out)
   have G2 := zSt (show b = true ↔ ∃ i, Q i = true /\ P i = false from by
    have := GG.out
    unfold Gk at this
    rw [this]
    exact ⟨fun ⟨i, _, h⟩ => ⟨i, h⟩, fun ⟨i, h⟩ => ⟨i, HQ.out i h.1, h⟩⟩)
   go_wp2
   go_ret
   exact ⟨b, rfl, G2.out, D2.out, K1.out⟩
theorem zOK (d m c1 c2 : Nat) (P : Nat -> Bool) (w : World) (hd : BRow d m P w) (hm : m <= 10000) :
  Calls Tryz.prog 34 #[.slice (some ⟨d, 0, none⟩) m c1, .slice (some ⟨d, 0, none⟩) m c2] w (fun e w' => e = .returned (.bool false) /\ w = w') := by
 have D0 := zSt hd
 clear hd
 go_enter Tryz.func34, Tryz.ntmps34
 go_wp2
 go_loopw [5, 6] (fun v i wr => ∃ k : Nat, k <= m /\ i = .int .i64 k /\ v = .bool false /\ w = wr) (fun _ i _ => m - (intOf i).toNat)
 case atStart => exact ⟨0, Nat.zero_le _, rfl, rfl, rfl⟩
 case round =>
  obtain ⟨k, hk, rfl, rfl, eqs⟩ := hrel
  subst eqs
  by_cases hlt : k < m
  ·have z1 := D0.out.at_ k hlt
   cases hq : P k with
   | false =>
    rw [hq] at z1
    clear hq
    go_wp2
    go_roundw
    case rel => exact ⟨k + 1, by omega, by go_num, rfl, by first | rfl | trivial⟩
    case measure => simp [intOf]; omega
   | true =>
    rw [hq] at z1
    clear hq
    go_wp2
    go_roundw
    case rel => exact ⟨k + 1, by omega, by go_num, rfl, by first | rfl | trivial⟩
    case measure => simp [intOf]; omega
  ·go_wp2
   go_ret
   exact ⟨rfl, rfl⟩
theorem zA5 : (Tryz.prog.info? 3).map (fun i => (i.zero, i.size, i.bytes)) = some (some (.int .i64 0), 1, 8) := by kernel_rfl
def zSE (Q : Int -> Bool) (d m : Nat) (W : World) (v i : Value) (w : World) : Prop :=
 ∃ k : Nat, k <= m /\ i = .int .i64 k /\ W.heap.size <= w.heap.size /\ w.ownsRow W.heap.size 3 1 v (lst Q k).length (ivs (lst Q k)) /\ Below W.heap.size W w
theorem zCN (Q : Int -> Bool) (d m c : Nat) (w : World) (hd : BRow d m (rw' Q) w) (hm : m <= 10000) :
  Calls Tryz.prog 38 #[.slice (some ⟨d, 0, none⟩) m c] w (Listed (lst Q m) w) := by
 obtain ⟨i0, hi, hz0, hz1, hz2⟩ := info_parts zA5
 have D0 := zSt (fun w' (b : Below w.heap.size w w') => hd.went b)
 clear hd
 go_enter Tryz.func38, Tryz.ntmps38
 go_wp2
 go_loopw [3, 4] (fun v i wr => zSE Q d m w v i wr) (fun _ i _ => m - (intOf i).toNat)
 case atStart => exact ⟨0, Nat.zero_le _, rfl, Nat.le_refl _, World.ownsRow_nil _ _ _ _, .refl _ _⟩
 case round =>
  obtain ⟨k, hk, rfl, hsz, hO, hb⟩ := hrel
  have O := zSt hO
  have B := zSt hb
  obtain ⟨va, vc, rfl⟩ := zAH hO
  have hl := zD9 Q k
  clear hO hb
  by_cases hlt : k < m
  ·have z := (D0.out _ B.out).at_ k hlt
   cases hq : rw' Q k with
   | false =>
    have E := zSt (zII (P := Q) (n := k) hq)
    rw [hq] at z
    clear hq
    go_wp2
    go_roundw
    case rel => exact ⟨k + 1, by omega, by go_num, hsz, by rw [E.out]; exact O.out, B.out⟩
    case measure => simp [intOf]; omega
   | true =>
    have E := zSt (zLP (P := Q) (n := k) hq)
    rw [hq] at z
    clear hq
    go_wp2_with (at_builtin; refine wpList_append_own _ rfl _ _ 37 rfl w.heap.size 3 i0 (.int .i64 0) 1 8 Tryz.underlying37 hi hz0 hz1 hz2 rfl (by decide) _ _ _ rfl (O.out.alloc _) ⟨wr.heap.size, 0, none⟩ 1 1 [.int .i64 (k : Int)] rfl rfl ?c1 ?c2 ?c3 ?c4 ?c5 ?_)
    case c1 =>
     intro j u hj
     match j, hj with
     | 0, hj => simp at hj; subst hj; simp [Addr.add]
    case c2 => intro u hu; simp at hu; subst hu; rfl
    case c3 => unfold maxLen; omega
    case c4 => omega
    case c5 => simp; omega
    intro v' w2 hown' hgrow _
    have O2 := zSt (show w2.ownsRow w.heap.size 3 1 v' (lst Q (k + 1)).length (ivs (lst Q (k + 1))) by
     rw [E.out]
     unfold ivs at hown' ⊢
     rw [List.map_append, List.length_append]
     exact hown')
    have B2 : Hid (Below w.heap.size w w2) := (B.out.alloc hsz _).grown hgrow (by simp; omega) (fun q hq => (O.out.lt q hq).1)
    have hs2 := B2.out.size
    clear hown' hgrow
    go_wp2
    go_roundw
    case rel => exact ⟨k + 1, by omega, by go_num, hs2, O2.out, B2.out⟩
    case measure => simp [intOf]; omega
  ·have hE : k = m := by omega
   subst hE
   go_wp2
   go_ret
   exact ⟨va, vc, rfl, Sep.Reads.of_row O.out, zDL O.out (Nat.le_refl _), B.out⟩
