/- A part of the proof. -/
import Derived.Test.YtbajcecncgdpmaaGreatDoorLookLay
import Derived.Test.YtbajcecncgdpmaaGreatDoorPk27
import Derived.Test.YtbajcecncgdpmaaGreatDoorPk11
set_option maxHeartbeats 4000000
set_option maxRecDepth 100000
set_option linter.unusedVariables false
namespace Go.Proofs.YtbajcecncgdpmaaGreatDoor
open Go.RowKit Go.Maps
namespace Lk
open Im (Gw zDf zF1)
abbrev Lkx := Int × Option Addr × Nat × Nat
def lks (x : Lkx) : Value := .slice x.2.1 x.2.2.1 x.2.2.2
def lc (x : Lkx) : List Value := [.int .i64 x.1, lks x]
theorem zCK (x : Lkx) : (lc x).length = 2 := rfl
theorem zDe (X : List Lkx) : (X.flatMap lc).length = X.length * 2 := by
 induction X with
 | nil => rfl
 | cons x X ih =>
  rw [List.flatMap_cons, List.length_append, ih, zCK, List.length_cons]
  omega
def LksV (base : Nat) (X : List Lkx) (v : Value) (w : World) : Prop := w.ownsRow base 39 2 v X.length (X.flatMap lc)
def cmpL (x y : Lkx) : Int := Lib.compareInt x.1 y.1
theorem zGF (x y : Lkx) : ltOf cmpL x y = decide (x.1 < y.1) := by
 unfold ltOf cmpL Lib.compareInt
 by_cases h1 : x.1 < y.1
 ·simp [h1]
 ·by_cases h2 : y.1 < x.1 <;> simp [h1, h2]
theorem zNv : Go.Sort.SWO (ltOf cmpL) where
 irrefl x := by
  rw [zGF, decide_eq_false_iff_not]
  omega
 trans x y z h1 h2 := by
  rw [zGF, decide_eq_true_iff] at *
  omega
 ntrans x y z h1 h2 := by
  rw [zGF, decide_eq_false_iff_not] at *
  omega
theorem zQQ (x y : Lkx) (w : World) :
  Calls Tryz.prog 63 #[.agg #[.int .i64 x.1, lks x], .agg #[.int .i64 y.1, lks y]] w fun e w' => e = .returned (.int .i64 (cmpL x y)) /\ Gw w w' := by
 have C := zUB zDf
 unfold cmpL lks
 go_enter Tryz.func63, Tryz.ntmps63
 go_wp2_with (first
  | (go_at_call 64; refine (C.out _ _ _).mono ?_; rintro e wn ⟨rfl, rfl⟩)
  | fail)
 go_ret
 exact ⟨rfl, by first | exact (((Gw.refl w).alloc _).alloc _) | exact (((Gw.refl w).alloc _).alloc _).drew⟩
theorem zM8 (d : Array Lkx) : Go.Sort.flatK lc 2 d = (d.toList.flatMap lc).toArray := by
 have hl := zDe d.toList
 apply Array.ext_getElem?
 intro t
 by_cases ht : t < d.size * 2
 ·have hi : t / 2 < d.toList.length := by rw [Array.length_toList]; omega
  have h := Rw.zBy lc zCK d.toList (t / 2) hi (t % 2) (Nat.mod_lt _ (by omega))
  rw [show t / 2 * 2 + t % 2 = t by omega] at h
  conv => rhs; rw [List.getElem?_toArray, h]
  unfold Go.Sort.flatK
  rw [Array.getElem?_map, Array.getElem?_range, if_pos ht]
  have hi' : t / 2 < d.size := by omega
  rw [Option.map_some, getElem!_pos d (t / 2) hi', Array.getElem_toList]
  rcases Nat.mod_two_eq_zero_or_one t with e | e <;> rw [e] <;> simp [lc]
 ·conv => rhs; rw [List.getElem?_toArray]
  rw [Array.getElem?_eq_none (by simp; omega), List.getElem?_eq_none (by rw [hl, Array.length_toList]; omega)]
theorem zPN {base : Nat} {X : List Lkx} {g cap : Nat} {w : World} (h : LksV base X (.slice (some ⟨g, 0, none⟩) X.length cap) w) : Go.Sort.HoldsK lc 2 w g 0 X.toArray /\ g < w.heap.size := by
 rcases h.2 with ⟨e, _⟩ | ⟨g', cap', cur, e, _, hb, _, _, h3, h4⟩
 ·cases e
 ·simp only [Value.slice.injEq, Option.some.injEq, Addr.mk.injEq, and_true, true_and] at e
  obtain ⟨rfl, rfl⟩ := e
  refine ⟨?_, (Array.getElem?_eq_some_iff.1 hb).1⟩
  unfold Go.Sort.HoldsK
  rw [zM8]
  intro j hj
  have hl := zDe X
  simp only [List.size_toArray] at hj
  refine ⟨?_, by simp [World.frozen?, hb]⟩
  have h1 : (cur.toList.take (X.length * 2))[j]? = (X.flatMap lc)[j]? := by rw [h4]
  rw [List.getElem?_take_of_lt (by omega)] at h1
  simp only [World.cell?, hb, Nat.zero_add]
  simp only [Option.isSome_none, Bool.false_eq_true, if_false]
  rw [← Array.getElem?_toList, h1]
  simp only [List.getElem!_toArray, id]
  rw [List.getElem?_eq_getElem hj, getElem!_pos _ j hj]
theorem zRZ {base : Nat} {X Y : List Lkx} {g cap n : Nat} {w : World} {os : Array Obj} (h : LksV base X (.slice (some ⟨g, 0, none⟩) X.length cap) w) (hl : Y.length = X.length) :
  LksV base Y (.slice (some ⟨g, 0, none⟩) X.length cap) (sortWorldK lc 2 w g 0 n Y.toArray os) /\ w.grownBy (sortWorldK lc 2 w g 0 n Y.toArray os) (some g) := by
 unfold sortWorldK Go.Sort.putRowK
 rw [zM8]
 rcases h.2 with ⟨e, _⟩ | ⟨g', cap', cur, e, hbase, hb, h1, h2, h3, h4⟩
 ·cases e
 ·simp only [Value.slice.injEq, Option.some.injEq, Addr.mk.injEq, and_true, true_and] at e
  obtain ⟨rfl, rfl⟩ := e
  have hly := zDe Y
  have hgr := Im.zGv (w := w) (g := g) (n := n) (os := os) ((Y.flatMap lc).toArray)
  refine ⟨⟨by rw [hly], .inr ⟨g, cap, _, by rw [hl], hbase, Im.zJa _ hb, by omega, h2, by simp [Go.Sort.putCells, h3], ?_⟩⟩, hgr⟩
  rw [← hly]
  exact Im.zFD cur _ (by rw [hly]; have := Nat.mul_le_mul_right 2 h1; omega)
theorem zEp (p : Option Addr) (c : Nat) (fv : Value) (w : World) :
  Calls Tryz.prog 129 #[.slice p 0 c, .int .i64 0, .int .i64 0, fv] w fun e w' => e = .returned (.tuple #[]) /\ w' = w := by
 go_enter Tryz.func129, Tryz.ntmps129
 go_wp2
 refine wp_loop_rounds 1 ?_
 rw [rounds_succ]
 go_wp2
 go_end0
 exact ⟨rfl, rfl⟩
theorem zLK (p : Option Addr) (c : Nat) (lim : Int) (fv : Value) (w : World) :
  Calls Tryz.prog 97 #[.slice p 0 c, .int .i64 0, .int .i64 0, .int .i64 lim, fv] w fun e w' => e = .returned (.tuple #[]) /\ w' = w := by
 have hi := fun W => zEp p c fv W
 go_enter Tryz.func97, Tryz.ntmps97
 go_wp2
 refine wp_loop_rounds 1 ?_
 rw [rounds_succ]
 go_wp2_with (go_at_call 129; refine (hi _).mono ?_; rintro e w' ⟨rfl, rfl⟩)
 (try simp only [Exit.inBlock, Exit.then]); refine bodyPost_ret (results_none rfl _ _ _) rfl ?_
 exact ⟨rfl, rfl⟩
theorem zKS (p : Option Addr) (c : Nat) (fv : Value) (w : World) :
  Calls Tryz.prog 62 #[.slice p 0 c, fv] w fun e w' => e = .returned (.tuple #[]) /\ w' = w := by
 have hp := fun lim W => zLK p c lim fv W
 have hl := zF1
 go_enter Tryz.func62, Tryz.ntmps62
 go_wp2_with (first
  | (go_at_call 98; refine (hl _).mono ?_; rintro e w' ⟨rfl, rfl⟩)
  | (go_at_call 97; refine (hp _ _).mono ?_; rintro e w' ⟨rfl, rfl⟩))
 go_end0
 exact ⟨rfl, rfl⟩
theorem zPF (base : Nat) (X : List Lkx) (a : Option Addr) (c : Nat) (w : World) (h : LksV base X (.slice a X.length c) w) (hl : X.length <= 1000000) :
  Calls Tryz.prog 62 #[.slice a X.length c, .func (.func 63) #[] #[]] w fun e w' => e = .returned (.tuple #[]) /\ ∃ Y, Y.Perm X /\ Y.Pairwise (fun a b => ¬ b.1 < a.1) /\ LksV base Y (.slice a X.length c) w' /\ w.grownBy w' (Value.slice a X.length c).ownBlock := by
 have h' := h
 rcases h'.2 with ⟨e, h0⟩ | ⟨g, cap, cur, e, hbase, hb, _⟩
 ·simp only [Value.slice.injEq] at e
  obtain ⟨rfl, _, rfl⟩ := e
  obtain rfl : X = [] := List.eq_nil_of_length_eq_zero h0
  exact (zKS none 0 _ w).mono fun e w' ⟨h1, h2⟩ => ⟨h1, [], .nil, .nil, by rw [h2]; exact h, by rw [h2]; exact ⟨rfl, rfl, rfl, Nat.le_refl _, fun _ _ _ => rfl⟩⟩
 ·simp only [Value.slice.injEq, true_and] at e
  obtain ⟨rfl, rfl⟩ := e
  obtain ⟨hH, hg⟩ := zPN h
  have eg : ∀ args w, (callFunc 63 args).run Tryz.prog w = .ok (.enter 63 args) w := enters_of Tryz.func63 (by kernel_rfl) rfl
  have hcmp : CmpLays Tryz.prog 63 #[] lc 2 cmpL g 0 X.toArray.size w := fun m os dk _ x y => (zQQ x y _).mono fun e w' ⟨h1, q, os', h2⟩ => ⟨h1, q, os', h2⟩
  have hcon := AnyQ.slices_SortFunc Tryz.sortLk 2 Tryz.isAgg39 Tryz.sizeOf39 lc zCK (fun x v hv => by simp [lc, lks] at hv; rcases hv with rfl | rfl <;> rfl) cmpL zNv 63 #[] g 0 c X.toArray w eg hcmp hH hg (by simp; omega)
  change Calls Tryz.prog 62 _ _ _ at hcon
  simp only [List.size_toArray] at hcon
  refine hcon.mono ?_
  rintro e w' ⟨h1, d', n, os, ⟨p1, p2, p3⟩, hs, rfl⟩
  simp only [List.size_toArray] at p1 p3
  have hp : d'.toList.Perm X := by
   have e1 : d'.extract 0 X.length = d' := by rw [← p1]; simp
   have e2 : X.toArray.extract 0 X.length = X.toArray := by simp
   rw [e1, e2] at p3
   simpa using p3
  have hd : d' = d'.toList.toArray := by simp
  have hr := zRZ (Y := d'.toList) (n := n) (os := os) h (by rw [Array.length_toList]; exact p1)
  rw [← hd] at hr
  refine ⟨h1, d'.toList, hp, ?_, hr.1, hr.2⟩
  rw [List.pairwise_iff_getElem]
  intro i j hi hj hij
  have hi' : i < d'.size := by simpa using hi
  have hj' : j < d'.size := by simpa using hj
  have := hs i j (Nat.zero_le _) hij (by omega)
  rw [zGF, decide_eq_false_iff_not, getElem!_pos d' j hj', getElem!_pos d' i hi'] at this
  simpa using this
end Lk
namespace Im
open Gr (Gram Sh gv GAt Bx boxed checkN zBZ zAA cell_later)
theorem zE0 {W w w' : World} {h : Sh} {G : Gram} {S : Nat -> Prop} (k : Bx W h G w) (f : Sep.Fr S w w') (hS : ∀ i, S i -> W.heap.size + 1 <= i) : Bx W h G w' := by
 have hn : ¬ S W.heap.size := fun h => by have := hS _ h; omega
 exact ⟨k.below.trans (f.below (fun i hi => by have := hS i hi; omega) k.below.size), ⟨f.cell k.box.x0 hn, f.cell k.box.x1 hn, f.cell k.box.x2 hn, f.cell k.box.x3 hn⟩⟩
def VTo (G : Gram) (L : List Itm) (j : Nat) (x : Itm) : Prop := ∃ q, ∃ h : q < L.length, q < j /\ x = L[q] /\ zAI G L[q] = true
theorem zTT {G : Gram} {L : List Itm} {x : Itm} : VTo G L 0 x ↔ False := ⟨fun ⟨_, _, h, _⟩ => by omega, False.elim⟩
theorem zRv {G : Gram} {L : List Itm} {j : Nat} (hj : j < L.length) (hr : zAI G L[j] = true) (x : Itm) : VTo G L j x \/ x = L[j] ↔ VTo G L (j + 1) x := by
 constructor
 ·rintro (⟨q, h1, h2, h3⟩ | e)
  ·exact ⟨q, h1, by omega, h3⟩
  ·exact ⟨j, hj, by omega, e, hr⟩
 ·rintro ⟨q, h1, h2, h3, h4⟩
  by_cases e : q = j
  ·subst e
   exact .inr h3
  ·exact .inl ⟨q, h1, by omega, h3, h4⟩
theorem zNw {G : Gram} {L : List Itm} {j : Nat} (hj : j < L.length) (hr : ¬ zAI G L[j] = true) (x : Itm) : VTo G L j x ↔ VTo G L (j + 1) x := by
 constructor
 ·rintro ⟨q, h1, h2, h3⟩
  exact ⟨q, h1, by omega, h3⟩
 ·rintro ⟨q, h1, h2, h3, h4⟩
  by_cases e : q = j
  ·subst e
   exact absurd h4 hr
  ·exact ⟨q, h1, by omega, h3, h4⟩
theorem zQ1 {G : Gram} {L : List Itm} (x : Itm) : VTo G L L.length x ↔ x ∈ L /\ zAI G x = true := by
 constructor
 ·rintro ⟨q, h1, _, h3, h4⟩
  subst h3
  exact ⟨List.getElem_mem h1, h4⟩
 ·rintro ⟨h1, h2⟩
  obtain ⟨q, hq, rfl⟩ := List.getElem_of_mem h1
  exact ⟨q, hq, hq, rfl, h2⟩
def VSet (G : Gram) (L : List Itm) (x : Itm) : Prop := checkN G = 0 /\ x ∈ L /\ zAI G x = true
def zTc (X : Itm -> Prop) (m : Nat) (w : World) (e : Ending) (w' : World) : Prop :=
 ∃ b n, e = .returned (.map (some b)) /\ w.heap.size <= b /\ n <= m /\ MS b n X w' /\ Below w.heap.size w w'
theorem zMu (h : Sh) (G : Gram) (L : List Itm) (a : Option Addr) (c : Nat) (w : World) (k : GAt h G w) (kl : ItsA a L w) (hw : ∀ x ∈ L, W64 x) (hL : L.length <= 8796093022208) :
  Calls Tryz.prog 148 #[gv h G, .slice a L.length c] w (zTc (VSet G L) L.length w) := by
 have X := zUB (Bx.start h G w 25)
 have C := zUB (fun w1 (b : Below w.heap.size w w1) => zBZ h G w1 (k.went b))
 have F := zUB (fun (x : Itm) w1 (b : Below w.heap.size w w1) => zDw h G x w1 (k.went b))
 have KL := zUB (fun w1 (b : Below w.heap.size w w1) => kl.went b)
 have HW := zUB hw
 have M0 := zUB (MSet.made (H := Nat) (w.alloc (.cells #[.slice h.a1 G.terms.length h.c1, .slice h.a2 G.nons.length h.c2, .slice h.a3 G.rules.length h.c3, .int .i64 G.start] 25)) Tryz.prog 57 unitElem (.agg []))
 have X1 := zUB (X.out.alloc (.map #[] 0))
 have hs1 : (w.alloc (.cells #[.slice h.a1 G.terms.length h.c1, .slice h.a2 G.nons.length h.c2, .slice h.a3 G.rules.length h.c3, .int .i64 G.start] 25)).heap.size = w.heap.size + 1 := by simp
 rw [hs1] at M0
 clear k kl hw X hs1
 by_cases hc : checkN G = 0
 ·rw [hc] at C
  unfold gv at C F ⊢
  have hmm := @run_makeMap Tryz.prog
  go_enter Tryz.func148, Tryz.ntmps148
  go_wp2_with (go_at_call 39; refine (C.out _ X1.out.below).mono ?_; rintro e w1 ⟨rfl, hb⟩; have X := zUB (X1.out.went hb); have M := zUB (M0.out.went hb); clear hb X1 M0)
  go_loopw [15] (fun i wr => ∃ j : Nat, j <= L.length /\ i = .int .i64 j /\ Bx w h G wr /\ ∃ n ≤ j, MS (w.heap.size + 1) n (VTo G L j) wr) (fun i _ => L.length - (intOf i).toNat)
  case atStart => exact ⟨0, Nat.zero_le _, rfl, X.out, 0, Nat.le_refl _, M.out.iff fun x _ => zTT.symm⟩
  case round =>
   obtain ⟨j, hj, rfl, hX, n, hn, hM⟩ := hrel
   clear X M
   have X := zUB hX
   have M := zUB hM
   clear hX hM
   by_cases hlt : j < L.length
   ·obtain ⟨b, o, rfl, c0, c1⟩ := (KL.out wr X.out.below).at j hlt
    have hx := HW.out _ (List.getElem_mem hlt)
    have HH := zUB (fun q => zRv (G := G) (L := L) (j := j) hlt q)
    have HM := zUB (fun q => zNw (G := G) (L := L) (j := j) hlt q)
    have e1 : ((L[j].1, L[j].2) : Itm) = L[j] := rfl
    generalize L[j] = x at *
    obtain ⟨x0, x1⟩ := x
    dsimp only at c0 c1
    have FX := zUB (F.out (x0, x1) _ (X.out.alloc (.cells #[.int .i64 x0, .int .i64 x1] 57)).below)
    have XA := zUB (X.out.alloc (.cells #[.int .i64 x0, .int .i64 x1] 57))
    have y0 : (wr.alloc (.cells #[.int .i64 x0, .int .i64 x1] 57)).cell? ⟨wr.heap.size, 0, none⟩ = some (.int .i64 x0) := zAA rfl rfl
    have y1 : (wr.alloc (.cells #[.int .i64 x0, .int .i64 x1] 57)).cell? ⟨wr.heap.size, 1, none⟩ = some (.int .i64 x1) := zAA rfl rfl
    have MA := zUB (M.out.went (boxed wr (.cells #[.int .i64 x0, .int .i64 x1] 57)))
    have e2 : (VTo G L j (x0, x1)) = VTo G L j (x0, x1) := rfl
    obtain ⟨g0, g1, g2, g3⟩ := XA.out.box
    clear X M e1 e2
    by_cases hr : zAI G (x0, x1) = true
    ·rw [hr] at FX
     unfold iv at FX
     go_wp2_with (first
      | (go_at_call 169; refine FX.out.mono ?_; rintro e w2 ⟨rfl, hb⟩; have X := zUB (XA.out.went hb); have M := zUB (MA.out.went hb); have z0 := cell_later hb y0; have z1 := cell_later hb y1; have PA := zUB (zBd (x0, x1) hx (w.heap.size + 1) n (VTo G L j) w2 M.out (by unfold maxLen; omega)); clear hb)
      | (go_at_call 170; refine PA.out.mono ?_; rintro e w3 ⟨ok, _, rfl, hm, hf⟩; have MB := zUB hm; have XB := zUB (zE0 X.out hf fun i hi => by omega); clear hm hf))
     go_roundw
     case rel => exact ⟨j + 1, by omega, by go_num, XB.out, n + 1, by omega, MB.out.iff fun x _ => HH.out hr x⟩
     case measure => simp [intOf]; omega
    ·have hr' : zAI G (x0, x1) = false := by simpa using hr
     rw [hr'] at FX
     unfold iv at FX
     go_wp2_with (go_at_call 169; refine FX.out.mono ?_; rintro e w2 ⟨rfl, hb⟩; have X := zUB (XA.out.went hb); have M := zUB (MA.out.went hb); clear hb)
     go_roundw
     case rel => exact ⟨j + 1, by omega, by go_num, X.out, n, by omega, M.out.iff fun x _ => HM.out hr x⟩
     case measure => simp [intOf]; omega
   ·have hE : j = L.length := by omega
    subst hE
    go_wp2
    go_ret
    refine ⟨_, n, rfl, by omega, hn, M.out.iff fun x _ => ?_, X.out.below⟩
    rw [zQ1]
    exact ⟨fun h => ⟨hc, h⟩, fun h => h.2⟩
 ·have hb : (checkN G == 0) = false := by simpa using hc
  unfold gv at C ⊢
  have hmm := @run_makeMap Tryz.prog
  go_enter Tryz.func148, Tryz.ntmps148
  go_wp2_with (go_at_call 39; refine (C.out _ X1.out.below).mono ?_; rintro e w1 ⟨rfl, hb⟩; have X := zUB (X1.out.went hb); have M := zUB (M0.out.went hb); clear hb X1 M0)
  go_ret
  exact ⟨_, 0, rfl, by omega, Nat.zero_le _, M.out.iff fun x _ => ⟨False.elim, fun h => hc h.1⟩, X.out.below⟩
end Im
namespace Im
open Gr (Gram Sh gv GAt Box step checkN ofN ofL zHb ivs)
theorem zF6 {a : Option Addr} {xs : List Value} {S : Nat -> Prop} {w w' : World} (h : Sep.Reads a xs w) (f : Sep.Fr S w w') (hn : ∀ b o, a = some ⟨b, o, none⟩ -> ¬ S b) : Sep.Reads a xs w' := fun i hi => by
 obtain ⟨b, o, e, hc⟩ := h i hi
 exact ⟨b, o, e, f.cell hc (hn b o e)⟩
structure Bo (W : World) (h : Sh) (G : Gram) (x : Itm) (d : Nat) (w : World) : Prop where
 fr : Sep.Fr (· = d) W w
 box : Box W.heap.size h G w
 i0 : w.cell? ⟨W.heap.size + 1, 0, none⟩ = some (.int .i64 x.1)
 i1 : w.cell? ⟨W.heap.size + 1, 1, none⟩ = some (.int .i64 x.2)
theorem Bo.start (h : Sh) (G : Gram) (x : Itm) (d : Nat) (w : World) (T U : TypeId) : Bo w h G x d ((w.alloc (.cells #[.slice h.a1 G.terms.length h.c1, .slice h.a2 G.nons.length h.c2, .slice h.a3 G.rules.length h.c3, .int .i64 G.start] T)).alloc (.cells #[.int .i64 x.1, .int .i64 x.2] U)) := by
 have k := Bi.start h G x w T U
 exact ⟨.of_below k.below, k.bx.box, k.i0, k.i1⟩
theorem Bo.later {W : World} {h : Sh} {G : Gram} {x : Itm} {d : Nat} {w w' : World} (k : Bo W h G x d w) (hd : d < W.heap.size) (f : Sep.Fr (· = d) w w') : Bo W h G x d w' := by
 have h0 : ¬ W.heap.size = d := by omega
 have h1 : ¬ W.heap.size + 1 = d := by omega
 exact ⟨k.fr.trans f (.refl _ _), ⟨f.cell k.box.x0 h0, f.cell k.box.x1 h0, f.cell k.box.x2 h0, f.cell k.box.x3 h0⟩, f.cell k.i0 h1, f.cell k.i1 h1⟩
theorem Bo.went {W : World} {h : Sh} {G : Gram} {x : Itm} {d : Nat} {w w' : World} (k : Bo W h G x d w) (hd : d < W.heap.size) (hb : Below w.heap.size w w') : Bo W h G x d w' := k.later hd (.of_below hb)
theorem zKd {G : Gram} {s : Int} {i : Nat} (h : i ∈ ofN G s) : i < G.rules.length := (Gr.zA9.1 h).1
theorem zGc {G : Gram} {d n : Nat} {X : Itm -> Prop} {x : Itm} {w : World} (hX : ∀ y, X y -> zAI G y = true) (hx : zAI G x = true) (h : MS d n (fun y => X y \/ y = x) w) : MS d (allI G).length (fun y => X y \/ y = x) w :=
 h.tight ktI (allI G) fun y _ hy => zCD (hy.elim (hX y) fun e => e ▸ hx)
theorem zFF (h : Sh) (G : Gram) (hv : checkN G = 0) (d : Nat) (x : Itm) (X : Itm -> Prop) (w : World) (hx : zAI G x = true) (hX : ∀ y, X y -> zAI G y = true) (hXx : X x) (hs : MS d (allI G).length X w) :
  Calls Tryz.prog 149 #[.map (some d), gv h G, iv x] w fun e w' => e = .returned (.tuple #[]) /\ ∃ Y, Sprd G X x Y /\ MS d (allI G).length Y w' /\ Sep.Fr (· = d) w w' := by
 have ha := zAW hv
 have hd := hs.lt
 have B := zUB (Bo.start h G x d w 25 57)
 have P := zUB (zBd x (zCI hv hx) d (allI G).length X _ (hs.went (Bi.start h G x w 25 57).below) (by unfold maxLen; omega))
 obtain ⟨x0, x1⟩ := x
 unfold gv iv at *
 dsimp only at B P ⊢
 go_enter Tryz.func149, Tryz.ntmps149
 go_wp2_with (go_at_call 170; refine P.out.mono ?_; rintro e w1 ⟨ok, hok, rfl, hm, hf⟩; obtain rfl : ok = false := (by cases ok with | false => rfl | true => exact absurd hXx (hok.1 rfl)); have PM := zUB hm; have PF := zUB hf; clear hm hf hok)
 refine bodyPost_ret (v := .tuple #[]) (by simp [results, Tryz.results149, go_sem]) rfl ?_
 exact ⟨rfl, _, .none hXx fun y => .rfl, zGc hX hx PM.out, B.out.fr.trans PF.out (.refl _ _)⟩
theorem zDd (h : Sh) (G : Gram) (hv : checkN G = 0) (W0 : World) (k : GAt h G W0) (d : Nat) (hd : W0.heap.size <= d) : ∀ (N : Nat) (M : List Itm) (x : Itm) (X : Itm -> Prop) (w : World), M.length <= N -> zAI G x = true -> (∀ y, X y -> zAI G y = true) -> (∀ y, zAI G y = true -> ¬ X y -> y ∈ M) ->
  Below W0.heap.size W0 w -> MS d (allI G).length X w ->
  Calls Tryz.prog 149 #[.map (some d), gv h G, iv x] w fun e w' => e = .returned (.tuple #[]) /\ ∃ Y, Sprd G X x Y /\ MS d (allI G).length Y w' /\ Sep.Fr (· = d) w w' := by
 have ha := zAW hv
 have hr3 := (zCj (Gr.zAR hv).1).1
 intro N
 induction N with
 | zero =>
  intro M x X w hM hx hX hm hb hs
  have hMe : M = [] := by cases M with | nil => rfl | cons _ _ => simp at hM
  subst hMe
  have hXx : X x := by
   rcases Classical.em (X x) with q | q
   ·exact q
   ·have := hm x hx q
    cases this
  exact zFF h G hv d x X w hx hX hXx hs
 | succ N ih =>
  intro M x X w hM hx hX hm hb hs
  rcases Classical.em (X x) with hXx | hXx
  ·exact zFF h G hv d x X w hx hX hXx hs
  have hMx := hm x hx hXx
  have hM' : (M.erase x).length <= N := by
   rw [List.length_erase_of_mem hMx]
   omega
  have hdw := hs.lt
  have B := zUB (Bo.start h G x d w 25 57)
  have P := zUB (zBd x (zCI hv hx) d (allI G).length X _ (hs.went (Bi.start h G x w 25 57).below) (by unfold maxLen; omega))
  have HB := zUB (fun w1 (f : Sep.Fr (· = d) w w1) => show Below W0.heap.size W0 w1 from hb.trans (f.below (fun i hi => by omega) hb.size))
  have HN := zUB (fun w1 (b : Below W0.heap.size W0 w1) => zKY h G x w1 (k.went b))
  have HO := zUB (fun w1 (b : Below W0.heap.size W0 w1) => zHb h G (behV G x) w1 (k.went b) (by omega))
  have IH := zUB (fun (r : Int) (Z : Itm -> Prop) w1 (b : Below W0.heap.size W0 w1) (hr : zAI G (r, 0) = true) (hZ : ∀ y, Z y -> zAI G y = true) (hZX : ∀ y, X y -> Z y) (hZx : Z x) (hz : MS d (allI G).length Z w1) => ih (M.erase x) (r, 0) Z w1 hM' hr hZ (fun y hy hn => (List.mem_erase_of_ne (fun e => hn (by rw [e]; exact hZx))).2 (hm y hy fun q => hn (hZX y q))) b hz)
  obtain ⟨e1, e2⟩ := zQZ hx
  rw [e1, e2] at HN
  clear e1 e2 ih k hs hm hM hM' hMx
  generalize hnb : behB G x = nb at HN
  obtain ⟨x0, x1⟩ := x
  unfold gv iv at *
  dsimp only at B P ⊢
  go_enter Tryz.func149, Tryz.ntmps149
  go_wp2_with (first
   | (go_at_call 170; refine P.out.mono ?_; rintro e w1 ⟨ok, hok, rfl, hm, hf⟩; obtain rfl : ok = true := hok.2 hXx; have PM := zUB (zGc hX hx hm); have PB := zUB (B.out.later hdw hf); obtain ⟨⟨g0, g1, g2, g3⟩, y0, y1⟩ := (⟨PB.out.box, PB.out.i0, PB.out.i1⟩ : _ /\ _ /\ _); clear hm hf hok B P)
   | (go_at_call 171; refine (HN.out _ (HB.out _ PB.out.fr)).mono ?_; rintro e w2 ⟨rfl, hb2⟩; have QM := zUB (PM.out.went hb2); have QB := zUB (PB.out.went hdw hb2); obtain ⟨⟨g0, g1, g2, g3⟩, y0, y1⟩ := (⟨QB.out.box, QB.out.i0, QB.out.i1⟩ : _ /\ _ /\ _); clear hb2 PM PB)
   | (go_at_call 113; refine (HO.out _ (HB.out _ QB.out.fr)).mono ?_; rintro e w3 ⟨a3, c3, rfl, hr, hn, hb3⟩; have RM := zUB (QM.out.went hb3); have RB := zUB (QB.out.went hdw hb3); have RL := zUB hr; have RN := zUB (show ∀ b o, a3 = some ⟨b, o, none⟩ -> ¬ b = d from fun b o e => by have := hn _ e; have := QB.out.fr.size; dsimp only at *; omega); clear hr hn hb3 QM QB))
  clear HN HO
  have PS := zUB (Part.start (K := ofN G (behV G (x0, x1))) hx (fun y => (Iff.rfl : (X y \/ y = (x0, x1)) ↔ _)))
  have HK := zUB (fun j (hj : j < (ofN G (behV G (x0, x1))).length) => show (ofL G (behV G (x0, x1)))[j]'(by rw [Gr.zBB]; exact hj) = (((ofN G (behV G (x0, x1)))[j] : Nat) : Int) by simp [ofL, Gr.ofI, ofN])
  have hkl := Gr.zBB G (behV G (x0, x1))
  have hsm : (ofN G (behV G (x0, x1))).length <= 300 := by
   have := Gr.zJF G.rules (behV G (x0, x1)) G.rules.length
   rw [← hkl]
   exact Nat.le_trans this hr3
  rw [hkl]
  go_loopw [24] (fun i wr => ∃ j : Nat, j <= (ofN G (behV G (x0, x1))).length /\ i = .int .i64 j /\ Bo w h G (x0, x1) d wr /\ Sep.Reads a3 (ivs (ofL G (behV G (x0, x1)))) wr /\ ∃ Z, Part G X (x0, x1) (ofN G (behV G (x0, x1))) j Z /\ MS d (allI G).length Z wr) (fun i _ => (ofN G (behV G (x0, x1))).length - (intOf i).toNat)
  case atStart => exact ⟨0, Nat.zero_le _, rfl, RB.out, RL.out, _, PS.out, RM.out⟩
  case round =>
   obtain ⟨j, hj, rfl, hB, hL, Z, hP, hZ⟩ := hrel
   clear RB RL RM PS
   obtain ⟨⟨g0, g1, g2, g3⟩, y0, y1⟩ := (⟨hB.box, hB.i0, hB.i1⟩ : _ /\ _ /\ _)
   have B := zUB hB
   have L := zUB hL
   have PZ := zUB hP
   have MZ := zUB hZ
   by_cases hlt : j < (ofN G (behV G (x0, x1))).length
   ·obtain ⟨b, o, rfl, hc⟩ := hL j (by simp [ivs]; omega)
    have hk : (ivs (ofL G (behV G (x0, x1))))[j]'(by simp [ivs]; omega) = .int .i64 (((ofN G (behV G (x0, x1)))[j] : Nat) : Int) := by
     simp only [ivs, List.getElem_map, Gr.iv]
     rw [HK.out j hlt]
    rw [hk] at hc
    have PST := zUB (fun (Y : Itm -> Prop) => Part.step (Y := Y) hv hx hP hlt)
    have hkr : zAI G ((((ofN G (behV G (x0, x1)))[j] : Nat) : Int), 0) = true := zA2 (Nat.le_of_lt (zKd (List.getElem_mem hlt)))
    have C := zUB (IH.out _ Z wr (HB.out _ hB.fr) hkr (hP.right hX) hP.old hP.own hZ)
    clear hk hL hP hZ hB hkr
    generalize (ofN G (behV G (x0, x1)))[j] = r at *
    go_wp2_with (go_at_call 149; refine C.out.mono ?_; rintro e w4 ⟨rfl, Y, hs, hm, hf⟩; have MY := zUB hm; have PY := zUB (PST.out Y hs); have BY := zUB (B.out.later hdw hf); have LY := zUB (zF6 L.out hf RN.out); clear hs hm hf)
    go_roundw
    case rel => exact ⟨j + 1, by omega, by go_num, BY.out, LY.out, Y, PY.out, MY.out⟩
    case measure => simp [intOf]; omega
   ·have hE : j = (ofN G (behV G (x0, x1))).length := by omega
    subst hE
    go_wp2
    go_end0
    exact ⟨rfl, Z, PZ.out.done, MZ.out, B.out.fr⟩
end Im
namespace Im
open Gr (Gram Sh gv GAt Bx step boxed checkN zAA)
noncomputable def lst (G : Gram) (L : List Itm) : List Itm := if checkN G = 0 then L else []
theorem zBV {G : Gram} {L : List Itm} {x : Itm} : x ∈ lst G L ↔ checkN G = 0 /\ x ∈ L := by
 unfold lst
 by_cases h : checkN G = 0
 ·simp [h]
 ·simp [h]
theorem zTI {G : Gram} (h : checkN G = 0) (L : List Itm) : lst G L = L := if_pos h
theorem zRH {G : Gram} (h : ¬ checkN G = 0) (L : List Itm) : lst G L = [] := if_neg h
theorem zL4 {G : Gram} {L : List Itm} (x : Itm) : VSet G L x ↔ (x ∈ lst G L /\ zAI G x = true) := by
 unfold VSet
 rw [zBV, and_assoc]
theorem zPx {G : Gram} {x : Itm} (h : Clo G [] x) : False := by
 induction h with
 | of h _ => cases h
 | next _ _ _ ih => exact ih
theorem zQe {G : Gram} {L : List Itm} {x : Itm} : Clo G (lst G L) x ↔ checkN G = 0 /\ Clo G L x := by
 by_cases h : checkN G = 0
 ·rw [zTI h]
  exact ⟨fun k => ⟨h, k⟩, fun k => k.2⟩
 ·rw [zRH h]
  exact ⟨fun k => (zPx k).elim, fun k => absurd k.1 h⟩
noncomputable def allL (G : Gram) : List Itm := if checkN G = 0 then allI G else []
theorem zIo (G : Gram) : (allL G).length <= 2709 := by
 unfold allL
 by_cases h : checkN G = 0
 ·rw [if_pos h]
  exact zAW h
 ·rw [if_neg h]
  simp
theorem zNk {G : Gram} {x : Itm} (h : checkN G = 0) (hx : zAI G x = true) : x ∈ allL G := by
 unfold allL
 rw [if_pos h]
 exact zCD hx
theorem zDm.of {P Q : Itm -> Prop} {w w1 w' : World} {e : Ending} (h : zDm P w1 e w') (hb : Below w.heap.size w w1) (hi : ∀ x, P x ↔ Q x) : zDm Q w e w' := by
 obtain ⟨Y, a, c, h1, h2, h3, h4⟩ := h
 exact ⟨Y, a, c, h1, h2.iff hi, h3.mono hb.size, Gr.step hb h4⟩
structure Rnd (W : World) (h : Sh) (G : Gram) (d b r n q : Nat) (X Lf Z : Itm -> Prop) (m : Nat) (w : World) : Prop where
 bx : Bx W h G w
 run : MR b r n q X Lf w
 set : MS d m Z w
 d1 : W.heap.size + 1 <= d
 d2 : d < b
 d3 : d < r
theorem Rnd.later {W : World} {h : Sh} {G : Gram} {d b r n q m : Nat} {X Lf Z : Itm -> Prop} {w w' : World} (k : Rnd W h G d b r n q X Lf Z m w) (hb : Below w.heap.size w w') : Rnd W h G d b r n q X Lf Z m w' /\ w'.rangeLeft b r = w.rangeLeft b r :=
 ⟨⟨k.bx.went hb, k.run.went hb, k.set.went hb, k.d1, k.d2, k.d3⟩, MRan.left_keep (hb.block b k.run.lt.1) (hb.block r k.run.lt.2.1)⟩
theorem Rnd.wrote {W : World} {h : Sh} {G : Gram} {d b r n q m m' : Nat} {X Lf Z Z' : Itm -> Prop} {w w' : World} (k : Rnd W h G d b r n q X Lf Z m w) (f : Sep.Fr (· = d) w w') (hs : MS d m' Z' w') : Rnd W h G d b r n q X Lf Z' m' w' /\ w'.rangeLeft b r = w.rangeLeft b r := by
 have h1 := f.block b k.run.lt.1 (by have := k.d2; omega)
 have h2 := f.block r k.run.lt.2.1 (by have := k.d3; omega)
 exact ⟨⟨zE0 k.bx f fun i hi => by have := k.d1; omega, k.run.keep h1 h2, hs, k.d1, k.d2, k.d3⟩, MRan.left_keep h1 h2⟩
theorem Rnd.next {W : World} {h : Sh} {G : Gram} {d b r n q m : Nat} {X Lf Lf' Z : Itm -> Prop} {w w' : World} (k : Rnd W h G d b r n q X Lf Z m w) (hg : w.grownBy w' (some r)) (hr : MR b r n (q + 1) X Lf' w') : Rnd W h G d b r n (q + 1) X Lf' Z m w' := by
 refine ⟨k.bx.grown hg fun g e => ?_, hr, k.set.keep (hg.block d k.set.lt fun e => ?_), k.d1, k.d2, k.d3⟩
 ·injection e with e
  have := k.d1
  have := k.d3
  omega
 ·injection e with e
  have := k.d3
  omega
theorem zMq (h : Sh) (G : Gram) (L : List Itm) (a : Option Addr) (c : Nat) (w : World) (k : GAt h G w) (kl : ItsA a L w) (hw : ∀ x ∈ L, W64 x) (hL : L.length <= 1000000) :
  Calls Tryz.prog 114 #[gv h G, .slice a L.length c] w (zDm (fun x => checkN G = 0 /\ Clo G L x) w) := by
 have X0 := zUB (Bx.start h G w 25)
 have V := zUB (fun w1 (b : Below w.heap.size w w1) => zMu h G L a c w1 (k.went b) (kl.went b) hw (by omega))
 have M0 := zUB (MSet.made (H := Nat) (w.alloc (.cells #[.slice h.a1 G.terms.length h.c1, .slice h.a2 G.nons.length h.c2, .slice h.a3 G.rules.length h.c3, .int .i64 G.start] 25)) Tryz.prog 57 unitElem (.agg []))
 have X1 := zUB (X0.out.alloc (.map #[] 0))
 have hs1 : (w.alloc (.cells #[.slice h.a1 G.terms.length h.c1, .slice h.a2 G.nons.length h.c2, .slice h.a3 G.rules.length h.c3, .int .i64 G.start] 25)).heap.size = w.heap.size + 1 := by simp
 have hs2 : ((w.alloc (.cells #[.slice h.a1 G.terms.length h.c1, .slice h.a2 G.nons.length h.c2, .slice h.a3 G.rules.length h.c3, .int .i64 G.start] 25)).alloc (.map #[] 0)).heap.size = w.heap.size + 2 := by simp
 rw [hs1] at M0
 have SP := zUB (fun (hv : checkN G = 0) (x : Itm) (Z : Itm -> Prop) w1 (b : Below w.heap.size w w1) (hx : zAI G x = true) (hZ : ∀ y, Z y -> zAI G y = true) (hz : MS (w.heap.size + 1) (allI G).length Z w1) => zDd h G hv w k (w.heap.size + 1) (by omega) (allI G).length (allI G) x Z w1 (Nat.le_refl _) hx hZ (fun y hy _ => zCD hy) b hz)
 clear k kl hw X0 hs1
 unfold gv at *
 have hmm := @run_makeMap Tryz.prog
 go_enter Tryz.func114, Tryz.ntmps114
 go_wp2_with (first
  | (go_at_call 148; refine (V.out _ X1.out.below).mono ?_; rintro e w1 ⟨b, n, rfl, hb1, hb2, hm, hb⟩; have X2 := zUB (X1.out.went hb); have Z2 := zUB (M0.out.went hb); have V2 := zUB hm; rw [hs2] at hb1; clear hm hb)
  | (at_range; refine zDZ _ rfl _ rfl ktI Tryz.underlying190 (.agg []) b n _ rfl V2.out ?_; intro w2 hrg hg hsz)
  | go_in)
 have hX2s := X2.out.size
 have R0 := zUB (show Rnd w h G (w.heap.size + 1) b w1.heap.size n 0 _ _ (fun _ => False) (allI G).length w2 from
  ⟨X2.out.grown hg (fun g e => by cases e), hrg, (Z2.out.keep (hg.block _ Z2.out.lt (fun e => by cases e))).mono (Nat.zero_le _), Nat.le_refl _, by omega, by have := V2.out.lt; omega⟩)
 have P0 := zUB (Way.start (G := G) (L := lst G L) (X := VSet G L) (Z := fun _ => False) (fun y h1 h2 => (zL4 y).2 ⟨h1, h2⟩) (fun _ => id))
 clear V X1 M0 X2 Z2 hrg hg hsz hs2 hX2s
 go_frame
 go_loopw [6] (fun _ wr => ∃ (q : Nat) (Lf Z : Itm -> Prop), Rnd w h G (w.heap.size + 1) b w1.heap.size n q (VSet G L) Lf Z (allI G).length wr /\ Way G (lst G L) Lf Z) (fun _ wr => wr.rangeLeft b w1.heap.size)
 case atStart => exact ⟨0, _, _, R0.out, P0.out⟩
 case round =>
  obtain ⟨q, Lf, Z, hR, hP⟩ := hrel
  clear R0 P0
  have HR := zUB hR
  have HP := zUB hP
  have hrg := hR.run
  clear hR hP
  go_wp2_with (first
   | (at_next; refine zDu _ rfl _ rfl ktI b w1.heap.size n q _ Lf rfl hrg ?_ ?_)
   | go_in)
  ·intro hd
   have hz : ∀ y, Z y ↔ checkN G = 0 /\ Clo G L y := fun y => (HP.out.done (fun y h1 h2 => hd y (zCI (zBV.1 h1).1 h2)) y).trans zQe
   have hzm : ∀ y, Z y -> y ∈ allL G := fun y hy => zNk ((hz y).1 hy).1 (HP.out.right y hy)
   have LS := zUB ((zCh (w.heap.size + 1) (allL G).length Z wr (HR.out.set.tight ktI (allL G) fun y _ hy => hzm y hy) (Nat.le_trans (zIo G) (by omega)) (allL G) hzm (Nat.le_trans (zIo G) (by omega))).mono fun e w' hl => zDm.of (Q := fun x => checkN G = 0 /\ Clo G L x) hl HR.out.bx.below fun x => ⟨fun q => (hz x).1 q.1, fun q => ⟨(hz x).2 q, zCI q.1 (zAT q.2)⟩⟩)
   have hB := HR.out.bx.below
   clear HR HP hrg hzm
   go_wp2_with (go_at_call 150; refine LS.out.mono ?_; rintro e w4 ⟨Y, a4, c4, rfl, h1, h2, h3⟩; have H1 := zUB h1; have H2 := zUB h2; have H3 := zUB h3; clear h1 h2 h3)
   go_ret
   exact ⟨Y, a4, c4, rfl, H1.out, H2.out, H3.out⟩
  ·intro x0 x1 w3 hx hlf hXx hrg2 hlt hg2 hs2 hen
   have hv := hXx.1
   have hR3 := HR.out.next hg2 hrg2
   obtain ⟨hR4, hl4⟩ := hR3.later (boxed w3 (.cells #[.int .i64 x0, .int .i64 x1] 57))
   obtain ⟨g0, g1, g2, g3⟩ := hR4.bx.box
   have y0 : (w3.alloc (.cells #[.int .i64 x0, .int .i64 x1] 57)).cell? ⟨w3.heap.size, 0, none⟩ = some (.int .i64 x0) := zAA rfl rfl
   have y1 : (w3.alloc (.cells #[.int .i64 x0, .int .i64 x1] 57)).cell? ⟨w3.heap.size, 1, none⟩ = some (.int .i64 x1) := zAA rfl rfl
   have R4 := zUB hR4
   have C := zUB (SP.out hv (x0, x1) Z _ hR4.bx.below hXx.2.2 HP.out.right hR4.set)
   have PS := zUB (fun (Y : Itm -> Prop) => HP.out.step (Y := Y) (x := (x0, x1)) ((zL4 _).1 hXx).1 hXx.2.2)
   have hl5 : wr.rangeLeft b w1.heap.size > (w3.alloc (.cells #[.int .i64 x0, .int .i64 x1] 57)).rangeLeft b w1.heap.size := by rw [hl4]; exact hlt
   unfold iv at hen C ⊢
   dsimp only at hen C ⊢
   clear hR3 hR4 hl4 hlt hs2 hrg hrg2 HR HP hXx hlf hg2 hx
   go_wp2_with (go_at_call 149; refine C.out.mono ?_; rintro e w5 ⟨rfl, Y, hs, hm, hf⟩; obtain ⟨r5, l5⟩ := R4.out.wrote hf hm; have P5 := zUB (PS.out Y hs); have R5 := zUB r5; rw [← l5] at hl5; clear hs hm hf l5 r5)
   go_roundw
   case rel => exact ⟨_, _, Y, R5.out, P5.out⟩
   case measure => exact hl5
