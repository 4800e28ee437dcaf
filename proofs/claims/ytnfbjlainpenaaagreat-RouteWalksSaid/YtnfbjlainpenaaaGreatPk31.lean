/- A part of the proof. -/
import Derived.Test.YtnfbjlainpenaaaGreatPk28
import Derived.Test.YtnfbjlainpenaaaGreatItemLay
import Derived.RangeFuncNested
import Derived.RangeFuncLeaves
import Derived.Shelf.Abstract
import Derived.OwnWalkIn
import Derived.TacticsInMore
import Derived.RegionIn
import Derived.LoopNIn
import Derived.LoopIn
set_option maxHeartbeats 2000000
set_option maxRecDepth 100000
set_option linter.unusedVariables false
namespace Go.Proofs.YtnfbjlainpenaaaGreat
open Go.RowKit Go.Maps
namespace Im
open Gr (zAB zAF cell_later)
def orI (a b : Int) : Int := if a = 0 then b else a
def cmpI (x y : Itm) : Int := orI (Lib.compareInt x.1 y.1) (Lib.compareInt x.2 y.2)
theorem zMy (p o : Nat) (a b : Int) (w : World) (h0 : w.cell? ⟨p, o, none⟩ = some (.int .i64 a)) (h1 : w.cell? ⟨p, o + 1, none⟩ = some (.int .i64 b)) :
  Calls Tryz.prog 130 #[.slice (some ⟨p, o, none⟩) 2 2] w fun e w' => e = .returned (.int .i64 (orI a b)) /\ w' = w := by
 unfold orI
 go_enter Tryz.func130, Tryz.ntmps130
 go_wp2
 go_loopw [8] (fun i wr => wr = w /\ ∃ j : Nat, i = .int .i64 j /\ j <= 2 /\ (1 <= j -> a = 0) /\ (2 <= j -> b = 0)) (fun i _ => 2 - (intOf i).toNat)
 case atStart => exact ⟨rfl, 0, rfl, by omega, by omega, by omega⟩
 case round =>
  obtain ⟨rfl, j, rfl, hj, ha, hb⟩ := hrel
  rcases (by omega : j = 0 \/ j = 1 \/ j = 2) with rfl | rfl | rfl
  ·clear ha hb
   by_cases hz : a = 0
   ·subst hz
    go_wp2
    go_roundw
    case rel => exact ⟨by simp, 1, by go_num, by omega, by simp, by simp⟩
    case measure => simp [intOf]
   ·go_wp2
    go_ret
    exact ⟨rfl, rfl⟩
  ·obtain rfl := ha (by omega)
   clear ha hb
   by_cases hz : b = 0
   ·subst hz
    go_wp2
    go_roundw
    case rel => exact ⟨by simp, 2, by go_num, by omega, by simp, by simp⟩
    case measure => simp [intOf]
   ·go_wp2
    go_ret
    exact ⟨rfl, rfl⟩
  ·obtain rfl := ha (by omega)
   obtain rfl := hb (by omega)
   go_wp2
   go_ret
   exact ⟨rfl, rfl⟩
theorem zGq (a b : Int) (W : World) : Calls Tryz.prog 96 #[.int .i64 a, .int .i64 b] W fun e w' => e = .returned (.int .i64 (Lib.compareInt a b)) /\ w' = W := by
 have h := AnyG.cmp_Compare_int Tryz.cmpInt a b W
 change Calls Tryz.prog 96 _ _ _ at h
 exact h
def Gw (w w' : World) : Prop := ∃ n os, w' = Go.Sort.grow (w.drewN n) os
theorem Gw.refl (w : World) : Gw w w := ⟨0, #[], by rw [Go.Sort.grow_empty]; rfl⟩
theorem Gw.alloc {w w1 : World} (h : Gw w w1) (o : Obj) : Gw w (w1.alloc o) := by
 obtain ⟨n, os, rfl⟩ := h
 exact ⟨n, os ++ #[o], by rw [Go.Sort.alloc_eq_grow, Go.Sort.grow_grow]⟩
theorem Gw.drew {w w1 : World} (h : Gw w w1) : Gw w w1.drew := by
 obtain ⟨n, os, rfl⟩ := h
 exact ⟨n + 1, os, rfl⟩
theorem Gw.below {w w1 : World} (h : Gw w w1) : Below w.heap.size w w1 := by
 obtain ⟨n, os, rfl⟩ := h
 refine ⟨rfl, rfl, rfl, ?_, fun k hk => ?_⟩
 ·rw [Go.Sort.size_grow]
  exact Nat.le_add_right _ _
 ·show (w.heap ++ os)[k]? = w.heap[k]?
  rw [Array.getElem?_append_left hk]
theorem zBq (x y : Itm) (w : World) :
  Calls Tryz.prog 125 #[iv x, iv y] w fun e w' => e = .returned (.int .i64 (cmpI x y)) /\ Gw w w' := by
 have C := zNR zGq
 unfold cmpI
 unfold iv
 go_enter Tryz.func125, Tryz.ntmps125
 go_wp2
 obtain ⟨wq, hwq⟩ : ∃ wq, (w.alloc (.cells #[.int .i64 x.1, .int .i64 x.2] 108)).alloc (.cells #[.int .i64 y.1, .int .i64 y.2] 108) = wq := ⟨_, rfl⟩
 rw [hwq]
 have q0 : wq.cell? ⟨w.heap.size, 0, none⟩ = some (.int .i64 x.1) := by rw [← hwq]; exact zAF (zAB rfl rfl)
 have q1 : wq.cell? ⟨w.heap.size, 1, none⟩ = some (.int .i64 x.2) := by rw [← hwq]; exact zAF (zAB rfl rfl)
 have q2 : wq.cell? ⟨w.heap.size + 1, 0, none⟩ = some (.int .i64 y.1) := by rw [← hwq]; exact zAB (by simp) rfl
 have q3 : wq.cell? ⟨w.heap.size + 1, 1, none⟩ = some (.int .i64 y.2) := by rw [← hwq]; exact zAB (by simp) rfl
 have G0 : Gw w wq := by rw [← hwq]; exact ((Gw.refl w).alloc _).alloc _
 have HQ := zNR (show ∀ w', Gw wq w' -> w'.cell? ⟨w.heap.size, 0, none⟩ = some (.int .i64 x.1) /\ w'.cell? ⟨w.heap.size, 1, none⟩ = some (.int .i64 x.2) /\ w'.cell? ⟨w.heap.size + 1, 0, none⟩ = some (.int .i64 y.1) /\ w'.cell? ⟨w.heap.size + 1, 1, none⟩ = some (.int .i64 y.2)
  from fun w' g => ⟨cell_later g.below q0, cell_later g.below q1, cell_later g.below q2, cell_later g.below q3⟩)
 have g1 : Gw wq wq.drew := (Gw.refl wq).drew
 have A0 : ∀ c1 c2 : Int, (wq.alloc (.cells #[.int .i64 c1, .int .i64 c2] 3)).drew.cell? ⟨wq.heap.size, 0, none⟩ = some (.int .i64 c1) := fun _ _ => zAB (w := wq) rfl rfl
 have A1 : ∀ c1 c2 : Int, (wq.alloc (.cells #[.int .i64 c1, .int .i64 c2] 3)).drew.cell? ⟨wq.heap.size, 0 + 1, none⟩ = some (.int .i64 c2) := fun _ _ => zAB (w := wq) rfl rfl
 clear hwq
 go_region_held3 (fun w' => w'.cell? ⟨w.heap.size, 0, none⟩ = some (.int .i64 x.1) /\ w'.cell? ⟨w.heap.size, 1, none⟩ = some (.int .i64 x.2) /\ w'.cell? ⟨w.heap.size + 1, 0, none⟩ = some (.int .i64 y.1) /\ w'.cell? ⟨w.heap.size + 1, 1, none⟩ = some (.int .i64 y.2))
  (first | exact HQ.out _ (by assumption) | exact HQ.out _ (Gw.alloc (by assumption) _))
  (first
   | (go_at_call 96; refine (C.out _ _ _).mono ?_; rintro e wn ⟨rfl, rfl⟩)
   | (go_at_call 130; refine (zMy wq.heap.size 0 _ _ _ (A0 _ _) (A1 _ _)).mono ?_; rintro e wn ⟨rfl, rfl⟩)
   | fail)
 go_wp2
 go_ret
 exact ⟨rfl, (G0.alloc _).drew⟩
theorem zC9 (p : Option Addr) (c : Nat) (fv : Value) (w : World) :
  Calls Tryz.prog 134 #[.slice p 0 c, .int .i64 0, .int .i64 0, fv] w fun e w' => e = .returned (.tuple #[]) /\ w' = w := by
 go_enter Tryz.func134, Tryz.ntmps134
 go_wp2
 refine wp_loop_rounds 1 ?_
 rw [rounds_succ]
 go_wp2
 go_end0
 exact ⟨rfl, rfl⟩
theorem zKY (p : Option Addr) (c : Nat) (lim : Int) (fv : Value) (w : World) :
  Calls Tryz.prog 132 #[.slice p 0 c, .int .i64 0, .int .i64 0, .int .i64 lim, fv] w fun e w' => e = .returned (.tuple #[]) /\ w' = w := by
 have hi := fun W => zC9 p c fv W
 go_enter Tryz.func132, Tryz.ntmps132
 go_wp2
 refine wp_loop_rounds 1 ?_
 rw [rounds_succ]
 go_wp2_with (go_at_call 134; refine (hi _).mono ?_; rintro e w' ⟨rfl, rfl⟩)
 (try simp only [Exit.inBlock, Exit.then]); refine bodyPost_ret (results_none rfl _ _ _) rfl ?_
 exact ⟨rfl, rfl⟩
theorem zKE (W : World) : Calls Tryz.prog 133 #[.int .u64 0] W fun e w' => e = .returned (.int .i64 (Lib.bitLen 0 : Nat)) /\ w' = W := by
 have h := Any.bits_Len (SlLaysF0.n15.bits (P := Tryz.prog) (ρ := Tryz.sortItm_ren) { Tryz.sortItm with }) 0 W (by omega) (by omega)
 change Calls Tryz.prog 133 _ _ _ at h
 exact h
theorem zJJ (p : Option Addr) (c : Nat) (fv : Value) (w : World) :
  Calls Tryz.prog 128 #[.slice p 0 c, fv] w fun e w' => e = .returned (.tuple #[]) /\ w' = w := by
 have hp := fun lim W => zKY p c lim fv W
 have hl := zKE
 go_enter Tryz.func128, Tryz.ntmps128
 go_wp2_with (first
  | (go_at_call 133; refine (hl _).mono ?_; rintro e w' ⟨rfl, rfl⟩)
  | (go_at_call 132; refine (hp _ _).mono ?_; rintro e w' ⟨rfl, rfl⟩))
 go_end0
 exact ⟨rfl, rfl⟩
attribute [local go_sem] Oper.semAt_some
structure Came (X Lf : Itm -> Prop) (l : List Itm) : Prop where
 nd : l.Nodup
 fit : ∀ x ∈ l, W64 x
 mem : ∀ x, W64 x -> (x ∈ l ↔ X x /\ ¬ Lf x)
theorem Came.start (X : Itm -> Prop) : Came X X [] := ⟨List.nodup_nil, fun x hx => (List.not_mem_nil hx).elim, fun x _ => ⟨fun h => (List.not_mem_nil h).elim, fun h => absurd h.1 h.2⟩⟩
theorem Came.step {X Lf : Itm -> Prop} {l : List Itm} {x : Itm} (h : Came X Lf l) (hx : W64 x) (hl : Lf x) (hX : X x) : Came X (fun y => Lf y /\ y ≠ x) (l ++ [x]) := by
 have hn : x ∉ l := fun k => ((h.mem x hx).1 k).2 hl
 refine ⟨List.nodup_append.2 ⟨h.nd, by simp, fun a ha b hb => ?_⟩, fun y hy => ?_, fun y hy => ?_⟩
 ·rw [List.mem_singleton] at hb
  subst hb
  exact fun e => hn (e ▸ ha)
 ·rcases List.mem_append.1 hy with k | k
  ·exact h.fit y k
  ·rw [List.mem_singleton] at k
   rw [k]
   exact hx
 ·rw [List.mem_append, List.mem_singleton, h.mem y hy]
  constructor
  ·rintro (⟨h1, h2⟩ | e)
   ·exact ⟨h1, fun k => h2 k.1⟩
   ·subst e
    exact ⟨hX, fun k => k.2 rfl⟩
  ·rintro ⟨h1, h2⟩
   by_cases e : y = x
   ·exact .inr e
   ·exact .inl ⟨h1, fun k => h2 ⟨k, e⟩⟩
structure All (X : Itm -> Prop) (l : List Itm) : Prop where
 nd : l.Nodup
 fit : ∀ x ∈ l, W64 x
 mem : ∀ x, W64 x -> (x ∈ l ↔ X x)
theorem Came.done {X Lf : Itm -> Prop} {l : List Itm} (h : Came X Lf l) (ho : Over Lf) : All X l :=
 ⟨h.nd, h.fit, fun x hx => (h.mem x hx).trans ⟨fun k => k.1, fun k => ⟨k, ho x hx⟩⟩⟩
theorem keys1_in (F : Fence) (n : Nat) (hf : F.fn 129) (hro : F.round = none) (hn : 1 <= n) (l Bm b nn : Nat) (X : Itm -> Prop) (J Jx : List Itm -> World -> Prop)
  (hY : ∀ pre x W, J pre W -> pre.length < nn -> YieldAt F (n - 1) Tryz.prog l #[iv x] W fun e W' => (e = .returned (.bool true) /\ J (pre ++ [x]) W' /\ KeepsWalks W W') \/ (e = .returned (.bool false) /\ Jx (pre ++ [x]) W'))
  (W : World) (hJ : AbidesFrom W.heap.size J) (hm : W.cell? ⟨Bm, 0, none⟩ = some (.map (some b))) (hs : MS b nn X W) (h0 : J [] W) :
  CallsIn F n Tryz.prog 129 #[.func (.yield l) #[] #[], .pointer (some ⟨Bm, 0, none⟩)] W fun e W' => (∃ v, e = .returned v) /\
   ((∃ ss, All X ss /\ J ss W') \/ (∃ pre, True /\ Jx pre W')) := by
 refine callsIn_of_wp Tryz.func129 rfl hf ?_ hro
 simp only [Tryz.ntmps129, List.size_toArray, List.length_cons, List.length_nil, Nat.reduceAdd, Nat.reduceSub, Array.replicate_succ, Array.replicate_zero, List.push_toArray, List.append_toArray, List.nil_append, List.cons_append]
 gi_wp2_with (first
  | (gi_at_range; refine zBu _ rfl _ rfl ktI Tryz.underlying149 (.agg []) b nn X rfl hs ?_; intro w0 hrg0 hg0 hs0)
  | gi_in)
 go_frame
 gi_loopw [3] (fun _ wr => ∃ (Lf : Itm -> Prop) (ss : List Itm), MR b W.heap.size nn ss.length X Lf wr /\ ss.length <= nn /\ Came X Lf ss /\ J ss wr)
  (fun _ wr => wr.rangeLeft b W.heap.size)
 case atStart =>
  exact ⟨X, [], hrg0, Nat.zero_le _, Came.start X, hJ [] W w0 none h0 hg0 (fun r e => by cases e)⟩
 case round =>
  obtain ⟨Lf, ss, hrg, hle, hC, hJs⟩ := hrel
  gi_wp2_with (first
   | (gi_at_next; refine zCG _ rfl _ rfl ktI b W.heap.size nn ss.length X Lf rfl hrg ?_ ?_)
   | gi_in)
  ·intro hd
   gi_wp2
   go_end0
   exact ⟨⟨_, rfl⟩, .inl ⟨ss, hC.done hd, hJs⟩⟩
  ·intro x0 x1 w2 hx hlf hXx hrg2 hlt hg2 hs2 hen
   have hJ2 : J ss w2 := hJ ss wr w2 (some W.heap.size) hJs hg2 (fun r e => by cases e; exact ⟨Nat.le_refl _, hrg.iter_walk⟩)
   have hlt2 : ss.length < nn := by
    obtain ⟨D, left, cnt, h1, h2, h3, h4⟩ := hrg2
    omega
   have hC2 := zNR (hC.step (x := (x0, x1)) hx hlf hXx)
   have hr3 := hrg2.went (Gr.boxed w2 (.cells #[.int .i64 x0, .int .i64 x1] 108))
   have hl3 : (w2.alloc (.cells #[.int .i64 x0, .int .i64 x1] 108)).rangeLeft b W.heap.size = w2.rangeLeft b W.heap.size := MRan.left_keep ((Gr.boxed w2 _).block b hrg2.lt.1) ((Gr.boxed w2 _).block _ hrg2.lt.2.1)
   have hJ3 : J ss (w2.alloc (.cells #[.int .i64 x0, .int .i64 x1] 108)) := hJ ss w2 _ none hJ2 (World.grownBy_alloc _ _ _) (fun r e => by cases e)
   have y0 : (w2.alloc (.cells #[.int .i64 x0, .int .i64 x1] 108)).cell? ⟨w2.heap.size, 0, none⟩ = some (.int .i64 x0) := Gr.zAB rfl rfl
   have y1 : (w2.alloc (.cells #[.int .i64 x0, .int .i64 x1] 108)).cell? ⟨w2.heap.size, 1, none⟩ = some (.int .i64 x1) := Gr.zAB rfl rfl
   obtain ⟨fn, tmps, assign, body, hy, hR⟩ := hY ss (x0, x1) _ hJ3 hlt2
   unfold iv at hen hy ⊢
   dsimp only at hen hy ⊢
   clear hs2 hJ2 hJs hrg hC hJ
   gi_wp2
   refine hR.mono ?_
   rintro e W3 (⟨rfl, hJ4, hk4⟩ | ⟨rfl, hJx4⟩)
   ·obtain ⟨hr4, hl4⟩ := hr3.walks hk4
    gi_wp2
    go_roundw
    case rel => exact ⟨_, ss ++ [(x0, x1)], by simpa using hr4, by simp; omega, hC2.out, hJ4⟩
    case measure => rw [hl4, hl3]; exact hlt
   ·gi_wp2
    refine bodyPost_ret (results_none rfl _ _ _) rfl ?_
    exact ⟨⟨_, rfl⟩, .inr ⟨_, trivial, hJx4⟩⟩
theorem keys_stops (F : Fence) (n : Nat) (hf : F.fn 129) (hro : F.round = none) (hn : 1 <= n) (Bm b nn : Nat) (X : Itm -> Prop) (w : World) (hBm : Bm < w.heap.size) (hm : w.cell? ⟨Bm, 0, none⟩ = some (.map (some b))) (hs : MS b nn X w) :
  SeqStopsK F n Tryz.prog 129 #[.pointer (some ⟨Bm, 0, none⟩)] (fun x : Itm => #[iv x]) KeepsWalks (All X) (fun _ => True) nn w := fun l J Jx W hW hJ _ hY h0 =>
 keys1_in F n hf hro hn l Bm b nn X J Jx hY W hJ ((hW.cell (p := ⟨Bm, 0, none⟩) hBm).trans hm) (hs.went hW) h0
