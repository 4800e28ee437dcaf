/- A part of the proof. -/
import Derived.RangeFuncNested
import Derived.RangeFuncLeaves
import Derived.Shelf.Abstract
import Derived.OwnWalkIn
import Derived.TacticsInMore
import Derived.RegionIn
import Derived.LoopNIn
import Derived.LoopIn
import Derived.Test.YtnfbjlainpenaaaGreatDoorPk15
import Derived.RangeFuncBox
import Derived.Test.YtnfbjlainpenaaaGreatDoorPk21
import Derived.Test.YtnfbjlainpenaaaGreatDoorPk19
import Derived.Test.YtnfbjlainpenaaaGreatDoorPk09
set_option maxHeartbeats 4000000
set_option maxRecDepth 100000
set_option linter.unusedVariables false
namespace Go.Proofs.YtnfbjlainpenaaaGreatDoor
namespace Im
open Go.RowKit Go.Maps
attribute [local go_sem] Oper.semAt_some
structure Came (X Lf : Itm -> Prop) (l : List Itm) : Prop where
 nd : l.Nodup
 fit : ∀ x ∈ l, W64 x
 mem : ∀ x, W64 x -> (x ∈ l ↔ X x /\ ¬ Lf x)
theorem Came.start (X : Itm -> Prop) : Came X X [] := ⟨List.nodup_nil, fun x hx => (List.not_mem_nil hx).elim, fun x _ => ⟨fun h => (List.not_mem_nil h).elim, fun h => absurd h.1 h.2⟩⟩
theorem Came.step {X Lf : Itm -> Prop} {l : List Itm} {x : Itm} (h : Came X Lf l) (hx : W64 x) (hl : Lf x) (hX : X x) : Came X (fun y => Lf y /\ y ≠ x) (l ++ [x]) := by
 have hn : x ∉ l := fun k => ((h.mem x hx).1 k).2 hl
 refine ⟨List.nodup_append.2 ⟨h.nd, by simp, fun a ha b hb => ?_⟩, fun y hy => ?_, fun y hy => ?_⟩
 ·rw [List.mem_singleton] at hb
  subst hb
  exact fun e => hn (e ▸ ha)
 ·rcases List.mem_append.1 hy with k | k
  ·exact h.fit y k
  ·rw [List.mem_singleton] at k
   rw [k]
   exact hx
 ·rw [List.mem_append, List.mem_singleton, h.mem y hy]
  constructor
  ·rintro (⟨h1, h2⟩ | e)
   ·exact ⟨h1, fun k => h2 k.1⟩
   ·subst e
    exact ⟨hX, fun k => k.2 rfl⟩
  ·rintro ⟨h1, h2⟩
   by_cases e : y = x
   ·exact .inr e
   ·exact .inl ⟨h1, fun k => h2 ⟨k, e⟩⟩
structure All (X : Itm -> Prop) (l : List Itm) : Prop where
 nd : l.Nodup
 fit : ∀ x ∈ l, W64 x
 mem : ∀ x, W64 x -> (x ∈ l ↔ X x)
theorem Came.done {X Lf : Itm -> Prop} {l : List Itm} (h : Came X Lf l) (ho : Over Lf) : All X l :=
 ⟨h.nd, h.fit, fun x hx => (h.mem x hx).trans ⟨fun k => k.1, fun k => ⟨k, ho x hx⟩⟩⟩
theorem keys1_in (F : Fence) (n : Nat) (hf : F.fn 205) (hro : F.round = none) (hn : 1 <= n) (l Bm b nn : Nat) (X : Itm -> Prop) (J Jx : List Itm -> World -> Prop)
  (hY : ∀ pre x W, J pre W -> pre.length < nn -> YieldAt F (n - 1) Tryz.prog l #[iv x] W fun e W' => (e = .returned (.bool true) /\ J (pre ++ [x]) W' /\ KeepsWalks W W') \/ (e = .returned (.bool false) /\ Jx (pre ++ [x]) W'))
  (W : World) (hJ : AbidesFrom W.heap.size J) (hm : W.cell? ⟨Bm, 0, none⟩ = some (.map (some b))) (hs : MS b nn X W) (h0 : J [] W) :
  CallsIn F n Tryz.prog 205 #[.func (.yield l) #[] #[], .pointer (some ⟨Bm, 0, none⟩)] W fun e W' => (∃ v, e = .returned v) /\
   ((∃ ss, All X ss /\ J ss W') \/ (∃ pre, True /\ Jx pre W')) := by
 refine callsIn_of_wp Tryz.func205 rfl hf ?_ hro
 simp only [Tryz.ntmps205, List.size_toArray, List.length_cons, List.length_nil, Nat.reduceAdd, Nat.reduceSub, Array.replicate_succ, Array.replicate_zero, List.push_toArray, List.append_toArray, List.nil_append, List.cons_append]
 gi_wp2_with (first
  | (gi_at_range; refine zCj _ rfl _ rfl ktI Tryz.underlying208 (.agg []) b nn X rfl hs ?_; intro w0 hrg0 hg0 hs0)
  | gi_in)
 go_frame
 gi_loopw [3] (fun _ wr => ∃ (Lf : Itm -> Prop) (ss : List Itm), MR b W.heap.size nn ss.length X Lf wr /\ ss.length <= nn /\ Came X Lf ss /\ J ss wr)
  (fun _ wr => wr.rangeLeft b W.heap.size)
 case atStart =>
  exact ⟨X, [], hrg0, Nat.zero_le _, Came.start X, hJ [] W w0 none h0 hg0 (fun r e => by cases e)⟩
 case round =>
  obtain ⟨Lf, ss, hrg, hle, hC, hJs⟩ := hrel
  gi_wp2_with (first
   | (gi_at_next; refine zC8 _ rfl _ rfl ktI b W.heap.size nn ss.length X Lf rfl hrg ?_ ?_)
   | gi_in)
  ·intro hd
   gi_wp2
   go_end0
   exact ⟨⟨_, rfl⟩, .inl ⟨ss, hC.done hd, hJs⟩⟩
  ·intro x0 x1 w2 hx hlf hXx hrg2 hlt hg2 hs2 hen
   have hJ2 : J ss w2 := hJ ss wr w2 (some W.heap.size) hJs hg2 (fun r e => by cases e; exact ⟨Nat.le_refl _, hrg.iter_walk⟩)
   have hlt2 : ss.length < nn := by
    obtain ⟨D, left, cnt, h1, h2, h3, h4⟩ := hrg2
    omega
   have hC2 := zSg (hC.step (x := (x0, x1)) hx hlf hXx)
   have hr3 := hrg2.went (Gr.boxed w2 (.cells #[.int .i64 x0, .int .i64 x1] 112))
   have hl3 : (w2.alloc (.cells #[.int .i64 x0, .int .i64 x1] 112)).rangeLeft b W.heap.size = w2.rangeLeft b W.heap.size := MRan.left_keep ((Gr.boxed w2 _).block b hrg2.lt.1) ((Gr.boxed w2 _).block _ hrg2.lt.2.1)
   have hJ3 : J ss (w2.alloc (.cells #[.int .i64 x0, .int .i64 x1] 112)) := hJ ss w2 _ none hJ2 (World.grownBy_alloc _ _ _) (fun r e => by cases e)
   have y0 : (w2.alloc (.cells #[.int .i64 x0, .int .i64 x1] 112)).cell? ⟨w2.heap.size, 0, none⟩ = some (.int .i64 x0) := Gr.zAB rfl rfl
   have y1 : (w2.alloc (.cells #[.int .i64 x0, .int .i64 x1] 112)).cell? ⟨w2.heap.size, 1, none⟩ = some (.int .i64 x1) := Gr.zAB rfl rfl
   obtain ⟨fn, tmps, assign, body, hy, hR⟩ := hY ss (x0, x1) _ hJ3 hlt2
   unfold iv at hen hy ⊢
   dsimp only at hen hy ⊢
   clear hs2 hJ2 hJs hrg hC hJ
   gi_wp2
   refine hR.mono ?_
   rintro e W3 (⟨rfl, hJ4, hk4⟩ | ⟨rfl, hJx4⟩)
   ·obtain ⟨hr4, hl4⟩ := hr3.walks hk4
    gi_wp2
    go_roundw
    case rel => exact ⟨_, ss ++ [(x0, x1)], by simpa using hr4, by simp; omega, hC2.out, hJ4⟩
    case measure => rw [hl4, hl3]; exact hlt
   ·gi_wp2
    refine bodyPost_ret (results_none rfl _ _ _) rfl ?_
    exact ⟨⟨_, rfl⟩, .inr ⟨_, trivial, hJx4⟩⟩
theorem keys_stops (F : Fence) (n : Nat) (hf : F.fn 205) (hro : F.round = none) (hn : 1 <= n) (Bm b nn : Nat) (X : Itm -> Prop) (w : World) (hBm : Bm < w.heap.size) (hm : w.cell? ⟨Bm, 0, none⟩ = some (.map (some b))) (hs : MS b nn X w) :
  SeqStopsK F n Tryz.prog 205 #[.pointer (some ⟨Bm, 0, none⟩)] (fun x : Itm => #[iv x]) KeepsWalks (All X) (fun _ => True) nn w := fun l J Jx W hW hJ _ hY h0 =>
 keys1_in F n hf hro hn l Bm b nn X J Jx hY W hJ ((hW.cell (p := ⟨Bm, 0, none⟩) hBm).trans hm) (hs.went hW) h0
end Im
namespace Im
open Go.RowKit Go.Maps
attribute [local go_sem] Oper.semAt_some
theorem zCr : (Tryz.prog.info? 112).map (fun i => (i.zero, i.size, i.bytes)) = some (some (.agg #[.int .i64 0, .int .i64 0]), 2, 16) := by kernel_rfl
abbrev seqv (Bm : Nat) : Value := .func (.func 205) #[] #[.pointer (some ⟨Bm, 0, none⟩)]
def zPD (X : Itm -> Prop) (w : World) (e : Ending) (w' : World) : Prop := ∃ (v : Value) (ss : List Itm), e = .returned v /\ All X ss /\ ItsV 112 w.heap.size ss v w' /\ Below w.heap.size w w'
def AxI (w : World) (Bm : Nat) (x : Itm) (a' : Act) (W : World) : Prop := ∃ Bx, w.heap.size <= Bx /\ W.heap[Bx]? = some (.cells #[.int .i64 x.1, .int .i64 x.2] 112 (0, 0)) /\
 a' = { tmps := #[.slice none 0 0, seqv Bm, .pointer (some ⟨w.heap.size, 0, none⟩), undef, .slice none 0 0, .pointer (some ⟨Bx, 0, none⟩), seqv Bm, iv x, undef, undef, undef, undef, undef], defers := [] }
theorem zPN (w : World) (Bm : Nat) (x : Itm) (a' : Act) (B : Nat) : OwnFrom B (fun (_ : Unit) W => AxI w Bm x a' W) := by
 rintro s W W' row ⟨Bx, h1, h2, h3⟩ hg hr
 refine ⟨Bx, h1, (hg.block Bx (Array.getElem?_eq_some_iff.1 h2).1 fun e => ?_).trans h2, h3⟩
 obtain ⟨_, o, ho, hc⟩ := hr Bx e.symm
 rw [h2] at ho
 cases ho
 cases hc
theorem appendSeq_in (F : Fence) (n : Nat) (h68 : F.fn 215) (h53 : F.fn 205) (hro : F.round = none) (hn : 3 <= n) (Bm b nn : Nat) (X : Itm -> Prop) (w : World) (hBm : Bm < w.heap.size) (hm : w.cell? ⟨Bm, 0, none⟩ = some (.map (some b))) (hs : MS b nn X w) (hnn : nn <= 1000000) :
  CallsIn F n Tryz.prog 215 #[.slice none 0 0, seqv Bm] w (zPD X w) := by
 have h1 : 1 <= n := by omega
 obtain ⟨i0, hi, hz0, hz1, hz2⟩ := info_parts zCr
 refine callsIn_of_wp_marks Tryz.func215 rfl h68 ?_ hro
 simp only [Tryz.ntmps215, List.size_toArray, List.length_cons, List.length_nil, Nat.reduceAdd, Nat.reduceSub, Array.replicate_succ, Array.replicate_zero, List.push_toArray, List.append_toArray, List.nil_append, List.cons_append]
 gi_wp2
 have bO := Boxed.new w 90 (.slice none 0 0)
 have hb0 : Below w.heap.size w (w.alloc (.cells #[.slice none 0 0] 90)) := Gr.boxed _ _
 have hsz : (w.alloc (.cells #[.slice none 0 0] 90)).heap.size = w.heap.size + 1 := by simp
 have hst := keys_stops F (n - 1) h53 hro (by omega) Bm b nn X _ (by rw [hsz]; omega) (Gr.cell_later hb0 hm) (hs.went hb0)
 clear hm hs
 refine wpIn_rangeFunc_ownH hro h1 (gf := 205) (lb := #[.pointer (some ⟨Bm, 0, none⟩)]) rfl h53 (enters_of Tryz.func205 (by kernel_rfl) rfl)
  hst walksK_t walksK_b (Below.refl _ _) (fun _ => rfl)
  (fun (pre : List Itm) W => (∃ v, Boxed W w.heap.size 90 v /\ W.ownsRow w.heap.size 112 2 v pre.length (pre.flatMap ic) /\ True) /\ Below w.heap.size w W)
  (fun _ _ _ => False)
  (OwnFrom.and (Own.from (holdsRow_own w.heap.size w.heap.size 90 112 2 (fun (pre : List Itm) => pre.length) (fun (pre : List Itm) => pre.flatMap ic) (fun _ _ => True)) _) (ownFrom_below (Nat.le_refl _) (by rw [hsz]; omega)))
  (fun _ _ _ _ _ hs _ _ => hs)
  ⟨⟨_, bO, World.ownsRow_nil _ _ _ _, trivial⟩, hb0⟩
  (AxI w Bm) (fun x a' => zPN w Bm x a' _) ?assign ?body ?done ?stop
 case assign =>
  rintro l pre x W K ⟨⟨v, hv, hrow, _⟩, hB⟩ hK
  have hx : iv x = .agg #[.int .i64 x.1, .int .i64 x.2] := rfl
  rw [hx] at *
  gi_wp2
  exact hK _ _ ((KeepsOthers.alloc _ _).from _) (KeepsWalks.alloc _ _) ⟨⟨v, hv.alloc _, hrow.alloc _, trivial⟩, hB.alloc hB.size _⟩ ⟨W.heap.size, hB.size, World.alloc_heap_new _ _, rfl⟩
 case body =>
  rintro l pre x a' W hl ⟨r, hr⟩ ⟨⟨v, hv, hrow, _⟩, hB⟩ ⟨Bx, hBx, bX, rfl⟩ hlt
  have hc := hv.cell
  have c0 : W.cell? ⟨Bx, 0, none⟩ = some (.int .i64 x.1) := by simp [World.cell?, bX]
  have c1 : W.cell? ⟨Bx, 1, none⟩ = some (.int .i64 x.2) := by simp [World.cell?, bX]
  have hx : iv x = .agg #[.int .i64 x.1, .int .i64 x.2] := rfl
  rw [hx]
  clear hr bX hx
  gi_wp2_with (gi_at_builtin; refine wpListIn_append_own _ rfl _ _ 90 rfl w.heap.size 112 i0 (.agg #[.int .i64 0, .int .i64 0]) 2 16 Tryz.underlying90 hi hz0 hz1 hz2 rfl (by decide) _ _ _ rfl (hrow.alloc _) ⟨W.heap.size, 0, none⟩ 1 1 (ic x) rfl rfl ?c1 ?c2 (by unfold maxLen; omega) (by omega) (by have := hB.size; simp; omega) ?_)
  case c1 =>
   intro i u hu
   match i, hu with
   | 0, hu =>
    simp [ic] at hu
    subst hu
    simp [Addr.add]
   | 1, hu =>
    simp [ic] at hu
    subst hu
    simp [Addr.add]
   | i + 2, hu => simp [ic] at hu
  case c2 =>
   intro u hu
   simp only [ic, List.mem_cons, List.not_mem_nil, or_false] at hu
   rcases hu with rfl | rfl <;> rfl
  intro v' w1 hown' hgrow _
  obtain ⟨g', cap', rfl⟩ := ownsRow_succ hown'
  obtain ⟨hv1, hv2, hr2, hk2, hb2⟩ := hv.appended (by decide) hrow hB.size (Nat.le_refl _) hown' hgrow
  have hc1 := hv1.cell
  have hf1 := hv1.frozen
  gi_wp2
  exact ⟨hk2.from _, hk2.walks, ⟨_, hv2, by simpa [ic] using hr2, trivial⟩, hB.trans hb2⟩
 case done =>
  rintro D ys W hD hS ⟨⟨v, hv, hrow, _⟩, hB⟩ hK
  have hc := hv.cell
  gi_wp2
  refine ⟨by simp, .inl ⟨_, _, rfl, run_takeDeferred hK, ?_⟩⟩
  exact ⟨_, results_tmp rfl _ _ _, v, ys, rfl, hS, ownsRow_putObj hrow _ hK rfl, hB.trans (belowK_b (w := w) (Nat.le_refl _) W D _ _ (by rw [hsz] at hD; omega) hK rfl rfl)⟩
 case stop =>
  rintro D c pre W _ _ h _
  exact h.elim
end Im
namespace Gr
open Go.RowKit Go.Maps
theorem zJH {a : Option Addr} {R : List (Int × List Int)} {w : World} (h : zBI a R w) (k : Nat) : zBI a (R.take k) w := fun i hi => by
 have hi' : i < R.length := by rw [List.length_take] at hi; omega
 have := h i hi'
 rw [← List.getElem_take (h := hi)] at this
 exact this
theorem zNx {R : List (Int × List Int)} {k : Nat} (hk : k < R.length) (h : (R.take k).Nodup) (ha : (R.take k).any (fun o => zB3 o R[k]) = false) : (R.take (k + 1)).Nodup := by
 rw [List.take_succ_eq_append_getElem hk, List.nodup_append]
 refine ⟨h, by simp, fun a hm b hb => ?_⟩
 simp only [List.mem_singleton] at hb
 subst hb
 rintro rfl
 have := List.any_eq_false.1 ha _ hm
 exact this (zGU.2 rfl)
theorem zNw {R : List (Int × List Int)} {k : Nat} (hk : k < R.length) (ha : (R.take k).any (fun o => zB3 o R[k]) = true) : ¬ R.Nodup := by
 intro hN
 obtain ⟨o, hm, he⟩ := List.any_eq_true.1 ha
 rw [zGU] at he
 subst he
 obtain ⟨i, hi', e⟩ := List.mem_iff_getElem.1 hm
 simp at hi'
 rw [List.getElem_take] at e
 have := (List.getElem_inj hN (i := i) (j := k) (h₀ := by omega) (h₁ := hk)).1 e
 omega
theorem zEa (h : Sh) (G : Gram) (w : World) (k : GAt h G w) :
  Calls Tryz.prog 64 #[gv h G] w (Is (.bool (!zBc G)) w) := by
 have hc3 := k.r2
 have hcap := k.r1
 obtain ⟨a1, c1, a2, c2, a3, c3⟩ := h
 have X := zSg (Bx.start ⟨a1, c1, a2, c2, a3, c3⟩ G w 25)
 have K := zSg (show ∀ w1, Below w.heap.size w w1 -> zBI a3 G.rules w1 from fun w1 (b : Below w.heap.size w w1) => (k.went b).rules)
 have hmf : ∀ (fn : Fn) (first cap : Array Value) (w : World), (Instr.makeFunc fn first cap).run Tryz.prog w = .ok (.func fn first cap) w := fun _ _ _ _ => rfl
 clear k
 dsimp only at hcap
 unfold gv
 dsimp only
 go_enter Tryz.func64, Tryz.ntmps64
 go_wp2
 go_loopw [8] (fun i wr => ∃ j : Nat, j <= G.rules.length /\ i = .int .i64 j /\ (G.rules.take j).Nodup /\ Bx w ⟨a1, c1, a2, c2, a3, c3⟩ G wr) (fun i _ => G.rules.length - (intOf i).toNat)
 case atStart => exact ⟨0, Nat.zero_le _, rfl, by simp, X.out⟩
 case round =>
  clear X
  obtain ⟨j, hj, rfl, hA, hX⟩ := hrel
  have A := zSg hA
  have X := zSg hX
  obtain ⟨x0, x1, x2, x3⟩ := hX.box
  clear hA hX
  by_cases hlt : j < G.rules.length
  ·obtain ⟨b, o, ra, rc, e, h1, h2, h3, h4, h5⟩ := K.out _ X.out.below j hlt
   try dsimp only at e
   subst e
   have hsz : w.heap.size < wr.heap.size := X.out.size
   have AE := zSg (fun he => zNx hlt A.out he)
   have AF := zSg (fun he => zNw hlt he)
   generalize G.rules[j] = r at h1 h2 h3 h4 h5 AE AF
   have RB := zSg (show zDA wr.heap.size r (wr.alloc (.cells #[.int .i64 r.1, .slice ra r.2.length rc] 57)) from ⟨ra, rc, zAB rfl rfl, zAB rfl rfl, Sep.Reads.below h3 (boxed _ _) (Nat.le_refl _), by omega⟩)
   have HC := zSg (show Calls Tryz.prog 98 #[.slice (some ⟨b, o, none⟩) j c3, .func (.func 105) #[] #[.pointer (some ⟨wr.heap.size, 0, none⟩)]] (wr.alloc (.cells #[.int .i64 r.1, .slice ra r.2.length rc] 57)) (Is (.bool ((G.rules.take j).any (fun o => zB3 o r))) (wr.alloc (.cells #[.int .i64 r.1, .slice ra r.2.length rc] 57))) from by
    have := zFv wr.heap.size r (G.rules.take j) (some ⟨b, o, none⟩) c3 _ (zJH (K.out _ (X.out.alloc _).below) j) (by rw [List.length_take]; omega) RB.out
    rw [List.length_take, Nat.min_eq_left hj] at this
    exact this)
   clear h3 h4 h5 RB
   cases hs : (G.rules.take j).any (fun o => zB3 o r) with
   | false =>
    rw [hs] at HC
    have A2 := zSg (AE.out hs)
    clear hs
    go_wp2_with (go_at_call 98; refine HC.out.mono ?_; rintro e w1 ⟨rfl, hb⟩; have X := zSg ((X.out.alloc _).went hb); clear hb)
    go_roundw
    case rel => exact ⟨j + 1, by omega, by go_num, A2.out, X.out⟩
    case measure => simp [intOf]; omega
   | true =>
    rw [hs] at HC
    have F := zSg (AF.out hs)
    clear hs
    go_wp2_with (go_at_call 98; refine HC.out.mono ?_; rintro e w1 ⟨rfl, hb⟩; have X := zSg ((X.out.alloc _).went hb); clear hb)
    go_ret
    exact ⟨zAK (by unfold zBc; rw [decide_eq_false F.out]; rfl), X.out.below⟩
  ·have F := zSg (show G.rules.Nodup by have h1 := A.out; rw [List.take_of_length_le (by omega)] at h1; exact h1)
   go_wp2
   go_ret
   exact ⟨zAK (by unfold zBc; rw [decide_eq_true F.out]; rfl), X.out.below⟩
theorem zLo {G : Gram} {k : Nat} (h : ∀ i, i < k -> 0 < (ofL G ((G.terms.length : Int) + 1 + i)).length) (hk : ¬ k < G.nons.length) : zCE G = true := by
 unfold zCE
 rw [List.all_eq_true]
 intro i hi
 have := h i (by have := List.mem_range.1 hi; omega)
 rw [zCN] at this
 cases e : ofN G ((G.terms.length : Int) + 1 + i) with
 | nil => rw [e] at this; simp at this
 | cons x l => rfl
theorem zJG {G : Gram} {k : Nat} (hk : k < G.nons.length) (h : ¬ 0 < (ofL G ((G.terms.length : Int) + 1 + k)).length) : zCE G = false := by
 unfold zCE
 rw [List.all_eq_false]
 refine ⟨k, List.mem_range.2 hk, ?_⟩
 rw [zCN] at h
 cases e : ofN G ((G.terms.length : Int) + 1 + k) with
 | nil => simp
 | cons x l => rw [e] at h; simp at h
theorem zHV (h : Sh) (G : Gram) (w : World) (k : GAt h G w) (hr : G.rules.length <= 65536) :
  Calls Tryz.prog 65 #[gv h G] w (Is (.bool (!zCE G)) w) := by
 have t := k.t2
 have n := k.n2
 have T := zSg (fun w1 (b : Below w.heap.size w w1) => zBb h G w1 (k.went b))
 have N := zSg (fun s w1 (b : Below w.heap.size w w1) => zDS h G s w1 (k.went b) hr)
 have X := zSg (Bx.start h G w 25)
 have htop : (top G : Int) = (G.terms.length : Int) + (G.nons.length : Int) := by unfold top; omega
 have HT := zSg htop
 generalize top G = tp at T htop
 clear k HT
 unfold gv
 go_enter Tryz.func65, Tryz.ntmps65
 go_wp2
 go_loopw [3] (fun i wr => ∃ j : Nat, j <= G.nons.length /\ i = .int .i64 ((G.terms.length : Int) + 1 + j) /\ (∀ i, i < j -> 0 < (ofL G ((G.terms.length : Int) + 1 + i)).length) /\ Bx w h G wr) (fun i _ => (G.terms.length + G.nons.length + 1) - (intOf i).toNat)
 case atStart => exact ⟨0, Nat.zero_le _, by go_num, fun _ h => absurd h (by omega), X.out⟩
 case round =>
  clear X
  obtain ⟨j, hj, rfl, hA, hX⟩ := hrel
  have A := zSg hA
  have X := zSg hX
  obtain ⟨x0, x1, x2, x3⟩ := hX.box
  clear hA hX
  by_cases hlt : j < G.nons.length
  ·have NN := zSg (N.out ((G.terms.length : Int) + 1 + j))
   have F3 := zSg (zJG (G := G) (k := j) hlt)
   have F4 := zSg (fun (h0 : 0 < (ofL G ((G.terms.length : Int) + 1 + j)).length) i (hi : i < j + 1) => show 0 < (ofL G ((G.terms.length : Int) + 1 + i)).length by
    by_cases e : i = j
    ·subst e; exact h0
    ·exact A.out i (by omega))
   generalize hL : ofL G ((G.terms.length : Int) + 1 + j) = L at NN F3 F4
   clear hL
   rcases L with _ | ⟨x, l⟩
   ·have F := zSg (F3.out (by simp))
    clear F3 F4
    go_wp2_with (first
     | (go_at_call 102; refine (T.out _ X.out.below).mono ?_; rintro e w1 ⟨rfl, hb⟩; have X := zSg (X.out.went hb); obtain ⟨x0, x1, x2, x3⟩ := X.out.box; clear hb)
     | (go_at_call 107; refine (NN.out _ X.out.below).mono ?_; rintro e w2 ⟨a', c', rfl, hr, hn, hb⟩; have X := zSg (X.out.went hb); clear hb hr hn))
    go_ret
    exact ⟨zAK (by rw [F.out]; rfl), X.out.below⟩
   ·have F := zSg (F4.out (by simp))
    clear F3 F4
    go_wp2_with (first
     | (go_at_call 102; refine (T.out _ X.out.below).mono ?_; rintro e w1 ⟨rfl, hb⟩; have X := zSg (X.out.went hb); obtain ⟨x0, x1, x2, x3⟩ := X.out.box; clear hb)
     | (go_at_call 107; refine (NN.out _ X.out.below).mono ?_; rintro e w2 ⟨a', c', rfl, hr, hn, hb⟩; have X := zSg (X.out.went hb); clear hb hr hn))
    go_roundw
    case rel => exact ⟨j + 1, by omega, by go_num, F.out, X.out⟩
    case measure => simp [intOf]; omega
  ·have F := zSg (zLo A.out hlt)
   go_wp2_with (go_at_call 102; refine (T.out _ X.out.below).mono ?_; rintro e w1 ⟨rfl, hb⟩; have X := zSg (X.out.went hb); clear hb)
   go_ret
   exact ⟨zAK (by rw [F.out]; rfl), X.out.below⟩
end Gr
namespace Au
open Go.RowKit Go.Maps
open Gr (boxed zAB step)
open Im
theorem zBG {w w' : World} {row : Option Nat} {m : Nat} (hg : w.grownBy w' row) (hm : m <= w.heap.size) (hr : ∀ k, row = some k -> m <= k) : Below m w w' :=
 ⟨hg.os, hg.tape, hg.output, hg.size, fun i hi => hg.block i (by omega) fun e => by have := hr i e.symm; omega⟩
theorem zKc (x : Itm) : ∀ u ∈ ic x, u.oneCell' = true := fun u hu => by
 simp only [ic, List.mem_cons, List.not_mem_nil, or_false] at hu
 rcases hu with rfl | rfl <;> rfl
theorem zP9 {T : TypeId} {base : Nat} {X : List Itm} {v : Value} {w : World} (h : ItsV T base X v w) : ∀ k, v.ownBlock = some k -> base <= k := fun k hk => (World.ownsRow.lt h k hk).1
def bvs (xs : List Int) : List Value := xs.map (.int .u8)
theorem zId (xs ys : List Int) : bvs (xs ++ ys) = bvs xs ++ bvs ys := by simp [bvs]
theorem zKl : (Tryz.prog.info? 5).map (fun i => (i.zero, i.size, i.bytes)) = some (some (.int .u8 0), 1, 1) := by kernel_rfl
def zDN (base : Nat) (xs : List Int) (v : Value) (w : World) : Prop := w.ownsRow base 5 1 v xs.length (bvs xs)
theorem zDN.went {base : Nat} {X : List Int} {v : Value} {w w' : World} (h : zDN base X v w) (hb : Below w.heap.size w w') : zDN base X v w' := Sep.zAD h fun g hg => hb.block g (h.lt g hg).2
theorem zDN.nil (base : Nat) (w : World) : zDN base [] (.slice none 0 0) w := World.ownsRow_nil _ _ _ _
theorem zDN.shape {base : Nat} {X : List Int} {v : Value} {w : World} (h : zDN base X v w) : ∃ a c, v = .slice a X.length c := by
 obtain ⟨a, c, e⟩ := Sep.zAr h
 exact ⟨a, c, e⟩
theorem zDN.text {base : Nat} {X : List Int} {a : Option Addr} {c : Nat} {w : World} (h : zDN base X (.slice a X.length c) w) :
  (convert 163 9 (.slice a X.length c)).run Tryz.prog w = .ok (.string (strOfNums X)) w := by
 rcases h.2 with ⟨e1, h0⟩ | ⟨g, cap, cur, he, _⟩
 ·have e : X = [] := List.eq_nil_of_length_eq_zero h0
  subst e
  simp only [Value.slice.injEq] at e1
  obtain ⟨rfl, _, rfl⟩ := e1
  exact run_convert_bytes_nil w 163 5 Tryz.underlying163 Tryz.underlying5 _ _ 9 Tryz.underlying9
 ·simp only [Value.slice.injEq] at he
  obtain ⟨rfl, _, _⟩ := he
  have hc := World.ownsRow.cells h (g := g) rfl
  refine run_convert_bytes_arg w 163 5 Tryz.underlying163 Tryz.underlying5 g 0 X.length c X rfl (fun i hi => ?_) 9 Tryz.underlying9
  have := hc i (.int .u8 (X.getD i 0)) (by simp [bvs, hi])
  rwa [WideShapes.add_plain] at this
theorem zME (w : World) (n : Nat) (hn : n = w.heap.size) (x y z : Value) (t : TypeId) : ∀ j u, [x, y, z][j]? = some u -> (w.alloc (.cells #[x, y, z] t)).cell? ((⟨n, 0, none⟩ : Addr).add j) = some u := by
 intro j u hj
 subst hn
 rw [WideShapes.add_plain]
 match j, hj with
 | 0, hj => exact zAB rfl (by simpa using hj)
 | 1, hj => exact zAB rfl (by simpa using hj)
 | 2, hj => exact zAB rfl (by simpa using hj)
theorem zDN.more {base : Nat} {L : List Itm} {v : Value} {w : World} {k : Nat} (hk : k < L.length) {p q r : Int} (e : [p, q, r] = kb L[k]) {n : Nat} (hn : n = (keyL (L.take k)).length + 3) (h : w.ownsRow base 5 1 v n (bvs (keyL (L.take k)) ++ [.int .u8 p, .int .u8 q, .int .u8 r])) : zDN base (keyL (L.take (k + 1))) v w := by
 subst hn
 have ht : keyL (L.take (k + 1)) = keyL (L.take k) ++ [p, q, r] := by
  rw [List.take_succ_eq_append_getElem hk, zKv, e]
 unfold zDN
 rw [ht, zId, List.length_append]
 exact h
theorem zQE (L : List Itm) (a : Option Addr) (c : Nat) (w : World) (kl : ItsA a L w) (hf : Fit3 L) (hL : L.length <= 1000000) :
  Calls Tryz.prog 66 #[.slice a L.length c] w (Gr.Is (.string (keyB L)) w) := by
 obtain ⟨i0, hi, hz0, hz1, hz2⟩ := info_parts zKl
 have KL := zSg (fun w1 (b : Below w.heap.size w w1) => kl.went b)
 have HF := zSg hf
 have B0 := zSg (zDN.nil w.heap.size w)
 clear kl hf
 go_enter Tryz.func66, Tryz.ntmps66
 go_wp2
 go_loopw [3, 8] (fun v i wr => ∃ j : Nat, j <= L.length /\ i = .int .i64 j /\ zDN w.heap.size (keyL (L.take j)) v wr /\ Below w.heap.size w wr) (fun _ i _ => L.length - (intOf i).toNat)
 case atStart => exact ⟨0, Nat.zero_le _, rfl, B0.out, .refl _ _⟩
 case round =>
  obtain ⟨j, hj, rfl, hB, hW⟩ := hrel
  obtain ⟨av, cv, rfl⟩ := hB.shape
  clear B0
  by_cases hlt : j < L.length
  ·obtain ⟨b, o, rfl, c0, c1⟩ := (KL.out wr hW).at j hlt
   have hx := HF.out _ (List.getElem_mem hlt)
   have HM := zSg (fun (v : Value) (w' : World) (n : Nat) (p q r : Int) e hn h => zDN.more (base := w.heap.size) (v := v) (w := w') hlt (p := p) (q := q) (r := r) (n := n) e hn h)
   have hl : (keyL (L.take j)).length <= 3000000 := by
    rw [zD5, List.length_take]
    omega
   have B := zSg hB
   have W := zSg hW
   clear hB hW
   have e1 : ((L[j].1, L[j].2) : Itm) = L[j] := rfl
   generalize L[j] = x at *
   obtain ⟨x0, x1⟩ := x
   dsimp only at c0 c1 hx
   clear e1
   generalize keyL (L.take j) = X at B HM hl
   have hk : [x0 % 256, x0 / 256, x1] = kb (x0, x1) := by
    unfold kb
    dsimp only
    rw [show x0 / 256 % 256 = x0 / 256 by omega, show x1 % 256 = x1 by omega]
   have hs0 : (wr.alloc (.cells #[.int .i64 x0, .int .i64 x1] 112)).heap.size = wr.heap.size + 1 := by simp
   have HB2 := zSg (Gr.step W.out (Gr.step (boxed wr (.cells #[.int .i64 x0, .int .i64 x1] 112)) (boxed _ (.cells #[.int .u8 (x0 % 256), .int .u8 (x0 / 256), .int .u8 x1] 5))))
   have RB := zSg (B.out.went (Gr.step (boxed wr (.cells #[.int .i64 x0, .int .i64 x1] 112)) (boxed _ (.cells #[.int .u8 (x0 % 256), .int .u8 (x0 / 256), .int .u8 x1] 5))))
   have NW := zSg (zME (wr.alloc (.cells #[.int .i64 x0, .int .i64 x1] 112)) (wr.heap.size + 1) hs0.symm (.int .u8 (x0 % 256)) (.int .u8 (x0 / 256)) (.int .u8 x1) 5)
   have hsz := HB2.out.size
   have hbl : ∀ g, (Value.slice av X.length cv).ownBlock = some g -> w.heap.size <= g := fun g hg => (World.ownsRow.lt B.out g hg).1
   have HBL := zSg hbl
   clear hbl B W
   go_wp2_with (at_builtin; refine wpList_append_own_at _ rfl _ _ 163 rfl w.heap.size 5 i0 (.int .u8 0) 1 1 Tryz.underlying163 hi hz0 hz1 hz2 rfl (by decide) _ _ _ rfl RB.out ⟨wr.heap.size + 1, 0, none⟩ 3 3 [.int .u8 (x0 % 256), .int .u8 (x0 / 256), .int .u8 x1] rfl rfl NW.out (by simp [Value.oneCell']) (by unfold maxLen; omega) (by omega) hsz ?_; intro v' w' hown hg _ _; have HO := zSg hown; have HG := zSg (HB2.out.trans (zBG hg hsz HBL.out)); clear hown hg)
   go_roundw
   case rel => exact ⟨j + 1, by omega, by go_num, HM.out _ _ _ _ _ _ hk rfl HO.out, HG.out⟩
   case measure => simp [intOf]; omega
  ·have hE : j = L.length := by omega
   subst hE
   rw [List.take_length] at hB
   rw [List.take_length]
   have T := hB.text
   have HK := zSg (show strOfNums (keyL L) = keyB L from rfl)
   generalize keyL L = X at *
   generalize strOfNums X = s at *
   go_wp2
   have e := HK.out
   subst e
   go_ret
   exact ⟨rfl, hW⟩
end Au
namespace Au
open Gr (Gram checkN zAX zBX top)
open Im
theorem zC5 {G : Gram} (hv : checkN G = 0) : top G <= 240 := by
 have h := (zAX hv).1
 unfold zBX at h
 simp only [Bool.or_eq_false_iff, decide_eq_false_iff_not] at h
 unfold top
 omega
structure Ent (G : Gram) (X : List Sta) : Prop where
 hv : checkN G = 0
 small : Small X
 len : X.length <= 2000
 right : ∀ s ∈ X, Srt s.1 /\ ∀ x ∈ s.1, zAJ G x = true
 «to» : ∀ k (h : k < X.length) j (h' : j < X[k].2.length), ∃ n : Nat, X[k].2[j].2 = (n : Int) /\ ∃ hn : n < X.length, ∀ x ∈ X[n].1, zGu G X[k].2[j].1 x
 early : ∀ t, 0 < t -> t < X.length -> ∃ k, ∃ h : k < X.length, ∃ j, ∃ h' : j < X[k].2.length, k < t /\ X[k].2[j].2 = (t : Int)
 some : ∀ t (h : t < X.length), X[t].1 ≠ []
 spells : ∀ i (hi : i < X.length) (r : Int), Gr.zAU G r = true -> (Gr.zAE G r).2.length ≠ 0 -> Clo G X[i].1 (r, 0) -> ∃ j : Nat, ∃ hj : j < X.length, zEe X (i : Int) (Gr.zAE G r).2 = (j : Int) /\ (r, ((Gr.zAE G r).2.length : Int)) ∈ X[j].1
theorem zRK {G : Gram} {X : List Sta} (h : Built G 0 X) : Ent G X := by
 generalize he : (0 : Int) = e at h
 cases h with
 | bad hb => exact absurd he.symm hb
 | many _ _ _ => cases he
 | all hv hs hf =>
  rename_i n
  have D := hs.done hf
  generalize runs G (top G) n = q at *
  have hl := zAc D.all
  have at1 : ∀ i (h : i < (states q).length), (states q)[i] = (zAH q.1 i, q.2.getD i []) := fun i h => by
   have := zBm D.all (i := i) (by omega)
   rw [List.getElem?_eq_getElem h, Option.some.injEq] at this
   exact this
  have good : ∀ s ∈ states q, s.1 ∈ q.1 := fun s hs => by
   obtain ⟨i, hi, rfl⟩ := List.mem_iff_getElem.1 hs
   rw [at1 i hi]
   exact zAs (by omega)
  have hr : ∀ s ∈ states q, Srt s.1 /\ ∀ x ∈ s.1, zAJ G x = true := fun s hs => (D.ok.good _ (good s hs)).2
  refine ⟨hv, ⟨by omega, fun s hs => ?_, fun s hs => ?_⟩, by omega, hr, fun k h j h' => ?_, fun t h0 ht => ?_, fun t ht => ?_, fun i hi r hr h0 hx => ?_⟩
  ·have := Nat.le_trans (zFZ (hr s hs).1 (hr s hs).2) (zAu hv)
   omega
  ·obtain ⟨i, hi, rfl⟩ := List.mem_iff_getElem.1 hs
   rw [at1 i hi]
   have hi2 : i < q.2.length := by rw [D.all]; omega
   rw [← zLY D.ok hi2]
   have := zLZ q.2 (i : Int) (top G + 1)
   have := zC5 hv
   dsimp only
   omega
  ·have hk : k < q.1.length := by omega
   have e2 : (states q)[k].2 = q.2.getD k [] := by rw [at1 k h]
   have hm : (states q)[k].2[j] ∈ q.2.getD k [] := by
    rw [← e2]
    exact List.getElem_mem h'
   obtain ⟨n, h1, h2, h3⟩ := D.enters hk (s := (states q)[k].2[j].1) (t := (states q)[k].2[j].2) hm
   refine ⟨n, h1, by omega, ?_⟩
   rw [at1 n (by omega)]
   exact h3
  ·obtain ⟨k, s, h1, h2⟩ := D.early h0 (by omega)
   have hk : k < (states q).length := by omega
   have e2 : (states q)[k].2 = q.2.getD k [] := by rw [at1 k hk]
   rw [← e2] at h2
   obtain ⟨j, hj, e⟩ := List.mem_iff_getElem.1 h2
   exact ⟨k, hk, j, hj, h1, by rw [e]⟩
  ·rw [at1 t ht]
   exact D.some (by omega)
  ·rw [at1 i hi] at hx
   obtain ⟨j, h1, h2, h3⟩ := D.spells hv (i := i) (by omega) hr h0 (((zEV _ _).2 _).2 hx)
   refine ⟨j, by omega, ?_, by rw [at1 j (by omega)]; exact h3⟩
   rw [← hl, zML (fun i h => by rw [at1 i h])] at h2
   exact h2
end Au
namespace Gr
open Go.RowKit Go.Maps
def zJb (l : List Int) (w : World) (e : Ending) (w' : World) : Prop :=
 ∃ a c, e = .returned (.slice a l.length c) /\ Sep.Reads a (ivs l) w' /\ New a w /\ Below w.heap.size w w' /\ l.length <= c
def zQ6 (r : Int × List Int) (ok : Bool) (w : World) (e : Ending) (w' : World) : Prop :=
 ∃ a c, e = .returned (.tuple #[.agg #[.int .i64 r.1, .slice a r.2.length c], .bool ok]) /\ Sep.Reads a (ivs r.2) w' /\ Below w.heap.size w w' /\ New a w /\ r.2.length <= c
theorem zJ6 (a : Option Addr) (l : List Int) (c : Nat) (w : World) (h : Sep.Reads a (ivs l) w) (hl : l.length <= 17592186044416) :
  Calls Tryz.prog 96 #[.slice a l.length c] w (zJb l w) := by
 obtain ⟨i0, hi, hz0, hz1, hz2⟩ := info_parts zBK
 cases a with
 | none =>
  have h0 : l = [] := by
   rcases l with _ | ⟨x, l⟩
   ·rfl
   ·obtain ⟨_, _, e, _⟩ := h 0 (by simp [ivs])
    cases e
  subst h0
  have hn := Lib.run_eql_slice_nil (P := Tryz.prog)
  go_enter Tryz.func96, Tryz.ntmps96
  go_wp2
  go_ret
  exact ⟨Option.none, _, rfl, .nil _ _, (fun _ h => by cases h), .refl _ _, Nat.zero_le _⟩
 | some x =>
  have HB := zSg (fun v (w1 w2 : World) (h1 : w2.ownsRow w.heap.size 3 1 v (0 + l.length) ([] ++ ivs l)) (h2 : (w.alloc (.cells #[] 3)).grownBy w2 (some w.heap.size)) => show zJb l w (.returned v) w2 from by
   rw [Nat.zero_add, List.nil_append] at h1
   obtain ⟨a', c', rfl⟩ := Sep.zAr h1
   exact ⟨a', c', rfl, .of_row h1, zFX h1 (Nat.le_refl _), ((Below.refl _ _).alloc (Nat.le_refl _) _).grown h2 (by simp) fun k hk => by injection hk with hk; omega, zQj h1⟩)
  have HO := zSg (World.ownsRow_made (base := w.heap.size) (e := 3) (size := 1) w #[] 0 (Nat.le_refl _) (by simp) (by simp))
  have HN := zSg (show ∀ (j : Nat) (u : Value), (ivs l)[j]? = some u -> (w.alloc (.cells #[] 3)).cell? (x.add j) = some u from fun j u hj => by
   obtain ⟨hj1, rfl⟩ := List.getElem?_eq_some_iff.1 hj
   obtain ⟨b, o, e, hc⟩ := h j hj1
   injection e with e
   subst e
   rw [WideShapes.add_plain]
   exact cell_later (boxed _ _) hc)
  have HL := zSg (zKr l)
  have hll := zEr l
  clear h
  have hn := Lib.run_eql_slice_nil (P := Tryz.prog)
  have hb := zEg
  go_enter Tryz.func96, Tryz.ntmps96
  go_wp2_with (at_builtin; refine wpList_append_own_at _ rfl _ _ 55 rfl w.heap.size 3 i0 (.int .i64 0) 1 8 Tryz.underlying55 hi hz0 hz1 hz2 rfl (by decide) _ _ _ rfl HO.out x l.length c (ivs l) rfl (by simp [ivs]) HN.out HL.out (by unfold maxLen; omega) (by omega) (by simp) ?_; intro v' w2 hown2 hg2 _ _; have HE := zSg (HB.out v' w w2 hown2 hg2); clear hown2 hg2)
  go_ret
  exact HE.out
theorem zID (h : Sh) (G : Gram) (i : Int) (w : World) (k : GAt h G w) :
  Calls Tryz.prog 58 #[gv h G, .int .i64 i] w (zQ6 (zAE G i) (zAU G i) w) := by
 have X := zSg (Bx.start h G w 25)
 have hc3 := k.r2
 by_cases h0 : i < 0 \/ (G.rules.length : Int) < i
 ·obtain ⟨e1, e2⟩ := zIE h0
  rw [e1, e2]
  clear k e1 e2
  by_cases h1 : i < 0
  ·clear h0
   unfold gv
   go_enter Tryz.func58, Tryz.ntmps58
   go_wp2
   exact bodyPost_ret (v := .tuple #[.agg #[.int .i64 0, .slice Option.none 0 0], .bool false]) (by simp [results, Tryz.results58, go_sem]) rfl ⟨_, _, rfl, .nil _ _, (X.out.alloc _).below, (fun _ h => by cases h), Nat.zero_le _⟩
  ·have h2 : (G.rules.length : Int) < i := by omega
   clear h0
   unfold gv
   go_enter Tryz.func58, Tryz.ntmps58
   go_wp2
   exact bodyPost_ret (v := .tuple #[.agg #[.int .i64 0, .slice Option.none 0 0], .bool false]) (by simp [results, Tryz.results58, go_sem]) rfl ⟨_, _, rfl, .nil _ _, (X.out.alloc _).below, (fun _ h => by cases h), Nat.zero_le _⟩
 ·by_cases h1 : i = (G.rules.length : Int)
  ·subst h1
   obtain ⟨e1, e2⟩ := zAg G
   rw [e1, e2]
   clear k e1 e2 h0
   unfold gv
   go_enter Tryz.func58, Tryz.ntmps58
   go_wp2
   refine bodyPost_ret (v := .tuple #[.agg #[.int .i64 0, .slice (some ⟨w.heap.size + 1 + 1, 0, Option.none⟩) 1 1], .bool true]) (by simp [results, Tryz.results58, go_sem]) rfl ⟨_, _, rfl, zEH (zAB (by simp) rfl), ((X.out.alloc _).alloc _).below, (fun x h => by injection h with h; subst h; dsimp only; omega), Nat.le_refl _⟩
  ·obtain ⟨j, rfl⟩ : ∃ j : Nat, i = (j : Int) := ⟨i.toNat, by omega⟩
   have hj : j < G.rules.length := by omega
   obtain ⟨e1, e2⟩ := zAt hj
   rw [e1, e2]
   obtain ⟨a1, c1, a2, c2, a3, c3⟩ := h
   obtain ⟨b, o, ra, rc, e, g1, g2, g3, g4, g5⟩ := k.rules j hj
   dsimp only at e
   subst e
   generalize G.rules[j] = r at g1 g2 g3 g4 g5 ⊢
   have hblt : b < w.heap.size := World.block_lt_of_cell? w ⟨b, o + j * 2, Option.none⟩ g1
   have HR := zSg (show Sep.Reads ra (ivs r.2) w from g3)
   clear k e1 e2 h0 h1 g3
   unfold gv
   dsimp only
   go_enter Tryz.func58, Tryz.ntmps58
   go_wp2
   obtain ⟨wq, hwq⟩ : ∃ wq, ((w.alloc (.cells #[.slice a1 G.terms.length c1, .slice a2 G.nons.length c2, .slice (some ⟨b, o, Option.none⟩) G.rules.length c3, .int .i64 G.start] 25)).alloc (.cells #[.int .i64 0, .slice Option.none 0 0] 57)).alloc (.cells #[.int .i64 r.1, .slice ra r.2.length rc] 57) = wq := ⟨_, rfl⟩
   rw [hwq]
   have q0 : wq.cell? ⟨w.heap.size + 1 + 1, 0, Option.none⟩ = some (.int .i64 r.1) := by rw [← hwq]; exact zAB (by simp) rfl
   have q1 : wq.cell? ⟨w.heap.size + 1 + 1, 1, Option.none⟩ = some (.slice ra r.2.length rc) := by rw [← hwq]; exact zAB (by simp) rfl
   have q2 : wq.cell? ⟨w.heap.size + 1, 0, Option.none⟩ = some (.int .i64 0) := by rw [← hwq]; exact zAI (zAB (by simp) rfl)
   have q3 : wq.cell? ⟨w.heap.size + 1, 1, Option.none⟩ = some (.slice Option.none 0 0) := by rw [← hwq]; exact zAI (zAB (by simp) rfl)
   have q4 : wq.frozen? ⟨w.heap.size + 1, 0, Option.none⟩ = false := by rw [← hwq]; exact zBF (i := 0) (boxed _ _) (zBp (by simp)) (zAB (by simp) rfl)
   have q5 : wq.frozen? ⟨w.heap.size + 1, 1, Option.none⟩ = false := by rw [← hwq]; exact zBF (i := 0) (boxed _ _) (zBp (by simp)) (zAB (by simp) rfl)
   have QB := zSg (show Below w.heap.size w wq by rw [← hwq]; exact ((X.out.alloc _).alloc _).below)
   have QC := zSg (fun w1 (k : Below wq.heap.size wq w1) => zJ6 ra r.2 rc w1 ((HR.out.below QB.out (Nat.le_refl _)).below k (Nat.le_refl _)) (by omega))
   have HQ := zSg (show ∀ w', Below wq.heap.size wq w' -> w'.cell? ⟨w.heap.size + 1 + 1, 0, Option.none⟩ = some (.int .i64 r.1) /\ w'.cell? ⟨w.heap.size + 1 + 1, 1, Option.none⟩ = some (.slice ra r.2.length rc) /\ Below w.heap.size w w'
    from fun w' hb => ⟨cell_later hb q0, cell_later hb q1, QB.out.trans (hb.mono QB.out.size)⟩)
   have HT := zSg (show ∀ w' u v, Below wq.heap.size wq w' -> ((w'.setCell ⟨w.heap.size + 1, 0, Option.none⟩ u).setCell ⟨w.heap.size + 1, 1, Option.none⟩ v).cell? ⟨w.heap.size + 1 + 1, 0, Option.none⟩ = some (.int .i64 r.1) /\ ((w'.setCell ⟨w.heap.size + 1, 0, Option.none⟩ u).setCell ⟨w.heap.size + 1, 1, Option.none⟩ v).cell? ⟨w.heap.size + 1 + 1, 1, Option.none⟩ = some (.slice ra r.2.length rc) /\ Below w.heap.size w ((w'.setCell ⟨w.heap.size + 1, 0, Option.none⟩ u).setCell ⟨w.heap.size + 1, 1, Option.none⟩ v)
    from fun w' u v hb => ⟨by rw [World.cell?_setCell_other _ _ _ _ (by intro e; simp at e), World.cell?_setCell_other _ _ _ _ (by intro e; simp at e)]; exact cell_later hb q0, by rw [World.cell?_setCell_other _ _ _ _ (by intro e; simp at e), World.cell?_setCell_other _ _ _ _ (by intro e; simp at e)]; exact cell_later hb q1,
     ((QB.out.trans (hb.mono QB.out.size)).setCell (by simp) _).setCell (by simp) _⟩)
   have hbd := drawn wq
   clear hwq X HR
   go_region_held3 (fun w' => w'.cell? ⟨w.heap.size + 1 + 1, 0, Option.none⟩ = some (.int .i64 r.1) /\ w'.cell? ⟨w.heap.size + 1 + 1, 1, Option.none⟩ = some (.slice ra r.2.length rc) /\ Below w.heap.size w w')
    (first | exact HQ.out _ (by assumption) | exact HT.out _ _ _ (by assumption))
    (first
     | (go_at_call 96; refine (QC.out _ hbd).mono ?_; rintro e wn ⟨a', c', rfl, hr, hnew, hb, hcp⟩; have HCP := zSg hcp; have HR3 := zSg hr; have HN := zSg hnew; have kB : Below wq.heap.size wq wn := step hbd hb; have z2 := cell_later kB q2; have z3 := cell_later kB q3; have z4 := zBF kB q4 q2; have z5 := zBF kB q5 q2; clear hr hnew hb hcp)
     | fail)
   go_wp2
   have hqs := World.block_lt_of_cell? wq ⟨w.heap.size + 1, 0, Option.none⟩ q2
   have f0 : ((wn.setCell ⟨w.heap.size + 1, 0, Option.none⟩ (.int .i64 r.1)).setCell ⟨w.heap.size + 1, 1, Option.none⟩ (.slice a' r.2.length c')).cell? ⟨w.heap.size + 1, 0, Option.none⟩ = some (.int .i64 r.1) := by
    rw [World.cell?_setCell_other _ _ _ _ (by intro e; simp at e)]
    exact World.cell?_setCell_same _ _ _ z2
   have f1 : ((wn.setCell ⟨w.heap.size + 1, 0, Option.none⟩ (.int .i64 r.1)).setCell ⟨w.heap.size + 1, 1, Option.none⟩ (.slice a' r.2.length c')).cell? ⟨w.heap.size + 1, 1, Option.none⟩ = some (.slice a' r.2.length c') := by
    have y3 : (wn.setCell ⟨w.heap.size + 1, 0, Option.none⟩ (.int .i64 r.1)).cell? ⟨w.heap.size + 1, 1, Option.none⟩ = some (.slice Option.none 0 0) := by
     rw [World.cell?_setCell_other _ _ _ _ (by intro e; simp at e)]
     exact z3
    exact World.cell?_setCell_same _ _ _ y3
   have HF := zSg (show Sep.Reads a' (ivs r.2) ((wn.setCell ⟨w.heap.size + 1, 0, Option.none⟩ (.int .i64 r.1)).setCell ⟨w.heap.size + 1, 1, Option.none⟩ (.slice a' r.2.length c')) from HR3.out.keep fun b' o' e' => by
    have hn := HN.out _ e'
    have hn' : wq.heap.size <= b' := hn
    have hqs' : w.heap.size + 1 < wq.heap.size := hqs
    rw [Below.heap_setCell _ _ _ _ (by simp; omega), Below.heap_setCell _ _ _ _ (by simp; omega)])
   exact bodyPost_ret (v := .tuple #[.agg #[.int .i64 r.1, .slice a' r.2.length c'], .bool true]) (by simp [results, Tryz.results58, go_sem, f0, f1]) rfl ⟨_, _, rfl, HF.out, (HT.out _ _ _ kB).2.2, (fun x hx => by have h1 := HN.out x hx; have hqs' : w.heap.size + 1 < wq.heap.size := hqs; have h2 : wq.heap.size <= x.block := h1; omega), HCP.out⟩
end Gr
namespace Au
open Go.RowKit Go.Maps
open Gr (cell_later zAl)
open Im
theorem zLj (X : List Sta) (a : Option Addr) (c : Nat) (i s : Int) (w : World) (hX : StaA a X w) (sm : Small X) :
  Calls Tryz.prog 16 #[.slice a X.length c, .int .i64 i, .int .i64 s] w (Gr.Is (.int .i64 (zDG X i s)) w) := by
 have hxl := sm.len
 by_cases h0 : 0 <= i
 ·by_cases h1 : i < (X.length : Int)
  ·obtain ⟨k, rfl⟩ := Int.eq_ofNat_of_zero_le h0
   have hk : k < X.length := by omega
   rw [zCq hk]
   obtain ⟨b, o, a1, c1, a2, c2, rfl, z1, z2, i1, i2, l1, l2⟩ := hX k hk
   have TR := zSg (fun w1 (b : Below w.heap.size w w1) => i2.went b)
   have hsm := sm.trans _ (List.getElem_mem hk)
   have Z2 := zSg (fun w1 (b : Below w.heap.size w w1) => cell_later b z2)
   clear hX sm z1 i1 i2 l1
   generalize X[k].2 = tr at *
   generalize X.length = n at *
   go_enter Tryz.func16, Tryz.ntmps16
   go_wp2
   go_loopw [7] (fun q wr => ∃ j : Nat, q = .int .i64 j /\ j <= tr.length /\ zGf tr s j /\ Below w.heap.size w wr) (fun q _ => tr.length - (intOf q).toNat)
   case atStart => exact ⟨0, rfl, Nat.zero_le _, zEv _ _, .refl _ _⟩
   case round =>
    obtain ⟨j, rfl, hj, hN, hW⟩ := hrel
    have N := zSg hN
    have HW := zSg hW
    have q2 := Z2.out wr hW
    clear hN
    by_cases hlt : j < tr.length
    ·obtain ⟨b2, o2, rfl, p0, p1⟩ := (TR.out wr hW).at j hlt
     have NS := zSg (fun e => zEu N.out hlt e)
     have NH := zSg (fun e => zGD N.out hlt e)
     have e1 : ((tr[j].1, tr[j].2) : Itm) = tr[j] := rfl
     generalize tr[j] = x at *
     obtain ⟨x0, x1⟩ := x
     dsimp only at p0 p1
     clear e1 hW
     by_cases he : x0 = s
     ·have E := zSg (NH.out he)
      subst he
      clear NS NH
      go_wp2
      go_ret
      exact ⟨zAl E.out, HW.out⟩
     ·have E := zSg (NS.out he)
      clear NS NH
      go_wp2
      go_roundw
      case rel => exact ⟨j + 1, by go_num, by omega, E.out, HW.out⟩
      case measure => simp [intOf]; omega
    ·have E := zSg (zGC N.out hlt)
     clear hW
     go_wp2
     go_ret
     exact ⟨zAl E.out, HW.out⟩
  ·rw [zB9 (decide_eq_false fun q => h1 q.2)]
   clear hX sm
   generalize X.length = n at *
   go_enter Tryz.func16, Tryz.ntmps16
   go_wp2
   go_ret
   exact ⟨rfl, .refl _ _⟩
 ·rw [zB9 (decide_eq_false fun q => h0 q.1)]
  have h2 : i < 0 := by omega
  clear hX sm
  generalize X.length = n at *
  go_enter Tryz.func16, Tryz.ntmps16
  go_wp2
  go_ret
  exact ⟨rfl, .refl _ _⟩
