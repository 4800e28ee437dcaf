/- A part of the proof. -/
import Derived.RangeFuncNested
import Derived.RangeFuncLeaves
import Derived.Shelf.Abstract
import Derived.OwnWalkIn
import Derived.TacticsInMore
import Derived.RegionIn
import Derived.LoopNIn
import Derived.LoopIn
import Derived.Test.YtbajcecncgdpmaaGreatDoorPk16
import Derived.RangeFuncBox
set_option maxHeartbeats 2000000
set_option maxRecDepth 100000
set_option linter.unusedVariables false
namespace Go.Proofs.YtbajcecncgdpmaaGreatDoor
open Go.RowKit Go.Maps
namespace Im
attribute [local go_sem] Oper.semAt_some
structure Came (X Lf : Itm -> Prop) (l : List Itm) : Prop where
 nd : l.Nodup
 fit : ∀ x ∈ l, W64 x
 mem : ∀ x, W64 x -> (x ∈ l ↔ X x /\ ¬ Lf x)
theorem Came.start (X : Itm -> Prop) : Came X X [] := ⟨List.nodup_nil, fun x hx => (List.not_mem_nil hx).elim, fun x _ => ⟨fun h => (List.not_mem_nil h).elim, fun h => absurd h.1 h.2⟩⟩
theorem Came.step {X Lf : Itm -> Prop} {l : List Itm} {x : Itm} (h : Came X Lf l) (hx : W64 x) (hl : Lf x) (hX : X x) : Came X (fun y => Lf y /\ y ≠ x) (l ++ [x]) := by
 have hn : x ∉ l := fun k => ((h.mem x hx).1 k).2 hl
 refine ⟨List.nodup_append.2 ⟨h.nd, by simp, fun a ha b hb => ?_⟩, fun y hy => ?_, fun y hy => ?_⟩
 ·rw [List.mem_singleton] at hb
  subst hb
  exact fun e => hn (e ▸ ha)
 ·rcases List.mem_append.1 hy with k | k
  ·exact h.fit y k
  ·rw [List.mem_singleton] at k
   rw [k]
   exact hx
 ·rw [List.mem_append, List.mem_singleton, h.mem y hy]
  constructor
  ·rintro (⟨h1, h2⟩ | e)
   ·exact ⟨h1, fun k => h2 k.1⟩
   ·subst e
    exact ⟨hX, fun k => k.2 rfl⟩
  ·rintro ⟨h1, h2⟩
   by_cases e : y = x
   ·exact .inr e
   ·exact .inl ⟨h1, fun k => h2 ⟨k, e⟩⟩
structure All (X : Itm -> Prop) (l : List Itm) : Prop where
 nd : l.Nodup
 fit : ∀ x ∈ l, W64 x
 mem : ∀ x, W64 x -> (x ∈ l ↔ X x)
theorem Came.done {X Lf : Itm -> Prop} {l : List Itm} (h : Came X Lf l) (ho : Over Lf) : All X l :=
 ⟨h.nd, h.fit, fun x hx => (h.mem x hx).trans ⟨fun k => k.1, fun k => ⟨k, ho x hx⟩⟩⟩
theorem keys1_in (F : Fence) (n : Nat) (hf : F.fn 179) (hro : F.round = none) (hn : 1 <= n) (l Bm b nn : Nat) (X : Itm -> Prop) (J Jx : List Itm -> World -> Prop)
  (hY : ∀ pre x W, J pre W -> pre.length < nn -> YieldAt F (n - 1) Tryz.prog l #[iv x] W fun e W' => (e = .returned (.bool true) /\ J (pre ++ [x]) W' /\ KeepsWalks W W') \/ (e = .returned (.bool false) /\ Jx (pre ++ [x]) W'))
  (W : World) (hJ : AbidesFrom W.heap.size J) (hm : W.cell? ⟨Bm, 0, none⟩ = some (.map (some b))) (hs : MS b nn X W) (h0 : J [] W) :
  CallsIn F n Tryz.prog 179 #[.func (.yield l) #[] #[], .pointer (some ⟨Bm, 0, none⟩)] W fun e W' => (∃ v, e = .returned v) /\
   ((∃ ss, All X ss /\ J ss W') \/ (∃ pre, True /\ Jx pre W')) := by
 refine callsIn_of_wp Tryz.func179 rfl hf ?_ hro
 simp only [Tryz.ntmps179, List.size_toArray, List.length_cons, List.length_nil, Nat.reduceAdd, Nat.reduceSub, Array.replicate_succ, Array.replicate_zero, List.push_toArray, List.append_toArray, List.nil_append, List.cons_append]
 gi_wp2_with (first
  | (gi_at_range; refine zCm _ rfl _ rfl ktI Tryz.underlying190 (.agg []) b nn X rfl hs ?_; intro w0 hrg0 hg0 hs0)
  | gi_in)
 go_frame
 gi_loopw [3] (fun _ wr => ∃ (Lf : Itm -> Prop) (ss : List Itm), MR b W.heap.size nn ss.length X Lf wr /\ ss.length <= nn /\ Came X Lf ss /\ J ss wr)
  (fun _ wr => wr.rangeLeft b W.heap.size)
 case atStart =>
  exact ⟨X, [], hrg0, Nat.zero_le _, Came.start X, hJ [] W w0 none h0 hg0 (fun r e => by cases e)⟩
 case round =>
  obtain ⟨Lf, ss, hrg, hle, hC, hJs⟩ := hrel
  gi_wp2_with (first
   | (gi_at_next; refine zDB _ rfl _ rfl ktI b W.heap.size nn ss.length X Lf rfl hrg ?_ ?_)
   | gi_in)
  ·intro hd
   gi_wp2
   go_end0
   exact ⟨⟨_, rfl⟩, .inl ⟨ss, hC.done hd, hJs⟩⟩
  ·intro x0 x1 w2 hx hlf hXx hrg2 hlt hg2 hs2 hen
   have hJ2 : J ss w2 := hJ ss wr w2 (some W.heap.size) hJs hg2 (fun r e => by cases e; exact ⟨Nat.le_refl _, hrg.iter_walk⟩)
   have hlt2 : ss.length < nn := by
    obtain ⟨D, left, cnt, h1, h2, h3, h4⟩ := hrg2
    omega
   have hC2 := zSt (hC.step (x := (x0, x1)) hx hlf hXx)
   have hr3 := hrg2.went (Gr.boxed w2 (.cells #[.int .i64 x0, .int .i64 x1] 57))
   have hl3 : (w2.alloc (.cells #[.int .i64 x0, .int .i64 x1] 57)).rangeLeft b W.heap.size = w2.rangeLeft b W.heap.size := MRan.left_keep ((Gr.boxed w2 _).block b hrg2.lt.1) ((Gr.boxed w2 _).block _ hrg2.lt.2.1)
   have hJ3 : J ss (w2.alloc (.cells #[.int .i64 x0, .int .i64 x1] 57)) := hJ ss w2 _ none hJ2 (World.grownBy_alloc _ _ _) (fun r e => by cases e)
   have y0 : (w2.alloc (.cells #[.int .i64 x0, .int .i64 x1] 57)).cell? ⟨w2.heap.size, 0, none⟩ = some (.int .i64 x0) := Gr.zAA rfl rfl
   have y1 : (w2.alloc (.cells #[.int .i64 x0, .int .i64 x1] 57)).cell? ⟨w2.heap.size, 1, none⟩ = some (.int .i64 x1) := Gr.zAA rfl rfl
   obtain ⟨fn, tmps, assign, body, hy, hR⟩ := hY ss (x0, x1) _ hJ3 hlt2
   unfold iv at hen hy ⊢
   dsimp only at hen hy ⊢
   clear hs2 hJ2 hJs hrg hC hJ
   gi_wp2
   refine hR.mono ?_
   rintro e W3 (⟨rfl, hJ4, hk4⟩ | ⟨rfl, hJx4⟩)
   ·obtain ⟨hr4, hl4⟩ := hr3.walks hk4
    gi_wp2
    go_roundw
    case rel => exact ⟨_, ss ++ [(x0, x1)], by simpa using hr4, by simp; omega, hC2.out, hJ4⟩
    case measure => rw [hl4, hl3]; exact hlt
   ·gi_wp2
    refine bodyPost_ret (results_none rfl _ _ _) rfl ?_
    exact ⟨⟨_, rfl⟩, .inr ⟨_, trivial, hJx4⟩⟩
theorem keys_stops (F : Fence) (n : Nat) (hf : F.fn 179) (hro : F.round = none) (hn : 1 <= n) (Bm b nn : Nat) (X : Itm -> Prop) (w : World) (hBm : Bm < w.heap.size) (hm : w.cell? ⟨Bm, 0, none⟩ = some (.map (some b))) (hs : MS b nn X w) :
  SeqStopsK F n Tryz.prog 179 #[.pointer (some ⟨Bm, 0, none⟩)] (fun x : Itm => #[iv x]) KeepsWalks (All X) (fun _ => True) nn w := fun l J Jx W hW hJ _ hY h0 =>
 keys1_in F n hf hro hn l Bm b nn X J Jx hY W hJ ((hW.cell (p := ⟨Bm, 0, none⟩) hBm).trans hm) (hs.went hW) h0
attribute [local go_sem] Oper.semAt_some
theorem zB9 : (Tryz.prog.info? 57).map (fun i => (i.zero, i.size, i.bytes)) = some (some (.agg #[.int .i64 0, .int .i64 0]), 2, 16) := by kernel_rfl
abbrev seqv (Bm : Nat) : Value := .func (.func 179) #[] #[.pointer (some ⟨Bm, 0, none⟩)]
def zPJ (X : Itm -> Prop) (w : World) (e : Ending) (w' : World) : Prop := ∃ (v : Value) (ss : List Itm), e = .returned v /\ All X ss /\ ItsV 57 w.heap.size ss v w' /\ Below w.heap.size w w'
def AxI (w : World) (Bm : Nat) (x : Itm) (a' : Act) (W : World) : Prop := ∃ Bx, w.heap.size <= Bx /\ W.heap[Bx]? = some (.cells #[.int .i64 x.1, .int .i64 x.2] 57 (0, 0)) /\
 a' = { tmps := #[.slice none 0 0, seqv Bm, .pointer (some ⟨w.heap.size, 0, none⟩), undef, .slice none 0 0, .pointer (some ⟨Bx, 0, none⟩), seqv Bm, iv x, undef, undef, undef, undef, undef], defers := [] }
theorem zPR (w : World) (Bm : Nat) (x : Itm) (a' : Act) (B : Nat) : OwnFrom B (fun (_ : Unit) W => AxI w Bm x a' W) := by
 rintro s W W' row ⟨Bx, h1, h2, h3⟩ hg hr
 refine ⟨Bx, h1, (hg.block Bx (Array.getElem?_eq_some_iff.1 h2).1 fun e => ?_).trans h2, h3⟩
 obtain ⟨_, o, ho, hc⟩ := hr Bx e.symm
 rw [h2] at ho
 cases ho
 cases hc
theorem appendSeq_in (F : Fence) (n : Nat) (h68 : F.fn 181) (h53 : F.fn 179) (hro : F.round = none) (hn : 3 <= n) (Bm b nn : Nat) (X : Itm -> Prop) (w : World) (hBm : Bm < w.heap.size) (hm : w.cell? ⟨Bm, 0, none⟩ = some (.map (some b))) (hs : MS b nn X w) (hnn : nn <= 1000000) :
  CallsIn F n Tryz.prog 181 #[.slice none 0 0, seqv Bm] w (zPJ X w) := by
 have h1 : 1 <= n := by omega
 obtain ⟨i0, hi, hz0, hz1, hz2⟩ := info_parts zB9
 refine callsIn_of_wp_marks Tryz.func181 rfl h68 ?_ hro
 simp only [Tryz.ntmps181, List.size_toArray, List.length_cons, List.length_nil, Nat.reduceAdd, Nat.reduceSub, Array.replicate_succ, Array.replicate_zero, List.push_toArray, List.append_toArray, List.nil_append, List.cons_append]
 gi_wp2
 have bO := Boxed.new w 49 (.slice none 0 0)
 have hb0 : Below w.heap.size w (w.alloc (.cells #[.slice none 0 0] 49)) := Gr.boxed _ _
 have hsz : (w.alloc (.cells #[.slice none 0 0] 49)).heap.size = w.heap.size + 1 := by simp
 have hst := keys_stops F (n - 1) h53 hro (by omega) Bm b nn X _ (by rw [hsz]; omega) (Gr.cell_later hb0 hm) (hs.went hb0)
 clear hm hs
 refine wpIn_rangeFunc_ownH hro h1 (gf := 179) (lb := #[.pointer (some ⟨Bm, 0, none⟩)]) rfl h53 (enters_of Tryz.func179 (by kernel_rfl) rfl)
  hst walksK_t walksK_b (Below.refl _ _) (fun _ => rfl)
  (fun (pre : List Itm) W => (∃ v, Boxed W w.heap.size 49 v /\ W.ownsRow w.heap.size 57 2 v pre.length (pre.flatMap ic) /\ True) /\ Below w.heap.size w W)
  (fun _ _ _ => False)
  (OwnFrom.and (Own.from (holdsRow_own w.heap.size w.heap.size 49 57 2 (fun (pre : List Itm) => pre.length) (fun (pre : List Itm) => pre.flatMap ic) (fun _ _ => True)) _) (ownFrom_below (Nat.le_refl _) (by rw [hsz]; omega)))
  (fun _ _ _ _ _ hs _ _ => hs)
  ⟨⟨_, bO, World.ownsRow_nil _ _ _ _, trivial⟩, hb0⟩
  (AxI w Bm) (fun x a' => zPR w Bm x a' _) ?assign ?body ?done ?stop
 case assign =>
  rintro l pre x W K ⟨⟨v, hv, hrow, _⟩, hB⟩ hK
  have hx : iv x = .agg #[.int .i64 x.1, .int .i64 x.2] := rfl
  rw [hx] at *
  gi_wp2
  exact hK _ _ ((KeepsOthers.alloc _ _).from _) (KeepsWalks.alloc _ _) ⟨⟨v, hv.alloc _, hrow.alloc _, trivial⟩, hB.alloc hB.size _⟩ ⟨W.heap.size, hB.size, World.alloc_heap_new _ _, rfl⟩
 case body =>
  rintro l pre x a' W hl ⟨r, hr⟩ ⟨⟨v, hv, hrow, _⟩, hB⟩ ⟨Bx, hBx, bX, rfl⟩ hlt
  have hc := hv.cell
  have c0 : W.cell? ⟨Bx, 0, none⟩ = some (.int .i64 x.1) := by simp [World.cell?, bX]
  have c1 : W.cell? ⟨Bx, 1, none⟩ = some (.int .i64 x.2) := by simp [World.cell?, bX]
  have hx : iv x = .agg #[.int .i64 x.1, .int .i64 x.2] := rfl
  rw [hx]
  clear hr bX hx
  gi_wp2_with (gi_at_builtin; refine wpListIn_append_own _ rfl _ _ 49 rfl w.heap.size 57 i0 (.agg #[.int .i64 0, .int .i64 0]) 2 16 Tryz.underlying49 hi hz0 hz1 hz2 rfl (by decide) _ _ _ rfl (hrow.alloc _) ⟨W.heap.size, 0, none⟩ 1 1 (ic x) rfl rfl ?c1 ?c2 (by unfold maxLen; omega) (by omega) (by have := hB.size; simp; omega) ?_)
  case c1 =>
   intro i u hu
   match i, hu with
   | 0, hu =>
    simp [ic] at hu
    subst hu
    simp [Addr.add]
   | 1, hu =>
    simp [ic] at hu
    subst hu
    simp [Addr.add]
   | i + 2, hu => simp [ic] at hu
  case c2 =>
   intro u hu
   simp only [ic, List.mem_cons, List.not_mem_nil, or_false] at hu
   rcases hu with rfl | rfl <;> rfl
  intro v' w1 hown' hgrow _
  obtain ⟨g', cap', rfl⟩ := ownsRow_succ hown'
  obtain ⟨hv1, hv2, hr2, hk2, hb2⟩ := hv.appended (by decide) hrow hB.size (Nat.le_refl _) hown' hgrow
  have hc1 := hv1.cell
  have hf1 := hv1.frozen
  gi_wp2
  exact ⟨hk2.from _, hk2.walks, ⟨_, hv2, by simpa [ic] using hr2, trivial⟩, hB.trans hb2⟩
 case done =>
  rintro D ys W hD hS ⟨⟨v, hv, hrow, _⟩, hB⟩ hK
  have hc := hv.cell
  gi_wp2
  refine ⟨by simp, .inl ⟨_, _, rfl, run_takeDeferred hK, ?_⟩⟩
  exact ⟨_, results_tmp rfl _ _ _, v, ys, rfl, hS, ownsRow_putObj hrow _ hK rfl, hB.trans (belowK_b (w := w) (Nat.le_refl _) W D _ _ (by rw [hsz] at hD; omega) hK rfl rfl)⟩
 case stop =>
  rintro D c pre W _ _ h _
  exact h.elim
end Im
namespace Au
open Gr (Gram Sh Box cell_later step)
open Im
theorem zSe : laidOutB Tryz.prog = true := by kernel_rfl
theorem rowA : 134 < Tryz.prog.types.size := of_decide_eq_true (by kernel_rfl)
theorem lawA : Keyed Tryz.prog 134 := .of_law (deep_law_laid zSe (m := 2) (by omega) rowA (by kernel_rfl) (by rw [Tryz.underlying134]))
theorem kaA : Ka Tryz.prog 134 :=
 zSb lawA Tryz.underlying134 Tryz.underlying3 (by kernel_rfl) (by kernel_rfl) (by kernel_rfl) (Tryz.prog.types.size - 1) (by have := rowA; omega)
theorem lawS : Keyed Tryz.prog 9 := string_keyed Tryz.underlying9
theorem zOz (w : World) : (zeroValue 3).run Tryz.prog w = .ok (.int .i64 0) w := by kernel_rfl
theorem zDa : (Tryz.prog.info? 49).map (fun i => (i.zero, i.size, i.bytes)) = some (some (.slice none 0 0), 1, 24) := by kernel_rfl
abbrev TM (b n : Nat) (X : Itm -> Option Int) (w : World) : Prop := TMap Tryz.prog 134 3 b n X w
abbrev SM (b n : Nat) (L : List ByteArray) (w : World) : Prop := SMap Tryz.prog 9 3 b n L w
def LAt (S : Nat -> Prop) (K : List Itm) (u : Value) (w : World) : Prop := ∃ a c, u = .slice a K.length c /\ K.length <= c /\ ItsA a K w /\ (K ≠ [] -> ∀ b o, a = some ⟨b, o, none⟩ -> ¬ S b)
theorem LAt.fr {S T : Nat -> Prop} {K : List Itm} {u : Value} {w w' : World} (h : LAt S K u w) (f : Sep.Fr S w w') (x : Sep.Ext T S w) : LAt T K u w' := by
 obtain ⟨a, c, h1, h2, h3, h4⟩ := h
 by_cases hn : K = []
 ·subst hn
  exact ⟨a, c, h1, h2, .nil _ _, fun q => absurd rfl q⟩
 ·refine ⟨a, c, h1, h2, h3.keep fun b o e => f.block b (zE1 h3 hn e) (h4 hn b o e), fun _ b o e q => ?_⟩
  have := zE1 h3 hn e
  rcases x b q with r | r
  ·exact h4 hn b o e r
  ·omega
theorem LAt.went {S : Nat -> Prop} {K : List Itm} {u : Value} {w w' : World} (h : LAt S K u w) (hb : Below w.heap.size w w') : LAt S K u w' := h.fr (.of_below hb) (.refl _ _)
structure Parts (W : World) (p : Nat) (S : Nat -> Prop) (h : Sh) (G : Gram) (ks : List (List Itm)) (X : Itm -> Option Int) (n : Nat) (a : Option Addr) (c bt bn : Nat) (us : List Value) (w : World) : Prop where
 below : Below W.heap.size W w
 box : Box p h G w
 items : w.cell? ⟨p, 4, none⟩ = some (.slice a ks.length c)
 targets : w.cell? ⟨p, 5, none⟩ = some (.map (some bt))
 numbers : w.cell? ⟨p, 6, none⟩ = some (.map (some bn))
 free : w.frozen? ⟨p, 4, none⟩ = false
 row : w.ownsRow W.heap.size 49 1 (.slice a ks.length c) ks.length us
 lists : ∀ i (h : i < ks.length) (h' : i < us.length), LAt S ks[i] us[i] w
 tm : TM bt n X w
 sm : SM bn ks.length (zBr ks) w
 sp : S p
 st : S bt
 sn : S bn
 sr : ∀ g, (Value.slice a ks.length c).ownBlock = some g -> S g
 tp : bt ≠ p
 np : bn ≠ p
 tn : bt ≠ bn
 rp : ∀ g, (Value.slice a ks.length c).ownBlock = some g -> g ≠ p /\ g ≠ bt /\ g ≠ bn
 low : ∀ k, S k -> W.heap.size <= k
 inn : Sep.Inn S w
theorem Parts.len {W : World} {p : Nat} {S : Nat -> Prop} {h : Sh} {G : Gram} {ks : List (List Itm)} {X : Itm -> Option Int} {n : Nat} {a : Option Addr} {c bt bn : Nat} {us : List Value} {w : World} (k : Parts W p S h G ks X n a c bt bn us w) : us.length = ks.length := by
 have := k.row.1
 omega
theorem Parts.went {W : World} {p : Nat} {S : Nat -> Prop} {h : Sh} {G : Gram} {ks : List (List Itm)} {X : Itm -> Option Int} {n : Nat} {a : Option Addr} {c bt bn : Nat} {us : List Value} {w w' : World} (k : Parts W p S h G ks X n a c bt bn us w) (hb : Below w.heap.size w w') : Parts W p S h G ks X n a c bt bn us w' :=
 ⟨Gr.step k.below hb, k.box.later hb, cell_later hb k.items, cell_later hb k.targets, cell_later hb k.numbers, (World.frozen?_of_block (a := ⟨p, 4, none⟩) (hb.block p (k.inn p k.sp))).trans k.free, Sep.zAE k.row fun g hg => hb.block g (k.inn g (k.sr g hg)), fun i h1 h2 => (k.lists i h1 h2).went hb, k.tm.keep (hb.block _ (k.inn _ k.st)), k.sm.keep (hb.block _ (k.inn _ k.sn)), k.sp, k.st, k.sn, k.sr, k.tp, k.np, k.tn, k.rp, k.low, k.inn.le hb.size⟩
def BAt (W : World) (p : Nat) (S : Nat -> Prop) (h : Sh) (G : Gram) (ks : List (List Itm)) (X : Itm -> Option Int) (n : Nat) (w : World) : Prop := ∃ a c bt bn us, Parts W p S h G ks X n a c bt bn us w
theorem BAt.went {W : World} {p : Nat} {S : Nat -> Prop} {h : Sh} {G : Gram} {ks : List (List Itm)} {X : Itm -> Option Int} {n : Nat} {w w' : World} (k : BAt W p S h G ks X n w) (hb : Below w.heap.size w w') : BAt W p S h G ks X n w' := by
 obtain ⟨a, c, bt, bn, us, k⟩ := k
 exact ⟨a, c, bt, bn, us, k.went hb⟩
theorem BAt.inn {W : World} {p : Nat} {S : Nat -> Prop} {h : Sh} {G : Gram} {ks : List (List Itm)} {X : Itm -> Option Int} {n : Nat} {w : World} (k : BAt W p S h G ks X n w) : Sep.Inn S w := by
 obtain ⟨a, c, bt, bn, us, k⟩ := k
 exact k.inn
theorem BAt.eq {W : World} {p : Nat} {S : Nat -> Prop} {h : Sh} {G : Gram} {ks : List (List Itm)} {X Y : Itm -> Option Int} {n m : Nat} {w : World} (k : BAt W p S h G ks X n w) (e : ∀ x, X x = Y x) (hm : n <= m) : BAt W p S h G ks Y m w := by
 obtain ⟨a, c, bt, bn, us, k⟩ := k
 exact ⟨a, c, bt, bn, us, { k with tm := (k.tm.eq e).mono hm }⟩
theorem Parts.at {W : World} {p : Nat} {S : Nat -> Prop} {h : Sh} {G : Gram} {ks : List (List Itm)} {X : Itm -> Option Int} {n : Nat} {a : Option Addr} {c bt bn : Nat} {us : List Value} {w : World} (k : Parts W p S h G ks X n a c bt bn us w) {i : Nat} (hi : i < ks.length) :
  ∃ b a' c', a = some ⟨b, 0, none⟩ /\ w.cell? ⟨b, i, none⟩ = some (.slice a' ks[i].length c') /\ ks[i].length <= c' /\ ItsA a' ks[i] w /\ (ks[i] ≠ [] -> ∀ b o, a' = some ⟨b, o, none⟩ -> ¬ S b) := by
 have hl := k.len
 obtain ⟨a', c', e, h1, h2, h3⟩ := k.lists i hi (by omega)
 rcases k.row.2 with ⟨_, h0⟩ | ⟨g, cap, cur, he, _⟩
 ·omega
 ·simp only [Value.slice.injEq] at he
  obtain ⟨rfl, _, _⟩ := he
  have := World.ownsRow.cells k.row (g := g) rfl i us[i] (List.getElem?_eq_getElem (by omega))
  rw [WideShapes.add_plain] at this
  refine ⟨g, a', c', rfl, ?_, h1, h2, h3⟩
  rw [← e]
  simpa using this
theorem zQc {W : World} {p : Nat} {S : Nat -> Prop} {h : Sh} {G : Gram} {ks : List (List Itm)} {X : Itm -> Option Int} {n : Nat} {a : Option Addr} {c bt bn : Nat} {us : List Value} {w : World} (k : Parts W p S h G ks X n a c bt bn us w) : (Value.slice a ks.length c).ownBlock = none \/ (Value.slice a ks.length c).ownBlock ≠ some bn := by
 cases hb : (Value.slice a ks.length c).ownBlock with
 | none => exact .inl rfl
 | some g => exact .inr fun e => (k.rp g hb).2.2 (by injection e)
theorem Parts.turn {W : World} {p : Nat} {S : Nat -> Prop} {h : Sh} {G : Gram} {ks : List (List Itm)} {X Y : Itm -> Option Int} {n m : Nat} {a : Option Addr} {c bt bn : Nat} {us : List Value} {w w' : World} (k : Parts W p S h G ks X n a c bt bn us w) (f : Sep.Fr (· = bt) w w') (ht : TM bt m Y w') : Parts W p S h G ks Y m a c bt bn us w' :=
 have e (q : Nat) (hq : S q) (hne : q ≠ bt) : w'.heap[q]? = w.heap[q]? := f.block q (k.inn q hq) hne
 have ep := e p k.sp fun q => k.tp q.symm
 have F : Sep.Fr S w w' := f.mono fun q hq => hq ▸ k.st
 ⟨k.below.trans (F.below k.low k.below.size), ⟨(World.cell?_of_block (a := ⟨p, 0, none⟩) ep).trans k.box.x0, (World.cell?_of_block (a := ⟨p, 1, none⟩) ep).trans k.box.x1, (World.cell?_of_block (a := ⟨p, 2, none⟩) ep).trans k.box.x2, (World.cell?_of_block (a := ⟨p, 3, none⟩) ep).trans k.box.x3⟩,
  (World.cell?_of_block (a := ⟨p, 4, none⟩) ep).trans k.items, (World.cell?_of_block (a := ⟨p, 5, none⟩) ep).trans k.targets, (World.cell?_of_block (a := ⟨p, 6, none⟩) ep).trans k.numbers, (World.frozen?_of_block (a := ⟨p, 4, none⟩) ep).trans k.free,
  Sep.zAE k.row fun g hg => e g (k.sr g hg) (k.rp g hg).2.1, fun i h1 h2 => (k.lists i h1 h2).fr F (.refl _ _), ht, k.sm.keep (e bn k.sn fun q => k.tn q.symm), k.sp, k.st, k.sn, k.sr, k.tp, k.np, k.tn, k.rp, k.low, k.inn.le f.size⟩
theorem added {W : World} {p : Nat} {S : Nat -> Prop} {h : Sh} {G : Gram} {ks : List (List Itm)} {X : Itm -> Option Int} {n : Nat} {a a' : Option Addr} {c c' bt bn : Nat} {us : List Value} {w w1 w2 : World} {K : List Itm} {u : Value}
  (k : Parts W p S h G ks X n a c bt bn us w) (hu : LAt S K u w)
  (hm1 : SM bn (ks.length + 1) (zBr ks ++ [keyB K]) w1) (hg1 : w.grownBy w1 (some bn))
  (hown2 : w2.ownsRow W.heap.size 49 1 (.slice a' (ks.length + 1) c') (ks.length + 1) (us ++ [u]))
  (hg2 : (w1.alloc (.cells #[u] 49)).grownBy w2 (Value.slice a ks.length c).ownBlock)
  (hloc : (Value.slice a' (ks.length + 1) c').ownBlock = (Value.slice a ks.length c).ownBlock \/ (Value.slice a' (ks.length + 1) c').ownBlock = some (w1.alloc (.cells #[u] 49)).heap.size) :
  ∃ T, BAt W p T h G (ks ++ [K]) X n (w2.setCell ⟨p, 4, none⟩ (.slice a' (ks.length + 1) c')) /\ Sep.Fr S w (w2.setCell ⟨p, 4, none⟩ (.slice a' (ks.length + 1) c')) /\ Sep.Ext T S w := by
 have hp : p < w.heap.size := k.inn p k.sp
 have hsz1 : w.heap.size <= w1.heap.size := hg1.size
 have hsz2 : w1.heap.size + 1 <= w2.heap.size := by have := hg2.size; simpa using this
 have hrow : ∀ g, (Value.slice a ks.length c).ownBlock = some g -> S g /\ g < w.heap.size /\ g ≠ p /\ g ≠ bt /\ g ≠ bn := fun g hg => ⟨k.sr g hg, k.inn g (k.sr g hg), k.rp g hg⟩
 have hrow' : ∀ g, (Value.slice a' (ks.length + 1) c').ownBlock = some g -> ((Value.slice a ks.length c).ownBlock = some g \/ w.heap.size <= g) /\ g < w2.heap.size /\ W.heap.size <= g := fun g hg => by
  refine ⟨?_, (hown2.lt g hg).2, (hown2.lt g hg).1⟩
  rcases hloc with e | e
  ·exact .inl (e.symm.trans hg)
  ·have e2 := e.symm.trans hg
   injection e2 with e2
   simp at e2
   exact .inr (by omega)
 have F2 : Sep.Fr S w w2 := Sep.Fr.grown (w := w1.alloc (.cells #[u] 49)) (Sep.Fr.alloc (Sep.Fr.grown (.refl _ _) hg1 fun q hq => by injection hq with hq; subst hq; exact .inl k.sn) _) hg2 fun q hq => .inl (hrow q hq).1
 have F3 : Sep.Fr S w (w2.setCell ⟨p, 4, none⟩ (.slice a' (ks.length + 1) c')) := Sep.Fr.setCell F2 _ k.sp _
 have X3 : Sep.Ext (fun q => S q \/ (Value.slice a' (ks.length + 1) c').ownBlock = some q) S w := by
  rintro q (hq | hq)
  ·exact .inl hq
  ·rcases (hrow' q hq).1 with e | e
   ·exact .inl (hrow q e).1
   ·exact .inr e
 have hkeep : ∀ q, q < w.heap.size -> q ≠ bn -> (Value.slice a ks.length c).ownBlock ≠ some q -> w2.heap[q]? = w.heap[q]? := fun q hq h1 h2 => by
  rw [hg2.block q (by simp; omega) (fun e => h2 e.symm), Below.heap_alloc _ _ _ (by omega), hg1.block q hq (fun e => h1 (by injection e))]
 have ep : w2.heap[p]? = w.heap[p]? := hkeep p hp (fun e => k.np e.symm) fun e => (hrow p e).2.2.1 rfl
 have cell : ∀ j v, j ≠ 4 -> w.cell? ⟨p, j, none⟩ = some v -> (w2.setCell ⟨p, 4, none⟩ (.slice a' (ks.length + 1) c')).cell? ⟨p, j, none⟩ = some v := fun j v hj hc => by
  rw [World.cell?_setCell_other _ _ _ _ (fun e => hj (congrArg Addr.off e).symm)]
  exact (World.cell?_of_block (a := ⟨p, j, none⟩) ep).trans hc
 have hbn : bn < w1.heap.size := hm1.lt
 have hl3 : ∀ q, q ≠ p -> (w2.setCell ⟨p, 4, none⟩ (.slice a' (ks.length + 1) c')).heap[q]? = w2.heap[q]? := fun q hq => Below.heap_setCell _ _ _ _ hq
 refine ⟨_, ⟨a', c', bt, bn, us ++ [u], ?_⟩, F3, X3⟩
 have hel : (ks ++ [K]).length = ks.length + 1 := by simp
 refine ⟨k.below.trans (F3.below k.low k.below.size), ⟨cell 0 _ (by omega) k.box.x0, cell 1 _ (by omega) k.box.x1, cell 2 _ (by omega) k.box.x2, cell 3 _ (by omega) k.box.x3⟩, ?_, cell 5 _ (by omega) k.targets, cell 6 _ (by omega) k.numbers, ?_, ?_, ?_, ?_, ?_, .inl k.sp, .inl k.st, .inl k.sn, ?_, k.tp, k.np, k.tn, ?_, ?_, ?_⟩
 ·rw [hel]
  exact World.cell?_setCell_same _ _ _ ((World.cell?_of_block (a := ⟨p, 4, none⟩) ep).trans k.items)
 ·rw [World.frozen?_setCell]
  exact (World.frozen?_of_block (a := ⟨p, 4, none⟩) ep).trans k.free
 ·rw [hel]
  refine Sep.zAE hown2 fun g hg => hl3 g fun e => ?_
  subst e
  rcases (hrow' g hg).1 with q | q
  ·exact (hrow g q).2.2.1 rfl
  ·omega
 ·intro i h1 h2
  have hul := k.len
  have key : LAt S (ks ++ [K])[i] (us ++ [u])[i] w := by
   by_cases hi : i < ks.length
   ·rw [List.getElem_append_left hi, List.getElem_append_left (by omega)]
    exact k.lists i hi (by omega)
   ·rw [List.getElem_append_right (by omega), List.getElem_append_right (by omega)]
    simpa using hu
  exact key.fr F3 X3
 ·refine k.tm.keep ((hl3 bt k.tp).trans (hkeep bt (k.inn _ k.st) k.tn fun e => (hrow bt e).2.2.2.1 rfl))
 ·rw [hel]
  have : zBr (ks ++ [K]) = zBr ks ++ [keyB K] := by simp [zBr]
  rw [this]
  refine hm1.keep ((hl3 bn k.np).trans ?_)
  rw [hg2.block bn (by simp; omega) (fun e => (hrow bn e.symm).2.2.2.2 rfl), Below.heap_alloc _ _ _ hbn]
 ·rw [hel]
  exact fun g hg => .inr hg
 ·rw [hel]
  intro g hg
  rcases (hrow' g hg).1 with q | q
  ·exact (hrow g q).2.2
  ·have h1 := k.inn _ k.st
   have h2 := k.inn _ k.sn
   exact ⟨by omega, by omega, by omega⟩
 ·rintro q (hq | hq)
  ·exact k.low q hq
  ·exact (hrow' q hq).2.2
 ·rintro q (hq | hq)
  ·have := k.inn q hq
   rw [show (w2.setCell ⟨p, 4, none⟩ (.slice a' (ks.length + 1) c')).heap.size = w2.heap.size by simp [World.setCell]]
   omega
  ·rw [show (w2.setCell ⟨p, 4, none⟩ (.slice a' (ks.length + 1) c')).heap.size = w2.heap.size by simp [World.setCell]]
   exact (hrow' q hq).2.1
