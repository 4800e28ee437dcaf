/-
  The library's maps.Keys at a set of items and its iterator: the items, each once, in some order.
-/
import Derived.Test.YtkggpkbdekebcaaGreatItemLeaf
import Derived.RangeFuncNested
import Derived.RangeFuncLeaves
import Derived.Shelf.Abstract
import Derived.OwnWalkIn
import Derived.TacticsInMore
import Derived.RegionIn
import Derived.LoopNIn
import Derived.LoopIn
namespace Go.Proofs.YtkggpkbdekebcaaGreat.Im
open Go.RowKit Go.Maps
set_option linter.unusedVariables false
attribute [local go_sem] Oper.semAt_some

/-- What has come so far. -/
structure Came (X Lf : Itm → Prop) (l : List Itm) : Prop where
  nd : l.Nodup
  fit : ∀ x ∈ l, W64 x
  mem : ∀ x, W64 x → (x ∈ l ↔ X x ∧ ¬ Lf x)
theorem Came.start (X : Itm → Prop) : Came X X [] := ⟨List.nodup_nil, fun x hx => (List.not_mem_nil hx).elim, fun x _ => ⟨fun h => (List.not_mem_nil h).elim, fun h => absurd h.1 h.2⟩⟩
theorem Came.step {X Lf : Itm → Prop} {l : List Itm} {x : Itm} (h : Came X Lf l) (hx : W64 x) (hl : Lf x) (hX : X x) : Came X (fun y => Lf y ∧ y ≠ x) (l ++ [x]) := by
  have hn : x ∉ l := fun k => ((h.mem x hx).1 k).2 hl
  refine ⟨List.nodup_append.2 ⟨h.nd, by simp, fun a ha b hb => ?_⟩, fun y hy => ?_, fun y hy => ?_⟩
  · rw [List.mem_singleton] at hb
    subst hb
    exact fun e => hn (e ▸ ha)
  · rcases List.mem_append.1 hy with k | k
    · exact h.fit y k
    · rw [List.mem_singleton] at k
      rw [k]
      exact hx
  · rw [List.mem_append, List.mem_singleton, h.mem y hy]
    constructor
    · rintro (⟨h1, h2⟩ | e)
      · exact ⟨h1, fun k => h2 k.1⟩
      · subst e
        exact ⟨hX, fun k => k.2 rfl⟩
    · rintro ⟨h1, h2⟩
      by_cases e : y = x
      · exact .inr e
      · exact .inl ⟨h1, fun k => h2 ⟨k, e⟩⟩
/-- All have come. -/
structure All (X : Itm → Prop) (l : List Itm) : Prop where
  nd : l.Nodup
  fit : ∀ x ∈ l, W64 x
  mem : ∀ x, W64 x → (x ∈ l ↔ X x)
theorem Came.done {X Lf : Itm → Prop} {l : List Itm} (h : Came X Lf l) (ho : Over Lf) : All X l :=
  ⟨h.nd, h.fit, fun x hx => (h.mem x hx).trans ⟨fun k => k.1, fun k => ⟨k, ho x hx⟩⟩⟩

set_option maxRecDepth 100000 in
set_option maxHeartbeats 1000000 in
theorem keys1_in (F : Fence) (n : Nat) (hf : F.fn 71) (hro : F.round = none) (hn : 1 ≤ n) (l Bm b nn : Nat) (X : Itm → Prop) (J Jx : List Itm → World → Prop)
    (hY : ∀ pre x W, J pre W → pre.length < nn → YieldAt F (n - 1) Tryz.prog l #[iv x] W fun e W' => (e = .returned (.bool true) ∧ J (pre ++ [x]) W' ∧ KeepsWalks W W') ∨ (e = .returned (.bool false) ∧ Jx (pre ++ [x]) W'))
    (W : World) (hJ : AbidesFrom W.heap.size J) (hm : W.cell? ⟨Bm, 0, none⟩ = some (.map (some b))) (hs : MS b nn X W) (h0 : J [] W) :
    CallsIn F n Tryz.prog 71 #[.func (.yield l) #[] #[], .pointer (some ⟨Bm, 0, none⟩)] W fun e W' => (∃ v, e = .returned v) ∧
      ((∃ ss, All X ss ∧ J ss W') ∨ (∃ pre, True ∧ Jx pre W')) := by
  refine callsIn_of_wp Tryz.func71 rfl hf ?_ hro
  simp only [Tryz.ntmps71, List.size_toArray, List.length_cons, List.length_nil, Nat.reduceAdd, Nat.reduceSub, Array.replicate_succ, Array.replicate_zero, List.push_toArray, List.append_toArray, List.nil_append, List.cons_append]
  gi_wp2_with (first
    | (gi_at_range; refine wpListIn_mset_range _ rfl _ rfl ktI Tryz.underlying49 (.agg []) b nn X rfl hs ?_; intro w0 hrg0 hg0 hs0)
    | gi_in)
  go_frame
  gi_loopw [3] (fun _ wr => ∃ (Lf : Itm → Prop) (ss : List Itm), MR b W.heap.size nn ss.length X Lf wr ∧ ss.length ≤ nn ∧ Came X Lf ss ∧ J ss wr)
    (fun _ wr => wr.rangeLeft b W.heap.size)
  case atStart =>
    exact ⟨X, [], hrg0, Nat.zero_le _, Came.start X, hJ [] W w0 none h0 hg0 (fun r e => by cases e)⟩
  case round =>
    obtain ⟨Lf, ss, hrg, hle, hC, hJs⟩ := hrel
    gi_wp2_with (first
      | (gi_at_next; refine wpListIn_mset_next _ rfl _ rfl ktI b W.heap.size nn ss.length X Lf rfl hrg ?_ ?_)
      | gi_in)
    · intro hd
      gi_wp2
      go_end0
      exact ⟨⟨_, rfl⟩, .inl ⟨ss, hC.done hd, hJs⟩⟩
    · intro x0 x1 w2 hx hlf hXx hrg2 hlt hg2 hs2 hen
      have hJ2 : J ss w2 := hJ ss wr w2 (some W.heap.size) hJs hg2 (fun r e => by cases e; exact ⟨Nat.le_refl _, hrg.iter_walk⟩)
      have hlt2 : ss.length < nn := by
        obtain ⟨D, left, cnt, h1, h2, h3, h4⟩ := hrg2
        omega
      have hC2 := Lib.hid (hC.step (x := (x0, x1)) hx hlf hXx)
      have hr3 := hrg2.went (Gr.boxed w2 (.cells #[.int .i64 x0, .int .i64 x1] 34))
      have hl3 : (w2.alloc (.cells #[.int .i64 x0, .int .i64 x1] 34)).rangeLeft b W.heap.size = w2.rangeLeft b W.heap.size := MRan.left_keep ((Gr.boxed w2 _).block b hrg2.lt.1) ((Gr.boxed w2 _).block _ hrg2.lt.2.1)
      have hJ3 : J ss (w2.alloc (.cells #[.int .i64 x0, .int .i64 x1] 34)) := hJ ss w2 _ none hJ2 (World.grownBy_alloc _ _ _) (fun r e => by cases e)
      have y0 : (w2.alloc (.cells #[.int .i64 x0, .int .i64 x1] 34)).cell? ⟨w2.heap.size, 0, none⟩ = some (.int .i64 x0) := Gr.cell_new rfl rfl
      have y1 : (w2.alloc (.cells #[.int .i64 x0, .int .i64 x1] 34)).cell? ⟨w2.heap.size, 1, none⟩ = some (.int .i64 x1) := Gr.cell_new rfl rfl
      obtain ⟨fn, tmps, assign, body, hy, hR⟩ := hY ss (x0, x1) _ hJ3 hlt2
      unfold iv at hen hy ⊢
      dsimp only at hen hy ⊢
      clear hs2 hJ2 hJs hrg hC hJ
      gi_wp2
      refine hR.mono ?_
      rintro e W3 (⟨rfl, hJ4, hk4⟩ | ⟨rfl, hJx4⟩)
      · obtain ⟨hr4, hl4⟩ := hr3.walks hk4
        gi_wp2
        go_roundw
        case rel => exact ⟨_, ss ++ [(x0, x1)], by simpa using hr4, by simp; omega, hC2.out, hJ4⟩
        case measure => rw [hl4, hl3]; exact hlt
      · gi_wp2
        refine bodyPost_ret (results_none rfl _ _ _) rfl ?_
        exact ⟨⟨_, rfl⟩, .inr ⟨_, trivial, hJx4⟩⟩

theorem keys_stops (F : Fence) (n : Nat) (hf : F.fn 71) (hro : F.round = none) (hn : 1 ≤ n) (Bm b nn : Nat) (X : Itm → Prop) (w : World) (hBm : Bm < w.heap.size) (hm : w.cell? ⟨Bm, 0, none⟩ = some (.map (some b))) (hs : MS b nn X w) :
    SeqStopsK F n Tryz.prog 71 #[.pointer (some ⟨Bm, 0, none⟩)] (fun x : Itm => #[iv x]) KeepsWalks (All X) (fun _ => True) nn w := fun l J Jx W hW hJ _ hY h0 =>
  keys1_in F n hf hro hn l Bm b nn X J Jx hY W hJ ((hW.cell (p := ⟨Bm, 0, none⟩) hBm).trans hm) (hs.went hW) h0

end Go.Proofs.YtkggpkbdekebcaaGreat.Im
