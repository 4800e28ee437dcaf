/-
  The library's slices.AppendSeq and slices.Collect at the items of a set.
-/
import Derived.Test.YtkggpkbdekebcaaGreatItemIter
import Derived.Test.YtkggpkbdekebcaaGreatItemAt
import Derived.RangeFuncBox
namespace Go.Proofs.YtkggpkbdekebcaaGreat.Im
open Go.RowKit Go.Maps
set_option linter.unusedVariables false
attribute [local go_sem] Oper.semAt_some

theorem info_item : (Tryz.prog.info? 34).map (fun i => (i.zero, i.size, i.bytes)) = some (some (.agg #[.int .i64 0, .int .i64 0]), 2, 16) := by kernel_rfl

/-- The value of the iterator. -/
abbrev seqv (Bm : Nat) : Value := .func (.func 71) #[] #[.pointer (some ⟨Bm, 0, none⟩)]
/-- A new row of the items. -/
def RowOf (X : Itm → Prop) (w : World) (e : Ending) (w' : World) : Prop := ∃ (v : Value) (ss : List Itm), e = .returned v ∧ All X ss ∧ ItsV 34 w.heap.size ss v w' ∧ Below w.heap.size w w'

/-- In a round: where the variable's box lies, and what the frame holds. -/
def AxI (w : World) (Bm : Nat) (x : Itm) (a' : Act) (W : World) : Prop := ∃ Bx, w.heap.size ≤ Bx ∧ W.heap[Bx]? = some (.cells #[.int .i64 x.1, .int .i64 x.2] 34 (0, 0)) ∧
  a' = { tmps := #[.slice none 0 0, seqv Bm, .pointer (some ⟨w.heap.size, 0, none⟩), undef, .slice none 0 0, .pointer (some ⟨Bx, 0, none⟩), seqv Bm, iv x, undef, undef, undef, undef, undef], defers := [] }
theorem axI_own (w : World) (Bm : Nat) (x : Itm) (a' : Act) (B : Nat) : OwnFrom B (fun (_ : Unit) W => AxI w Bm x a' W) := by
  rintro s W W' row ⟨Bx, h1, h2, h3⟩ hg hr
  refine ⟨Bx, h1, (hg.block Bx (Array.getElem?_eq_some_iff.1 h2).1 fun e => ?_).trans h2, h3⟩
  obtain ⟨_, o, ho, hc⟩ := hr Bx e.symm
  rw [h2] at ho
  cases ho
  cases hc

set_option maxRecDepth 100000 in
set_option maxHeartbeats 2000000 in
theorem appendSeq_in (F : Fence) (n : Nat) (h68 : F.fn 82) (h53 : F.fn 71) (hro : F.round = none) (hn : 3 ≤ n) (Bm b nn : Nat) (X : Itm → Prop) (w : World) (hBm : Bm < w.heap.size) (hm : w.cell? ⟨Bm, 0, none⟩ = some (.map (some b))) (hs : MS b nn X w) (hnn : nn ≤ 1000000) :
    CallsIn F n Tryz.prog 82 #[.slice none 0 0, seqv Bm] w (RowOf X w) := by
  have h1 : 1 ≤ n := by omega
  obtain ⟨i0, hi, hz0, hz1, hz2⟩ := info_parts info_item
  refine callsIn_of_wp_marks Tryz.func82 rfl h68 ?_ hro
  simp only [Tryz.ntmps82, List.size_toArray, List.length_cons, List.length_nil, Nat.reduceAdd, Nat.reduceSub, Array.replicate_succ, Array.replicate_zero, List.push_toArray, List.append_toArray, List.nil_append, List.cons_append]
  gi_wp2
  have bO := Boxed.new w 26 (.slice none 0 0)
  have hb0 : Below w.heap.size w (w.alloc (.cells #[.slice none 0 0] 26)) := Gr.boxed _ _
  have hsz : (w.alloc (.cells #[.slice none 0 0] 26)).heap.size = w.heap.size + 1 := by simp
  have hst := keys_stops F (n - 1) h53 hro (by omega) Bm b nn X _ (by rw [hsz]; omega) (Gr.cell_later hb0 hm) (hs.went hb0)
  clear hm hs
  refine wpIn_rangeFunc_ownH hro h1 (gf := 71) (lb := #[.pointer (some ⟨Bm, 0, none⟩)]) rfl h53 (enters_of Tryz.func71 (by kernel_rfl) rfl)
    hst walksK_t walksK_b (Below.refl _ _) (fun _ => rfl)
    (fun (pre : List Itm) W => (∃ v, Boxed W w.heap.size 26 v ∧ W.ownsRow w.heap.size 34 2 v pre.length (pre.flatMap ic) ∧ True) ∧ Below w.heap.size w W)
    (fun _ _ _ => False)
    (OwnFrom.and (Own.from (holdsRow_own w.heap.size w.heap.size 26 34 2 (fun (pre : List Itm) => pre.length) (fun (pre : List Itm) => pre.flatMap ic) (fun _ _ => True)) _) (ownFrom_below (Nat.le_refl _) (by rw [hsz]; omega)))
    (fun _ _ _ _ _ hs _ _ => hs)
    ⟨⟨_, bO, World.ownsRow_nil _ _ _ _, trivial⟩, hb0⟩
    (AxI w Bm) (fun x a' => axI_own w Bm x a' _) ?assign ?body ?done ?stop
  case assign =>
    rintro l pre x W K ⟨⟨v, hv, hrow, _⟩, hB⟩ hK
    have hx : iv x = .agg #[.int .i64 x.1, .int .i64 x.2] := rfl
    rw [hx] at *
    gi_wp2
    exact hK _ _ ((KeepsOthers.alloc _ _).from _) (KeepsWalks.alloc _ _) ⟨⟨v, hv.alloc _, hrow.alloc _, trivial⟩, hB.alloc hB.size _⟩ ⟨W.heap.size, hB.size, World.alloc_heap_new _ _, rfl⟩
  case body =>
    rintro l pre x a' W hl ⟨r, hr⟩ ⟨⟨v, hv, hrow, _⟩, hB⟩ ⟨Bx, hBx, bX, rfl⟩ hlt
    have hc := hv.cell
    have c0 : W.cell? ⟨Bx, 0, none⟩ = some (.int .i64 x.1) := by simp [World.cell?, bX]
    have c1 : W.cell? ⟨Bx, 1, none⟩ = some (.int .i64 x.2) := by simp [World.cell?, bX]
    have hx : iv x = .agg #[.int .i64 x.1, .int .i64 x.2] := rfl
    rw [hx]
    clear hr bX hx
    gi_wp2_with (gi_at_builtin; refine wpListIn_append_own _ rfl _ _ 26 rfl w.heap.size 34 i0 (.agg #[.int .i64 0, .int .i64 0]) 2 16 Tryz.underlying26 hi hz0 hz1 hz2 rfl (by decide) _ _ _ rfl (hrow.alloc _) ⟨W.heap.size, 0, none⟩ 1 1 (ic x) rfl rfl ?c1 ?c2 (by unfold maxLen; omega) (by omega) (by have := hB.size; simp; omega) ?_)
    case c1 =>
      intro i u hu
      match i, hu with
      | 0, hu =>
        simp [ic] at hu
        subst hu
        simp [Addr.add]
      | 1, hu =>
        simp [ic] at hu
        subst hu
        simp [Addr.add]
      | i + 2, hu => simp [ic] at hu
    case c2 =>
      intro u hu
      simp only [ic, List.mem_cons, List.not_mem_nil, or_false] at hu
      rcases hu with rfl | rfl <;> rfl
    intro v' w1 hown' hgrow _
    obtain ⟨g', cap', rfl⟩ := ownsRow_succ hown'
    obtain ⟨hv1, hv2, hr2, hk2, hb2⟩ := hv.appended (by decide) hrow hB.size (Nat.le_refl _) hown' hgrow
    have hc1 := hv1.cell
    have hf1 := hv1.frozen
    gi_wp2
    exact ⟨hk2.from _, hk2.walks, ⟨_, hv2, by simpa [ic] using hr2, trivial⟩, hB.trans hb2⟩
  case done =>
    rintro D ys W hD hS ⟨⟨v, hv, hrow, _⟩, hB⟩ hK
    have hc := hv.cell
    gi_wp2
    refine ⟨by simp, .inl ⟨_, _, rfl, run_takeDeferred hK, ?_⟩⟩
    exact ⟨_, results_tmp rfl _ _ _, v, ys, rfl, hS, ownsRow_putObj hrow _ hK rfl, hB.trans (belowK_b (w := w) (Nat.le_refl _) W D _ _ (by rw [hsz] at hD; omega) hK rfl rfl)⟩
  case stop =>
    rintro D c pre W _ _ h _
    exact h.elim

end Go.Proofs.YtkggpkbdekebcaaGreat.Im
