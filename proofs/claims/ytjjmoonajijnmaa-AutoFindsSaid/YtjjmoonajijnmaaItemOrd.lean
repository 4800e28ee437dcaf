/-
  Package item: compare, with the library's cmp.Or and cmp.Compare; the library's slices.SortFunc at items: sorted in order.
-/
import Derived.Test.YtjjmoonajijnmaaItemLay
import Derived.Test.YtjjmoonajijnmaaItemLeaf
namespace Go.Proofs.Ytjjmoonajijnmaa.Im
open Go.RowKit Go.Maps
open Go.Proofs.Ytjjmoonajijnmaa.Gr (step boxed drawn cell_new cell_old cell_later free_new free_old)
set_option linter.unusedVariables false

def orI (a b : Int) : Int := if a = 0 then b else a
def cmpI (x y : Itm) : Int := orI (Lib.compareInt x.1 y.1) (Lib.compareInt x.2 y.2)

set_option maxRecDepth 100000 in
set_option maxHeartbeats 1000000 in
theorem or_any (p o : Nat) (a b : Int) (w : World) (h0 : w.cell? ⟨p, o, none⟩ = some (.int .i64 a)) (h1 : w.cell? ⟨p, o + 1, none⟩ = some (.int .i64 b)) :
    Calls Try.prog 84 #[.slice (some ⟨p, o, none⟩) 2 2] w fun e w' => e = .returned (.int .i64 (orI a b)) ∧ w' = w := by
  unfold orI
  go_enter Try.func84, Try.ntmps84
  go_wp2
  go_loopw [8] (fun i wr => wr = w ∧ ∃ j : Nat, i = .int .i64 j ∧ j ≤ 2 ∧ (1 ≤ j → a = 0) ∧ (2 ≤ j → b = 0)) (fun i _ => 2 - (intOf i).toNat)
  case atStart => exact ⟨rfl, 0, rfl, by omega, by omega, by omega⟩
  case round =>
    obtain ⟨rfl, j, rfl, hj, ha, hb⟩ := hrel
    rcases (by omega : j = 0 ∨ j = 1 ∨ j = 2) with rfl | rfl | rfl
    · clear ha hb
      by_cases hz : a = 0
      · subst hz
        go_wp2
        go_roundw
        case rel => exact ⟨by simp, 1, by go_num, by omega, by simp, by simp⟩
        case measure => simp [intOf]
      · go_wp2
        go_ret
        exact ⟨rfl, rfl⟩
    · obtain rfl := ha (by omega)
      clear ha hb
      by_cases hz : b = 0
      · subst hz
        go_wp2
        go_roundw
        case rel => exact ⟨by simp, 2, by go_num, by omega, by simp, by simp⟩
        case measure => simp [intOf]
      · go_wp2
        go_ret
        exact ⟨rfl, rfl⟩
    · obtain rfl := ha (by omega)
      obtain rfl := hb (by omega)
      go_wp2
      go_ret
      exact ⟨rfl, rfl⟩

/-! ### compare -/

theorem cmpint_any (a b : Int) (W : World) : Calls Try.prog 85 #[.int .i64 a, .int .i64 b] W fun e w' => e = .returned (.int .i64 (Lib.compareInt a b)) ∧ w' = W := by
  have h := AnyG.cmp_Compare_int Try.cmpInt a b W
  change Calls Try.prog 85 _ _ _ at h
  exact h

/-- So many draws, these blocks more. -/
def Gw (w w' : World) : Prop := ∃ n os, w' = Go.Sort.grow (w.drewN n) os
theorem Gw.refl (w : World) : Gw w w := ⟨0, #[], by rw [Go.Sort.grow_empty]; rfl⟩
theorem Gw.alloc {w w1 : World} (h : Gw w w1) (o : Obj) : Gw w (w1.alloc o) := by
  obtain ⟨n, os, rfl⟩ := h
  exact ⟨n, os ++ #[o], by rw [Go.Sort.alloc_eq_grow, Go.Sort.grow_grow]⟩
theorem Gw.drew {w w1 : World} (h : Gw w w1) : Gw w w1.drew := by
  obtain ⟨n, os, rfl⟩ := h
  exact ⟨n + 1, os, rfl⟩
theorem Gw.below {w w1 : World} (h : Gw w w1) : Below w.heap.size w w1 := by
  obtain ⟨n, os, rfl⟩ := h
  refine ⟨rfl, rfl, rfl, ?_, fun k hk => ?_⟩
  · rw [Go.Sort.size_grow]
    exact Nat.le_add_right _ _
  · show (w.heap ++ os)[k]? = w.heap[k]?
    rw [Array.getElem?_append_left hk]

set_option maxRecDepth 100000 in
set_option maxHeartbeats 2000000 in
theorem compare_any (x y : Itm) (w : World) :
    Calls Try.prog 79 #[iv x, iv y] w fun e w' => e = .returned (.int .i64 (cmpI x y)) ∧ Gw w w' := by
  have C := Lib.hid cmpint_any
  unfold cmpI
  unfold iv
  go_enter Try.func79, Try.ntmps79
  go_wp2
  obtain ⟨wq, hwq⟩ : ∃ wq, (w.alloc (.cells #[.int .i64 x.1, .int .i64 x.2] 51)).alloc (.cells #[.int .i64 y.1, .int .i64 y.2] 51) = wq := ⟨_, rfl⟩
  rw [hwq]
  have q0 : wq.cell? ⟨w.heap.size, 0, none⟩ = some (.int .i64 x.1) := by rw [← hwq]; exact cell_old (cell_new rfl rfl)
  have q1 : wq.cell? ⟨w.heap.size, 1, none⟩ = some (.int .i64 x.2) := by rw [← hwq]; exact cell_old (cell_new rfl rfl)
  have q2 : wq.cell? ⟨w.heap.size + 1, 0, none⟩ = some (.int .i64 y.1) := by rw [← hwq]; exact cell_new (by simp) rfl
  have q3 : wq.cell? ⟨w.heap.size + 1, 1, none⟩ = some (.int .i64 y.2) := by rw [← hwq]; exact cell_new (by simp) rfl
  have G0 : Gw w wq := by rw [← hwq]; exact ((Gw.refl w).alloc _).alloc _
  have HQ := Lib.hid (show ∀ w', Gw wq w' → w'.cell? ⟨w.heap.size, 0, none⟩ = some (.int .i64 x.1) ∧ w'.cell? ⟨w.heap.size, 1, none⟩ = some (.int .i64 x.2) ∧ w'.cell? ⟨w.heap.size + 1, 0, none⟩ = some (.int .i64 y.1) ∧ w'.cell? ⟨w.heap.size + 1, 1, none⟩ = some (.int .i64 y.2)
    from fun w' g => ⟨cell_later g.below q0, cell_later g.below q1, cell_later g.below q2, cell_later g.below q3⟩)
  have g1 : Gw wq wq.drew := (Gw.refl wq).drew
  have A0 : ∀ c1 c2 : Int, (wq.alloc (.cells #[.int .i64 c1, .int .i64 c2] 3)).drew.cell? ⟨wq.heap.size, 0, none⟩ = some (.int .i64 c1) := fun _ _ => cell_new (w := wq) rfl rfl
  have A1 : ∀ c1 c2 : Int, (wq.alloc (.cells #[.int .i64 c1, .int .i64 c2] 3)).drew.cell? ⟨wq.heap.size, 0 + 1, none⟩ = some (.int .i64 c2) := fun _ _ => cell_new (w := wq) rfl rfl
  clear hwq
  go_region_held3 (fun w' => w'.cell? ⟨w.heap.size, 0, none⟩ = some (.int .i64 x.1) ∧ w'.cell? ⟨w.heap.size, 1, none⟩ = some (.int .i64 x.2) ∧ w'.cell? ⟨w.heap.size + 1, 0, none⟩ = some (.int .i64 y.1) ∧ w'.cell? ⟨w.heap.size + 1, 1, none⟩ = some (.int .i64 y.2))
    (first | exact HQ.out _ (by assumption) | exact HQ.out _ (Gw.alloc (by assumption) _))
    (first
      | (go_at_call 85; refine (C.out _ _ _).mono ?_; rintro e wn ⟨rfl, rfl⟩)
      | (go_at_call 84; refine (or_any wq.heap.size 0 _ _ _ (A0 _ _) (A1 _ _)).mono ?_; rintro e wn ⟨rfl, rfl⟩)
      | fail)
  go_wp2
  go_ret
  exact ⟨rfl, (G0.alloc _).drew⟩

end Go.Proofs.Ytjjmoonajijnmaa.Im
