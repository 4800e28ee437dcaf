/-
  The library's slices.SortFunc at a row of items under compare: the same items, none ahead of one that is less.
-/
import Derived.Test.YtjjmoonajijnmaaItemNone
namespace Go.Proofs.Ytjjmoonajijnmaa.Im
open Go.RowKit Go.Maps
set_option linter.unusedVariables false

/-! ### The order -/

theorem lt_cmp (x y : Itm) : ltOf cmpI x y = decide (ltP x y) := by
  unfold ltOf cmpI orI Lib.compareInt ltP
  by_cases h1 : x.1 < y.1
  · simp [h1]
  · by_cases h2 : y.1 < x.1
    · have h3 : ¬ x.1 = y.1 := by omega
      simp [h1, h2, h3]
    · have h3 : x.1 = y.1 := by omega
      by_cases h4 : x.2 < y.2
      · simp [h3, h4]
      · by_cases h5 : y.2 < x.2 <;> simp [h3, h4, h5]
theorem swo_cmp : Go.Sort.SWO (ltOf cmpI) where
  irrefl x := by
    rw [lt_cmp, decide_eq_false_iff_not]
    exact fun h => h.ne rfl
  trans x y z h1 h2 := by
    rw [lt_cmp, decide_eq_true_iff] at *
    exact h1.trans h2
  ntrans x y z h1 h2 := by
    rw [lt_cmp, decide_eq_false_iff_not] at *
    unfold ltP at *
    omega

/-- Sorted: none ahead of one that is less; none twice: in order. -/
theorem srt_of : ∀ {l : List Itm}, l.Nodup → l.Pairwise (fun a b => ¬ ltP b a) → Srt l
  | [], _, _ => srt_nil
  | x :: l, h, k => by
    have h' := List.nodup_cons.1 h
    have k' := List.pairwise_cons.1 k
    refine List.pairwise_cons.2 ⟨fun y hy => ?_, srt_of h'.2 k'.2⟩
    exact ltP_or (k'.1 y hy) fun e => h'.1 (e ▸ hy)

/-! ### The row -/

theorem flat_ic (d : Array Itm) : Go.Sort.flatK ic 2 d = (d.toList.flatMap ic).toArray := by
  have hl := its_length d.toList
  apply Array.ext_getElem?
  intro t
  by_cases ht : t < d.size * 2
  · have hi : t / 2 < d.toList.length := by rw [Array.length_toList]; omega
    have h := Rw.two_at ic ic_length d.toList (t / 2) hi (t % 2) (Nat.mod_lt _ (by omega))
    rw [show t / 2 * 2 + t % 2 = t by omega] at h
    conv => rhs; rw [List.getElem?_toArray, h]
    unfold Go.Sort.flatK
    rw [Array.getElem?_map, Array.getElem?_range, if_pos ht]
    have hi' : t / 2 < d.size := by omega
    rw [Option.map_some, getElem!_pos d (t / 2) hi', Array.getElem_toList]
    rcases Nat.mod_two_eq_zero_or_one t with e | e <;> rw [e] <;> simp [ic]
  · conv => rhs; rw [List.getElem?_toArray]
    rw [Array.getElem?_eq_none (by simp; omega), List.getElem?_eq_none (by rw [hl, Array.length_toList]; omega)]

theorem holds_ic {T base : Nat} {X : List Itm} {g cap : Nat} {w : World} (h : ItsV T base X (.slice (some ⟨g, 0, none⟩) X.length cap) w) : Go.Sort.HoldsK ic 2 w g 0 X.toArray ∧ g < w.heap.size := by
  rcases h.2 with ⟨e, _⟩ | ⟨g', cap', cur, e, _, hb, _, _, h3, h4⟩
  · cases e
  · simp only [Value.slice.injEq, Option.some.injEq, Addr.mk.injEq, and_true, true_and] at e
    obtain ⟨rfl, rfl⟩ := e
    refine ⟨?_, (Array.getElem?_eq_some_iff.1 hb).1⟩
    unfold Go.Sort.HoldsK
    rw [flat_ic]
    intro j hj
    have hl := its_length X
    simp only [List.size_toArray] at hj
    refine ⟨?_, by simp [World.frozen?, hb]⟩
    have h1 : (cur.toList.take (X.length * 2))[j]? = (X.flatMap ic)[j]? := by rw [h4]
    rw [List.getElem?_take_of_lt (by omega)] at h1
    simp only [World.cell?, hb, Nat.zero_add]
    simp only [Option.isSome_none, Bool.false_eq_true, if_false]
    rw [← Array.getElem?_toList, h1]
    simp only [List.getElem!_toArray, id]
    rw [List.getElem?_eq_getElem hj, getElem!_pos _ j hj]

theorem heap_row {w : World} {g n : Nat} {os : Array Obj} {cur : Array Value} {e : TypeId} {fr : Nat × Nat} (F : Array Value) (hb : w.heap[g]? = some (.cells cur e fr)) :
    (Go.Sort.grow (Go.Sort.putRow id (Go.Sort.ahead w n) g 0 F) os).heap[g]? = some (.cells (Go.Sort.putCells id 0 F cur) e fr) := by
  have hg : g < w.heap.size := (Array.getElem?_eq_some_iff.1 hb).1
  rw [Go.Sort.heap_grow_old _ _ (by simpa using hg)]
  simp [Go.Sort.putRow, Go.Sort.mapBlock, Go.Sort.ahead, Array.getElem?_modify, hb, Go.Sort.onCells]
theorem grown_row {w : World} {g n : Nat} {os : Array Obj} (F : Array Value) : w.grownBy (Go.Sort.grow (Go.Sort.putRow id (Go.Sort.ahead w n) g 0 F) os) (some g) := by
  refine ⟨rfl, rfl, rfl, by simp, fun k hk hne => ?_⟩
  rw [Go.Sort.heap_grow_old _ _ (by simpa using hk)]
  have : g ≠ k := fun e => hne (by rw [e])
  simp [Go.Sort.putRow, Go.Sort.mapBlock, Go.Sort.ahead, Array.getElem?_modify, this]
theorem take_cells (cur : Array Value) (L : List Value) (h : L.length ≤ cur.size) : (Go.Sort.putCells id 0 L.toArray cur).toList.take L.length = L := by
  apply List.ext_getElem?
  intro j
  by_cases hj : j < L.length
  · rw [List.getElem?_take_of_lt hj, Array.getElem?_toList]
    simp [Go.Sort.putCells, hj, show j < cur.size by omega]
  · rw [List.getElem?_take_eq_none (by omega), List.getElem?_eq_none (by omega)]

theorem its_row {T base : Nat} {X Y : List Itm} {g cap n : Nat} {w : World} {os : Array Obj} (h : ItsV T base X (.slice (some ⟨g, 0, none⟩) X.length cap) w) (hl : Y.length = X.length) :
    ItsV T base Y (.slice (some ⟨g, 0, none⟩) X.length cap) (sortWorldK ic 2 w g 0 n Y.toArray os) ∧ Below base w (sortWorldK ic 2 w g 0 n Y.toArray os) := by
  unfold sortWorldK Go.Sort.putRowK
  rw [flat_ic]
  rcases h.2 with ⟨e, _⟩ | ⟨g', cap', cur, e, hbase, hb, h1, h2, h3, h4⟩
  · cases e
  · simp only [Value.slice.injEq, Option.some.injEq, Addr.mk.injEq, and_true, true_and] at e
    obtain ⟨rfl, rfl⟩ := e
    have hly := its_length Y
    have hgr := grown_row (w := w) (g := g) (n := n) (os := os) ((Y.flatMap ic).toArray)
    refine ⟨⟨by rw [hly], .inr ⟨g, cap, _, by rw [hl], hbase, heap_row _ hb, by omega, h2, by simp [Go.Sort.putCells, h3], ?_⟩⟩, ?_⟩
    · rw [← hly]
      exact take_cells cur _ (by rw [hly]; have := Nat.mul_le_mul_right 2 h1; omega)
    · exact ⟨hgr.os, hgr.tape, hgr.output, hgr.size, fun k hk => (hgr.block k (Nat.lt_of_lt_of_le hk (Nat.le_trans hbase (Nat.le_of_lt (Array.getElem?_eq_some_iff.1 hb).1))) fun e => by injection e with e; omega)⟩

end Go.Proofs.Ytjjmoonajijnmaa.Im
