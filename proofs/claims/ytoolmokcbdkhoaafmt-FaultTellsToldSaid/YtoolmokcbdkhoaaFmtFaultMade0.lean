/-
  The walk of the statements' own function made: an error within names and wraps, and what it is made of. Conditions: what stands in fmt's place tells fmt's text; the strings fit a machine's memory.
-/
import Derived.Test.YtoolmokcbdkhoaaFmtFaultStays
import Derived.Deep.AppendLies
import Derived.Deep.RegionLaw
import Derived.BigRegion
import Derived.Deep.DeepCutAuto
import Derived.OwnWalk
namespace Go.Proofs.YtoolmokcbdkhoaaFmt.Fa
open Go.RowKit Go.Extern.Stop Go.Stop Go.Extern Go.Kit Go.Lib


/-- What the statements' own description of an error keeps: its chain, its parts, the names that were put around it; the last of them is the chain's outermost. -/
def Kept (h1 : Nat) (e at_ : Int) (ot : Bool) (L : List Lay) (b : Base) (v sl : Value) (w : World) : Prop :=
  Ch w L b v ∧ w.cell? ⟨h1, 0, none⟩ = some (.int .i64 e) ∧ w.cell? ⟨h1, 1, none⟩ = some (.int .i64 at_) ∧ w.cell? ⟨h1, 2, none⟩ = some sl ∧ w.cell? ⟨h1, 3, none⟩ = some (.bool ot) ∧ (∀ o, w.frozen? ⟨h1, o, none⟩ = false) ∧
  ∃ m xs, w.ownsRow (h1 + 1) 9 1 sl m xs ∧ (∀ u ∈ xs, ∃ s, u = .string s) ∧ xs.getLast? = (outer L).map Value.string ∧ m ≤ L.length ∧ (m = 0 → sl = .slice Option.none 0 0)

theorem ownsRow_below {w w' : World} {base : Nat} {e : TypeId} {size : Nat} {v : Value} {n : Nat} {xs : List Value} (h : w.ownsRow base e size v n xs) (hb : Below w.heap.size w w') : w'.ownsRow base e size v n xs := by
  obtain ⟨h1, h2⟩ := h
  refine ⟨h1, ?_⟩
  rcases h2 with h2 | ⟨g, cap, cur, hv, hg, hc, r⟩
  · exact .inl h2
  · refine .inr ⟨g, cap, cur, hv, hg, ?_, r⟩
    rw [hb.block g (Array.getElem?_eq_some_iff.1 hc).1]
    exact hc

theorem Kept.below {h1 : Nat} {e at_ : Int} {ot : Bool} {L : List Lay} {b : Base} {v sl : Value} {w w' : World} (h : Kept h1 e at_ ot L b v sl w) (hb : Below w.heap.size w w') : Kept h1 e at_ ot L b v sl w' := by
  obtain ⟨hc, c0, c1, c2, c3, hf, m, xs, ho, r⟩ := h
  have hl := lt_of_cell c0
  exact ⟨hc.keep hb, by rw [hb.cell (p := ⟨h1, 0, none⟩) hl]; exact c0, by rw [hb.cell (p := ⟨h1, 1, none⟩) hl]; exact c1, by rw [hb.cell (p := ⟨h1, 2, none⟩) hl]; exact c2, by rw [hb.cell (p := ⟨h1, 3, none⟩) hl]; exact c3,
    fun o => by rw [hb.frozen (p := ⟨h1, o, none⟩) hl]; exact hf o, m, xs, ownsRow_below ho hb, r⟩

/-- A chain stays what it is where one cell of another block is written. -/
theorem Ch.other_cell {w : World} {L : List Lay} {b : Base} {v : Value} {h1 o : Nat} {n : Int} (u : Value) (h : Ch w L b v) (h0 : w.cell? ⟨h1, 0, none⟩ = some (.int .i64 n)) : Ch (w.setCell ⟨h1, o, none⟩ u) L b v := by
  have other : ∀ p i y s, w.cell? ⟨p, 0, none⟩ = some (.string s) → w.cell? ⟨p, i, none⟩ = some y → (w.setCell ⟨h1, o, none⟩ u).cell? ⟨p, i, none⟩ = some y := by
    intro p i y s hp hi
    have hne : h1 ≠ p := by
      intro e
      subst e
      rw [hp] at h0
      cases h0
    rw [World.cell?_setCell_other _ _ _ _ (fun e => hne (congrArg Addr.block e))]
    exact hi
  induction h with
  | fault e at_ => exact .fault e at_
  | other p s hc hs => exact .other p s (other p 0 _ s hc hc) hs
  | named p s x L b h0' h1' hs _ ih => exact .named p s x L b (other p 0 _ s h0' h0') (other p 1 _ s h0' h1') hs ih
  | wrap p m x L b h0' h1' hm _ ih => exact .wrap p m x L b (other p 0 _ m h0' h0') (other p 1 _ m h0' h1') hm ih

theorem info_str : (Tryf.prog.info? 9).map (fun i => (i.zero, i.size, i.bytes)) = some (some (.string ⟨#[]⟩), 1, 16) := by kernel_rfl

theorem owns_mk {w : World} {base B : Nat} (hB : base ≤ B) (h : w.heap[B]? = some (.cells #[] 9 (0, 0))) : w.ownsRow base 9 1 (.slice (some ⟨B, 0, none⟩) 0 0) 0 [] :=
  ⟨rfl, .inr ⟨B, 0, #[], rfl, hB, h, Nat.le_refl _, by unfold maxLen; omega, rfl, rfl⟩⟩
theorem heap_new (w : World) (c : Array Value) (t : TypeId) (B : Nat) (h : B = w.heap.size) : (w.alloc (.cells c t)).heap[B]? = some (.cells c t (0, 0)) := by subst h; exact heap_alloc_new w _
theorem heap_old {w : World} {o : Obj} {B : Nat} {x : Obj} (h : w.heap[B]? = some x) : (w.alloc o).heap[B]? = some x := by
  rw [Below.heap_alloc _ _ _ (Array.getElem?_eq_some_iff.1 h).1]; exact h

theorem ownsRow_setCell {w : World} {base : Nat} {e : TypeId} {size : Nat} {v : Value} {n : Nat} {xs : List Value} {p : Addr} (u : Value) (h : w.ownsRow base e size v n xs) (hp : p.block < base) : (w.setCell p u).ownsRow base e size v n xs := by
  obtain ⟨h1, h2⟩ := h
  refine ⟨h1, ?_⟩
  rcases h2 with h2 | ⟨g, cap, cur, hv, hg, hc, r⟩
  · exact .inl h2
  · refine .inr ⟨g, cap, cur, hv, hg, ?_, r⟩
    rw [Below.heap_setCell _ _ _ _ (by omega)]
    exact hc

/-- The cells of a row that is not empty. -/
theorem src_of_owns {w : World} {base : Nat} {sl : Value} {m : Nat} {xs : List Value} (h : w.ownsRow base 9 1 sl m xs) (hm : 0 < m) :
    ∃ g cap, sl = .slice (some ⟨g, 0, none⟩) m cap ∧ xs.length = m ∧ g < w.heap.size ∧ ∀ w', Below w.heap.size w w' → ∀ j u, xs[j]? = some u → w'.cell? ((⟨g, 0, none⟩ : Addr).add j) = some u := by
  obtain ⟨hl, h2⟩ := h
  rcases h2 with ⟨_, h0⟩ | ⟨g, cap, cur, hv, hg, hc, hn, _, hcs, ht⟩
  · omega
  · have hlt := (Array.getElem?_eq_some_iff.1 hc).1
    refine ⟨g, cap, hv, by simpa using hl, hlt, fun w' hb j u hu => ?_⟩
    have hadd : (⟨g, 0, none⟩ : Addr).add j = ⟨g, j, none⟩ := by unfold Addr.add; split <;> simp_all
    rw [hadd, hb.cell (p := ⟨g, j, none⟩) hlt, cell_of_row w g j cur 9 (0, 0) hc]
    rw [← ht, List.getElem?_take] at hu
    split at hu
    · simpa using hu
    · cases hu

/-- One name more: the chain has it, and the names' list ends with it. -/
theorem Kept.next {h1 : Nat} {e at_ : Int} {ot : Bool} {L : List Lay} {b : Base} {v0 sl : Value} {wn w1 : World} (h : Kept h1 e at_ ot L b v0 sl wn) {v2 : Value} {s : ByteArray} (hc : Ch wn (.named s :: L) b v2)
    (hB : Below wn.heap.size wn w1) {g cp m : Nat} {xs : List Value} (hown : w1.ownsRow (h1 + 1) 9 1 (.slice (some ⟨g, 0, none⟩) (m + 1) cp) (m + 1) (xs ++ [.string s])) (hxs : ∀ u ∈ xs, ∃ s, u = .string s) (hm : m ≤ L.length) :
    Kept h1 e at_ ot (.named s :: L) b v2 (.slice (some ⟨g, 0, none⟩) (m + 1) cp) (w1.setCell ⟨h1, 2, none⟩ (.slice (some ⟨g, 0, none⟩) (m + 1) cp)) := by
  have k := h.below hB
  obtain ⟨_, c0, c1, c2, c3, hf, _⟩ := k
  refine ⟨(hc.keep hB).other_cell _ c0, ?_, ?_, ?_, ?_, fun o => by rw [World.frozen?_setCell]; exact hf o, m + 1, _, ownsRow_setCell _ hown (by simp), ?_, ?_, by simp; exact hm, fun h => by omega⟩
  · rw [World.cell?_setCell_other _ _ _ _ (by simp)]; exact c0
  · rw [World.cell?_setCell_other _ _ _ _ (by simp)]; exact c1
  · exact World.cell?_setCell_same _ _ _ c2
  · rw [World.cell?_setCell_other _ _ _ _ (by simp)]; exact c3
  · intro u hu
    rcases List.mem_append.1 hu with h | h
    · exact hxs u h
    · exact ⟨s, by simpa using h⟩
  · simp [outer]

theorem Kept.wrap {h1 : Nat} {e at_ : Int} {ot : Bool} {L : List Lay} {b : Base} {v0 sl : Value} {w : World} (h : Kept h1 e at_ ot L b v0 sl w) {v2 : Value} (hc : Ch w (.wrap :: L) b v2) : Kept h1 e at_ ot (.wrap :: L) b v2 sl w := by
  obtain ⟨_, c0, c1, c2, c3, hf, m, xs, ho, hx, hl, hm, hz⟩ := h
  exact ⟨hc, c0, c1, c2, c3, hf, m, xs, ho, hx, hl, by simp; omega, hz⟩

/-- What New answers. -/
def newV (e at_ : Int) : Value := if e = 0 then .nilIface else .iface 47 (.agg #[.int .i64 e, .int .i64 at_])
theorem new_any (e at_ : Int) (w : World) : Calls Tryf.prog 15 #[.int .i64 e, .int .i64 at_] w fun x w' => x = .returned (newV e at_) ∧ w = w' := by
  by_cases h : e = 0
  · subst h
    exact (new_ok at_ w).mono fun x w' ⟨h1, h2⟩ => ⟨by rw [h1]; rfl, h2⟩
  · exact (new_fault e at_ w h).mono fun x w' ⟨h1, h2⟩ => ⟨by rw [h1, newV, if_neg h], h2⟩

/-- What an error is made of, within. -/
def baseOf (ot : Bool) (e at_ : Int) : Base := if ot then .other else .fault e at_

/-- The world behind made's two variables. -/
def two (e at_ : Int) (ot : Bool) (w : World) : World := (w.alloc (.cells #[.int .i64 0, .int .i64 0, .slice Option.none 0 0, .bool false] 28)).alloc (.cells #[.int .i64 e, .int .i64 at_, .slice Option.none 0 0, .bool ot] 28)

/-- How made ends. -/
def Made (e at_ : Int) (ot : Bool) (w : World) (x : Ending) (w' : World) : Prop :=
  ∃ v L sl m xs, x = .returned (.tuple #[v, .agg #[.int .i64 e, .int .i64 at_, sl, .bool ot]]) ∧ Ch w' L (baseOf ot e at_) v ∧ w'.ownsRow (w.heap.size + 1 + 1) 9 1 sl m xs ∧ (∀ u ∈ xs, ∃ s, u = .string s) ∧ xs.getLast? = (outer L).map Value.string ∧ m ≤ 30 ∧ Below w.heap.size w w'

theorem start_kept (e at_ : Int) (ot : Bool) (b : Base) (v : Value) (w wx : World) (hc : Ch wx [] b v) (hb : Below (two e at_ ot w).heap.size (two e at_ ot w) wx) :
    Kept (w.heap.size + 1) e at_ ot [] b v (.slice Option.none 0 0) wx := by
  have hsz : w.heap.size + 1 < (two e at_ ot w).heap.size := by simp [two]
  refine ⟨hc, ?_, ?_, ?_, ?_, ?_, 0, [], ⟨rfl, .inl ⟨rfl, rfl⟩⟩, by simp, rfl, Nat.le_refl _, fun _ => rfl⟩
  · rw [hb.cell (p := ⟨w.heap.size + 1, 0, none⟩) hsz]; simp [two]
  · rw [hb.cell (p := ⟨w.heap.size + 1, 1, none⟩) hsz]; simp [two]
  · rw [hb.cell (p := ⟨w.heap.size + 1, 2, none⟩) hsz]; simp [two]
  · rw [hb.cell (p := ⟨w.heap.size + 1, 3, none⟩) hsz]; simp [two]
  · intro o
    rw [hb.frozen (p := ⟨w.heap.size + 1, o, none⟩) hsz]; simp [two]

/-- What the loop over the names keeps. -/
def Inv (len : Nat) (e at_ : Int) (ot : Bool) (w : World) (k : Nat) (v i : Value) (wr : World) : Prop :=
  ∃ (j : Nat) (L : List Lay) (sl : Value), j ≤ len ∧ k = len - j ∧ i = .int .i64 j ∧ L.length = j ∧ Kept (w.heap.size + 1) e at_ ot L (baseOf ot e at_) v sl wr ∧ Below (w.heap.size + 1) (two e at_ ot w) wr

/-- Four cells of one block, written one behind the other. -/
theorem four_cells {w : World} {h : Nat} {o0 o1 o2 o3 : Value} (z0 : w.cell? ⟨h, 0, none⟩ = some o0) (z1 : w.cell? ⟨h, 1, none⟩ = some o1) (z2 : w.cell? ⟨h, 2, none⟩ = some o2) (z3 : w.cell? ⟨h, 3, none⟩ = some o3) (a b c d : Value) :
    ((((w.setCell ⟨h, 0, none⟩ a).setCell ⟨h, 1, none⟩ b).setCell ⟨h, 2, none⟩ c).setCell ⟨h, 3, none⟩ d).cell? ⟨h, 0, none⟩ = some a ∧
    ((((w.setCell ⟨h, 0, none⟩ a).setCell ⟨h, 1, none⟩ b).setCell ⟨h, 2, none⟩ c).setCell ⟨h, 3, none⟩ d).cell? ⟨h, 1, none⟩ = some b ∧
    ((((w.setCell ⟨h, 0, none⟩ a).setCell ⟨h, 1, none⟩ b).setCell ⟨h, 2, none⟩ c).setCell ⟨h, 3, none⟩ d).cell? ⟨h, 2, none⟩ = some c ∧
    ((((w.setCell ⟨h, 0, none⟩ a).setCell ⟨h, 1, none⟩ b).setCell ⟨h, 2, none⟩ c).setCell ⟨h, 3, none⟩ d).cell? ⟨h, 3, none⟩ = some d := by
  have x1 : (w.setCell ⟨h, 0, none⟩ a).cell? ⟨h, 1, none⟩ = some o1 := by rw [World.cell?_setCell_other _ _ _ _ (by simp)]; exact z1
  have x2 : ((w.setCell ⟨h, 0, none⟩ a).setCell ⟨h, 1, none⟩ b).cell? ⟨h, 2, none⟩ = some o2 := by rw [World.cell?_setCell_other _ _ _ _ (by simp), World.cell?_setCell_other _ _ _ _ (by simp)]; exact z2
  have x3 : (((w.setCell ⟨h, 0, none⟩ a).setCell ⟨h, 1, none⟩ b).setCell ⟨h, 2, none⟩ c).cell? ⟨h, 3, none⟩ = some o3 := by rw [World.cell?_setCell_other _ _ _ _ (by simp), World.cell?_setCell_other _ _ _ _ (by simp), World.cell?_setCell_other _ _ _ _ (by simp)]; exact z3
  refine ⟨?_, ?_, ?_, World.cell?_setCell_same _ _ _ x3⟩
  · rw [World.cell?_setCell_other _ _ _ _ (by simp), World.cell?_setCell_other _ _ _ _ (by simp), World.cell?_setCell_other _ _ _ _ (by simp)]; exact World.cell?_setCell_same _ _ _ z0
  · rw [World.cell?_setCell_other _ _ _ _ (by simp), World.cell?_setCell_other _ _ _ _ (by simp)]; exact World.cell?_setCell_same _ _ _ x1
  · rw [World.cell?_setCell_other _ _ _ _ (by simp)]; exact World.cell?_setCell_same _ _ _ x2

theorem four_rest {w : World} {h : Nat} {n : Int} (z0 : w.cell? ⟨h, 0, none⟩ = some (.int .i64 n)) {L : List Lay} {bs : Base} {v : Value} (hc : Ch w L bs v) {base m : Nat} {sl : Value} {xs : List Value} (ho : w.ownsRow base 9 1 sl m xs) (a : Int) (b c d : Value) (hh : h < base) :
    Ch ((((w.setCell ⟨h, 0, none⟩ (.int .i64 a)).setCell ⟨h, 1, none⟩ b).setCell ⟨h, 2, none⟩ c).setCell ⟨h, 3, none⟩ d) L bs v ∧
    ((((w.setCell ⟨h, 0, none⟩ (.int .i64 a)).setCell ⟨h, 1, none⟩ b).setCell ⟨h, 2, none⟩ c).setCell ⟨h, 3, none⟩ d).ownsRow base 9 1 sl m xs := by
  have y0 := World.cell?_setCell_same w ⟨h, 0, none⟩ (.int .i64 a) z0
  have y1 : ((w.setCell ⟨h, 0, none⟩ (.int .i64 a)).setCell ⟨h, 1, none⟩ b).cell? ⟨h, 0, none⟩ = some (.int .i64 a) := by rw [World.cell?_setCell_other _ _ _ _ (by simp)]; exact y0
  have y2 : (((w.setCell ⟨h, 0, none⟩ (.int .i64 a)).setCell ⟨h, 1, none⟩ b).setCell ⟨h, 2, none⟩ c).cell? ⟨h, 0, none⟩ = some (.int .i64 a) := by rw [World.cell?_setCell_other _ _ _ _ (by simp)]; exact y1
  exact ⟨(((hc.other_cell _ z0).other_cell _ y0).other_cell _ y1).other_cell _ y2, ownsRow_setCell _ (ownsRow_setCell _ (ownsRow_setCell _ (ownsRow_setCell _ ho hh) hh) hh) hh⟩



end Go.Proofs.YtoolmokcbdkhoaaFmt.Fa
