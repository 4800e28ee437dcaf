/-
  Package gram: Rule, with the library's slices.Clone; the plain answers' Rule.
-/
import Derived.Test.YtoohnkffclkmhaaGramOf
namespace Go.Proofs.Ytoohnkffclkmhaa.Gr
open Go.RowKit Go.Maps

theorem build_none (w : World) : (Instr.buildSlice 25 0 #[]).run Try.prog w = .ok (.slice (some ⟨w.heap.size, 0, none⟩) 0 0) (w.alloc (.cells #[] 3)) := by kernel_rfl
theorem ivs_one (l : List Int) : ∀ u ∈ ivs l, u.oneCell' = true := by
  intro u hu
  obtain ⟨s, _, rfl⟩ := List.mem_map.1 hu
  rfl

set_option maxHeartbeats 1000000 in
set_option maxRecDepth 100000 in
theorem clone_any (a : Option Addr) (l : List Int) (c : Nat) (w : World) (h : Sep.Reads a (ivs l) w) (hl : l.length ≤ 17592186044416) :
    Calls Try.prog 19 #[.slice a l.length c] w (Listed l w) := by
  obtain ⟨i0, hi, hz0, hz1, hz2⟩ := info_parts info_int
  cases a with
  | none =>
    have h0 : l = [] := by
      rcases l with _ | ⟨x, l⟩
      · rfl
      · obtain ⟨_, _, e, _⟩ := h 0 (by simp [ivs])
        cases e
    subst h0
    have hn := Lib.run_eql_slice_nil (P := Try.prog)
    go_enter Try.func19, Try.ntmps19
    go_wp2
    go_ret
    exact ⟨Option.none, _, rfl, .nil _ _, (fun _ h => by cases h), .refl _ _⟩
  | some x =>
    have HB := Lib.hid (fun v (w1 w2 : World) (h1 : w2.ownsRow w.heap.size 3 1 v (0 + l.length) ([] ++ ivs l)) (h2 : (w.alloc (.cells #[] 3)).grownBy w2 (some w.heap.size)) => show Listed l w (.returned v) w2 from by
      rw [Nat.zero_add, List.nil_append] at h1
      obtain ⟨a', c', rfl⟩ := Sep.ownsRow_shape h1
      exact ⟨a', c', rfl, .of_row h1, row_new h1 (Nat.le_refl _), ((Below.refl _ _).alloc (Nat.le_refl _) _).grown h2 (by simp) fun k hk => by injection hk with hk; omega⟩)
    have HO := Lib.hid (World.ownsRow_made (base := w.heap.size) (e := 3) (size := 1) w #[] 0 (Nat.le_refl _) (by simp) (by simp))
    have HN := Lib.hid (show ∀ (j : Nat) (u : Value), (ivs l)[j]? = some u → (w.alloc (.cells #[] 3)).cell? (x.add j) = some u from fun j u hj => by
      obtain ⟨hj1, rfl⟩ := List.getElem?_eq_some_iff.1 hj
      obtain ⟨b, o, e, hc⟩ := h j hj1
      injection e with e
      subst e
      rw [WideShapes.add_plain]
      exact cell_later (boxed _ _) hc)
    have HL := Lib.hid (ivs_one l)
    have hll := ivs_length l
    clear h
    have hn := Lib.run_eql_slice_nil (P := Try.prog)
    have hb := build_none
    go_enter Try.func19, Try.ntmps19
    go_wp2_with (at_builtin; refine wpList_append_own_at _ rfl _ _ 25 rfl w.heap.size 3 i0 (.int .i64 0) 1 8 Try.underlying25 hi hz0 hz1 hz2 rfl (by decide) _ _ _ rfl HO.out x l.length c (ivs l) rfl (by simp [ivs]) HN.out HL.out (by unfold maxLen; omega) (by omega) (by simp) ?_; intro v' w2 hown2 hg2 _ _; have HE := Lib.hid (HB.out v' w w2 hown2 hg2); clear hown2 hg2)
    go_ret
    exact HE.out

/-- A rule comes back, and whether there is one; nothing that was there is written. -/
def Ruled (r : Int × List Int) (ok : Bool) (w : World) (e : Ending) (w' : World) : Prop :=
  ∃ a c, e = .returned (.tuple #[.agg #[.int .i64 r.1, .slice a r.2.length c], .bool ok]) ∧ Sep.Reads a (ivs r.2) w' ∧ Below w.heap.size w w'

theorem reads_one {w : World} {q : Nat} {x : Int} (h : w.cell? ⟨q, 0, Option.none⟩ = some (iv x)) : Sep.Reads (some ⟨q, 0, Option.none⟩) (ivs [x]) w := fun i hi => by
  obtain rfl : i = 0 := by simp [ivs] at hi; omega
  exact ⟨q, 0, rfl, by simpa [ivs] using h⟩

end Go.Proofs.Ytoohnkffclkmhaa.Gr
