/-
  Package intern: All, with the library's slices.Clone.
-/
import Derived.Test.YtimfiaphhomelaaGreatInternPut
namespace Go.Proofs.YtimfiaphhomelaaGreat.It
open Go.RowKit Go.Maps

/-- A new slice of the names, and that nothing that was there is written. -/
def Listed (L : List ByteArray) (w : World) (e : Ending) (w' : World) : Prop :=
  ∃ a c, e = .returned (.slice a L.length c) ∧ (Sep.Reads a (L.map .string) w' ∧ L.length ≤ c) ∧ Below w.heap.size w w'

theorem row_cap {w : World} {base n c : Nat} {e : TypeId} {a : Option Addr} {xs : List Value} (h : w.ownsRow base e 1 (.slice a n c) n xs) : n ≤ c := by
  rcases h.2 with ⟨_, h2⟩ | ⟨g, cap, cur, h2, _, _, h3, _⟩
  · omega
  · simp only [Value.slice.injEq] at h2
    omega

theorem strings_oneCell (L : List ByteArray) : ∀ u ∈ L.map Value.string, u.oneCell' = true := by
  intro u hu
  obtain ⟨s, _, rfl⟩ := List.mem_map.1 hu
  rfl

theorem build_none (w : World) : (Instr.buildSlice 22 0 #[]).run Tryz.prog w = .ok (.slice (some ⟨w.heap.size, 0, none⟩) 0 0) (w.alloc (.cells #[] 9)) := by kernel_rfl

set_option maxHeartbeats 1000000 in
theorem clone_any {base : Nat} {L : List ByteArray} {a : Option Addr} {c : Nat} (w : World) (h : w.ownsRow base 9 1 (.slice a L.length c) L.length (L.map .string)) (hl : L.length ≤ 4096) :
    Calls Tryz.prog 114 #[.slice a L.length c] w (Listed L w) := by
  obtain ⟨i0, hi, hz0, hz1, hz2⟩ := info_parts info_string
  cases a with
  | none =>
    have h0 : L = [] := by
      rcases h.2 with ⟨_, h2⟩ | ⟨g, _, _, h2, _⟩
      · exact List.eq_nil_of_length_eq_zero h2
      · cases h2
    subst h0
    have hn := Lib.run_eql_slice_nil (P := Tryz.prog)
    go_enter Tryz.func114, Tryz.ntmps114
    go_wp2
    go_ret
    exact ⟨none, _, rfl, ⟨.nil _ _, Nat.zero_le _⟩, .refl _ _⟩
  | some x =>
    obtain ⟨g, rfl, hlt⟩ : ∃ g, x = ⟨g, 0, none⟩ ∧ g < w.heap.size := by
      rcases h.2 with ⟨h1, _⟩ | ⟨g, _, _, h1, _, h2, _⟩
      · cases h1
      · simp only [Value.slice.injEq, Option.some.injEq] at h1
        exact ⟨g, h1.1, (Array.getElem?_eq_some_iff.1 h2).1⟩
    have HC := Lib.hid (h.cells (g := g) rfl)
    have HB := Lib.hid (fun v (w1 w2 : World) (h1 : w2.ownsRow w.heap.size 9 1 v (0 + L.length) ([] ++ L.map .string)) (h2 : (w.alloc (.cells #[] 9)).grownBy w2 (some w.heap.size)) => show Listed L w (.returned v) w2 from by
      rw [Nat.zero_add, List.nil_append] at h1
      obtain ⟨a', c', rfl⟩ := Sep.ownsRow_shape h1
      exact ⟨a', c', rfl, ⟨.of_row h1, row_cap h1⟩, ((Below.refl _ _).alloc (Nat.le_refl _) _).grown h2 (by simp) fun k hk => by injection hk with hk; omega⟩)
    have HO := Lib.hid (World.ownsRow_made (base := w.heap.size) (e := 9) (size := 1) w #[] 0 (Nat.le_refl _) (by simp) (by simp))
    have HN := Lib.hid (show ∀ (j : Nat) (u : Value), (L.map Value.string)[j]? = some u → (w.alloc (.cells #[] 9)).cell? ((⟨g, 0, none⟩ : Addr).add j) = some u from fun j u hj => by
      rw [← HC.out j u hj]
      exact World.cell?_of_block (by rw [WideShapes.add_plain]; exact Below.heap_alloc _ _ _ hlt))
    have HL := Lib.hid (strings_oneCell L)
    clear h HC
    have hn := Lib.run_eql_slice_nil (P := Tryz.prog)
    have hb := build_none
    go_enter Tryz.func114, Tryz.ntmps114
    go_wp2_with (at_builtin; refine wpList_append_own_at _ rfl _ _ 22 rfl w.heap.size 9 i0 (.string ByteArray.empty) 1 16 Tryz.underlying22 hi hz0 hz1 hz2 rfl (by decide) _ _ _ rfl HO.out ⟨g, 0, none⟩ L.length c (L.map .string) rfl (by simp) HN.out HL.out (by unfold maxLen; omega) (by omega) (by simp) ?_; intro v' w2 hown2 hg2 _ _; have HE := Lib.hid (HB.out v' w w2 hown2 hg2); clear hown2 hg2)
    go_ret
    exact HE.out

set_option maxHeartbeats 1000000 in
theorem all_nil (w : World) : Calls Tryz.prog 88 #[.pointer none] w fun e w' => e = .returned (.slice none 0 0) ∧ w = w' := by
  go_enter Tryz.func88, Tryz.ntmps88
  go_wp2
  go_ret
  exact ⟨rfl, rfl⟩

set_option maxHeartbeats 1000000 in
theorem all_any {p : Nat} {S : Nat → Prop} {n : Nat} {L : List ByteArray} (w : World) (h : NmAt p S n L w) :
    Calls Tryz.prog 88 #[.pointer (some ⟨p, 0, none⟩)] w (Listed L w) := by
  obtain ⟨a, c, bm, D, h⟩ := h
  have c1 := h.texts
  have HC := Lib.hid (clone_any w h.row (by have := h.full; have := h.top; omega))
  clear h
  go_enter Tryz.func88, Tryz.ntmps88
  go_wp2_with (go_at_call 114; refine HC.out.mono ?_; rintro e w' ⟨a', c', rfl, hr, hb⟩; have HR := Lib.hid hr; have HB := Lib.hid hb; clear hr hb)
  go_ret
  exact ⟨_, _, rfl, HR.out, HB.out⟩

end Go.Proofs.YtimfiaphhomelaaGreat.It
