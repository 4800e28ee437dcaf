/-
  The plain answers of layer 10: better, Line, Length. Condition: lists are within a machine's reach.
-/
import Derived.Test.YtoipinnfmjaaaaaDoorLeastRJoin
namespace Go.Proofs.YtoipinnfmjaaaaaDoor.Le
open Go.RowKit Go.Maps
open Go.Proofs.YtoipinnfmjaaaaaDoor.Gr
open Go.Proofs.YtoipinnfmjaaaaaDoor.Rw (Bk IntsV row_shape)
set_option linter.unusedVariables false

set_option maxRecDepth 100000 in
set_option maxHeartbeats 8000000 in
theorem rbetter_any (p q1 q2 q3 hi n : Nat) (T : Int → Ans) (f : Nat → Value) (j : Nat) (a : Ans) (xa : Option Addr) (xc : Nat) (w : World) (h : RAt p q1 q2 q3 hi n T f w) (hj : j < n) (ha : a ≠ .none) (hb : Bd a) (hX : Sep.Reads xa (ivs (wordA a)) w) :
    Calls Tryd.prog 39 #[.pointer (some ⟨p, 0, none⟩), .int .i64 (j : Int), .slice xa (wordA a).length xc, .bool (farA a)] w (Is (.bool (betterS a (T (j : Int)))) w) := by
  have hsm := h.small
  obtain ⟨y0, y1, y2, yf⟩ := h.box.three
  have z1 := h.c1.at_ j hj
  have z2 := h.c2.at_ j hj
  have z3 := h.c3.at_ j hj
  obtain ⟨ya, yc, hfj, hRy, _⟩ := h.word j hj
  rw [hfj] at z1
  have hY := h.ok.bnd (j : Int)
  clear hfj h
  generalize T (j : Int) = t at *
  cases t with
  | none =>
    have E := Lib.hid (show betterS a .none = true by cases a <;> first | rfl | exact absurd rfl ha)
    dsimp only [hasA, farA] at z2 z3
    clear hX hRy
    generalize farA a = fa at *
    go_enter Tryd.func39, Tryd.ntmps39
    go_wp2
    go_ret
    exact ⟨bool_of E.out, .refl _ _⟩
  | far =>
    dsimp only [hasA, farA] at z2 z3
    clear hX hRy
    cases a with
    | none => exact absurd rfl ha
    | far =>
      dsimp only [farA, wordA, betterS]
      go_enter Tryd.func39, Tryd.ntmps39
      go_wp2
      go_ret
      exact ⟨rfl, .refl _ _⟩
    | is x =>
      dsimp only [farA, wordA, betterS]
      go_enter Tryd.func39, Tryd.ntmps39
      go_wp2
      go_ret
      exact ⟨rfl, .refl _ _⟩
  | is y =>
    dsimp only [hasA, farA, wordA] at z1 z2 z3 hRy
    cases a with
    | none => exact absurd rfl ha
    | far =>
      dsimp only [farA, wordA, betterS]
      clear hX hRy
      go_enter Tryd.func39, Tryd.ntmps39
      go_wp2
      go_ret
      exact ⟨rfl, .refl _ _⟩
    | is x =>
      have hx := hb x rfl
      have hy := hY y rfl
      dsimp only [farA, wordA, betterS]
      have L := Lib.hid (rless_any x y xa ya xc yc w hX hRy (by omega) (by omega))
      clear hX hRy
      go_enter Tryd.func39, Tryd.ntmps39
      go_wp2_with (go_at_call 61; refine L.out.mono ?_; rintro e w1 ⟨rfl, hb⟩; have B1 := Lib.hid hb; clear hb)
      go_ret
      exact ⟨rfl, B1.out⟩

theorem has_far (a : Ans) : isA a = (hasA a && !farA a) := by cases a <;> rfl

/-- .. within the slice's capacity. -/
def LinedC (a : Ans) (w : World) (e : Ending) (w' : World) : Prop :=
  ∃ ad c, e = .returned (.tuple #[.slice ad (wordA a).length c, .bool (isA a)]) ∧ Sep.Reads ad (ivs (wordA a)) w' ∧ Below w.heap.size w w' ∧ (wordA a).length ≤ c
set_option maxRecDepth 100000 in
set_option maxHeartbeats 8000000 in
theorem rline_any2 (nl : Bool) (v : Value) (T : Int → Ans) (l : List Int) (a : Option Addr) (c : Nat) (w : World) (h : RVAt nl v T w) (hR : Sep.Reads a (ivs l) w) (hl : l.length ≤ 17592186044416) :
    Calls Tryd.prog 17 #[v, .slice a l.length c] w (LinedC (lineA nl T l) w) := by
  rcases h with ⟨rfl, rfl, rfl⟩ | ⟨rfl, p, q1, q2, q3, hi, n, f, rfl, h⟩
  · clear hR
    go_enter Tryd.func17, Tryd.ntmps17
    go_wp2
    go_ret2
    exact ⟨none, 0, rfl, .nil _ _, .refl _ _, Nat.le_refl _⟩
  · have JC := Lib.hid (rjoin_any2 p q1 q2 q3 hi n T f l a c w h hR hl)
    have E := Lib.hid (show lineA false T l = J T l from if_neg (by decide))
    rw [E.out]
    clear h hR E
    generalize J T l = j at *
    have EB := Lib.hid (has_far j)
    cases hh : hasA j <;> cases hf : farA j
    all_goals
      have EH := Lib.hid hh
      have EF := Lib.hid hf
      unfold RJc at JC
      rw [hh, hf] at JC
      clear hh hf
      go_enter Tryd.func17, Tryd.ntmps17
      go_wp2_with (go_at_call 38; refine JC.out.mono ?_; rintro e w1 ⟨ad, ac, rfl, hR, hN, hb, hcp⟩; have R1 := Lib.hid hR; have B1 := Lib.hid hb; have C1 := Lib.hid hcp; clear hR hN hb hcp)
      go_ret2
      exact ⟨ad, ac, tuple_of (by rw [EB.out, EH.out, EF.out]; rfl), R1.out, B1.out, C1.out⟩

theorem rline_any (nl : Bool) (v : Value) (T : Int → Ans) (l : List Int) (a : Option Addr) (c : Nat) (w : World) (h : RVAt nl v T w) (hR : Sep.Reads a (ivs l) w) (hl : l.length ≤ 17592186044416) :
    Calls Tryd.prog 17 #[v, .slice a l.length c] w (Lined (lineA nl T l) w) :=
  (rline_any2 nl v T l a c w h hR hl).mono fun _ _ ⟨ad, ac, h1, h2, h3, _⟩ => ⟨ad, ac, h1, h2, h3⟩

end Go.Proofs.YtoipinnfmjaaaaaDoor.Le
