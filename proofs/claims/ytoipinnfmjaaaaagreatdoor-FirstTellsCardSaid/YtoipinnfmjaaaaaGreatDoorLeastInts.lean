/-
  Two lists of numbers held against each other by the plain answers and the statements: Ints, before. Condition: the lists are within a machine's reach.
-/
import Derived.Test.YtoipinnfmjaaaaaGreatDoorLeastTell
import Derived.Test.YtoipinnfmjaaaaaGreatDoorMCheck
namespace Go.Proofs.YtoipinnfmjaaaaaGreatDoor.Le
open Go.RowKit Go.Maps
open Go.Proofs.YtoipinnfmjaaaaaGreatDoor.Gr (Gram Is step boxed cell_later drawn ivs iv int_at int_of bool_of)
set_option linter.unusedVariables false

theorem same_ne {v w : List Int} {k : Nat} (hv : k < v.length) (hw : k < w.length) (e : v[k] ≠ w[k]) : v ≠ w := fun h => by
  subst h
  exact e rfl

set_option maxHeartbeats 4000000 in
theorem ints_any (X Y : List Int) (a b : Option Addr) (c d : Nat) (w : World) (hX : Sep.Reads a (ivs X) w) (hY : Sep.Reads b (ivs Y) w) (hm : X.length ≤ 100000) (hm2 : Y.length ≤ 100000) :
    Calls Tryz.prog 11 #[.slice a X.length c, .slice b Y.length d] w (Is (.bool (decide (X = Y))) w) := by
  by_cases hl : X.length = Y.length
  · have HX := Lib.hid (fun w1 (bb : Below w.heap.size w w1) => Sep.Reads.below hX bb (Nat.le_refl _))
    have HY := Lib.hid (fun w1 (bb : Below w.heap.size w w1) => Sep.Reads.below hY bb (Nat.le_refl _))
    have HL := Lib.hid hl
    rw [← hl]
    clear hX hY hl hm2
    go_enter Tryz.func11, Tryz.ntmps11
    go_wp2
    go_loopw [5] (fun i wr => ∃ k : Nat, k ≤ X.length ∧ i = .int .i64 k ∧ SameTo X Y k ∧ Below w.heap.size w wr) (fun i _ => X.length - (intOf i).toNat)
    case atStart => exact ⟨0, Nat.zero_le _, rfl, same_zero _ _, .refl _ _⟩
    case round =>
      obtain ⟨k, hk, rfl, hS, hB⟩ := hrel
      have S := Lib.hid hS
      have B := Lib.hid hB
      clear hS hB
      by_cases hlt : k < X.length
      · have hlt2 : k < Y.length := by rw [← HL.out]; exact hlt
        obtain ⟨b1, o1, e1, hc1⟩ := int_at (HX.out _ B.out) hlt
        obtain ⟨b2, o2, e2, hc2⟩ := int_at (HY.out _ B.out) hlt2
        have NS := Lib.hid (fun he => same_step S.out hlt hlt2 he)
        have NE := Lib.hid (fun he => same_ne hlt hlt2 he)
        generalize X[k] = x at *
        generalize Y[k] = y at *
        subst e1 e2
        have i0 : (0 : Int) ≤ (k : Int) := by omega
        have i1 : (k : Int) < (X.length : Int) := by omega
        by_cases hxy : x = y
        · have S2 := Lib.hid (NS.out hxy)
          have hb : (x != y) = false := by simpa using hxy
          clear hxy NS NE hlt2
          go_wp2
          go_quiet (fail)
          go_wp2
          go_roundw
          case rel => exact ⟨k + 1, by omega, by go_num, S2.out, Gr.step B.out (drawnN _ _)⟩
          case measure => simp [intOf]; omega
        · have E := Lib.hid (decide_eq_false (NE.out hxy))
          have hb : (x != y) = true := by simpa using hxy
          clear hxy NS NE hlt2
          go_wp2
          go_quiet (fail)
          go_wp2
          go_ret
          exact ⟨bool_of E.out, Gr.step B.out (drawnN _ _)⟩
      · have E := Lib.hid (decide_eq_true (same_end S.out hlt HL.out))
        go_wp2
        go_ret
        exact ⟨bool_of E.out, B.out⟩
  · have E := Lib.hid (show decide (X = Y) = false from decide_eq_false fun e => hl (by rw [e]))
    have hb : ((X.length : Int) != (Y.length : Int)) = true := by simp; omega
    clear hX hY hl
    generalize decide (X = Y) = ans at *
    generalize X.length = n at *
    generalize Y.length = m at *
    go_enter Tryz.func11, Tryz.ntmps11
    go_wp2
    go_ret
    exact ⟨bool_of E.out, .refl _ _⟩

end Go.Proofs.YtoipinnfmjaaaaaGreatDoor.Le
