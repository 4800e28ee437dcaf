/-
  The statements' own function within: is each number of a list in another one? Condition: both lists are within a machine's reach.
-/
import Derived.Test.YtoipinnfmjaaaaaDoorFirstTell
namespace Go.Proofs.YtoipinnfmjaaaaaDoor.Fi
open Go.RowKit Go.Maps
open Go.Proofs.YtoipinnfmjaaaaaDoor.Gr
set_option linter.unusedVariables false

def inB (x : Int) (B : List Int) : Bool := B.any fun y => decide (x = y)
def withinB (A B : List Int) : Bool := A.all fun x => inB x B
theorem inB_zero (x : Int) (B : List Int) : inB x (B.take 0) = false := by rw [List.take_zero]; rfl
theorem inB_step {x : Int} {B : List Int} {k : Nat} (hk : k < B.length) : inB x (B.take (k + 1)) = (inB x (B.take k) || decide (x = B[k])) := by
  rw [take_next hk]
  unfold inB
  rw [List.any_append]
  simp
theorem withinB_step {A B : List Int} {i : Nat} (hi : i < A.length) (h : withinB (A.take i) B = true) (hx : inB A[i] B = true) : withinB (A.take (i + 1)) B = true := by
  rw [take_next hi]
  unfold withinB at h ⊢
  rw [List.all_append, h]
  simp [hx]
theorem withinB_not {A B : List Int} {i : Nat} (hi : i < A.length) (hx : inB A[i] B = false) : withinB A B = false := by
  cases e : withinB A B with
  | false => rfl
  | true =>
    unfold withinB at e
    rw [List.all_eq_true] at e
    rw [e _ (List.getElem_mem hi)] at hx
    cases hx
theorem withinB_lst {P Q : Int → Bool} {n : Nat} (h : ∀ t, P t = true → Q t = true) : withinB (lst P n) (lst Q n) = true := by
  unfold withinB inB
  rw [List.all_eq_true]
  intro t ht
  obtain ⟨h0, h1, h2⟩ := mem_lst.1 ht
  rw [List.any_eq_true]
  exact ⟨t, mem_lst.2 ⟨h0, h1, h t h2⟩, by simp⟩
theorem withinB_one {t : Int} {Q : Int → Bool} {n : Nat} (h0 : 0 ≤ t) (h1 : t < (n : Int)) (h : Q t = true) : withinB [t] (lst Q n) = true := by
  unfold withinB inB
  rw [List.all_cons, List.all_nil, Bool.and_true, List.any_eq_true]
  exact ⟨t, mem_lst.2 ⟨h0, h1, h⟩, by simp⟩

set_option maxRecDepth 100000 in
set_option maxHeartbeats 4000000 in
theorem within_any (A B : List Int) (a b : Option Addr) (c d : Nat) (w : World) (hA : Sep.Reads a (ivs A) w) (hB : Sep.Reads b (ivs B) w) (ha : A.length ≤ 100000) (hb : B.length ≤ 100000) :
    Calls Tryd.prog 10 #[.slice a A.length c, .slice b B.length d] w (Is (.bool (withinB A B)) w) := by
  have RA := Lib.hid (fun w1 (k : Below w.heap.size w w1) => Sep.Reads.below hA k (Nat.le_refl _))
  have RB := Lib.hid (fun w1 (k : Below w.heap.size w w1) => Sep.Reads.below hB k (Nat.le_refl _))
  clear hA hB
  go_enter Tryd.func10, Tryd.ntmps10
  go_wp2
  go_loopw [5] (fun i wr => ∃ k : Nat, k ≤ A.length ∧ i = .int .i64 k ∧ withinB (A.take k) B = true ∧ Below w.heap.size w wr) (fun i _ => A.length - (intOf i).toNat)
  case atStart => exact ⟨0, Nat.zero_le _, rfl, rfl, .refl _ _⟩
  case round =>
    obtain ⟨k, hk, rfl, hW, hw⟩ := hrel
    have WW := Lib.hid hW
    have BW := Lib.hid hw
    clear hW hw
    by_cases hlt : k < A.length
    · obtain ⟨b1, o1, rfl, hc1⟩ := int_at (RA.out _ BW.out) hlt
      have WS := Lib.hid (fun h => withinB_step hlt WW.out h)
      have WN := Lib.hid (fun h => withinB_not (B := B) hlt h)
      generalize A[k] = x at *
      have CA := Lib.hid (fun w' (b : Below wr.heap.size wr w') => cell_later b hc1)
      have RBR := Lib.hid (fun w' (b : Below wr.heap.size wr w') => RB.out w' (Gr.step BW.out b))
      have BWR := Lib.hid (fun w' (b : Below wr.heap.size wr w') => Gr.step BW.out b)
      have STP := Lib.hid (fun w1 w2 (b : Below wr.heap.size wr w1) (c : Below w1.heap.size w1 w2) => Gr.step b c)
      have B00 := Lib.hid (Below.refl wr.heap.size wr)
      clear hc1 WW BW RB
      go_wp2
      go_loopw [6, 7] (fun m i wr2 => ∃ j : Nat, j ≤ B.length ∧ i = .int .i64 j ∧ m = .bool (inB x (B.take j)) ∧ Below wr.heap.size wr wr2) (fun _ i _ => B.length - (intOf i).toNat)
      case atStart => exact ⟨0, Nat.zero_le _, rfl, by rw [inB_zero], B00.out⟩
      case round =>
        clear B00
        obtain ⟨j, hj, rfl, rfl, hw2⟩ := hrel
        have B2 := Lib.hid hw2
        clear hw2
        by_cases hlt2 : j < B.length
        · obtain ⟨b2, o2, rfl, hc2⟩ := int_at (RBR.out _ B2.out) hlt2
          have hc1 := CA.out _ B2.out
          have SB := Lib.hid (inB_step (x := x) hlt2)
          generalize B[j] = y at *
          generalize inB x (B.take j) = g at *
          cases g with
          | true =>
            have S2 := Lib.hid (show inB x (B.take (j + 1)) = true from SB.out)
            clear SB
            go_wp2_with fail
            go_quiet (fail)
            have B3 := Lib.hid (STP.out _ _ B2.out (drawnN' _ nq))
            go_wp2
            go_roundw
            case rel => exact ⟨j + 1, by omega, by go_num, by rw [S2.out], B3.out⟩
            case measure => simp [intOf]; omega
          | false =>
            have S2 := Lib.hid (show inB x (B.take (j + 1)) = decide (x = y) from by rw [SB.out, Bool.false_or])
            clear SB
            go_wp2_with fail
            go_quiet (fail)
            have B3 := Lib.hid (STP.out _ _ B2.out (drawnN' _ nq))
            go_wp2
            go_roundw
            case rel => exact ⟨j + 1, by omega, by go_num, by rw [S2.out]; first | rfl | (congr 1; rw [Bool.eq_iff_iff]; simp), B3.out⟩
            case measure => simp [intOf]; omega
        · have E : B.take j = B := List.take_of_length_le (by omega)
          rw [E]
          clear E
          have B3 := Lib.hid (BWR.out _ B2.out)
          generalize inB x B = g at *
          cases g with
          | true =>
            have W2 := Lib.hid (WS.out rfl)
            clear WS WN
            go_wp2
            go_roundw
            case rel => exact ⟨k + 1, by omega, by go_num, W2.out, B3.out⟩
            case measure => simp [intOf]; omega
          | false =>
            have W2 := Lib.hid (WN.out rfl)
            clear WS WN
            go_wp2
            go_ret
            exact ⟨by rw [W2.out]; rfl, B3.out⟩
    · have E : A.take k = A := List.take_of_length_le (by omega)
      rw [E] at WW
      go_wp2
      go_ret
      exact ⟨by rw [WW.out]; rfl, BW.out⟩

end Go.Proofs.YtoipinnfmjaaaaaDoor.Fi
