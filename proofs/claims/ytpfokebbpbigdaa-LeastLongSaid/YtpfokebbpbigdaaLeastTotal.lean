/-
  Package least: total: how long the words of symbols are together. Condition: the list of symbols is within a machine's reach.
-/
import Derived.Test.YtpfokebbpbigdaaLeastAt
import Derived.Test.YtpfokebbpbigdaaGramKnown
namespace Go.Proofs.Ytpfokebbpbigdaa.Le
open Go.RowKit Go.Maps
open Go.Proofs.Ytpfokebbpbigdaa.Gr (Gram Is step boxed cell_later drawn ivs iv int_at int_of bool_of)
set_option linter.unusedVariables false

def TotRel (T : Int → Ans) (l : List Int) (W : World) (m i : Value) (w : World) : Prop :=
  ∃ k n : Nat, k ≤ l.length ∧ i = .int .i64 k ∧ m = .int .i64 n ∧ SumTo T l k n ∧ Below W.heap.size W w

theorem min_of (n m : Nat) : Value.int .i64 (if (4097 : Int) < (n : Int) + (m : Int) then 4097 else (n : Int) + (m : Int)) = .int .i64 ((min (n + m) 4097 : Nat) : Int) := by
  congr 1
  split <;> omega
set_option maxRecDepth 100000 in
set_option maxHeartbeats 4000000 in
theorem total_any (nl : Bool) (v : Value) (T : Int → Ans) (l : List Int) (a : Option Addr) (c : Nat) (w : World) (h : VAt nl v T w) (hR : Sep.Reads a (ivs l) w) (hl : l.length ≤ 17592186044416) :
    Calls Try.prog 26 #[v, .slice a l.length c] w (Is (.int .i64 (lenA (J T l) : Int)) w) := by
  have AT := Lib.hid (fun s w1 (b : Below w.heap.size w w1) => at_any nl v T s w1 (h.went b))
  have RR := Lib.hid (fun w1 (b : Below w.heap.size w w1) => Sep.Reads.below hR b (Nat.le_refl _))
  have TB := Lib.hid h.bnd
  have hfd := field_len
  clear h hR
  go_enter Try.func26, Try.ntmps26
  go_wp2
  go_loopw [5, 11] (fun m i wr => TotRel T l w m i wr) (fun _ i _ => l.length - (intOf i).toNat)
  case atStart => exact ⟨0, 0, Nat.zero_le _, rfl, rfl, sum_zero _ _, .refl _ _⟩
  case round =>
    obtain ⟨k, n, hk, rfl, rfl, hS, hb⟩ := hrel
    have S := Lib.hid hS
    have B := Lib.hid hb
    have hn := sum_le hS
    clear hS hb
    by_cases hlt : k < l.length
    · obtain ⟨b, o, rfl, hc⟩ := int_at (RR.out _ B.out) hlt
      have A1 := Lib.hid (AT.out l[k] _ B.out)
      by_cases hz : T l[k] = .none
      · have Z := Lib.hid (sum_none hlt hz)
        rw [hz] at A1
        clear hz
        generalize l[k] = s at *
        go_wp2_with (go_at_call 46; refine A1.out.mono ?_; rintro e w1 ⟨ad, cc, rfl, _, hb⟩; have B1 := Lib.hid (Gr.step B.out hb); clear hb)
        go_ret
        exact ⟨by rw [Z.out]; rfl, B1.out⟩
      · have S1 := Lib.hid (sum_step TB.out S.out hlt hz)
        have hle := lenA_le (TB.out l[k])
        have hne : lenA (T l[k]) ≠ 4098 := fun e => hz ((len_none (TB.out l[k])).1 e)
        clear hz
        generalize T l[k] = t at *
        generalize l[k] = s at *
        have hd : ((lenA t : Int) == 4098) = false := by rw [beq_eq_false_iff_ne]; omega
        go_wp2_with (go_at_call 46; refine A1.out.mono ?_; rintro e w1 ⟨ad, cc, rfl, _, hb⟩; have B1 := Lib.hid (Gr.step B.out hb); clear hb)
        go_roundw
        case rel => exact ⟨k + 1, min (n + lenA t) 4097, by omega, by go_num, min_of _ _, S1.out, B1.out⟩
        case measure => simp [intOf]; omega
    · have E := Lib.hid (sum_end S.out hlt)
      go_wp2
      go_ret
      exact ⟨int_of (congrArg _ E.out.symm), B.out⟩

end Go.Proofs.Ytpfokebbpbigdaa.Le
