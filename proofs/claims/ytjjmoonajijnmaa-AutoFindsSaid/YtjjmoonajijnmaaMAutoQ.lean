/-
  The plain answers of layer 13: Find; Same of two automata that are the same.
-/
import Derived.Test.YtjjmoonajijnmaaMAutoF
namespace Go.Proofs.Ytjjmoonajijnmaa.Au
open Go.RowKit Go.Maps
open Go.Proofs.Ytjjmoonajijnmaa.Gr (boxed drawn cell_new cell_old cell_later bool_of int_of ivs)
open Go.Proofs.Ytjjmoonajijnmaa.Im
set_option linter.unusedVariables false

set_option maxRecDepth 100000 in
set_option maxHeartbeats 2000000 in
theorem rfind_any (X : List Sta) (K : List Itm) (a b : Option Addr) (c d : Nat) (w : World) (hX : StaA a X w) (sm : Small X) (hK : ItsA b K w) :
    Calls Try.prog 8 #[.slice a X.length c, .slice b K.length d] w (Gr.Is (.int .i64 (findS X K)) w) := by
  have HX := Lib.hid (fun w1 (b : Below w.heap.size w w1) => hX.went b)
  have HK := Lib.hid (fun w1 (b : Below w.heap.size w w1) => hK.went b)
  have SM := Lib.hid sm
  have hl := sm.len
  clear hX hK sm
  go_enter Try.func8, Try.ntmps8
  go_wp2
  go_loopw [5] (fun i wr => ∃ j : Nat, j ≤ X.length ∧ i = .int .i64 j ∧ NoneK X K j ∧ Below w.heap.size w wr) (fun i _ => X.length - (intOf i).toNat)
  case atStart => exact ⟨0, Nat.zero_le _, rfl, noneK_zero _ _, .refl _ _⟩
  case round =>
    obtain ⟨j, hj, rfl, hN, hW⟩ := hrel
    have N := Lib.hid hN
    have HW := Lib.hid hW
    clear hN
    by_cases hlt : j < X.length
    · obtain ⟨b0, o0, a1, c1, a2, c2, rfl, z1, z2, i1, i2, l1, l2⟩ := HX.out wr hW j hlt
      have hs := SM.out.items _ (List.getElem_mem hlt)
      have NS := Lib.hid (fun e => noneK_step N.out hlt e)
      have NH := Lib.hid (fun e => findS_hit N.out hlt e)
      have CL := Lib.hid (rsame_any X[j].1 K a1 b c1 d wr i1 (HK.out wr hW) hs)
      generalize X[j] = s at *
      clear hW i1 i2 l1 l2 hs
      by_cases he : s.1 = K
      · have E := Lib.hid (NH.out he)
        rw [decide_eq_true he] at CL
        clear NS NH he
        go_wp2_with (go_at_call 22; refine CL.out.mono ?_; rintro e w1 ⟨rfl, hb⟩; have HB := Lib.hid (Gr.step HW.out hb); clear hb)
        go_ret
        exact ⟨int_of E.out, HB.out⟩
      · have E := Lib.hid (NS.out he)
        rw [decide_eq_false he] at CL
        clear NS NH he
        go_wp2_with (go_at_call 22; refine CL.out.mono ?_; rintro e w1 ⟨rfl, hb⟩; have HB := Lib.hid (Gr.step HW.out hb); clear hb)
        go_roundw
        case rel => exact ⟨j + 1, by omega, by go_num, E.out, HB.out⟩
        case measure => simp [intOf]; omega
    · have E := Lib.hid (findS_end N.out hlt)
      clear hW
      go_wp2
      go_ret
      exact ⟨int_of E.out, HW.out⟩

end Go.Proofs.Ytjjmoonajijnmaa.Au
