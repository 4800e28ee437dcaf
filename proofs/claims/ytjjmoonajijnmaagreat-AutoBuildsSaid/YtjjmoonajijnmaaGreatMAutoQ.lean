/-
  The plain answers of layer 13: Same of two automata that are the same.
  The plain answers of layer 13: Find; Same of two automata that are the same.
-/
import Derived.Test.YtjjmoonajijnmaaGreatMAutoF
namespace Go.Proofs.YtjjmoonajijnmaaGreat.Au
open Go.RowKit Go.Maps
open Go.Proofs.YtjjmoonajijnmaaGreat.Gr (boxed drawn cell_new cell_old cell_later bool_of int_of ivs)
open Go.Proofs.YtjjmoonajijnmaaGreat.Im
set_option linter.unusedVariables false

set_option maxRecDepth 100000 in
set_option maxHeartbeats 2000000 in
theorem rfind_any (X : List Sta) (K : List Itm) (a b : Option Addr) (c d : Nat) (w : World) (hX : StaA a X w) (sm : Small X) (hK : ItsA b K w) :
    Calls Tryz.prog 22 #[.slice a X.length c, .slice b K.length d] w (Gr.Is (.int .i64 (findS X K)) w) := by
  have HX := Lib.hid (fun w1 (b : Below w.heap.size w w1) => hX.went b)
  have HK := Lib.hid (fun w1 (b : Below w.heap.size w w1) => hK.went b)
  have SM := Lib.hid sm
  have hl := sm.len
  clear hX hK sm
  go_enter Tryz.func22, Tryz.ntmps22
  go_wp2
  go_loopw [5] (fun i wr => ∃ j : Nat, j ≤ X.length ∧ i = .int .i64 j ∧ NoneK X K j ∧ Below w.heap.size w wr) (fun i _ => X.length - (intOf i).toNat)
  case atStart => exact ⟨0, Nat.zero_le _, rfl, noneK_zero _ _, .refl _ _⟩
  case round =>
    obtain ⟨j, hj, rfl, hN, hW⟩ := hrel
    have N := Lib.hid hN
    have HW := Lib.hid hW
    clear hN
    by_cases hlt : j < X.length
    · obtain ⟨b0, o0, a1, c1, a2, c2, rfl, z1, z2, i1, i2, l1, l2⟩ := HX.out wr hW j hlt
      have hs := SM.out.items _ (List.getElem_mem hlt)
      have NS := Lib.hid (fun e => noneK_step N.out hlt e)
      have NH := Lib.hid (fun e => findS_hit N.out hlt e)
      have CL := Lib.hid (rsame_any X[j].1 K a1 b c1 d wr i1 (HK.out wr hW) hs)
      generalize X[j] = s at *
      clear hW i1 i2 l1 l2 hs
      by_cases he : s.1 = K
      · have E := Lib.hid (NH.out he)
        rw [decide_eq_true he] at CL
        clear NS NH he
        go_wp2_with (go_at_call 23; refine CL.out.mono ?_; rintro e w1 ⟨rfl, hb⟩; have HB := Lib.hid (Gr.step HW.out hb); clear hb)
        go_ret
        exact ⟨int_of E.out, HB.out⟩
      · have E := Lib.hid (NS.out he)
        rw [decide_eq_false he] at CL
        clear NS NH he
        go_wp2_with (go_at_call 23; refine CL.out.mono ?_; rintro e w1 ⟨rfl, hb⟩; have HB := Lib.hid (Gr.step HW.out hb); clear hb)
        go_roundw
        case rel => exact ⟨j + 1, by omega, by go_num, E.out, HB.out⟩
        case measure => simp [intOf]; omega
    · have E := Lib.hid (findS_end N.out hlt)
      clear hW
      go_wp2
      go_ret
      exact ⟨int_of E.out, HW.out⟩

end Go.Proofs.YtjjmoonajijnmaaGreat.Au

namespace Go.Proofs.YtjjmoonajijnmaaGreat.Au
open Go.RowKit Go.Maps
open Go.Proofs.YtjjmoonajijnmaaGreat.Gr (boxed drawn cell_new cell_old cell_later bool_of int_of ivs)
open Go.Proofs.YtjjmoonajijnmaaGreat.Im
set_option linter.unusedVariables false

theorem fieldsT : Tryz.prog.underlying 59 = some (.struct (Tryz.prog.fieldsOf 59)) := by kernel_rfl
theorem equal_trans (a b c d : Int) (w : World) : (Op.equalIn 10000 59 (.agg #[.int .i64 a, .int .i64 b]) (.agg #[.int .i64 c, .int .i64 d])).run Tryz.prog w = .ok (eqB (a, b) (c, d)) w := by
  unfold eqB
  rw [show (10000 : Nat) = 9999 + 1 from rfl, run_equalIn_agg w 9999 59 _ _ fieldsT Tryz.stoodInHeld59]
  have u3 := Tryz.underlying3
  have a3 := Tryz.isAgg3
  have z3 := Tryz.sizeOf3
  simp only [Program.fieldsOf, Tryz.underlying59]
  go_simp
  by_cases h1 : a = c <;> by_cases h2 : b = d <;> simp [h1, h2]
theorem ne_trans (a b c d : Int) (w : World) : (binOp .neq 59 (.agg #[.int .i64 a, .int .i64 b]) (.agg #[.int .i64 c, .int .i64 d])).run Tryz.prog w = .ok (.bool (!eqB (a, b) (c, d))) w := by
  rw [run_neq_struct, equal_trans]
  rfl
/-- A state's two cells. -/
theorem st_at {b o : Nat} {X : List Sta} {w : World} (h : StaA (some ⟨b, o, none⟩) X w) {i : Nat} (hi : i < X.length) :
    ∃ a1 c1 a2 c2, w.cell? ⟨b, o + i * 2, none⟩ = some (.slice a1 X[i].1.length c1) ∧ w.cell? ⟨b, o + i * 2 + 1, none⟩ = some (.slice a2 X[i].2.length c2) ∧ ItsA a1 X[i].1 w ∧ ItsA a2 X[i].2 w := by
  obtain ⟨b', o', a1, c1, a2, c2, e, h1, h2, h3, h4, _, _⟩ := h i hi
  simp only [Option.some.injEq, Addr.mk.injEq, and_true] at e
  obtain ⟨rfl, rfl⟩ := e
  exact ⟨a1, c1, a2, c2, h1, h2, h3, h4⟩

set_option maxRecDepth 100000 in
set_option maxHeartbeats 4000000 in
theorem rsame13_any (X : List Sta) (a b : Option Addr) (c d : Nat) (w : World) (hX : StaA a X w) (hY : StaA b X w) (sm : Small X) :
    Calls Tryz.prog 8 #[.slice a X.length c, .slice b X.length d] w (Gr.Is (.bool true) w) := by
  have HX := Lib.hid (fun w1 (b : Below w.heap.size w w1) => hX.went b)
  have HY := Lib.hid (fun w1 (b : Below w.heap.size w w1) => hY.went b)
  have SM := Lib.hid sm
  have hl := sm.len
  have mixed : Tryz.prog.follows .mixedOrders = true := by kernel_rfl
  have hgd := Tryz.eqGuardType59
  clear hX hY sm
  go_enter Tryz.func8, Tryz.ntmps8
  go_wp2
  go_loopw [5, 6] (fun i _ wr => ∃ n : Nat, i = .int .i64 n ∧ n ≤ X.length ∧ Below w.heap.size w wr) (fun i _ _ => X.length - (intOf i).toNat)
  case atStart => exact ⟨0, rfl, Nat.zero_le _, .refl _ _⟩
  case round =>
    obtain ⟨i, rfl, hi, hW⟩ := hrel
    have HW := Lib.hid hW
    clear hW
    by_cases hil : i < X.length
    · obtain ⟨b0, o0, _, _, _, _, ea, _⟩ := HX.out wr HW.out i hil
      subst ea
      obtain ⟨b1, o1, _, _, _, _, eb, _⟩ := HY.out wr HW.out i hil
      subst eb
      obtain ⟨a1, c1, a2, c2, v1, v2, v3, v4⟩ := st_at (HX.out wr HW.out) hil
      obtain ⟨d1, e1, d2, e2, u1, u2, u3, u4⟩ := st_at (HY.out wr HW.out) hil
      have SA := Lib.hid (fun w1 (k : Below wr.heap.size wr w1) => (show Calls Tryz.prog 23 #[.slice a1 X[i].1.length c1, .slice d1 X[i].1.length e1] w1 (Gr.Is (.bool true) w1) from by
        have := rsame_any X[i].1 X[i].1 a1 d1 c1 e1 w1 (v3.went k) (u3.went k) (SM.out.items _ (List.getElem_mem hil))
        rw [decide_eq_true rfl] at this
        exact this))
      have T1 := Lib.hid (fun w1 (k : Below wr.heap.size wr w1) => v4.went k)
      have T2 := Lib.hid (fun w1 (k : Below wr.heap.size wr w1) => u4.went k)
      have HQ := Lib.hid (fun w' (k : Below wr.heap.size wr w') => (show w'.cell? ⟨b0, o0 + i * 2, none⟩ = some (.slice a1 X[i].1.length c1) ∧ w'.cell? ⟨b0, o0 + i * 2 + 1, none⟩ = some (.slice a2 X[i].2.length c2) ∧ w'.cell? ⟨b1, o1 + i * 2, none⟩ = some (.slice d1 X[i].1.length e1) ∧ w'.cell? ⟨b1, o1 + i * 2 + 1, none⟩ = some (.slice d2 X[i].2.length e2) from ⟨cell_later k v1, cell_later k v2, cell_later k u1, cell_later k u2⟩))
      have htr := SM.out.trans _ (List.getElem_mem hil)
      have kA := drawn wr
      clear v1 v2 v3 v4 u1 u2 u3 u4
      generalize X[i].1 = its at *
      generalize X[i].2 = tr at *
      go_wp2_with fail
      go_region_held3 (fun w' => w'.cell? ⟨b0, o0 + i * 2, none⟩ = some (.slice a1 its.length c1) ∧ w'.cell? ⟨b0, o0 + i * 2 + 1, none⟩ = some (.slice a2 tr.length c2) ∧ w'.cell? ⟨b1, o1 + i * 2, none⟩ = some (.slice d1 its.length e1) ∧ w'.cell? ⟨b1, o1 + i * 2 + 1, none⟩ = some (.slice d2 tr.length e2))
        (exact HQ.out _ (by assumption))
        (first
          | (go_at_call 23; refine (SA.out _ kA).mono ?_; rintro e w3 ⟨rfl, hb⟩; have k3 : Below wr.heap.size wr w3 := Gr.step kA hb; clear hb)
          | fail)
      go_wp2_with fail
      go_loopw [6] (fun q wx => ∃ j : Nat, q = .int .i64 j ∧ j ≤ tr.length ∧ Below wr.heap.size wr wx) (fun q _ => tr.length - (intOf q).toNat)
      case atStart => exact ⟨0, rfl, Nat.zero_le _, k3⟩
      case round =>
        obtain ⟨j, rfl, hj, hB⟩ := hrel
        have B := Lib.hid hB
        obtain ⟨q1, q2, q3, q4⟩ := HQ.out wr hB
        clear hB k3
        by_cases hjl : j < tr.length
        · obtain ⟨b2, o2, ea2, p0, p1⟩ := (T1.out wr B.out).at j hjl
          obtain ⟨b3, o3, ea3, r0, r1⟩ := (T2.out wr B.out).at j hjl
          subst ea2 ea3
          generalize tr[j] = x at *
          obtain ⟨x0, x1⟩ := x
          dsimp only at p0 p1 r0 r1
          have hne := ne_trans
          have hself : eqB (x0, x1) (x0, x1) = true := decide_eq_true rfl
          go_wp2
          go_quiet (fail)
          have hb2 := Lib.hid (Gr.step B.out (⟨rfl, rfl, rfl, Nat.le_refl _, fun _ _ => rfl⟩ : Below wr.heap.size wr (wr.drewN nq)))
          generalize wr.drewN nq = wn at hb2 ⊢
          clear hne
          go_wp2
          go_roundw
          case rel => exact ⟨j + 1, by go_num, by omega, hb2.out⟩
          case measure => simp [intOf]; omega
        · have hE : j = tr.length := by omega
          go_wp2
          go_roundw
          case rel => exact ⟨i + 1, by go_num, by omega, Gr.step HW.out B.out⟩
          case measure => simp [intOf]; omega
    · have hE : i = X.length := by omega
      subst hE
      go_wp2
      go_ret
      exact ⟨rfl, HW.out⟩

end Go.Proofs.YtjjmoonajijnmaaGreat.Au
