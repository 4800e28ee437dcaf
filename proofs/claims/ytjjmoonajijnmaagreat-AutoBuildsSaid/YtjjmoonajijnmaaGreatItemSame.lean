/-
  The plain answers: Same: are two lists of items the same?
-/
import Derived.Test.YtjjmoonajijnmaaGreatItemLeaf
import Derived.Test.YtjjmoonajijnmaaGreatItemAt
namespace Go.Proofs.YtjjmoonajijnmaaGreat.Im
open Go.RowKit Go.Maps
open Go.Proofs.YtjjmoonajijnmaaGreat.Gr (boxed drawn cell_new cell_old cell_later bool_of)
set_option linter.unusedVariables false

/-- The same item? -/
def eqB (x y : Itm) : Bool := decide (x = y)
theorem eqB_iff {x y : Itm} : eqB x y = true ↔ x = y := decide_eq_true_iff
theorem fieldsI : Tryz.prog.underlying 41 = some (.struct (Tryz.prog.fieldsOf 41)) := by kernel_rfl
theorem equal_items (a b c d : Int) (w : World) : (Op.equalIn 10000 41 (.agg #[.int .i64 a, .int .i64 b]) (.agg #[.int .i64 c, .int .i64 d])).run Tryz.prog w = .ok (eqB (a, b) (c, d)) w := by
  unfold eqB
  rw [show (10000 : Nat) = 9999 + 1 from rfl, run_equalIn_agg w 9999 41 _ _ fieldsI Tryz.stoodInHeld41]
  have u3 := Tryz.underlying3
  have a3 := Tryz.isAgg3
  have z3 := Tryz.sizeOf3
  simp only [Program.fieldsOf, Tryz.underlying41]
  go_simp
  by_cases h1 : a = c <;> by_cases h2 : b = d <;> simp [h1, h2]
theorem eq_items (a b c d : Int) (w : World) : (binOp .eql 41 (.agg #[.int .i64 a, .int .i64 b]) (.agg #[.int .i64 c, .int .i64 d])).run Tryz.prog w = .ok (.bool (eqB (a, b) (c, d))) w := by
  rw [run_eql_struct, equal_items]
  rfl
theorem ne_items (a b c d : Int) (w : World) : (binOp .neq 41 (.agg #[.int .i64 a, .int .i64 b]) (.agg #[.int .i64 c, .int .i64 d])).run Tryz.prog w = .ok (.bool (!eqB (a, b) (c, d))) w := by
  rw [run_neq_struct, equal_items]
  rfl

/-- The first j are the same. -/
def SameTo (X Y : List Itm) (j : Nat) : Prop := ∀ i (h : i < X.length) (k : i < Y.length), i < j → X[i] = Y[i]
theorem same_all {X Y : List Itm} (hl : X.length = Y.length) (h : SameTo X Y X.length) : X = Y := List.ext_getElem hl fun i h1 h2 => h i h1 h2 h1

set_option maxRecDepth 100000 in
set_option maxHeartbeats 2000000 in
theorem rsame_any (X Y : List Itm) (a b : Option Addr) (c d : Nat) (w : World) (hX : ItsA a X w) (hY : ItsA b Y w) (hl : X.length ≤ 1000000) :
    Calls Tryz.prog 23 #[.slice a X.length c, .slice b Y.length d] w (Gr.Is (.bool (decide (X = Y))) w) := by
  by_cases hn : X.length = Y.length
  · have KX := Lib.hid (fun w1 (k : Below w.heap.size w w1) => hX.went k)
    have KY := Lib.hid (fun w1 (k : Below w.heap.size w w1) => hY.went k)
    clear hX hY
    have mixed : Tryz.prog.follows .mixedOrders = true := by kernel_rfl
    have hne := ne_items
    have hgd := Tryz.eqGuardType41
    go_enter Tryz.func23, Tryz.ntmps23
    go_wp2
    go_loopw [5] (fun i wr => ∃ j : Nat, i = .int .i64 j ∧ j ≤ X.length ∧ SameTo X Y j ∧ Below w.heap.size w wr) (fun i _ => X.length - (intOf i).toNat)
    case atStart => exact ⟨0, rfl, Nat.zero_le _, fun i _ _ h => by omega, .refl _ _⟩
    case round =>
      obtain ⟨j, rfl, hj, hS, hB⟩ := hrel
      have HS := Lib.hid hS
      clear hS
      by_cases hlt : j < X.length
      · have hlt' : j < Y.length := by omega
        obtain ⟨b1, o1, rfl, p0, p1⟩ := (KX.out wr hB).at j hlt
        obtain ⟨b2, o2, rfl, q0, q1⟩ := (KY.out wr hB).at j hlt'
        have HN := Lib.hid (fun (e : X[j] = Y[j]) i (h1 : i < X.length) (h2 : i < Y.length) (h3 : i < j + 1) => show X[i] = Y[i] from by
          by_cases e' : i = j
          · subst e'
            exact e
          · exact HS.out i h1 h2 (by omega))
        have HD := Lib.hid (fun (e : ¬ X[j] = Y[j]) (k : X = Y) => e (by simp only [k]))
        generalize X[j] = x at *
        generalize Y[j] = y at *
        obtain ⟨x0, x1⟩ := x
        obtain ⟨y0, y1⟩ := y
        dsimp only at p0 p1 q0 q1
        go_wp2
        go_quiet (fail)
        have hb2 : Below w.heap.size w (wr.drewN nq) := hB.trans ⟨rfl, rfl, rfl, Nat.le_refl _, fun _ _ => rfl⟩
        generalize wr.drewN nq = wn at hb2 ⊢
        clear p0 p1 q0 q1 hB hne
        generalize hbb : eqB (x0, x1) (y0, y1) = bb
        cases bb with
        | true =>
          have HS2 := Lib.hid (show SameTo X Y (j + 1) from HN.out (eqB_iff.1 hbb))
          clear hbb HN HD HS
          go_wp2
          go_roundw
          case rel => exact ⟨j + 1, by go_num, by omega, HS2.out, hb2⟩
          case measure => simp [intOf]; omega
        | false =>
          have HE := Lib.hid (HD.out (of_decide_eq_false hbb))
          clear hbb HN HD HS
          go_wp2
          go_ret
          exact ⟨bool_of (decide_eq_false HE.out), hb2⟩
      · have hE : j = X.length := by omega
        have HE := Lib.hid (show X = Y from same_all hn (by rw [← hE]; exact HS.out))
        go_wp2
        go_ret
        exact ⟨bool_of (decide_eq_true HE.out), hB⟩
  · have hne : ¬ X = Y := fun e => hn (by rw [e])
    clear hX hY
    go_enter Tryz.func23, Tryz.ntmps23
    go_wp2
    go_ret
    exact ⟨bool_of (decide_eq_false hne), .refl _ _⟩

end Go.Proofs.YtjjmoonajijnmaaGreat.Im
